/- l04Ok and ValidCoupled of the specification. Conditions: none. -/
import Derived.Test.YtcijggfbfpfcdaaVcS
namespace Go.Proofs.Ytcijggfbfpfcdaa
open Go.RowKit Go.Deep
set_option linter.unusedVariables false

theorem l01Ok_q (b : Nat) (c : Ch) (w : World) (k : Nat) (hv : ChP w b c) : Calls Try.prog 30 #[.pointer (some ⟨b, 0, none⟩)] (w.drewN k) fun e w'' => e = .returned (.bool (chOk c)) ∧ ∃ m, w'' = w.drewN m :=
  (l01Ok_any b c _ (hv.keep (below_drewN (Below.refl _ _) k))).mono fun _ _ ⟨he, m, hm⟩ => ⟨he, k + m, by rw [hm, World.drewN_drewN]⟩
def rowGood (c m : Ch) (N : Nat) (M : Int) (i : Nat) : Bool := okRow M m.t (m.w.getD i []) && pairLike c m N i
theorem coOk_rows {c m : Ch} {N : Nat} (oc : chOk c = true) (hcn : c.n = N) (h4 : c.n ≤ 4) (hn : m.n = c.n) (ht : inB m.t 1 3600 = true) (hl : (m.w.length : Int) = c.n * c.n) :
    coOk c m = (List.range m.w.length).all fun i => rowGood c m N (c.n * c.n) i := by
  unfold coOk
  rw [oc, decide_eq_true h4, decide_eq_true hn, ht, decide_eq_true hl]
  simp only [Bool.true_and]
  rw [Bool.eq_iff_iff, Bool.and_eq_true, List.all_eq_true, List.all_eq_true, List.all_eq_true]
  have e : c.n.toNat = N := by omega
  constructor
  · rintro ⟨h1, h2⟩ i hi
    unfold rowGood pairLike
    have h3 := h2 i hi
    rw [e] at h3
    rw [h3, h1 _ (getD_mem (by simpa using hi))]
    rfl
  · intro h
    refine ⟨fun row hr => ?_, fun i hi => ?_⟩
    · obtain ⟨k, hk, rfl⟩ := List.mem_iff_getElem.1 hr
      have := h k (by simpa using hk)
      unfold rowGood at this
      rw [Bool.and_eq_true] at this
      have h1 := this.1
      simpa [List.getD, hk] using h1
    · have := h i hi
      unfold rowGood pairLike at this
      rw [Bool.and_eq_true] at this
      rw [e]
      exact this.2

set_option maxRecDepth 100000 in
set_option maxHeartbeats 8000000 in
theorem l04Ok_any (bc bm : Nat) (c m : Ch) (w : World) (hc : ChP w bc c) (hm : ChP w bm m) :
    Calls Try.prog 22 #[.pointer (some ⟨bc, 0, none⟩), .pointer (some ⟨bm, 0, none⟩)] w fun e w' => e = .returned (.bool (coOk c m)) ∧ ∃ k, w' = w.drewN k := by
  have hP := Lib.hid (fun k => l01Ok_q bc c w k hc)
  have hq := Lib.hid (show ∀ k, ChP (w.drewN k) bc c ∧ ChP (w.drewN k) bm m from fun k => ⟨hc.keep (below_drewN (Below.refl _ _) k), hm.keep (below_drewN (Below.refl _ _) k)⟩)
  obtain ⟨cv, c0, c1, c2, Rc⟩ := hc
  obtain ⟨mv, d0, d1, d2, Rm⟩ := hm
  obtain ⟨-, ca, ccap, rfl⟩ := Rc.len
  obtain ⟨hml, ma, mcap, rfl⟩ := Rm.len
  unfold maxLen at hml
  go_enter Try.func22, Try.ntmps22
  go_wp2_with fail
  go_quiet (fail)
  have k0 : (w.drewN nq).cell? ⟨bc, 0, none⟩ = some (.int .i64 c.n) := c0
  have k1 : (w.drewN nq).cell? ⟨bm, 0, none⟩ = some (.int .i64 m.n) := d0
  have k2 : (w.drewN nq).cell? ⟨bm, 1, none⟩ = some (.int .i64 m.t) := d1
  have k3 : (w.drewN nq).cell? ⟨bm, 2, none⟩ = some (.slice ma m.w.length mcap) := d2
  have hPW := Lib.hid (fun j => l01Ok_q bc c (w.drewN nq) j (hq.out nq).1)
  have Rm1 := Rm.keep (below_drewN (Below.refl _ w) nq)
  obtain ⟨W1, hW1⟩ : ∃ u, w.drewN nq = u := ⟨_, rfl⟩
  have hz : ∃ k, W1 = w.drewN k := ⟨nq, hW1.symm⟩
  have hq1 := Lib.hid (show ∀ k, ChP (W1.drewN k) bc c ∧ ChP (W1.drewN k) bm m from fun k => by rw [← hW1, World.drewN_drewN]; exact hq.out _)
  rw [hW1] at k0 k1 k2 k3 hPW Rm1 ⊢
  clear hW1 c0 c1 c2 d0 d1 d2 hP hq Rm Rc
  rcases oc : chOk c with _ | _
  · rw [oc] at hPW
    have hr := Lib.hid (show coOk c m = false by unfold coOk; rw [oc]; rfl)
    clear oc
    go_wp2_with fail
    go_quiet ((first | (go_at_call 30; exact hPW.out _) | (go_at_call 14; exact l00In_q _ _ _ _ _)))
    go_wp2
    go_ret
    exact ⟨ret_bool hr.out.symm, by obtain ⟨k, rfl⟩ := hz; exact ⟨_, World.drewN_drewN ..⟩⟩
  rw [oc] at hPW
  obtain ⟨n1, n2, t1, t2, hlen, -⟩ := chOk_all oc
  by_cases h4 : c.n ≤ 4
  rotate_left
  · have hr := Lib.hid (show coOk c m = false by unfold coOk; rw [decide_eq_false h4]; simp)
    have h4' : 4 < c.n := by omega
    clear oc h4 hlen
    go_wp2_with fail
    go_quiet ((first | (go_at_call 30; exact hPW.out _) | (go_at_call 14; exact l00In_q _ _ _ _ _)))
    go_wp2
    go_ret
    exact ⟨ret_bool hr.out.symm, by obtain ⟨k, rfl⟩ := hz; exact ⟨_, World.drewN_drewN ..⟩⟩
  by_cases hn : m.n = c.n
  rotate_left
  · have hr := Lib.hid (show coOk c m = false by unfold coOk; rw [decide_eq_false hn]; simp)
    have hne : (m.n != c.n) = true := by simpa using hn
    have h4f : decide ((4 : Int) < c.n) = false := decide_eq_false (by omega)
    clear oc hn hlen
    go_wp2_with fail
    go_quiet ((first | (go_at_call 30; exact hPW.out _) | (go_at_call 14; exact l00In_q _ _ _ _ _)))
    go_wp2
    go_ret
    exact ⟨ret_bool hr.out.symm, by obtain ⟨k, rfl⟩ := hz; exact ⟨_, World.drewN_drewN ..⟩⟩
  have hne : (m.n != c.n) = false := by simpa using hn
  obtain ⟨N, hN⟩ : ∃ N, c.w.length = N := ⟨_, rfl⟩
  have hcN : c.n = (N : Int) := by omega
  have hmN : m.n = (N : Int) := by omega
  obtain ⟨M, hM⟩ : ∃ M, N * N = M := ⟨_, rfl⟩
  have hsq : (N : Int) * (N : Int) = (M : Int) := by rw [← hM, Int.natCast_mul]
  have hN4 : N ≤ 4 := by omega
  have hM16 : M ≤ 16 := by rw [← hM]; exact Nat.mul_le_mul hN4 hN4
  have hM0 : 0 < M := by rw [← hM]; exact Nat.mul_pos (by omega) (by omega)
  have h4f : decide ((4 : Int) < (N : Int)) = false := decide_eq_false (by omega)
  rw [hcN] at hne k0
  have hw64 : wrap64 ((N : Int) * (N : Int)) = (M : Int) := by rw [hsq]; unfold wrap64; omega
  rw [hmN] at hne k1 ⊢
  rw [hw64]
  clear hw64
  rcases ht : inB m.t 1 3600 with _ | _
  · have hr := Lib.hid (show coOk c m = false by unfold coOk; rw [ht]; simp)
    have hht := ht
    generalize m.t = mt at *
    clear oc hn hlen hcN hmN hN hM h4 n1 n2
    go_wp2_with fail
    go_quiet ((first | (go_at_call 30; exact hPW.out _) | (go_at_call 14; exact l00In_q _ _ _ _ _)))
    go_wp2
    go_ret
    exact ⟨ret_bool hr.out.symm, by obtain ⟨k, rfl⟩ := hz; exact ⟨_, World.drewN_drewN ..⟩⟩
  by_cases hl : (m.w.length : Int) = (M : Int)
  rotate_left
  · have hr := Lib.hid (show coOk c m = false by unfold coOk; rw [decide_eq_false (show ¬ ((m.w.length : Int) = c.n * c.n) by rw [hcN, hsq]; exact hl)]; simp)
    have hle : ((m.w.length : Int) != (M : Int)) = true := by simpa using hl
    have hht := ht
    generalize m.t = mt at *
    clear oc hn hlen hcN hmN hN hM h4 n1 n2 hl
    go_wp2_with fail
    go_quiet ((first | (go_at_call 30; exact hPW.out _) | (go_at_call 14; exact l00In_q _ _ _ _ _)))
    go_wp2
    go_ret
    exact ⟨ret_bool hr.out.symm, by obtain ⟨k, rfl⟩ := hz; exact ⟨_, World.drewN_drewN ..⟩⟩
  have hle : ((m.w.length : Int) != (M : Int)) = false := by simpa using hl
  have hMl : m.w.length = M := by omega
  obtain ⟨tb1, tb2⟩ := inB_iff.1 ht
  have hdef := Lib.hid (show coOk c m = (List.range M).all fun i => rowGood c m N (M : Int) i by rw [coOk_rows oc hcN h4 hn ht (by rw [hcN, hsq]; exact hl), hcN, hsq, hMl])
  have hmgL := Lib.hid (fun (row : List Int) (v : Value) (s j : Nat) (hv : Ints (W1.drewN j) v row) (hrl : row.length = M) (hbd : ∀ y ∈ row, 0 ≤ y ∧ y ≤ 3600) (hs : s < N) => marginalL_any bc bm c m v row N s (W1.drewN j) (hq1.out j).1 (hq1.out j).2 hv oc hN (by omega) hN4 (by omega) hbd hs tb1 tb2)
  have hmgR := Lib.hid (fun (row : List Int) (v : Value) (s j : Nat) (hv : Ints (W1.drewN j) v row) (hrl : row.length = M) (hbd : ∀ y ∈ row, 0 ≤ y ∧ y ≤ 3600) (hs : s < N) => marginalR_any bc bm c m v row N s (W1.drewN j) (hq1.out j).1 (hq1.out j).2 hv oc hN (by omega) hN4 (by omega) hbd hs tb1 tb2)
  have hMh := Lib.hid hM
  obtain ⟨gb, goff, gcap, rv, hvv, -, hcl⟩ := Rm1.at (by omega)
  rw [hMl] at hvv hle k3
  simp only [Value.slice.injEq] at hvv
  obtain ⟨rfl, -, rfl⟩ := hvv
  have hCL := Lib.hid (show ∀ i, i < M → W1.cell? ⟨gb, goff + i, none⟩ = some (rv i) ∧ Ints W1 (rv i) (m.w.getD i []) from fun i hi => hcl i (by omega))
  have hN0 : (0 : Int) < (N : Int) := by omega
  have hht := ht
  clear oc hn hlen hcN hmN hM h4 n1 n2 hl hMl hcl Rm1 hN hml hsq ht
  generalize hmt : m.t = mt at k2 tb1 tb2 hht
  have hmth := Lib.hid hmt
  clear hmt
  go_wp2_with fail
  go_quiet ((first | (go_at_call 30; exact hPW.out _) | (go_at_call 14; exact l00In_q _ _ _ _ _)))
  rw [hht]
  clear hht
  go_wp2
  go_loopw [6] (fun i wr => ∃ k : Nat, k ≤ M ∧ i = .int .i64 k ∧ Hid (∃ j, wr = W1.drewN j) ∧ Hid ((List.range k).all (fun i => rowGood c m N (M : Int) i) = true)) (fun i _ => M - (intOf i).toNat)
  case atStart => exact ⟨0, Nat.zero_le _, rfl, ⟨_, rfl⟩, show _ = _ by simp⟩
  case round =>
    obtain ⟨wo, hwo⟩ : ∃ wo : World, wo = wr := ⟨_, rfl⟩
    subst hwo
    obtain ⟨k, hk, rfl, hw, hall⟩ := hrel
    have l0 : wo.cell? ⟨bc, 0, none⟩ = some (.int .i64 (N : Int)) := by obtain ⟨j, rfl⟩ := hw.out; exact k0
    have l2 : wo.cell? ⟨bm, 1, none⟩ = some (.int .i64 mt) := by obtain ⟨j, rfl⟩ := hw.out; exact k2
    have l3 : wo.cell? ⟨bm, 2, none⟩ = some (.slice (some ⟨gb, goff, none⟩) M mcap) := by obtain ⟨j, rfl⟩ := hw.out; exact k3
    by_cases hlt : k < M
    · have i1 : (k : Int) < (M : Int) := by omega
      obtain ⟨e1, e2⟩ := hCL.out k hlt
      have hcell : wo.cell? ⟨gb, goff + k, none⟩ = some (rv k) := by obtain ⟨j, rfl⟩ := hw.out; exact e1
      have hrow : Ints wo (rv k) (m.w.getD k []) := by obtain ⟨j, rfl⟩ := hw.out; exact e2.keep (below_drewN (Below.refl _ _) j)
      have hrow1 : Ints W1 (rv k) (m.w.getD k []) := e2
      clear e1 e2
      have hyes := Lib.hid (fun h => rngAll_succ (f := fun i => rowGood c m N (M : Int) i) hall.out (k := k) h)
      have hno := Lib.hid (fun h => hdef.out.trans (rngAll_no (f := fun i => rowGood c m N (M : Int) i) hlt h))
      have hgood := Lib.hid (show rowGood c m N (M : Int) k = (okRow (M : Int) mt (m.w.getD k []) && (like c (k / N) (margL (m.w.getD k []) N) mt && like c (k % N) (margR (m.w.getD k []) N) mt)) by unfold rowGood pairLike; rw [hmth.out])
      generalize rv k = rk at hcell hrow hrow1
      generalize m.w.getD k [] = row at hrow hrow1 hgood
      obtain ⟨hrm, ra, rcap, rfl⟩ := hrow.len
      unfold maxLen at hrm
      by_cases hq : (row.length : Int) = (M : Int)
      rotate_left
      · have hq' : ((row.length : Int) != (M : Int)) = true := by simpa using hq
        have hfin := Lib.hid (hno.out (by rw [hgood.out]; simp [okRow, hq]))
        clear hq
        go_wp2
        go_ret
        exact ⟨ret_bool hfin.out.symm, drawn_trans hz hw.out⟩
      · have hq' : ((row.length : Int) != (M : Int)) = false := by simpa using hq
        have hrl : row.length = M := by omega
        have hokr := Lib.hid (show okRow (M : Int) mt row = (row.all (fun x => inB x 0 mt) && decide (row.sum = mt)) by simp [okRow, hq])
        clear hq
        obtain ⟨P, hP⟩ : ∃ P, k / N = P := ⟨_, rfl⟩
        obtain ⟨Qm, hQ⟩ : ∃ P, k % N = P := ⟨_, rfl⟩
        have hMM := hMh.out
        have hPN : P < N := by rw [← hP]; exact Nat.div_lt_of_lt_mul (by rw [hMM]; exact hlt)
        have hQN : Qm < N := by rw [← hQ]; exact Nat.mod_lt _ (by omega)
        have hdv := Lib.hid (show (k : Int).tdiv (N : Int) = (P : Int) by rw [Int.tdiv_eq_ediv_of_nonneg (by omega), ← hP]; rfl)
        have hmd := Lib.hid (show (k : Int).tmod (N : Int) = (Qm : Int) by rw [Int.tmod_eq_emod_of_nonneg (by omega), ← hQ]; rfl)
        rw [hP, hQ] at hgood
        clear hP hQ hMM
        obtain ⟨rb, ro, rcp, hrv, -, hcr⟩ := hrow1.at (by omega)
        simp only [Value.slice.injEq] at hrv
        obtain ⟨rfl, -, rfl⟩ := hrv
        have hCR := Lib.hid hcr
        clear hcr
        go_wp2
        go_loopw [8, 9] (fun s j wr => ∃ (k2 : Nat) (S : Int), k2 ≤ M ∧ j = .int .i64 k2 ∧ s = .int .i64 S ∧ 0 ≤ S ∧ S ≤ 3600 * (k2 : Int) ∧ Hid (S = (row.take k2).sum) ∧ Hid (∃ j, wr = W1.drewN j) ∧ Hid ((row.take k2).all (fun x => inB x 0 mt) = true)) (fun _ j _ => M - (intOf j).toNat)
        case atStart => exact ⟨0, 0, Nat.zero_le _, rfl, rfl, by omega, by omega, show _ = _ by simp, hw, show _ = _ by simp⟩
        case round =>
          obtain ⟨k2', S, hk2, rfl, rfl, hS0, hS1, hS, hwi, hal⟩ := hrel
          have z0 : wr.cell? ⟨bc, 0, none⟩ = some (.int .i64 (N : Int)) := by obtain ⟨j, rfl⟩ := hwi.out; exact k0
          have z2 : wr.cell? ⟨bm, 1, none⟩ = some (.int .i64 mt) := by obtain ⟨j, rfl⟩ := hwi.out; exact k2
          clear l0 l2 l3 hcell
          by_cases hlt2 : k2' < M
          · have i2 : (k2' : Int) < (M : Int) := by omega
            have i3 : (k2' : Int) < (row.length : Int) := by omega
            have hx0 := hCR.out k2' (by omega)
            have hx : wr.cell? ⟨rb, ro + k2', none⟩ = some (.int .i64 (row.getD k2' 0)) := by obtain ⟨j, rfl⟩ := hwi.out; exact hx0
            clear hx0
            have hs1 := Lib.hid (sum_take_succ row k2' (by omega))
            have hts2 := Lib.hid (all_take_succ (fun x => inB x 0 mt) row 0 k2' (by omega))
            have hfs2 := Lib.hid (all_false_of (fun x => inB x 0 mt) row 0 k2' (by omega))
            generalize row.getD k2' 0 = x at hx hs1 hts2 hfs2
            rcases hin : inB x 0 mt with _ | _
            · have hfin := Lib.hid (hno.out (by rw [hgood.out, hokr.out, hfs2.out hin]; rfl))
              go_wp2
              go_quiet ((go_at_call 14; exact l00In_q _ _ _ _ _))
              go_wp2
              go_ret
              exact ⟨ret_bool hfin.out.symm, drawn_more (drawn_trans hz hwi.out) _⟩
            · have hn2 := Lib.hid (show (row.take (k2' + 1)).all (fun x => inB x 0 mt) = true by rw [hts2.out, hal.out, hin]; rfl)
              obtain ⟨x0, x1⟩ := inB_iff.1 hin
              have hsn := Lib.hid (show S + x = (row.take (k2' + 1)).sum by rw [hs1.out, hS.out])
              go_wp2
              go_quiet ((go_at_call 14; exact l00In_q _ _ _ _ _))
              go_wp2
              go_roundw
              case rel => exact ⟨k2' + 1, S + x, by omega, by go_num, rfl, by omega, by omega, hsn, drawn_more hwi.out _, hn2⟩
              case measure => simp [intOf]; omega
          · obtain rfl : k2' = M := by omega
            have hall2 : row.all (fun x => inB x 0 mt) = true := by have := hal.out; rw [← hrl, List.take_length] at this; exact this
            have hsum : S = row.sum := by have := hS.out; rw [← hrl, List.take_length] at this; exact this
            have hbd : ∀ y ∈ row, 0 ≤ y ∧ y ≤ 3600 := fun y hy => by
              rw [List.all_eq_true] at hall2
              have := inB_iff.1 (hall2 y hy)
              omega
            by_cases hSt : S = mt
            rotate_left
            · have hne2 : (S != mt) = true := by simpa using hSt
              have hfin := Lib.hid (hno.out (by rw [hgood.out, hokr.out, hall2, ← hsum, decide_eq_false hSt]; rfl))
              clear hSt hall2 hsum hbd
              go_wp2
              go_ret
              exact ⟨ret_bool hfin.out.symm, drawn_trans hz hwi.out⟩
            · have hne2 : (S != mt) = false := by simpa using hSt
              have hg2 := Lib.hid (show rowGood c m N (k2' : Int) k = (like c P (margL row N) mt && like c Qm (margR row N) mt) by rw [hgood.out, hokr.out, hall2, ← hsum, decide_eq_true hSt]; rfl)
              obtain ⟨j, hj⟩ := hwi.out
              have hL := hmgL.out row _ P j (hrow1.keep (below_drewN (Below.refl _ _) j)) hrl hbd hPN
              have hR := Lib.hid (fun j => hmgR.out row _ Qm j (hrow1.keep (below_drewN (Below.refl _ _) j)) hrl hbd hQN)
              rw [hmth.out, hrl] at hL hR
              rw [← hj] at hL
              have hjh := Lib.hid hj
              have hdv2 := hdv.out
              have hmd2 := hmd.out
              have hb0 : ((N : Int) == 0) = false := by simp; omega
              have hb1 : ¬ (N : Int) = 0 := by omega
              clear hj hall2 hsum hbd hSt
              rcases h1 : like c P (margL row N) mt with _ | _
              · rw [h1] at hL
                have hfin := Lib.hid (hno.out (by rw [hg2.out, h1]; rfl))
                clear h1
                go_wp2_with fail
                (with_reducible refine hL.mono ?_)
                rintro e w' ⟨rfl, j2, rfl⟩
                go_wp2
                go_ret
                exact ⟨ret_bool hfin.out.symm, by obtain ⟨a, ha⟩ := drawn_trans hz hwi.out; rw [ha]; exact ⟨_, World.drewN_drewN ..⟩⟩
              · rw [h1] at hL
                rcases h2 : like c Qm (margR row N) mt with _ | _
                · rw [h2] at hR
                  have hfin := Lib.hid (hno.out (by rw [hg2.out, h1, h2]; rfl))
                  clear h1 h2
                  go_wp2_with fail
                  (with_reducible refine hL.mono ?_)
                  rintro e w' ⟨rfl, j2, rfl⟩
                  have hz2 : wr.drewN j2 = W1.drewN (j + j2) := by rw [hjh.out, World.drewN_drewN]
                  have z0 : (wr.drewN j2).cell? ⟨bc, 0, none⟩ = some (.int .i64 (N : Int)) := z0
                  have hR2 := hR.out (j + j2)
                  rw [← hz2] at hR2
                  have hz2h := Lib.hid hz2
                  clear hz2
                  go_wp2_with fail
                  (with_reducible refine hR2.mono ?_)
                  rintro e w' ⟨rfl, j3, rfl⟩
                  go_wp2
                  go_ret
                  exact ⟨ret_bool hfin.out.symm, by obtain ⟨a, ha⟩ := hz; rw [hjh.out, ha]; simp only [World.drewN_drewN]; exact ⟨_, rfl⟩⟩
                · rw [h2] at hR
                  have hn2 := Lib.hid (hyes.out (by rw [hg2.out, h1, h2]; rfl))
                  clear h1 h2
                  go_wp2_with fail
                  (with_reducible refine hL.mono ?_)
                  rintro e w' ⟨rfl, j2, rfl⟩
                  have hz2 : wr.drewN j2 = W1.drewN (j + j2) := by rw [hjh.out, World.drewN_drewN]
                  have z0 : (wr.drewN j2).cell? ⟨bc, 0, none⟩ = some (.int .i64 (N : Int)) := z0
                  have hR2 := hR.out (j + j2)
                  rw [← hz2] at hR2
                  have hz2h := Lib.hid hz2
                  clear hz2
                  go_wp2_with fail
                  (with_reducible refine hR2.mono ?_)
                  rintro e w' ⟨rfl, j3, rfl⟩
                  go_wp2
                  go_roundw
                  case rel => exact ⟨k + 1, by omega, by go_num, by rw [hjh.out]; simp only [World.drewN_drewN]; exact ⟨_, rfl⟩, hn2⟩
                  case measure => simp [intOf]; omega
    · obtain rfl : k = M := by omega
      have hfin := Lib.hid (hdef.out.trans hall.out)
      go_wp2
      go_ret
      exact ⟨ret_bool hfin.out.symm, drawn_trans hz hw.out⟩
end Go.Proofs.Ytcijggfbfpfcdaa
