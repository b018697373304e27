/- SkipChain of the specification returns 'skipOf'. Conditions: none on the chain and the number beyond what is read. -/
import Derived.Test.YtepajimcnheofaaSkip
namespace Go.Proofs.Ytepajimcnheofaa
open Go.RowKit Go.Deep
set_option linter.unusedVariables false

set_option maxRecDepth 100000 in
set_option maxHeartbeats 16000000 in
theorem SkipChain_spec (cv : Value) (c : Ch) (k : Int) (w : World) (hc : ChR w cv c) :
    Calls Try.prog 26 #[cv, .int .i64 k] w fun e w' => ∃ rv, e = .returned (.tuple #[rv, .int .i64 (skipOf c k).2]) ∧ ChOwn 37 2 w' w.heap.size w'.heap.size rv (skipOf c k).1 ∧ Below w.heap.size w w' := by
  obtain ⟨a, cap, rfl⟩ := hc.shape
  have B0 := below2 w (.cells #[.int .i64 c.n, .int .i64 c.t, .slice a c.w.length cap] 26) (.cells #[.int .i64 0, .int .i64 0, .slice none 0 0] 26)
  have hB := (Blk.new w #[.int .i64 c.n, .int .i64 c.t, .slice a c.w.length cap] 26).alloc (.cells #[.int .i64 0, .int .i64 0, .slice none 0 0] 26)
  have hZ := Blk.new (w.alloc (.cells #[.int .i64 c.n, .int .i64 c.t, .slice a c.w.length cap] 26)) #[.int .i64 0, .int .i64 0, .slice none 0 0] 26
  simp only [World.size_alloc] at hZ
  obtain ⟨V, hV⟩ : ∃ V, (w.alloc (.cells #[.int .i64 c.n, .int .i64 c.t, .slice a c.w.length cap] 26)).alloc (.cells #[.int .i64 0, .int .i64 0, .slice none 0 0] 26) = V := ⟨_, rfl⟩
  rw [hV] at hB hZ B0
  have Pc : ChP V w.heap.size c := ⟨_, hB.cell 0, hB.cell 1, hB.cell 2, (hc.keep B0).rows⟩
  have hV' := Lib.hid hV
  clear hV
  by_cases oc : chOk c = true
  · obtain ⟨n1, n2, t1, t2, -, -⟩ := chOk_all oc
    obtain ⟨N, hN⟩ : ∃ N : Nat, c.n = N := ⟨c.n.toNat, by omega⟩
    have hN1 : 1 ≤ N := by omega
    have hN6 : N ≤ 6 := by omega
    have oc' := Lib.hid oc
    have hst : ∀ W, Calls Try.prog 64 #[.int .i64 c.n, .int .i64 1] W fun e w' => ∃ rv, e = .returned rv ∧ ChOwn 37 2 w' W.heap.size w'.heap.size rv (powCh c 0) ∧ Below W.heap.size W w' := fun W => by
      have := l01Stay_any N 1 W hN1 hN6
      have e : (⟨(N : Int), 1, rowsOf N (stayF 1)⟩ : Ch) = powCh c 0 := by simp [powCh, stayCh, hN]
      rw [e] at this; rw [hN]; exact this
    have hst' := Lib.hid hst
    by_cases hk : inB k 0 40 = true
    · obtain ⟨k0, k1⟩ := inB_iff.1 hk
      obtain ⟨k, rfl⟩ : ∃ n : Nat, k = n := ⟨k.toNat, by omega⟩
      have hres := Lib.hid (show skipOf c k = if 60 < (powCh c k).t then (zeroCh, 3) else (powCh c k, 0) by simp [skipOf, oc, hk])
      have hin : ∀ W, Calls Try.prog 69 #[.int .i64 k] W fun e w' => e = .returned (.bool true) ∧ W = w' := fun W => by
        have := l01Steps_any k W
        rw [hk] at this; exact this
      have hin' := Lib.hid hin
      clear hst hk hin hN oc
      go_enter Try.func26, Try.ntmps26
      go_wp2_with fail
      rw [hV'.out]
      refine (l01Ok_any _ c _ Pc).mono ?_
      rintro e w1 ⟨rfl, m, rfl⟩
      rw [oc'.out]
      replace hB : Blk (V.drewN m) _ _ _ := hB
      replace hZ : Blk (V.drewN m) _ _ _ := hZ
      have BB := below_drewN B0 m
      have hlt1 := hZ.lt
      clear B0 Pc
      obtain ⟨w1, hw1⟩ : ∃ w1, V.drewN m = w1 := ⟨_, rfl⟩
      rw [hw1] at hB hZ BB hlt1 ⊢
      clear hw1
      go_wp2_with fail
      refine (hin'.out _).mono ?_
      rintro e w2 ⟨rfl, rfl⟩
      obtain ⟨q0, q1, q2⟩ := hB.three
      go_wp2_with fail
      refine (hst'.out _).mono ?_
      rintro e w2 ⟨rv, rfl, own, b2⟩
      clear q0 q1 q2
      replace hB := hB.step b2
      replace hZ := hZ.step b2
      have hsz2 := b2.size
      have BB2 := below_wt BB b2
      have hup := Lib.hid (fun i (h : i ≤ k) => powCh_up oc'.out (i := i) (k := k) h)
      have S0 := own.mine
      obtain ⟨ra, rac, rfl⟩ := own.shape
      have b3 := below1 w2 (.cells #[.int .i64 (powCh c 0).n, .int .i64 (powCh c 0).t, .slice ra (powCh c 0).w.length rac] 26)
      have hO := Blk.new w2 #[.int .i64 (powCh c 0).n, .int .i64 (powCh c 0).t, .slice ra (powCh c 0).w.length rac] 26
      replace S0 := S0.step b3
      replace hB := hB.step b3
      replace hZ := hZ.step b3
      have BB3 := below_wt BB2 b3
      have hsz3 : w2.heap.size < (w2.alloc (.cells #[.int .i64 (powCh c 0).n, .int .i64 (powCh c 0).t, .slice ra (powCh c 0).w.length rac] 26)).heap.size := by simp
      have lo2 : w.heap.size + 2 ≤ w1.heap.size := by omega
      clear own
      go_upto_region 6 with fail
      obtain ⟨W, hW⟩ : ∃ W, w2.alloc (.cells #[.int .i64 (powCh c 0).n, .int .i64 (powCh c 0).t, .slice ra (powCh c 0).w.length rac] 26) = W := ⟨_, rfl⟩
      rw [hW] at hO S0 hB hZ BB3 hsz3 ⊢
      clear hW BB2 BB b2 b3
      have hcK := Lib.hid (fun W' (h : Below w.heap.size w W') => hc.keep h)
      obtain ⟨B, hBB⟩ : ∃ B, w2.heap.size = B := ⟨_, rfl⟩
      rw [hBB] at hO hsz3 S0 hsz2 ⊢
      have hl2 : w.heap.size + 2 ≤ B := by omega
      have hpn := Lib.hid (fun i => powCh_n c i)
      have hpo := Lib.hid (fun i h => powCh_ok oc'.out i h)
      have hpz : (powCh c 0).t ≤ 60 := by simp [powCh, stayCh]
      clear hBB hc
      go_wp2
      go_loopw [7] (fun i wr => ∃ (m lo hi : Nat) (oa : Option Addr) (ocap : Nat), m ≤ k ∧ i = .int .i64 m ∧ Blk wr w.heap.size #[.int .i64 c.n, .int .i64 c.t, .slice a c.w.length cap] 26 ∧ Blk wr (w.heap.size + 1) #[.int .i64 0, .int .i64 0, .slice none 0 0] 26 ∧
          Blk wr B #[.int .i64 (powCh c m).n, .int .i64 (powCh c m).t, .slice oa (powCh c m).w.length ocap] 26 ∧ ChMine 37 2 wr lo hi (.agg #[.int .i64 (powCh c m).n, .int .i64 (powCh c m).t, .slice oa (powCh c m).w.length ocap]) (powCh c m) ∧ w.heap.size + 2 ≤ lo ∧ (B < lo ∨ hi ≤ B) ∧ Below w.heap.size w wr ∧ (powCh c m).t ≤ 60) (fun i _ => k - (intOf i).toNat)
      case atStart => exact ⟨0, _, _, _, _, Nat.zero_le _, rfl, hB, hZ, hO, S0, lo2, Or.inr (Nat.le_refl _), BB3, hpz⟩
      case round =>
        obtain ⟨wo, rfl⟩ : ∃ wo : World, wo = wr := ⟨_, rfl⟩
        obtain ⟨m, lo, hi, oa, ocap, hm, rfl, hB1, hZ1, hO1, S1, hlo, hd, bel, h60⟩ := hrel
        clear hB hZ hO S0 BB3
        by_cases hlt : m < k
        · have hmI : (m : Int) < (k : Int) := by omega
          have Pc : ChP wo w.heap.size c := ⟨_, hB1.cell 0, hB1.cell 1, hB1.cell 2, (hcK.out wo bel).rows⟩
          have Po : ChP wo B (powCh c m) := ⟨_, hO1.cell 0, hO1.cell 1, hO1.cell 2, S1.ch.rows⟩
          have hth := l01Then_any B w.heap.size (powCh c m) c wo Po Pc (hpo.out m h60) oc'.out (hpn.out m).symm
          have hup1 := Lib.hid (hup.out (m + 1) (by omega))
          obtain ⟨Q, hQ⟩ : ∃ Q, powCh c (m + 1) = Q := ⟨_, rfl⟩
          have hQ0 : thenCh (powCh c m) c = Q := hQ
          rw [hQ0] at hth
          rw [hQ] at hup1
          have hQ' := Lib.hid hQ
          obtain ⟨P, hP⟩ : ∃ P, powCh c m = P := ⟨_, rfl⟩
          rw [hP] at hO1
          clear hQ hQ0 hP Pc Po S1 h60
          have hltO := hO1.lt
          go_wp2_with fail
          refine hth.mono ?_
          rintro e w3 ⟨rv, rfl, own3, b3⟩
          have S3 := own3.mine
          obtain ⟨ta, tac, rfl⟩ := own3.shape
          have hO3 := hO1.step b3
          have hZ3 := hZ1.step b3
          have hB3 := hB1.step b3
          have BB := below_wt bel b3
          have hsz3 := b3.size
          obtain ⟨p0, p1, p2⟩ := hO3.three
          have f0 := hO3.frozen 0
          have f1 := hO3.frozen 1
          have f2 := hO3.frozen 2
          have nz : w.heap.size + 1 ≠ B := by omega
          clear own3
          by_cases h6 : 60 < Q.t
          · have hr := Lib.hid (show skipOf c k = (zeroCh, 3) by rw [hres.out, if_pos (hup1.out h6)])
            obtain ⟨z0, z1, z2⟩ := hZ3.three
            have g0 := hZ3.frozen 0
            have g1 := hZ3.frozen 1
            have g2 := hZ3.frozen 2
            go_wp2
            refine bodyPost_ret (v := .tuple #[.agg #[.int .i64 0, .int .i64 0, .slice none 0 0], .int .i64 3]) (by simp [results, Try.results26, go_sem, z0, z1, z2]) rfl ?_
            rw [hr.out]
            exact ⟨_, rfl, zero_own _ _ _, Below.filled (Below.filled BB (by omega) _ _ _) (by omega) _ _ _⟩
          · have h6' : Q.t ≤ 60 := by omega
            go_wp2
            go_roundw
            case rel =>
              refine ⟨m + 1, wo.heap.size, w3.heap.size, ta, tac, by omega, by go_num, hB3.store3 (by omega) _ _ _, hZ3.store3 (by omega) _ _ _, ?_, ?_, by omega, Or.inl hltO, Below.filled BB (by omega) _ _ _, by rw [hQ'.out]; exact h6'⟩
              · rw [hQ'.out]; exact hO3.filled _ _ _
              · rw [hQ'.out]; exact S3.filled (Or.inl hltO) _ _ _
            case measure => simp [intOf]; omega
        · obtain rfl : m = k := by omega
          have hr := Lib.hid (show skipOf c m = (powCh c m, 0) by rw [hres.out, if_neg (by omega)])
          obtain ⟨P, hP⟩ : ∃ P, powCh c m = P := ⟨_, rfl⟩
          rw [hP] at hO1 S1 hr
          have hltO := hO1.lt
          clear hP h60
          obtain ⟨p0, p1, p2⟩ := hO1.three
          obtain ⟨z0, z1, z2⟩ := hZ1.three
          have g0 := hZ1.frozen 0
          have g1 := hZ1.frozen 1
          have g2 := hZ1.frozen 2
          go_wp2
          refine bodyPost_ret (v := .tuple #[.agg #[.int .i64 P.n, .int .i64 P.t, .slice oa P.w.length ocap], .int .i64 0]) (by simp [results, Try.results26, go_sem, z0, z1, z2]) rfl ?_
          rw [hr.out]
          have S2 := S1.filled (b := w.heap.size + 1) (Or.inl (by omega)) (.int .i64 P.n) (.int .i64 P.t) (.slice oa P.w.length ocap)
          exact ⟨_, rfl, S2.own.wide (by omega) S2.le, Below.filled bel (by omega) _ _ _⟩
    · have hkf : inB k 0 40 = false := by simpa using hk
      have hr := Lib.hid (show skipOf c k = (zeroCh, 2) by simp [skipOf, oc, hkf])
      have hin : ∀ W, Calls Try.prog 69 #[.int .i64 k] W fun e w' => e = .returned (.bool false) ∧ W = w' := fun W => by
        have := l01Steps_any k W
        rw [hkf] at this; exact this
      have hin' := Lib.hid hin
      clear hst hk hin hN oc hkf
      go_enter Try.func26, Try.ntmps26
      go_wp2_with fail
      rw [hV'.out]
      refine (l01Ok_any _ c _ Pc).mono ?_
      rintro e w1 ⟨rfl, m, rfl⟩
      rw [oc'.out]
      replace hZ : Blk (V.drewN m) _ _ _ := hZ
      have BB := below_drewN B0 m
      obtain ⟨w1, hw1⟩ : ∃ w1, V.drewN m = w1 := ⟨_, rfl⟩
      rw [hw1] at hZ BB ⊢
      clear hw1 hB Pc
      go_wp2_with fail
      refine (hin'.out _).mono ?_
      rintro e w2 ⟨rfl, rfl⟩
      obtain ⟨z0, z1, z2⟩ := hZ.three
      have g0 := hZ.frozen 0
      have g1 := hZ.frozen 1
      have g2 := hZ.frozen 2
      go_wp2
      refine bodyPost_ret (v := .tuple #[.agg #[.int .i64 0, .int .i64 0, .slice none 0 0], .int .i64 2]) (by simp [results, Try.results26, go_sem, z0, z1, z2]) rfl ?_
      rw [hr.out]
      exact ⟨_, rfl, zero_own _ _ _, Below.filled BB (by omega) _ _ _⟩
  · have oc' : chOk c = false := by simpa using oc
    have hr := Lib.hid (show skipOf c k = (zeroCh, 1) by simp [skipOf, oc'])
    have oc2 := Lib.hid oc'
    clear oc oc'
    go_enter Try.func26, Try.ntmps26
    go_wp2_with fail
    rw [hV'.out]
    refine (l01Ok_any _ c _ Pc).mono ?_
    rintro e w1 ⟨rfl, m, rfl⟩
    rw [oc2.out]
    replace hZ : Blk (V.drewN m) _ _ _ := hZ
    have BB := below_drewN B0 m
    obtain ⟨w1, hw1⟩ : ∃ w1, V.drewN m = w1 := ⟨_, rfl⟩
    rw [hw1] at hZ BB ⊢
    clear hw1 hB Pc
    obtain ⟨z0, z1, z2⟩ := hZ.three
    have g0 := hZ.frozen 0
    have g1 := hZ.frozen 1
    have g2 := hZ.frozen 2
    go_wp2
    refine bodyPost_ret (v := .tuple #[.agg #[.int .i64 0, .int .i64 0, .slice none 0 0], .int .i64 1]) (by simp [results, Try.results26, go_sem, z0, z1, z2]) rfl ?_
    rw [hr.out]
    exact ⟨_, rfl, zero_own _ _ _, Below.filled BB (by omega) _ _ _⟩
end Go.Proofs.Ytepajimcnheofaa
