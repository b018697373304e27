/- Classes in the specification: l02Classes, l02Closed, l02Joined, and ClassesOf, ClosedClasses, IsConnected. Conditions: the chain is valid (the three: none). -/
import Derived.Test.YtkebfnmepbblnaaClass
import Derived.Test.YtkebfnmepbblnaaReach4
import Derived.Test.YtkebfnmepbblnaaMat
namespace Go.Proofs.Ytkebfnmepbblnaa
open Go.RowKit Go.Deep
set_option linter.unusedVariables false

theorem pre_rch (c : Ch) : Pre c.w.length (rchB c) :=
  ⟨fun a ha => fw_refl _ ha, fun a b d _ hb _ h1 h2 => fw_trans _ _ _ _ b hb h1 h2⟩
def ownV (f : Bool) (x : Nat) : Int := if f then (x : Int) else -1
theorem has_rch (c : Ch) {s t : Nat} (ht : t < c.w.length) : hasB (reachL c s) (t : Int) = rchB c s t := has_sel ht
theorem pre_both_false {r : Nat → Nat → Bool} {s t : Nat} (h : r s t = false ∨ r t s = false) : both r t s = false := by
  unfold both; rcases h with h | h <;> simp [h]

/-! ### the closed classes -/
def flt (r : Nat → Nat → Bool) (n s : Nat) : List Nat := (List.range n).filter (r s)
theorem reL_nat (r : Nat → Nat → Bool) (n s : Nat) : reL r n s = nats0 (flt r n s) := rfl
theorem nats0_getD (q : List Nat) (j : Nat) : (nats0 q).getD j 0 = ((q.getD j 0 : Nat) : Int) := by
  by_cases h : j < q.length
  · simp [nats0, List.getD, h]
  · simp [nats0, List.getD, Nat.not_lt.1 h]
theorem flt_at {r : Nat → Nat → Bool} {n s j : Nat} (h : j < (flt r n s).length) : (flt r n s).getD j 0 < n ∧ r s ((flt r n s).getD j 0) = true := by
  have : (flt r n s).getD j 0 ∈ flt r n s := by simp [List.getD, h]
  simpa [flt] using List.mem_filter.1 this
theorem flt_pos {n : Nat} {r : Nat → Nat → Bool} (P : Pre n r) {s : Nat} (hs : s < n) : 0 < (flt r n s).length := by
  have : s ∈ flt r n s := List.mem_filter.2 ⟨List.mem_range.2 hs, P.refl s hs⟩
  exact List.length_pos_of_mem this
theorem natcast_beq (a b : Nat) : (((a : Nat) : Int) == ((b : Nat) : Int)) = decide (a = b) := by
  by_cases h : a = b
  · simp [h]
  · have : ¬ ((a : Int) = (b : Int)) := by omega
    simp [h, this]
theorem good_yes {n : Nat} {r : Nat → Nat → Bool} (P : Pre n r) {s : Nat} (hs : s < n) (h0 : (flt r n s).getD 0 0 = s) (h1 : ∀ j, j < (flt r n s).length → r ((flt r n s).getD j 0) s = true) : goodB r n s = true := by
  rw [good_spec P hs, reL_nat, nats0_getD, h0]
  refine ⟨rfl, fun t ht hr => ?_⟩
  have : t ∈ flt r n s := List.mem_filter.2 ⟨List.mem_range.2 ht, hr⟩
  obtain ⟨j, hj, rfl⟩ := List.mem_iff_getElem.1 this
  have := h1 j hj
  simpa [List.getD, hj] using this
theorem good_no1 {n : Nat} {r : Nat → Nat → Bool} (P : Pre n r) {s : Nat} (hs : s < n) (h0 : ¬ (flt r n s).getD 0 0 = s) : goodB r n s = false := by
  rw [Bool.eq_false_iff]
  intro h
  rw [good_spec P hs, reL_nat, nats0_getD] at h
  exact h0 (by omega)
theorem good_no2 {n : Nat} {r : Nat → Nat → Bool} (P : Pre n r) {s : Nat} (hs : s < n) {j : Nat} (hj : j < (flt r n s).length) (h0 : r ((flt r n s).getD j 0) s = false) : goodB r n s = false := by
  rw [Bool.eq_false_iff]
  intro h
  rw [good_spec P hs] at h
  have := h.2 _ (flt_at hj).1 (flt_at hj).2
  rw [h0] at this; cases this
theorem MadeV.start0 (e2 e1 : TypeId) (w : World) : MadeV e2 e1 (w.alloc (.cells #[] e2)) w.heap.size (w.heap.size + 1) (.slice (some ⟨w.heap.size, 0, none⟩) 0 0) [] [] :=
  ⟨Own.of (World.ownsRow_made w _ 0 (Nat.le_refl _) (Nat.zero_le _) (by simp)) (by simp), rfl, fun i hi => by simp at hi, fun i hi => by simp at hi, fun i j hi => by simp at hi, by simp⟩
theorem Try.infoLL : (Try.prog.info? 25).map (fun i => (i.zero, i.size, i.bytes)) = some (some (.slice none 0 0), 1, 24) := by kernel_rfl

set_option maxRecDepth 100000 in
set_option maxHeartbeats 16000000 in
theorem l02Closed_any (b : Nat) (c : Ch) (w : World) (hc : ChP w b c) (oc : chOk c = true) :
    Calls Try.prog 146 #[.pointer (some ⟨b, 0, none⟩)] w fun e w' => ∃ g gc rvs, e = .returned (.slice (some ⟨g, 0, none⟩) (closedL (rchB c) c.w.length c.w.length).length gc) ∧ MadeV 25 2 w' w.heap.size w'.heap.size (.slice (some ⟨g, 0, none⟩) (closedL (rchB c) c.w.length c.w.length).length gc) rvs ((closedL (rchB c) c.w.length c.w.length).map ints) ∧ Below w.heap.size w w' := by
  obtain ⟨n1, n2, t1, t2, hlen, hrows⟩ := chOk_all oc
  have hre := fun w1 (hb : Below w.heap.size w w1) s hs => l02Reached_any b c s w1 (hc.keep hb) oc hs
  have hP := pre_rch c
  have hhas := Lib.hid (fun s t (ht : t < c.w.length) => has_rch c (s := s) ht)
  obtain ⟨v, k0, k1, k2, R⟩ := hc
  have l0 := block_lt k0
  simp only at l0
  have hrl := fun s => (show reachL c s = nats0 (flt (rchB c) c.w.length s) from rfl)
  obtain ⟨N, hN⟩ : ∃ N, c.w.length = N := ⟨_, rfl⟩
  have hnN : c.n = (N : Int) := by omega
  rw [hnN] at k0
  simp only [hrl] at hre hhas
  rw [hN] at hP hre hhas ⊢
  have hre' := Lib.hid hre
  have k0' := Lib.hid k0
  have hN6 : N ≤ 6 := by omega
  have hN1 : 1 ≤ N := by omega
  obtain ⟨i0, hi, hz0, hz1, hz2⟩ := info_parts Try.infoLL
  have hi' := Lib.hid hi; have hz0' := Lib.hid hz0; have hz1' := Lib.hid hz1; have hz2' := Lib.hid hz2
  clear hi hz0 hz1 hz2 hN hnN hlen hrows R k0 k1 k2 hre oc n1 n2 t1 t2 hrl
  generalize hrr : rchB c = r at *
  clear hrr
  have hP' := Lib.hid hP
  clear hP
  go_enter Try.func146, Try.ntmps146
  go_wp2
  go_loopw [3, 4] (fun ov i wr => ∃ (s L g gc : Nat) (rvs : List Value), s ≤ N ∧ i = .int .i64 (s : Int) ∧ ov = .slice (some ⟨g, 0, none⟩) L gc ∧ L ≤ s ∧ Hid ((closedL r N s).length = L) ∧ Hid (MadeV 25 2 wr w.heap.size wr.heap.size (.slice (some ⟨g, 0, none⟩) L gc) rvs ((closedL r N s).map ints)) ∧ Below w.heap.size w wr) (fun _ i _ => N - (intOf i).toNat)
  case atStart => exact ⟨0, 0, _, _, [], Nat.zero_le _, rfl, rfl, Nat.le_refl _, Lib.hid rfl, Lib.hid (by have := MadeV.start0 25 2 w; simpa [closedL] using this), below1 _ _⟩
  case round =>
    obtain ⟨wo, rfl⟩ : ∃ wo : World, wo = wr := ⟨_, rfl⟩
    obtain ⟨s, L, g, gc, rvs, hs, rfl, rfl, hLs, hL, hM, bel⟩ := hrel
    have q0 := (bel.cell (p := ⟨b, 0, none⟩) l0).trans k0'.out
    by_cases hlt : s < N
    · have hsI : (s : Int) < (N : Int) := by omega
      have hcall := hre'.out wo bel s hlt
      have hpos := flt_pos hP'.out hlt
      have hat := Lib.hid (fun j (hj : j < (flt r N s).length) => flt_at hj)
      have hyes := Lib.hid (fun h0 h1 => good_yes hP'.out hlt h0 h1)
      have hno1 := Lib.hid (fun h0 => good_no1 hP'.out hlt h0)
      have hno2 := Lib.hid (fun j (hj : j < (flt r N s).length) h0 => good_no2 hP'.out hlt hj h0)
      have hfl : (flt r N s).length ≤ N := by have := sel_len (r s) N; simpa [selL, flt] using this
      have hcs := Lib.hid (show closedL r N (s + 1) = if goodB r N s = true then closedL r N s ++ [nats0 (flt r N s)] else closedL r N s from rfl)
      generalize flt r N s = fl at *
      obtain ⟨F, hF⟩ : ∃ F, (nats0 fl).length = F := ⟨_, rfl⟩
      have hFl : F = fl.length := by rw [← hF]; simp [nats0]
      rw [hF] at hcall
      have hF' := Lib.hid hF
      have hFl' := Lib.hid hFl
      clear hF
      go_wp2_with fail
      refine hcall.mono ?_
      rintro e w5 ⟨rv5, rfl, hown5, b5⟩
      have bel5 := below_wt bel b5
      obtain ⟨g5, c5, rfl, hg5⟩ := ownsRow_head hown5 (by omega)
      have hcell := Lib.hid (show ∀ j, j < F → w5.cell? ⟨g5, j, none⟩ = some (.int .i64 ((fl.getD j 0 : Nat) : Int)) by
        intro j hj
        rw [hown5.cellAt j (by omega)]
        have h1 : j < (ints (nats0 fl)).length := by simp [ints, nats0]; omega
        rw [List.getElem?_eq_getElem h1]
        simp [ints, nats0, List.getD, show j < fl.length by omega])
      have c0 := hcell.out 0 (by omega)
      have hg5lt := (hown5.lt g5 rfl).2
      have hrow := Lib.hid (show Own w5 wo.heap.size w5.heap.size 2 (.slice (some ⟨g5, 0, none⟩) F c5) (ints (nats0 fl)) from Own.of hown5 (Nat.le_refl _))
      have hFpos : 0 < F := by omega
      have hF6 : F ≤ 6 := by omega
      have hFposI : (0 : Int) < (F : Int) := by omega
      clear hown5 hcall hFl q0
      obtain ⟨x0, hx0⟩ : ∃ x0, fl.getD 0 0 = x0 := ⟨_, rfl⟩
      rw [hx0] at c0 hno1
      have hx0' := Lib.hid hx0
      obtain ⟨f0, hf0⟩ : ∃ f : Bool, decide (x0 = s) = f := ⟨_, rfl⟩
      have hf1 : (((x0 : Nat) : Int) == ((s : Nat) : Int)) = f0 := by
        rw [← hf0]
        exact natcast_beq _ _
      have hy0 := Lib.hid (show f0 = true → fl.getD 0 0 = s from fun h => by rw [← hf0] at h; rw [hx0'.out]; simpa using h)
      have hn0 := Lib.hid (show f0 = false → goodB r N s = false from fun h => by rw [← hf0] at h; exact hno1.out (by simpa using h))
      clear hf0 hx0
      go_wp2
      clear c0
      go_loopw [6, 7] (fun fv i wr => ∃ (j : Nat) (f : Bool), j ≤ F ∧ i = .int .i64 (j : Int) ∧ fv = .bool f ∧ Hid (f = true → fl.getD 0 0 = s ∧ ∀ x, x < j → r (fl.getD x 0) s = true) ∧ Hid (f = false → goodB r N s = false) ∧ Below w5.heap.size w5 wr) (fun _ i _ => F - (intOf i).toNat)
      case atStart =>
        refine ⟨0, f0, Nat.zero_le _, rfl, ?_, Lib.hid (fun h => ⟨hy0.out h, fun x hx => by omega⟩), hn0, Below.refl _ _⟩
        first | rfl | rw [hf1]
      case round =>
        clear hy0 hn0 hf1
        obtain ⟨wi, rfl⟩ : ∃ wi : World, wi = wr := ⟨_, rfl⟩
        obtain ⟨j, f, hj, rfl, rfl, hyj, hnj, belj⟩ := hrel
        have beli := below_wt bel5 belj
        by_cases hjl : j < F
        · have hjI : (j : Int) < (F : Int) := by omega
          cases f with
          | true =>
            have cj := (belj.cell (p := ⟨g5, j, none⟩) hg5lt).trans (hcell.out j hjl)
            obtain ⟨u1, u2⟩ := hat.out j (by have := hFl'.out; omega)
            have hcall := hre'.out wi beli (fl.getD j 0) u1
            have hh := hhas.out (fl.getD j 0) s hlt
            have hno := Lib.hid (hno2.out j (by have := hFl'.out; omega))
            obtain ⟨u, hu⟩ : ∃ u, fl.getD j 0 = u := ⟨_, rfl⟩
            have hu' := Lib.hid hu
            rw [hu] at cj hcall hh hno
            clear hu u2 u1
            go_wp2_with fail
            refine hcall.mono ?_
            rintro e w6 ⟨rv6, rfl, hown6, b6⟩
            have hhc := l00Has_any rv6 _ (s : Int) w6 (owns_ints hown6)
            rw [hh] at hhc
            clear hown6 hcall hh
            obtain ⟨f2, hf2⟩ : ∃ f2, r u s = f2 := ⟨_, rfl⟩
            rw [hf2] at hhc hno
            have hf2' := Lib.hid hf2
            clear hf2
            go_wp2_with ((with_reducible refine hhc.mono ?_); rintro e w' ⟨rfl, rfl⟩)
            go_roundw
            case rel =>
              refine ⟨j + 1, f2, by omega, by go_num, rfl, Lib.hid (fun h => ⟨(hyj.out (by simp)).1, fun x hx => ?_⟩), Lib.hid (fun h => hno.out h), belj.trans (b6.mono belj.size)⟩
              by_cases e : x = j
              · subst e; rw [hu'.out, hf2'.out]; exact h
              · exact (hyj.out (by simp)).2 x (by omega)
            case measure => simp [intOf]; omega
          | false =>
            have hgb := Lib.hid (hnj.out (by simp))
            have hL3 := Lib.hid (show closedL r N (s + 1) = closedL r N s by rw [hcs.out, hgb.out]; rfl)
            have hMk := Lib.hid (hM.out.keep (b5.trans (belj.mono b5.size)))
            go_wp2
            go_roundw
            case rel => exact ⟨s + 1, L, g, gc, rvs, by omega, by go_num, rfl, by omega, Lib.hid (by rw [hL3.out]; exact hL.out), Lib.hid (by rw [hL3.out]; exact hMk.out.wide (Nat.le_refl _) (Nat.le_trans b5.size belj.size) (Nat.le_refl _)), beli⟩
            case measure => simp [intOf]; omega
        · obtain rfl : j = F := by omega
          have hjI : ¬ (j : Int) < (j : Int) := by omega
          cases f with
          | true =>
            have hyy := hyj.out (by simp)
            have hgb := Lib.hid (hyes.out hyy.1 (fun x hx => hyy.2 x (by have := hFl'.out; omega)))
            have hL3 := Lib.hid (show closedL r N (s + 1) = closedL r N s ++ [nats0 fl] by rw [hcs.out, hgb.out]; rfl)
            have bi : Below wo.heap.size wo wi := b5.trans (belj.mono b5.size)
            have hMo := hM.out.outer bi
            rw [List.length_map, hL.out] at hMo
            have hMo' := Lib.hid hMo
            have hrow' := Lib.hid ((hrow.out.keep (Nat.le_refl _) belj).wide (Nat.le_refl _) belj.size)
            have hszi := beli.size
            clear hyy hMo
            go_wp2_with (at_builtin; (refine wpList_append_own _ rfl _ _ 22 rfl w.heap.size 25 i0 (.slice none 0 0) 1 24 Try.underlying22 hi'.out hz0'.out hz1'.out hz2'.out rfl (by decide) (.slice (some ⟨g, 0, none⟩) L gc) _ _ rfl (hMo'.out.alloc _) ⟨wi.heap.size, 0, none⟩ 1 1 [.slice (some ⟨g5, 0, none⟩) j c5] rfl rfl (one_new _ _ _) (by simp [Value.oneCell']) (by unfold maxLen; omega) (by omega) (by simp; omega) ?_); intro v' w7 hown7 hgr7 _; obtain ⟨g7, c7, rfl, -⟩ := ownsRow_head hown7 (by omega))
            go_roundw
            case rel =>
              refine ⟨s + 1, L + 1, g7, c7, rvs ++ [.slice (some ⟨g5, 0, none⟩) j c5], by omega, by go_num, rfl, by omega, Lib.hid (by rw [hL3.out, List.length_append, hL.out]; rfl), Lib.hid ?_, (beli.alloc hszi _).grown hgr7 (by simp; omega) (fun k' hk' => (ownsRow_type hMo'.out hk').1)⟩
              rw [hL3.out, List.map_append]
              exact MadeV.step (by decide) hM.out bi hrow'.out bel.size _ (by rw [List.length_map, hL.out]; exact hown7) hgr7
            case measure => simp [intOf]; omega
          | false =>
            have hgb := Lib.hid (hnj.out (by simp))
            have hL3 := Lib.hid (show closedL r N (s + 1) = closedL r N s by rw [hcs.out, hgb.out]; rfl)
            have hMk := Lib.hid (hM.out.keep (b5.trans (belj.mono b5.size)))
            go_wp2
            go_roundw
            case rel => exact ⟨s + 1, L, g, gc, rvs, by omega, by go_num, rfl, by omega, Lib.hid (by rw [hL3.out]; exact hL.out), Lib.hid (by rw [hL3.out]; exact hMk.out.wide (Nat.le_refl _) (Nat.le_trans b5.size belj.size) (Nat.le_refl _)), beli⟩
            case measure => simp [intOf]; omega
    · obtain rfl : s = N := by omega
      go_wp2
      go_ret
      rw [hL.out]
      exact ⟨g, gc, rvs, rfl, hM.out, bel⟩
end Go.Proofs.Ytkebfnmepbblnaa
