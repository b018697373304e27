/- CanReach of the project: the table of which state leads to which, a row of it as a list. Conditions: none on the chain and the state. -/
import Derived.Test.YtkebfnmepbblnaaReach6
namespace Go.Proofs.Ytkebfnmepbblnaa
open Go.RowKit Go.Deep
set_option linter.unusedVariables false

theorem sel_succ_yes {p : Nat → Bool} {t : Nat} (h : p t = true) : selL p (t + 1) = selL p t ++ [(t : Int)] := by
  unfold selL; rw [List.range_succ, List.filter_append]; simp [h]
theorem sel_succ_no {p : Nat → Bool} {t : Nat} (h : p t = false) : selL p (t + 1) = selL p t := by
  unfold selL; rw [List.range_succ, List.filter_append]; simp [h]
theorem fwStep_elim (M : Nat → Nat → Bool) (k : Nat) : elimB (fun x y => if x = k ∧ y = k then true else M x y) k = fwStep M k := by
  funext a b
  rw [Bool.eq_iff_iff, fwStep_iff]
  unfold elimB
  by_cases h1 : a = k <;> by_cases h2 : b = k <;> simp [h1, h2]

set_option maxRecDepth 100000 in
set_option maxHeartbeats 8000000 in
theorem reachOf_any (cv : Value) (c : Ch) (w : World) (hc : ChR w cv c) (oc : chOk c = true) :
    Calls Try.prog 192 #[cv] w fun e w' => ∃ v rvs, e = .returned v ∧ MadeV 213 212 w' w.heap.size w'.heap.size v rvs (tabV c.w.length c.w.length (tr (rchB c))) ∧ Below w.heap.size w w' := by
  obtain ⟨a, cap, rfl⟩ := hc.shape
  obtain ⟨n1, n2, t1, t2, hlen, hrows⟩ := chOk_all oc
  have B0 := below1 w (.cells #[.int .i64 c.n, .int .i64 c.t, .slice a c.w.length cap] 29)
  have hB := Blk.new w #[.int .i64 c.n, .int .i64 c.t, .slice a c.w.length cap] 29
  have Kc := hc.keep B0
  have hst := stepsOf_any _ c _ Kc oc
  obtain ⟨N, hN⟩ : ∃ N, c.w.length = N := ⟨_, rfl⟩
  have hnN : c.n = (N : Int) := by omega
  have hN6 : N ≤ 6 := by omega
  have hN1 : 1 ≤ N := by omega
  have hE := Lib.hid (show rchB c = fw (edge c) N by rw [← hN]; rfl)
  simp only [hN, hnN] at hst hB B0 ⊢
  rw [hE.out]
  clear hc oc hrows hlen Kc hN hnN n1 n2 t1 t2 hE
  generalize edge c = E at *
  go_enter Try.func192, Try.ntmps192
  go_wp2_with fail
  refine hst.mono ?_
  rintro e w1 ⟨v, rvs, rfl, hM, b1⟩
  obtain ⟨q0, q1, q2⟩ := (hB.keep b1 hB.lt).three
  have hM' := Lib.hid hM
  have bel := below_wt B0 b1
  obtain ⟨g, gcap, rfl, g1, g2⟩ := hM.shape (by rw [tabV_len]; omega)
  rw [tabV_len] at hM'
  simp only [tabV_len]
  have hlo : w.heap.size ≤ (w.alloc (.cells #[.int .i64 (N : Int), .int .i64 c.t, .slice a N cap] 29)).heap.size := by simp
  have hlo2 := b1.size
  generalize (w.alloc (.cells #[.int .i64 (N : Int), .int .i64 c.t, .slice a N cap] 29)).heap.size = lo at *
  clear hM hst hB B0 b1
  go_wp2
  go_loopw [9] (fun i wr => ∃ s : Nat, s ≤ N ∧ i = .int .i64 (s : Int) ∧ Hid (MadeV 213 212 wr lo w1.heap.size (.slice (some ⟨g, 0, none⟩) N gcap) rvs (tabV N N (tr (fw E s)))) ∧ Below w.heap.size w wr) (fun i _ => N - (intOf i).toNat)
  case atStart => exact ⟨0, Nat.zero_le _, rfl, hM', bel⟩
  case round =>
    obtain ⟨wo, rfl⟩ : ∃ wo : World, wo = wr := ⟨_, rfl⟩
    obtain ⟨s, hs, rfl, hM, bel⟩ := hrel
    clear hM'
    by_cases hlt : s < N
    · obtain ⟨g', cap', r, rc, hv, -, -, c1, hr, r1, r2, c2, c3⟩ := hM.out.at s (by rw [tabV_len]; exact hlt) (by rw [tabV_rowlen _ _ _ _ hlt]; omega)
      rw [tabV_len] at hv
      rw [tabV_rowlen _ _ _ _ hlt] at c1 hr c2
      simp only [Value.slice.injEq, Option.some.injEq, Addr.mk.injEq] at hv
      obtain ⟨⟨rfl, -, -⟩, -, rfl⟩ := hv
      have cs := c2 s hlt
      have fs := c3 s
      have hsI : (s : Int) < (N : Int) := by omega
      have hM1 := (hM.out).set s (by rw [tabV_len]; exact hlt) r N rc hr s (.bool true)
      rw [tabV_set _ _ _ _ _ _ hlt] at hM1
      have e1 : (tabV N N fun x y => if x = s ∧ y = s then (Value.bool true) else tr (fw E s) x y) = tabV N N (tr fun x y => if x = s ∧ y = s then true else fw E s x y) := by
        apply tabV_congr
        intro x y _ _
        unfold tr
        by_cases h : x = s ∧ y = s <;> simp [h]
      rw [e1] at hM1
      have hel := eliminate_any _ rvs N s lo w1.heap.size _ _ hM1 hlt hN6 (by simp)
      rw [fwStep_elim] at hel
      have hset : Below w.heap.size w (wo.setCell ⟨r, s, none⟩ (.bool true)) := bel.setCell (by show w.heap.size ≤ r; omega) _
      clear c2 c3 e1 hM1 hr
      go_wp2_with fail
      refine hel.mono ?_
      rintro e w2 ⟨rfl, hM2, ht2⟩
      have hM2' := Lib.hid hM2
      clear hM2 cs fs c1
      go_wp2
      go_roundw
      case rel => exact ⟨s + 1, by omega, by go_num, hM2', hset.trans ((ht2.below (by have := hM.out.size; simp [World.setCell]; omega)).mono hlo)⟩
      case measure => simp [intOf]; omega
    · obtain rfl : s = N := by omega
      go_wp2
      go_ret
      exact ⟨_, _, rfl, hM.out.wide hlo hM.out.size (Nat.le_refl _), bel⟩

end Go.Proofs.Ytkebfnmepbblnaa
