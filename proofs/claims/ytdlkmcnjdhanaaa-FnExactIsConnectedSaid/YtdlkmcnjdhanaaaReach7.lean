/- CanReach of the project: the table of which state leads to which, a row of it as a list. Conditions: none on the chain and the state. -/
import Derived.Test.YtdlkmcnjdhanaaaReach6
namespace Go.Proofs.Ytdlkmcnjdhanaaa
open Go.RowKit Go.Deep
set_option linter.unusedVariables false

theorem sel_succ_yes {p : Nat → Bool} {t : Nat} (h : p t = true) : selL p (t + 1) = selL p t ++ [(t : Int)] := by
  unfold selL; rw [List.range_succ, List.filter_append]; simp [h]
theorem sel_succ_no {p : Nat → Bool} {t : Nat} (h : p t = false) : selL p (t + 1) = selL p t := by
  unfold selL; rw [List.range_succ, List.filter_append]; simp [h]
theorem fwStep_elim (M : Nat → Nat → Bool) (k : Nat) : elimB (fun x y => if x = k ∧ y = k then true else M x y) k = fwStep M k := by
  funext a b
  rw [Bool.eq_iff_iff, fwStep_iff]
  unfold elimB
  by_cases h1 : a = k <;> by_cases h2 : b = k <;> simp [h1, h2]

set_option maxRecDepth 100000 in
set_option maxHeartbeats 8000000 in
theorem reachOf_any (cv : Value) (c : Ch) (w : World) (hc : ChR w cv c) (oc : chOk c = true) :
    Calls Try.prog 36 #[cv] w fun e w' => ∃ v rvs, e = .returned v ∧ MadeV 76 77 w' w.heap.size w'.heap.size v rvs (tabV c.w.length c.w.length (tr (rchB c))) ∧ Below w.heap.size w w' := by
  obtain ⟨a, cap, rfl⟩ := hc.shape
  obtain ⟨n1, n2, t1, t2, hlen, hrows⟩ := chOk_all oc
  have B0 := below1 w (.cells #[.int .i64 c.n, .int .i64 c.t, .slice a c.w.length cap] 29)
  have hB := Blk.new w #[.int .i64 c.n, .int .i64 c.t, .slice a c.w.length cap] 29
  have Kc := hc.keep B0
  have hst := stepsOf_any _ c _ Kc oc
  obtain ⟨N, hN⟩ : ∃ N, c.w.length = N := ⟨_, rfl⟩
  have hnN : c.n = (N : Int) := by omega
  have hN6 : N ≤ 6 := by omega
  have hN1 : 1 ≤ N := by omega
  have hE := Lib.hid (show rchB c = fw (edge c) N by rw [← hN]; rfl)
  simp only [hN, hnN] at hst hB B0 ⊢
  rw [hE.out]
  clear hc oc hrows hlen Kc hN hnN n1 n2 t1 t2 hE
  generalize edge c = E at *
  go_enter Try.func36, Try.ntmps36
  go_wp2_with fail
  refine hst.mono ?_
  rintro e w1 ⟨v, rvs, rfl, hM, b1⟩
  obtain ⟨q0, q1, q2⟩ := (hB.keep b1 hB.lt).three
  have hM' := Lib.hid hM
  have bel := below_wt B0 b1
  obtain ⟨g, gcap, rfl, g1, g2⟩ := hM.shape (by rw [tabV_len]; omega)
  rw [tabV_len] at hM'
  simp only [tabV_len]
  have hlo : w.heap.size ≤ (w.alloc (.cells #[.int .i64 (N : Int), .int .i64 c.t, .slice a N cap] 29)).heap.size := by simp
  have hlo2 := b1.size
  generalize (w.alloc (.cells #[.int .i64 (N : Int), .int .i64 c.t, .slice a N cap] 29)).heap.size = lo at *
  clear hM hst hB B0 b1
  go_wp2
  go_loopw [9] (fun i wr => ∃ s : Nat, s ≤ N ∧ i = .int .i64 (s : Int) ∧ Hid (MadeV 76 77 wr lo w1.heap.size (.slice (some ⟨g, 0, none⟩) N gcap) rvs (tabV N N (tr (fw E s)))) ∧ Below w.heap.size w wr) (fun i _ => N - (intOf i).toNat)
  case atStart => exact ⟨0, Nat.zero_le _, rfl, hM', bel⟩
  case round =>
    obtain ⟨wo, rfl⟩ : ∃ wo : World, wo = wr := ⟨_, rfl⟩
    obtain ⟨s, hs, rfl, hM, bel⟩ := hrel
    clear hM'
    by_cases hlt : s < N
    · obtain ⟨g', cap', r, rc, hv, -, -, c1, hr, r1, r2, c2, c3⟩ := hM.out.at s (by rw [tabV_len]; exact hlt) (by rw [tabV_rowlen _ _ _ _ hlt]; omega)
      rw [tabV_len] at hv
      rw [tabV_rowlen _ _ _ _ hlt] at c1 hr c2
      simp only [Value.slice.injEq, Option.some.injEq, Addr.mk.injEq] at hv
      obtain ⟨⟨rfl, -, -⟩, -, rfl⟩ := hv
      have cs := c2 s hlt
      have fs := c3 s
      have hsI : (s : Int) < (N : Int) := by omega
      have hM1 := (hM.out).set s (by rw [tabV_len]; exact hlt) r N rc hr s (.bool true)
      rw [tabV_set _ _ _ _ _ _ hlt] at hM1
      have e1 : (tabV N N fun x y => if x = s ∧ y = s then (Value.bool true) else tr (fw E s) x y) = tabV N N (tr fun x y => if x = s ∧ y = s then true else fw E s x y) := by
        apply tabV_congr
        intro x y _ _
        unfold tr
        by_cases h : x = s ∧ y = s <;> simp [h]
      rw [e1] at hM1
      have hel := eliminate_any _ rvs N s lo w1.heap.size _ _ hM1 hlt hN6 (by simp)
      rw [fwStep_elim] at hel
      have hset : Below w.heap.size w (wo.setCell ⟨r, s, none⟩ (.bool true)) := bel.setCell (by show w.heap.size ≤ r; omega) _
      clear c2 c3 e1 hM1 hr
      go_wp2_with fail
      refine hel.mono ?_
      rintro e w2 ⟨rfl, hM2, ht2⟩
      have hM2' := Lib.hid hM2
      clear hM2 cs fs c1
      go_wp2
      go_roundw
      case rel => exact ⟨s + 1, by omega, by go_num, hM2', hset.trans ((ht2.below (by have := hM.out.size; simp [World.setCell]; omega)).mono hlo)⟩
      case measure => simp [intOf]; omega
    · obtain rfl : s = N := by omega
      go_wp2
      go_ret
      exact ⟨_, _, rfl, hM.out.wide hlo hM.out.size (Nat.le_refl _), bel⟩

set_option maxRecDepth 100000 in
set_option maxHeartbeats 8000000 in
theorem reachedFrom_any (v : Value) (rvs : List Value) (N s lo hi : Nat) (M : Nat → Nat → Bool) (w : World) (hM : MadeV 76 77 w lo hi v rvs (tabV N N (tr M))) (hs : s < N) (hN : N ≤ 6) :
    Calls Try.prog 35 #[v, .int .i64 (s : Int)] w fun e w' => ∃ rv, e = .returned rv ∧ w'.ownsRow w.heap.size 2 1 rv (selL (M s) N).length (ints (selL (M s) N)) ∧ Below w.heap.size w w' := by
  obtain ⟨g, cap, r, rc, hv, g1, g2, c1, hr, r1, r2, c2, c3⟩ := hM.at s (by rw [tabV_len]; exact hs) (by rw [tabV_rowlen _ _ _ _ hs]; omega)
  rw [tabV_len] at hv
  rw [tabV_rowlen _ _ _ _ hs] at c1 hr c2
  subst hv
  have hsz := hM.size
  have hc2 := Lib.hid (show ∀ t, t < N → w.cell? ⟨r, t, none⟩ = some (.bool (M s t)) from fun t ht => by rw [c2 t ht, tabV_at _ _ _ _ _ hs ht]; rfl)
  obtain ⟨i0, hi, hz0, hz1, hz2⟩ := info_parts put_info
  have hi' := Lib.hid hi; have hz0' := Lib.hid hz0; have hz1' := Lib.hid hz1; have hz2' := Lib.hid hz2
  have hsI : (s : Int) < (N : Int) := by omega
  clear c2 c3 hr hM hi hz0 hz1 hz2
  generalize M s = p at *
  go_enter Try.func35, Try.ntmps35
  go_wp2
  go_loopw [5, 13] (fun v i wr => ∃ (t L : Nat) (ao : Option Addr) (cp : Nat), t ≤ N ∧ i = .int .i64 (t : Int) ∧ v = .slice ao L cp ∧ Hid ((selL p t).length = L) ∧ L ≤ t ∧ Hid (wr.ownsRow w.heap.size 2 1 (.slice ao L cp) L (ints (selL p t))) ∧ Below w.heap.size w wr) (fun _ i _ => N - (intOf i).toNat)
  case atStart => exact ⟨0, 0, none, 0, Nat.zero_le _, rfl, rfl, Lib.hid rfl, Nat.le_refl _, Lib.hid (World.ownsRow_nil w _ _ _), Below.refl _ _⟩
  case round =>
    obtain ⟨wo, rfl⟩ : ∃ wo : World, wo = wr := ⟨_, rfl⟩
    obtain ⟨t, L, ao, cp, ht, rfl, rfl, hL, hLt, hown, bel⟩ := hrel
    have hsz1 := bel.size
    by_cases hlt : t < N
    · have ct := (bel.cell (p := ⟨r, t, none⟩) (by show r < w.heap.size; omega)).trans (hc2.out t hlt)
      have htI : (t : Int) < (N : Int) := by omega
      have hy := Lib.hid (fun h => sel_succ_yes (p := p) (t := t) h)
      have hn := Lib.hid (fun h => sel_succ_no (p := p) (t := t) h)
      cases hp : p t with
      | true =>
        rw [hp] at ct
        have hy' := Lib.hid (hy.out hp)
        clear hy hn hp c1
        go_wp2_with (at_builtin; (refine wpList_append_own _ rfl _ _ 26 rfl w.heap.size 2 i0 (.int .i64 0) 1 8 Try.underlying26 hi'.out hz0'.out hz1'.out hz2'.out rfl (by decide) (.slice ao L cp) _ _ rfl (hown.out.alloc _) ⟨wo.heap.size, 0, none⟩ 1 1 [.int .i64 (t : Int)] rfl rfl (one_new _ _ _) (by simp [Value.oneCell']) (by unfold maxLen; omega) (by omega) (by simp; omega) ?_); intro v' w5 hown5 hgr5 _; obtain ⟨g5, c5, rfl, -⟩ := ownsRow_head hown5 (by omega))
        go_roundw
        case rel =>
          refine ⟨t + 1, L + 1, some ⟨g5, 0, none⟩, c5, by omega, by go_num, rfl, Lib.hid (by rw [hy'.out, List.length_append, hL.out]; rfl), by omega, Lib.hid ?_, (bel.alloc hsz1 _).grown hgr5 (by simp; omega) (fun k' hk' => (ownsRow_type hown.out hk').1)⟩
          rw [hy'.out]
          simpa [ints] using hown5
        case measure => simp [intOf]; omega
      | false =>
        rw [hp] at ct
        have hn' := Lib.hid (hn.out hp)
        clear hy hn hp c1
        go_wp2
        go_roundw
        case rel => exact ⟨t + 1, L, ao, cp, by omega, by go_num, rfl, Lib.hid (by rw [hn'.out]; exact hL.out), by omega, Lib.hid (by rw [hn'.out]; exact hown.out), bel⟩
        case measure => simp [intOf]; omega
    · obtain rfl : t = N := by omega
      go_wp2
      go_ret
      exact ⟨_, rfl, by rw [hL.out]; exact hown.out, bel⟩

set_option maxHeartbeats 4000000 in
theorem CanReach_impl (cv : Value) (c : Ch) (s : Int) (w : World) (hc : ChR w cv c) :
    Calls Try.prog 11 #[cv, .int .i64 s] w fun e w' => ∃ rv, e = .returned (.tuple #[rv, .int .i64 (canOf c s).2]) ∧ IntsMine 2 w' w.heap.size w'.heap.size rv (canOf c s).1 ∧ Below w.heap.size w w' := by
  obtain ⟨a, cap, rfl⟩ := hc.shape
  have B0 := below1 w (.cells #[.int .i64 c.n, .int .i64 c.t, .slice a c.w.length cap] 29)
  have hB := Blk.new w #[.int .i64 c.n, .int .i64 c.t, .slice a c.w.length cap] 29
  have Kc := hc.keep B0
  have hst := checkState_any _ c s _ Kc
  by_cases h0 : stCode c s = 0
  · obtain ⟨oc, hs⟩ := stCode_ok h0
    obtain ⟨n1, n2, t1, t2, hlen, hrows⟩ := chOk_all oc
    obtain ⟨s0, s1⟩ := inB_iff.1 hs
    obtain ⟨s, rfl⟩ : ∃ k : Nat, s = k := ⟨s.toNat, by omega⟩
    have hr := Lib.hid (show canOf c (s : Int) = (reachL c s, 0) by simp [canOf, h0])
    rw [h0] at hst
    have hre := fun w1 b1 => reachOf_any _ c w1 (Kc.keep b1) oc
    have hfr := fun w1 v rvs lo hi h => reachedFrom_any v rvs c.w.length s lo hi (rchB c) w1 h (by omega) (by omega)
    clear h0 hlen hrows oc hs Kc hc
    go_enter Try.func11, Try.ntmps11
    go_wp2_with fail
    refine hst.mono ?_
    rintro e w1 ⟨rfl, b1⟩
    obtain ⟨q0, q1, q2⟩ := (hB.keep b1 hB.lt).three
    have bb1 := below_wt B0 b1
    go_wp2_with fail
    refine (hre _ b1).mono ?_
    rintro e w2 ⟨v, rvs, rfl, hM, b2⟩
    have bb2 := below_wt bb1 b2
    have hf := hfr _ _ _ _ _ hM
    have hs2 := bb2.size
    clear hM hre hfr q0 q1 q2
    go_wp2_with fail
    refine hf.mono ?_
    rintro e w3 ⟨rv, rfl, hown, b3⟩
    have hown' := Lib.hid hown
    clear hown hf
    go_wp2
    go_ret2
    rw [hr.out]
    exact ⟨_, rfl, (Own.of (hown'.out.mono hs2) (Nat.le_refl _)).minei, below_wt bb2 b3⟩
  · obtain ⟨h1, h2⟩ := stCode_not h0
    have hr := Lib.hid (show canOf c s = ([], stCode c s) by simp [canOf, h0])
    clear h0 hc Kc
    generalize stCode c s = code at *
    go_enter Try.func11, Try.ntmps11
    go_wp2_with fail
    refine hst.mono ?_
    rintro e w1 ⟨rfl, b1⟩
    go_wp2
    go_ret2
    rw [hr.out]
    exact ⟨_, rfl, nil_mine _ _, below_wt B0 b1⟩
end Go.Proofs.Ytdlkmcnjdhanaaa
