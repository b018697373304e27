/- What the laws do with coupled chains: as with chains, for both have the same three fields. Conditions: those of the chains' laws. -/
import Derived.Test.YtcijggfbfpfcdaaKinds
import Derived.Test.YtcijggfbfpfcdaaSame
import Derived.Test.YtcijggfbfpfcdaaTo
import Derived.Test.YtcijggfbfpfcdaaEq
import Derived.Test.YtcijggfbfpfcdaaSz
namespace Go.Proofs.Ytcijggfbfpfcdaa
open Go.ChangeShapes Go.WideShapes Go.ChangeAt Go.RowKit Go.Deep Go.Joins

set_option maxHeartbeats 1000000 in
theorem szCoupled_any (cv : Value) (c : Ch) (left : Int) (w : World) (hv : ChR w cv c) (h0 : 0 ≤ left) (h1 : left ≤ 1048576) :
    Calls Try.prog 5 #[cv, .int .i64 left] w fun e w' => e = .returned (.int .i64 (szLeft left (c.w.length + total c.w))) ∧ Below w.heap.size w w' := by
  obtain ⟨v, rfl, hr⟩ := hv
  have hr' : Rows2 (w.alloc (.cells #[.int .i64 c.n, .int .i64 c.t, v] 25)) v c.w := hr.keep ((Below.refl _ _).alloc (Nat.le_refl _) _)
  obtain ⟨hm, a, cap, rfl⟩ := hr.len
  by_cases h : left < (c.w.length + total c.w : Nat)
  · have hs := Lib.hid (szLeft_no h)
    have hneg : szLeft left (c.w.length + total c.w) < 0 := by rw [hs.out]; decide
    go_enter Try.func5, Try.ntmps5
    go_wp2_with (go_at_call 12; refine (szInt64SS_any _ c.w _ _ hr' h0 h1).mono ?_; rintro e w' ⟨rfl, rfl⟩)
    go_ret
    exact ⟨ret_int hs.out.symm, (Below.refl _ _).alloc (Nat.le_refl _) _⟩
  · have hs := Lib.hid (szLeft_yes (show ((c.w.length + total c.w : Nat) : Int) ≤ left by omega))
    have hneg : 0 ≤ szLeft left (c.w.length + total c.w) := by rw [hs.out]; omega
    go_enter Try.func5, Try.ntmps5
    go_wp2_with (go_at_call 12; refine (szInt64SS_any _ c.w _ _ hr' h0 h1).mono ?_; rintro e w' ⟨rfl, rfl⟩)
    go_ret
    exact ⟨rfl, (Below.refl _ _).alloc (Nat.le_refl _) _⟩

set_option maxHeartbeats 2000000 in
theorem toCoupled_any (cv : Value) (c : Ch) (w : World) (hv : ChR w cv c) (h1 : c.w.length + total c.w ≤ 2097152) :
    Calls Try.prog 8 #[cv] w fun e w' => ∃ cv', e = .returned cv' ∧ ChOwn 42 2 w' w.heap.size w'.heap.size cv' c ∧ Below w.heap.size w w' := by
  obtain ⟨v, rfl, hr⟩ := hv
  go_enter Try.func8, Try.ntmps8
  go_wp2_with fail
  refine (toInt64SS_any v c.w _ (hr.keep (below3 _ _ _ _)) h1).mono ?_
  rintro e w1 ⟨v', rfl, hown, hbel⟩
  have hB1 := ((Blk.new (w.alloc (.cells #[.int .i64 c.n, .int .i64 c.t, v] 25)) #[.int .i64 0, .int .i64 0, .slice none 0 0] 32).alloc (.cells #[.int .i64 c.n, .int .i64 c.t, .slice none 0 0] 32)).keep hbel (by simp)
  have hB2 := (Blk.new ((w.alloc (.cells #[.int .i64 c.n, .int .i64 c.t, v] 25)).alloc (.cells #[.int .i64 0, .int .i64 0, .slice none 0 0] 32)) #[.int .i64 c.n, .int .i64 c.t, .slice none 0 0] 32).keep hbel (by simp)
  simp only [World.size_alloc] at hB1 hB2 hown hbel
  obtain ⟨_, a', cap', rfl⟩ := hown.rows.len
  have c10 := hB1.cell 0
  have c11 := hB1.cell 1
  have c12 := hB1.cell 2
  have f10 := hB1.frozen 0
  have f11 := hB1.frozen 1
  have f12 := hB1.frozen 2
  have c20 := hB2.cell 0
  have c21 := hB2.cell 1
  have c22 := hB2.cell 2
  have f22 := hB2.frozen 2
  have hbel' := Lib.hid (below_wt (below3 w _ _ _) (by simpa only [World.size_alloc] using hbel))
  clear hbel
  simp at c10 c11 c12 c20 c21 c22
  go_wp2
  refine bodyPost_ret (v := .agg #[.int .i64 c.n, .int .i64 c.t, .slice a' c.w.length cap']) (by simp [results, Try.results8, go_sem, c10, c11, c12]) rfl ?_
  refine ⟨_, rfl, ⟨_, rfl, (hown.same (((((SameOn.refl _ _ _).set ?_ _).set ?_ _).set ?_ _).set ?_ _)).wide (by omega) (by simp [World.setCell])⟩, (((hbel'.out.setCell ?_ _).setCell ?_ _).setCell ?_ _).setCell ?_ _⟩
  all_goals (simp only; omega)

set_option maxHeartbeats 4000000 in
theorem eqCoupled_any (a b : Value) (c d : Ch) (w : World) (ha : ChR w a c) (hb : ChR w b d) :
    Calls Try.prog 11 #[a, b] w fun e w' => e = .returned (.bool (chEq c d)) ∧ Below w.heap.size w w' := by
  obtain ⟨v1, rfl, h1⟩ := ha
  obtain ⟨v2, rfl, h2⟩ := hb
  obtain ⟨n1, t1, r1⟩ := c
  obtain ⟨n2, t2, r2⟩ := d
  simp only at h1 h2 ⊢
  have h1' := h1.keep (below2 w (.cells #[.int .i64 n1, .int .i64 t1, v1] 32) (.cells #[.int .i64 n2, .int .i64 t2, v2] 32))
  have h2' := h2.keep (below2 w (.cells #[.int .i64 n1, .int .i64 t1, v1] 32) (.cells #[.int .i64 n2, .int .i64 t2, v2] 32))
  by_cases e1 : n1 = n2
  · subst e1
    by_cases e2 : t1 = t2
    · subst e2
      have hr := Lib.hid (show chEq ⟨n1, t1, r1⟩ ⟨n1, t1, r2⟩ = decide (r1 = r2) by simp [chEq])
      have hcall := eqInt64SS_any v1 v2 r1 r2 _ h1' h2'
      by_cases e3 : r1 = r2
      · have hr2 := Lib.hid (hr.out.trans (decide_eq_true e3))
        rw [decide_eq_true e3] at hcall
        clear e3
        go_enter Try.func11, Try.ntmps11
        go_wp2_with fail
        refine hcall.mono ?_
        rintro e w' ⟨rfl, nq, rfl⟩
        go_wp2
        go_ret
        exact ⟨ret_bool hr2.out.symm, below_drewN (below2 _ _ _) _⟩
      · have hr2 := Lib.hid (hr.out.trans (decide_eq_false e3))
        rw [decide_eq_false e3] at hcall
        clear e3
        go_enter Try.func11, Try.ntmps11
        go_wp2_with fail
        refine hcall.mono ?_
        rintro e w' ⟨rfl, nq, rfl⟩
        go_wp2
        go_ret
        exact ⟨ret_bool hr2.out.symm, below_drewN (below2 _ _ _) _⟩
    · have hr := Lib.hid (show chEq ⟨n1, t1, r1⟩ ⟨n1, t2, r2⟩ = false by simp [chEq, e2])
      have hne : (t1 != t2) = true := by simpa using e2
      clear e2
      go_enter Try.func11, Try.ntmps11
      go_wp2
      go_ret
      exact ⟨ret_bool hr.out.symm, below2 _ _ _⟩
  · have hr := Lib.hid (show chEq ⟨n1, t1, r1⟩ ⟨n2, t2, r2⟩ = false by simp [chEq, e1])
    have hne : (n1 != n2) = true := by simpa using e1
    clear e1
    go_enter Try.func11, Try.ntmps11
    go_wp2
    go_ret
    exact ⟨ret_bool hr.out.symm, below2 _ _ _⟩

theorem to_co (cv : Value) (c : Ch) (w : World) (hv : ChR w cv c) (h1 : c.w.length + total c.w ≤ 2097152) :
    Calls Try.prog 8 #[cv] w fun e w' => ∃ v', e = .returned v' ∧ ChMine 42 2 w' w.heap.size w'.heap.size v' c ∧ Below w.heap.size w w' :=
  (toCoupled_any cv c w hv h1).mono fun _ _ ⟨v, h1, h2, h3⟩ => ⟨v, h1, h2.mine, h3⟩

theorem eq_co (a b : Value) (c : Ch) (w : World) (ha : ChR w a c) (hb : ChR w b c) :
    Calls Try.prog 11 #[a, b] w fun e w' => e = .returned (.bool true) ∧ Below w.heap.size w w' :=
  (eqCoupled_any a b c c w ha hb).mono fun _ _ ⟨h1, h2⟩ => ⟨by rw [h1, chEq_self], h2⟩

set_option maxRecDepth 100000 in
theorem open_coupled {H : Type} {enc : TypeId × Value → H} {W : World} {base b0 : Nat} {held : Bool} {v : Value} {d : DataW H} {p : List MemPlace}
    (hv : Value.okWide Try.prog W .any base 25 v) (h : DataW.Trod enc Try.prog W b0 (fun _ => true) held 25 v d p) : ∃ c, ChR W v c := by
  obtain ⟨c0, c1, c2, y0, y1, y2, n, rfl, _, _, h0, h1, h2⟩ := open_agg3 Try.underlying25 (by kernel_rfl) (by kernel_rfl) hv h
  obtain ⟨a, e0, _, _⟩ := DataW.trod_int Try.underlying2 h0
  obtain ⟨b, e1, _, _⟩ := DataW.trod_int Try.underlying2 h1
  obtain ⟨xss, hr⟩ := open_rows h2
  simp at e0 e1
  subst e0 e1
  exact ⟨⟨a, b, xss⟩, c2, rfl, hr⟩

end Go.Proofs.Ytcijggfbfpfcdaa
