/- Graphs that are valid: the project's and the specification's answer. Conditions: none. -/
import Derived.Test.YtgaadcinhaphpaaDoorGr
import Derived.Test.YtgaadcinhaphpaaDoorWi
import Derived.Test.YtgaadcinhaphpaaDoorLt
namespace Go.Proofs.YtgaadcinhaphpaaDoor
open Go.RowKit Go.Deep
set_option linter.unusedVariables false

theorem wrapI {x : Int} (h : -9223372036854775808 ≤ x ∧ x ≤ 9223372036854775807) : IntKind.i64.wrap x = x := by rw [IntKind.wrap_i64]; omega
def edgeB (n : Int) (e : List Int) : Bool := within e 2 0 (n - 1) && decide (e.getD 0 0 < e.getD 1 0)
def ltB (a b : List Int) : Bool := decide (a.getD 0 0 < b.getD 0 0) || (decide (a.getD 0 0 = b.getD 0 0) && decide (a.getD 1 0 < b.getD 1 0))
def edgeAt (n : Int) (xss : List (List Int)) (k : Nat) : Bool := edgeB n (xss.getD k []) && (decide (k = 0) || ltB (xss.getD (k - 1) []) (xss.getD k []))
def grOk (g : Gr) : Bool := inB g.n 1 5 && (List.range g.e.length).all (edgeAt g.n g.e)

theorem edgeB_len {n : Int} {e : List Int} (h : edgeB n e = true) : e.length = 2 := by
  simp only [edgeB, within, Bool.and_eq_true, decide_eq_true_eq] at h
  omega
theorem edgeAt_len {n : Int} {xss : List (List Int)} {k i : Nat} (h : (List.range k).all (edgeAt n xss) = true) (hi : i < k) : (xss.getD i []).length = 2 := by
  rw [List.all_eq_true] at h
  have := h i (by simpa using hi)
  simp only [edgeAt, Bool.and_eq_true] at this
  exact edgeB_len this.1
theorem two_of {e : List Int} (h : e.length = 2) : ∃ x y, e = [x, y] := by
  match e, h with
  | [x, y], _ => exact ⟨x, y, rfl⟩
theorem rises_two (n : Int) (e : List Int) (h : e.length = 2) : rises 0 (n - 1) e = edgeB n e := by
  obtain ⟨x, y, rfl⟩ := two_of h
  rw [Bool.eq_iff_iff]
  simp [rises, edgeB, within, riseAt, inB, List.range_succ]
  omega
theorem edgeB_no {n : Int} {e : List Int} (h : ¬ (e.length : Int) = 2) : edgeB n e = false := by
  simp [edgeB, within, h]

/-! ### the project -/
set_option maxHeartbeats 2000000 in
theorem isEdge_any (v : Value) (xs : List Int) (n : Int) (w : World) (hv : Ints w v xs) (h0 : 1 ≤ n) (h1 : n ≤ 100) :
    Calls Tryd.prog 61 #[v, .int .i64 n] w fun e w' => e = .returned (.bool (edgeB n xs)) ∧ Below w.heap.size w w' := by
  have haw := fun p : Later w => areWithin_any v xs 2 0 (n - 1) p.wd (hv.keep p.bel)
  obtain ⟨hm, a, cap, rfl⟩ := hv.len
  unfold maxLen at hm
  have hw : IntKind.i64.wrap (n - 1) = n - 1 := wrapI (by omega)
  rcases hq : within xs 2 0 (n - 1) with _ | _
  · have hr := Lib.hid (show edgeB n xs = false by simp [edgeB, hq])
    rw [hq] at haw
    clear hq hv
    go_enter Tryd.func61, Tryd.ntmps61
    go_wp2
    refine region_later (by kernel_rfl) (by kernel_rfl) ?_
    repeat (go_big_quiet_step ((go_at_call 68; exact later_of (haw _))))
    refine wpQuiet_nil ?_
    intro _ hw'
    obtain ⟨⟨W2, B2⟩, hw''⟩ := hw'
    subst hw''
    go_wp2
    go_ret
    exact ⟨ret_bool hr.out.symm, B2⟩
  · have hr := Lib.hid (show edgeB n xs = decide (xs.getD 0 0 < xs.getD 1 0) by simp [edgeB, hq])
    rw [hq] at haw
    have hlen : (xs.length : Int) = 2 := by simp only [within, Bool.and_eq_true, decide_eq_true_eq] at hq; exact hq.1
    obtain ⟨b, off, cap', hvv, hb, hc⟩ := hv.at (by omega)
    simp only [Value.slice.injEq] at hvv
    obtain ⟨rfl, -, rfl⟩ := hvv
    have c0 := hc 0 (by omega)
    have c1 := hc 1 (by omega)
    rw [Nat.add_zero] at c0
    have l0 : 0 < xs.length := by omega
    have l1 : 1 < xs.length := by omega
    have k1 : (1 : Int) < (xs.length : Int) := by omega
    have k0 : (0 : Int) < (xs.length : Int) := by omega
    clear hq hv hc hlen
    generalize xs.getD 0 0 = x at c0 hr
    generalize xs.getD 1 0 = y at c1 hr
    have d0 := Later.cell c0
    have d1 := Later.cell c1
    go_enter Tryd.func61, Tryd.ntmps61
    go_wp2
    refine region_later (by kernel_rfl) (by kernel_rfl) ?_
    repeat (go_big_quiet_step ((go_at_call 68; exact later_of (haw _))))
    refine wpQuiet_nil ?_
    intro _ hw'
    obtain ⟨⟨W2, B2⟩, hw''⟩ := hw'
    subst hw''
    go_wp2
    go_ret
    exact ⟨ret_bool hr.out.symm, B2⟩

def cmpI (x y : Int) : Int := if x < y then -1 else if y < x then 1 else 0
set_option maxHeartbeats 1000000 in
theorem isNaN_any (x : Int) (w : World) : Calls Tryd.prog 103 #[.int .i64 x] w fun e w' => e = .returned (.bool false) ∧ w = w' := by
  go_enter Tryd.func103, Tryd.ntmps103
  go_wp2
  go_ret
  exact ⟨by simp, rfl⟩
set_option maxHeartbeats 1000000 in
theorem cmpC_any (x y : Int) (w : World) : Calls Tryd.prog 81 #[.int .i64 x, .int .i64 y] w fun e w' => e = .returned (.int .i64 (cmpI x y)) ∧ w = w' := by
  by_cases h1 : x < y
  · have hr := Lib.hid (show cmpI x y = -1 by simp [cmpI, h1])
    go_enter Tryd.func81, Tryd.ntmps81
    go_wp2_with (go_at_call 103; refine (isNaN_any _ _).mono ?_; rintro e w' ⟨rfl, rfl⟩)
    go_ret
    exact ⟨ret_int hr.out.symm, rfl⟩
  · by_cases h2 : y < x
    · have hr := Lib.hid (show cmpI x y = 1 by simp [cmpI, h1, h2])
      go_enter Tryd.func81, Tryd.ntmps81
      go_wp2_with (go_at_call 103; refine (isNaN_any _ _).mono ?_; rintro e w' ⟨rfl, rfl⟩)
      go_ret
      exact ⟨ret_int hr.out.symm, rfl⟩
    · have hr := Lib.hid (show cmpI x y = 0 by simp [cmpI, h1, h2])
      go_enter Tryd.func81, Tryd.ntmps81
      go_wp2_with (go_at_call 103; refine (isNaN_any _ _).mono ?_; rintro e w' ⟨rfl, rfl⟩)
      go_ret
      exact ⟨ret_int hr.out.symm, rfl⟩

set_option maxHeartbeats 2000000 in
/-- slices.Compare of two lists of two numbers: below 0 just if the first comes first -/
theorem slCompare2_any (a b : Value) (xs ys : List Int) (w : World) (ha : Ints w a xs) (hb : Ints w b ys) (hx : xs.length = 2) (hy : ys.length = 2) :
    Calls Tryd.prog 62 #[a, b] w fun e w' => ∃ r : Int, e = .returned (.int .i64 r) ∧ decide (0 ≤ r) = !ltB xs ys ∧ w = w' := by
  obtain ⟨b1, o1, c1, rfl, -, hc1⟩ := ha.at (by omega)
  obtain ⟨b2, o2, c2, rfl, -, hc2⟩ := hb.at (by omega)
  have x0 := hc1 0 (by omega)
  have x1 := hc1 1 (by omega)
  have y0 := hc2 0 (by omega)
  have y1 := hc2 1 (by omega)
  have hdef := Lib.hid (show ltB xs ys = (decide (xs.getD 0 0 < ys.getD 0 0) || (decide (xs.getD 0 0 = ys.getD 0 0) && decide (xs.getD 1 0 < ys.getD 1 0))) from rfl)
  rw [hx, hy]
  rw [Nat.add_zero] at x0 y0
  clear hc1 hc2 ha hb hx hy
  generalize xs.getD 0 0 = p0 at x0 hdef
  generalize xs.getD 1 0 = p1 at x1 hdef
  generalize ys.getD 0 0 = q0 at y0 hdef
  generalize ys.getD 1 0 = q1 at y1 hdef
  have k0 := cmpC_any p0 q0 w
  have k1 := cmpC_any p1 q1 w
  have L := Lib.hid (show ∀ r : Int, (r = cmpI p0 q0 ∧ r ≠ 0) ∨ (cmpI p0 q0 = 0 ∧ r = cmpI p1 q1) → decide (0 ≤ r) = !ltB xs ys by
    intro r hr
    rw [hdef.out]
    unfold cmpI at hr
    rw [Bool.eq_iff_iff]
    simp only [decide_eq_true_eq, Bool.not_eq_true', Bool.or_eq_false_iff, Bool.and_eq_false_iff, decide_eq_false_iff_not]
    split at hr <;> split at hr <;> (try split at hr) <;> (try split at hr) <;> omega)
  clear hdef
  generalize cmpI p0 q0 = s0 at k0 L
  generalize cmpI p1 q1 = s1 at k1 L
  by_cases hs0 : s0 = 0
  · subst hs0
    by_cases hs1 : s1 = 0
    · subst hs1
      go_enter Tryd.func62, Tryd.ntmps62
      go_wp2
      refine wp_loop_rounds 3 ?_
      rw [rounds_succ]
      go_wp2_with fail
      refine k0.mono ?_
      rintro e w' ⟨rfl, rfl⟩
      go_wp2
      rw [rounds_succ]
      go_wp2_with fail
      refine k1.mono ?_
      rintro e w' ⟨rfl, rfl⟩
      go_wp2
      rw [rounds_succ]
      go_wp2
      go_ret
      exact ⟨_, rfl, L.out _ (Or.inr ⟨by first | rfl | trivial, rfl⟩), rfl⟩
    · have hn1 : (s1 != 0) = true := by simpa using hs1
      have hs1' := Lib.hid hs1
      clear hs1
      go_enter Tryd.func62, Tryd.ntmps62
      go_wp2
      refine wp_loop_rounds 2 ?_
      rw [rounds_succ]
      go_wp2_with fail
      refine k0.mono ?_
      rintro e w' ⟨rfl, rfl⟩
      go_wp2
      rw [rounds_succ]
      go_wp2_with fail
      refine k1.mono ?_
      rintro e w' ⟨rfl, rfl⟩
      go_wp2
      go_ret
      exact ⟨_, rfl, L.out _ (Or.inr ⟨by first | rfl | trivial, rfl⟩), rfl⟩
  · have hn0 : (s0 != 0) = true := by simpa using hs0
    have hs0' := Lib.hid hs0
    clear hs0
    go_enter Tryd.func62, Tryd.ntmps62
    go_wp2
    refine wp_loop_rounds 1 ?_
    rw [rounds_succ]
    go_wp2_with fail
    refine k0.mono ?_
    rintro e w' ⟨rfl, rfl⟩
    go_wp2
    go_ret
    exact ⟨_, rfl, L.out _ (Or.inl ⟨rfl, hs0'.out⟩), rfl⟩
end Go.Proofs.YtgaadcinhaphpaaDoor
