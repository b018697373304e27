/- Lists of numbers under tests: slices.ContainsFunc over int64s, lists within bounds, rising lists, lists compared. Conditions: none, where not told. -/
import Derived.Test.YtgaadcinhaphpaaDoorOk
import Derived.Test.YtgaadcinhaphpaaDoorOkS
import Derived.Test.YtgaadcinhaphpaaDoorStep
namespace Go.Proofs.YtgaadcinhaphpaaDoor
open Go.RowKit Go.Deep
set_option linter.unusedVariables false

theorem any_take_succ {p : Int → Bool} (xs : List Int) (k : Nat) (h : k < xs.length) (h0 : (xs.take k).any p = false) (h1 : p (xs.getD k 0) = false) : (xs.take (k + 1)).any p = false := by
  rw [List.take_succ_eq_append_getElem h, List.any_append, h0]
  simp only [List.getD, List.getElem?_eq_getElem h, Option.getD_some] at h1
  simp [h1]
theorem any_yes {p : Int → Bool} (xs : List Int) (k : Nat) (h : k < xs.length) (h1 : p (xs.getD k 0) = true) : xs.any p = true := by
  rw [List.any_eq_true]
  exact ⟨_, getD_mem h, h1⟩
theorem any_all (xs : List Int) (lo hi : Int) : (xs.any fun x => !inB x lo hi) = !(xs.all fun x => inB x lo hi) := by
  rw [List.any_eq_not_all_not]; simp

set_option maxHeartbeats 2000000 in
theorem indexF_any (F : Nat) (caps : Array Value) (p : Int → Bool) (v : Value) (xs : List Int) (w : World) (hv : Ints w v xs) (hcf : ∀ args w, (callFunc F args).run Tryd.prog w = .ok (.enter F args) w)
    (hF0 : ∀ x, Calls Tryd.prog F (#[.int .i64 x] ++ caps) w fun e w' => e = .returned (.bool (p x)) ∧ w = w') :
    Calls Tryd.prog 105 #[v, .func (.func F) #[] caps] w fun e w' => ∃ r : Int, e = .returned (.int .i64 r) ∧ decide (0 ≤ r) = xs.any p ∧ w = w' := by
  obtain ⟨hm, a, cap, rfl⟩ := hv.len
  unfold maxLen at hm
  have hF := Lib.hid hF0
  clear hF0
  go_enter Tryd.func105, Tryd.ntmps105
  go_wp2
  go_loop [8] (fun i => ∃ k : Nat, k ≤ xs.length ∧ i = .int .i64 k ∧ Hid ((xs.take k).any p = false)) (fun i => xs.length - (intOf i).toNat)
  case atStart => exact ⟨0, Nat.zero_le _, rfl, show _ = _ by simp⟩
  case round =>
    obtain ⟨k, hk, rfl, hn⟩ := hrel
    by_cases hlt : k < xs.length
    · obtain ⟨b, off, cap', hvv, _, hc⟩ := hv.at (by omega)
      simp only [Value.slice.injEq] at hvv
      obtain ⟨rfl, _, rfl⟩ := hvv
      have hcell := hc k hlt
      clear hc
      have ha := Lib.hid (any_take_succ (p := p) xs k hlt hn.out)
      have hy := Lib.hid (any_yes (p := p) xs k hlt)
      generalize xs.getD k 0 = x at hcell ha hy
      have hcall := hF.out x
      rcases hp : p x with _ | _
      · rw [hp] at hcall
        have hn2 := Lib.hid (ha.out hp)
        clear hp
        go_wp2_with fail
        refine hcall.mono ?_
        rintro e w' ⟨rfl, rfl⟩
        go_wp2
        go_round
        case rel => exact ⟨k + 1, by omega, by go_num, hn2⟩
        case measure => simp [intOf]; omega
      · rw [hp] at hcall
        have hn2 := Lib.hid (hy.out hp)
        clear hp
        go_wp2_with fail
        refine hcall.mono ?_
        rintro e w' ⟨rfl, rfl⟩
        go_wp2
        go_ret
        exact ⟨k, rfl, by rw [hn2.out]; simp, rfl⟩
    · obtain rfl : k = xs.length := by omega
      have hn2 := Lib.hid (show xs.any p = false by have := hn.out; rw [List.take_length] at this; exact this)
      go_wp2
      go_ret
      exact ⟨-1, rfl, by rw [hn2.out]; rfl, rfl⟩

set_option maxHeartbeats 2000000 in
theorem contF_any (F : Nat) (caps : Array Value) (p : Int → Bool) (v : Value) (xs : List Int) (w : World) (hv : Ints w v xs) (hcf : ∀ args w, (callFunc F args).run Tryd.prog w = .ok (.enter F args) w)
    (hF0 : ∀ x, Calls Tryd.prog F (#[.int .i64 x] ++ caps) w fun e w' => e = .returned (.bool (p x)) ∧ w = w') :
    Calls Tryd.prog 84 #[v, .func (.func F) #[] caps] w fun e w' => e = .returned (.bool (xs.any p)) ∧ w = w' := by
  have hI := indexF_any F caps p v xs w hv hcf hF0
  obtain ⟨hm, a, cap, rfl⟩ := hv.len
  go_enter Tryd.func84, Tryd.ntmps84
  go_wp2_with fail
  refine hI.mono ?_
  rintro e w' ⟨r, rfl, hr, rfl⟩
  have hr' := Lib.hid hr
  clear hr
  go_wp2
  go_ret
  exact ⟨ret_bool hr'.out, rfl⟩

theorem cf_aw : ∀ args w, (callFunc 83 args).run Tryd.prog w = .ok (.enter 83 args) w := fun _ _ => by go_simp
theorem aw_one (x lo hi : Int) (b1 b2 : Nat) (w : World) (h1 : w.cell? ⟨b1, 0, none⟩ = some (.int .i64 lo)) (h2 : w.cell? ⟨b2, 0, none⟩ = some (.int .i64 hi)) :
    Calls Tryd.prog 83 #[.int .i64 x, .pointer (some ⟨b1, 0, none⟩), .pointer (some ⟨b2, 0, none⟩)] w fun e w' => e = .returned (.bool (!inB x lo hi)) ∧ w = w' := by
  have hc := isIn_any x lo hi w
  generalize inB x lo hi = ok at hc ⊢
  go_enter Tryd.func83, Tryd.ntmps83
  go_wp2_with fail
  refine hc.mono ?_
  rintro e w' ⟨rfl, rfl⟩
  go_wp2
  go_ret
  exact ⟨rfl, rfl⟩

/-- so many numbers, all within the bounds -/
def within (xs : List Int) (n lo hi : Int) : Bool := decide ((xs.length : Int) = n) && xs.all (fun x => inB x lo hi)
set_option maxHeartbeats 2000000 in
theorem areWithin_any (v : Value) (xs : List Int) (n lo hi : Int) (w : World) (hv : Ints w v xs) :
    Calls Tryd.prog 68 #[v, .int .i64 n, .int .i64 lo, .int .i64 hi] w fun e w' => e = .returned (.bool (within xs n lo hi)) ∧ Below w.heap.size w w' := by
  have W2 := below2 w (.cells #[.int .i64 lo] 2) (.cells #[.int .i64 hi] 2)
  have hB1 := (Blk.new w #[.int .i64 lo] 2).alloc (.cells #[.int .i64 hi] 2)
  have hB2 := Blk.new (w.alloc (.cells #[.int .i64 lo] 2)) #[.int .i64 hi] 2
  simp only [World.size_alloc] at hB2
  have hcont := contF_any 83 #[.pointer (some ⟨w.heap.size, 0, none⟩), .pointer (some ⟨w.heap.size + 1, 0, none⟩)] (fun x => !inB x lo hi) v xs _ (hv.keep W2) cf_aw (fun x => aw_one x lo hi w.heap.size (w.heap.size + 1) _ (hB1.cell 0) (hB2.cell 0))
  rw [any_all] at hcont
  obtain ⟨hm, a, cap, rfl⟩ := hv.len
  unfold maxLen at hm
  by_cases h1 : (xs.length : Int) = n
  · have hr := Lib.hid (show within xs n lo hi = (xs.all fun x => inB x lo hi) by simp [within, h1])
    generalize (xs.all fun x => inB x lo hi) = ok at hcont hr
    have h1' : ((xs.length : Int) == n) = true := by simpa using h1
    clear h1
    go_enter Tryd.func68, Tryd.ntmps68
    go_wp2_with fail
    refine hcont.mono ?_
    rintro e w' ⟨rfl, rfl⟩
    go_wp2
    go_ret
    exact ⟨by rw [hr.out]; simp, W2⟩
  · have hr := Lib.hid (show within xs n lo hi = false by simp [within, h1])
    have h1' : ((xs.length : Int) == n) = false := by simpa using h1
    clear h1
    go_enter Tryd.func68, Tryd.ntmps68
    go_wp2
    go_ret
    exact ⟨by rw [hr.out]; rfl, W2⟩


/-! ### rising lists -/
def risesB : Int → Int → List Int → Bool
  | _, _, [] => true
  | last, count, x :: r => decide (last < x) && (decide (x < count) && risesB x count r)
/-- what a rising list's test says at k: the element is within the bounds and above the one before it -/
def riseAt (lo hi : Int) (xs : List Int) (k : Nat) : Bool := inB (xs.getD k 0) lo hi && (decide (k = 0) || decide (xs.getD (k - 1) 0 < xs.getD k 0))
def rises (lo hi : Int) (xs : List Int) : Bool := (List.range xs.length).all (riseAt lo hi xs)
theorem range_all_succ (p : Nat → Bool) (k : Nat) : (List.range (k + 1)).all p = ((List.range k).all p && p k) := by
  rw [List.range_succ, List.all_append]; simp
theorem range_all_no {p : Nat → Bool} {n k : Nat} (h : k < n) (hp : p k = false) : (List.range n).all p = false := by
  rw [List.all_eq_false]; exact ⟨k, by simpa using h, by simp [hp]⟩

set_option maxHeartbeats 2000000 in
theorem l00Rises_any (v : Value) (xs : List Int) (lo hi : Int) (w : World) (hv : Ints w v xs) :
    Calls Tryd.prog 58 #[v, .int .i64 lo, .int .i64 hi] w fun e w' => e = .returned (.bool (rises lo hi xs)) ∧ ∃ m, w' = w.drewN m := by
  obtain ⟨hm, a, cap, rfl⟩ := hv.len
  unfold maxLen at hm
  have hR := Lib.hid (show rises lo hi xs = (List.range xs.length).all (riseAt lo hi xs) from rfl)
  go_enter Tryd.func58, Tryd.ntmps58
  go_wp2
  go_loopw [7] (fun i wr => ∃ k : Nat, k ≤ xs.length ∧ i = .int .i64 k ∧ Hid (∃ m, wr = w.drewN m) ∧ Hid ((List.range k).all (riseAt lo hi xs) = true)) (fun i _ => xs.length - (intOf i).toNat)
  case atStart => exact ⟨0, Nat.zero_le _, rfl, ⟨0, rfl⟩, show _ = _ by simp⟩
  case round =>
    obtain ⟨k, hk, rfl, hw, ht⟩ := hrel
    by_cases hlt : k < xs.length
    · obtain ⟨b, off, cap', hvv, _, hc⟩ := hv.at (by omega)
      simp only [Value.slice.injEq] at hvv
      obtain ⟨rfl, -, rfl⟩ := hvv
      have hc1 : wr.cell? ⟨b, off + k, none⟩ = some (.int .i64 (xs.getD k 0)) := by obtain ⟨m, rfl⟩ := hw.out; exact hc k hlt
      have hs := Lib.hid (range_all_succ (riseAt lo hi xs) k)
      have hno := Lib.hid (fun h => range_all_no (p := riseAt lo hi xs) hlt h)
      have hdef := Lib.hid (show riseAt lo hi xs k = (inB (xs.getD k 0) lo hi && (decide (k = 0) || decide (xs.getD (k - 1) 0 < xs.getD k 0))) from rfl)
      by_cases hin : inB (xs.getD k 0) lo hi = true
      · by_cases h0 : k = 0
        · have hgo := Lib.hid (show (List.range (k + 1)).all (riseAt lo hi xs) = true by rw [hs.out, ht.out, hdef.out, hin]; simp [h0])
          have hz : decide (0 < k) = false := by simp [h0]
          have hz2 : decide ((0 : Int) < (k : Int)) = false := by simp [h0]
          clear hc h0
          generalize xs.getD k 0 = x at hc1 hin
          go_wp2
          go_quiet ((go_at_call 25; exact l00In_q _ _ _ _ _))
          go_wp2
          go_roundw
          case rel => exact ⟨k + 1, by omega, by go_num, drawn_more hw.out _, hgo⟩
          case measure => simp [intOf]; omega
        · have hc2 : wr.cell? ⟨b, off + (k - 1), none⟩ = some (.int .i64 (xs.getD (k - 1) 0)) := by obtain ⟨m, rfl⟩ := hw.out; exact hc (k - 1) (by omega)
          have hz : decide (0 < k) = true := by simp; omega
          have hz2 : decide ((0 : Int) < (k : Int)) = true := by simp; omega
          have hkm : (((k : Nat) : Int) - 1).toNat = k - 1 := by omega
          have hk1 : (0 : Int) ≤ (k : Int) - 1 := by omega
          have hk2 : (k : Int) - 1 < (xs.length : Int) := by omega
          have hk3 : k - 1 < xs.length := by omega
          clear hc
          by_cases hl : xs.getD (k - 1) 0 < xs.getD k 0
          · have hgo := Lib.hid (show (List.range (k + 1)).all (riseAt lo hi xs) = true by rw [hs.out, ht.out, hdef.out, hin]; simp only [Bool.true_and, decide_eq_true hl, Bool.or_true])
            generalize xs.getD k 0 = x at hc1 hin hl
            generalize xs.getD (k - 1) 0 = y at hc2 hl
            have hl2 : decide (x ≤ y) = false := by simpa using hl
            clear h0 hl
            go_wp2
            go_quiet ((go_at_call 25; exact l00In_q _ _ _ _ _))
            go_wp2
            go_roundw
            case rel => exact ⟨k + 1, by omega, by go_num, drawn_more hw.out _, hgo⟩
            case measure => simp [intOf]; omega
          · have hfin := Lib.hid (hR.out.trans (hno.out (by rw [hdef.out, hin, decide_eq_false h0, decide_eq_false hl]; rfl)))
            generalize xs.getD k 0 = x at hc1 hin hl
            generalize xs.getD (k - 1) 0 = y at hc2 hl
            have hl2 : decide (x ≤ y) = true := by simp; omega
            clear h0 hl
            go_wp2
            go_quiet ((go_at_call 25; exact l00In_q _ _ _ _ _))
            go_wp2
            go_ret
            exact ⟨ret_bool hfin.out.symm, drawn_more hw.out _⟩
      · have hin' : inB (xs.getD k 0) lo hi = false := by simpa using hin
        have hfin := Lib.hid (hR.out.trans (hno.out (by rw [hdef.out, hin']; rfl)))
        clear hc hin
        generalize xs.getD k 0 = x at hc1 hin'
        go_wp2
        go_quiet ((go_at_call 25; exact l00In_q _ _ _ _ _))
        go_wp2
        go_ret
        exact ⟨ret_bool hfin.out.symm, drawn_more hw.out _⟩
    · obtain rfl : k = xs.length := by omega
      have hfin := Lib.hid (hR.out.trans ht.out)
      go_wp2
      go_ret
      exact ⟨ret_bool hfin.out.symm, hw.out⟩

/-- what isSetOf has seen last -/
def lastOf (xs : List Int) (k : Nat) : Int := if k = 0 then -1 else xs.getD (k - 1) 0
theorem lastOf_succ (xs : List Int) (k : Nat) : lastOf xs (k + 1) = xs.getD k 0 := by simp [lastOf]
/-- at k a list of states goes on: the number is above the last one (-1 at first) and below the count -/
def setAt (n : Int) (xs : List Int) (k : Nat) : Bool := decide (lastOf xs k < xs.getD k 0) && decide (xs.getD k 0 < n)
theorem setAt_rise (n : Int) (xs : List Int) (k : Nat) (h : ∀ i, i < k → setAt n xs i = true) : setAt n xs k = riseAt 0 (n - 1) xs k := by
  have hl : -1 ≤ lastOf xs k := by
    cases k with
    | zero => simp [lastOf]
    | succ k =>
      induction k with
      | zero => have := h 0 (by omega); simp [setAt, lastOf] at this; simp [lastOf]; omega
      | succ k ih =>
        have h1 := ih (fun i hi => h i (by omega))
        have := h (k + 1) (by omega)
        simp only [setAt, Bool.and_eq_true, decide_eq_true_eq] at this
        rw [lastOf_succ]; omega
  unfold setAt riseAt
  by_cases h0 : k = 0
  · subst h0
    simp only [lastOf, if_true, inB, decide_true, Bool.true_or, Bool.and_true]
    rw [Bool.eq_iff_iff]; simp; omega
  · have e : lastOf xs k = xs.getD (k - 1) 0 := by simp [lastOf, h0]
    rw [e] at hl ⊢
    simp only [inB, h0, decide_false, Bool.false_or]
    rw [Bool.eq_iff_iff]; simp only [Bool.and_eq_true, decide_eq_true_eq]; omega
theorem all_setAt (n : Int) (xs : List Int) (m : Nat) : (List.range m).all (setAt n xs) = (List.range m).all (riseAt 0 (n - 1) xs) := by
  induction m with
  | zero => rfl
  | succ m ih =>
    rw [range_all_succ, range_all_succ, ← ih]
    cases hq : (List.range m).all (setAt n xs) with
    | false => simp
    | true =>
      simp only [Bool.true_and]
      exact setAt_rise n xs m fun i hi => by rw [List.all_eq_true] at hq; exact hq i (by simpa using hi)

end Go.Proofs.YtgaadcinhaphpaaDoor
