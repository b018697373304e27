/- EndsOf of the specification. Conditions: none. -/
import Derived.Test.YtkebfnmepbblnaaOrd
namespace Go.Proofs.Ytkebfnmepbblnaa
open Go.RowKit Go.Deep
set_option linter.unusedVariables false

def rowAll (xss : List (List Bool)) (s k : Nat) : Bool := (List.range k).all fun t => bb xss s t
def colAll (xss : List (List Bool)) (s k : Nat) : Bool := (List.range k).all fun t => bb xss t s
theorem rowAll_succ (xss : List (List Bool)) (s k : Nat) : rowAll xss s (k + 1) = (rowAll xss s k && bb xss s k) := by unfold rowAll; rw [List.range_succ, List.all_append]; simp
theorem colAll_succ (xss : List (List Bool)) (s k : Nat) : colAll xss s (k + 1) = (colAll xss s k && bb xss k s) := by unfold colAll; rw [List.range_succ, List.all_append]; simp
/-- the last number below k that p holds of; -1 if there is none -/
def endF (p : Nat → Bool) : Nat → Int
  | 0 => -1
  | k + 1 => if p k = true then (k : Int) else endF p k
theorem endF_bd (p : Nat → Bool) : ∀ k, -1 ≤ endF p k ∧ endF p k < k
  | 0 => by simp [endF]
  | k + 1 => by
    have := endF_bd p k
    unfold endF
    split <;> omega
theorem endF_yes {p : Nat → Bool} {k : Nat} (h : p k = true) : endF p (k + 1) = k := if_pos h
theorem endF_no {p : Nat → Bool} {k : Nat} (h : p k = false) : endF p (k + 1) = endF p k := if_neg (by rw [h]; simp)
def lowOf (xss : List (List Bool)) : Int := endF (fun s => rowAll xss s xss.length) xss.length
def highOf (xss : List (List Bool)) : Int := endF (fun s => colAll xss s xss.length) xss.length
/-- EndsOf's answer -/
def endsOf (xss : List (List Bool)) : Int × Int × Int := if ordOk (xss.length : Int) xss = true then if 0 ≤ lowOf xss ∧ 0 ≤ highOf xss then (lowOf xss, highOf xss, 0) else (0, 0, 6) else (0, 0, 1)
theorem l05Order_any (v : Value) (xss : List (List Bool)) (w : World) (hv : BRows w v xss) :
    Calls Try.prog 103 #[v] w fun e w' => e = .returned (.bool (ordOk (xss.length : Int) xss)) ∧ w = w' := by
  have h1 := ValidOrder_spec (xss.length : Int) v xss w hv
  obtain ⟨hm, a, cap, rfl⟩ := hv.len
  unfold maxLen at hm
  generalize ordOk (xss.length : Int) xss = r at h1 ⊢
  go_enter Try.func103, Try.ntmps103
  go_wp2_with fail
  refine h1.mono ?_
  rintro e w' ⟨rfl, rfl⟩
  go_wp2
  go_ret
  exact ⟨rfl, rfl⟩
theorem ordOk_rows {xss : List (List Bool)} (h : ordOk (xss.length : Int) xss = true) : (1 ≤ xss.length ∧ xss.length ≤ 6) ∧ ∀ s, s < xss.length → (xss.getD s []).length = xss.length := by
  unfold ordOk at h
  simp only [Bool.and_eq_true, decide_eq_true_eq] at h
  obtain ⟨h1, _, h2, _⟩ := h
  have := inB_iff.1 h1
  refine ⟨by omega, fun s hs => ?_⟩
  have := rng_at h2 hs
  unfold ordA1 at this
  simp only [Bool.and_eq_true, decide_eq_true_eq] at this
  omega
set_option maxRecDepth 100000 in
set_option maxHeartbeats 8000000 in
theorem l05Ends_any (v : Value) (xss : List (List Bool)) (w : World) (hv : BRows w v xss) (hok : ordOk (xss.length : Int) xss = true) :
    Calls Try.prog 104 #[v] w fun e w' => e = .returned (.tuple #[.int .i64 (lowOf xss), .int .i64 (highOf xss), .bool (decide (0 ≤ lowOf xss) && decide (0 ≤ highOf xss))]) ∧ w = w' := by
  obtain ⟨⟨n1, n2⟩, hlen⟩ := ordOk_rows hok
  obtain ⟨N, hN⟩ : ∃ N, xss.length = N := ⟨_, rfl⟩
  have hlo := Lib.hid (show lowOf xss = endF (fun s => rowAll xss s N) N by unfold lowOf; rw [hN])
  have hhi := Lib.hid (show highOf xss = endF (fun s => colAll xss s N) N by unfold highOf; rw [hN])
  rw [hN] at hlen n1 n2
  obtain ⟨b, off, cp, rfl, hG1⟩ := grid hv hN (by omega) hlen
  have hG := Lib.hid hG1
  clear hG1 hlen hok hv hN
  go_enter Try.func104, Try.ntmps104
  go_wp2
  go_loop [5, 6, 7] (fun lo hi i => ∃ s : Nat, s ≤ N ∧ i = .int .i64 s ∧ lo = .int .i64 (endF (fun s => rowAll xss s N) s) ∧ hi = .int .i64 (endF (fun s => colAll xss s N) s)) (fun _ _ i => N - (intOf i).toNat)
  case atStart => exact ⟨0, by omega, rfl, rfl, rfl⟩
  case round =>
    obtain ⟨s, hs, rfl, rfl, rfl⟩ := hrel
    by_cases hslt : s < N
    · obtain ⟨sb, so, sc, q1, q2⟩ := hG.out s hslt
      have q2' := Lib.hid q2
      have i1 : (s : Int) < (N : Int) := by omega
      clear q2
      go_wp2
      go_loop [8, 9, 10] (fun lv hv i => ∃ (t : Nat) (A B : Bool), t ≤ N ∧ i = .int .i64 t ∧ lv = .bool A ∧ hv = .bool B ∧ Hid (rowAll xss s t = A) ∧ Hid (colAll xss s t = B)) (fun _ _ i => N - (intOf i).toNat)
      case atStart => exact ⟨0, true, true, by omega, rfl, rfl, rfl, show _ = _ by simp [rowAll], show _ = _ by simp [colAll]⟩
      case round =>
        obtain ⟨t, A, B, ht, rfl, rfl, rfl, hA, hB⟩ := hrel
        by_cases htlt : t < N
        · obtain ⟨tb, tro, tc, q3, q4⟩ := hG.out t htlt
          have q5 := q2'.out t htlt
          have q6 := q4 s hslt
          have i2 : (t : Int) < (N : Int) := by omega
          clear q4
          obtain ⟨av, ha0⟩ : ∃ a, bb xss s t = a := ⟨_, rfl⟩
          obtain ⟨bv, hb0⟩ : ∃ a, bb xss t s = a := ⟨_, rfl⟩
          rw [ha0] at q5
          rw [hb0] at q6
          have ha := Lib.hid ha0
          have hb := Lib.hid hb0
          clear ha0 hb0
          rcases A with _ | _ <;> rcases B with _ | _ <;> rcases av with _ | _ <;> rcases bv with _ | _
          · have hl := Lib.hid (show rowAll xss s (t + 1) = false by rw [rowAll_succ, hA.out, ha.out]; rfl)
            have hh := Lib.hid (show colAll xss s (t + 1) = false by rw [colAll_succ, hB.out, hb.out]; rfl)
            go_wp2
            go_round
            case rel => exact ⟨t + 1, false, false, by omega, by go_num, rfl, rfl, hl, hh⟩
            case measure => first | (simp [intOf]; omega) | (simp [intOf]; done)
          · have hl := Lib.hid (show rowAll xss s (t + 1) = false by rw [rowAll_succ, hA.out, ha.out]; rfl)
            have hh := Lib.hid (show colAll xss s (t + 1) = false by rw [colAll_succ, hB.out, hb.out]; rfl)
            go_wp2
            go_round
            case rel => exact ⟨t + 1, false, false, by omega, by go_num, rfl, rfl, hl, hh⟩
            case measure => first | (simp [intOf]; omega) | (simp [intOf]; done)
          · have hl := Lib.hid (show rowAll xss s (t + 1) = false by rw [rowAll_succ, hA.out, ha.out]; rfl)
            have hh := Lib.hid (show colAll xss s (t + 1) = false by rw [colAll_succ, hB.out, hb.out]; rfl)
            go_wp2
            go_round
            case rel => exact ⟨t + 1, false, false, by omega, by go_num, rfl, rfl, hl, hh⟩
            case measure => first | (simp [intOf]; omega) | (simp [intOf]; done)
          · have hl := Lib.hid (show rowAll xss s (t + 1) = false by rw [rowAll_succ, hA.out, ha.out]; rfl)
            have hh := Lib.hid (show colAll xss s (t + 1) = false by rw [colAll_succ, hB.out, hb.out]; rfl)
            go_wp2
            go_round
            case rel => exact ⟨t + 1, false, false, by omega, by go_num, rfl, rfl, hl, hh⟩
            case measure => first | (simp [intOf]; omega) | (simp [intOf]; done)
          · have hl := Lib.hid (show rowAll xss s (t + 1) = false by rw [rowAll_succ, hA.out, ha.out]; rfl)
            have hh := Lib.hid (show colAll xss s (t + 1) = false by rw [colAll_succ, hB.out, hb.out]; rfl)
            go_wp2
            go_round
            case rel => exact ⟨t + 1, false, false, by omega, by go_num, rfl, rfl, hl, hh⟩
            case measure => first | (simp [intOf]; omega) | (simp [intOf]; done)
          · have hl := Lib.hid (show rowAll xss s (t + 1) = false by rw [rowAll_succ, hA.out, ha.out]; rfl)
            have hh := Lib.hid (show colAll xss s (t + 1) = true by rw [colAll_succ, hB.out, hb.out]; rfl)
            go_wp2
            go_round
            case rel => exact ⟨t + 1, false, true, by omega, by go_num, rfl, rfl, hl, hh⟩
            case measure => first | (simp [intOf]; omega) | (simp [intOf]; done)
          · have hl := Lib.hid (show rowAll xss s (t + 1) = false by rw [rowAll_succ, hA.out, ha.out]; rfl)
            have hh := Lib.hid (show colAll xss s (t + 1) = false by rw [colAll_succ, hB.out, hb.out]; rfl)
            go_wp2
            go_round
            case rel => exact ⟨t + 1, false, false, by omega, by go_num, rfl, rfl, hl, hh⟩
            case measure => first | (simp [intOf]; omega) | (simp [intOf]; done)
          · have hl := Lib.hid (show rowAll xss s (t + 1) = false by rw [rowAll_succ, hA.out, ha.out]; rfl)
            have hh := Lib.hid (show colAll xss s (t + 1) = true by rw [colAll_succ, hB.out, hb.out]; rfl)
            go_wp2
            go_round
            case rel => exact ⟨t + 1, false, true, by omega, by go_num, rfl, rfl, hl, hh⟩
            case measure => first | (simp [intOf]; omega) | (simp [intOf]; done)
          · have hl := Lib.hid (show rowAll xss s (t + 1) = false by rw [rowAll_succ, hA.out, ha.out]; rfl)
            have hh := Lib.hid (show colAll xss s (t + 1) = false by rw [colAll_succ, hB.out, hb.out]; rfl)
            go_wp2
            go_round
            case rel => exact ⟨t + 1, false, false, by omega, by go_num, rfl, rfl, hl, hh⟩
            case measure => first | (simp [intOf]; omega) | (simp [intOf]; done)
          · have hl := Lib.hid (show rowAll xss s (t + 1) = false by rw [rowAll_succ, hA.out, ha.out]; rfl)
            have hh := Lib.hid (show colAll xss s (t + 1) = false by rw [colAll_succ, hB.out, hb.out]; rfl)
            go_wp2
            go_round
            case rel => exact ⟨t + 1, false, false, by omega, by go_num, rfl, rfl, hl, hh⟩
            case measure => first | (simp [intOf]; omega) | (simp [intOf]; done)
          · have hl := Lib.hid (show rowAll xss s (t + 1) = true by rw [rowAll_succ, hA.out, ha.out]; rfl)
            have hh := Lib.hid (show colAll xss s (t + 1) = false by rw [colAll_succ, hB.out, hb.out]; rfl)
            go_wp2
            go_round
            case rel => exact ⟨t + 1, true, false, by omega, by go_num, rfl, rfl, hl, hh⟩
            case measure => first | (simp [intOf]; omega) | (simp [intOf]; done)
          · have hl := Lib.hid (show rowAll xss s (t + 1) = true by rw [rowAll_succ, hA.out, ha.out]; rfl)
            have hh := Lib.hid (show colAll xss s (t + 1) = false by rw [colAll_succ, hB.out, hb.out]; rfl)
            go_wp2
            go_round
            case rel => exact ⟨t + 1, true, false, by omega, by go_num, rfl, rfl, hl, hh⟩
            case measure => first | (simp [intOf]; omega) | (simp [intOf]; done)
          · have hl := Lib.hid (show rowAll xss s (t + 1) = false by rw [rowAll_succ, hA.out, ha.out]; rfl)
            have hh := Lib.hid (show colAll xss s (t + 1) = false by rw [colAll_succ, hB.out, hb.out]; rfl)
            go_wp2
            go_round
            case rel => exact ⟨t + 1, false, false, by omega, by go_num, rfl, rfl, hl, hh⟩
            case measure => first | (simp [intOf]; omega) | (simp [intOf]; done)
          · have hl := Lib.hid (show rowAll xss s (t + 1) = false by rw [rowAll_succ, hA.out, ha.out]; rfl)
            have hh := Lib.hid (show colAll xss s (t + 1) = true by rw [colAll_succ, hB.out, hb.out]; rfl)
            go_wp2
            go_round
            case rel => exact ⟨t + 1, false, true, by omega, by go_num, rfl, rfl, hl, hh⟩
            case measure => first | (simp [intOf]; omega) | (simp [intOf]; done)
          · have hl := Lib.hid (show rowAll xss s (t + 1) = true by rw [rowAll_succ, hA.out, ha.out]; rfl)
            have hh := Lib.hid (show colAll xss s (t + 1) = false by rw [colAll_succ, hB.out, hb.out]; rfl)
            go_wp2
            go_round
            case rel => exact ⟨t + 1, true, false, by omega, by go_num, rfl, rfl, hl, hh⟩
            case measure => first | (simp [intOf]; omega) | (simp [intOf]; done)
          · have hl := Lib.hid (show rowAll xss s (t + 1) = true by rw [rowAll_succ, hA.out, ha.out]; rfl)
            have hh := Lib.hid (show colAll xss s (t + 1) = true by rw [colAll_succ, hB.out, hb.out]; rfl)
            go_wp2
            go_round
            case rel => exact ⟨t + 1, true, true, by omega, by go_num, rfl, rfl, hl, hh⟩
            case measure => first | (simp [intOf]; omega) | (simp [intOf]; done)
        · obtain rfl : t = N := by omega
          rcases A with _ | _ <;> rcases B with _ | _
          · have hl := Lib.hid (show endF (fun s => rowAll xss s t) (s + 1) = endF (fun s => rowAll xss s t) s from endF_no (p := fun s => rowAll xss s t) hA.out)
            have hh := Lib.hid (show endF (fun s => colAll xss s t) (s + 1) = endF (fun s => colAll xss s t) s from endF_no (p := fun s => colAll xss s t) hB.out)
            go_wp2
            go_round
            case rel => exact ⟨s + 1, by omega, by go_num, by rw [hl.out], by rw [hh.out]⟩
            case measure => first | (simp [intOf]; omega) | (simp [intOf]; done)
          · have hl := Lib.hid (show endF (fun s => rowAll xss s t) (s + 1) = endF (fun s => rowAll xss s t) s from endF_no (p := fun s => rowAll xss s t) hA.out)
            have hh := Lib.hid (show endF (fun s => colAll xss s t) (s + 1) = (s : Int) from endF_yes (p := fun s => colAll xss s t) hB.out)
            go_wp2
            go_round
            case rel => exact ⟨s + 1, by omega, by go_num, by rw [hl.out], by rw [hh.out]⟩
            case measure => first | (simp [intOf]; omega) | (simp [intOf]; done)
          · have hl := Lib.hid (show endF (fun s => rowAll xss s t) (s + 1) = (s : Int) from endF_yes (p := fun s => rowAll xss s t) hA.out)
            have hh := Lib.hid (show endF (fun s => colAll xss s t) (s + 1) = endF (fun s => colAll xss s t) s from endF_no (p := fun s => colAll xss s t) hB.out)
            go_wp2
            go_round
            case rel => exact ⟨s + 1, by omega, by go_num, by rw [hl.out], by rw [hh.out]⟩
            case measure => first | (simp [intOf]; omega) | (simp [intOf]; done)
          · have hl := Lib.hid (show endF (fun s => rowAll xss s t) (s + 1) = (s : Int) from endF_yes (p := fun s => rowAll xss s t) hA.out)
            have hh := Lib.hid (show endF (fun s => colAll xss s t) (s + 1) = (s : Int) from endF_yes (p := fun s => colAll xss s t) hB.out)
            go_wp2
            go_round
            case rel => exact ⟨s + 1, by omega, by go_num, by rw [hl.out], by rw [hh.out]⟩
            case measure => first | (simp [intOf]; omega) | (simp [intOf]; done)
    · obtain rfl : s = N := by omega
      have e1 := endF_bd (fun x => rowAll xss x s) s
      have e2 := endF_bd (fun x => colAll xss x s) s
      generalize endF (fun x => rowAll xss x s) s = x at *
      generalize endF (fun x => colAll xss x s) s = y at *
      by_cases hx : 0 ≤ x
      · by_cases hy : 0 ≤ y
        · have hf := Lib.hid (show (decide (0 ≤ lowOf xss) && decide (0 ≤ highOf xss)) = true by rw [hlo.out, hhi.out, decide_eq_true hx, decide_eq_true hy]; rfl)
          go_wp2
          go_ret3
          rw [hf.out, hlo.out, hhi.out]
          exact ⟨by simp, rfl⟩
        · have hf := Lib.hid (show (decide (0 ≤ lowOf xss) && decide (0 ≤ highOf xss)) = false by rw [hlo.out, hhi.out, decide_eq_true hx, decide_eq_false hy]; rfl)
          go_wp2
          go_ret3
          rw [hf.out, hlo.out, hhi.out]
          exact ⟨by simp; try omega, rfl⟩
      · have hf := Lib.hid (show (decide (0 ≤ lowOf xss) && decide (0 ≤ highOf xss)) = false by rw [hlo.out, decide_eq_false hx]; rfl)
        go_wp2
        go_ret3
        rw [hf.out, hlo.out, hhi.out]
        exact ⟨by simp; try omega, rfl⟩
set_option maxHeartbeats 2000000 in
theorem EndsOf_spec (v : Value) (xss : List (List Bool)) (w : World) (hv : BRows w v xss) :
    Calls Try.prog 43 #[v] w fun e w' => e = .returned (.tuple #[.int .i64 (endsOf xss).1, .int .i64 (endsOf xss).2.1, .int .i64 (endsOf xss).2.2]) ∧ Below w.heap.size w w' := by
  have h1 := l05Order_any v xss w hv
  by_cases hok : ordOk (xss.length : Int) xss = true
  · have h2 := l05Ends_any v xss w hv hok
    rw [hok] at h1
    by_cases hb : 0 ≤ lowOf xss ∧ 0 ≤ highOf xss
    · have hr := Lib.hid (show endsOf xss = (lowOf xss, highOf xss, 0) by unfold endsOf; rw [if_pos hok, if_pos hb])
      rw [decide_eq_true hb.1, decide_eq_true hb.2] at h2
      simp only [Bool.and_self] at h2
      clear hb hok
      generalize lowOf xss = x at *
      generalize highOf xss = y at *
      go_enter Try.func43, Try.ntmps43
      go_wp2_with fail
      refine h1.mono ?_
      rintro e w' ⟨rfl, rfl⟩
      go_wp2_with fail
      refine h2.mono ?_
      rintro e w' ⟨rfl, rfl⟩
      go_wp2
      go_ret3
      rw [hr.out]
      exact ⟨rfl, Below.refl _ _⟩
    · have hr := Lib.hid (show endsOf xss = (0, 0, 6) by unfold endsOf; rw [if_pos hok, if_neg hb])
      have hbf : (decide (0 ≤ lowOf xss) && decide (0 ≤ highOf xss)) = false := by
        rw [Bool.eq_false_iff]; intro h
        rw [Bool.and_eq_true, decide_eq_true_eq, decide_eq_true_eq] at h
        exact hb h
      rw [hbf] at h2
      clear hb hok hbf
      generalize lowOf xss = x at *
      generalize highOf xss = y at *
      go_enter Try.func43, Try.ntmps43
      go_wp2_with fail
      refine h1.mono ?_
      rintro e w' ⟨rfl, rfl⟩
      go_wp2_with fail
      refine h2.mono ?_
      rintro e w' ⟨rfl, rfl⟩
      go_wp2
      go_ret3
      rw [hr.out]
      exact ⟨rfl, Below.refl _ _⟩
  · have hr := Lib.hid (show endsOf xss = (0, 0, 1) by unfold endsOf; rw [if_neg hok])
    simp only [Bool.not_eq_true] at hok
    rw [hok] at h1
    clear hok
    go_enter Try.func43, Try.ntmps43
    go_wp2_with fail
    refine h1.mono ?_
    rintro e w' ⟨rfl, rfl⟩
    go_wp2
    go_ret3
    rw [hr.out]
    exact ⟨rfl, Below.refl _ _⟩
end Go.Proofs.Ytkebfnmepbblnaa
