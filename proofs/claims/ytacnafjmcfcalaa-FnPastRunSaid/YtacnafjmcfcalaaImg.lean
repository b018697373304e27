/- Images of the project: sets of states as bits. Conditions: told in each. -/
import Derived.Test.YtacnafjmcfcalaaAp2
import Derived.Lib.BitFns
import Derived.Lib.Small
namespace Go.Proofs.Ytacnafjmcfcalaa
open Go.RowKit Go.Deep
set_option linter.unusedVariables false

theorem img_whole : ∀ n : Fin 7, ((2 : Int) ^ n.val - 1) % 256 = ((2 ^ n.val - 1 : Nat) : Int) := by decide +kernel
theorem img_one : ∀ s : Fin 6, (2 : Int) ^ s.val % 256 = ((2 ^ s.val : Nat) : Int) := by decide +kernel
theorem img_has : ∀ (i : Fin 64) (s : Fin 6), (bits BinOp.and IntKind.u8 ((i.val : Int) / 2 ^ s.val) 1 == 1) = i.val.testBit s.val := by decide +kernel
theorem img_or : ∀ (i : Fin 64) (s : Fin 6), bits BinOp.or IntKind.u8 (i.val : Int) ((2 ^ s.val : Nat) : Int) = ((i.val ||| 2 ^ s.val : Nat) : Int) ∧ i.val ||| 2 ^ s.val < 64 := by decide +kernel
theorem whole_any (n : Nat) (w : World) (h : n ≤ 6) : Calls Try.prog 78 #[.int .i64 n] w fun e w' => e = .returned (.int .u8 ((2 ^ n - 1 : Nat) : Int)) ∧ w = w' := by
  have hf := Lib.hid (img_whole ⟨n, by omega⟩)
  go_enter Try.func78, Try.ntmps78
  go_wp2
  go_ret
  exact ⟨congrArg (fun z => Ending.returned (.int .u8 z)) hf.out, rfl⟩
theorem has_any (i s : Nat) (w : World) (hi : i < 64) (h : s < 6) : Calls Try.prog 152 #[.int .u8 i, .int .i64 s] w fun e w' => e = .returned (.bool (i.testBit s)) ∧ w = w' := by
  have hf := Lib.hid (img_has ⟨i, hi⟩ ⟨s, h⟩)
  go_enter Try.func152, Try.ntmps152
  go_wp2
  go_ret
  exact ⟨congrArg (fun z => Ending.returned (.bool z)) hf.out, rfl⟩
theorem one_any (s : Nat) (w : World) (h : s < 6) : Calls Try.prog 153 #[.int .i64 s] w fun e w' => e = .returned (.int .u8 ((2 ^ s : Nat) : Int)) ∧ w = w' := by
  have hf := Lib.hid (img_one ⟨s, h⟩)
  go_enter Try.func153, Try.ntmps153
  go_wp2
  go_ret
  exact ⟨congrArg (fun z => Ending.returned (.int .u8 z)) hf.out, rfl⟩
set_option maxRecDepth 100000 in
theorem OnesCount8_any (x : Int) (w : World) (h0 : 0 ≤ x) (h1 : x ≤ 255) :
    Calls Try.prog 154 #[.int .u8 x] w fun e w' => e = .returned (.int .i64 (Lib.onesCount x.toNat)) ∧ w = w' := by
  have hf := Lib.hid (show wrap64 (Lib.pop8 x) = (Lib.onesCount x.toNat : Int) by unfold wrap64; exact Lib.pop8_int x h0 h1)
  go_enter Try.func154, Try.ntmps154
  go_wp2
  go_ret
  exact ⟨congrArg (fun z => Ending.returned (.int .i64 z)) hf.out, rfl⟩
set_option maxRecDepth 100000 in
theorem TrailingZeros8_any (x : Int) (w : World) (h0 : 0 ≤ x) (h1 : x ≤ 255) :
    Calls Try.prog 155 #[.int .u8 x] w fun e w' => e = .returned (.int .i64 (Lib.trailingZeros8 x.toNat)) ∧ w = w' := by
  have hf := Lib.hid (show wrap64 (Lib.ntz8 x) = (Lib.trailingZeros8 x.toNat : Int) by unfold wrap64; exact Lib.ntz8_int x h0 h1)
  go_enter Try.func155, Try.ntmps155
  go_wp2
  go_ret
  exact ⟨congrArg (fun z => Ending.returned (.int .i64 z)) hf.out, rfl⟩
/-- the state of an image with one, and whether it has just one -/
def sgS (i : Nat) : Int := if Lib.onesCount i = 1 then (Lib.trailingZeros8 i : Int) else 0
def sgB (i : Nat) : Bool := Lib.onesCount i == 1
theorem single_any (i : Nat) (w : World) (hi : i < 64) : Calls Try.prog 80 #[.int .u8 i] w fun e w' => e = .returned (.tuple #[.int .i64 (sgS i), .bool (sgB i)]) ∧ w = w' := by
  have h1 := OnesCount8_any i w (by omega) (by omega)
  have h2 := TrailingZeros8_any i w (by omega) (by omega)
  simp only [Int.toNat_natCast] at h1 h2
  by_cases hc : Lib.onesCount i = 1
  · rw [hc] at h1
    have hr := Lib.hid (show sgS i = (Lib.trailingZeros8 i : Int) ∧ sgB i = true by unfold sgS sgB; rw [if_pos hc, hc]; exact ⟨rfl, rfl⟩)
    generalize Lib.trailingZeros8 i = z at *
    go_enter Try.func80, Try.ntmps80
    go_wp2_with fail
    refine h1.mono ?_
    rintro e w' ⟨rfl, rfl⟩
    go_wp2_with fail
    refine h2.mono ?_
    rintro e w' ⟨rfl, rfl⟩
    go_wp2
    go_ret2
    exact ⟨by rw [hr.out.1, hr.out.2]; rfl, rfl⟩
  · have hr := Lib.hid (show sgS i = 0 ∧ sgB i = false by unfold sgS sgB; rw [if_neg hc]; exact ⟨rfl, by simpa using hc⟩)
    have hne : ((Lib.onesCount i : Int) != 1) = true := by simp; omega
    generalize Lib.onesCount i = z at *
    go_enter Try.func80, Try.ntmps80
    go_wp2_with fail
    refine h1.mono ?_
    rintro e w' ⟨rfl, rfl⟩
    go_wp2
    go_ret2
    exact ⟨by rw [hr.out.1, hr.out.2]; rfl, rfl⟩
/-- led on by a move, as far as k states -/
def ledK (i : Nat) (f : Nat → Int) : Nat → Nat
  | 0 => 0
  | k + 1 => if i.testBit k = true then ledK i f k ||| 2 ^ (f k).toNat else ledK i f k
theorem ledK_lt (i : Nat) (f : Nat → Int) (h : ∀ k, k < 6 → 0 ≤ f k ∧ f k < 6) : ∀ k, k ≤ 6 → ledK i f k < 64
  | 0, _ => by simp [ledK]
  | k + 1, hk => by
    have ih := ledK_lt i f h k (by omega)
    obtain ⟨a, b⟩ := h k (by omega)
    unfold ledK
    split
    · exact (img_or ⟨_, ih⟩ ⟨(f k).toNat, by omega⟩).2
    · exact ih
theorem mv_index (f : Nat → Int) (W : World) : ∀ k : Nat, k < 6 → Sem.run Try.prog (Instr.index 100 (.agg #[.int .i64 (f 0), .int .i64 (f 1), .int .i64 (f 2), .int .i64 (f 3), .int .i64 (f 4), .int .i64 (f 5)]) (.int .i64 k)) W = .ok (.int .i64 (f k)) W
  | 0, _ => by kernel_rfl
  | 1, _ => by kernel_rfl
  | 2, _ => by kernel_rfl
  | 3, _ => by kernel_rfl
  | 4, _ => by kernel_rfl
  | 5, _ => by kernel_rfl
  | k + 6, h => by omega
set_option maxRecDepth 100000 in
set_option maxHeartbeats 4000000 in
theorem led_any (i : Nat) (f : Nat → Int) (w : World) (hi : i < 64) (h : ∀ k, k < 6 → 0 ≤ f k ∧ f k < 6) :
    Calls Try.prog 79 #[.int .u8 i, mvv f] w fun e w' => e = .returned (.int .u8 (ledK i f 6)) ∧ Below w.heap.size w w' := by
  have B0 := below1 w (.cells (mvA f) 100)
  have hl := Lib.hid (ledK_lt i f h)
  have hh := Lib.hid h
  have hF := Blk.new w (mvA f) 100
  obtain ⟨t0, t1, t2, t3, t4, t5⟩ := hF.mv6
  clear h hF
  simp only [mvv, mvA] at *
  go_enter Try.func79, Try.ntmps79
  go_wp2
  clear t0 t1 t2 t3 t4 t5
  generalize w.alloc _ = W at *
  go_loop [5, 9] (fun q j => ∃ k : Nat, k ≤ 6 ∧ j = .int .i64 k ∧ q = .int .u8 (ledK i f k)) (fun _ j => 6 - (intOf j).toNat)
  case atStart => exact ⟨0, by omega, rfl, rfl⟩
  case round =>
    obtain ⟨k, hk, rfl, rfl⟩ := hrel
    by_cases hlt : k < 6
    · have hix := mv_index f W k hlt
      obtain ⟨y0, y1⟩ := hh.out k hlt
      obtain ⟨m, hm⟩ : ∃ m : Nat, f k = (m : Int) := ⟨(f k).toNat, by omega⟩
      have hlk := hl.out k hk
      have hor := img_or ⟨_, hlk⟩ ⟨m, by omega⟩
      simp only at hor
      have hi1 : (k : Int) < 6 := by omega
      rw [hm] at hix
      have hn := Lib.hid (show ledK i f (k + 1) = if i.testBit k = true then ledK i f k ||| 2 ^ m else ledK i f k by show (if _ then _ else _) = _; rw [hm]; rfl)
      have c1 := has_any i k W hi hlt
      have c2 := one_any m W (by omega)
      by_cases hb : i.testBit k = true
      · rw [hb] at c1
        have hn' := Lib.hid (hn.out.trans (if_pos hb))
        have hor' := Lib.hid hor.1
        clear hn hor hm y0 y1 hlk
        generalize ledK i f k = g at *
        go_wp2_with fail
        refine c1.mono ?_
        rintro e w' ⟨rfl, rfl⟩
        go_wp2_with fail
        refine c2.mono ?_
        rintro e w' ⟨rfl, rfl⟩
        go_wp2
        go_round
        case rel => exact ⟨k + 1, by omega, by go_num, by rw [hn'.out]; exact congrArg (Value.int .u8) hor'.out⟩
        case measure => simp [intOf]; omega
      · simp only [Bool.not_eq_true] at hb
        rw [hb] at c1
        have hn' := Lib.hid (hn.out.trans (if_neg (by rw [hb]; simp)))
        clear hn hor hm y0 y1 hlk
        generalize ledK i f k = g at *
        go_wp2_with fail
        refine c1.mono ?_
        rintro e w' ⟨rfl, rfl⟩
        go_wp2
        go_round
        case rel => exact ⟨k + 1, by omega, by go_num, by rw [hn'.out]⟩
        case measure => simp [intOf]; omega
    · obtain rfl : k = 6 := by omega
      go_wp2
      go_ret
      exact ⟨rfl, B0⟩
end Go.Proofs.Ytacnafjmcfcalaa
