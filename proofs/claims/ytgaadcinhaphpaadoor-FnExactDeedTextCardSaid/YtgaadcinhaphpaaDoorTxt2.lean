/- The text of a chain, by the specification. Conditions: none. -/
import Derived.Test.YtgaadcinhaphpaaDoorTxt
import Derived.Deep.RegionHeld3
namespace Go.Proofs.YtgaadcinhaphpaaDoor
open Go.RowKit Go.Deep
set_option linter.unusedVariables false

def BA (l : List UInt8) : ByteArray := ⟨l.toArray⟩
theorem BA_append (a b : List UInt8) : BA a ++ BA b = BA (a ++ b) := by simp only [BA, ByteArray.mk_append_mk]
theorem decB_BA (n : Nat) : decB n = BA (decL n) := rfl
def numsL (l : List Int) : List UInt8 := l.flatMap fun x => 32 :: decL x.toNat
def lineL (wd : List UInt8) (l : List Int) : List UInt8 := wd ++ (numsL l ++ [10])
def rowsT (xss : List (List Int)) : List UInt8 := xss.flatMap (lineL [102, 114, 111, 109])
def headT (c : Ch) : List UInt8 := lineL [99, 104, 97, 105, 110] [c.n, c.t]
def textL (c : Ch) : List UInt8 := headT c ++ rowsT c.w
def outB (c : Ch) (k : Nat) : ByteArray := BA (headT c ++ rowsT (c.w.take k))
def midB (c : Ch) (k j : Nat) : ByteArray := BA (headT c ++ (rowsT (c.w.take k) ++ ([102, 114, 111, 109] ++ numsL ((c.w.getD k []).take j))))
def textOf (c : Ch) : ByteArray := if chOk c = true then BA (textL c) else BA []

theorem head_is (c : Ch) : ByteArray.mk #[99, 104, 97, 105, 110, 32] ++ decB c.n.toNat ++ ByteArray.mk #[32] ++ decB c.t.toNat ++ ByteArray.mk #[10] = outB c 0 := by
  show BA [99, 104, 97, 105, 110, 32] ++ BA _ ++ BA [32] ++ BA _ ++ BA [10] = _
  simp only [BA_append, outB, headT, lineL, numsL, rowsT, List.take_zero, List.flatMap_nil, List.flatMap_cons, List.append_nil]
  simp
theorem take_next {α : Type} (l : List α) (d : α) (k : Nat) (h : k < l.length) : l.take (k + 1) = l.take k ++ [l.getD k d] := by
  rw [List.take_add_one, List.getElem?_eq_getElem h]
  simp [List.getD, h]
theorem from_is (c : Ch) (k : Nat) : outB c k ++ ByteArray.mk #[102, 114, 111, 109] = midB c k 0 := by
  show BA _ ++ BA [102, 114, 111, 109] = _
  simp [BA_append, midB, numsL]
theorem num_is (c : Ch) (k j : Nat) (h : j < (c.w.getD k []).length) : midB c k j ++ (ByteArray.mk #[32] ++ decB ((c.w.getD k []).getD j 0).toNat) = midB c k (j + 1) := by
  show BA _ ++ (BA [32] ++ BA _) = _
  rw [BA_append, BA_append, midB, take_next _ 0 j h]
  simp [numsL]
theorem line_is (c : Ch) (k : Nat) (h : k < c.w.length) : midB c k (c.w.getD k []).length ++ ByteArray.mk #[10] = outB c (k + 1) := by
  show BA _ ++ BA [10] = _
  rw [BA_append, outB, take_next _ [] k h, List.take_length]
  simp [rowsT, lineL]
theorem text_is (c : Ch) (h : chOk c = true) : outB c c.w.length = textOf c := by
  rw [textOf, if_pos h, outB, List.take_length, textL]

theorem Decimal_int (x : Int) (w : World) (h : 0 ≤ x) (h1 : x < 100) : Calls Tryd.prog 48 #[.int .i64 x] w fun e w' => ∃ d : ByteArray, e = .returned (.string d) ∧ d.size ≤ 2 ∧ Hid (d = decB x.toNat) ∧ Below w.heap.size w w' := by
  have := Decimal_any x.toNat w (by omega)
  rw [show ((x.toNat : Nat) : Int) = x by omega] at this
  exact this.mono fun e w' h => ⟨_, h.1, decB_size _, Lib.hid rfl, h.2⟩

theorem lim_a {x : Nat} (h : x ≤ 2) : (¬ 9223372036854775807 < 6 + x) ∧ (¬ 9223372036854775807 < 6 + x + 1) := by omega
theorem lim_b {x y : Nat} (h : x ≤ 2) (h' : y ≤ 2) : (¬ 9223372036854775807 < 6 + x + 1 + y) ∧ (¬ 9223372036854775807 < 6 + x + 1 + y + 1) := by omega
end Go.Proofs.YtgaadcinhaphpaaDoor
