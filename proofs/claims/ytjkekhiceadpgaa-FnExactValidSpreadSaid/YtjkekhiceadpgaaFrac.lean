/- ValidFraction and FractionText of both sides; what the laws do with fractions. Conditions: none. -/
import Derived.Lib.SmallJoins
import Derived.Test.YtjkekhiceadpgaaRead4
namespace Go.Proofs.Ytjkekhiceadpgaa
open Go.ChangeShapes Go.WideShapes Go.ChangeAt Go.RowKit Go.Deep Go.Joins
set_option linter.unusedVariables false

/-- the value v reads as a fraction's two texts -/
def FrR (w : World) (v : Value) (c : ByteArray × ByteArray) : Prop := v = .agg #[.string c.1, .string c.2] ∧ c.1.size ≤ maxLen ∧ c.2.size ≤ maxLen

set_option maxRecDepth 100000 in
theorem open_frac {H : Type} {enc : TypeId × Value → H} {W : World} {base b0 : Nat} {held : Bool} {v : Value} {d : DataW H} {p : List MemPlace}
    (hv : Value.okWide Try.prog W .any base 57 v) (h : DataW.Trod enc Try.prog W b0 (fun _ => true) held 57 v d p) : ∃ c, FrR W v c := by
  obtain ⟨c0, c1, y0, y1, m, rfl, _, _, h0, h1⟩ := open_agg2 Try.underlying57 (by kernel_rfl) (by kernel_rfl) hv h
  obtain ⟨a, e0, _, wa⟩ := DataW.trod_string Try.underlying9 h0
  obtain ⟨b, e1, _, wb⟩ := DataW.trod_string Try.underlying9 h1
  simp at e0 e1
  subst e0 e1
  exact ⟨(a, b), rfl, wa, wb⟩

set_option maxHeartbeats 2000000 in
theorem toFraction_any (n d : ByteArray) (w : World) : Calls Try.prog 33 #[.agg #[.string n, .string d]] w fun e w' => e = .returned (.agg #[.string n, .string d]) ∧ Below w.heap.size w w' := by
  go_enter Try.func33, Try.ntmps33
  go_wp2
  refine bodyPost_ret (v := .agg #[.string n, .string d]) (by simp [results, Try.results33, go_sem]) rfl ?_
  exact ⟨rfl, below3 _ _ _ _⟩

/-- what is left of a size -/
def frLeft (left : Int) (k : Nat) : Int := if left < (k : Int) then -1 else left - (k : Int)
theorem frLeft_no {left : Int} {k : Nat} (h : left < (k : Int)) : frLeft left k = -1 := if_pos h
theorem frLeft_yes {left : Int} {k : Nat} (h : ¬ left < (k : Int)) : frLeft left k = left - (k : Int) := if_neg h
set_option maxHeartbeats 2000000 in
theorem szFraction_any (n d : ByteArray) (left : Int) (w : World) (h0 : 0 ≤ left) (h1 : left ≤ 1048576) (s1 : n.size ≤ maxLen) (s2 : d.size ≤ maxLen) :
    Calls Try.prog 31 #[.agg #[.string n, .string d], .int .i64 left] w fun e w' => e = .returned (.int .i64 (frLeft left (n.size + d.size))) ∧ Below w.heap.size w w' := by
  unfold maxLen at s1 s2
  by_cases c1 : left < (n.size : Int)
  · have e1 := Lib.hid (frLeft_no (left := left) (k := n.size + d.size) (by omega))
    have c1' : left - (n.size : Int) < 0 := by omega
    go_enter Try.func31, Try.ntmps31
    go_wp2
    go_ret
    exact ⟨by rw [e1.out]; rfl, below1 _ _⟩
  · by_cases c2 : left - (n.size : Int) < (d.size : Int)
    · have e1 := Lib.hid (frLeft_no (left := left) (k := n.size + d.size) (by omega))
      have c1' : ¬ left - (n.size : Int) < 0 := by omega
      have c2' : left - (n.size : Int) - (d.size : Int) < 0 := by omega
      go_enter Try.func31, Try.ntmps31
      go_wp2
      go_ret
      exact ⟨by rw [e1.out]; rfl, below1 _ _⟩
    · have e1 := Lib.hid (frLeft_yes (left := left) (k := n.size + d.size) (by omega))
      have c1' : ¬ left - (n.size : Int) < 0 := by omega
      have c2' : ¬ left - (n.size : Int) - (d.size : Int) < 0 := by omega
      have e2 := Lib.hid (show left - (n.size : Int) - (d.size : Int) = left - ((n.size + d.size : Nat) : Int) by omega)
      go_enter Try.func31, Try.ntmps31
      go_wp2
      go_ret
      exact ⟨by rw [e1.out, ← e2.out]; rfl, below1 _ _⟩
end Go.Proofs.Ytjkekhiceadpgaa
