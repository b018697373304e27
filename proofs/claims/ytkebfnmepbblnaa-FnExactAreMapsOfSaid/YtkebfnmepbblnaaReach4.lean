/- The codes of a chain and a state of both sides, and CanReach of the specification. Conditions: none. -/
import Derived.Test.YtkebfnmepbblnaaReach3
namespace Go.Proofs.Ytkebfnmepbblnaa
open Go.RowKit Go.Deep
set_option linter.unusedVariables false

def stCode (c : Ch) (s : Int) : Int := if chOk c = true then (if inB s 0 (c.n - 1) = true then 0 else 2) else 1
def canOf (c : Ch) (s : Int) : List Int × Int := if stCode c s = 0 then (reachL c s.toNat, 0) else ([], stCode c s)
theorem stCode_ok {c : Ch} {s : Int} (h : stCode c s = 0) : chOk c = true ∧ inB s 0 (c.n - 1) = true := by
  unfold stCode at h
  by_cases h1 : chOk c = true
  · rw [if_pos h1] at h
    by_cases h2 : inB s 0 (c.n - 1) = true
    · exact ⟨h1, h2⟩
    · rw [if_neg h2] at h; omega
  · rw [if_neg h1] at h; omega
theorem stCode_not {c : Ch} {s : Int} (h : ¬ stCode c s = 0) : (stCode c s == 0) = false ∧ (stCode c s != 0) = true := by
  constructor <;> simp [h]

end Go.Proofs.Ytkebfnmepbblnaa
