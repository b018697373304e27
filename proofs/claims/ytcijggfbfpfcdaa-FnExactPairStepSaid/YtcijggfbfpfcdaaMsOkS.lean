/- Maps that are valid: the specification's answer. Conditions: none. -/
import Derived.Test.YtcijggfbfpfcdaaMsOk
namespace Go.Proofs.Ytcijggfbfpfcdaa
open Go.RowKit Go.Deep
set_option linter.unusedVariables false

/-- the block b holds the maps c -/
def MsP (w : World) (b : Nat) (c : Ms) : Prop := ∃ v, w.cell? ⟨b, 0, none⟩ = some (.int .i64 c.n) ∧ w.cell? ⟨b, 1, none⟩ = some (.int .i64 c.t) ∧ w.cell? ⟨b, 2, none⟩ = some v ∧ MapsL w v c.l
theorem MsP.keep {w w' : World} {b : Nat} {c : Ms} (h : MsP w b c) (hb : Below w.heap.size w w') : MsP w' b c := by
  obtain ⟨v, h0, h1, h2, hr⟩ := h
  exact ⟨v, by rw [hb.cell (block_lt h0)]; exact h0, by rw [hb.cell (block_lt h1)]; exact h1, by rw [hb.cell (block_lt h2)]; exact h2, hr.keep hb⟩

end Go.Proofs.Ytcijggfbfpfcdaa
