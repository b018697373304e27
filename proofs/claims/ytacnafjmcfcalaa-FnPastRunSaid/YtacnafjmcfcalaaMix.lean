/- The chain that mixes two, of the specification. Conditions: both are valid and have the same states. -/
import Derived.Test.YtacnafjmcfcalaaMake
import Derived.Deep.AppendLies
import Derived.Deep.RegionHeld3
namespace Go.Proofs.Ytacnafjmcfcalaa
open Go.RowKit Go.Deep

def mixF (c d : Ch) (s t : Nat) : Int := (c.w.getD s []).getD t 0 * d.t + (d.w.getD s []).getD t 0 * c.t
def mixCh (c d : Ch) : Ch := ⟨c.n, 2 * c.t * d.t, rowsOf c.n.toNat (mixF c d)⟩

theorem wrap_id {x : Int} (h : -9223372036854775808 ≤ x ∧ x ≤ 9223372036854775807) : IntKind.i64.wrap x = x := by rw [IntKind.wrap_i64]; omega
theorem mul_bd {x y a b : Int} (hx : 0 ≤ x) (hxa : x ≤ a) (hy : 0 ≤ y) (hyb : y ≤ b) : 0 ≤ x * y ∧ x * y ≤ a * b :=
  ⟨Int.mul_nonneg hx hy, Int.mul_le_mul hxa hyb hy (by omega)⟩

end Go.Proofs.Ytacnafjmcfcalaa
