/- The chain that stays, of the specification. Conditions: it has 1 to 6 states. -/
import Derived.Test.YtacnafjmcfcalaaMix2
import Derived.Deep.DeepCutAuto
namespace Go.Proofs.Ytacnafjmcfcalaa
open Go.RowKit Go.Deep

def stayF (t : Int) (s j : Nat) : Int := if s = j then t else 0
def stayCh (n t : Int) : Ch := ⟨n, t, rowsOf n.toNat (stayF t)⟩
theorem stay_row (n k : Nat) (t : Int) : (List.replicate n (Value.int .i64 0)).set k (.int .i64 t) = ints ((List.range n).map fun j => stayF t k j) := by
  apply List.ext_getElem
  · simp [ints]
  · intro i h1 h2
    simp only [List.getElem_set, List.getElem_replicate, ints, List.getElem_map, List.getElem_range, stayF]
    split <;> rfl

/-- 'make([]int64, n)' -/
theorem make_len (n : Int) (h0 : 0 ≤ n) (h1 : n ≤ 1000000) : ∀ u : World, (Instr.makeSlice 28 (.int .i64 n) (.int .i64 n)).run Try.prog u =
    .ok (.slice (some ⟨u.heap.size, 0, none⟩) n.toNat n.toNat) (u.alloc (.cells (madeCells #[.int .i64 0] n.toNat) 2)) := fun u => by
  obtain ⟨i0, hi, hz0, hz1, hz2⟩ := info_parts Try.infoI
  have h := run_make (P := Try.prog) u 28 2 i0 (.int .i64 0) Try.underlying28 hi hz0 .i64 .i64 n n h0 (by omega) (by rw [hz2]; omega) (by omega)
  simpa [hz1, Value.cells] using h

end Go.Proofs.Ytacnafjmcfcalaa
