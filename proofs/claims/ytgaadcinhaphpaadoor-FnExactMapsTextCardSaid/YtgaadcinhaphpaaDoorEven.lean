/- IsEven of the project and of the specification: both answer whether all columns have the sum Total. Conditions: told by the code. -/
import Derived.Test.YtgaadcinhaphpaaDoorStep
import Derived.Test.YtgaadcinhaphpaaDoorTo
namespace Go.Proofs.YtgaadcinhaphpaaDoor
open Go.RowKit Go.Deep

def col (xss : List (List Int)) (t : Nat) : List Int := xss.map fun r => r.getD t 0
def evenB (c : Ch) : Bool := (List.range c.w.length).all fun t => decide ((col c.w t).sum = c.t)
def evenOf (c : Ch) : Bool × Int := if chOk c = true then (evenB c, 0) else (false, 1)
theorem col_length (xss : List (List Int)) (t : Nat) : (col xss t).length = xss.length := by simp [col]
theorem col_getD (xss : List (List Int)) (t s : Nat) (h : s < xss.length) : (col xss t).getD s 0 = (xss.getD s []).getD t 0 := by simp [col, List.getD, h]
theorem col_bd {c : Ch} (hok : chOk c = true) {t : Nat} (ht : t < c.w.length) : ∀ x ∈ col c.w t, 0 ≤ x ∧ x ≤ 60 := by
  obtain ⟨n1, n2, t1, t2, hlen, hrows⟩ := chOk_all hok
  intro x hx
  simp only [col, List.mem_map] at hx
  obtain ⟨r, hr, rfl⟩ := hx
  obtain ⟨q1, q2, q3⟩ := okRow_all (hrows r hr)
  have := q2 _ (getD_mem (d := 0) (show t < r.length by omega))
  omega
theorem all_range_succ {p : Nat → Bool} (k : Nat) : (List.range (k + 1)).all p = ((List.range k).all p && p k) := by
  rw [List.range_succ, List.all_append]; simp
theorem all_range_false {p : Nat → Bool} {k n : Nat} (hk : k < n) (h : p k = false) : (List.range n).all p = false := by
  rw [Bool.eq_false_iff]; intro hc
  rw [List.all_eq_true] at hc
  have := hc k (by simpa using hk)
  rw [h] at this; cases this

/-- 'make([]int64, 0, n)' -/
theorem make_cap (n : Int) (h0 : 0 ≤ n) (h1 : n ≤ 1000000) : ∀ u : World, (Instr.makeSlice 55 (.int .i64 0) (.int .i64 n)).run Tryd.prog u =
    .ok (.slice (some ⟨u.heap.size, 0, none⟩) 0 n.toNat) (u.alloc (.cells (madeCells #[.int .i64 0] n.toNat) 2)) := fun u => by
  obtain ⟨i0, hi, hz0, hz1, hz2⟩ := info_parts Tryd.infoI
  have h := run_make (P := Tryd.prog) u 55 2 i0 (.int .i64 0) Tryd.underlying55 hi hz0 .i64 .i64 0 n (by omega) h0 (by rw [hz2]; omega) (by omega)
  simpa [hz1, Value.cells] using h

end Go.Proofs.YtgaadcinhaphpaaDoor
