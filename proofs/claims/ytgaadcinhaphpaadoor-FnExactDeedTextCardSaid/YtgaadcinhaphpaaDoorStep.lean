/- A step by a draw, of the project and of the specification: both answer 'pk'. Conditions: the chain is valid, state and draw are in range (told by the code). -/
import Derived.Test.YtgaadcinhaphpaaDoorOkS
namespace Go.Proofs.YtgaadcinhaphpaaDoor
open Go.RowKit Go.Deep

/-- k is the place: the sums before it are at most d, that up to it is greater -/
def IsPick (row : List Int) (d : Int) (k : Nat) : Prop := k < row.length ∧ (∀ j, j < k → (row.take (j + 1)).sum ≤ d) ∧ d < (row.take (k + 1)).sum
def pk (row : List Int) (d : Int) : Nat := ((List.range row.length).find? (fun k => decide (d < (row.take (k + 1)).sum))).getD 0
theorem pk_of {row : List Int} {d : Int} {k : Nat} (h : IsPick row d k) : pk row d = k := by
  obtain ⟨h1, h2, h3⟩ := h
  have : (List.range row.length).find? (fun k => decide (d < (row.take (k + 1)).sum)) = some k := by
    rw [List.find?_range_eq_some]
    refine ⟨by simpa using h3, by simpa using h1, fun j hj => ?_⟩
    have := h2 j hj
    simp; omega
  rw [pk, this]; rfl

theorem okRow_all {n t : Int} {row : List Int} (h : okRow n t row = true) : (row.length : Int) = n ∧ (∀ x ∈ row, 0 ≤ x ∧ x ≤ t) ∧ row.sum = t := by
  simp only [okRow, Bool.and_eq_true, decide_eq_true_eq, List.all_eq_true, inB_iff] at h
  exact ⟨h.1, h.2.1, h.2.2⟩
theorem chOk_all {c : Ch} (h : chOk c = true) : 1 ≤ c.n ∧ c.n ≤ 6 ∧ 1 ≤ c.t ∧ c.t ≤ 60 ∧ (c.w.length : Int) = c.n ∧ ∀ r ∈ c.w, okRow c.n c.t r = true := by
  simp only [chOk, Bool.and_eq_true, decide_eq_true_eq, List.all_eq_true, inB_iff] at h
  exact ⟨h.1.1, h.1.2, h.2.1.1, h.2.1.2, h.2.2.1, h.2.2.2⟩
theorem getD_mem {α : Type} {l : List α} {k : Nat} {d : α} (h : k < l.length) : l.getD k d ∈ l := by simp [List.getD, h]
theorem take_bd {row : List Int} {hi : Int} (h : ∀ x ∈ row, 0 ≤ x ∧ x ≤ hi) (k : Nat) : 0 ≤ (row.take k).sum ∧ (row.take k).sum ≤ hi * (row.take k).length :=
  sum_bd _ _ fun x hx => h x (List.mem_of_mem_take hx)

/-- the answer of StepByDraw: the state and the code -/
def stepOf (c : Ch) (s d : Int) : Int × Int :=
  if chOk c = true then (if inB s 0 (c.n - 1) = true ∧ inB d 0 (c.t - 1) = true then ((pk (c.w.getD s.toNat []) d : Nat), 0) else (0, 2)) else (0, 1)

/-! ### the specification's -/
end Go.Proofs.YtgaadcinhaphpaaDoor
