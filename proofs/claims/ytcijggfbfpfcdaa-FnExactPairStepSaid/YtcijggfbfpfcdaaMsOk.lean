/- Maps that are valid: the project's and the specification's answer. Conditions: none. -/
import Derived.Test.YtcijggfbfpfcdaaMapsE
import Derived.Test.YtcijggfbfpfcdaaOk
import Derived.Test.YtcijggfbfpfcdaaOkS
import Derived.Test.YtcijggfbfpfcdaaStep
namespace Go.Proofs.Ytcijggfbfpfcdaa
open Go.RowKit Go.Deep
set_option linter.unusedVariables false

theorem any_take_succ {p : Int → Bool} (xs : List Int) (k : Nat) (h : k < xs.length) (h0 : (xs.take k).any p = false) (h1 : p (xs.getD k 0) = false) : (xs.take (k + 1)).any p = false := by
  rw [List.take_succ_eq_append_getElem h, List.any_append, h0]
  simp only [List.getD, List.getElem?_eq_getElem h, Option.getD_some] at h1
  simp [h1]
theorem any_yes {p : Int → Bool} (xs : List Int) (k : Nat) (h : k < xs.length) (h1 : p (xs.getD k 0) = true) : xs.any p = true := by
  rw [List.any_eq_true]
  exact ⟨_, getD_mem h, h1⟩
theorem any_all (xs : List Int) (lo hi : Int) : (xs.any fun x => !inB x lo hi) = !(xs.all fun x => inB x lo hi) := by
  rw [List.any_eq_not_all_not]; simp

/-- so many numbers, all within the bounds -/
def within (xs : List Int) (n lo hi : Int) : Bool := decide ((xs.length : Int) = n) && xs.all (fun x => inB x lo hi)
/-- valid maps -/
def mpOk (n t : Int) (p : Mp) : Bool := inB p.1 1 t && within p.2 n 0 (n - 1)
def wsum (l : List Mp) : Int := (l.map Prod.fst).sum
def msOk (m : Ms) : Bool := inB m.n 1 6 && (inB m.t 1 60 && (inB m.l.length 1 60 && (m.l.all (mpOk m.n m.t) && decide (wsum m.l = m.t))))
theorem wsum_take_succ (l : List Mp) (k : Nat) (h : k < l.length) : wsum (l.take (k + 1)) = wsum (l.take k) + (l.getD k mp0).1 := by
  unfold wsum
  rw [List.map_take, List.map_take, sum_take_succ _ k (by simpa using h)]
  simp [List.getD, h]
theorem msOk_no1 {m : Ms} (h : inB m.n 1 6 = false) : msOk m = false := by simp [msOk, h]
theorem msOk_no2 {m : Ms} (h : inB m.t 1 60 = false) : msOk m = false := by simp [msOk, h]
theorem msOk_no3 {m : Ms} (h : inB m.l.length 1 60 = false) : msOk m = false := by simp [msOk, h]
theorem msOk_rest {m : Ms} (h1 : inB m.n 1 6 = true) (h2 : inB m.t 1 60 = true) (h3 : inB m.l.length 1 60 = true) : msOk m = (m.l.all (mpOk m.n m.t) && decide (wsum m.l = m.t)) := by simp [msOk, h1, h2, h3]
theorem msOk_bad {m : Ms} {k : Nat} (hk : k < m.l.length) (h : mpOk m.n m.t (m.l.getD k mp0) = false) : msOk m = false := by
  have := all_false_of (mpOk m.n m.t) m.l mp0 k hk h
  unfold msOk; rw [this]; simp

end Go.Proofs.Ytcijggfbfpfcdaa
