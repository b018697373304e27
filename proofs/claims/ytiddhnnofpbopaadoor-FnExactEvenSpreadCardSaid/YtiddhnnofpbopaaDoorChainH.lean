/- ChainH: several texts in one (Ok). Conditions: told in each. -/
import Derived.Test.YtiddhnnofpbopaaDoorNumG
/- ValidChain of the project and of the specification: both answer 'chOk'. Conditions: none on the chain beyond what is read. -/
namespace Go.Proofs.YtiddhnnofpbopaaDoor
open Go.RowKit Go.Deep

/-! ### plain words -/
def inB (n lo hi : Int) : Bool := decide (lo ≤ n) && decide (n ≤ hi)
def okRow (n t : Int) (row : List Int) : Bool := decide ((row.length : Int) = n) && (row.all (fun x => inB x 0 t) && decide (row.sum = t))
def chOk (c : Ch) : Bool := inB c.n 1 6 && (inB c.t 1 60 && (decide ((c.w.length : Int) = c.n) && c.w.all (okRow c.n c.t)))

theorem inB_yes {n lo hi : Int} (h1 : lo ≤ n) (h2 : n ≤ hi) : inB n lo hi = true := by simp [inB, h1, h2]
theorem inB_iff {n lo hi : Int} : inB n lo hi = true ↔ lo ≤ n ∧ n ≤ hi := by simp [inB]

/-! ### isIn, l00In -/
set_option maxHeartbeats 1000000 in
theorem isIn_any (n lo hi : Int) (w : World) : Calls Tryd.prog 11 #[.int .i64 n, .int .i64 lo, .int .i64 hi] w fun e w' => e = .returned (.bool (inB n lo hi)) ∧ w = w' := by
  by_cases h1 : lo ≤ n
  · have he := Lib.hid (show inB n lo hi = decide (n ≤ hi) by simp [inB, h1])
    go_enter Tryd.func11, Tryd.ntmps11
    go_wp2
    go_ret
    exact ⟨ret_bool he.out.symm, rfl⟩
  · have he := Lib.hid (show inB n lo hi = false by simp [inB, h1])
    have h1' : decide (lo ≤ n) = false := by simpa using h1
    go_enter Tryd.func11, Tryd.ntmps11
    go_wp2
    go_ret
    exact ⟨ret_bool he.out.symm, rfl⟩
set_option maxHeartbeats 1000000 in
theorem l00In_any (n lo hi : Int) (w : World) : Calls Tryd.prog 9 #[.int .i64 n, .int .i64 lo, .int .i64 hi] w fun e w' => e = .returned (.bool (inB n lo hi)) ∧ w = w' := by
  by_cases h1 : lo ≤ n
  · have he := Lib.hid (show inB n lo hi = decide (n ≤ hi) by simp [inB, h1])
    go_enter Tryd.func9, Tryd.ntmps9
    go_wp2
    go_ret
    exact ⟨ret_bool he.out.symm, rfl⟩
  · have he := Lib.hid (show inB n lo hi = false by simp [inB, h1])
    have h1' : decide (lo ≤ n) = false := by simpa using h1
    go_enter Tryd.func9, Tryd.ntmps9
    go_wp2
    go_ret
    exact ⟨ret_bool he.out.symm, rfl⟩

/-! ### the folds -/
theorem foldl_take_succ {f : Int → Int → Int} (row : List Int) (a : Int) (k : Nat) (h : k < row.length) : (row.take (k + 1)).foldl f a = f ((row.take k).foldl f a) (row.getD k 0) := by
  rw [List.take_succ_eq_append_getElem h, List.foldl_append]
  simp [List.getD, h]

theorem foldl_min (row : List Int) (a : Int) (m : Int) : m ≤ row.foldl (fun a b => min a b) a ↔ m ≤ a ∧ ∀ x ∈ row, m ≤ x := by
  induction row generalizing a with
  | nil => simp
  | cons x r ih => simp only [List.foldl_cons, ih, List.mem_cons, forall_eq_or_imp, Int.le_min, and_assoc]
theorem foldl_max (row : List Int) (a : Int) (m : Int) : row.foldl (fun a b => max a b) a ≤ m ↔ a ≤ m ∧ ∀ x ∈ row, x ≤ m := by
  induction row generalizing a with
  | nil => simp
  | cons x r ih => simp only [List.foldl_cons, ih, List.mem_cons, forall_eq_or_imp, Int.max_le, and_assoc]
theorem foldl_add (row : List Int) (a : Int) : row.foldl (fun a b => a + b) a = a + row.sum := by
  induction row generalizing a with
  | nil => simp
  | cons x r ih => simp only [List.foldl_cons, ih, List.sum_cons]; omega

/-- a sum of few small numbers -/
theorem sum_bd (row : List Int) (hi : Int) (h : ∀ x ∈ row, 0 ≤ x ∧ x ≤ hi) : 0 ≤ row.sum ∧ row.sum ≤ hi * row.length := by
  induction row with
  | nil => simp
  | cons x r ih =>
    have h1 := h x (by simp)
    have h2 := ih (fun y hy => h y (by simp [hy]))
    simp only [List.sum_cons, List.length_cons, Int.natCast_add, Int.mul_add]
    omega

/-! ### ValidChain of the project -/
theorem all_take_succ {α : Type} (p : α → Bool) (l : List α) (d : α) (k : Nat) (h : k < l.length) : (l.take (k + 1)).all p = ((l.take k).all p && p (l.getD k d)) := by
  rw [List.take_succ_eq_append_getElem h, List.all_append]
  simp [List.getD, h]
theorem all_false_of {α : Type} (p : α → Bool) (l : List α) (d : α) (k : Nat) (h : k < l.length) (hp : p (l.getD k d) = false) : l.all p = false := by
  rw [Bool.eq_false_iff]; intro hc
  rw [List.all_eq_true] at hc
  have := hc (l.getD k d) (by simp [List.getD, h])
  rw [hp] at this; cases this

end Go.Proofs.YtiddhnnofpbopaaDoor
