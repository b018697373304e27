/- The laws' comparison of maps; maps that came in, opened. Conditions: none. -/
import Derived.Test.YtcijggfbfpfcdaaMapsT
namespace Go.Proofs.Ytcijggfbfpfcdaa
open Go.ChangeShapes Go.WideShapes Go.ChangeAt Go.RowKit Go.Deep Go.Joins
set_option linter.unusedVariables false

theorem Blk.two {w : World} {b : Nat} {x y : Value} {t : TypeId} (h : Blk w b #[x, y] t) : w.cell? ⟨b, 0, none⟩ = some x ∧ w.cell? ⟨b, 1, none⟩ = some y := ⟨h.cell 0, h.cell 1⟩

def msEq (c d : Ms) : Bool := decide (c.n = d.n) && (decide (c.t = d.t) && decide (c.l = d.l))
theorem msEq_self (c : Ms) : msEq c c = true := by simp [msEq]

theorem MsMine.mine {e2 e1 : TypeId} {w : World} {lo hi : Nat} {cv : Value} {c : Ms} (h : MsMine e2 e1 w lo hi cv c) : MsMine e2 e1 w lo hi cv c := h
/-- numbers that marks take: the weights, too -/
abbrev msz (l : List Mp) : Nat := l.length + tot l

/-! ### opened -/
set_option maxRecDepth 100000 in
theorem open_list_trod {H : Type} {enc : TypeId × Value → H} {W : World} {base : Nat} {held : Bool} {fuel : Nat} {v : Value} {x : DataW H × List MemPlace}
    (h : DataW.trod enc Try.prog W base (fun _ => true) held fuel 42 [v] = some x) : ∃ xs, Ints W v xs := by
  rcases open_ints Try.underlying42 Try.underlying2 (by kernel_rfl) h with ⟨hcs, _⟩ | ⟨a, len, cap, zs, hcs, _, hl, hm, hz, _, hc, _⟩
  · simp at hcs
    subst hcs
    exact ⟨[], by simp [ints], none, 0, by simp [ints], ⟨by simp [ints], by unfold maxLen; omega⟩, fun i hi => by simp [ints] at hi⟩
  · simp at hcs
    subst hcs
    simp only [if_true] at hz
    have hr := row_of_cells (w := W) (a := a) (len := len) (cap := cap) (V := fun i => .int .i64 (zs.getD i 0)) (by omega) (fun i hi => hc i (by omega)) hl hm
    refine ⟨(List.range len).map fun i => zs.getD i 0, ?_⟩
    have e : ints ((List.range len).map fun i => zs.getD i 0) = (List.range len).map fun i => Value.int .i64 (zs.getD i 0) := by simp [ints]
    unfold Ints
    rw [e]
    exact hr

end Go.Proofs.Ytcijggfbfpfcdaa
