/- ValidChain of the specification answers 'chOk'. Conditions: none on the chain beyond what is read. -/
import Derived.Test.YtgaadcinhaphpaaDoorOk
namespace Go.Proofs.YtgaadcinhaphpaaDoor
open Go.RowKit Go.Deep

/-- a chain behind the pointer to block b -/
def ChP (w : World) (b : Nat) (c : Ch) : Prop :=
  ∃ v, w.cell? ⟨b, 0, none⟩ = some (.int .i64 c.n) ∧ w.cell? ⟨b, 1, none⟩ = some (.int .i64 c.t) ∧ w.cell? ⟨b, 2, none⟩ = some v ∧ Rows2 w v c.w
theorem ChP.keep {w w' : World} {b : Nat} {c : Ch} (h : ChP w b c) (hb : Below w.heap.size w w') : ChP w' b c := by
  obtain ⟨v, h0, h1, h2, hr⟩ := h
  exact ⟨v, (hb.cell (block_lt h0)).trans h0, (hb.cell (block_lt h1)).trans h1, (hb.cell (block_lt h2)).trans h2, hr.keep hb⟩

theorem l00In_q (n lo hi : Int) (w : World) (m : Nat) : Calls Tryd.prog 25 #[.int .i64 n, .int .i64 lo, .int .i64 hi] (w.drewN m) fun e w'' => e = .returned (.bool (inB n lo hi)) ∧ ∃ m', w'' = w.drewN m' :=
  (l00In_any n lo hi _).mono fun _ _ ⟨he, hw⟩ => ⟨he, m, hw.symm⟩

theorem drawn_more {w w' : World} (h : ∃ m, w' = w.drewN m) (n : Nat) : ∃ m, w'.drewN n = w.drewN m := by
  obtain ⟨m, rfl⟩ := h
  exact ⟨_, World.drewN_drewN ..⟩
theorem drawn_trans {w w' w'' : World} (h : ∃ m, w' = w.drewN m) (h' : ∃ m, w'' = w'.drewN m) : ∃ m, w'' = w.drewN m := by
  obtain ⟨m, rfl⟩ := h'
  exact drawn_more h m
theorem sum_take_succ (row : List Int) (k : Nat) (h : k < row.length) : (row.take (k + 1)).sum = (row.take k).sum + row.getD k 0 := by
  rw [List.take_succ_eq_append_getElem h, List.sum_append]
  simp [List.getD, h]

end Go.Proofs.YtgaadcinhaphpaaDoor
