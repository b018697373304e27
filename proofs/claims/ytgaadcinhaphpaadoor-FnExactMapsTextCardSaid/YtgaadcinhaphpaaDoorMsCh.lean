/- ChainOfMaps of both sides. Conditions: none. -/
import Derived.Test.YtgaadcinhaphpaaDoorMsOkS
import Derived.Test.YtgaadcinhaphpaaDoorMake
namespace Go.Proofs.YtgaadcinhaphpaaDoor
open Go.RowKit Go.Deep
set_option linter.unusedVariables false

theorem ownsRow_kp {w w' : World} {lo n size : Nat} {e : TypeId} {v : Value} {vs : List Value} (h : w.ownsRow lo e size v n vs) (hb : Below w.heap.size w w') : w'.ownsRow lo e size v n vs := by
  refine ⟨h.1, ?_⟩
  rcases h.2 with h0 | ⟨g, cap, cur, hv, hg, hh, r⟩
  · exact Or.inl h0
  · exact Or.inr ⟨g, cap, cur, hv, hg, by rw [hb.block g (Array.getElem?_eq_some_iff.1 hh).1]; exact hh, r⟩

/-- what valid maps are -/
theorem msOk_all {m : Ms} (h : msOk m = true) : (1 ≤ m.n ∧ m.n ≤ 6) ∧ (1 ≤ m.t ∧ m.t ≤ 60) ∧ (1 ≤ m.l.length ∧ m.l.length ≤ 60) ∧ (∀ p ∈ m.l, (1 ≤ p.1 ∧ p.1 ≤ m.t) ∧ (p.2.length : Int) = m.n ∧ ∀ x ∈ p.2, 0 ≤ x ∧ x ≤ m.n - 1) ∧ wsum m.l = m.t := by
  unfold msOk at h
  simp only [Bool.and_eq_true, inB_iff, List.all_eq_true, decide_eq_true_eq] at h
  obtain ⟨h1, h2, h3, h4, h5⟩ := h
  refine ⟨h1, h2, by omega, fun p hp => ?_, h5⟩
  have := h4 p hp
  simp only [mpOk, within, Bool.and_eq_true, inB_iff, List.all_eq_true, decide_eq_true_eq] at this
  exact this
theorem msOk_at {m : Ms} (h : msOk m = true) (k : Nat) (hk : k < m.l.length) : (1 ≤ (m.l.getD k mp0).1 ∧ (m.l.getD k mp0).1 ≤ 60) ∧ ((m.l.getD k mp0).2.length : Int) = m.n ∧ ∀ s, s < (m.l.getD k mp0).2.length → 0 ≤ (m.l.getD k mp0).2.getD s 0 ∧ (m.l.getD k mp0).2.getD s 0 ≤ m.n - 1 := by
  obtain ⟨_, ht, _, hp, _⟩ := msOk_all h
  obtain ⟨a1, a2, a3⟩ := hp _ (getD_mem (d := mp0) hk)
  exact ⟨by omega, a2, fun s hs => a3 _ (getD_mem hs)⟩

/-- the weights of the maps that lead from s to j -/
def wat (s j : Nat) (p : Mp) : Int := if (p.2.getD s 0 == (j : Int)) = true then p.1 else 0
theorem wat_yes {s j : Nat} {x y : Int} {row : List Int} (hy : row.getD s 0 = y) (h : (y == (j : Int)) = true) : wat s j (x, row) = x := by unfold wat; rw [if_pos (by rw [hy]; exact h)]
theorem wat_no {s j : Nat} {x y : Int} {row : List Int} (hy : row.getD s 0 = y) (h : (y == (j : Int)) = false) : wat s j (x, row) = 0 := by unfold wat; rw [if_neg (by rw [hy, h]; decide)]
def wto (l : List Mp) (s j : Nat) : Int := (l.map (wat s j)).sum
theorem wto_take_succ (l : List Mp) (s j k : Nat) (h : k < l.length) : wto (l.take (k + 1)) s j = wto (l.take k) s j + wat s j (l.getD k mp0) := by
  unfold wto
  rw [List.map_take, List.map_take, sum_take_succ _ k (by simpa using h)]
  simp [List.getD, h]

/-- ChainOfMaps -/
def comOf (m : Ms) : Ch × Int := if msOk m = true then (⟨m.n, m.t, rowsOf m.n.toNat (wto m.l)⟩, 0) else (⟨0, 0, []⟩, 1)
theorem nil_ch (w : World) (lo hi : Nat) : ChOwn 55 2 w lo hi (.agg #[.int .i64 0, .int .i64 0, .slice none 0 0]) ⟨0, 0, []⟩ :=
  ⟨_, rfl, [], ⟨⟨by simp, Or.inl ⟨rfl, rfl⟩⟩, by simp, fun k hk => by simp [Value.ownBlock] at hk⟩, rfl, fun i hi => by simp at hi, fun i hi => by simp at hi, fun i j hi => by simp at hi⟩
end Go.Proofs.YtgaadcinhaphpaaDoor
