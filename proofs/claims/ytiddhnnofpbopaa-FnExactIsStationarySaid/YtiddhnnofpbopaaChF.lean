/- What is known of a valid chain; how long the numbers of its steps get. No conditions. -/
import Derived.Test.YtiddhnnofpbopaaStG
import Derived.Test.YtiddhnnofpbopaaChainH
import Derived.Test.YtiddhnnofpbopaaRsG
namespace Go.Proofs.Ytiddhnnofpbopaa
open Go.RowKit Go.Deep
set_option linter.unusedVariables false
set_option linter.unusedSimpArgs false

theorem comN_lenW (l : List (Nat × Nat)) (S D M : Nat) (hs : ∀ i, i < l.length → dlen W32 (l.getD i (0, 0)).1 ≤ S ∧ dlen W32 (l.getD i (0, 0)).2 ≤ S) (hD : dlen W32 D ≤ M) : ∀ i, i < l.length → dlen W32 ((comN D l).getD i 0) ≤ S + M := by
  intro i hi
  rw [comN_get _ _ _ hi]
  exact mul_dlenW (hs i hi).1 (Nat.le_trans (dlen_mono w32 (Nat.div_le_self _ _)) hD)
/-- what is known of a valid chain -/
structure ChF (c : Ch) (n t : Nat) : Prop where
  n1 : 1 ≤ n
  n6 : n ≤ 6
  t1 : 1 ≤ t
  t2 : t ≤ 60
  nn : c.n = (n : Int)
  tt : c.t = (t : Int)
  wl : c.w.length = n
  row : ∀ k, k < n → (c.w.getD k []).length = n ∧ ∀ x ∈ c.w.getD k [], 0 ≤ x ∧ x ≤ 3600
theorem chF_of {c : Ch} (h : chOk c = true) : ChF c c.n.toNat c.t.toNat := by
  obtain ⟨n1, n2, t1, t2, hlen, hrows⟩ := chOk_all h
  refine ⟨by omega, by omega, by omega, by omega, by omega, by omega, by omega, fun k hk => ?_⟩
  have hr := hrows _ (getD_mem (d := []) (show k < c.w.length by omega))
  obtain ⟨q1, q2, q3⟩ := okRow_all hr
  exact ⟨by omega, fun x hx => by have := q2 x hx; omega⟩
theorem wt_lt (c : Ch) (n t : Nat) (h : ChF c n t) (j k : Nat) (hk : k < n) : wt c.w k j ≤ 3600 := by
  obtain ⟨h1, h2⟩ := h.row k hk
  unfold wt
  by_cases hj : j < n
  · have h3 := h2 _ (getD_mem (d := 0) (show j < (c.w.getD k []).length by omega))
    omega
  · rw [show (c.w.getD k []).getD j 0 = 0 by rw [List.getD, List.getElem?_eq_none (by omega)]; rfl]
    simp
theorem pow_len {B : Nat} (hB : 2 ≤ B) (D t L M : Nat) (hD : dlen B D ≤ L) (ht : dlen B t ≤ M) : ∀ i, dlen B (D * t ^ i) ≤ L + i * M
  | 0 => by simpa using hD
  | i + 1 => by
      have := mul_dlen hB (pow_len hB D t L M hD ht i) ht
      rw [Nat.pow_succ, ← Nat.mul_assoc]
      have e : (i + 1) * M = i * M + M := Nat.succ_mul _ _
      omega
end Go.Proofs.Ytiddhnnofpbopaa
