/- Is a spread stationary: the model, and the project's function. Conditions: told by the code. -/
import Derived.Test.YtiddhnnofpbopaaChF
import Derived.Test.YtiddhnnofpbopaaStG
namespace Go.Proofs.Ytiddhnnofpbopaa
open Go.RowKit Go.Deep
set_option linter.unusedVariables false
set_option linter.unusedSimpArgs false

/-- the chance of state k is what comes in with a step -/
def isK (c : Ch) (p : List (ByteArray × ByteArray)) (n k : Nat) : Bool :=
  decide (((numP p).getD k (0, 0)).1 * (comD (numP p) * c.t.toNat) = dotN c.w (comN (comD (numP p)) (numP p)) k n * ((numP p).getD k (0, 0)).2)
def isAll (c : Ch) (p : List (ByteArray × ByteArray)) (n k : Nat) : Bool := (List.range k).all fun i => isK c p n i
/-- what IsStationary answers -/
def isR (c : Ch) (p : List (ByteArray × ByteArray)) : Bool × Int :=
  if (spreadB p && chOk c) = true then (if (p.length : Int) = c.n then (isAll c p p.length p.length, 0) else (false, 2)) else (false, 1)
theorem isAll_next {c : Ch} {p : List (ByteArray × ByteArray)} {n k : Nat} (h1 : isAll c p n k = true) (h2 : isK c p n k = true) : isAll c p n (k + 1) = true := by
  unfold isAll at *
  rw [List.range_succ, List.all_append, h1]; simpa using h2
theorem isAll_no {c : Ch} {p : List (ByteArray × ByteArray)} {n k m : Nat} (hk : k < m) (h2 : isK c p n k = false) : isAll c p n m = false := by
  unfold isAll
  rw [Bool.eq_false_iff]; intro hc
  have := List.all_eq_true.1 hc k (by simpa using hk)
  rw [h2] at this; cases this
theorem isR_rso (c : Ch) (p : List (ByteArray × ByteArray)) (h : rsoC c p ≠ 0) : isR c p = (false, rsoC c p) := by
  unfold rsoC at *
  unfold isR
  split
  · rename_i h1
    rw [if_pos h1] at h
    split
    · rename_i h2; rw [if_pos h2] at h; exact absurd rfl h
    · rfl
  · rfl
theorem rso_ok {c : Ch} {p : List (ByteArray × ByteArray)} (h : rsoC c p = 0) : spreadB p = true ∧ chOk c = true ∧ (p.length : Int) = c.n ∧ isR c p = (isAll c p p.length p.length, 0) := by
  unfold rsoC at h
  by_cases h1 : (spreadB p && chOk c) = true
  · rw [if_pos h1] at h
    by_cases h2 : (p.length : Int) = c.n
    · have h3 := h1
      rw [Bool.and_eq_true] at h3
      exact ⟨h3.1, h3.2, h2, by unfold isR; rw [if_pos h1, if_pos h2]⟩
    · rw [if_neg h2] at h; cases h
  · rw [if_neg h1] at h; cases h
theorem spreadB_all {p : List (ByteArray × ByteArray)} (h : spreadB p = true) : frsOk p = true ∧ 1 ≤ p.length ∧ p.length ≤ 6 := by
  unfold spreadB at h
  simp only [Bool.and_eq_true, decide_eq_true_eq] at h
  exact ⟨h.2.1, h.1⟩
theorem cmpI_zero (a b : Nat) : (cmpI a b != 0) = !decide (a = b) := by
  unfold cmpI
  by_cases h1 : a < b
  · rw [if_pos h1, decide_eq_false (by omega)]; rfl
  · rw [if_neg h1]
    by_cases h2 : b < a
    · rw [if_pos h2, decide_eq_false (by omega)]; rfl
    · rw [if_neg h2, decide_eq_true (by omega)]; rfl
structure IsF (c : Ch) (p : List (ByteArray × ByteArray)) (n t : Nat) (A : List Nat) (D : Nat) : Prop where
  ch : ChF c n t
  al : A.length = n
  aW : ∀ k, k < n → dlen W32 (A.getD k 0) ≤ 3300
  a9 : ∀ k, k < n → dlen B9 (A.getD k 0) ≤ 3300
  dW : dlen W32 D ≤ 3000
  d9 : dlen B9 D ≤ 3000
  d0 : 0 < D
  pl : (numP p).length = n
  pW : ∀ k, k < n → dlen W32 ((numP p).getD k (0, 0)).1 ≤ 300 ∧ dlen W32 ((numP p).getD k (0, 0)).2 ≤ 300
  p9 : ∀ k, k < n → dlen B9 ((numP p).getD k (0, 0)).1 ≤ 300 ∧ dlen B9 ((numP p).getD k (0, 0)).2 ≤ 300
  p0 : ∀ k, k < n → 0 < ((numP p).getD k (0, 0)).2
  dotW : ∀ k j, j ≤ n → dlen W32 (dotN c.w A k j) ≤ 3310
theorem isF_of {c : Ch} {p : List (ByteArray × ByteArray)} (h1 : spreadB p = true) (h2 : chOk c = true) (hl : (p.length : Int) = c.n) :
    IsF c p p.length c.t.toNat (comN (comD (numP p)) (numP p)) (comD (numP p)) := by
  have hc := chF_of h2
  have en : c.n.toNat = p.length := by omega
  rw [en] at hc
  obtain ⟨f1, a1, a2⟩ := spreadB_all h1
  have pl := numP_length p
  have e1 := comD_len9 (numP p) 300 (numP_len9 f1)
  have g1 : dlen B9 (comD (numP p)) ≤ 3000 := by rw [pl] at e1; omega
  have r1 := comN_len (numP p) 300 _ 3000 (numP_len9 f1) g1
  have e2 := comD_lenW (numP p) 300 (numP_len f1) (numP p).length (Nat.le_refl _)
  rw [List.take_length] at e2
  have g2 : dlen W32 (comD (numP p)) ≤ 3000 := by rw [pl] at e2; omega
  have r2 := comN_lenW (numP p) 300 _ 3000 (numP_len f1) g2
  have p1 := comD_pos (numP p) (numP_den f1) _ (Nat.le_refl _)
  rw [List.take_length] at p1
  have L1 : (comN (comD (numP p)) (numP p)).length = p.length := by rw [comN_length, pl]
  have wW : ∀ j k, k < p.length → dlen W32 (wt c.w k j) ≤ 1 := fun j k hk => dlen_le w32 (by have := wt_lt c _ _ hc j k hk; simp only [W32]; omega)
  refine ⟨hc, L1, fun k hk => r2 k (by rw [pl]; exact hk), fun k hk => r1 k (by rw [L1]; exact hk), g2, g1, p1, pl, fun k hk => numP_len f1 k (by rw [pl]; exact hk), fun k hk => numP_len9 f1 k (by rw [pl]; exact hk), fun k hk => numP_den f1 k (by rw [pl]; exact hk), fun k j hj => ?_⟩
  have := dotN_len w32 c.w _ k 3300 1 p.length (fun k hk => r2 k (by rw [pl]; exact hk)) (fun i hi => wW k i hi) j hj
  omega
end Go.Proofs.Ytiddhnnofpbopaa
