/- Runs from the past and forward: what the least number of steps tells. Conditions: none: plain lemmas. -/
import Derived.Test.YtacnafjmcfcalaaWin
namespace Go.Proofs.Ytacnafjmcfcalaa
open Go.RowKit Go.Deep
set_option linter.unusedVariables false

/-- what leastF tells -/
theorem leastF_told (run : Nat → List Int) (may : Nat → Bool) : ∀ (f k : Nat),
    (leastF run may k f = (0, 0, 6) ∧ ∀ j, k ≤ j → j < k + f → (eqAll (run j) && may j) = false) ∨
    (∃ q, k ≤ q ∧ q < k + f ∧ eqAll (run q) = true ∧ may q = true ∧ leastF run may k f = ((run q).getD 0 0, (q : Int), 0) ∧ ∀ j, k ≤ j → j < q → (eqAll (run j) && may j) = false)
  | 0, k => Or.inl ⟨rfl, fun j h1 h2 => by omega⟩
  | f + 1, k => by
    by_cases h : (eqAll (run k) && may k) = true
    · refine Or.inr ⟨k, Nat.le_refl _, by omega, ?_, ?_, ?_, fun j h1 h2 => by omega⟩
      · rw [Bool.and_eq_true] at h; exact h.1
      · rw [Bool.and_eq_true] at h; exact h.2
      · rw [leastF, if_pos h]
    · rw [leastF, if_neg h]
      have h0 : (eqAll (run k) && may k) = false := by simpa using h
      rcases leastF_told run may f (k + 1) with ⟨a, b⟩ | ⟨q, a, b, c, d, e, g⟩
      · refine Or.inl ⟨a, fun j h1 h2 => ?_⟩
        by_cases hj : j = k
        · rw [hj]; exact h0
        · exact b j (by omega) (by omega)
      · refine Or.inr ⟨q, by omega, by omega, c, d, e, fun j h1 h2 => ?_⟩
        by_cases hj : j = k
        · rw [hj]; exact h0
        · exact g j (by omega) h2
/-- one way back, of one state -/
def backS (m : Ms) (ps : List Int) : Int → Nat → Int
  | s, 0 => s
  | s, i + 1 => backS m ps ((m.l.getD (ps.getD i 0).toNat mp0).2.getD s.toNat 0) i
theorem backF_bk (m : Ms) (ps : List Int) : ∀ (i : Nat) (now : List Int), backF m ps now i = now.map fun s => backS m ps s i
  | 0, now => by simp [backF, backS]
  | i + 1, now => by rw [backF, backF_bk m ps i]; simp [byM, backS, List.map_map, Function.comp_def]
theorem eqAll_iff' {xs : List Int} : eqAll xs = true ↔ ∀ x ∈ xs, x = xs.getD 0 0 := by simp [eqAll]
theorem eqAll_all {n : Nat} (h : 1 ≤ n) (f : Int → Int) : eqAll ((allS n).map f) = true ↔ ∀ s : Nat, s < n → f s = f 0 := by
  have e0 : ((allS n).map f).getD 0 0 = f 0 := by
    obtain ⟨k, rfl⟩ : ∃ k, n = k + 1 := ⟨n - 1, by omega⟩
    simp [allS, List.range_succ_eq_map]
  rw [eqAll_iff', e0]
  simp only [allS, List.map_map, List.mem_map, List.mem_range, Function.comp_apply]
  constructor
  · intro h s hs; exact h _ ⟨s, hs, rfl⟩
  · rintro h x ⟨s, hs, rfl⟩; exact h s hs
theorem backF_head {n : Nat} (h : 1 ≤ n) (m : Ms) (ps : List Int) (i : Nat) : (backF m ps (allS n) i).getD 0 0 = backS m ps 0 i := by
  obtain ⟨k, rfl⟩ : ∃ k, n = k + 1 := ⟨n - 1, by omega⟩
  rw [backF_bk]; simp [allS, List.range_succ_eq_map]
/-- farther back all come together as well, and in the same state -/
theorem back_more {n : Nat} (h : 1 ≤ n) (m : Ms) (ps : List Int) (hp : ∀ i s : Nat, i < ps.length → s < n → ∃ t : Nat, t < n ∧ (m.l.getD (ps.getD i 0).toNat mp0).2.getD s 0 = (t : Int)) (i : Nat) (hi : i < ps.length)
    (he : eqAll (backF m ps (allS n) i) = true) : eqAll (backF m ps (allS n) (i + 1)) = true ∧ (backF m ps (allS n) (i + 1)).getD 0 0 = (backF m ps (allS n) i).getD 0 0 := by
  rw [backF_bk, eqAll_all h] at he
  have step : ∀ s : Nat, s < n → backS m ps s (i + 1) = backS m ps 0 i := fun s hs => by
    obtain ⟨t, ht, e⟩ := hp i s hi hs
    rw [backS, Int.toNat_natCast, e]; exact he t ht
  refine ⟨?_, ?_⟩
  · rw [backF_bk, eqAll_all h]
    intro s hs
    rw [step s hs, ← step 0 (by omega)]; rfl
  · rw [backF_head h, backF_head h, ← step 0 (by omega)]; rfl
theorem back_all {n : Nat} (h : 1 ≤ n) (m : Ms) (ps : List Int) (hp : ∀ i s : Nat, i < ps.length → s < n → ∃ t : Nat, t < n ∧ (m.l.getD (ps.getD i 0).toNat mp0).2.getD s 0 = (t : Int)) (i : Nat)
    (he : eqAll (backF m ps (allS n) i) = true) : ∀ j, i ≤ j → j ≤ ps.length → eqAll (backF m ps (allS n) j) = true ∧ (backF m ps (allS n) j).getD 0 0 = (backF m ps (allS n) i).getD 0 0 := by
  intro j hj
  induction j with
  | zero => intro _; obtain rfl : i = 0 := by omega
            exact ⟨he, rfl⟩
  | succ j ih =>
    intro hl
    by_cases e : i = j + 1
    · subst e; exact ⟨he, rfl⟩
    · obtain ⟨a, b⟩ := ih (by omega) (by omega)
      obtain ⟨c, d⟩ := back_more h m ps hp j (by omega) a
      exact ⟨c, d.trans b⟩
/-- picks turned round -/
theorem back_run (m : Ms) (ps : List Int) : ∀ (i : Nat) (now : List Int), i ≤ ps.length → backF m ps now i = ((ps.take i).reverse).foldl (byM m) now
  | 0, now, _ => by simp [backF]
  | i + 1, now, h => by
    rw [backF, back_run m ps i _ (by omega), List.take_succ_eq_append_getElem (by omega), List.reverse_append]
    simp [List.getD, show i < ps.length by omega]
theorem may_near : ∀ q : Fin 13, q.val = 0 ∨ ∃ p : Fin 25, q.val ≤ p.val ∧ p.val < 2 * q.val ∧ mayW p.val = true := by decide +kernel
/-- the windows of a run from the past -/
theorem win_past {run : Nat → List Int} {L q : Nat} (hL : L ≤ 12) (hq : q ≤ L) (hall : ∀ j, q ≤ j → j ≤ L → eqAll (run j) = true ∧ (run j).getD 0 0 = (run q).getD 0 0) (hno : ∀ j, j < q → eqAll (run j) = false) :
    (leastF run mayW 0 (L + 1) = (0, 0, 6) ∧ L < 2 * q) ∨ (∃ d : Nat, leastF run mayW 0 (L + 1) = ((run q).getD 0 0, (d : Int), 0) ∧ q ≤ d ∧ ((q = 0 ∧ d = 0) ∨ d < 2 * q)) := by
  have near := may_near ⟨q, by omega⟩
  simp only at near
  rcases leastF_told run mayW (L + 1) 0 with ⟨a, b⟩ | ⟨d, a, b, c, e, g, h⟩
  · refine Or.inl ⟨a, ?_⟩
    rcases near with h0 | ⟨p, p1, p2, p3⟩
    · have := b 0 (by omega) (by omega)
      rw [(hall 0 (by omega) (by omega)).1, show mayW 0 = true by decide +kernel] at this; cases this
    · rcases Nat.lt_or_ge L p.val with h1 | h1
      · omega
      · have := b p.val (by omega) (by omega)
        rw [(hall p.val p1 h1).1, p3] at this; cases this
  · have hqd : q ≤ d := by
      rcases Nat.lt_or_ge d q with h1 | h1
      · rw [hno d h1] at c; cases c
      · exact h1
    refine Or.inr ⟨d, by rw [g, (hall d hqd (by omega)).2], hqd, ?_⟩
    rcases near with h0 | ⟨p, p1, p2, p3⟩
    · rcases Nat.eq_zero_or_pos d with h1 | h1
      · exact Or.inl ⟨h0, h1⟩
      · have := h 0 (by omega) h1
        rw [(hall 0 (by omega) (by omega)).1, show mayW 0 = true by decide +kernel] at this; cases this
    · right
      rcases Nat.lt_or_ge p.val d with h1 | h1
      · have := h p.val (by omega) h1
        rw [(hall p.val p1 (by omega)).1, p3] at this; cases this
      · omega
/-- no window where all never come together -/
theorem win_none {run : Nat → List Int} {L : Nat} (hno : ∀ j, j ≤ L → eqAll (run j) = false) : leastF run mayW 0 (L + 1) = (0, 0, 6) := by
  rcases leastF_told run mayW (L + 1) 0 with ⟨a, b⟩ | ⟨d, a, b, c, e, g, h⟩
  · exact a
  · rw [hno d (by omega)] at c; cases c
end Go.Proofs.Ytacnafjmcfcalaa
