/- Classes of a relation that is reflexive and transitive below n: the least state of each class, the classes' numbers, the closed classes, whether there is one class. Conditions: none: plain lemmas. -/
import Derived.Test.YtkebfnmepbblnaaReach
namespace Go.Proofs.Ytkebfnmepbblnaa
set_option linter.unusedVariables false

/-- reflexive and transitive below n -/
structure Pre (n : Nat) (r : Nat → Nat → Bool) : Prop where
  refl : ∀ a, a < n → r a a = true
  trans : ∀ a b c, a < n → b < n → c < n → r a b = true → r b c = true → r a c = true
def both (r : Nat → Nat → Bool) (a b : Nat) : Bool := r a b && r b a
theorem both_iff {r : Nat → Nat → Bool} {a b : Nat} : both r a b = true ↔ r a b = true ∧ r b a = true := by simp [both]
theorem both_symm {r : Nat → Nat → Bool} {a b : Nat} (h : both r a b = true) : both r b a = true := by rw [both_iff] at *; exact ⟨h.2, h.1⟩
theorem Pre.mrefl {n : Nat} {r : Nat → Nat → Bool} (P : Pre n r) {a : Nat} (ha : a < n) : both r a a = true := both_iff.2 ⟨P.refl a ha, P.refl a ha⟩
theorem Pre.mtrans {n : Nat} {r : Nat → Nat → Bool} (P : Pre n r) {a b c : Nat} (ha : a < n) (hb : b < n) (hc : c < n) (h1 : both r a b = true) (h2 : both r b c = true) : both r a c = true := by
  rw [both_iff] at *
  exact ⟨P.trans a b c ha hb hc h1.1 h2.1, P.trans c b a hc hb ha h2.2 h1.2⟩

/-- no earlier state is in the class -/
def rep (r : Nat → Nat → Bool) (s : Nat) : Bool := !(List.range s).any fun t => both r t s
theorem rep_iff {r : Nat → Nat → Bool} {s : Nat} : rep r s = true ↔ ∀ t, t < s → both r t s = false := by
  simp [rep]
theorem rep_not {r : Nat → Nat → Bool} {s : Nat} (h : rep r s = false) : ∃ t, t < s ∧ both r t s = true := by
  simpa [rep] using h
/-- how many classes begin below k -/
def cnt (r : Nat → Nat → Bool) : Nat → Nat
  | 0 => 0
  | k + 1 => cnt r k + (if rep r k then 1 else 0)
theorem cnt_yes {r : Nat → Nat → Bool} {k : Nat} (h : rep r k = true) : cnt r (k + 1) = cnt r k + 1 := by simp [cnt, h]
theorem cnt_no {r : Nat → Nat → Bool} {k : Nat} (h : rep r k = false) : cnt r (k + 1) = cnt r k := by simp [cnt, h]
theorem cnt_mono (r : Nat → Nat → Bool) (a j : Nat) : cnt r a ≤ cnt r (a + j) := by
  induction j with
  | zero => exact Nat.le_refl _
  | succ j ih =>
    have : cnt r (a + j) ≤ cnt r (a + j + 1) := by simp only [cnt]; omega
    exact Nat.le_trans ih this
theorem cnt_le (r : Nat → Nat → Bool) (k : Nat) : cnt r k ≤ k := by
  induction k with
  | zero => exact Nat.le_refl _
  | succ k ih => simp only [cnt]; split <;> omega
/-- the least state of the class -/
def lead (r : Nat → Nat → Bool) (s : Nat) : Nat := ((List.range s).find? fun t => both r t s).getD s
theorem find_least {p : Nat → Bool} : ∀ {n x : Nat}, (List.range n).find? p = some x → x < n ∧ p x = true ∧ ∀ y, y < x → p y = false := by
  intro n x h
  rw [List.find?_range_eq_some] at h
  obtain ⟨h1, h2, h3⟩ := h
  exact ⟨by simpa using h2, h1, fun y hy => by simpa using h3 y hy⟩
theorem lead_spec {n : Nat} {r : Nat → Nat → Bool} (P : Pre n r) {s : Nat} (hs : s < n) : lead r s ≤ s ∧ both r (lead r s) s = true ∧ ∀ y, y < lead r s → both r y s = false := by
  unfold lead
  cases e : (List.range s).find? fun t => both r t s with
  | none =>
    refine ⟨Nat.le_refl _, P.mrefl hs, fun y hy => ?_⟩
    rw [List.find?_range_eq_none] at e
    simpa using e y hy
  | some x =>
    obtain ⟨h1, h2, h3⟩ := find_least e
    exact ⟨Nat.le_of_lt h1, h2, h3⟩
theorem lead_unique {n : Nat} {r : Nat → Nat → Bool} (P : Pre n r) {s x : Nat} (hs : s < n) (h1 : both r x s = true) (h2 : ∀ y, y < x → both r y s = false) : lead r s = x := by
  obtain ⟨k1, k2, k3⟩ := lead_spec P hs
  rcases Nat.lt_trichotomy (lead r s) x with h | h | h
  · rw [h2 _ h] at k2; cases k2
  · exact h
  · rw [k3 _ h] at h1; cases h1
theorem lead_rep {n : Nat} {r : Nat → Nat → Bool} (P : Pre n r) {s : Nat} (hs : s < n) (h : rep r s = true) : lead r s = s :=
  lead_unique P hs (P.mrefl hs) (rep_iff.1 h)
theorem lead_same {n : Nat} {r : Nat → Nat → Bool} (P : Pre n r) {s t : Nat} (hs : s < n) (ht : t < n) (h : both r t s = true) : lead r s = lead r t := by
  obtain ⟨k1, k2, k3⟩ := lead_spec P ht
  refine lead_unique P hs (P.mtrans (by omega) ht hs k2 h) fun y hy => ?_
  rw [Bool.eq_false_iff]
  intro hm
  have := P.mtrans (show y < n by omega) hs ht hm (both_symm h)
  rw [k3 y hy] at this; cases this
theorem lead_is_rep {n : Nat} {r : Nat → Nat → Bool} (P : Pre n r) {s : Nat} (hs : s < n) : rep r (lead r s) = true := by
  obtain ⟨k1, k2, k3⟩ := lead_spec P hs
  rw [rep_iff]
  intro t ht
  rw [Bool.eq_false_iff]
  intro hm
  have := P.mtrans (show t < n by omega) (by omega) hs hm k2
  rw [k3 t ht] at this; cases this
/-- the number of a state's class -/
def num (r : Nat → Nat → Bool) (s : Nat) : Nat := cnt r (lead r s)
theorem num_rep {n : Nat} {r : Nat → Nat → Bool} (P : Pre n r) {s : Nat} (hs : s < n) (h : rep r s = true) : num r s = cnt r s := by rw [num, lead_rep P hs h]
theorem num_same {n : Nat} {r : Nat → Nat → Bool} (P : Pre n r) {s t : Nat} (hs : s < n) (ht : t < n) (h : both r t s = true) : num r s = num r t := by rw [num, num, lead_same P hs ht h]
theorem cnt_lt {r : Nat → Nat → Bool} {a b : Nat} (h : rep r a = true) (hab : a < b) : cnt r a < cnt r b := by
  have := cnt_mono r (a + 1) (b - (a + 1))
  rw [cnt_yes h, show a + 1 + (b - (a + 1)) = b by omega] at this
  omega
theorem num_lt {n : Nat} {r : Nat → Nat → Bool} (P : Pre n r) {s k : Nat} (hs : s < n) (hk : s < k) : num r s < cnt r k :=
  cnt_lt (lead_is_rep P hs) (by have := (lead_spec P hs).1; omega)
/-- equal numbers: one class -/
theorem num_mut {n : Nat} {r : Nat → Nat → Bool} (P : Pre n r) {s t : Nat} (hs : s < n) (ht : t < n) : num r s = num r t ↔ both r t s = true := by
  constructor
  · intro h
    have hl : lead r s = lead r t := by
      rcases Nat.lt_trichotomy (lead r s) (lead r t) with h1 | h1 | h1
      · have := cnt_lt (lead_is_rep P hs) h1; unfold num at h; omega
      · exact h1
      · have := cnt_lt (lead_is_rep P ht) h1; unfold num at h; omega
    have k1 := lead_spec P hs
    have k2 := lead_spec P ht
    rw [hl] at k1
    exact P.mtrans ht (by omega) hs (both_symm k2.2.1) k1.2.1
  · exact num_same P hs ht
def numL (r : Nat → Nat → Bool) (n : Nat) : List Int := (List.range n).map fun s => ((num r s : Nat) : Int)
theorem numL_succ (r : Nat → Nat → Bool) (n : Nat) : numL r (n + 1) = numL r n ++ [((num r n : Nat) : Int)] := by simp [numL, List.range_succ]
theorem numL_len (r : Nat → Nat → Bool) (n : Nat) : (numL r n).length = n := by simp [numL]
theorem numL_at (r : Nat → Nat → Bool) {n t : Nat} (h : t < n) : (numL r n).getD t 0 = ((num r t : Nat) : Int) := by simp [numL, List.getD, h]

/-! ### closed classes -/
def closedB (r : Nat → Nat → Bool) (n s : Nat) : Bool := (List.range n).all fun t => !r s t || r t s
theorem closedB_iff {r : Nat → Nat → Bool} {n s : Nat} : closedB r n s = true ↔ ∀ t, t < n → r s t = true → r t s = true := by
  simp only [closedB, List.all_eq_true, List.mem_range, Bool.or_eq_true, Bool.not_eq_true']
  constructor
  · intro h t ht hr
    rcases h t ht with h1 | h1
    · rw [hr] at h1; cases h1
    · exact h1
  · intro h t ht
    cases e : r s t with
    | false => exact Or.inl rfl
    | true => exact Or.inr (h t ht e)
def reL (r : Nat → Nat → Bool) (n s : Nat) : List Int := selL (r s) n
def goodB (r : Nat → Nat → Bool) (n s : Nat) : Bool := rep r s && closedB r n s
def closedL (r : Nat → Nat → Bool) (n : Nat) : Nat → List (List Int)
  | 0 => []
  | k + 1 => if goodB r n k then closedL r n k ++ [reL r n k] else closedL r n k
/-- the least reachable state is s itself, and from all of them s can be reached -/
theorem good_spec {n : Nat} {r : Nat → Nat → Bool} (P : Pre n r) {s : Nat} (hs : s < n) :
    goodB r n s = true ↔ (reL r n s).getD 0 0 = (s : Int) ∧ ∀ t, t < n → r s t = true → r t s = true := by
  rw [goodB, Bool.and_eq_true, closedB_iff, rep_iff]
  have hmem : (s : Int) ∈ reL r n s := (sel_mem_nat hs).2 (P.refl s hs)
  have hfirst : ∃ x : Nat, x < n ∧ r s x = true ∧ (reL r n s).getD 0 0 = (x : Int) ∧ ∀ y, y < n → r s y = true → x ≤ y := by
    unfold reL selL at hmem ⊢
    cases e : (List.range n).filter (r s) with
    | nil => rw [e] at hmem; simp at hmem
    | cons x l =>
      have hx : x ∈ (List.range n).filter (r s) := by rw [e]; simp
      rw [List.mem_filter, List.mem_range] at hx
      refine ⟨x, hx.1, hx.2, by simp, fun y hy hry => ?_⟩
      have hsort : ((List.range n).filter (r s)).Pairwise (· < ·) := List.Pairwise.filter _ List.pairwise_lt_range
      rw [e] at hsort
      have hy' : y ∈ (List.range n).filter (r s) := List.mem_filter.2 ⟨List.mem_range.2 hy, hry⟩
      rw [e, List.mem_cons] at hy'
      rcases hy' with h | h
      · omega
      · have := (List.pairwise_cons.1 hsort).1 y h; omega
  obtain ⟨x, hx1, hx2, hx3, hx4⟩ := hfirst
  rw [hx3]
  constructor
  · rintro ⟨h1, h2⟩
    refine ⟨?_, h2⟩
    have hle := hx4 s hs (P.refl s hs)
    by_cases e : x = s
    · rw [e]
    · have := h1 x (by omega)
      rw [show both r x s = true from both_iff.2 ⟨h2 x hx1 hx2, hx2⟩] at this; cases this
  · rintro ⟨h1, h2⟩
    refine ⟨fun t ht => ?_, h2⟩
    rw [Bool.eq_false_iff]
    intro hm
    have := hx4 t (by omega) (both_iff.1 hm).2
    omega
/-- a class is the reachable set just if it is closed -/
theorem class_closed {n : Nat} {r : Nat → Nat → Bool} (P : Pre n r) {s : Nat} (hs : s < n) :
    (selL (fun t => num r t == num r s) n = reL r n s ↔ closedB r n s = true) := by
  rw [closedB_iff]
  constructor
  · intro h t ht hr
    have hm : (t : Int) ∈ reL r n s := (sel_mem_nat ht).2 hr
    rw [← h, sel_mem_nat ht] at hm
    have := (num_mut P ht hs).1 (by simpa using hm)
    exact (both_iff.1 this).2
  · intro h
    apply sel_congr
    intro t ht
    rw [Bool.eq_iff_iff, beq_iff_eq, num_mut P ht hs, both_iff]
    exact ⟨fun h => h.1, fun h1 => ⟨h1, h t ht h1⟩⟩
theorem closedL_len (r : Nat → Nat → Bool) (n k : Nat) : (closedL r n k).length ≤ k := by
  induction k with
  | zero => exact Nat.le_refl _
  | succ k ih =>
    simp only [closedL]
    split
    · rw [List.length_append]; simp only [List.length_cons, List.length_nil]; omega
    · omega
theorem closedL_total (r : Nat → Nat → Bool) (n k : Nat) (i : Nat) (hi : i < (closedL r n k).length) : ((closedL r n k).getD i []).length ≤ n := by
  induction k with
  | zero => simp [closedL] at hi
  | succ k ih =>
    simp only [closedL] at hi ⊢
    split at hi
    · rename_i h
      rw [if_pos h]
      by_cases e : i < (closedL r n k).length
      · rw [List.getD_eq_getElem?_getD, List.getElem?_append_left e, ← List.getD_eq_getElem?_getD]; exact ih e
      · simp only [List.length_append, List.length_cons, List.length_nil] at hi
        rw [List.getD_eq_getElem?_getD, List.getElem?_append_right (by omega), show i - (closedL r n k).length = 0 by omega]
        exact sel_len _ _
    · rename_i h
      rw [if_neg h]; exact ih hi

/-! ### one class -/
def joinedB (r : Nat → Nat → Bool) (n : Nat) : Bool := decide (cnt r n = 1)
theorem rep_zero (r : Nat → Nat → Bool) : rep r 0 = true := rfl
theorem joined_rep {r : Nat → Nat → Bool} {n : Nat} (hn : 0 < n) : joinedB r n = true ↔ ∀ s, 0 < s → s < n → rep r s = false := by
  rw [joinedB, decide_eq_true_eq]
  constructor
  · intro h s h0 hs
    rw [Bool.eq_false_iff]
    intro hr
    have h1 := cnt_lt (rep_zero r) h0
    have h2 := cnt_lt hr hs
    omega
  · intro h
    have : ∀ k, 0 < k → k ≤ n → cnt r k = 1 := by
      intro k
      induction k with
      | zero => intro h0; omega
      | succ k ih =>
        intro _ hk
        rcases Nat.eq_zero_or_pos k with e | e
        · subst e; rfl
        · rw [cnt_no (h k e (by omega))]; exact ih e (by omega)
    exact this n hn (Nat.le_refl _)
theorem joined_mut {n : Nat} {r : Nat → Nat → Bool} (P : Pre n r) (hn : 0 < n) : joinedB r n = true ↔ ∀ s, s < n → both r 0 s = true := by
  rw [joined_rep hn]
  constructor
  · intro h s hs
    have h1 := lead_is_rep P hs
    have h2 := lead_spec P hs
    rcases Nat.eq_zero_or_pos (lead r s) with e | e
    · rw [e] at h2; exact h2.2.1
    · rw [h (lead r s) e (by omega)] at h1; cases h1
  · intro h s h0 hs
    rw [Bool.eq_false_iff]
    intro hr
    have := rep_iff.1 hr 0 h0
    rw [h s hs] at this; cases this
theorem sel_all {p : Nat → Bool} {n : Nat} : (selL p n).length = n ↔ ∀ t, t < n → p t = true := by
  constructor
  · intro h t ht
    have h1 : ((List.range n).filter p).length = (List.range n).length := by simpa [selL] using h
    have := List.filter_eq_self.1 (List.length_filter_eq_length_iff.1 h1 |> fun h => List.filter_eq_self.2 h)
    exact this t (List.mem_range.2 ht)
  · intro h
    have : (List.range n).filter p = List.range n := List.filter_eq_self.2 fun t ht => h t (List.mem_range.1 ht)
    simp [selL, this]
/-- what the specification asks -/
theorem joined_spec {n : Nat} {r : Nat → Nat → Bool} (P : Pre n r) (hn : 0 < n) : joinedB r n = true ↔ (closedL r n n).length = 1 ∧ ((closedL r n n).getD 0 []).length = n := by
  constructor
  · intro h
    have h0 := (joined_rep hn).1 h
    have hm := (joined_mut P hn).1 h
    have hall : ∀ t, t < n → r 0 t = true := fun t ht => (both_iff.1 (hm t ht)).1
    have hg : goodB r n 0 = true := by
      rw [goodB, rep_zero, Bool.true_and, closedB_iff]
      intro t ht _
      exact (both_iff.1 (hm t ht)).2
    have : ∀ k, 0 < k → k ≤ n → closedL r n k = [reL r n 0] := by
      intro k
      induction k with
      | zero => intro h0; omega
      | succ k ih =>
        intro _ hk
        rcases Nat.eq_zero_or_pos k with e | e
        · subst e; simp [closedL, hg]
        · have : goodB r n k = false := by rw [goodB, h0 k e (by omega)]; rfl
          simp only [closedL, this]
          exact ih e (by omega)
    rw [this n hn (Nat.le_refl _)]
    exact ⟨rfl, by simpa [reL] using sel_all.2 hall⟩
  · rintro ⟨h1, h2⟩
    have hsome : ∀ k, k ≤ n → ∀ l ∈ closedL r n k, ∃ s, s < n ∧ goodB r n s = true ∧ l = reL r n s := by
      intro k
      induction k with
      | zero => intro _ l hl; simp [closedL] at hl
      | succ k ih =>
        intro hk l hl
        simp only [closedL] at hl
        split at hl
        · rename_i hg
          rw [List.mem_append] at hl
          rcases hl with h | h
          · exact ih (by omega) l h
          · simp at h; exact ⟨k, by omega, hg, h⟩
        · exact ih (by omega) l hl
    have hl : (closedL r n n).getD 0 [] ∈ closedL r n n := by
      have : 0 < (closedL r n n).length := by omega
      simp [List.getD, this]
    obtain ⟨s, hs, hg, e⟩ := hsome n (Nat.le_refl _) _ hl
    rw [e] at h2
    have hall := sel_all.1 h2
    have hcl := closedB_iff.1 (by rw [goodB, Bool.and_eq_true] at hg; exact hg.2)
    rw [joined_mut P hn]
    intro t ht
    have k1 : both r 0 s = true := both_iff.2 ⟨hcl 0 hn (hall 0 hn), hall 0 hn⟩
    have k2 : both r s t = true := both_iff.2 ⟨hall t ht, hcl t ht (hall t ht)⟩
    exact P.mtrans hn hs ht k1 k2
end Go.Proofs.Ytkebfnmepbblnaa
