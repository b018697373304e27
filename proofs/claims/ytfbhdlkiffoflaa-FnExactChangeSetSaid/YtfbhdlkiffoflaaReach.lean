/- Which states lead to which: the closure of a relation state by state, and lists without repetition put together. Conditions: none: plain lemmas on numbers and lists. -/
import Derived.Lib.Hide
namespace Go.Proofs.Ytfbhdlkiffoflaa
set_option linter.unusedVariables false

/-- one more state may be passed -/
def fwStep (M : Nat → Nat → Bool) (k : Nat) : Nat → Nat → Bool := fun a b =>
  (M a b || (a == k && b == k)) || ((M a k || (a == k && k == k)) && (M k b || (k == k && b == k)))
/-- ways that pass states below k alone -/
def fw (E : Nat → Nat → Bool) : Nat → Nat → Nat → Bool
  | 0 => E
  | k + 1 => fwStep (fw E k) k

theorem fwStep_iff (M : Nat → Nat → Bool) (k a b : Nat) : fwStep M k a b = true ↔ (M a b = true ∨ (a = k ∧ b = k)) ∨ ((M a k = true ∨ a = k) ∧ (M k b = true ∨ b = k)) := by
  simp [fwStep]
theorem fw_mono (E : Nat → Nat → Bool) (a b m j : Nat) (h : fw E m a b = true) : fw E (m + j) a b = true := by
  induction j with
  | zero => exact h
  | succ j ih => exact (fwStep_iff _ _ _ _).2 (Or.inl (Or.inl ih))
theorem fw_edge {E : Nat → Nat → Bool} {a b : Nat} (h : E a b = true) (m : Nat) : fw E m a b = true := by
  have := fw_mono E a b 0 m h
  rwa [Nat.zero_add] at this
theorem fw_refl (E : Nat → Nat → Bool) {a m : Nat} (h : a < m) : fw E m a a = true := by
  have h1 : fw E (a + 1) a a = true := (fwStep_iff _ _ _ _).2 (Or.inl (Or.inr ⟨rfl, rfl⟩))
  have := fw_mono E a a (a + 1) (m - (a + 1)) h1
  rwa [show a + 1 + (m - (a + 1)) = m by omega] at this
theorem fw_trans (E : Nat → Nat → Bool) : ∀ (m a b j : Nat), j < m → fw E m a j = true → fw E m j b = true → fw E m a b = true
  | 0, _, _, _, h, _, _ => by omega
  | m + 1, a, b, j, hj, h1, h2 => by
    have h1' := (fwStep_iff _ _ _ _).1 h1
    have h2' := (fwStep_iff _ _ _ _).1 h2
    refine (fwStep_iff _ _ _ _).2 ?_
    by_cases e : j = m
    · subst e
      have x1 : fw E j a j = true ∨ a = j := by
        rcases h1' with (h | ⟨h, _⟩) | ⟨h, _⟩
        · exact Or.inl h
        · exact Or.inr h
        · exact h
      have x2 : fw E j j b = true ∨ b = j := by
        rcases h2' with (h | ⟨_, h⟩) | ⟨_, h⟩
        · exact Or.inl h
        · exact Or.inr h
        · exact h
      exact Or.inr ⟨x1, x2⟩
    · have hjm : j < m := by omega
      have T := fw_trans E m
      rcases h1' with (h | ⟨_, h⟩) | ⟨h, hj1⟩
      · rcases h2' with (k | ⟨k, _⟩) | ⟨hj2, k⟩
        · exact Or.inl (Or.inl (T a b j hjm h k))
        · exact absurd k e
        · rcases hj2 with hj2 | hj2
          · exact Or.inr ⟨Or.inl (T a m j hjm h hj2), k⟩
          · exact absurd hj2 e
      · exact absurd h e
      · rcases hj1 with hj1 | hj1
        · rcases h2' with (k | ⟨k, _⟩) | ⟨hj2, k⟩
          · exact Or.inr ⟨h, Or.inl (T m b j hjm hj1 k)⟩
          · exact absurd k e
          · exact Or.inr ⟨h, k⟩
        · exact absurd hj1 e
theorem fw_sound (E : Nat → Nat → Bool) (n : Nat) (P : Nat → Prop) (hP : ∀ u v, v < n → P u → E u v = true → P v) :
    ∀ (m a b : Nat), m ≤ n → b < n → P a → fw E m a b = true → P b
  | 0, a, b, _, hb, ha, h => hP a b hb ha h
  | m + 1, a, b, hm, hb, ha, h => by
    have T := fw_sound E n P hP m
    rcases (fwStep_iff _ _ _ _).1 h with (h | ⟨h, h'⟩) | ⟨h, h'⟩
    · exact T a b (by omega) hb ha h
    · subst h; subst h'; exact ha
    · have hm' : P m := by
        rcases h with h | h
        · exact T a m (by omega) (by omega) ha h
        · subst h; exact ha
      rcases h' with h' | h'
      · exact T m b (by omega) hb hm' h'
      · subst h'; exact hm'

/-! ### putting a number to its place -/
def putL : List Int → Int → List Int
  | [], x => [x]
  | y :: r, x => if x ≤ y then (if x < y then x :: y :: r else y :: r) else y :: putL r x
theorem putL_lt : ∀ (r : List Int) (x : Int), (∀ y ∈ r, x < y) → putL r x = x :: r
  | [], x, _ => rfl
  | y :: r, x, h => by
    have h1 := h y (by simp)
    simp only [putL]
    rw [if_pos (by omega), if_pos h1]
theorem putL_split : ∀ (xs : List Int) (k : Nat) (x : Int), (∀ y ∈ xs.take k, y < x) → putL xs x = xs.take k ++ putL (xs.drop k) x
  | xs, 0, x, _ => by simp
  | [], k + 1, x, _ => by simp
  | y :: r, k + 1, x, h => by
    have h1 := h y (by simp)
    have := putL_split r k x (fun z hz => h z (by simp [hz]))
    simp only [putL, List.take_succ_cons, List.drop_succ_cons, List.cons_append]
    rw [if_neg (by omega), this]

/-- the numbers below n that p holds of, as integers -/
def selL (p : Nat → Bool) (n : Nat) : List Int := ((List.range n).filter p).map fun i : Nat => (i : Int)
theorem put_range : ∀ (m a t : Nat) (p : Nat → Bool), a ≤ t → t < a + m →
    putL (((List.range' a m).filter p).map fun i : Nat => (i : Int)) (t : Int) = ((List.range' a m).filter fun i => p i || i == t).map fun i : Nat => (i : Int)
  | 0, a, t, p, h1, h2 => by omega
  | m + 1, a, t, p, h1, h2 => by
    rw [List.range'_succ]
    by_cases e : a = t
    · subst e
      have hrest : ((List.range' (a + 1) m).filter fun i => p i || i == a) = (List.range' (a + 1) m).filter p := by
        apply List.filter_congr
        intro x hx
        have := List.mem_range'_1.1 hx
        have : (x == a) = false := by simp; omega
        simp [this]
      have hc : ((a :: List.range' (a + 1) m).filter fun i => p i || i == a) = a :: (List.range' (a + 1) m).filter p := by
        rw [List.filter_cons_of_pos (by simp), hrest]
      rw [hc]
      by_cases hp : p a = true
      · rw [List.filter_cons_of_pos hp]
        simp [putL]
      · rw [List.filter_cons_of_neg hp]
        rw [List.map_cons]
        apply putL_lt
        intro y hy
        simp only [List.mem_map, List.mem_filter] at hy
        obtain ⟨i, ⟨hi, _⟩, rfl⟩ := hy
        have := List.mem_range'_1.1 hi
        omega
    · have ih := put_range m (a + 1) t p (by omega) (by omega)
      have ha : (a == t) = false := by simpa using e
      by_cases hp : p a = true
      · rw [List.filter_cons_of_pos hp, List.filter_cons_of_pos (by simp [hp]), List.map_cons, List.map_cons]
        simp only [putL]
        rw [if_neg (by omega), ih]
      · rw [List.filter_cons_of_neg hp, List.filter_cons_of_neg (by simp [hp, ha]), ih]
theorem put_sel (p : Nat → Bool) (n t : Nat) (h : t < n) : putL (selL p n) (t : Int) = selL (fun i => p i || i == t) n := by
  have := put_range n 0 t p (Nat.zero_le _) (by omega)
  simpa [selL, List.range_eq_range'] using this
theorem sel_mem {p : Nat → Bool} {n : Nat} {x : Int} : x ∈ selL p n ↔ ∃ i, i < n ∧ p i = true ∧ (i : Int) = x := by
  simp [selL, and_assoc]
theorem sel_mem_nat {p : Nat → Bool} {n t : Nat} (h : t < n) : (t : Int) ∈ selL p n ↔ p t = true := by
  rw [sel_mem]
  constructor
  · rintro ⟨i, hi, hp, e⟩
    have : i = t := by omega
    subst this; exact hp
  · intro hp; exact ⟨t, h, hp, rfl⟩
theorem sel_congr {p q : Nat → Bool} {n : Nat} (h : ∀ i, i < n → p i = q i) : selL p n = selL q n := by
  unfold selL
  congr 1
  apply List.filter_congr
  intro x hx
  exact h x (by simpa using hx)
theorem sel_len (p : Nat → Bool) (n : Nat) : (selL p n).length ≤ n := by
  have := List.length_filter_le p (List.range n)
  simpa [selL] using this
theorem sel_one (s n : Nat) (h : s < n) : selL (fun i => i == s) n = [(s : Int)] := by
  have := put_sel (fun _ => false) n s h
  have e : selL (fun _ => false) n = [] := by simp [selL]
  rw [e] at this
  simpa [putL] using this.symm
theorem len_putL_new : ∀ (xs : List Int) (x : Int), x ∉ xs → (putL xs x).length = xs.length + 1
  | [], x, _ => rfl
  | y :: r, x, h => by
    simp only [List.mem_cons, not_or] at h
    simp only [putL]
    split
    · rw [if_pos (by omega)]; rfl
    · simp [len_putL_new r x h.2]
/-- closed under one step, with s, within what is reached: it is what is reached -/
theorem sel_reached (E : Nat → Nat → Bool) (n s : Nat) (hs : s < n) (p : Nat → Bool) (h0 : p s = true) (h1 : ∀ u, u < n → p u = true → fw E n s u = true)
    (h2 : ∀ u v, v < n → p u = true → E u v = true → p v = true) : selL p n = selL (fw E n s) n := by
  apply sel_congr
  intro i hi
  rw [Bool.eq_iff_iff]
  exact ⟨h1 i hi, fun h => fw_sound E n (fun u => p u = true) h2 n s i (Nat.le_refl _) hi h0 h⟩
end Go.Proofs.Ytfbhdlkiffoflaa
