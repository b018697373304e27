/- The decimal text of a long number, by digits in base 10^9. Conditions: none: plain lemmas. -/
import Derived.Test.YtefodgebecacgaaDoorDec
import Derived.Test.YtefodgebecacgaaDoorLong
namespace Go.Proofs.YtefodgebecacgaaDoor
open Go.RowKit Go.Deep
set_option linter.unusedVariables false

/-- nine digits -/
def pad9 (g : Nat) : List UInt8 := List.replicate (9 - (decW g).length) 48 ++ decW g
/-- a number in decimal -/
def numW (n : Nat) : List UInt8 := if h : n < B9 then decW n else numW (n / B9) ++ pad9 (n % B9)
termination_by n
decreasing_by exact Nat.div_lt_self (by simp only [B9] at h; omega) (by decide)
def numT (n : Nat) : ByteArray := ⟨(numW n).toArray⟩
theorem numW_small {n : Nat} (h : n < B9) : numW n = decW n := by rw [numW, dif_pos h]
theorem numW_more {n : Nat} (h : ¬ n < B9) : numW n = numW (n / B9) ++ pad9 (n % B9) := by rw [numW, dif_neg h]
theorem decW_pos (n : Nat) : 1 ≤ (decW n).length := by
  by_cases h : n < 10
  · rw [decW_small h]; simp
  · rw [decW_more h]; simp
theorem dec9 {g : Nat} (h : g < B9) : (decW g).length ≤ 9 := decW_len 8 g h
theorem pad9_len {g : Nat} (h : g < B9) : (pad9 g).length = 9 := by
  have := dec9 h
  simp [pad9]; omega
/-- the highest digit -/
theorem numW_top {n k : Nat} (h : dlen B9 n = k + 1) : n / B9 ^ k = dgt B9 n k ∧ numW (n / B9 ^ k) = decW (dgt B9 n k) := by
  have h1 := lt_dlen b9 n
  rw [h] at h1
  have h2 : n / B9 ^ k < B9 := by
    apply (Nat.div_lt_iff_lt_mul (pow_pos' b9 k)).2
    rw [Nat.mul_comm, ← pow_succ']; exact h1
  have h3 : n / B9 ^ k = dgt B9 n k := by rw [dgt, Nat.mod_eq_of_lt h2]
  exact ⟨h3, by rw [numW_small h2, h3]⟩
/-- one digit more -/
theorem numW_down {n i : Nat} (h : i + 1 < dlen B9 n) : numW (n / B9 ^ i) = numW (n / B9 ^ (i + 1)) ++ pad9 (dgt B9 n i) := by
  have h1 := le_of_dlen b9 h
  have h2 : ¬ n / B9 ^ i < B9 := by
    rw [Nat.div_lt_iff_lt_mul (pow_pos' b9 i), Nat.mul_comm, ← pow_succ']; omega
  rw [numW_more h2, dgt, Nat.div_div_eq_div_mul, ← pow_succ']
theorem numW_len (L : Nat) : ∀ (n : Nat), n < B9 ^ (L + 1) → (numW n).length ≤ 9 * (L + 1) := by
  induction L with
  | zero => intro n h; rw [numW_small (by simpa using h)]; exact dec9 (by simpa using h)
  | succ k ih =>
    intro n h
    by_cases h1 : n < B9
    · rw [numW_small h1]; have := dec9 h1; omega
    · rw [numW_more h1, List.length_append, pad9_len (Nat.mod_lt _ (by decide))]
      have := ih (n / B9) (by rw [Nat.div_lt_iff_lt_mul (by decide), ← pow_succ']; exact h)
      omega
theorem numW_pos (n : Nat) : 1 ≤ (numW n).length := by
  by_cases h : n < B9
  · rw [numW_small h]; exact decW_pos n
  · rw [numW_more h, List.length_append, pad9_len (Nat.mod_lt _ (by decide))]; omega
theorem numT_size (n : Nat) : (numT n).size = (numW n).length := by simp [numT, ByteArray.size]
theorem numT_le {n L : Nat} (h : dlen B9 n ≤ L) : (numT n).size ≤ 9 * L + 9 := by
  rw [numT_size]
  have := numW_len L n (Nat.lt_of_lt_of_le (lt_of_dlen b9 h) (Nat.pow_le_pow_right (by decide) (Nat.le_succ L)))
  omega
/-- the texts of the digits, the highest first -/
def grpT (n : Nat) : Nat → List ByteArray
  | 0 => []
  | k + 1 => decS (dgt B9 n k) :: grpT n k
/-- the digits below k, each with nine digits -/
def padT (n : Nat) : Nat → List (List UInt8)
  | 0 => []
  | k + 1 => pad9 (dgt B9 n k) :: padT n k
theorem padT_join {n : Nat} : ∀ (i : Nat), i < dlen B9 n → numW n = numW (n / B9 ^ i) ++ (padT n i).flatten
  | 0, h => by simp [padT]
  | i + 1, h => by
    rw [padT_join i (by omega), numW_down h, padT, List.flatten_cons, List.append_assoc]
/-- a text brought to nine digits -/
def padB (s : ByteArray) : ByteArray := ⟨(List.replicate (9 - s.size) 48 ++ s.data.toList).toArray⟩
theorem padB_dec (g : Nat) : padB (decS g) = ⟨(pad9 g).toArray⟩ := by simp [padB, decS, pad9, ByteArray.size]
theorem grpT_length (n : Nat) : ∀ k, (grpT n k).length = k
  | 0 => rfl
  | k + 1 => by rw [grpT, List.length_cons, grpT_length n k]
theorem grpT_rev (n : Nat) : ∀ k, ((List.range k).map fun i => decS (dgt B9 n i)).reverse = grpT n k
  | 0 => rfl
  | k + 1 => by rw [List.range_succ, List.map_append, List.reverse_append, grpT_rev n k]; rfl
theorem grpT_get (n : Nat) : ∀ k i, i < k → (grpT n k)[i]? = some (decS (dgt B9 n (k - 1 - i)))
  | 0, i, h => absurd h (Nat.not_lt_zero i)
  | k + 1, 0, h => by rw [grpT, List.getElem?_cons_zero]; rfl
  | k + 1, i + 1, h => by
    rw [grpT, List.getElem?_cons_succ, grpT_get n k i (by omega)]
    rw [show k + 1 - 1 - (i + 1) = k - 1 - i by omega]
theorem grpT_pad (n : Nat) : ∀ k, (grpT n k).map padB = (padT n k).map fun l => ⟨l.toArray⟩
  | 0 => rfl
  | k + 1 => by rw [grpT, padT, List.map_cons, List.map_cons, grpT_pad n k, padB_dec]
/-- the texts of the digits, of which those behind the first one, i of them, have been brought to nine digits -/
def mixT (l : List ByteArray) (i : Nat) : List ByteArray := l.take 1 ++ (((l.drop 1).take i).map padB ++ l.drop (1 + i))
theorem mixT_zero (l : List ByteArray) : mixT l 0 = l := by cases l <;> simp [mixT]
theorem mixT_length (l : List ByteArray) (i : Nat) (h : i + 1 ≤ l.length) : (mixT l i).length = l.length := by
  simp [mixT]; omega
theorem mixT_get (l : List ByteArray) (i : Nat) (h : i + 1 < l.length) : (mixT l i)[i + 1]? = l[i + 1]? := by
  unfold mixT
  rw [List.getElem?_append_right (by simp; omega), List.getElem?_append_right (by simp; omega), List.getElem?_drop]
  congr 1
  simp; omega
theorem mixT_next (l : List ByteArray) (i : Nat) (s : ByteArray) (h : l[i + 1]? = some s) : (mixT l i).set (i + 1) (padB s) = mixT l (i + 1) := by
  obtain ⟨hl, rfl⟩ := List.getElem?_eq_some_iff.1 h
  obtain ⟨x, r, rfl⟩ : ∃ x r, l = x :: r := by
    cases l with
    | nil => simp at hl
    | cons x r => exact ⟨x, r, rfl⟩
  have hr : i < r.length := by simpa using hl
  simp only [mixT, List.take_succ_cons, List.take_zero, List.drop_succ_cons, List.drop_zero, List.cons_append, List.nil_append, List.set_cons_succ, List.getElem_cons_succ, List.cons.injEq, true_and, Nat.add_comm 1]
  rw [List.set_append_right _ _ (by simp; omega), List.take_add_one, List.getElem?_eq_getElem hr]
  have hn : i - (List.map padB (List.take i r)).length = 0 := by simp; omega
  rw [hn, List.drop_eq_getElem_cons hr, List.set_cons_zero, List.map_append, List.append_assoc]
  rfl
theorem mixT_all (n k : Nat) : mixT (grpT n (k + 1)) k = decS (dgt B9 n k) :: (padT n k).map fun l => ⟨l.toArray⟩ := by
  rw [mixT, grpT]
  simp only [List.take_succ_cons, List.take_zero, List.drop_succ_cons, List.drop_zero, Nat.add_comm 1, List.cons_append, List.nil_append]
  rw [List.take_of_length_le (by rw [grpT_length]; omega), List.drop_of_length_le (by rw [grpT_length]; omega), grpT_pad, List.append_nil]
/-- joined they are the number in decimal -/
theorem join_text {n k : Nat} (h : dlen B9 n = k + 1) : ((mixT (grpT n (k + 1)) k).map (·.data.toList)).flatten = numW n := by
  rw [mixT_all, padT_join (n := n) k (by omega), (numW_top h).2]
  simp [decS, Function.comp_def]
theorem mixT_size {n k : Nat} (i : Nat) : ∀ s ∈ mixT (grpT n k) i, s.size ≤ 9 := by
  have h1 : ∀ k, ∀ s ∈ grpT n k, s.size ≤ 9 ∧ (padB s).size ≤ 9 := by
    intro k
    induction k with
    | zero => intro s hs; cases hs
    | succ k ih =>
      intro s hs
      rw [grpT] at hs
      rcases List.mem_cons.1 hs with rfl | hs
      · have hd := dgt_lt b9 n k
        have e1 := dec9 hd
        have e2 := pad9_len hd
        rw [padB_dec]
        exact ⟨by simpa [decS, ByteArray.size] using e1, by simp [ByteArray.size, e2]⟩
      · exact ih s hs
  intro s hs
  rw [mixT, List.mem_append, List.mem_append] at hs
  rcases hs with hs | hs | hs
  · exact (h1 k s (List.mem_of_mem_take hs)).1
  · obtain ⟨t, ht, rfl⟩ := List.mem_map.1 hs
    exact (h1 k t (List.mem_of_mem_drop (List.mem_of_mem_take ht))).2
  · exact (h1 k s (List.mem_of_mem_drop hs)).1
end Go.Proofs.YtefodgebecacgaaDoor
