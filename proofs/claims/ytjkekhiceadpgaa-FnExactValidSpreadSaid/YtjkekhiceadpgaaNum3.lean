/- Plain lemmas on digits, third part: long division (the guess of a digit out of three words by two, a multiple taken out in place and put back, the digits of the quotient from the top). No program here. -/
import Derived.Test.YtjkekhiceadpgaaNum2
namespace Go.Proofs.Ytjkekhiceadpgaa
set_option linter.unusedVariables false

/-- the two (three) highest words -/
theorem top2 {B : Nat} (hB : 2 ≤ B) {Y n : Nat} (hn : 2 ≤ n) (h : Y < B ^ n) : Y / B ^ (n - 2) = dgt B Y (n - 1) * B + dgt B Y (n - 2) := by
  have d0 := div_split B Y (n - 2)
  have d1 := div_split B Y (n - 2 + 1)
  rw [show n - 2 + 1 + 1 = n by omega, Nat.div_eq_of_lt h, Nat.mul_zero, Nat.add_zero, show n - 2 + 1 = n - 1 by omega] at d1
  rw [d0, show n - 2 + 1 = n - 1 by omega, d1, Nat.add_zero, Nat.mul_comm, Nat.add_comm]
theorem top3 {B : Nat} (hB : 2 ≤ B) {V n : Nat} (hn : 2 ≤ n) (h : V < B ^ (n + 1)) : V / B ^ (n - 2) = (dgt B V n * B + dgt B V (n - 1)) * B + dgt B V (n - 2) := by
  have d0 := div_split B V (n - 2)
  have d1 := div_split B V (n - 2 + 1)
  have d2 := div_split B V (n - 2 + 1 + 1)
  rw [show n - 2 + 1 + 1 = n by omega] at d1 d2
  rw [Nat.div_eq_of_lt h, Nat.mul_zero, Nat.add_zero] at d2
  rw [show n - 2 + 1 = n - 1 by omega] at d0 d1
  rw [d0, d1, d2]
  grind
/-- the guess is at least the digit -/
theorem guess_ge {B : Nat} (hB : 2 ≤ B) {V Y n g : Nat} (hY : 0 < Y / B ^ (n - 2)) (hg : V / B ^ (n - 2) < g * (Y / B ^ (n - 2))) : V / Y < g := by
  have hp := pow_pos' hB (n - 2)
  generalize B ^ (n - 2) = P at *
  have h1 : Y / P * P ≤ Y := Nat.div_mul_le_self Y P
  have h2 : V < (V / P + 1) * P := by have := Nat.lt_mul_div_succ V hp; rw [Nat.mul_comm]; exact this
  have hYp : 0 < Y := Nat.lt_of_lt_of_le (Nat.mul_pos hY hp) h1
  apply (Nat.div_lt_iff_lt_mul hYp).2
  have h3 : (V / P + 1) * P ≤ g * (Y / P) * P := Nat.mul_le_mul_right _ hg
  have h4 : g * (Y / P) * P ≤ g * Y := by rw [Nat.mul_assoc]; exact Nat.mul_le_mul_left _ h1
  omega
/-- .. and at most one more -/
theorem guess_le {B : Nat} (hB : 2 ≤ B) {V Y n g : Nat} (hY : B ≤ Y / B ^ (n - 2)) (hgB : g ≤ B) (hYp : 0 < Y) (hg : g * (Y / B ^ (n - 2)) ≤ V / B ^ (n - 2)) : g ≤ V / Y + 1 := by
  have hp := pow_pos' hB (n - 2)
  generalize B ^ (n - 2) = P at *
  rcases Nat.eq_zero_or_pos g with rfl | h0
  · exact Nat.zero_le _
  · obtain ⟨g, rfl⟩ : ∃ g', g = g' + 1 := ⟨g - 1, by omega⟩
    have : g ≤ V / Y := by
      apply (Nat.le_div_iff_mul_le hYp).2
      have h1 : Y ≤ (Y / P + 1) * P := by have := Nat.lt_mul_div_succ Y hp; rw [Nat.mul_comm]; exact Nat.le_of_lt this
      have h2 : g * Y ≤ g * ((Y / P + 1) * P) := Nat.mul_le_mul_left _ h1
      have h3 : g * (Y / P + 1) ≤ V / P := by rw [Nat.mul_add, Nat.mul_one]; rw [Nat.add_mul, Nat.one_mul] at hg; omega
      have h4 : g * (Y / P + 1) * P ≤ V / P * P := Nat.mul_le_mul_right _ h3
      have h5 : V / P * P ≤ V := Nat.div_mul_le_self V P
      rw [Nat.mul_assoc] at h4
      omega
    exact Nat.succ_le_succ this
/-- the words of a guess: y1, y0 of the divisor, p2, p1, p0 of the part -/
theorem guess_start {B : Nat} (hB : 2 ≤ B) {V Y n : Nat} (hn : 2 ≤ n) (hYn : Y < B ^ n) (hV : V < Y * B) (hy : B ≤ 2 * dgt B Y (n - 1)) :
    (dgt B V n * B + dgt B V (n - 1)) / dgt B Y (n - 1) ≤ B + 1 := by
  have hp := pow_pos' hB (n - 2)
  have t2 := top2 hB hn hYn
  have hVn : V < B ^ (n + 1) := by rw [pow_succ']; exact Nat.lt_of_lt_of_le hV (Nat.mul_le_mul_right _ (Nat.le_of_lt hYn))
  have t3 := top3 hB hn hVn
  have l1 := dgt_lt hB Y (n - 2)
  have l2 := dgt_lt hB V (n - 1)
  have l3 := dgt_lt hB V (n - 2)
  generalize dgt B Y (n - 1) = y1 at *
  generalize dgt B Y (n - 2) = y0 at *
  generalize dgt B V n = p2 at *
  generalize dgt B V (n - 1) = p1 at *
  generalize dgt B V (n - 2) = p0 at *
  generalize B ^ (n - 2) = P at *
  -- V / P < (Y / P + 1) * B
  have h1 : Y < (Y / P + 1) * P := by have := Nat.lt_mul_div_succ Y hp; rw [Nat.mul_comm]; exact this
  have h2 : V / P < (Y / P + 1) * B := by
    apply (Nat.div_lt_iff_lt_mul hp).2
    have h3 : Y * B < (Y / P + 1) * P * B := Nat.mul_lt_mul_of_pos_right h1 (by omega)
    have e : (Y / P + 1) * P * B = (Y / P + 1) * B * P := by grind
    omega
  rw [t2, t3] at h2
  have h5 : p2 * B + p1 < y1 * B + y0 + 1 := by
    by_cases c : p2 * B + p1 < y1 * B + y0 + 1
    · exact c
    · have := Nat.mul_le_mul_right B (show y1 * B + y0 + 1 ≤ p2 * B + p1 by omega)
      omega
  apply Nat.le_of_lt_succ
  apply (Nat.div_lt_iff_lt_mul (by omega)).2
  have : (B + 1).succ * y1 = y1 * B + 2 * y1 := by grind
  omega
/-- the loop's break: guess and rest -/
theorem guess_break {B high y1 y0 p0 g r : Nat} (he : g * y1 + r = high) (hb : g * y0 ≤ r * B + p0) : g * (y1 * B + y0) ≤ high * B + p0 := by
  subst he
  have : g * (y1 * B + y0) = g * y1 * B + g * y0 := by grind
  rw [this, Nat.add_mul]; omega
theorem guess_go {B high y1 y0 p0 g r : Nat} (he : g * y1 + r = high) (hb : r * B + p0 < g * y0) : high * B + p0 < g * (y1 * B + y0) := by
  subst he
  have : g * (y1 * B + y0) = g * y1 * B + g * y0 := by grind
  rw [this, Nat.add_mul]; omega

/-! ### a multiple taken out in place -/
theorem take_out_step {B : Nat} {V0 S i k o d s b b2 : Nat} (l : List Nat) (hl : i + k < l.length) (ho : o = l.getD (i + k) 0) (hs : s = dgt B S k) (hd : d + s + b = o + B * b2)
    (h : val B l + B ^ i * (S % B ^ k) = V0 + b * B ^ (i + k)) : val B (l.set (i + k) d) + B ^ i * (S % B ^ (k + 1)) = V0 + b2 * B ^ (i + (k + 1)) := by
  have e1 := val_set (B := B) l (i + k) d hl
  rw [← ho] at e1
  rw [mod_step, ← hs, ← Nat.add_assoc, pow_succ', Nat.mul_add]
  have e2 : B ^ i * (B ^ k * s) = B ^ (i + k) * s := by rw [Nat.pow_add]; ac_rfl
  have e3 : b2 * (B ^ (i + k) * B) = B ^ (i + k) * (B * b2) := by ac_rfl
  rw [e2, e3]
  have e4 : B ^ (i + k) * (d + s + b) = B ^ (i + k) * (o + B * b2) := by rw [hd]
  rw [Nat.mul_add, Nat.mul_add, Nat.mul_add] at e4
  rw [Nat.mul_comm b] at h
  omega
theorem put_back_step {B : Nat} {V0 Y i k o d s c c2 : Nat} (l : List Nat) (hl : i + k < l.length) (ho : o = l.getD (i + k) 0) (hs : s = dgt B Y k) (hd : d + B * c2 = o + s + c)
    (h : val B l + c * B ^ (i + k) = V0 + B ^ i * (Y % B ^ k)) : val B (l.set (i + k) d) + c2 * B ^ (i + (k + 1)) = V0 + B ^ i * (Y % B ^ (k + 1)) := by
  have e1 := val_set (B := B) l (i + k) d hl
  rw [← ho] at e1
  rw [mod_step, ← hs, ← Nat.add_assoc, pow_succ', Nat.mul_add]
  have e2 : B ^ i * (B ^ k * s) = B ^ (i + k) * s := by rw [Nat.pow_add]; ac_rfl
  have e3 : c2 * (B ^ (i + k) * B) = B ^ (i + k) * (B * c2) := by ac_rfl
  rw [e2, e3]
  have e4 : B ^ (i + k) * (d + B * c2) = B ^ (i + k) * (o + s + c) := by rw [hd]
  rw [Nat.mul_add, Nat.mul_add, Nat.mul_add] at e4
  rw [Nat.mul_comm c] at h
  omega
theorem val_drop {B : Nat} (l : List Nat) (k : Nat) (h : k ≤ l.length) : val B l = val B (l.take k) + B ^ k * val B (l.drop k) := by
  have := val_append B (l.take k) (l.drop k)
  rw [List.take_append_drop, List.length_take, Nat.min_eq_left h] at this
  exact this
theorem val_small {B : Nat} (hB : 2 ≤ B) (l : List Nat) (hd : ∀ x ∈ l, x < B) (k : Nat) (h : k ≤ l.length) (h0 : val B (l.drop k) = 0) : val B l < B ^ k := by
  rw [val_drop l k h, h0, Nat.mul_zero, Nat.add_zero]
  have := val_lt hB (l.take k) (fun x hx => hd x (List.mem_of_mem_take hx))
  rwa [List.length_take, Nat.min_eq_left h] at this
theorem val_drop_small {B : Nat} (hB : 2 ≤ B) (l : List Nat) (k : Nat) (h : k ≤ l.length) (hv : val B l < B ^ k) : val B (l.drop k) = 0 := by
  have := val_drop (B := B) l k h
  rcases Nat.eq_zero_or_pos (val B (l.drop k)) with e | e
  · exact e
  · have := Nat.mul_le_mul_left (B ^ k) e
    omega
/-- behind the loop: what a borrow tells -/
theorem take_out_end {B : Nat} {v V0 Y q g b i n : Nat} (hB : 2 ≤ B) (hv : v < B ^ (i + (n + 1))) (hV : V0 < B ^ (i + (n + 1))) (hq : V0 / B ^ i / Y = q) (hY : 0 < Y) (hYn : Y < B ^ n) (hg1 : q ≤ g) (hg2 : g ≤ q + 1) (hb : b ≤ 1)
    (h : v + B ^ i * (Y * g) = V0 + b * B ^ (i + (n + 1))) : (b = 0 → g = q ∧ v = V0 % (Y * B ^ i)) ∧ (b = 1 → g = q + 1 ∧ ∀ v2 c, v2 < B ^ (i + (n + 1)) → c ≤ 1 → v2 + c * B ^ (i + (n + 1)) = v + B ^ i * Y → v2 = V0 % (Y * B ^ i)) := by
  have hp := pow_pos' hB i
  have hq2 : V0 / (Y * B ^ i) = q := by rw [Nat.mul_comm, ← Nat.div_div_eq_div_mul]; exact hq
  have hm := Nat.mod_add_div V0 (Y * B ^ i)
  have hml := Nat.mod_lt V0 (Nat.mul_pos hY hp)
  rw [hq2] at hm
  have hYi : Y * B ^ i < B ^ (i + (n + 1)) := by
    rw [Nat.pow_add, Nat.mul_comm]
    apply Nat.mul_lt_mul_of_pos_left _ hp
    rw [pow_succ']; exact Nat.lt_of_lt_of_le hYn (Nat.le_mul_of_pos_right _ (by omega))
  have e1 : B ^ i * (Y * g) = Y * B ^ i * g := by ac_rfl
  have e2 : B ^ i * Y = Y * B ^ i := Nat.mul_comm _ _
  rw [e1] at h
  generalize V0 % (Y * B ^ i) = r at *
  generalize Y * B ^ i = Z at *
  generalize B ^ (i + (n + 1)) = P at *
  have hg : g = q ∨ g = q + 1 := by omega
  refine ⟨fun hb0 => ?_, fun hb1 => ?_⟩
  · subst hb0
    rcases hg with rfl | rfl
    · exact ⟨rfl, by omega⟩
    · rw [Nat.mul_add, Nat.mul_one] at h; omega
  · subst hb1
    rcases hg with rfl | rfl
    · omega
    · refine ⟨rfl, fun v2 c h1 h2 h3 => ?_⟩
      rw [Nat.mul_add, Nat.mul_one] at h
      rw [e2] at h3
      have hc : c = 0 ∨ c = 1 := by omega
      rcases hc with rfl | rfl <;> omega

/-! ### the quotient from the top -/
theorem quot_step {B : Nat} (hB : 2 ≤ B) {X Y i : Nat} (hY : 0 < Y) :
    X % (Y * B ^ (i + 1)) / B ^ i / Y = dgt B (X / Y) i ∧ X % (Y * B ^ (i + 1)) % (Y * B ^ i) = X % (Y * B ^ i) ∧ X % (Y * B ^ (i + 1)) / B ^ i < Y * B := by
  have hp := pow_pos' hB i
  have hYp := Nat.mul_pos hY hp
  have e : Y * B ^ (i + 1) = (Y * B ^ i) * B := by rw [pow_succ']; ac_rfl
  refine ⟨?_, ?_, ?_⟩
  · rw [Nat.div_div_eq_div_mul, Nat.mul_comm (B ^ i) Y, e, Nat.mod_mul_right_div_self, dgt, Nat.div_div_eq_div_mul]
  · rw [e, Nat.mod_mul_right_mod]
  · apply (Nat.div_lt_iff_lt_mul hp).2
    have := Nat.mod_lt X (show 0 < Y * B ^ (i + 1) by rw [e]; exact Nat.mul_pos hYp (by omega))
    have e2 : Y * B * B ^ i = Y * B ^ (i + 1) := by rw [pow_succ']; ac_rfl
    omega
end Go.Proofs.Ytjkekhiceadpgaa
