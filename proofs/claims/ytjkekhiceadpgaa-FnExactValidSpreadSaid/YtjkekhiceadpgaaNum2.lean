/- Plain lemmas on digits, second part: a number times a factor, digit by digit; digits with zeros behind; 64 bits of a number from any place; what a shift and an 'or' make of numbers. No program here. -/
import Derived.Test.YtjkekhiceadpgaaNum
namespace Go.Proofs.Ytjkekhiceadpgaa
set_option linter.unusedVariables false

abbrev W32 : Nat := 4294967296
theorem w32 : 2 ≤ W32 := by decide

/-- k digits, and zeros behind, M in all -/
def dz (B s k M : Nat) : List Nat := dgs B s k ++ List.replicate (M - k) 0
theorem dz_zero (B s M : Nat) : dz B s 0 M = List.replicate M 0 := by simp [dz, dgs]
theorem dz_all (B s M : Nat) : dz B s M M = dgs B s M := by simp [dz]
theorem dz_length (B s k M : Nat) (h : k ≤ M) : (dz B s k M).length = M := by simp [dz, dgs_length]; omega
theorem dz_set (B s k M : Nat) (h : k < M) : (dz B s k M).set k (dgt B s k) = dz B s (k + 1) M := by
  unfold dz
  rw [List.set_append_right _ _ (by rw [dgs_length]; omega), dgs_length, Nat.sub_self, dgs_succ]
  have e : M - k = (M - (k + 1)) + 1 := by omega
  rw [e, List.replicate_succ, List.set_cons_zero, List.append_assoc]
  rfl
theorem dgs_lt {B : Nat} (hB : 2 ≤ B) (n L : Nat) : ∀ x ∈ dgs B n L, x < B := fun x hx => by
  simp only [dgs, List.mem_map] at hx; obtain ⟨j, _, rfl⟩ := hx; exact dgt_lt hB _ _
theorem val_dgs_small {B n L : Nat} (h : n < B ^ L) : val B (dgs B n L) = n := by rw [val_dgs, Nat.mod_eq_of_lt h]

/-! ### a number times a factor -/
/-- what is carried -/
def scarry (B a f i : Nat) : Nat := a % B ^ i * f / B ^ i
theorem scarry_zero (B a f : Nat) : scarry B a f 0 = 0 := by simp [scarry, Nat.mod_one]
theorem scale_step {B : Nat} (hB : 2 ≤ B) (a f i : Nat) : dgt B (a * f) i = (scarry B a f i + dgt B a i * f) % B ∧ scarry B a f (i + 1) = (scarry B a f i + dgt B a i * f) / B := by
  have hp := pow_pos' hB i
  have e1 : a % B ^ (i + 1) * f / B ^ i = scarry B a f i + dgt B a i * f := by
    rw [mod_step, Nat.add_mul, Nat.mul_assoc, Nat.add_mul_div_left _ _ hp]; rfl
  constructor
  · have ea := Nat.mod_add_div a (B ^ (i + 1))
    have e2 : a * f = a % B ^ (i + 1) * f + B ^ i * (B * (a / B ^ (i + 1) * f)) := by
      have e3 : a * f = a % B ^ (i + 1) * f + B ^ (i + 1) * (a / B ^ (i + 1)) * f := by rw [← Nat.add_mul, ea]
      rw [e3, pow_succ']; congr 1; ac_rfl
    rw [dgt, e2, Nat.add_mul_div_left _ _ hp, e1, Nat.add_mul_mod_self_left]
  · rw [scarry, pow_succ', ← Nat.div_div_eq_div_mul, ← pow_succ', e1]
theorem scarry_le {B : Nat} (hB : 2 ≤ B) (a f i : Nat) : scarry B a f i ≤ f - 1 := by
  have hp := pow_pos' hB i
  rcases Nat.eq_zero_or_pos f with rfl | hf
  · simp [scarry]
  · have h1 := Nat.mod_lt a hp
    have : a % B ^ i * f < f * B ^ i := by rw [Nat.mul_comm f]; exact Nat.mul_lt_mul_of_pos_right h1 hf
    have := (Nat.div_lt_iff_lt_mul hp).2 this
    unfold scarry; omega
/-- the carry behind the last digit is the last digit of the product -/
theorem scarry_end {B a f L : Nat} (h : a < B ^ L) (hf : f ≤ B) (hB : 2 ≤ B) : scarry B a f L = dgt B (a * f) L ∧ a * f < B ^ (L + 1) := by
  have hp := pow_pos' hB L
  have h1 : a * f < B ^ (L + 1) := by
    rw [pow_succ']
    rcases Nat.eq_zero_or_pos f with rfl | h0
    · rw [Nat.mul_zero]; exact Nat.mul_pos hp (by omega)
    · exact Nat.lt_of_lt_of_le (Nat.mul_lt_mul_of_pos_right h h0) (Nat.mul_le_mul_left _ hf)
  refine ⟨?_, h1⟩
  unfold scarry dgt
  rw [Nat.mod_eq_of_lt h, Nat.mod_eq_of_lt]
  rw [pow_succ'] at h1
  exact (Nat.div_lt_iff_lt_mul hp).2 (by rw [Nat.mul_comm B]; exact h1)

/-! ### bits -/
theorem or_low (a b s : Nat) (hb : b < 2 ^ s) : (a * 2 ^ s) ||| b = a * 2 ^ s + b := by
  rw [Nat.mul_comm]; exact (Nat.two_pow_add_eq_or_of_lt hb a).symm
theorem or_low' (a b s : Nat) (hb : b < 2 ^ s) : b ||| (a * 2 ^ s) = b + a * 2 ^ s := by
  rw [Nat.or_comm, or_low _ _ _ hb, Nat.add_comm]
/-- 64 bits of a number from bit 32 f + s on, out of three of its words -/
theorem window_eq (n f s : Nat) (hs : s < 32) :
    (dgt W32 n f + W32 * dgt W32 n (f + 1)) / 2 ^ s + dgt W32 n (f + 2) * 2 ^ (64 - s) % 18446744073709551616 = n / 2 ^ (32 * f + s) % 18446744073709551616 ∧
    (dgt W32 n f + W32 * dgt W32 n (f + 1)) / 2 ^ s < 2 ^ (64 - s) ∧ ∃ t, dgt W32 n (f + 2) * 2 ^ (64 - s) % 18446744073709551616 = t * 2 ^ (64 - s) := by
  have e0 : W32 ^ f = 2 ^ (32 * f) := by rw [show W32 = 2 ^ 32 by rfl, ← Nat.pow_mul]
  have d0 := div_split W32 n f
  have d1 := div_split W32 n (f + 1)
  have d2 := div_split W32 n (f + 2)
  have l0 := dgt_lt w32 n f
  have l1 := dgt_lt w32 n (f + 1)
  have l2 := dgt_lt w32 n (f + 2)
  have eN : n / 2 ^ (32 * f + s) = n / W32 ^ f / 2 ^ s := by rw [Nat.pow_add, ← e0, Nat.div_div_eq_div_mul]
  rw [eN]
  generalize n / W32 ^ f = m at *
  generalize n / W32 ^ (f + 1) = m1 at *
  generalize n / W32 ^ (f + 1 + 1) = m2 at *
  generalize n / W32 ^ (f + 2 + 1) = m3 at *
  have d2' : m2 = dgt W32 n (f + 2) + W32 * m3 := d2
  clear d2
  generalize dgt W32 n f = a at *
  generalize dgt W32 n (f + 1) = b at *
  generalize dgt W32 n (f + 2) = c at *
  subst d2' d1 d0
  have hpow : 2 ^ s * 2 ^ (64 - s) = 18446744073709551616 := by rw [← Nat.pow_add, show s + (64 - s) = 64 by omega]
  have hps : 0 < 2 ^ s := Nat.two_pow_pos s
  have hpt : 0 < 2 ^ (64 - s) := Nat.two_pow_pos _
  have hle : (2 : Nat) ^ 32 ≤ 2 ^ (64 - s) := Nat.pow_le_pow_right (by omega) (by omega)
  generalize hS : 2 ^ s = S at *
  generalize hT : 2 ^ (64 - s) = T at *
  have hlow : a + W32 * b < S * T := by rw [hpow]; simp only [W32] at *; omega
  have e1 : (a + W32 * (b + W32 * (c + W32 * m3))) / S = (a + W32 * b) / S + T * (c + W32 * m3) := by
    have : a + W32 * (b + W32 * (c + W32 * m3)) = (a + W32 * b) + S * (T * (c + W32 * m3)) := by
      rw [← Nat.mul_assoc, hpow]; simp only [W32]; omega
    rw [this, Nat.add_mul_div_left _ _ hps]
  rw [e1]
  have hq : (a + W32 * b) / S < T := (Nat.div_lt_iff_lt_mul hps).2 (by rw [Nat.mul_comm T]; exact hlow)
  generalize (a + W32 * b) / S = q at *
  refine ⟨?_, hq, c % S, ?_⟩
  · -- T * (c + W32 * m3) mod 2^64: T * W32 is a multiple of 2^64 / S.. so look modulo S
    have h1 : (q + T * (c + W32 * m3)) % (T * S) = q % T + T * ((q + T * (c + W32 * m3)) / T % S) := by
      rw [Nat.mod_mul, Nat.add_mul_mod_self_left]
    rw [Nat.add_mul_div_left _ _ hpt, Nat.div_eq_of_lt hq, Nat.zero_add, Nat.mod_eq_of_lt hq] at h1
    rw [Nat.mul_comm T S, hpow] at h1
    rw [h1]
    congr 1
    have h2 : (c + W32 * m3) % S = c % S := by
      have : W32 = S * 2 ^ (32 - s) := by rw [← hS, ← Nat.pow_add, show s + (32 - s) = 32 by omega]
      rw [this, Nat.mul_assoc, Nat.add_mul_mod_self_left]
    rw [h2, ← hpow, Nat.mul_mod_mul_right, Nat.mul_comm]
  · rw [← hpow, Nat.mul_mod_mul_right]
end Go.Proofs.Ytjkekhiceadpgaa
