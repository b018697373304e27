/- bits.Len32, bits.LeadingZeros32 (the library's own text, walked), and what the shift by leading zeros makes of a divisor. Conditions: none. -/
import Derived.Lib.BitFns
import Derived.Lib.ItoaNum
import Derived.Lib.Small
import Derived.Lib.Walk
import Derived.Test.YtjkekhiceadpgaaWord9
namespace Go.Proofs.Ytjkekhiceadpgaa
open Go.RowKit Go.Deep
set_option linter.unusedVariables false

set_option maxRecDepth 100000 in
theorem tab_size : Lib.len8tab.size = 256 := by decide
theorem tab_get (y : Int) (h0 : 0 ≤ y) (h1 : y ≤ 255) (h : y.toNat < Lib.len8tab.size) : ((Lib.len8tab[y.toNat]'h).toNat : Int) = (Lib.bitLen y.toNat : Int) := by
  rw [← Lib.len8_of y h0 h1, Lib.len8, getElem?_pos Lib.len8tab y.toNat h]
  rfl
theorem w64_in {n : Int} (h0 : 0 ≤ n) (h1 : n ≤ 1000) : wrap64 n = n := by unfold wrap64; omega

set_option maxHeartbeats 4000000 in
set_option maxRecDepth 100000 in
theorem Len32_any (x : Int) (w : World) (h0 : 0 ≤ x) (h1 : x ≤ 4294967295) :
    Calls Try.prog 142 #[.int .u32 x] w fun e w' => e = .returned (.int .i64 (Lib.bitLen x.toNat)) ∧ w' = w := by
  have hsz := Lib.hid tab_size
  go_enter Try.func142, Try.ntmps142
  go_wp2
  all_goals first
    | (go_ret
       refine ⟨congrArg Ending.returned (congrArg (Value.int IntKind.i64) ?_), rfl⟩)
    | (exfalso; have := hsz.out; omega)
  all_goals first
    | (have a1 : 0 ≤ x / 65536 / 256 ∧ x / 65536 / 256 ≤ 255 := by omega
       have a2 := Lib.bitLen_shift24 x.toNat (by omega) (by omega)
       have a3 := Lib.bitLen_le (x / 65536 / 256).toNat 8 (by omega) (by omega)
       rw [tab_get (x / 65536 / 256) a1.1 a1.2 _]
       rw [show x.toNat / 16777216 = (x / 65536 / 256).toNat by omega] at a2
       rw [a2]
       generalize Lib.bitLen (x / 65536 / 256).toNat = t at *
       rw [w64_in (n := (t : Int)) (by omega) (by omega), w64_in (by omega) (by omega)]; omega)
    | (have a1 : 0 ≤ x / 65536 ∧ x / 65536 ≤ 255 := by omega
       have a2 := Lib.bitLen_shift16 x.toNat (by omega) (by omega)
       have a3 := Lib.bitLen_le (x / 65536).toNat 8 (by omega) (by omega)
       rw [tab_get (x / 65536) a1.1 a1.2 _]
       rw [show x.toNat / 65536 = (x / 65536).toNat by omega] at a2
       rw [a2]
       generalize Lib.bitLen (x / 65536).toNat = t at *
       rw [w64_in (n := (t : Int)) (by omega) (by omega), w64_in (by omega) (by omega)]; omega)
    | (have a1 : 0 ≤ x / 256 ∧ x / 256 ≤ 255 := by omega
       have a2 := Lib.bitLen_shift8 x.toNat (by omega) (by omega)
       have a3 := Lib.bitLen_le (x / 256).toNat 8 (by omega) (by omega)
       rw [tab_get (x / 256) a1.1 a1.2 _]
       rw [show x.toNat / 256 = (x / 256).toNat by omega] at a2
       rw [a2]
       generalize Lib.bitLen (x / 256).toNat = t at *
       rw [w64_in (n := (t : Int)) (by omega) (by omega), w64_in (by omega) (by omega)]; omega)
    | (have a1 : 0 ≤ x ∧ x ≤ 255 := by omega
       have a3 := Lib.bitLen_le x.toNat 8 (by omega) (by omega)
       rw [tab_get x a1.1 a1.2 _]
       generalize Lib.bitLen x.toNat = t at *
       rw [w64_in (n := (t : Int)) (by omega) (by omega), w64_in (by omega) (by omega)])
theorem lz_bounds {x : Nat} (h0 : 0 < x) (h1 : x < 4294967296) : 1 ≤ Lib.bitLen x ∧ Lib.bitLen x ≤ 32 ∧ 2147483648 ≤ x * 2 ^ (32 - Lib.bitLen x) ∧ (x + 1) * 2 ^ (32 - Lib.bitLen x) ≤ 4294967296 := by
  obtain ⟨b1, b2, b3⟩ := Lib.bitLenAux_bounds 64 x (by omega) (by omega)
  have b4 := Lib.bitLen_le x 32 (by omega) (by omega)
  change 1 ≤ Lib.bitLen x at b1
  change 2 ^ (Lib.bitLen x - 1) ≤ x at b2
  change x < 2 ^ Lib.bitLen x at b3
  refine ⟨b1, b4, ?_, ?_⟩
  · have := Nat.mul_le_mul_right (2 ^ (32 - Lib.bitLen x)) b2
    rw [← Nat.pow_add, show Lib.bitLen x - 1 + (32 - Lib.bitLen x) = 31 by omega] at this
    simpa using this
  · have := Nat.mul_le_mul_right (2 ^ (32 - Lib.bitLen x)) b3
    rw [← Nat.pow_add, show Lib.bitLen x + (32 - Lib.bitLen x) = 32 by omega] at this
    simpa using this

/-- the leading zeros of a word that is not 0 -/
theorem lz_any (x : Nat) (w : World) (h0 : 0 < x) (h1 : x < 4294967296) :
    Calls Try.prog 132 #[.int .u32 (x : Int)] w fun e w' => e = .returned (.int .i64 ((32 - Lib.bitLen x : Nat) : Int)) ∧ w' = w := by
  have hc := Len32_any (x : Int) w (by omega) (by omega)
  obtain ⟨b1, b2, -, -⟩ := lz_bounds h0 h1
  rw [Int.toNat_natCast] at hc
  have e : (32 : Int) - (Lib.bitLen x : Int) = ((32 - Lib.bitLen x : Nat) : Int) := by omega
  generalize 32 - Lib.bitLen x = s at *
  generalize Lib.bitLen x = b at *
  have hc' := Lib.hid hc
  clear hc
  go_enter Try.func132, Try.ntmps132
  go_wp2_with fail
  refine hc'.out.mono ?_
  rintro e w' ⟨rfl, rfl⟩
  go_wp2
  go_ret
  exact ⟨rfl, rfl⟩

/-- a divisor, shifted up by the leading zeros of its highest word: as many words, the highest bit set -/
theorem shift_top {d s : Nat} (hd : 0 < d) (hs1 : 2147483648 ≤ dgt W32 d (dlen W32 d - 1) * 2 ^ s) (hs2 : (dgt W32 d (dlen W32 d - 1) + 1) * 2 ^ s ≤ 4294967296) :
    dlen W32 (d * 2 ^ s) = dlen W32 d ∧ W32 ≤ 2 * dgt W32 (d * 2 ^ s) (dlen W32 d - 1) := by
  have hn : 0 < dlen W32 d := by
    rcases Nat.eq_zero_or_pos (dlen W32 d) with h | h
    · have := lt_dlen w32 d; rw [h, Nat.pow_zero] at this; omega
    · exact h
  have hlt := lt_dlen w32 d
  obtain ⟨k, hk⟩ : ∃ k, dlen W32 d = k + 1 := ⟨dlen W32 d - 1, by omega⟩
  rw [hk] at hs1 hs2 hlt ⊢
  rw [Nat.add_sub_cancel] at hs1 hs2 ⊢
  have hp := pow_pos' w32 k
  have ht : dgt W32 d k = d / W32 ^ k := by
    rw [dgt, Nat.mod_eq_of_lt]
    apply (Nat.div_lt_iff_lt_mul hp).2
    rw [Nat.mul_comm, ← pow_succ']; exact hlt
  rw [ht] at hs1 hs2
  have h1 : d / W32 ^ k * W32 ^ k ≤ d := Nat.div_mul_le_self _ _
  have h2 : d < (d / W32 ^ k + 1) * W32 ^ k := by have := Nat.lt_mul_div_succ d hp; rw [Nat.mul_comm]; exact this
  have hsp := Nat.two_pow_pos s
  generalize d / W32 ^ k = t at *
  have g1 : 2147483648 * W32 ^ k ≤ d * 2 ^ s := by
    have a := Nat.mul_le_mul_right (W32 ^ k) hs1
    have b := Nat.mul_le_mul_right (2 ^ s) h1
    have e : t * 2 ^ s * W32 ^ k = t * W32 ^ k * 2 ^ s := by ac_rfl
    omega
  have g2 : d * 2 ^ s < W32 ^ (k + 1) := by
    have a := Nat.mul_le_mul_right (W32 ^ k) hs2
    have b := Nat.mul_lt_mul_of_pos_right h2 hsp
    have e : (t + 1) * 2 ^ s * W32 ^ k = (t + 1) * W32 ^ k * 2 ^ s := by ac_rfl
    rw [pow_succ', Nat.mul_comm (W32 ^ k)]
    rw [e] at a
    exact Nat.lt_of_lt_of_le b a
  have hD : 2147483648 ≤ d * 2 ^ s / W32 ^ k := (Nat.le_div_iff_mul_le hp).2 g1
  refine ⟨dlen_eq w32 g2 (Or.inr ?_), ?_⟩
  · rw [Nat.add_sub_cancel]
    have := Nat.mul_le_mul_right (W32 ^ k) (show 1 ≤ 2147483648 by decide)
    rw [Nat.one_mul] at this
    exact Nat.le_trans this g1
  · have : dgt W32 (d * 2 ^ s) k = d * 2 ^ s / W32 ^ k := by
      rw [dgt, Nat.mod_eq_of_lt]
      apply (Nat.div_lt_iff_lt_mul hp).2
      rw [Nat.mul_comm W32 (W32 ^ k), ← pow_succ']; exact g2
    rw [this]; simp only [W32] at hD ⊢; omega
end Go.Proofs.Ytjkekhiceadpgaa
