/- l01Divide of the specification: quotient and remainder of long numbers. Conditions: the divisor is not 0; at most 10^9 digits. -/
import Derived.Test.YtjkekhiceadpgaaLong7
namespace Go.Proofs.Ytjkekhiceadpgaa
open Go.RowKit Go.Deep
set_option linter.unusedVariables false

theorem lg_one {n : Nat} (h : dlen B9 n = 1) : dgt B9 n 0 = n ∧ n < B9 := by
  have hl := lt_dlen b9 n
  rw [h, Nat.pow_one] at hl
  exact ⟨by simp [dgt, Nat.mod_eq_of_lt hl], hl⟩
theorem lg_pos {n : Nat} (h : 0 < n) : 0 < dlen B9 n := by
  rcases Nat.eq_zero_or_pos (dlen B9 n) with h0 | h0
  · have := lt_dlen b9 n
    rw [h0, Nat.pow_zero] at this; omega
  · exact h0
theorem lg_mul {n d : Nat} (h : d < B9) : dlen B9 (n * d) ≤ dlen B9 n + 1 := by
  apply dlen_le b9
  rw [Nat.pow_succ]
  rcases Nat.eq_zero_or_pos d with rfl | hd
  · rw [Nat.mul_zero]; exact Nat.mul_pos (pow_pos' b9 _) (show 0 < B9 by decide)
  · exact Nat.mul_lt_mul'' (lt_dlen b9 n) h
theorem lg_le_one {d : Nat} (h : d < B9) : dlen B9 d ≤ 1 := dlen_le b9 (by simpa using h)

/-- a digit and the digits of a number -/
theorem snoc_val (x R : Nat) : val B9 (x :: dgs B9 R (dlen B9 R)) = R * B9 + x := by
  have := val_append B9 [x] (dgs B9 R (dlen B9 R))
  simp only [List.singleton_append, List.length_singleton, Nat.pow_one] at this
  have h2 : val B9 [x] = x := by simp [val]
  have h3 : val B9 (dgs B9 R (dlen B9 R)) = R := by rw [val_dgs, Nat.mod_eq_of_lt (lt_dlen b9 R)]
  rw [this, h2, h3, Nat.mul_comm B9 R, Nat.add_comm]
theorem snoc_lt {x R : Nat} (hx : x < B9) : ∀ y ∈ x :: dgs B9 R (dlen B9 R), y < B9 := by
  intro y hy
  rcases List.mem_cons.1 hy with rfl | hy
  · exact hx
  · simp only [dgs, List.mem_map] at hy
    obtain ⟨j, _, rfl⟩ := hy
    exact dgt_lt b9 _ _

/-- what one round of the division knows -/
theorem div_round (U V k : Nat) (hV : 0 < V) :
    (U / B9 ^ (k + 1) % V * B9 + dgt B9 U k) < V * B9 ∧ (U / B9 ^ (k + 1) % V * B9 + dgt B9 U k) / V = dgt B9 (U / V) k ∧
    (U / B9 ^ (k + 1) % V * B9 + dgt B9 U k) - V * dgt B9 (U / V) k = U / B9 ^ k % V ∧ V * dgt B9 (U / V) k ≤ (U / B9 ^ (k + 1) % V * B9 + dgt B9 U k) ∧ (U / B9 ^ (k + 1) % V * B9 + dgt B9 U k) % V = U / B9 ^ k % V := by
  obtain ⟨h1, h2⟩ := short_step b9 U k hV
  have hm := Nat.mod_lt (U / B9 ^ (k + 1)) hV
  have hd := dgt_lt b9 U k
  have hq := Nat.mod_add_div (U / B9 ^ (k + 1) % V * B9 + dgt B9 U k) V
  rw [h1, h2] at hq
  refine ⟨?_, h1, by omega, by omega, h2⟩
  have : (U / B9 ^ (k + 1) % V + 1) * B9 ≤ V * B9 := Nat.mul_le_mul_right _ hm
  rw [Nat.add_mul, Nat.one_mul] at this
  omega

theorem by_facts {n K : Nat} (h : dlen B9 n = K + 1) : 0 < dgt B9 n K ∧ dgt B9 n K < 1000000000 := by
  have := dgt_top b9 (n := n) (by omega)
  rw [h, show K + 1 - 1 = K by omega] at this
  exact ⟨by omega, dgt_lt b9 n K⟩

theorem div_scaled (m n b : Nat) (hb : 0 < b) : m * b / (n * b) = m / n ∧ (m * b % (n * b)) / b = m % n := by
  constructor
  · exact Nat.mul_div_mul_right _ _ hb
  · rw [Nat.mul_mod_mul_right, Nat.mul_div_cancel _ hb]

set_option maxRecDepth 100000 in
set_option maxHeartbeats 4000000 in
theorem l01Divide_one (a b : Value) (m n : Nat) (w : World) (ha : LongS w a m) (hb : LongS w b n) (hn : 0 < n) (h1 : dlen B9 n = 1) (sm : dlen B9 m ≤ 1000000000) :
    Calls Try.prog 96 #[a, b] w fun e w' => ∃ q r, e = .returned (.tuple #[q, r]) ∧ LongS w' q (m / n) ∧ LongS w' r (m % n) ∧ Below w.heap.size w w' := by
  obtain ⟨d0, dn⟩ := lg_one h1
  obtain ⟨bb, bo, bc, rfl, hbl, hcb⟩ := hb.at (by omega)
  rw [h1] at hcb ⊢
  have hb0 := hcb 0 (by omega)
  rw [d0] at hb0
  simp only [Nat.add_zero] at hb0
  have hsh := Lib.hid (l01Short_any a m n w ha hn (by simpa [B9] using dn) (by omega))
  obtain ⟨_, aa, ac, rfl⟩ := ha.len
  have hr9 := Lib.hid (Nat.lt_of_lt_of_le (Nat.mod_lt m hn) (Nat.le_of_lt dn))
  have hvr := Lib.hid (show val B9 [m % n] = m % n by simp [val])
  clear ha hb hcb sm dn d0
  generalize m % n = r at *
  go_enter Try.func96, Try.ntmps96
  go_wp2_with fail
  refine hsh.out.mono ?_
  rintro e w1 ⟨q, rfl, hq, b1⟩
  obtain ⟨_, qa, qc, rfl⟩ := hq.len
  have hcut := Lib.hid (l01Cut_any (.slice (some ⟨w1.heap.size, 0, none⟩) 1 1) [r] (w1.alloc (.cells #[.int .i64 (r : Int)] 2)) (by
    refine ⟨by simp [ints, maxLen], some ⟨w1.heap.size, 0, none⟩, 1, rfl, ⟨by simp [ints], by simp [maxLen]⟩, fun i hi => ⟨w1.heap.size, 0, rfl, ?_⟩⟩
    have hi0 : i = 0 := by simp [ints] at hi; omega
    subst hi0
    simp [ints]) (fun x hx => by simp at hx; subst hx; exact hr9.out))
  rw [hvr.out] at hcut
  have hq2 := hq.keep (below1 w1 (.cells #[.int .i64 (r : Int)] 2))
  have b2 := b1.alloc b1.size (.cells #[.int .i64 (r : Int)] 2)
  clear hq b1
  go_wp2_with fail
  refine hcut.out.mono ?_
  rintro e w2 ⟨⟨rv, rfl, hrv⟩, j, rfl⟩
  obtain ⟨_, ra, rc, rfl⟩ := hrv.len
  have kk := below_drewN (Below.refl (w1.alloc (.cells #[.int .i64 (r : Int)] 2)).heap.size (w1.alloc (.cells #[.int .i64 (r : Int)] 2))) j
  replace hrv := hrv.keep kk
  replace hq2 := hq2.keep kk
  have b3 := below_drewN b2 j
  clear kk b2 hcut
  go_wp2
  go_ret2
  exact ⟨_, _, rfl, hq2, hrv, b3⟩
end Go.Proofs.Ytjkekhiceadpgaa
