/- Fractions by value: n / d is P / Q; sums, products and lowest terms keep it. No conditions. -/
import Derived.Test.YtiddhnnofpbopaaStG
import Derived.Test.YtiddhnnofpbopaaRsG
namespace Go.Proofs.Ytiddhnnofpbopaa
set_option linter.unusedVariables false

/-- n / d, in lowest terms, is P / Q -/
def FracIs (n d P Q : Nat) : Prop := 0 < d ∧ Nat.gcd n d = 1 ∧ n * Q = d * P
theorem FracIs.low {n d P Q : Nat} (hd : 0 < d) (h : n * Q = d * P) : FracIs (n / Nat.gcd n d) (d / Nat.gcd n d) P Q := by
  have hg : 0 < Nat.gcd n d := Nat.gcd_pos_of_pos_right n hd
  obtain ⟨a, ha⟩ := Nat.gcd_dvd_left n d
  obtain ⟨b, hb⟩ := Nat.gcd_dvd_right n d
  generalize hge : Nat.gcd n d = g at *
  have hc : Nat.gcd a b = 1 := by
    have h1 := Nat.gcd_mul_left g a b
    rw [← ha, ← hb, hge] at h1
    have h2 : g * 1 = g * Nat.gcd a b := by rw [Nat.mul_one]; exact h1
    exact (Nat.eq_of_mul_eq_mul_left hg h2).symm
  have ea : n / g = a := by rw [ha]; exact Nat.mul_div_cancel_left a hg
  have eb : d / g = b := by rw [hb]; exact Nat.mul_div_cancel_left b hg
  rw [ea, eb]
  refine ⟨?_, hc, ?_⟩
  · rcases Nat.eq_zero_or_pos b with h0 | h0
    · rw [h0] at hb; omega
    · exact h0
  · rw [ha, hb, Nat.mul_assoc, Nat.mul_assoc] at h
    exact Nat.eq_of_mul_eq_mul_left hg h
theorem FracIs.dle {n d P Q : Nat} (h : FracIs n d P Q) (hQ : 0 < Q) : d ≤ Q ∧ n ≤ P := by
  obtain ⟨hd, hg, he⟩ := h
  have hdv : d ∣ n * Q := ⟨P, he⟩
  have hc : Nat.Coprime d n := by rw [Nat.coprime_comm]; exact hg
  have h1 : d ∣ Q := hc.dvd_of_dvd_mul_left hdv
  have h2 := Nat.le_of_dvd hQ h1
  refine ⟨h2, ?_⟩
  have h3 : d * n ≤ d * P := by rw [← he, Nat.mul_comm d n]; exact Nat.mul_le_mul_left n h2
  exact Nat.le_of_mul_le_mul_left h3 hd
theorem prod_eq (n1 d1 r x T m1 e1 : Nat) (hs : m1 * T = e1 * x) : (n1 * m1) * (d1 * r * T) = (d1 * e1) * (n1 * r * x) := by
  have e : (n1 * m1) * (d1 * r * T) = n1 * d1 * r * (m1 * T) := by grind
  rw [e, hs]; grind
theorem sum_eq {n d a b S P Q : Nat} (h1 : n * Q = d * S) (h2 : a * Q = b * P) : (n * b + a * d) * Q = (d * b) * (S + P) := by
  have e : (n * b + a * d) * Q = b * (n * Q) + d * (a * Q) := by grind
  rw [e, h1, h2]; grind
theorem cross_eq {n d S Q N M : Nat} (hd : 0 < d) (hQ : 0 < Q) (h : n * Q = d * S) : (n * M = N * d) ↔ (N * Q = S * M) := by
  constructor
  · intro h1
    have : d * (N * Q) = d * (S * M) := by
      have e : d * (N * Q) = (N * d) * Q := by grind
      rw [e, ← h1]
      have e2 : n * M * Q = M * (n * Q) := by grind
      rw [e2, h]; grind
    exact Nat.eq_of_mul_eq_mul_left hd this
  · intro h1
    have : Q * (n * M) = Q * (N * d) := by
      have e : Q * (n * M) = M * (n * Q) := by grind
      rw [e, h]
      have e2 : M * (d * S) = d * (S * M) := by grind
      rw [e2, ← h1]; grind
    exact Nat.eq_of_mul_eq_mul_left hQ this
end Go.Proofs.Ytiddhnnofpbopaa
