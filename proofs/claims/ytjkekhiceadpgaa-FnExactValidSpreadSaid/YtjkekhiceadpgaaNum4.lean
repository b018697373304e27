/- Plain lemmas on Euclid's steps of long numbers, taken from their highest bits alone (Lehmer; the rule of Collins): which remainders are certain, and that they have the same divisors. No program here. -/
import Derived.Test.YtjkekhiceadpgaaNum3
namespace Go.Proofs.Ytjkekhiceadpgaa
set_option linter.unusedVariables false

/-- two remainders out of x and y, by the factors (a, b) and (a', b'); even says which one is subtracted -/
structure Cert (x y : Nat) (even : Bool) (a b a' b' R R' : Nat) : Prop where
  one : if even then a * x = R + b * y else b * y = R + a * x
  two : if even then b' * y = R' + a' * x else a' * x = R' + b' * y
  det : if even then a * b' = a' * b + 1 else a' * b = a * b' + 1

/-- the loop's head: now = (a1, b1), next = (a2, b2), r1, r2 the remainders of the highest bits xh, yh; before = (a0, b0) -/
structure Lehm (F x y xh yh : Nat) (even : Bool) (a0 b0 a1 b1 a2 b2 r1 r2 R1 : Nat) : Prop where
  hx : xh = b2 * r1 + b1 * r2
  hy : yh = a2 * r1 + a1 * r2
  det : if even then a1 * b2 = a2 * b1 + 1 else a2 * b1 = a1 * b2 + 1
  le : r2 ≤ r1
  ab : a2 ≤ b2 ∧ (a1 ≤ b1 ∨ (a1 = 1 ∧ b1 = 0 ∧ a2 = 0 ∧ b2 = 1))
  now : if even then a1 * x = R1 + b1 * y else b1 * y = R1 + a1 * x
  nowle : b1 ≠ 0 → R1 ≤ y
  bef : b0 ≠ 0 → ∃ R0, Cert x y (!even) a0 b0 a1 b1 R0 R1 ∧ R1 < R0 ∧ R0 ≤ y

theorem Lehm.start {F x y xh yh : Nat} (h : yh ≤ xh) : Lehm F x y xh yh true 0 0 1 0 0 1 xh yh x where
  hx := by omega
  hy := by omega
  det := by simp
  le := h
  ab := by simp
  now := by simp
  nowle := by simp
  bef := by simp

theorem Lehm.pos {F x y xh yh : Nat} {even : Bool} {a0 b0 a1 b1 a2 b2 r1 r2 R1 : Nat} (h : Lehm F x y xh yh even a0 b0 a1 b1 a2 b2 r1 r2 R1) : 1 ≤ b2 := by
  have d := h.det
  have k := h.ab.1
  rcases Nat.eq_zero_or_pos b2 with rfl | e
  · have : a2 = 0 := by omega
    subst this
    cases even <;> simp at d
  · exact e
/-- no sum or product of the loop is too great -/
theorem Lehm.fits {F x y xh yh : Nat} {even : Bool} {a0 b0 a1 b1 a2 b2 r1 r2 R1 : Nat} (h : Lehm F x y xh yh even a0 b0 a1 b1 a2 b2 r1 r2 R1) (hr : 1 ≤ r2) :
    b1 + b2 ≤ xh ∧ b1 + r1 / r2 * b2 ≤ xh ∧ a1 + r1 / r2 * a2 ≤ b1 + r1 / r2 * b2 := by
  have e := h.hx
  have l := h.le
  have q := Nat.div_add_mod r1 r2
  have q1 : 1 ≤ r1 / r2 := (Nat.le_div_iff_mul_le (by omega)).2 (by omega)
  refine ⟨?_, ?_, ?_⟩
  · have h1 := Nat.mul_le_mul_left b2 (show 1 ≤ r1 by omega)
    have h2 := Nat.mul_le_mul_left b1 hr
    omega
  · generalize r1 / r2 = u at *
    generalize r1 % r2 = v at *
    have e2 : xh = (b1 + u * b2) * r2 + b2 * v := by rw [e, ← q]; grind
    have := Nat.mul_le_mul_left (b1 + u * b2) hr
    omega
  · obtain ⟨h1, h2 | ⟨h2, h3, h4, h5⟩⟩ := h.ab
    · have := Nat.mul_le_mul_left (r1 / r2) h1; omega
    · subst h2 h3 h4 h5; omega

theorem Lehm.step {F x y xh yh xl yl : Nat} {even : Bool} {a0 b0 a1 b1 a2 b2 r1 r2 R1 : Nat} (h : Lehm F x y xh yh even a0 b0 a1 b1 a2 b2 r1 r2 R1)
    (ex : x = xh * F + xl) (ey : y = yh * F + yl) (lx : xl < F) (ly : yl < F) (h1 : b2 ≤ r2) (h2 : b1 + b2 ≤ r1 - r2) :
    ∃ R2, Lehm F x y xh yh (!even) a1 b1 a2 b2 (a1 + r1 / r2 * a2) (b1 + r1 / r2 * b2) r2 (r1 % r2) R2 := by
  have hp := h.pos
  have hr2 : 0 < r2 := by omega
  have h3 : b1 + b2 + r2 ≤ r1 := by have := h.le; omega
  have hF := h.fits hr2
  have q := Nat.div_add_mod r1 r2
  have qm := Nat.mod_lt r1 hr2
  obtain ⟨hx, hy, det, le, ⟨ab2, ab1⟩, now, nowle, bef⟩ := h
  obtain ⟨f1, f2, f3⟩ := hF
  generalize r1 / r2 = u at *
  generalize r1 % r2 = v at *
  -- the next remainder is certain
  have key : ∃ R2, (if even then b2 * y = R2 + a2 * x else a2 * x = R2 + b2 * y) ∧ R2 < R1 := by
    cases even
    · -- odd: a2 x - b2 y
      simp only [Bool.false_eq_true, if_false] at det now ⊢
      have i1 : a2 * xh = r2 + b2 * yh := by rw [hx, hy]; grind
      have i2 : b1 * yh = r1 + a1 * xh := by rw [hx, hy]; grind
      have e1 : a2 * x = r2 * F + b2 * (yh * F) + a2 * xl := by rw [ex, Nat.mul_add, ← Nat.mul_assoc, i1]; grind
      have e2 : b1 * y = r1 * F + a1 * (xh * F) + b1 * yl := by rw [ey, Nat.mul_add, ← Nat.mul_assoc, i2]; grind
      have e3 : b2 * y = b2 * (yh * F) + b2 * yl := by rw [ey, Nat.mul_add]
      have e4 : a1 * x = a1 * (xh * F) + a1 * xl := by rw [ex, Nat.mul_add]
      have a2p : 1 ≤ a2 := by
        rcases Nat.eq_zero_or_pos a2 with rfl | e
        · simp at det
        · exact e
      have a1b : a1 ≤ b1 := by
        rcases ab1 with e | ⟨_, _, e, _⟩
        · exact e
        · omega
      have m1 : b2 * yl ≤ b2 * F := Nat.mul_le_mul_left _ (Nat.le_of_lt ly)
      have m2 : b2 * F ≤ r2 * F := Nat.mul_le_mul_right _ h1
      have m3 : a2 * xl < a2 * F := Nat.mul_lt_mul_of_pos_left lx a2p
      have m4 : a2 * F ≤ b2 * F := Nat.mul_le_mul_right _ ab2
      have m5 : (b1 + b2 + r2) * F ≤ r1 * F := Nat.mul_le_mul_right _ h3
      have m6 : a1 * xl ≤ a1 * F := Nat.mul_le_mul_left _ (Nat.le_of_lt lx)
      have m7 : a1 * F ≤ b1 * F := Nat.mul_le_mul_right _ a1b
      rw [Nat.add_mul, Nat.add_mul] at m5
      exact ⟨a2 * x - b2 * y, by omega, by omega⟩
    · simp only [if_true] at det now ⊢
      have i1 : b2 * yh = r2 + a2 * xh := by rw [hx, hy]; grind
      have i2 : a1 * xh = r1 + b1 * yh := by rw [hx, hy]; grind
      have e1 : b2 * y = r2 * F + a2 * (xh * F) + b2 * yl := by rw [ey, Nat.mul_add, ← Nat.mul_assoc, i1]; grind
      have e2 : a1 * x = r1 * F + b1 * (yh * F) + a1 * xl := by rw [ex, Nat.mul_add, ← Nat.mul_assoc, i2]; grind
      have e3 : a2 * x = a2 * (xh * F) + a2 * xl := by rw [ex, Nat.mul_add]
      have e4 : b1 * y = b1 * (yh * F) + b1 * yl := by rw [ey, Nat.mul_add]
      have m1 : b2 * yl < b2 * F := Nat.mul_lt_mul_of_pos_left ly hp
      have m2 : b2 * F ≤ r2 * F := Nat.mul_le_mul_right _ h1
      have m3 : a2 * xl ≤ a2 * F := Nat.mul_le_mul_left _ (Nat.le_of_lt lx)
      have m4 : a2 * F ≤ b2 * F := Nat.mul_le_mul_right _ ab2
      have m5 : (b1 + b2 + r2) * F ≤ r1 * F := Nat.mul_le_mul_right _ h3
      have m6 : b1 * yl ≤ b1 * F := Nat.mul_le_mul_left _ (Nat.le_of_lt ly)
      rw [Nat.add_mul, Nat.add_mul] at m5
      exact ⟨b2 * y - a2 * x, by omega, by omega⟩
  obtain ⟨R2, k1, k2⟩ := key
  refine ⟨R2, ?_, ?_, ?_, by omega, ⟨f3, Or.inl ab2⟩, ?_, ?_, ?_⟩
  · rw [hx, ← q]; grind
  · rw [hy, ← q]; grind
  · cases even
    · simp at det ⊢; grind
    · simp at det ⊢; grind
  · cases even <;> simpa using k1
  · intro _
    by_cases hb : b1 = 0
    · rcases ab1 with e | ⟨e1, e2, e3, e4⟩
      · have : a1 = 0 := by omega
        subst this hb
        cases even <;> simp at det
      · subst e1 e2 e3 e4
        cases even
        · simp at det
        · simp at k1; omega
    · have := nowle hb; omega
  · intro hb
    refine ⟨R1, ⟨?_, ?_, ?_⟩, k2, nowle hb⟩
    · cases even <;> simpa using now
    · cases even <;> simpa using k1
    · cases even <;> simpa using det

/-- the two remainders have the divisors that x and y have -/
theorem Cert.gcd {x y : Nat} {even : Bool} {a b a' b' R R' : Nat} (h : Cert x y even a b a' b' R R') : Nat.gcd R R' = Nat.gcd x y := by
  obtain ⟨h1, h2, h3⟩ := h
  have e : x = b' * R + b * R' ∧ y = a' * R + a * R' := by
    cases even
    · simp only [Bool.false_eq_true, if_false] at h1 h2 h3
      -- R = b y - a x, R' = a' x - b' y
      have hR : (R : Int) = b * y - a * x := by have := congrArg (Nat.cast (R := Int)) h1; simp at this; omega
      have hR' : (R' : Int) = a' * x - b' * y := by have := congrArg (Nat.cast (R := Int)) h2; simp at this; omega
      have hD : (a' : Int) * b = a * b' + 1 := by have := congrArg (Nat.cast (R := Int)) h3; simpa using this
      constructor
      · have : (x : Int) = b' * R + b * R' := by rw [hR, hR']; grind
        exact_mod_cast this
      · have : (y : Int) = a' * R + a * R' := by rw [hR, hR']; grind
        exact_mod_cast this
    · simp only [if_true] at h1 h2 h3
      have hR : (R : Int) = a * x - b * y := by have := congrArg (Nat.cast (R := Int)) h1; simp at this; omega
      have hR' : (R' : Int) = b' * y - a' * x := by have := congrArg (Nat.cast (R := Int)) h2; simp at this; omega
      have hD : (a : Int) * b' = a' * b + 1 := by have := congrArg (Nat.cast (R := Int)) h3; simpa using this
      constructor
      · have : (x : Int) = b' * R + b * R' := by rw [hR, hR']; grind
        exact_mod_cast this
      · have : (y : Int) = a' * R + a * R' := by rw [hR, hR']; grind
        exact_mod_cast this
  apply Nat.dvd_antisymm
  · have d1 := Nat.gcd_dvd_left R R'
    have d2 := Nat.gcd_dvd_right R R'
    apply Nat.dvd_gcd
    · rw [e.1]; exact Nat.dvd_add (Nat.dvd_mul_left_of_dvd d1 _) (Nat.dvd_mul_left_of_dvd d2 _)
    · rw [e.2]; exact Nat.dvd_add (Nat.dvd_mul_left_of_dvd d1 _) (Nat.dvd_mul_left_of_dvd d2 _)
  · have d1 := Nat.gcd_dvd_left x y
    have d2 := Nat.gcd_dvd_right x y
    have cx : ∀ k, Nat.gcd x y ∣ k * x := fun k => Nat.dvd_mul_left_of_dvd d1 _
    have cy : ∀ k, Nat.gcd x y ∣ k * y := fun k => Nat.dvd_mul_left_of_dvd d2 _
    apply Nat.dvd_gcd
    · cases even
      · simp only [Bool.false_eq_true, if_false] at h1
        have := cy b; rw [h1] at this
        exact (Nat.dvd_add_iff_left (cx a)).2 this
      · simp only [if_true] at h1
        have := cx a; rw [h1] at this
        exact (Nat.dvd_add_iff_left (cy b)).2 this
    · cases even
      · simp only [Bool.false_eq_true, if_false] at h2
        have := cx a'; rw [h2] at this
        exact (Nat.dvd_add_iff_left (cy b')).2 this
      · simp only [if_true] at h2
        have := cy b'; rw [h2] at this
        exact (Nat.dvd_add_iff_left (cx a')).2 this
/-- the gap of two multiples -/
theorem Cert.gaps {x y : Nat} {even : Bool} {a b a' b' R R' : Nat} (h : Cert x y even a b a' b' R R') : (if x * a < y * b then y * b - x * a else x * a - y * b) = R ∧ (if x * a' < y * b' then y * b' - x * a' else x * a' - y * b') = R' := by
  obtain ⟨h1, h2, _⟩ := h
  rw [Nat.mul_comm x a, Nat.mul_comm y b, Nat.mul_comm x a', Nat.mul_comm y b']
  cases even
  · simp only [Bool.false_eq_true, if_false] at h1 h2
    constructor <;> split <;> omega
  · simp only [if_true] at h1 h2
    constructor <;> split <;> omega
end Go.Proofs.Ytjkekhiceadpgaa
