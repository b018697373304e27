/- Plain lemmas on the digits of whole numbers in a base, and on carries: no program here. Conditions: the base is 2 or more, where that is said. -/
namespace Go.Proofs.Ytjkekhiceadpgaa
set_option linter.unusedVariables false

/-- the k-th digit -/
def dgt (B n k : Nat) : Nat := n / B ^ k % B
def dlenF (B : Nat) : Nat → Nat → Nat
  | 0, _ => 0
  | f + 1, n => if n = 0 then 0 else dlenF B f (n / B) + 1
/-- how many digits -/
def dlen (B n : Nat) : Nat := dlenF B n n
/-- so many digits, the lowest one first -/
def dgs (B n L : Nat) : List Nat := (List.range L).map (dgt B n)
theorem dgs_length (B n L : Nat) : (dgs B n L).length = L := by simp [dgs]
theorem dgs_succ (B n L : Nat) : dgs B n (L + 1) = dgs B n L ++ [dgt B n L] := by simp [dgs, List.range_succ]
theorem dgt_lt {B : Nat} (hB : 2 ≤ B) (n k : Nat) : dgt B n k < B := Nat.mod_lt _ (by omega)
theorem pow_pos' {B : Nat} (hB : 2 ≤ B) (k : Nat) : 0 < B ^ k := Nat.pow_pos (by omega)
theorem pow_succ' (B k : Nat) : B ^ (k + 1) = B ^ k * B := Nat.pow_succ _ _

theorem dlenF_spec {B : Nat} (hB : 2 ≤ B) : ∀ (f n : Nat), n ≤ f → n < B ^ dlenF B f n ∧ ∀ L, n < B ^ L → dlenF B f n ≤ L
  | 0, n, h => by
      obtain rfl : n = 0 := by omega
      simp [dlenF]
  | f + 1, n, h => by
      by_cases h0 : n = 0
      · subst h0; simp [dlenF]
      · have hd : n / B < n := Nat.div_lt_self (by omega) (by omega)
        obtain ⟨h1, h2⟩ := dlenF_spec hB f (n / B) (by omega)
        simp only [dlenF, h0, if_false]
        refine ⟨?_, fun L hL => ?_⟩
        · rw [pow_succ']
          exact (Nat.div_lt_iff_lt_mul (by omega)).1 h1
        · cases L with
          | zero => simp at hL; omega
          | succ L =>
            rw [pow_succ'] at hL
            have := h2 L ((Nat.div_lt_iff_lt_mul (by omega)).2 hL)
            omega
theorem lt_dlen {B : Nat} (hB : 2 ≤ B) (n : Nat) : n < B ^ dlen B n := (dlenF_spec hB n n (Nat.le_refl _)).1
theorem dlen_le {B : Nat} (hB : 2 ≤ B) {n L : Nat} (h : n < B ^ L) : dlen B n ≤ L := (dlenF_spec hB n n (Nat.le_refl _)).2 L h
theorem dlen_zero (B : Nat) : dlen B 0 = 0 := rfl
theorem le_of_dlen {B : Nat} (hB : 2 ≤ B) {n i : Nat} (h : i < dlen B n) : B ^ i ≤ n := by
  by_cases e : B ^ i ≤ n
  · exact e
  · have := dlen_le hB (show n < B ^ i by omega); omega
theorem lt_of_dlen {B : Nat} (hB : 2 ≤ B) {n i : Nat} (h : dlen B n ≤ i) : n < B ^ i := Nat.lt_of_lt_of_le (lt_dlen hB n) (Nat.pow_le_pow_right (by omega) h)
theorem dlen_eq {B : Nat} (hB : 2 ≤ B) {n L : Nat} (h : n < B ^ L) (k : L = 0 ∨ B ^ (L - 1) ≤ n) : dlen B n = L := by
  have h1 := dlen_le hB h
  rcases k with rfl | k
  · omega
  · by_cases e : dlen B n ≤ L - 1
    · have := lt_of_dlen hB e; omega
    · omega
theorem dlen_mono {B : Nat} (hB : 2 ≤ B) {m n : Nat} (h : m ≤ n) : dlen B m ≤ dlen B n := dlen_le hB (Nat.lt_of_le_of_lt h (lt_dlen hB n))
theorem dgt_big {B n k : Nat} (h : n < B ^ k) : dgt B n k = 0 := by simp [dgt, Nat.div_eq_of_lt h]
theorem mod_step (B n k : Nat) : n % B ^ (k + 1) = n % B ^ k + B ^ k * dgt B n k := by
  rw [dgt, Nat.mod_pow_succ]
/-- the highest digit is not 0 -/
theorem dgt_top {B : Nat} (hB : 2 ≤ B) {n : Nat} (h : 0 < dlen B n) : dgt B n (dlen B n - 1) ≠ 0 := by
  have h1 := le_of_dlen hB (show dlen B n - 1 < dlen B n by omega)
  have h2 := lt_dlen hB n
  have e : dlen B n = (dlen B n - 1) + 1 := by omega
  rw [e, pow_succ'] at h2
  generalize dlen B n - 1 = k at h1 h2 ⊢
  have hp := pow_pos' hB k
  have q1 : 1 ≤ n / B ^ k := (Nat.le_div_iff_mul_le hp).2 (by omega)
  have q2 : n / B ^ k < B := (Nat.div_lt_iff_lt_mul hp).2 (by rw [Nat.mul_comm] at h2; exact h2)
  rw [dgt, Nat.mod_eq_of_lt q2]; omega

/-! ### what a list of digits is worth -/
def val (B : Nat) : List Nat → Nat
  | [] => 0
  | x :: r => x + B * val B r
theorem val_append (B : Nat) (a b : List Nat) : val B (a ++ b) = val B a + B ^ a.length * val B b := by
  induction a with
  | nil => simp [val]
  | cons x r ih => simp only [List.cons_append, val, ih, List.length_cons, pow_succ', Nat.mul_add]; rw [Nat.add_assoc]; congr 2; rw [← Nat.mul_assoc, Nat.mul_comm B]
theorem val_snoc (B : Nat) (a : List Nat) (x : Nat) : val B (a ++ [x]) = val B a + B ^ a.length * x := by rw [val_append]; simp [val]
theorem val_dgs {B : Nat} (n L : Nat) : val B (dgs B n L) = n % B ^ L := by
  induction L with
  | zero => simp [dgs, val, Nat.mod_one]
  | succ L ih => rw [dgs_succ, val_snoc, ih, dgs_length, mod_step]
theorem val_lt {B : Nat} (hB : 2 ≤ B) (l : List Nat) (h : ∀ x ∈ l, x < B) : val B l < B ^ l.length := by
  induction l with
  | nil => simp [val]
  | cons x r ih =>
    have h1 := h x (by simp)
    have h2 := ih (fun y hy => h y (by simp [hy]))
    simp only [val, List.length_cons, pow_succ']
    have : B * (val B r + 1) ≤ B * B ^ r.length := Nat.mul_le_mul_left _ h2
    rw [Nat.mul_add, Nat.mul_one] at this
    rw [Nat.mul_comm (B ^ r.length)]; omega
/-- a list of digits is told by its length and by what it is worth -/
theorem eq_dgs {B : Nat} (hB : 2 ≤ B) (l : List Nat) (h : ∀ x ∈ l, x < B) : l = dgs B (val B l) l.length := by
  induction l with
  | nil => simp [dgs]
  | cons x r ih =>
    have h1 := h x (by simp)
    have h2 := ih (fun y hy => h y (by simp [hy]))
    have e0 : dgt B (val B (x :: r)) 0 = x := by simp [dgt, val, Nat.add_mul_mod_self_left, Nat.mod_eq_of_lt h1]
    have e1 : ∀ k, dgt B (val B (x :: r)) (k + 1) = dgt B (val B r) k := by
      intro k
      have : val B (x :: r) / B ^ (k + 1) = val B r / B ^ k := by
        rw [pow_succ', Nat.mul_comm, ← Nat.div_div_eq_div_mul]
        simp only [val]
        rw [Nat.add_mul_div_left _ _ (by omega), Nat.div_eq_of_lt h1, Nat.zero_add]
      simp only [dgt, this]
    have e2 : dgs B (val B (x :: r)) (r.length + 1) = x :: dgs B (val B r) r.length := by
      simp only [dgs]
      rw [List.range_succ_eq_map, List.map_cons, e0, List.map_map]
      congr 1
      apply List.map_congr_left
      intro k _
      exact e1 k
    rw [List.length_cons, e2, ← h2]
theorem val_set {B : Nat} (l : List Nat) (i x : Nat) (h : i < l.length) : val B (l.set i x) + B ^ i * l.getD i 0 = val B l + B ^ i * x := by
  induction l generalizing i with
  | nil => simp at h
  | cons y r ih =>
    cases i with
    | zero => simp [val, List.getD]; omega
    | succ i =>
      have := ih i (by simpa using h)
      simp only [List.set_cons_succ, val, List.getD_cons_succ, pow_succ']
      have e : ∀ z, B ^ i * B * z = B * (B ^ i * z) := fun z => by rw [Nat.mul_comm (B ^ i) B, Nat.mul_assoc]
      rw [e, e, Nat.add_assoc, ← Nat.mul_add, this, Nat.mul_add, Nat.add_assoc]

/-! ### carries -/
theorem split_at {B : Nat} (hB : 2 ≤ B) {n r q k : Nat} (h : n = r + B ^ k * q) (hr : r < B ^ k) : n / B ^ k = q ∧ n % B ^ k = r := by
  have hp := pow_pos' hB k
  subst h
  exact ⟨by rw [Nat.add_mul_div_left _ _ hp, Nat.div_eq_of_lt hr, Nat.zero_add], by rw [Nat.add_mul_mod_self_left, Nat.mod_eq_of_lt hr]⟩
theorem div_split (B n k : Nat) : n / B ^ k = dgt B n k + B * (n / B ^ (k + 1)) := by
  rw [pow_succ', ← Nat.div_div_eq_div_mul, dgt]
  exact (Nat.mod_add_div _ _).symm
/-- the carry of a sum -/
def carry (B a b i : Nat) : Nat := (a % B ^ i + b % B ^ i) / B ^ i
theorem carry_zero (B a b : Nat) : carry B a b 0 = 0 := by simp [carry, Nat.mod_one]
theorem sum_step {B : Nat} (hB : 2 ≤ B) (a b i : Nat) : dgt B (a + b) i = (carry B a b i + dgt B a i + dgt B b i) % B ∧ carry B a b (i + 1) = (carry B a b i + dgt B a i + dgt B b i) / B := by
  have hp := pow_pos' hB i
  have ea := Nat.mod_add_div a (B ^ i)
  have eb := Nat.mod_add_div b (B ^ i)
  have er := Nat.mod_add_div (a % B ^ i + b % B ^ i) (B ^ i)
  have hr := Nat.mod_lt (a % B ^ i + b % B ^ i) hp
  have hc : (a % B ^ i + b % B ^ i) / B ^ i = carry B a b i := rfl
  rw [hc] at er
  constructor
  · have e : a + b = (a % B ^ i + b % B ^ i) % B ^ i + B ^ i * (carry B a b i + a / B ^ i + b / B ^ i) := by
      rw [Nat.mul_add, Nat.mul_add]; omega
    have h := (split_at hB e hr).1
    simp only [dgt]
    rw [h, Nat.add_mod_mod, Nat.add_right_comm _ (a / B ^ i % B), Nat.add_mod_mod, Nat.add_right_comm]
  · have e : a % B ^ (i + 1) + b % B ^ (i + 1) = (a % B ^ i + b % B ^ i) % B ^ i + B ^ i * (carry B a b i + dgt B a i + dgt B b i) := by
      rw [mod_step, mod_step, Nat.mul_add, Nat.mul_add]; omega
    have h := (split_at hB e hr).1
    show (a % B ^ (i + 1) + b % B ^ (i + 1)) / B ^ (i + 1) = _
    rw [pow_succ', ← Nat.div_div_eq_div_mul]
    rw [pow_succ'] at h
    rw [h]
theorem carry_le {B : Nat} (hB : 2 ≤ B) (a b i : Nat) : carry B a b i ≤ 1 := by
  have hp := pow_pos' hB i
  have h1 := Nat.mod_lt a hp
  have h2 := Nat.mod_lt b hp
  have : carry B a b i < 2 := (Nat.div_lt_iff_lt_mul hp).2 (by omega)
  omega
/-- the borrow of a difference -/
def borrow (B a b i : Nat) : Nat := if a % B ^ i < b % B ^ i then 1 else 0
theorem borrow_zero (B a b : Nat) : borrow B a b 0 = 0 := by simp [borrow, Nat.mod_one]
theorem less_step {B : Nat} (hB : 2 ≤ B) {a b : Nat} (h : b ≤ a) (i : Nat) :
    (dgt B a i < dgt B b i + borrow B a b i → borrow B a b (i + 1) = 1 ∧ dgt B (a - b) i + dgt B b i + borrow B a b i = dgt B a i + B) ∧
    (dgt B b i + borrow B a b i ≤ dgt B a i → borrow B a b (i + 1) = 0 ∧ dgt B (a - b) i + dgt B b i + borrow B a b i = dgt B a i) := by
  have hp := pow_pos' hB i
  have ha := Nat.mod_lt a hp
  have hb := Nat.mod_lt b hp
  have da := dgt_lt hB a i
  have db := dgt_lt hB b i
  -- the rest behind place i, and what lies above it
  have hbo : borrow B a b i ≤ 1 := by unfold borrow; split <;> omega
  have hr : ∃ r, r < B ^ i ∧ r + b % B ^ i = a % B ^ i + B ^ i * borrow B a b i := by
    unfold borrow
    generalize a % B ^ i = x at ha ⊢
    generalize b % B ^ i = y at hb ⊢
    split
    · exact ⟨x + B ^ i - y, by omega, by omega⟩
    · exact ⟨x - y, by omega, by omega⟩
  obtain ⟨r, hr1, hr2⟩ := hr
  have ea := Nat.mod_add_div a (B ^ i)
  have eb := Nat.mod_add_div b (B ^ i)
  have es := Nat.mod_add_div (a - b) (B ^ i)
  have hab : (a - b) + b = a := by omega
  have hq : a / B ^ i = (a - b) / B ^ i + b / B ^ i + borrow B a b i ∧ (a - b) % B ^ i = r := by
    have hs := Nat.mod_lt (a - b) hp
    -- r + P (..) on both sides
    have e : (a - b) % B ^ i + B ^ i * ((a - b) / B ^ i + b / B ^ i + borrow B a b i) = r + B ^ i * (a / B ^ i) := by
      rw [Nat.mul_add, Nat.mul_add]; omega
    have h1 := split_at hB (n := r + B ^ i * (a / B ^ i)) e.symm hs
    have h2 := split_at hB (n := r + B ^ i * (a / B ^ i)) rfl hr1
    exact ⟨by rw [← h2.1, h1.1], by rw [← h1.2, h2.2]⟩
  have e1 := div_split B a i
  have e2 := div_split B b i
  have e3 := div_split B (a - b) i
  have ds := dgt_lt hB (a - b) i
  have m1 := mod_step B a i
  have m2 := mod_step B b i
  have key : dgt B a i + B * (a / B ^ (i + 1)) = dgt B (a - b) i + dgt B b i + borrow B a b i + B * ((a - b) / B ^ (i + 1) + b / B ^ (i + 1)) := by
    rw [Nat.mul_add]; omega
  have hcmp : ∀ x y : Nat, x ≤ y → B ^ i * x ≤ B ^ i * y := fun x y h => Nat.mul_le_mul_left _ h
  refine ⟨fun hlt => ?_, fun hge => ?_⟩
  · constructor
    · have : a % B ^ (i + 1) < b % B ^ (i + 1) := by
        rw [m1, m2]
        have h1 := hcmp (dgt B a i + 1) (dgt B b i + borrow B a b i) (by omega)
        rw [Nat.mul_add, Nat.mul_add, Nat.mul_one] at h1
        omega
      simp [borrow, this]
    · have hB0 : 0 < B := by omega
      have hmod := congrArg (· % B) key
      simp only [Nat.add_mul_mod_self_left] at hmod
      rw [Nat.mod_eq_of_lt da] at hmod
      have hs : dgt B (a - b) i + dgt B b i + borrow B a b i < 2 * B := by omega
      have := Nat.mod_add_div (dgt B (a - b) i + dgt B b i + borrow B a b i) B
      have hd : (dgt B (a - b) i + dgt B b i + borrow B a b i) / B ≤ 1 := by
        have : (dgt B (a - b) i + dgt B b i + borrow B a b i) / B < 2 := (Nat.div_lt_iff_lt_mul hB0).2 (by omega)
        omega
      rcases Nat.le_one_iff_eq_zero_or_eq_one.1 hd with e | e <;> rw [e] at this <;> omega
  · constructor
    · have : ¬ a % B ^ (i + 1) < b % B ^ (i + 1) := by
        rw [m1, m2]
        have h1 := hcmp (dgt B b i + borrow B a b i) (dgt B a i) hge
        rw [Nat.mul_add] at h1
        omega
      simp [borrow, this]
    · have hB0 : 0 < B := by omega
      have hmod := congrArg (· % B) key
      simp only [Nat.add_mul_mod_self_left] at hmod
      rw [Nat.mod_eq_of_lt da] at hmod
      have := Nat.mod_add_div (dgt B (a - b) i + dgt B b i + borrow B a b i) B
      have hd : (dgt B (a - b) i + dgt B b i + borrow B a b i) / B ≤ 1 := by
        have : (dgt B (a - b) i + dgt B b i + borrow B a b i) / B < 2 := (Nat.div_lt_iff_lt_mul hB0).2 (by omega)
        omega
      rcases Nat.le_one_iff_eq_zero_or_eq_one.1 hd with e | e <;> rw [e] at this <;> omega

/-- a digit of a quotient, from the top: y may be any number above 0 -/
theorem short_step {B : Nat} (hB : 2 ≤ B) (a i : Nat) {y : Nat} (hy : 0 < y) :
    ((a / B ^ (i + 1) % y) * B + dgt B a i) / y = dgt B (a / y) i ∧ ((a / B ^ (i + 1) % y) * B + dgt B a i) % y = a / B ^ i % y := by
  have e := div_split B a i
  have d := dgt_lt hB a i
  have hq := Nat.mod_add_div (a / B ^ (i + 1)) y
  have hm := Nat.mod_lt (a / B ^ (i + 1)) hy
  generalize a / B ^ (i + 1) = Q at e hq hm ⊢
  have e2 : a / B ^ i = (Q % y * B + dgt B a i) + y * (B * (Q / y)) := by
    rw [e]
    have h1 : B * Q = B * (Q % y) + B * (y * (Q / y)) := by rw [← Nat.mul_add, hq]
    have h2 : B * (y * (Q / y)) = y * (B * (Q / y)) := Nat.mul_left_comm _ _ _
    rw [h1, h2, Nat.mul_comm B (Q % y)]; omega
  have hlt : (Q % y * B + dgt B a i) / y < B := by
    apply (Nat.div_lt_iff_lt_mul hy).2
    have : (Q % y + 1) * B ≤ y * B := Nat.mul_le_mul_right _ hm
    rw [Nat.add_mul, Nat.one_mul] at this
    rw [Nat.mul_comm B y]; omega
  constructor
  · have : a / y / B ^ i = (Q % y * B + dgt B a i) / y + B * (Q / y) := by
      rw [Nat.div_div_eq_div_mul, Nat.mul_comm, ← Nat.div_div_eq_div_mul, e2, Nat.add_mul_div_left _ _ hy]
    rw [show dgt B (a / y) i = a / y / B ^ i % B from rfl, this, Nat.add_mul_mod_self_left, Nat.mod_eq_of_lt hlt]
  · rw [e2, Nat.add_mul_mod_self_left]
/-! ### comparing from the top -/
theorem cmp_step {B : Nat} (hB : 2 ≤ B) {a b i : Nat} (h : a / B ^ (i + 1) = b / B ^ (i + 1)) :
    (dgt B a i = dgt B b i → a / B ^ i = b / B ^ i) ∧ (dgt B a i < dgt B b i → a < b) := by
  have e1 := div_split B a i
  have e2 := div_split B b i
  refine ⟨fun e => by rw [e1, e2, e, h], fun e => ?_⟩
  have hl : a / B ^ i < b / B ^ i := by rw [e1, e2, h]; omega
  by_cases c : a < b
  · exact c
  · have := Nat.div_le_div_right (c := B ^ i) (show b ≤ a by omega); omega
theorem lt_of_dlen_lt {B : Nat} (hB : 2 ≤ B) {a b : Nat} (h : dlen B a < dlen B b) : a < b :=
  Nat.lt_of_lt_of_le (lt_dlen hB a) (le_of_dlen hB h)
/-! ### cutting zeros off the top -/
theorem take_step {B : Nat} (l : List Nat) (k : Nat) (h : k < l.length) : val B (l.take (k + 1)) = val B (l.take k) + B ^ k * l.getD k 0 := by
  rw [List.take_succ_eq_append_getElem h, val_snoc, List.length_take, Nat.min_eq_left (by omega)]
  simp [List.getD, h]
theorem cut_done {B : Nat} (hB : 2 ≤ B) (l : List Nat) (h : ∀ x ∈ l, x < B) (k : Nat) (hk : k ≤ l.length) (hv : val B (l.take k) = val B l) (ht : k = 0 ∨ l.getD (k - 1) 0 ≠ 0) :
    dlen B (val B l) = k ∧ l.take k = dgs B (val B l) k := by
  have hlen : (l.take k).length = k := by rw [List.length_take]; omega
  have hx : ∀ x ∈ l.take k, x < B := fun x hx => h x (List.mem_of_mem_take hx)
  have h1 := eq_dgs hB (l.take k) hx
  have h2 := val_lt hB (l.take k) hx
  rw [hlen, hv] at h1 h2
  refine ⟨dlen_eq hB h2 ?_, h1⟩
  rcases ht with h0 | h0
  · exact Or.inl h0
  · rcases Nat.eq_zero_or_pos k with h3 | h3
    · exact Or.inl h3
    · right
      have h4 := take_step (B := B) l (k - 1) (by omega)
      rw [show k - 1 + 1 = k by omega, hv] at h4
      have : B ^ (k - 1) * 1 ≤ B ^ (k - 1) * l.getD (k - 1) 0 := Nat.mul_le_mul_left _ (by omega)
      omega

/-! ### how many digits a sum has -/
theorem plus_done {B : Nat} (hB : 2 ≤ B) {a b k : Nat} (h1 : dlen B a ≤ k) (h2 : dlen B b ≤ k) (h3 : carry B a b k = 0) : dlen B (a + b) ≤ k := by
  have ha := lt_of_dlen hB h1
  have hb := lt_of_dlen hB h2
  have hp := pow_pos' hB k
  apply dlen_le hB
  rw [carry, Nat.mod_eq_of_lt ha, Nat.mod_eq_of_lt hb] at h3
  by_cases c : a + b < B ^ k
  · exact c
  · have : 1 ≤ (a + b) / B ^ k := (Nat.le_div_iff_mul_le hp).2 (by omega)
    omega
theorem plus_more {B : Nat} (hB : 2 ≤ B) {a b k : Nat} (h : k < dlen B a ∨ k < dlen B b ∨ 0 < carry B a b k) : k < dlen B (a + b) := by
  have hp := pow_pos' hB k
  have hle : B ^ k ≤ a + b := by
    rcases h with h | h | h
    · have := le_of_dlen hB h; omega
    · have := le_of_dlen hB h; omega
    · have h1 := (Nat.le_div_iff_mul_le hp).1 (show 1 ≤ (a % B ^ k + b % B ^ k) / B ^ k from h)
      have h2 := Nat.mod_le a (B ^ k)
      have h3 := Nat.mod_le b (B ^ k)
      omega
  by_cases c : k < dlen B (a + b)
  · exact c
  · have := lt_of_dlen hB (show dlen B (a + b) ≤ k by omega); omega
theorem plus_len {B : Nat} (hB : 2 ≤ B) {a b M : Nat} (ha : dlen B a ≤ M) (hb : dlen B b ≤ M) : dlen B (a + b) ≤ M + 1 := by
  have h1 := lt_of_dlen hB ha
  have h2 := lt_of_dlen hB hb
  apply dlen_le hB
  rw [pow_succ']
  have : B ^ M * 2 ≤ B ^ M * B := Nat.mul_le_mul_left _ hB
  omega
end Go.Proofs.Ytjkekhiceadpgaa
