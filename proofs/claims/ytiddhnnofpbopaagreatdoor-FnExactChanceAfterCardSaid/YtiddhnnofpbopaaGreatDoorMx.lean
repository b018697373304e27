/- Sums of products and mixtures of fractions: both sides' ways agree. No conditions. -/
import Derived.Test.YtiddhnnofpbopaaGreatDoorWf
import Derived.Test.YtiddhnnofpbopaaGreatDoorRsG
namespace Go.Proofs.YtiddhnnofpbopaaGreatDoor
open Go.RowKit Go.Deep
set_option linter.unusedVariables false
set_option linter.unusedSimpArgs false

/-- sums with one denominator and without -/
theorem sums_any (l : List (Nat × Nat)) (D : Nat) (hdv : ∀ i, i < l.length → (l.getD i (0, 0)).2 ∣ D) : ∀ k, k ≤ l.length → (sumR (l.take k)).1 * D = (sumR (l.take k)).2 * sumL (comN D (l.take k))
  | 0, _ => by simp [sumR, sumL, comN]
  | k + 1, h => by
    have ih := sums_any l D hdv k (by omega)
    have hdv := Nat.mul_div_cancel' (hdv k (by omega))
    rw [sumR_take l k (by omega), comN_take D l k (by omega)]
    have e : sumL (comN D (l.take k) ++ [(l.getD k (0, 0)).1 * (D / (l.getD k (0, 0)).2)]) = sumL (comN D (l.take k)) + (l.getD k (0, 0)).1 * (D / (l.getD k (0, 0)).2) := by simp [sumL, List.foldl_append]
    rw [e]
    simp only
    generalize D / (l.getD k (0, 0)).2 = r at *
    generalize sumL (comN D (l.take k)) = A at *
    generalize (l.getD k (0, 0)).2 = d at *
    generalize (l.getD k (0, 0)).1 = n at *
    generalize (sumR (l.take k)).1 = s at *
    generalize (sumR (l.take k)).2 = t at *
    subst hdv
    grind
/-- products, one by one -/
def prodP (a b : List (Nat × Nat)) : List (Nat × Nat) := (List.range a.length).map fun i => ((a.getD i (0, 0)).1 * (b.getD i (0, 0)).1, (a.getD i (0, 0)).2 * (b.getD i (0, 0)).2)
def prodN (a b : List Nat) : List Nat := (List.range a.length).map fun i => a.getD i 0 * b.getD i 0
theorem prodP_length (a b : List (Nat × Nat)) : (prodP a b).length = a.length := by simp [prodP]
theorem prodN_length (a b : List Nat) : (prodN a b).length = a.length := by simp [prodN]
theorem prodP_get (a b : List (Nat × Nat)) (i : Nat) (h : i < a.length) : (prodP a b).getD i (0, 0) = ((a.getD i (0, 0)).1 * (b.getD i (0, 0)).1, (a.getD i (0, 0)).2 * (b.getD i (0, 0)).2) := by simp [prodP, List.getD, h]
theorem prodN_get (a b : List Nat) (i : Nat) (h : i < a.length) : (prodN a b).getD i 0 = a.getD i 0 * b.getD i 0 := by simp [prodN, List.getD, h]
theorem prodP_take (a b : List (Nat × Nat)) (k : Nat) (h : k < a.length) : (prodP a b).take (k + 1) = (prodP a b).take k ++ [((a.getD k (0, 0)).1 * (b.getD k (0, 0)).1, (a.getD k (0, 0)).2 * (b.getD k (0, 0)).2)] := by
  rw [List.take_add_one, List.getElem?_eq_getElem (by rw [prodP_length]; exact h)]
  congr 1
  simp [prodP]
theorem prodN_take (a b : List Nat) (k : Nat) (h : k < a.length) : (prodN a b).take (k + 1) = (prodN a b).take k ++ [a.getD k 0 * b.getD k 0] := by
  rw [List.take_add_one, List.getElem?_eq_getElem (by rw [prodN_length]; exact h)]
  congr 1
  simp [prodN]
theorem sumL_add (l : List Nat) (x : Nat) : sumL (l ++ [x]) = sumL l + x := by simp [sumL, List.foldl_append]
theorem com_at {l : List (Nat × Nat)} (hd : ∀ i, i < l.length → 0 < (l.getD i (0, 0)).2) (i : Nat) (h : i < l.length) : ∃ r, comD l = (l.getD i (0, 0)).2 * r ∧ (comN (comD l) l).getD i 0 = (l.getD i (0, 0)).1 * r := by
  obtain ⟨r, hr⟩ := den_dvd l i h
  refine ⟨r, hr, ?_⟩
  rw [comN_get _ _ _ h, hr, Nat.mul_div_cancel_left _ (hd i h)]
theorem prods_same (a b : List (Nat × Nat)) (hl : a.length = b.length) (ha : ∀ i, i < a.length → 0 < (a.getD i (0, 0)).2) (hb : ∀ i, i < b.length → 0 < (b.getD i (0, 0)).2) :
    lowP (sumR (prodP a b)) = lowP (sumL (prodN (comN (comD a) a) (comN (comD b) b)), comD a * comD b) := by
  have pa := comD_pos a ha a.length (Nat.le_refl _)
  have pb := comD_pos b hb b.length (Nat.le_refl _)
  rw [List.take_length] at pa pb
  have hdp : ∀ i, i < (prodP a b).length → 0 < ((prodP a b).getD i (0, 0)).2 := by
    intro i hi
    rw [prodP_length] at hi
    rw [prodP_get a b i hi]
    exact Nat.mul_pos (ha i hi) (hb i (by omega))
  have hdv : ∀ i, i < (prodP a b).length → ((prodP a b).getD i (0, 0)).2 ∣ comD a * comD b := by
    intro i hi
    rw [prodP_length] at hi
    rw [prodP_get a b i hi]
    exact Nat.mul_dvd_mul (den_dvd a i hi) (den_dvd b i (by omega))
  have h1 := sums_any (prodP a b) (comD a * comD b) hdv (prodP a b).length (Nat.le_refl _)
  have h2 := sumR_pos (prodP a b) hdp (prodP a b).length (Nat.le_refl _)
  rw [List.take_length] at h1 h2
  have e : comN (comD a * comD b) (prodP a b) = prodN (comN (comD a) a) (comN (comD b) b) := by
    apply List.ext_getElem
    · rw [comN_length, prodP_length, prodN_length, comN_length]
    · intro i i1 i2
      rw [comN_length, prodP_length] at i1
      have g1 : (comN (comD a * comD b) (prodP a b)).getD i 0 = (prodN (comN (comD a) a) (comN (comD b) b)).getD i 0 := by
        rw [comN_get _ _ _ (by rw [prodP_length]; exact i1), prodN_get _ _ _ (by rw [comN_length]; exact i1), prodP_get a b i i1]
        obtain ⟨r, r1, r2⟩ := com_at ha i i1
        obtain ⟨s, s1, s2⟩ := com_at hb i (by omega)
        rw [r2, s2]
        simp only
        have p1 := ha i i1
        have p2 := hb i (by omega)
        rw [r1, s1]
        generalize (a.getD i (0, 0)).2 = d at *
        generalize (b.getD i (0, 0)).2 = f at *
        rw [show d * r * (f * s) = (d * f) * (r * s) by grind, Nat.mul_div_cancel_left _ (Nat.mul_pos p1 p2)]
        grind
      rw [List.getD, List.getD, List.getElem?_eq_getElem (by rw [comN_length, prodP_length]; exact i1), List.getElem?_eq_getElem i2] at g1
      simpa using g1
  rw [e] at h1
  exact lowP_same h2 (Nat.mul_pos pa pb) (by rw [h1, Nat.mul_comm])

/-- a mixture, as the project has it -/
def mixP (a b : List (Nat × Nat)) (x e : Nat) : List (Nat × Nat) := (List.range a.length).map fun i => ((a.getD i (0, 0)).1 * x * ((b.getD i (0, 0)).2 * (1 * e)) + (b.getD i (0, 0)).1 * (1 * e - x * 1) * ((a.getD i (0, 0)).2 * e), (a.getD i (0, 0)).2 * e * ((b.getD i (0, 0)).2 * (1 * e)))
/-- and as the specification has it -/
def mixN (A B : List Nat) (DA DB x e : Nat) : List Nat := (List.range A.length).map fun i => x * (A.getD i 0 * DB) + (e - x) * (B.getD i 0 * DA)
theorem mixP_length (a b : List (Nat × Nat)) (x e : Nat) : (mixP a b x e).length = a.length := by simp [mixP]
theorem mixN_length (A B : List Nat) (DA DB x e : Nat) : (mixN A B DA DB x e).length = A.length := by simp [mixN]
theorem mixP_get (a b : List (Nat × Nat)) (x e i : Nat) (h : i < a.length) : (mixP a b x e).getD i (0, 0) = ((a.getD i (0, 0)).1 * x * ((b.getD i (0, 0)).2 * (1 * e)) + (b.getD i (0, 0)).1 * (1 * e - x * 1) * ((a.getD i (0, 0)).2 * e), (a.getD i (0, 0)).2 * e * ((b.getD i (0, 0)).2 * (1 * e))) := by simp [mixP, List.getD, h]
theorem mixN_get (A B : List Nat) (DA DB x e i : Nat) (h : i < A.length) : (mixN A B DA DB x e).getD i 0 = x * (A.getD i 0 * DB) + (e - x) * (B.getD i 0 * DA) := by simp [mixN, List.getD, h]
theorem mixP_take (a b : List (Nat × Nat)) (x e k : Nat) (h : k < a.length) : (mixP a b x e).take (k + 1) = (mixP a b x e).take k ++ [((a.getD k (0, 0)).1 * x * ((b.getD k (0, 0)).2 * (1 * e)) + (b.getD k (0, 0)).1 * (1 * e - x * 1) * ((a.getD k (0, 0)).2 * e), (a.getD k (0, 0)).2 * e * ((b.getD k (0, 0)).2 * (1 * e)))] := by
  rw [List.take_add_one, List.getElem?_eq_getElem (by rw [mixP_length]; exact h)]
  congr 1
  simp [mixP]
theorem mixN_take (A B : List Nat) (DA DB x e k : Nat) (h : k < A.length) : (mixN A B DA DB x e).take (k + 1) = (mixN A B DA DB x e).take k ++ [x * (A.getD k 0 * DB) + (e - x) * (B.getD k 0 * DA)] := by
  rw [List.take_add_one, List.getElem?_eq_getElem (by rw [mixN_length]; exact h)]
  congr 1
  simp [mixN]
theorem mix_same (a b : List (Nat × Nat)) (x e : Nat) (he : 0 < e) (hl : a.length = b.length) (ha : ∀ i, i < a.length → 0 < (a.getD i (0, 0)).2) (hb : ∀ i, i < b.length → 0 < (b.getD i (0, 0)).2) :
    ratT (mixP a b x e) = vecT (mixN (comN (comD a) a) (comN (comD b) b) (comD a) (comD b) x e) (e * (comD a * comD b)) ∧ ratC (mixP a b x e) = vecC (mixN (comN (comD a) a) (comN (comD b) b) (comD a) (comD b) x e) (e * (comD a * comD b)) := by
  have pa := comD_pos a ha a.length (Nat.le_refl _)
  have pb := comD_pos b hb b.length (Nat.le_refl _)
  rw [List.take_length] at pa pb
  obtain ⟨v1, v2⟩ := vec_rat (mixN (comN (comD a) a) (comN (comD b) b) (comD a) (comD b) x e) (e * (comD a * comD b))
  rw [v1, v2]
  refine rat_same (low_same_list (by rw [mixP_length, List.length_map, mixN_length, comN_length]) fun i hi => ?_)
  rw [mixP_length] at hi
  have hi2 : i < (mixN (comN (comD a) a) (comN (comD b) b) (comD a) (comD b) x e).length := by rw [mixN_length, comN_length]; exact hi
  have g2 : ((mixN (comN (comD a) a) (comN (comD b) b) (comD a) (comD b) x e).map fun n => (n, e * (comD a * comD b))).getD i (0, 0) = ((mixN (comN (comD a) a) (comN (comD b) b) (comD a) (comD b) x e).getD i 0, e * (comD a * comD b)) := by
    simp [List.getD, List.getElem?_eq_getElem hi2]
  rw [g2, mixP_get a b x e i hi, mixN_get _ _ _ _ _ _ _ (by rw [comN_length]; exact hi)]
  obtain ⟨r, r1, r2⟩ := com_at ha i hi
  obtain ⟨s, s1, s2⟩ := com_at hb i (by omega)
  have p1 := ha i hi
  have p2 := hb i (by omega)
  refine ⟨Nat.mul_pos (Nat.mul_pos p1 he) (Nat.mul_pos p2 (by omega)), Nat.mul_pos he (Nat.mul_pos pa pb), ?_⟩
  simp only
  rw [r2, s2, Nat.one_mul, Nat.mul_one]
  generalize comD a = DA at *
  generalize comD b = DB at *
  generalize (a.getD i (0, 0)).2 = d at *
  generalize (b.getD i (0, 0)).2 = f at *
  generalize (a.getD i (0, 0)).1 = n at *
  generalize (b.getD i (0, 0)).1 = m at *
  generalize e - x = y at *
  subst r1 s1
  grind
end Go.Proofs.YtiddhnnofpbopaaGreatDoor
