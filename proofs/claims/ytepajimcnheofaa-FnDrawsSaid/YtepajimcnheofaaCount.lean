/- How many draws lead to a place: as many as the weight says. Bytes that came in. Conditions: the row has no negative numbers. -/
import Derived.Test.YtepajimcnheofaaDraw2
namespace Go.Proofs.Ytepajimcnheofaa
open Go.ChangeShapes Go.WideShapes Go.ChangeAt Go.RowKit Go.Deep Go.Joins
set_option linter.unusedVariables false

theorem isPick_pk {row : List Int} {d : Int} (hd0 : 0 ≤ d) (hd : d < row.sum) : IsPick row d (pk row d) := by
  have hne : 0 < row.length := by
    rcases row with _ | ⟨x, r⟩
    · simp at hd; omega
    · simp
  cases e : (List.range row.length).find? (fun k => decide (d < (row.take (k + 1)).sum)) with
  | none =>
    have := List.find?_eq_none.1 e (row.length - 1) (by simp; omega)
    rw [show row.length - 1 + 1 = row.length by omega, List.take_length] at this
    simp at this; omega
  | some k =>
    have hp : pk row d = k := by rw [pk, e]; rfl
    rw [hp]
    rw [List.find?_range_eq_some] at e
    obtain ⟨h1, h2, h3⟩ := e
    refine ⟨by simpa using h2, fun j hj => ?_, by simpa using h1⟩
    have := h3 j hj
    simp at this; omega
/-- the sum before a place -/
def pre (row : List Int) (t : Nat) : Int := (row.take t).sum
theorem pre_zero (row : List Int) : pre row 0 = 0 := by simp [pre]
theorem pre_succ {row : List Int} {t : Nat} (h : t < row.length) : pre row (t + 1) = pre row t + row.getD t 0 := sum_take_succ row t h
theorem pre_le {row : List Int} (h0 : ∀ x ∈ row, 0 ≤ x) {a b : Nat} (h : a ≤ b) (hb : b ≤ row.length) : pre row a ≤ pre row b := by
  induction b with
  | zero => obtain rfl : a = 0 := by omega
            exact Int.le_refl _
  | succ b ih =>
    by_cases e : a = b + 1
    · subst e; exact Int.le_refl _
    · have := ih (by omega) (by omega)
      rw [pre_succ (by omega)]
      have := h0 _ (getD_mem (d := 0) (show b < row.length by omega))
      omega
theorem pick_pre {row : List Int} {d : Int} {p : Nat} (h : IsPick row d p) (hd0 : 0 ≤ d) : pre row p ≤ d ∧ d < pre row (p + 1) := by
  obtain ⟨h1, h2, h3⟩ := h
  refine ⟨?_, h3⟩
  cases p with
  | zero => rw [pre_zero]; exact hd0
  | succ p => exact h2 p (by omega)
/-- how many of the first k draws lead to each place -/
def cl (row : List Int) (k : Int) : List Int := (List.range row.length).map fun t => min k (pre row (t + 1)) - min k (pre row t)
theorem cl_length (row : List Int) (k : Int) : (cl row k).length = row.length := by simp [cl]
theorem cl_getD {row : List Int} {t : Nat} (h : t < row.length) (k : Int) : (cl row k).getD t 0 = min k (pre row (t + 1)) - min k (pre row t) := by simp [cl, List.getD, h]
theorem cl_zero {row : List Int} (h0 : ∀ x ∈ row, 0 ≤ x) : cl row 0 = List.replicate row.length 0 := by
  apply List.ext_getElem
  · simp [cl]
  · intro i h1 h2
    simp only [cl, List.length_map, List.length_range] at h1
    have a := pre_le h0 (show 0 ≤ i by omega) (by omega : i ≤ row.length)
    have b := pre_le h0 (show 0 ≤ i + 1 by omega) (by omega : i + 1 ≤ row.length)
    rw [pre_zero] at a b
    simp [cl]; omega
theorem cl_all {row : List Int} (h0 : ∀ x ∈ row, 0 ≤ x) : cl row row.sum = row := by
  apply List.ext_getElem
  · simp [cl]
  · intro i h1 h2
    have e : pre row row.length = row.sum := by simp [pre]
    have a := pre_le h0 (show i ≤ row.length by omega) (Nat.le_refl _)
    have b := pre_le h0 (show i + 1 ≤ row.length by omega) (Nat.le_refl _)
    have c := pre_succ h2
    rw [e] at a b
    have g : row.getD i 0 = row[i] := by simp [List.getD, h2]
    rw [g] at c
    simp [cl]; omega
theorem cl_step {row : List Int} (h0 : ∀ x ∈ row, 0 ≤ x) {d : Int} (hd0 : 0 ≤ d) (hd : d < row.sum) : (cl row d).set (pk row d) ((cl row d).getD (pk row d) 0 + 1) = cl row (d + 1) := by
  have hp := isPick_pk hd0 hd
  have hq := pick_pre hp hd0
  have hl := hp.1
  generalize pk row d = p at hp hq hl ⊢
  rw [cl_getD hl]
  apply List.ext_getElem
  · simp [cl]
  · intro i h1 h2
    simp only [cl, List.length_map, List.length_range] at h2
    simp only [List.getElem_set, cl, List.getElem_map, List.getElem_range]
    by_cases e : p = i
    · subst e; simp only [if_true]; omega
    · rw [if_neg e]
      by_cases l : p < i
      · have a := pre_le h0 (show p + 1 ≤ i by omega) (by omega)
        have b := pre_le h0 (show i ≤ i + 1 by omega) (by omega)
        omega
      · have a := pre_le h0 (show i + 1 ≤ p by omega) (by omega)
        have b := pre_le h0 (show i ≤ i + 1 by omega) (by omega)
        omega
theorem cl_bd {row : List Int} {t : Nat} (h : t < row.length) {k : Int} (hk : 0 ≤ k) (hk6 : k ≤ 60) (h0 : ∀ x ∈ row, 0 ≤ x) : 0 ≤ (cl row k).getD t 0 ∧ (cl row k).getD t 0 ≤ 60 := by
  rw [cl_getD h]
  have a := pre_le h0 (show t ≤ t + 1 by omega) (by omega)
  have b := pre_le h0 (show 0 ≤ t by omega) (by omega : t ≤ row.length)
  rw [pre_zero] at b
  omega

set_option maxRecDepth 100000 in
theorem open_code {H : Type} {enc : TypeId × Value → H} {W : World} {base b0 : Nat} {held : Bool} {v : Value} {d : DataW H} {p : List MemPlace}
    (hv : Value.okWide Try.prog W .any base 46 v) (h : DataW.Trod enc Try.prog W b0 (fun _ => true) held 46 v d p) : ∃ len, Bytes W v len := by
  obtain ⟨sa, sl, sc, rfl⟩ := okWide_slice Try.underlying46 hv
  obtain ⟨m, h⟩ := h
  rcases open_ints Try.underlying46 Try.underlying5 (by kernel_rfl) h with ⟨hcs, _⟩ | ⟨a, len, cap, zs, hcs, _, hl, hm, hz, _, hc, hw⟩
  · simp [Value.cells] at hcs
    obtain ⟨rfl, rfl, rfl⟩ := hcs
    exact ⟨0, by simp [maxLen], none, 0, rfl, fun i hi => by omega⟩
  · simp [Value.cells] at hcs
    obtain ⟨rfl, rfl, rfl⟩ := hcs
    simp only [if_true] at hz
    refine ⟨sl, by omega, some a, sc, rfl, fun i hi => ?_⟩
    have ci := hc i (by omega)
    have hs := spot_none hc (by omega)
    have hwf := hw _ (getD_mem (d := 0) (show i < zs.length by omega))
    rw [hs, add_plain] at ci
    exact ⟨a.block, a.off, zs.getD i 0, by rw [← hs], ci, (bounds_u8 hwf).1, (bounds_u8 hwf).2⟩
end Go.Proofs.Ytepajimcnheofaa
