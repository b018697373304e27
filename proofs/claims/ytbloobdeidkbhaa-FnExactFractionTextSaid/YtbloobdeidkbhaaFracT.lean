/- FractionText of both sides. Conditions: none. -/
import Derived.Test.YtbloobdeidkbhaaFrac
namespace Go.Proofs.Ytbloobdeidkbhaa
open Go.RowKit Go.Deep
set_option linter.unusedVariables false

def oneT : ByteArray := ⟨#[49]⟩
def slashT : ByteArray := ⟨#[47]⟩
/-- the text of a fraction -/
def frText (n d : ByteArray) : ByteArray := if frOk n d = true then (if (d.toList == [49]) = true then n else n ++ slashT ++ d) else ByteArray.empty
theorem frText_no {n d : ByteArray} (h : frOk n d = false) : frText n d = ByteArray.empty := by unfold frText; rw [if_neg (by rw [h]; decide)]
theorem frText_one {n d : ByteArray} (h : frOk n d = true) (h1 : (d.toList == [49]) = true) : frText n d = n := by unfold frText; rw [if_pos h, if_pos h1]
theorem frText_two {n d : ByteArray} (h : frOk n d = true) (h1 : (d.toList == [49]) = false) : frText n d = n ++ slashT ++ d := by unfold frText; rw [if_pos h, if_neg (by rw [h1]; decide)]
theorem frOk_sizes {n d : ByteArray} (h : frOk n d = true) : n.size ≤ 300 ∧ d.size ≤ 300 := by
  unfold frOk at h
  simp only [Bool.and_eq_true] at h
  exact ⟨(numB_size h.1).2, (numB_size h.2.1).2⟩

set_option maxRecDepth 100000 in
set_option maxHeartbeats 2000000 in
theorem FractionText_spec (n d : ByteArray) (w : World) : Calls Try.prog 14 #[.agg #[.string n, .string d]] w fun e w' => e = .returned (.string (frText n d)) ∧ Below w.heap.size w w' := by
  have hv := Lib.hid (ValidFraction_spec n d (w.alloc (.cells #[.string n, .string d] 26)))
  have B0 := below1 w (.cells #[.string n, .string d] 26)
  have hB := Blk.new w #[.string n, .string d] 26
  have hlt : w.heap.size < (w.alloc (.cells #[.string n, .string d] 26)).heap.size := by simp
  rcases hok : frOk n d with _ | _
  · rw [hok] at hv
    have hf := Lib.hid (frText_no hok)
    clear hok
    go_enter Try.func14, Try.ntmps14
    go_wp2_with fail
    (with_reducible refine hv.out.mono ?_)
    rintro e w1 ⟨rfl, b1⟩
    go_wp2
    go_ret
    exact ⟨by rw [hf.out]; rfl, below_wt B0 b1⟩
  · rw [hok] at hv
    obtain ⟨s1, s2⟩ := frOk_sizes hok
    rcases h1 : (d.toList == [49]) with _ | _
    · have hf := Lib.hid (frText_two hok h1)
      have z1 : ¬ 9223372036854775807 < n.size + slashT.size := by have : slashT.size = 1 := rfl; omega
      have z2 : ¬ 9223372036854775807 < (n ++ slashT).size + d.size := by rw [ByteArray.size_append]; have : slashT.size = 1 := rfl; omega
      unfold slashT at hf z1 z2
      clear hok
      go_enter Try.func14, Try.ntmps14
      go_wp2_with fail
      (with_reducible refine hv.out.mono ?_)
      rintro e w1 ⟨rfl, b1⟩
      have p0 := (hB.keep b1 hlt).cell 0
      have p1 := (hB.keep b1 hlt).cell 1
      simp only [List.getElem?_toArray, List.getElem?_cons_zero, List.getElem?_cons_succ] at p0 p1
      go_wp2
      go_ret
      exact ⟨by rw [hf.out]; rfl, below_wt B0 b1⟩
    · have hf := Lib.hid (frText_one hok h1)
      clear hok
      go_enter Try.func14, Try.ntmps14
      go_wp2_with fail
      (with_reducible refine hv.out.mono ?_)
      rintro e w1 ⟨rfl, b1⟩
      have p0 := (hB.keep b1 hlt).cell 0
      have p1 := (hB.keep b1 hlt).cell 1
      simp only [List.getElem?_toArray, List.getElem?_cons_zero, List.getElem?_cons_succ] at p0 p1
      go_wp2
      go_ret
      exact ⟨by rw [hf.out]; rfl, below_wt B0 b1⟩

set_option maxRecDepth 100000 in
set_option maxHeartbeats 2000000 in
theorem FractionText_impl (n d : ByteArray) (w : World) : Calls Try.prog 15 #[.agg #[.string n, .string d]] w fun e w' => e = .returned (.string (frText n d)) ∧ Below w.heap.size w w' := by
  have hv := Lib.hid (ValidFraction_impl n d (w.alloc (.cells #[.string n, .string d] 26)))
  have B0 := below1 w (.cells #[.string n, .string d] 26)
  have hB := Blk.new w #[.string n, .string d] 26
  have hlt : w.heap.size < (w.alloc (.cells #[.string n, .string d] 26)).heap.size := by simp
  rcases hok : frOk n d with _ | _
  · rw [hok] at hv
    have hf := Lib.hid (frText_no hok)
    clear hok
    go_enter Try.func15, Try.ntmps15
    go_wp2_with fail
    (with_reducible refine hv.out.mono ?_)
    rintro e w1 ⟨rfl, b1⟩
    go_wp2
    go_ret
    exact ⟨by rw [hf.out]; rfl, below_wt B0 b1⟩
  · rw [hok] at hv
    obtain ⟨s1, s2⟩ := frOk_sizes hok
    rcases h1 : (d.toList == [49]) with _ | _
    · have hf := Lib.hid (frText_two hok h1)
      have z1 : ¬ 9223372036854775807 < n.size + slashT.size := by have : slashT.size = 1 := rfl; omega
      have z2 : ¬ 9223372036854775807 < (n ++ slashT).size + d.size := by rw [ByteArray.size_append]; have : slashT.size = 1 := rfl; omega
      unfold slashT at hf z1 z2
      clear hok
      go_enter Try.func15, Try.ntmps15
      go_wp2_with fail
      (with_reducible refine hv.out.mono ?_)
      rintro e w1 ⟨rfl, b1⟩
      have p0 := (hB.keep b1 hlt).cell 0
      have p1 := (hB.keep b1 hlt).cell 1
      simp only [List.getElem?_toArray, List.getElem?_cons_zero, List.getElem?_cons_succ] at p0 p1
      go_wp2
      go_ret
      exact ⟨by rw [hf.out]; rfl, below_wt B0 b1⟩
    · have hf := Lib.hid (frText_one hok h1)
      clear hok
      go_enter Try.func15, Try.ntmps15
      go_wp2_with fail
      (with_reducible refine hv.out.mono ?_)
      rintro e w1 ⟨rfl, b1⟩
      have p0 := (hB.keep b1 hlt).cell 0
      have p1 := (hB.keep b1 hlt).cell 1
      simp only [List.getElem?_toArray, List.getElem?_cons_zero, List.getElem?_cons_succ] at p0 p1
      go_wp2
      go_ret
      exact ⟨by rw [hf.out]; rfl, below_wt B0 b1⟩
end Go.Proofs.Ytbloobdeidkbhaa
