/- What FnFractions' calls hand back at two small fractions. Conditions: bounds on the numbers. -/
import Derived.Test.YtcbpbhaimjhelaaGreatDoorP6f
import Derived.Test.YtcbpbhaimjhelaaGreatDoorReadG
import Derived.Test.YtcbpbhaimjhelaaGreatDoorLt
import Derived.Laws.Strings
namespace Go.Proofs.YtcbpbhaimjhelaaGreatDoor
open Go.RowKit Go.Deep
set_option linter.unusedVariables false
set_option linter.unusedSimpArgs false

theorem lt9 {n : Nat} (h : n ≤ 1000000000) : n < B9 ^ 9 := small_9 (by omega)
theorem lt20 {n : Nat} (h : n ≤ 1000000000) : n < B9 ^ 20 := up20 (lt9 h)
theorem cmpI_scale (a b k : Nat) (h : 0 < k) : cmpI (a * k) (b * k) = cmpI a b := by
  unfold cmpI
  have e1 : (a * k < b * k) ↔ (a < b) := Nat.mul_lt_mul_right h
  have e2 : (b * k < a * k) ↔ (b < a) := Nat.mul_lt_mul_right h
  simp only [e1, e2]
theorem cmp_low {N D N' D' : Nat} (h1 : 0 < D) (h2 : 0 < D') (b1 : N < B9 ^ 20) (b2 : D < B9 ^ 20) (b3 : N' < B9 ^ 20) (b4 : D' < B9 ^ 20) :
    cmpV (FrP N D).1 (FrP N D).2 (FrP N' D').1 (FrP N' D').2 = cmpI (N * D') (N' * D) ∧ cmpC (FrP N D).1 (FrP N D).2 (FrP N' D').1 (FrP N' D').2 = 0 := by
  have ok : (frOk (FrP N D).1 (FrP N D).2 && frOk (FrP N' D').1 (FrP N' D').2) = true := by rw [FrP_ok h1 b1 b2, FrP_ok h2 b3 b4]; rfl
  refine ⟨?_, by unfold cmpC; rw [if_pos ok]⟩
  unfold cmpV
  rw [if_pos ok, (FrP_vals N D).1, (FrP_vals N D).2, (FrP_vals N' D').1, (FrP_vals N' D').2]
  obtain ⟨g, n, d, g0, d0, e1, e2, c, _, f1, f2⟩ := low_parts (N := N) h1
  obtain ⟨g', n', d', g0', d0', e1', e2', c', _, f1', f2'⟩ := low_parts (N := N') h2
  rw [f1, f2, f1', f2', e1, e2, e1', e2']
  have x1 : n * g * (d' * g') = (n * d') * (g * g') := by grind
  have x2 : n' * g' * (d * g) = (n' * d) * (g * g') := by grind
  rw [x1, x2, cmpI_scale _ _ _ (Nat.mul_pos g0 g0')]
theorem cmpI_swap (a b : Nat) : cmpI b a = - cmpI a b := by
  unfold cmpI
  rcases Nat.lt_trichotomy a b with h | h | h
  · rw [if_neg (by omega), if_pos h, if_pos h]; rfl
  · subst h; simp
  · rw [if_pos h, if_neg (by omega), if_pos h]
/-- the numerator is 0 just if its text is -/
theorem FrP_zero (D : Nat) (h : 0 < D) : (FrP 0 D).1 = numT 0 := by
  unfold FrP; simp
theorem FrP_zero_iff {N D : Nat} (h : 0 < D) : (FrP N D).1 = numT 0 ↔ N = 0 := by
  obtain ⟨g, n, d, g0, d0, e1, e2, c, _, f1, f2⟩ := low_parts (N := N) h
  unfold FrP
  rw [f1]
  constructor
  · intro hh
    have := numT_inj hh
    subst this
    rw [e1, Nat.zero_mul]
  · intro hh
    rw [hh] at e1
    have : n = 0 := by
      rcases Nat.mul_eq_zero.1 e1.symm with h | h
      · exact h
      · omega
    rw [this]

theorem numT0 : (numT 0).toList = [48] := by decide +kernel
theorem text_no {a b : ByteArray} (h : a ≠ b) : (a.toList == b.toList) = false := by
  rw [Bool.eq_false_iff]; intro hc
  apply h
  have := eq_of_beq hc
  rw [Go.ByteArray.toList_eq, Go.ByteArray.toList_eq] at this
  cases a; cases b
  simp only [ByteArray.mk.injEq]
  exact Array.toList_inj.1 this

theorem text_two {a1 a2 b1 b2 : ByteArray} (h : (a1, a2) ≠ (b1, b2)) : ¬ a1.toList = b1.toList ∨ ¬ a2.toList = b2.toList := by
  by_cases h1 : a1 = b1
  · by_cases h2 : a2 = b2
    · exact absurd (by rw [h1, h2]) h
    · exact Or.inr fun e => by have := text_no h2; rw [e] at this; simp at this
  · exact Or.inl fun e => by have := text_no h1; rw [e] at this; simp at this
/-- all that the law's calls hand back -/
structure FF (a b s p t c l h q f : ByteArray × ByteArray) (c8 c11 n m : Int) : Prop where

  add_i : ∀ W, Tab10 W → Calls Tryz.prog 11 #[.agg #[.string a.1, .string a.2], .agg #[.string b.1, .string b.2]] W fun e w' => e = .returned (.tuple #[.agg #[.string s.1, .string s.2], .int .i64 (0)]) ∧ Below W.heap.size W w'
  mul_i : ∀ W, Tab10 W → Calls Tryz.prog 12 #[.agg #[.string a.1, .string a.2], .agg #[.string b.1, .string b.2]] W fun e w' => e = .returned (.tuple #[.agg #[.string p.1, .string p.2], .int .i64 (0)]) ∧ Below W.heap.size W w'
  add_s : ∀ W, Calls Tryz.prog 13 #[.agg #[.string a.1, .string a.2], .agg #[.string b.1, .string b.2]] W fun e w' => e = .returned (.tuple #[.agg #[.string s.1, .string s.2], .int .i64 (0)]) ∧ Below W.heap.size W w'
  mul_s : ∀ W, Calls Tryz.prog 14 #[.agg #[.string a.1, .string a.2], .agg #[.string b.1, .string b.2]] W fun e w' => e = .returned (.tuple #[.agg #[.string p.1, .string p.2], .int .i64 (0)]) ∧ Below W.heap.size W w'
  less_sb : ∀ W, Tab10 W → Calls Tryz.prog 16 #[.agg #[.string s.1, .string s.2], .agg #[.string b.1, .string b.2]] W fun e w' => e = .returned (.tuple #[.agg #[.string a.1, .string a.2], .int .i64 (0)]) ∧ Below W.heap.size W w'
  div_pb : ∀ W, Tab10 W → Calls Tryz.prog 17 #[.agg #[.string p.1, .string p.2], .agg #[.string b.1, .string b.2]] W fun e w' => e = .returned (.tuple #[.agg #[.string q.1, .string q.2], .int .i64 (c8)]) ∧ Below W.heap.size W w'
  less_ab : ∀ W, Tab10 W → Calls Tryz.prog 16 #[.agg #[.string a.1, .string a.2], .agg #[.string b.1, .string b.2]] W fun e w' => e = .returned (.tuple #[.agg #[.string f.1, .string f.2], .int .i64 (c11)]) ∧ Below W.heap.size W w'
  add_at : ∀ W, Tab10 W → Calls Tryz.prog 11 #[.agg #[.string a.1, .string a.2], .agg #[.string t.1, .string t.2]] W fun e w' => e = .returned (.tuple #[.agg #[.string c.1, .string c.2], .int .i64 (0)]) ∧ Below W.heap.size W w'
  mul_cb : ∀ W, Tab10 W → Calls Tryz.prog 12 #[.agg #[.string c.1, .string c.2], .agg #[.string b.1, .string b.2]] W fun e w' => e = .returned (.tuple #[.agg #[.string l.1, .string l.2], .int .i64 (0)]) ∧ Below W.heap.size W w'
  mul_tb : ∀ W, Tab10 W → Calls Tryz.prog 12 #[.agg #[.string t.1, .string t.2], .agg #[.string b.1, .string b.2]] W fun e w' => e = .returned (.tuple #[.agg #[.string h.1, .string h.2], .int .i64 (0)]) ∧ Below W.heap.size W w'
  add_ph : ∀ W, Tab10 W → Calls Tryz.prog 11 #[.agg #[.string p.1, .string p.2], .agg #[.string h.1, .string h.2]] W fun e w' => e = .returned (.tuple #[.agg #[.string l.1, .string l.2], .int .i64 (0)]) ∧ Below W.heap.size W w'
  val_s : ∀ W, Calls Tryz.prog 15 #[.agg #[.string s.1, .string s.2]] W fun e w' => e = .returned (.bool true) ∧ Below W.heap.size W w'
  val_p : ∀ W, Calls Tryz.prog 15 #[.agg #[.string p.1, .string p.2]] W fun e w' => e = .returned (.bool true) ∧ Below W.heap.size W w'
  cmp_ab : ∀ W, Calls Tryz.prog 18 #[.agg #[.string a.1, .string a.2], .agg #[.string b.1, .string b.2]] W fun e w' => e = .returned (.tuple #[.int .i64 n, .int .i64 0]) ∧ Below W.heap.size W w'
  cmp_ba : ∀ W, Calls Tryz.prog 18 #[.agg #[.string b.1, .string b.2], .agg #[.string a.1, .string a.2]] W fun e w' => e = .returned (.tuple #[.int .i64 m, .int .i64 0]) ∧ Below W.heap.size W w'
  f13 : ∀ W, Calls Tryz.prog 19 #[.int .i64 1, .int .i64 3] W fun e w' => e = .returned (.agg #[.string t.1, .string t.2]) ∧ Below W.heap.size W w'
  txt_i : ∀ W, Calls Tryz.prog 20 #[.agg #[.string s.1, .string s.2]] W fun e w' => e = .returned (.string (frText s.1 s.2)) ∧ Below W.heap.size W w'
  txt_s : ∀ W, Calls Tryz.prog 21 #[.agg #[.string s.1, .string s.2]] W fun e w' => e = .returned (.string (frText s.1 s.2)) ∧ Below W.heap.size W w'
  quo : (c8 = 4 ∧ (b.1.toList == [48]) = true) ∨ (c8 = 0 ∧ (b.1.toList == [48]) = false ∧ q = a)
  ord : (n = -1 ∧ m = 1 ∧ c11 = 4 ∧ a ≠ b) ∨ (n = 0 ∧ m = 0 ∧ c11 = 0 ∧ a = b) ∨ (n = 1 ∧ m = -1 ∧ c11 = 0 ∧ a ≠ b)

set_option maxHeartbeats 2000000 in
theorem f6of_any (w : World) : Calls Tryz.prog 19 #[.int .i64 1, .int .i64 3] w fun e w' => e = .returned (.agg #[.string (FrP 1 3).1, .string (FrP 1 3).2]) ∧ Below w.heap.size w w' := by
  have h := Lib.hid (fun W => call_eq (FractionOf_spec 1 3 W (by omega) (by omega)) (ofR_low (N := 1) (D := 3) (by omega) (lt20 (by omega)) (lt20 (by omega))))
  simp only at h
  generalize (FrP 1 3).1 = x at *
  generalize (FrP 1 3).2 = y at *
  go_enter Tryz.func19, Tryz.ntmps19
  go_wp2_with fail
  (with_reducible refine (h.out _).mono ?_)
  rintro e w1 ⟨rfl, b1⟩
  have b0 := below1 w (.cells #[.string ⟨#[]⟩, .string ⟨#[]⟩] 25)
  have hZ := ((Blk.new w #[.string ⟨#[]⟩, .string ⟨#[]⟩] 25).keep b1 (by simp)).alloc (.cells #[.string x, .string y] 25)
  have hB := Lib.hid (below_wt (below_wt b0 b1) (below1 w1 (.cells #[.string x, .string y] 25)))
  have hne : w.heap.size ≠ w1.heap.size := Nat.ne_of_lt (by have := b1.size; simp at this; omega)
  obtain ⟨c0, c1⟩ := (⟨hZ.cell 0, hZ.cell 1⟩ : _ ∧ _)
  have f0 := hZ.frozen 0
  have f1 := hZ.frozen 1
  simp only [List.getElem?_toArray, List.getElem?_cons_zero, List.getElem?_cons_succ] at c0 c1
  clear hZ b1 b0
  go_wp2
  refine bodyPost_ret (v := .agg #[.string x, .string y]) (by simp [results, Tryz.results19, go_sem, c0, c1]) rfl ?_
  exact ⟨rfl, (hB.out.setCell (p := ⟨w.heap.size, 0, none⟩) (Nat.le_refl _) _).setCell (p := ⟨w.heap.size, 1, none⟩) (Nat.le_refl _) _⟩


theorem ff_make (N D M E : Nat) (hD : 0 < D) (hE : 0 < E) (hN : N ≤ 24) (hD2 : D ≤ 12) (hM : M ≤ 24) (hE2 : E ≤ 12) :
    ∃ s p t c l h q f c8 c11 n m, FF (FrP N D) (FrP M E) s p t c l h q f c8 c11 n m := by
  have x1 : N * E ≤ 288 := Nat.le_trans (Nat.mul_le_mul hN hE2) (by decide)
  have x2 : M * D ≤ 288 := Nat.le_trans (Nat.mul_le_mul hM hD2) (by decide)
  have x3 : D * E ≤ 144 := Nat.le_trans (Nat.mul_le_mul hD2 hE2) (by decide)
  have x4 : N * M ≤ 576 := Nat.le_trans (Nat.mul_le_mul hN hM) (by decide)
  have pDE : 0 < D * E := Nat.mul_pos hD hE
  have A1 := FrP_add (N := N) (D := D) (N' := M) (D' := E) hD hE (lt9 (by omega)) (lt9 (by omega)) (lt9 (by omega)) (lt9 (by omega))
  have A2 := FrP_mul (N := N) (D := D) (N' := M) (D' := E) hD hE (lt9 (by omega)) (lt9 (by omega)) (lt9 (by omega)) (lt9 (by omega))
  have A3 := FrP_less (N := N * E + M * D) (D := D * E) (N' := M) (D' := E) pDE hE (lt9 (by omega)) (lt9 (by omega)) (lt9 (by omega)) (lt9 (by omega)) (by
    have : M * (D * E) = M * D * E := by grind
    rw [this, Nat.add_mul]; omega)
  have A3' : FrP ((N * E + M * D) * E - M * (D * E)) (D * E * E) = FrP N D := by
    rw [FrP_iff (Nat.mul_pos pDE hE) hD]
    have : (N * E + M * D) * E - M * (D * E) = N * E * E := by
      have h1 : (N * E + M * D) * E = N * E * E + M * (D * E) := by grind
      rw [h1]; omega
    rw [this]; grind
  rw [A3'] at A3
  have A7 := FrP_add (N := N) (D := D) (N' := 1) (D' := 3) hD (by omega) (lt9 (by omega)) (lt9 (by omega)) (lt9 (by omega)) (lt9 (by omega))
  have x5 : (N * 3 + 1 * D) * M ≤ 2016 := Nat.le_trans (Nat.mul_le_mul (show N * 3 + 1 * D ≤ 84 by omega) hM) (by decide)
  have x6 : D * 3 * E ≤ 432 := Nat.le_trans (Nat.mul_le_mul (show D * 3 ≤ 36 by omega) hE2) (by decide)
  have A8 := FrP_mul (N := N * 3 + 1 * D) (D := D * 3) (N' := M) (D' := E) (by omega) hE (lt9 (by omega)) (lt9 (by omega)) (lt9 (by omega)) (lt9 (by omega))
  have A9 := FrP_mul (N := 1) (D := 3) (N' := M) (D' := E) (by omega) hE (lt9 (by omega)) (lt9 (by omega)) (lt9 (by omega)) (lt9 (by omega))
  have A10 := FrP_add (N := N * M) (D := D * E) (N' := 1 * M) (D' := 3 * E) pDE (by omega) (lt9 (by omega)) (lt9 (by omega)) (lt9 (by omega)) (lt9 (by omega))
  have A10' : FrP (N * M * (3 * E) + 1 * M * (D * E)) (D * E * (3 * E)) = FrP ((N * 3 + 1 * D) * M) (D * 3 * E) := by
    rw [FrP_iff (Nat.mul_pos pDE (by omega)) (Nat.mul_pos (by omega) hE)]; grind
  rw [A10'] at A10
  obtain ⟨C1, C2⟩ := cmp_low (N := N) (D := D) (N' := M) (D' := E) hD hE (lt20 (by omega)) (lt20 (by omega)) (lt20 (by omega)) (lt20 (by omega))
  obtain ⟨C3, C4⟩ := cmp_low (N := M) (D := E) (N' := N) (D' := D) hE hD (lt20 (by omega)) (lt20 (by omega)) (lt20 (by omega)) (lt20 (by omega))
  have okS : frOk (FrP (N * E + M * D) (D * E)).1 (FrP (N * E + M * D) (D * E)).2 = true := FrP_ok pDE (lt20 (by omega)) (lt20 (by omega))
  have okP : frOk (FrP (N * M) (D * E)).1 (FrP (N * M) (D * E)).2 = true := FrP_ok pDE (lt20 (by omega)) (lt20 (by omega))
  have Dv : ∃ q : ByteArray × ByteArray, ∃ c8 : Int, (∀ W, Tab10 W → Calls Tryz.prog 17 #[.agg #[.string (FrP (N * M) (D * E)).1, .string (FrP (N * M) (D * E)).2], .agg #[.string (FrP M E).1, .string (FrP M E).2]] W fun e w' => e = .returned (.tuple #[.agg #[.string q.1, .string q.2], .int .i64 c8]) ∧ Below W.heap.size W w') ∧
      ((c8 = 4 ∧ ((FrP M E).1.toList == [48]) = true) ∨ (c8 = 0 ∧ ((FrP M E).1.toList == [48]) = false ∧ q = FrP N D)) := by
    rcases Nat.eq_zero_or_pos M with h | h
    · subst h
      exact ⟨(⟨#[]⟩, ⟨#[]⟩), 4, fun W ht => call_eq (DivFraction_impl _ _ _ _ W ht) (FrP_div_no pDE hE (lt9 (by omega)) (lt9 (by omega)) (lt9 (by omega)) _ _), Or.inl ⟨rfl, by rw [FrP_zero E hE, numT0]; rfl⟩⟩
    · have e : FrP (N * M * E) (D * E * M) = FrP N D := by
        rw [FrP_iff (Nat.mul_pos pDE h) hD]; grind
      refine ⟨FrP N D, 0, fun W ht => ?_, Or.inr ⟨rfl, ?_, rfl⟩⟩
      · have := FrP_div (N := N * M) (D := D * E) (N' := M) (D' := E) pDE hE h (lt9 (by omega)) (lt9 (by omega)) (lt9 (by omega)) (lt9 (by omega))
        rw [e] at this
        exact call_eq (DivFraction_impl _ _ _ _ W ht) this
      · rw [← numT0]
        exact text_no fun hh => by have := (FrP_zero_iff (N := M) hE).1 hh; omega
  have Od : ∃ f : ByteArray × ByteArray, ∃ c11 n m : Int, (∀ W, Tab10 W → Calls Tryz.prog 16 #[.agg #[.string (FrP N D).1, .string (FrP N D).2], .agg #[.string (FrP M E).1, .string (FrP M E).2]] W fun e w' => e = .returned (.tuple #[.agg #[.string f.1, .string f.2], .int .i64 c11]) ∧ Below W.heap.size W w') ∧
      cmpI (N * E) (M * D) = n ∧ cmpI (M * D) (N * E) = m ∧ ((n = -1 ∧ m = 1 ∧ c11 = 4 ∧ FrP N D ≠ FrP M E) ∨ (n = 0 ∧ m = 0 ∧ c11 = 0 ∧ FrP N D = FrP M E) ∨ (n = 1 ∧ m = -1 ∧ c11 = 0 ∧ FrP N D ≠ FrP M E)) := by
    rcases Nat.lt_trichotomy (N * E) (M * D) with h | h | h
    · exact ⟨(⟨#[]⟩, ⟨#[]⟩), 4, -1, 1, fun W ht => call_eq (LessFraction_impl _ _ _ _ W ht) (FrP_less_no hD hE (lt9 (by omega)) (lt9 (by omega)) (lt9 (by omega)) (lt9 (by omega)) h _ _), cmpI_lt h, cmpI_gt h, Or.inl ⟨rfl, rfl, rfl, fun hh => by have := (FrP_iff hD hE).1 hh; omega⟩⟩
    · refine ⟨FrP (N * E - M * D) (D * E), 0, 0, 0, fun W ht => call_eq (LessFraction_impl _ _ _ _ W ht) (FrP_less hD hE (lt9 (by omega)) (lt9 (by omega)) (lt9 (by omega)) (lt9 (by omega)) (by omega)), cmpI_eq h, cmpI_eq h.symm, Or.inr (Or.inl ⟨rfl, rfl, rfl, (FrP_iff hD hE).2 h⟩)⟩
    · refine ⟨FrP (N * E - M * D) (D * E), 0, 1, -1, fun W ht => call_eq (LessFraction_impl _ _ _ _ W ht) (FrP_less hD hE (lt9 (by omega)) (lt9 (by omega)) (lt9 (by omega)) (lt9 (by omega)) (by omega)), cmpI_gt h, cmpI_lt h, Or.inr (Or.inr ⟨rfl, rfl, rfl, fun hh => by have := (FrP_iff hD hE).1 hh; omega⟩)⟩
  obtain ⟨q, c8, hq, hq2⟩ := Dv
  obtain ⟨f, c11, n, m, hf, hn, hm, ho⟩ := Od
  refine ⟨FrP (N * E + M * D) (D * E), FrP (N * M) (D * E), FrP 1 3, FrP (N * 3 + 1 * D) (D * 3), FrP ((N * 3 + 1 * D) * M) (D * 3 * E), FrP (1 * M) (3 * E), q, f, c8, c11, n, m, ?_⟩
  exact {
    add_i := fun W ht => call_eq (AddFraction_impl _ _ _ _ W ht) A1
    mul_i := fun W ht => call_eq (MulFraction_impl _ _ _ _ W ht) A2
    add_s := fun W => call_eq (AddFraction_spec _ _ _ _ W) A1
    mul_s := fun W => call_eq (MulFraction_spec _ _ _ _ W) A2
    less_sb := fun W ht => call_eq (LessFraction_impl _ _ _ _ W ht) A3
    div_pb := hq
    less_ab := hf
    add_at := fun W ht => call_eq (AddFraction_impl _ _ _ _ W ht) A7
    mul_cb := fun W ht => call_eq (MulFraction_impl _ _ _ _ W ht) A8
    mul_tb := fun W ht => call_eq (MulFraction_impl _ _ _ _ W ht) A9
    add_ph := fun W ht => call_eq (AddFraction_impl _ _ _ _ W ht) A10
    val_s := fun W => (ValidFraction_impl _ _ W).mono fun _ _ ⟨h1, h2⟩ => ⟨by rw [h1, okS], h2⟩
    val_p := fun W => (ValidFraction_impl _ _ W).mono fun _ _ ⟨h1, h2⟩ => ⟨by rw [h1, okP], h2⟩
    cmp_ab := fun W => (CompareFraction_impl _ _ _ _ W).mono fun _ _ ⟨h1, h2⟩ => ⟨by rw [h1, C1, C2, hn], h2⟩
    cmp_ba := fun W => (CompareFraction_impl _ _ _ _ W).mono fun _ _ ⟨h1, h2⟩ => ⟨by rw [h1, C3, C4, hm], h2⟩
    f13 := f6of_any
    txt_i := fun W => FractionText_impl _ _ W
    txt_s := fun W => FractionText_spec _ _ W
    quo := hq2
    ord := ho }
end Go.Proofs.YtcbpbhaimjhelaaGreatDoor
