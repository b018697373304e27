/- Small fractions that laws draw (P6Fraction, f6of), and what the operations make of fractions in lowest terms. Conditions: bounds on the numbers. -/
import Derived.Test.YtcbpbhaimjhelaaGreatDoorOpsG
import Derived.Test.YtcbpbhaimjhelaaGreatDoorChainH
namespace Go.Proofs.YtcbpbhaimjhelaaGreatDoor
open Go.RowKit Go.Deep
set_option linter.unusedVariables false
set_option linter.unusedSimpArgs false

theorem ofR_low {N D : Nat} (h : 0 < D) (hN : N < B9 ^ 20) (hD : D < B9 ^ 20) : ofR N D = ((FrP N D).1, (FrP N D).2, 0) := by
  have l1 : N / Nat.gcd N D ≤ N := Nat.div_le_self _ _
  have l2 : D / Nat.gcd N D ≤ D := Nat.div_le_self _ _
  obtain ⟨a, b, c⟩ := told_yes (numT_le20 (Nat.lt_of_le_of_lt l1 hN)) (numT_le20 (Nat.lt_of_le_of_lt l2 hD))
  rw [ofR_yes h, a, b, c]; rfl
/-- a contract's value, opened -/
theorem call_eq {f : FuncId} {args : Array Value} {w : World} {x y : ByteArray × ByteArray × Int} (h : Calls Tryz.prog f args w fun e w' => e = .returned (opV x) ∧ Below w.heap.size w w') (e : x = y) :
    Calls Tryz.prog f args w fun e w' => e = .returned (.tuple #[.agg #[.string y.1, .string y.2.1], .int .i64 y.2.2]) ∧ Below w.heap.size w w' := by
  subst e; exact h
theorem small20 {n : Nat} (h : n ≤ 1000) : n < B9 ^ 20 := Nat.lt_of_le_of_lt h (by decide +kernel)
theorem small_9 {n : Nat} (h : n ≤ 1000000000000) : n < B9 ^ 9 := Nat.lt_of_le_of_lt h (by decide +kernel)

set_option maxRecDepth 100000 in
set_option maxHeartbeats 400000 in
theorem l01Chance_any (w : World) (B b n : Nat) (hs : Src w B b n) (hn : n + 2 ≤ 1000000) :
    Calls Tryz.prog 47 #[.pointer (some ⟨b, 0, none⟩)] w fun e w' => ∃ N D : Nat, e = .returned (.agg #[.string (FrP N D).1, .string (FrP N D).2]) ∧ 0 < D ∧ D ≤ 12 ∧ N ≤ 24 ∧ Src w' B b (n + 2) ∧ Below B w w' := by
  have hBb := hs.le
  have hbl := hs.lt
  have hZ0 := Blk.new w #[.string ⟨#[]⟩, .string ⟨#[]⟩] 25
  have b0 := (below1 w (.cells #[.string ⟨#[]⟩, .string ⟨#[]⟩] 25)).mono (show B ≤ w.heap.size by omega)
  go_enter Tryz.func47, Tryz.ntmps47
  go_wp2_with fail
  (with_reducible refine (draw_any _ B b n 12 (hs.step (below1 _ _)) (by omega) (by omega) (by omega)).mono ?_)
  rintro e w1 ⟨r, rfl, r0, r1, s1, t1, z1⟩
  obtain ⟨r, rfl⟩ : ∃ k : Nat, r = k := ⟨r.toNat, by omega⟩
  have hZ1 := hZ0.touch t1 (by right; omega)
  have B1 := Lib.hid (b0.trans (t1.below' B hBb (by simp; omega)))
  replace z1 := Lib.hid z1
  clear t1 hZ0 b0 hs
  have hsz1 := B1.out.size
  go_wp2_with fail
  (with_reducible refine (draw_any _ B b (n + 1) (2 * (1 + (r : Int)) + 1) s1 (by omega) (by omega) (by omega)).mono ?_)
  rintro e w2 ⟨q, rfl, q0, q1, s2, t2, z2⟩
  obtain ⟨q, rfl⟩ : ∃ k : Nat, q = k := ⟨q.toNat, by omega⟩
  have hZ2 := hZ1.touch t2 (by right; omega)
  have B2 := Lib.hid (B1.out.trans (t2.below' B hBb (by have := B1.out.size; omega)))
  replace z2 := Lib.hid z2
  clear t2 hZ1 B1
  have hf := (call_eq (y := ((FrP q (r + 1)).1, (FrP q (r + 1)).2, 0)) (FractionOf_spec (q : Int) (1 + (r : Int)) w2 (by omega) (by omega)) (by rw [show 1 + (r : Int) = ((r + 1 : Nat) : Int) by omega]; exact ofR_low (N := q) (D := r + 1) (by omega) (small20 (by omega)) (small20 (by omega))))
  have hq : q ≤ 24 := by omega
  have hr : r + 1 ≤ 12 := by omega
  simp only at hf
  obtain ⟨fn, hfn⟩ : ∃ x, x = (FrP q (r + 1)).1 := ⟨_, rfl⟩
  obtain ⟨fd, hfd⟩ : ∃ x, x = (FrP q (r + 1)).2 := ⟨_, rfl⟩
  rw [← hfn, ← hfd] at hf
  replace hf := Lib.hid hf
  replace hfn := Lib.hid hfn
  replace hfd := Lib.hid hfd
  go_wp2_with fail
  (with_reducible refine hf.out.mono ?_)
  rintro e w3 ⟨rfl, b3⟩
  have s3 := s2.step b3
  have bx := below1 w3 (.cells #[.string fn, .string fd] 25)
  have hZ3 := (hZ2.keep b3 hZ2.lt).alloc (.cells #[.string fn, .string fd] 25)
  have hX := Blk.new w3 #[.string fn, .string fd] 25
  have hne : w.heap.size ≠ w3.heap.size := Nat.ne_of_lt (by have := (hZ2.keep b3 hZ2.lt).lt; exact this)
  obtain ⟨z0, z1⟩ := (⟨hZ3.cell 0, hZ3.cell 1⟩ : _ ∧ _)
  have f0 := hZ3.frozen 0
  have f1 := hZ3.frozen 1
  simp only [List.getElem?_toArray, List.getElem?_cons_zero, List.getElem?_cons_succ] at z0 z1
  have hlast := Lib.hid (fun x y => (show Src _ B b (n + 2) from ((s3.step bx).set (c := w.heap.size) (i := 0) (by omega) (by omega) x).set (c := w.heap.size) (i := 1) (by omega) (by omega) y))
  have hB := Lib.hid (fun x y => ((((B2.out.trans (b3.mono (by have := B2.out.size; omega))).trans (bx.mono (by have := B2.out.size; have := b3.size; omega))).setCell (p := ⟨w.heap.size, 0, none⟩) (by simp only; omega) x).setCell (p := ⟨w.heap.size, 1, none⟩) (by simp only; omega) y))
  clear s2 s3 b3 bx hZ2 hZ3 hX B2 hf s1
  go_wp2
  refine bodyPost_ret (v := .agg #[.string fn, .string fd]) (by simp [results, Tryz.results47, go_sem, z0, z1]) rfl ?_
  exact ⟨q, r + 1, by rw [hfn.out, hfd.out], by omega, hr, hq, hlast.out _ _, hB.out _ _⟩

set_option maxRecDepth 100000 in
set_option maxHeartbeats 400000 in
theorem P6Fraction_any (v : Value) (len : Nat) (w : World) (hv : Bytes w v len) (hl : len ≤ 4096) :
    Calls Tryz.prog 10 #[v] w fun e w' => ∃ N D : Nat, e = .returned (.agg #[.string (FrP N D).1, .string (FrP N D).2]) ∧ 0 < D ∧ D ≤ 12 ∧ N ≤ 24 ∧ Below w.heap.size w w' := by
  obtain ⟨a, cap, rfl⟩ : ∃ a cap, v = .slice a len cap := by obtain ⟨_, a, cap, h, _⟩ := hv; exact ⟨a, cap, h⟩
  have hZ := Blk.new w #[.string ⟨#[]⟩, .string ⟨#[]⟩] 25
  have b0 := below1 w (.cells #[.string ⟨#[]⟩, .string ⟨#[]⟩] 25)
  go_enter Tryz.func10, Tryz.ntmps10
  go_wp2_with fail
  (with_reducible refine (l00From_any _ len _ (hv.keep b0) hl).mono ?_)
  rintro e w1 ⟨rfl, s1, b1, z1⟩
  replace z1 := Lib.hid z1
  have hZ1 := hZ.keep b1 hZ.lt
  simp only [World.size_alloc] at s1
  go_wp2_with fail
  (with_reducible refine (l01Chance_any w1 _ _ 0 s1 (by omega)).mono ?_)
  rintro e w2 ⟨N, D, rfl, hD, hD2, hN, s2, b2⟩
  have hZ2 := hZ1.keep b2 (by simp)
  have hB2 := Lib.hid (b0.trans ((b1.mono (by simp)).trans (b2.mono (by omega))))
  obtain ⟨c0, c1⟩ := (⟨hZ2.cell 0, hZ2.cell 1⟩ : _ ∧ _)
  have f0 := hZ2.frozen 0
  have f1 := hZ2.frozen 1
  simp only [List.getElem?_toArray, List.getElem?_cons_zero, List.getElem?_cons_succ] at c0 c1
  obtain ⟨fn, hfn⟩ : ∃ x, x = (FrP N D).1 := ⟨_, rfl⟩
  obtain ⟨fd, hfd⟩ : ∃ x, x = (FrP N D).2 := ⟨_, rfl⟩
  rw [← hfn, ← hfd]
  replace hfn := Lib.hid hfn
  replace hfd := Lib.hid hfd
  clear s1 s2 b1 b2 hZ hZ1 hZ2 b0
  go_wp2
  refine bodyPost_ret (v := .agg #[.string fn, .string fd]) (by simp [results, Tryz.results10, go_sem, c0, c1]) rfl ?_
  exact ⟨N, D, by rw [hfn.out, hfd.out], hD, hD2, hN, (hB2.out.setCell (p := ⟨w.heap.size, 0, none⟩) (Nat.le_refl _) _).setCell (p := ⟨w.heap.size, 1, none⟩) (Nat.le_refl _) _⟩
end Go.Proofs.YtcbpbhaimjhelaaGreatDoor
