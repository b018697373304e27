/- zeroRatio, oneRatio and sumOfRatios of the project. Conditions: told by the code. -/
import Derived.Test.YtjkekhiceadpgaaRl2
namespace Go.Proofs.Ytjkekhiceadpgaa
open Go.RowKit Go.Deep
set_option linter.unusedVariables false
set_option linter.unusedSimpArgs false

set_option maxRecDepth 100000 in
set_option maxHeartbeats 2000000 in
theorem zeroRatio_any (w : World) : Calls Try.prog 100 #[] w fun e w' => ∃ p q, e = .returned (.agg #[p, q]) ∧ LongI w' p 0 ∧ LongI w' q 1 ∧ Below w.heap.size w w' := by
  have h0 := Lib.hid (fun W => longOf_any 0 W (by omega))
  have h1 := Lib.hid (fun W => longOf_any 1 W (by omega))
  have hZ := Blk.new w #[.slice none 0 0, .slice none 0 0] 97
  have bel := below1 w (.cells #[.slice none 0 0, .slice none 0 0] 97)
  go_enter Try.func100, Try.ntmps100
  go_wp2_with fail
  generalize hW : w.alloc _ = W at *
  clear hW
  refine (h0.out _).mono ?_
  rintro e u1 ⟨p, rfl, hp, b1⟩
  obtain ⟨_, pa, pc, rfl⟩ := hp.len
  have hp' := Lib.hid hp
  clear hp
  go_wp2_with fail
  refine (h1.out _).mono ?_
  rintro e u2 ⟨q, rfl, hq, b2⟩
  obtain ⟨_, qa, qc, rfl⟩ := hq.len
  have b12 := below_wt b1 b2
  have hZ2 := hZ.keep b12 hZ.lt
  have z0 := hZ2.cell 0
  have z1 := hZ2.cell 1
  have f0 := hZ2.frozen 0
  have f1 := hZ2.frozen 1
  simp only [List.getElem?_toArray, List.getElem?_cons_zero, List.getElem?_cons_succ] at z0 z1
  have hf1 := Lib.hid (((hp'.out.keep b2).setBox hZ2 0 (.slice pa (dlen W32 0) pc)).setBox (hZ2.set 0 (.slice pa (dlen W32 0) pc)) 1 (.slice qa (dlen W32 1) qc))
  have hf2 := Lib.hid ((hq.setBox hZ2 0 (.slice pa (dlen W32 0) pc)).setBox (hZ2.set 0 (.slice pa (dlen W32 0) pc)) 1 (.slice qa (dlen W32 1) qc))
  have hB := Lib.hid (((below_wt bel b12).setCell (p := ⟨w.heap.size, 0, none⟩) (Nat.le_refl _) (.slice pa (dlen W32 0) pc)).setCell (p := ⟨w.heap.size, 1, none⟩) (Nat.le_refl _) (.slice qa (dlen W32 1) qc))
  clear hq hZ hZ2 b1 b2 b12 bel
  generalize dlen W32 0 = l0 at *
  generalize dlen W32 1 = l1 at *
  go_wp2
  refine bodyPost_ret (v := .agg #[.slice pa l0 pc, .slice qa l1 qc]) (by simp [results, Try.results100, go_sem, z0, z1]) rfl ?_
  exact ⟨_, _, rfl, hf1.out, hf2.out, hB.out⟩

set_option maxRecDepth 100000 in
set_option maxHeartbeats 2000000 in
theorem oneRatio_any (w : World) : Calls Try.prog 67 #[] w fun e w' => ∃ p q, e = .returned (.agg #[p, q]) ∧ LongI w' p 1 ∧ LongI w' q 1 ∧ Below w.heap.size w w' := by
  have h1 := Lib.hid (fun W => longOf_any 1 W (by omega))
  have hZ := Blk.new w #[.slice none 0 0, .slice none 0 0] 97
  have bel := below1 w (.cells #[.slice none 0 0, .slice none 0 0] 97)
  go_enter Try.func67, Try.ntmps67
  go_wp2_with fail
  generalize hW : w.alloc _ = W at *
  clear hW
  refine (h1.out _).mono ?_
  rintro e u1 ⟨p, rfl, hp, b1⟩
  obtain ⟨_, pa, pc, rfl⟩ := hp.len
  have hp' := Lib.hid hp
  clear hp
  go_wp2_with fail
  refine (h1.out _).mono ?_
  rintro e u2 ⟨q, rfl, hq, b2⟩
  obtain ⟨_, qa, qc, rfl⟩ := hq.len
  have b12 := below_wt b1 b2
  have hZ2 := hZ.keep b12 hZ.lt
  have z0 := hZ2.cell 0
  have z1 := hZ2.cell 1
  have f0 := hZ2.frozen 0
  have f1 := hZ2.frozen 1
  simp only [List.getElem?_toArray, List.getElem?_cons_zero, List.getElem?_cons_succ] at z0 z1
  have hf1 := Lib.hid (((hp'.out.keep b2).setBox hZ2 0 (.slice pa (dlen W32 1) pc)).setBox (hZ2.set 0 (.slice pa (dlen W32 1) pc)) 1 (.slice qa (dlen W32 1) qc))
  have hf2 := Lib.hid ((hq.setBox hZ2 0 (.slice pa (dlen W32 1) pc)).setBox (hZ2.set 0 (.slice pa (dlen W32 1) pc)) 1 (.slice qa (dlen W32 1) qc))
  have hB := Lib.hid (((below_wt bel b12).setCell (p := ⟨w.heap.size, 0, none⟩) (Nat.le_refl _) (.slice pa (dlen W32 1) pc)).setCell (p := ⟨w.heap.size, 1, none⟩) (Nat.le_refl _) (.slice qa (dlen W32 1) qc))
  clear hq hZ hZ2 b1 b2 b12 bel
  generalize dlen W32 1 = l1 at *
  go_wp2
  refine bodyPost_ret (v := .agg #[.slice pa l1 pc, .slice qa l1 qc]) (by simp [results, Try.results67, go_sem, z0, z1]) rfl ?_
  exact ⟨_, _, rfl, hf1.out, hf2.out, hB.out⟩

/-- the sum of fractions, not in lowest terms -/
def sumR (l : List (Nat × Nat)) : Nat × Nat := l.foldl (fun a c => (a.1 * c.2 + c.1 * a.2, a.2 * c.2)) (0, 1)
theorem sumR_take (l : List (Nat × Nat)) (k : Nat) (h : k < l.length) :
    sumR (l.take (k + 1)) = ((sumR (l.take k)).1 * (l.getD k (0, 0)).2 + (l.getD k (0, 0)).1 * (sumR (l.take k)).2, (sumR (l.take k)).2 * (l.getD k (0, 0)).2) := by
  unfold sumR
  rw [List.take_add_one, List.getElem?_eq_getElem h, List.foldl_append]
  simp [List.getD, h]
theorem sumR_len (l : List (Nat × Nat)) (S : Nat) (hs : ∀ i, i < l.length → dlen W32 (l.getD i (0, 0)).1 ≤ S ∧ dlen W32 (l.getD i (0, 0)).2 ≤ S) : ∀ k, k ≤ l.length → dlen W32 (sumR (l.take k)).1 ≤ (S + 1) * k + 1 ∧ dlen W32 (sumR (l.take k)).2 ≤ S * k + 1
  | 0, _ => by simp only [List.take_zero, sumR, List.foldl_nil]; exact ⟨by rw [dlen_zero]; omega, Nat.le_trans (dlen_le w32 (L := 1) (by simp only [W32]; omega)) (by omega)⟩
  | k + 1, h => by
    obtain ⟨i1, i2⟩ := sumR_len l S hs k (by omega)
    obtain ⟨h1, h2⟩ := hs k (by omega)
    rw [sumR_take l k (by omega)]
    have e1 := mul_dlen w32 i1 h2
    have e2 := mul_dlen w32 h1 i2
    have e3 := mul_dlen w32 i2 h2
    have m1 : (S + 1) * k + 1 + S ≤ (S + 1) * k + S + 1 := by omega
    have m2 : S + (S * k + 1) ≤ (S + 1) * k + S + 1 := by have : (S + 1) * k = S * k + k := Nat.succ_mul S k; omega
    have e4 := plus_len w32 (Nat.le_trans e1 m1) (Nat.le_trans e2 m2)
    have m3 : (S + 1) * (k + 1) + 1 = (S + 1) * k + S + 1 + 1 := by rw [Nat.mul_succ]; omega
    have m4 : S * (k + 1) + 1 = S * k + 1 + S := by rw [Nat.mul_succ]; omega
    exact ⟨by rw [m3]; exact e4, by rw [m4]; exact e3⟩

set_option maxRecDepth 100000 in
set_option maxHeartbeats 4000000 in
theorem sumOfRatios_any (v : Value) (l : List (Nat × Nat)) (S : Nat) (w : World) (hv : PairL LongI w v l) (hs : ∀ i, i < l.length → dlen W32 (l.getD i (0, 0)).1 ≤ S ∧ dlen W32 (l.getD i (0, 0)).2 ≤ S) (hb : (S + 1) * l.length + 1 ≤ 1000000) (hS : S ≤ 1000000) (hn : l.length ≤ 1000000) :
    Calls Try.prog 66 #[v] w fun e w' => ∃ p q, e = .returned (.agg #[p, q]) ∧ LongI w' p (sumR l).1 ∧ LongI w' q (sumR l).2 ∧ Below w.heap.size w w' := by
  have hv0 := hv
  obtain ⟨va, vc, rfl, _⟩ := hv
  have hvv := Lib.hid hv0
  have hz := Lib.hid (fun W => zeroRatio_any W)
  have hZ := Blk.new w #[.slice none 0 0, .slice none 0 0] 97
  have bel := below1 w (.cells #[.slice none 0 0, .slice none 0 0] 97)
  have hsz := Lib.hid hs
  have hln := Lib.hid (fun k (h : k ≤ l.length) => (show dlen W32 (sumR (l.take k)).1 ≤ 1000000 ∧ dlen W32 (sumR (l.take k)).2 ≤ 1000000 by
    obtain ⟨i1, i2⟩ := sumR_len l S hs k h
    have m1 : (S + 1) * k ≤ (S + 1) * l.length := Nat.mul_le_mul_left _ h
    have m2 : S * k ≤ (S + 1) * k := Nat.mul_le_mul_right _ (Nat.le_succ S)
    omega))
  have hnx := Lib.hid (fun k h => sumR_take l k h)
  have hall := Lib.hid (show l.take l.length = l from List.take_length)
  have h00 := Lib.hid (show sumR (l.take 0) = (0, 1) by rfl)
  have hpl := Lib.hid (fun a b c d N1 D1 N2 D2 W h0 h1 h2 h3 s0 s1 s2 s3 => ratioPlus a b c d N1 D1 N2 D2 W h0 h1 h2 h3 s0 s1 s2 s3)
  obtain ⟨L, hL⟩ : ∃ L, L = l.length := ⟨_, rfl⟩
  have hvL := Lib.hid (show PairL LongI w (.slice va L vc) l by rw [hL]; exact hv0)
  rw [← hL] at hall hln hnx hsz hn ⊢
  replace hL := Lib.hid hL
  clear hv0 hvv hs hb
  go_enter Try.func66, Try.ntmps66
  go_wp2_with fail
  generalize hW : w.alloc _ = W at *
  clear hW
  (with_reducible refine (hz.out _).mono ?_)
  rintro e u1 ⟨p, q, rfl, hp, hq, b1⟩
  obtain ⟨_, pa, pc, rfl⟩ := hp.len
  obtain ⟨_, qa, qc, rfl⟩ := hq.len
  have b2 := below1 u1 (.cells #[.slice pa (dlen W32 0) pc, .slice qa (dlen W32 1) qc] 97)
  have hP := Lib.hid (show LongI _ _ (sumR (l.take 0)).1 from hp.keep b2)
  have hQ := Lib.hid (show LongI _ _ (sumR (l.take 0)).2 from hq.keep b2)
  have hS0 := Lib.hid (Blk.new u1 #[.slice pa (dlen W32 0) pc, .slice qa (dlen W32 1) qc] 97)
  have hZ2 := Lib.hid (hZ.keep (below_wt b1 b2) hZ.lt)
  have B2 := Lib.hid (below_wt (below_wt bel b1) b2)
  have hsB : w.heap.size < u1.heap.size := by have := hZ.lt; have := b1.size; omega
  clear hp hq hZ b1 b2 bel
  go_wp2_with fail
  go_loopw [9] (fun i wr => ∃ (k pl qc ql pc : Nat) (pa qa : Option Addr), k ≤ L ∧ i = .int .i64 (k : Int) ∧ Hid (Blk wr u1.heap.size #[.slice pa pl pc, .slice qa ql qc] 97) ∧ Hid (LongI wr (.slice pa pl pc) (sumR (l.take k)).1) ∧ Hid (LongI wr (.slice qa ql qc) (sumR (l.take k)).2) ∧ Hid (Blk wr w.heap.size #[.slice none 0 0, .slice none 0 0] 97) ∧ Hid (Below w.heap.size w wr)) (fun i _ => L - (intOf i).toNat)
  case atStart => exact ⟨0, _, _, _, _, _, _, Nat.zero_le _, rfl, hS0, hP, hQ, hZ2, B2⟩
  case round =>
    obtain ⟨k, pl, qc, ql, pc, pa, qa, hk, rfl, hSB, hP, hQ, hZB, bel⟩ := hrel
    by_cases hlt : k < L
    · obtain ⟨b, off, x, y, rfl, q0, q1, hx, hy⟩ := (hvL.out.keep likeI bel.out).at k (by rw [← hL.out]; exact hlt)
      obtain ⟨xa, xl, xc, rfl⟩ := likeI.shape hx
      obtain ⟨ya, yl, yc, rfl⟩ := likeI.shape hy
      have hSBa := hSB.out.alloc (.cells #[.slice xa xl xc, .slice ya yl yc] 97)
      have z0 := hSBa.cell 0
      have z1 := hSBa.cell 1
      simp only [List.getElem?_toArray, List.getElem?_cons_zero, List.getElem?_cons_succ] at z0 z1
      obtain ⟨s1, s2⟩ := hln.out k hk
      obtain ⟨s3, s4⟩ := hsz.out k hlt
      have b3 := below1 wr (.cells #[.slice xa xl xc, .slice ya yl yc] 97)
      have hop := Lib.hid (hpl.out _ _ _ _ _ _ _ _ _ (hP.out.keep b3) (hQ.out.keep b3) (hx.keep b3) (hy.keep b3) s1 s2 (by omega) (by omega))
      have hnx1 := Lib.hid (hnx.out k hlt)
      have hSB3 := Lib.hid (hSB.out.keep b3 hSB.out.lt)
      have hZB3 := Lib.hid (hZB.out.keep b3 hZB.out.lt)
      have B3 := Lib.hid (below_wt bel.out b3)
      have hlt' := Lib.hid hlt
      clear hx hy b3 s1 s2 s3 s4 hSBa
      go_wp2_with fail
      (with_reducible refine hop.out.mono ?_)
      rintro e u2 ⟨p2, q2, rfl, hp2, hq2, b4⟩
      obtain ⟨_, p2a, p2c, rfl⟩ := hp2.len
      obtain ⟨_, q2a, q2c, rfl⟩ := hq2.len
      have hSB4 := hSB3.out.keep b4 hSB3.out.lt
      have hZB4 := hZB3.out.keep b4 hZB3.out.lt
      have y0 := hSB4.cell 0
      have y1 := hSB4.cell 1
      have f0 := hSB4.frozen 0
      have f1 := hSB4.frozen 1
      simp only [List.getElem?_toArray, List.getElem?_cons_zero, List.getElem?_cons_succ] at y0 y1
      have n1 := congrArg Prod.fst hnx1.out
      have n2 := congrArg Prod.snd hnx1.out
      simp only at n1 n2
      rw [← n1] at hp2 ⊢
      rw [← n2] at hq2 ⊢
      generalize hl1 : dlen W32 (sumR (l.take (k + 1))).1 = d1 at *
      generalize hl2 : dlen W32 (sumR (l.take (k + 1))).2 = d2 at *
      have hf1 := Lib.hid ((hp2.setBox hSB4 0 (.slice p2a d1 p2c)).setBox (hSB4.set 0 (.slice p2a d1 p2c)) 1 (.slice q2a d2 q2c))
      have hf2 := Lib.hid ((hq2.setBox hSB4 0 (.slice p2a d1 p2c)).setBox (hSB4.set 0 (.slice p2a d1 p2c)) 1 (.slice q2a d2 q2c))
      have hSB5 := Lib.hid ((hSB4.set 0 (.slice p2a d1 p2c)).set 1 (.slice q2a d2 q2c))
      have hZB5 := Lib.hid ((hZB4.setOther (a := ⟨u1.heap.size, 0, none⟩) (by simp only; omega) (.slice p2a d1 p2c)).setOther (a := ⟨u1.heap.size, 1, none⟩) (by simp only; omega) (.slice q2a d2 q2c))
      have B5 := Lib.hid (((below_wt B3.out b4).setCell (p := ⟨u1.heap.size, 0, none⟩) (by simp only; omega) (.slice p2a d1 p2c)).setCell (p := ⟨u1.heap.size, 1, none⟩) (by simp only; omega) (.slice q2a d2 q2c))
      clear hp2 hq2 b4 hSB4 hZB4 n1 n2 hl1 hl2 q0 q1 z0 z1
      go_wp2
      go_roundw
      case rel => exact ⟨k + 1, d1, q2c, d2, p2c, p2a, q2a, by have := hlt'.out; omega, by go_num, Lib.hid (by simpa using hSB5.out), hf1, hf2, hZB5, B5⟩
      case measure => have := hlt'.out; simp [intOf]; omega
    · obtain rfl : k = L := by omega
      have hlt' : ¬ (k : Int) < (k : Int) := by omega
      have z0 := hSB.out.cell 0
      have z1 := hSB.out.cell 1
      have y0 := hZB.out.cell 0
      have y1 := hZB.out.cell 1
      have f0 := hZB.out.frozen 0
      have f1 := hZB.out.frozen 1
      simp only [List.getElem?_toArray, List.getElem?_cons_zero, List.getElem?_cons_succ] at z0 z1 y0 y1
      have hf1 := Lib.hid (show LongI _ _ (sumR l).1 by have := (hP.out.setBox hZB.out 0 (.slice pa pl pc)).setBox (hZB.out.set 0 (.slice pa pl pc)) 1 (.slice qa ql qc); rwa [hall.out] at this)
      have hf2 := Lib.hid (show LongI _ _ (sumR l).2 by have := (hQ.out.setBox hZB.out 0 (.slice pa pl pc)).setBox (hZB.out.set 0 (.slice pa pl pc)) 1 (.slice qa ql qc); rwa [hall.out] at this)
      have B5 := Lib.hid ((bel.out.setCell (p := ⟨w.heap.size, 0, none⟩) (Nat.le_refl _) (.slice pa pl pc)).setCell (p := ⟨w.heap.size, 1, none⟩) (Nat.le_refl _) (.slice qa ql qc))
      clear hlt
      go_wp2
      refine bodyPost_ret (v := .agg #[.slice pa pl pc, .slice qa ql qc]) (by simp [results, Try.results66, go_sem, y0, y1]) rfl ?_
      exact ⟨_, _, rfl, hf1.out, hf2.out, B5.out⟩
end Go.Proofs.Ytjkekhiceadpgaa
