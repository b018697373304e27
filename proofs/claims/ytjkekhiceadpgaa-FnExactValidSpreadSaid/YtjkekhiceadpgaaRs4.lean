/- l01Spread of the specification; ValidSpread. Conditions: told by the code. -/
import Derived.Test.YtjkekhiceadpgaaRs3
import Derived.Test.YtjkekhiceadpgaaRl4
namespace Go.Proofs.Ytjkekhiceadpgaa
open Go.RowKit Go.Deep
set_option linter.unusedVariables false
set_option linter.unusedSimpArgs false

theorem frOk_den0 {n d : ByteArray} (h : frOk n d = true) : 0 < numV d := by
  unfold frOk at h
  simp only [Bool.and_eq_true] at h
  exact of_decide_eq_true h.2.2.1
theorem numP_len9 {l : List (ByteArray × ByteArray)} (h : frsOk l = true) : ∀ i, i < (numP l).length → dlen B9 ((numP l).getD i (0, 0)).1 ≤ 300 ∧ dlen B9 ((numP l).getD i (0, 0)).2 ≤ 300 := by
  intro i hi
  rw [numP_length] at hi
  rw [numP_get l i hi]
  have := frOk_num (numP_ok h i hi)
  exact ⟨numV_len9 this.1, numV_len9 this.2⟩
theorem numP_den {l : List (ByteArray × ByteArray)} (h : frsOk l = true) : ∀ i, i < (numP l).length → 0 < ((numP l).getD i (0, 0)).2 := by
  intro i hi
  rw [numP_length] at hi
  rw [numP_get l i hi]
  exact frOk_den0 (numP_ok h i hi)
theorem comD_len9 (l : List (Nat × Nat)) (S : Nat) (hs : ∀ i, i < l.length → dlen B9 (l.getD i (0, 0)).1 ≤ S ∧ dlen B9 (l.getD i (0, 0)).2 ≤ S) : dlen B9 (comD l) ≤ S * l.length + 1 := by
  have := comD_len l S hs l.length (Nat.le_refl _)
  rwa [List.take_length] at this
theorem comN_get (D : Nat) (l : List (Nat × Nat)) (i : Nat) (h : i < l.length) : (comN D l).getD i 0 = (l.getD i (0, 0)).1 * (D / (l.getD i (0, 0)).2) := by
  simp [comN, List.getD, h]
theorem comN_len (l : List (Nat × Nat)) (S D M : Nat) (hs : ∀ i, i < l.length → dlen B9 (l.getD i (0, 0)).1 ≤ S ∧ dlen B9 (l.getD i (0, 0)).2 ≤ S) (hD : dlen B9 D ≤ M) : ∀ i, i < (comN D l).length → dlen B9 ((comN D l).getD i 0) ≤ S + M := by
  intro i hi
  rw [comN_length] at hi
  rw [comN_get D l i hi]
  exact mul_dlen' (hs i hi).1 (Nat.le_trans (dlen_mono b9 (Nat.div_le_self _ _)) hD)
theorem cmp_eq (a b : Nat) : (cmpI a b == 0) = decide (a = b) := by
  unfold cmpI
  by_cases h1 : a < b
  · rw [if_pos h1, decide_eq_false (by omega)]; rfl
  · rw [if_neg h1]
    by_cases h2 : b < a
    · rw [if_pos h2, decide_eq_false (by omega)]; rfl
    · rw [if_neg h2, decide_eq_true (by omega)]; rfl
theorem RowL.shape {L : World → Value → Nat → Prop} {w : World} {v : Value} {l : List Nat} (h : RowL L w v l) : ∃ a cap, v = .slice a l.length cap := by
  obtain ⟨a, c, e, _⟩ := h
  exact ⟨a, c, e⟩
set_option maxRecDepth 100000 in
set_option maxHeartbeats 8000000 in
theorem l01Spread_any (v : Value) (l : List (ByteArray × ByteArray)) (w : World) (hv : FrL w v l) :
    Calls Try.prog 32 #[v] w fun e w' => ∃ (pa qa : Option Addr) (pn pc qn qc : Nat), e = .returned (.tuple #[.agg #[.slice pa pn pc, .slice qa qn qc], .bool (spreadB l)]) ∧ Below w.heap.size w w' := by
  obtain ⟨hm, va, vc, rfl, _⟩ := id hv
  unfold maxLen at hm
  by_cases hr : 1 ≤ l.length ∧ l.length ≤ 6
  · have hZ := Lib.hid (Blk.new w #[.slice none 0 0, .slice none 0 0] 59)
    have B0 := Lib.hid (below1 w (.cells #[.slice none 0 0, .slice none 0 0] 59))
    have hrd := Lib.hid (l01List_any (.slice va l.length vc) l (w.alloc (.cells #[.slice none 0 0, .slice none 0 0] 59)) (hv.keep B0.out) (by omega))
    have hlen := Lib.hid (fun h => numP_len9 (l := l) h)
    have hden := Lib.hid (fun h => numP_den (l := l) h)
    have hsp := Lib.hid (show spreadB l = (frsOk l && decide ((sumR (numP l)).1 = (sumR (numP l)).2)) by unfold spreadB; rw [decide_eq_true hr, Bool.true_and])
    have hnl := Lib.hid (numP_length l)
    obtain ⟨hr1, hr2⟩ := hr
    obtain ⟨L, hL⟩ : ∃ L, L = l.length := ⟨_, rfl⟩
    rw [← hL] at hr1 hr2 hrd hnl hm ⊢
    have i1 : (1 : Int) ≤ (L : Int) := by omega
    have i2 : (L : Int) ≤ 6 := by omega
    clear hv hL
    go_enter Try.func32, Try.ntmps32
    go_wp2_with (go_at_call 60; go_in)
    (with_reducible refine hrd.out.mono ?_)
    rintro e w1 ⟨a, n, cap, rfl, b1, hval⟩
    have hval' := Lib.hid hval
    have B1 := Lib.hid (below_wt B0.out b1)
    have hZ1 := Lib.hid (hZ.out.keep b1 hZ.out.lt)
    clear hval b1 hZ B0 hrd
    rcases hok : frsOk l with _ | _
    · have hf := Lib.hid (show spreadB l = false by rw [hsp.out, hok]; rfl)
      have z0 := hZ1.out.cell 0
      have z1 := hZ1.out.cell 1
      have f0 := hZ1.out.frozen 0
      have f1 := hZ1.out.frozen 1
      simp only [List.getElem?_toArray, List.getElem?_cons_zero, List.getElem?_cons_succ] at z0 z1
      replace hok := Lib.hid hok
      have B5 := Lib.hid ((B1.out.setCell (p := ⟨w.heap.size, 0, none⟩) (Nat.le_refl _) (.slice none 0 0)).setCell (p := ⟨w.heap.size, 1, none⟩) (Nat.le_refl _) (.slice none 0 0))
      go_wp2
      refine bodyPost_ret (v := .tuple #[.agg #[.slice none 0 0, .slice none 0 0], .bool false]) (by simp [results, Try.results32, go_sem, z0, z1]) rfl ?_
      exact ⟨_, _, _, _, _, _, by rw [hf.out], B5.out⟩
    · obtain ⟨rfl, hP⟩ := hval'.out hok
      have hcm := Lib.hid (l01Common_any (.slice a n cap) (numP l) 300 w1 hP (hlen.out hok) (hden.out hok) (by rw [hnl.out]; omega) (by rw [hnl.out]; omega))
      have hDl := Lib.hid (show dlen B9 (comD (numP l)) ≤ 3000 by have := comD_len9 (numP l) 300 (hlen.out hok); rw [hnl.out] at this; omega)
      have hNl := Lib.hid (comN_len (numP l) 300 (comD (numP l)) 3000 (hlen.out hok) hDl.out)
      have hsm := Lib.hid (spread_same (numP l) (hden.out hok))
      have hsp2 := Lib.hid (show spreadB l = decide (sumL (comN (comD (numP l)) (numP l)) = comD (numP l)) by rw [hsp.out, hok, Bool.true_and]; exact decide_eq_decide.2 hsm.out.symm)
      have hcl := Lib.hid (show (comN (comD (numP l)) (numP l)).length = n by rw [comN_length, hnl.out])
      have hcq := Lib.hid (cmp_eq (sumL (comN (comD (numP l)) (numP l))) (comD (numP l)))
      replace hok := Lib.hid hok
      clear hP hval' hsm
      go_wp2_with fail
      (with_reducible refine hcm.out.mono ?_)
      rintro e w2 ⟨p, q, rfl, hp, hq, b2⟩
      obtain ⟨pa, pc, rfl⟩ := hp.shape
      obtain ⟨_, qa, qc, rfl⟩ := hq.len
      rw [hcl.out] at hp ⊢
      have B2 := Lib.hid (below_wt B1.out b2)
      have hZ2 := Lib.hid (hZ1.out.keep b2 hZ1.out.lt)
      have bO := below1 w2 (.cells #[.slice pa n pc, .slice qa (dlen B9 (comD (numP l))) qc] 59)
      have hO := Lib.hid (Blk.new w2 #[.slice pa n pc, .slice qa (dlen B9 (comD (numP l))) qc] 59)
      have hZ3 := Lib.hid (hZ2.out.keep bO hZ2.out.lt)
      have B3 := Lib.hid (below_wt B2.out bO)
      have hp3 := Lib.hid (hp.keep likeS bO)
      have hq3 := Lib.hid (hq.keep bO)
      have hne : w.heap.size < w2.heap.size := hZ2.out.lt
      have hsl : dlen B9 (sumL (comN (comD (numP l)) (numP l))) ≤ 10000 := by
        have := sumL_len (comN (comD (numP l)) (numP l)) 3300 hNl.out n (by rw [hcl.out]; exact Nat.le_refl _)
        rw [show n = (comN (comD (numP l)) (numP l)).length from hcl.out.symm, List.take_length, hcl.out] at this
        omega
      clear hp hq b2 bO
      generalize hDe : comD (numP l) = D at *
      generalize hNe : comN D (numP l) = R at *
      clear hDe hNe
      go_wp2_with fail
      generalize hW : w2.alloc _ = W at *
      clear hW
      obtain ⟨O, hOe⟩ : ∃ O, O = w2.heap.size := ⟨_, rfl⟩
      rw [← hOe] at hne hO ⊢
      clear hOe
      have hS := Lib.hid (sum_any O pa qa n pc (dlen B9 D) qc 3300 R W.drew (hO.out.keep (Below.refl _ W).drew hO.out.lt) hcl.out.symm (hp3.out.keep likeS (Below.refl _ W).drew) hNl.out (by rw [hcl.out]; omega))
      have q0 : W.drew.cell? ⟨O, 0, none⟩ = some (.slice pa n pc) := hO.out.cell 0
      have q1 : W.drew.cell? ⟨O, 1, none⟩ = some (.slice qa (dlen B9 D) qc) := hO.out.cell 1
      have ne1 : w.heap.size ≠ O := by omega
      have hOW := Lib.hid hO.out.lt
      have hZW := Lib.hid hZ3.out.lt
      go_region_held3 (fun w' => w'.cell? ⟨O, 0, none⟩ = some (.slice pa n pc) ∧ w'.cell? ⟨O, 1, none⟩ = some (.slice qa (dlen B9 D) qc))
        (first | go_keep | fail "no keep")
        (first
          | (go_at_call 63; ((with_reducible refine hS.out.mono ?_); rintro e u1 ⟨sv, rfl, ps, b1⟩; obtain ⟨_, sa, sc, rfl⟩ := ps.len; replace q0 : u1.cell? ⟨O, 0, none⟩ = some (.slice pa n pc) := (b1.cell (p := ⟨O, 0, none⟩) (block_lt q0)).trans q0; replace q1 : u1.cell? ⟨O, 1, none⟩ = some (.slice qa (dlen B9 D) qc) := (b1.cell (p := ⟨O, 1, none⟩) (block_lt q1)).trans q1))
          | (go_at_call 53; ((with_reducible refine (l01Cmp_bel _ _ (sumL R) D _ ps (hq3.out.keep (below_wt (Below.refl _ W).drew b1))).mono ?_); rintro e u2 ⟨rfl, b2⟩; replace q0 : u2.cell? ⟨O, 0, none⟩ = some (.slice pa n pc) := (b2.cell (p := ⟨O, 0, none⟩) (block_lt q0)).trans q0; replace q1 : u2.cell? ⟨O, 1, none⟩ = some (.slice qa (dlen B9 D) qc) := (b2.cell (p := ⟨O, 1, none⟩) (block_lt q1)).trans q1; have bb := below_wt (below_wt ((Below.refl _ W).drew) b1) b2; have hZ4 := hZ3.out.keep bb hZ3.out.lt; have z0 := hZ4.cell 0; have z1 := hZ4.cell 1; have f0 := hZ4.frozen 0; have f1 := hZ4.frozen 1; simp only [List.getElem?_toArray, List.getElem?_cons_zero, List.getElem?_cons_succ] at z0 z1))
          | fail "no arm")
      all_goals
        have hZ5 := hZ4.set 0 (.slice pa n pc)
        have hZ6 := hZ5.set 1 (.slice qa (dlen B9 D) qc)
        have y0 := hZ6.cell 0
        have y1 := hZ6.cell 1
        have B5 := Lib.hid (((below_wt B3.out bb).setCell (p := ⟨w.heap.size, 0, none⟩) (Nat.le_refl _) (.slice pa n pc)).setCell (p := ⟨w.heap.size, 1, none⟩) (Nat.le_refl _) (.slice qa (dlen B9 D) qc))
        simp at y0 y1
        go_wp2
        refine bodyPost_ret (v := .tuple #[.agg #[.slice pa n pc, .slice qa (dlen B9 D) qc], .bool (cmpI (sumL R) D == 0)]) (by simp [results, Try.results32, go_sem, y0, y1]) rfl ?_
        exact ⟨_, _, _, _, _, _, by rw [hsp2.out, hcq.out], B5.out⟩
  · have hf := Lib.hid (show spreadB l = false by unfold spreadB; rw [decide_eq_false hr, Bool.false_and])
    have hZ := Blk.new w #[.slice none 0 0, .slice none 0 0] 59
    have B0 := Lib.hid (below1 w (.cells #[.slice none 0 0, .slice none 0 0] 59))
    have z0 := hZ.cell 0
    have z1 := hZ.cell 1
    have f0 := hZ.frozen 0
    have f1 := hZ.frozen 1
    simp only [List.getElem?_toArray, List.getElem?_cons_zero, List.getElem?_cons_succ] at z0 z1
    obtain ⟨L, hL⟩ : ∃ L, L = l.length := ⟨_, rfl⟩
    rw [← hL] at hr hm ⊢
    clear hL hv hZ
    by_cases h1 : 1 ≤ L
    · have h2 : ¬ (L : Int) ≤ 6 := by omega
      have h1' : (1 : Int) ≤ (L : Int) := by omega
      clear hr h1
      go_enter Try.func32, Try.ntmps32
      go_wp2_with (go_at_call 60; go_in)
      refine bodyPost_ret (v := .tuple #[.agg #[.slice none 0 0, .slice none 0 0], .bool false]) (by simp [results, Try.results32, go_sem, z0, z1]) rfl ?_
      exact ⟨⟨_, _, _, _, _, _, by rw [hf.out]⟩, B0.out⟩
    · have h1' : ¬ (1 : Int) ≤ (L : Int) := by omega
      clear hr h1
      go_enter Try.func32, Try.ntmps32
      go_wp2_with (go_at_call 60; go_in)
      refine bodyPost_ret (v := .tuple #[.agg #[.slice none 0 0, .slice none 0 0], .bool false]) (by simp [results, Try.results32, go_sem, z0, z1]) rfl ?_
      exact ⟨⟨_, _, _, _, _, _, by rw [hf.out]⟩, B0.out⟩

set_option maxRecDepth 100000 in
set_option maxHeartbeats 2000000 in
theorem ValidSpread_spec (v : Value) (l : List (ByteArray × ByteArray)) (w : World) (hv : FrL w v l) :
    Calls Try.prog 9 #[v] w fun e w' => e = .returned (.bool (spreadB l)) ∧ Below w.heap.size w w' := by
  have hr := Lib.hid (l01Spread_any v l w hv)
  obtain ⟨hm, va, vc, rfl, _⟩ := hv
  generalize l.length = L at *
  go_enter Try.func9, Try.ntmps9
  go_wp2_with fail
  (with_reducible refine hr.out.mono ?_)
  rintro e w1 ⟨pa, qa, pn, pc, qn, qc, rfl, b1⟩
  go_wp2
  go_ret
  exact ⟨rfl, below_wt b1 (below1 w1 _)⟩
end Go.Proofs.Ytjkekhiceadpgaa
