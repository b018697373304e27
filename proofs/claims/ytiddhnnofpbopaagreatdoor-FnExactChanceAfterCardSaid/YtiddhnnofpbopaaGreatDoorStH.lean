/- StH: several texts in one (StS, Aft, SurS). Conditions: told in each. -/
import Derived.Test.YtiddhnnofpbopaaGreatDoorStG
import Derived.Test.YtiddhnnofpbopaaGreatDoorVec
import Derived.Test.YtiddhnnofpbopaaGreatDoorChainH
/- A step of the specification's vector of chances. Conditions: at most 1000 states, weights up to 3600, numbers of at most 100000 digits. -/
namespace Go.Proofs.YtiddhnnofpbopaaGreatDoor
open Go.RowKit Go.Deep
set_option linter.unusedVariables false
set_option linter.unusedSimpArgs false

theorem RowL.setBoxS {w : World} {a : Option Addr} {n c : Nat} {l : List Nat} (h : RowL LongS w (.slice a n c) l) {b : Nat} {a1 a2 : Option Addr} {l1 c1 l2 c2 : Nat} {t : TypeId} (hB : Blk w b #[.slice a1 l1 c1, .slice a2 l2 c2] t)
    (hne : ∀ g o, a = some ⟨g, o, none⟩ → g ≠ b) (j : Nat) (u : Value) : RowL LongS (w.setCell ⟨b, j, none⟩ u) (.slice a n c) l := by
  obtain ⟨a', cap, hv, hc⟩ := h
  injection hv with e1 e2 e3
  subst e1 e2 e3
  refine ⟨_, _, rfl, fun i hi => ?_⟩
  obtain ⟨g', off, x, ha, hx, h1⟩ := hc i hi
  have := hne g' off ha
  exact ⟨g', off, x, ha, by rw [World.cell?_setCell_other _ _ _ _ (fun e => by injection e with e1 _ _; omega)]; exact hx, LongS.setBox h1 hB j u⟩

set_option maxRecDepth 100000 in
set_option maxHeartbeats 4000000 in
theorem vecStep_any (Bv Bc : Nat) (nv dv wv : Value) (A : List Nat) (D n L t : Nat) (W : List (List Int)) (w : World) (v0 : w.cell? ⟨Bv, 0, none⟩ = some nv) (v1 : w.cell? ⟨Bv, 1, none⟩ = some dv)
    (k0 : w.cell? ⟨Bc, 0, none⟩ = some (.int .i64 (n : Int))) (k1 : w.cell? ⟨Bc, 1, none⟩ = some (.int .i64 (t : Int))) (k2 : w.cell? ⟨Bc, 2, none⟩ = some wv)
    (hA : RowL LongS w nv A) (hD : LongS w dv D) (hW : Rows2 w wv W) (hl : A.length = n) (hn : n ≤ 1000) (hWl : W.length = n)
    (hrow : ∀ k, k < n → (W.getD k []).length = n ∧ ∀ x ∈ W.getD k [], 0 ≤ x ∧ x ≤ 3600) (ht0 : 1 ≤ t) (ht : t ≤ 3600) (hAl : ∀ k, k < n → dlen B9 (A.getD k 0) ≤ L) (hDl : dlen B9 D ≤ L) (hL : L ≤ 100000) :
    Calls Tryz.prog 76 #[.pointer (some ⟨Bv, 0, none⟩), .pointer (some ⟨Bc, 0, none⟩)] w fun e w' => ∃ a c dv', e = .returned (.agg #[.slice a n c, dv']) ∧ (∀ g o, a = some ⟨g, o, none⟩ → w.heap.size ≤ g) ∧ RowL LongS w' (.slice a n c) (stepN W A n) ∧ LongS w' dv' (D * t) ∧ Below w.heap.size w w' := by
  obtain ⟨na, nc, hnv, _⟩ := id hA
  rw [hl] at hnv
  obtain ⟨da, dl, dc, rfl⟩ := likeS.shape hD
  obtain ⟨_, wa, wc, hwv⟩ := hW.len
  rw [hWl] at hwv
  subst hnv hwv
  have hdot := Lib.hid (fun j k (hj : j < n) (hk : k < n) => dotN_len b9 W A j L 1 n hAl (fun k hk => (show dlen B9 (wt W k j) ≤ 1 from by
    obtain ⟨h1, h2⟩ := hrow k hk
    have h3 := h2 _ (getD_mem (d := 0) (show j < (W.getD k []).length by omega))
    exact dlen_le b9 (show wt W k j < B9 ^ 1 by unfold wt; simp only [B9]; omega))) k (by omega))
  have b0 := below1 w (.cells #[.slice none 0 0, .slice none 0 0] 77)
  have hR := Lib.hid (Blk.new w #[.slice none 0 0, .slice none 0 0] 77)
  have hA0 := Lib.hid (hA.keep likeS b0)
  have hD0 := Lib.hid (hD.keep b0)
  have hW0 := Lib.hid (hW.keep b0)
  have cv0 := Lib.hid (fun w1 (hb : Below (w.alloc (.cells #[.slice none 0 0, .slice none 0 0] 77)).heap.size (w.alloc (.cells #[.slice none 0 0, .slice none 0 0] 77)) w1) => ((below_wt b0 hb).cell (p := ⟨Bv, 0, none⟩) (block_lt v0)).trans v0)
  have cv1 := Lib.hid (fun w1 (hb : Below (w.alloc (.cells #[.slice none 0 0, .slice none 0 0] 77)).heap.size (w.alloc (.cells #[.slice none 0 0, .slice none 0 0] 77)) w1) => ((below_wt b0 hb).cell (p := ⟨Bv, 1, none⟩) (block_lt v1)).trans v1)
  have cc0 := Lib.hid (fun w1 (hb : Below (w.alloc (.cells #[.slice none 0 0, .slice none 0 0] 77)).heap.size (w.alloc (.cells #[.slice none 0 0, .slice none 0 0] 77)) w1) => ((below_wt b0 hb).cell (p := ⟨Bc, 0, none⟩) (block_lt k0)).trans k0)
  have cc1 := Lib.hid (fun w1 (hb : Below (w.alloc (.cells #[.slice none 0 0, .slice none 0 0] 77)).heap.size (w.alloc (.cells #[.slice none 0 0, .slice none 0 0] 77)) w1) => ((below_wt b0 hb).cell (p := ⟨Bc, 1, none⟩) (block_lt k1)).trans k1)
  have cc2 := Lib.hid (fun w1 (hb : Below (w.alloc (.cells #[.slice none 0 0, .slice none 0 0] 77)).heap.size (w.alloc (.cells #[.slice none 0 0, .slice none 0 0] 77)) w1) => ((below_wt b0 hb).cell (p := ⟨Bc, 2, none⟩) (block_lt k2)).trans k2)
  have dt : dlen B9 t ≤ 1 := dlen_le b9 (show t < B9 ^ 1 by simp only [B9]; omega)
  have B0 := Lib.hid b0
  have hsz := Lib.hid (show w.heap.size < (w.alloc (.cells #[.slice none 0 0, .slice none 0 0] 77)).heap.size by rw [World.size_alloc]; exact Nat.lt_succ_self _)
  replace hl := Lib.hid hl
  replace hWl := Lib.hid hWl
  replace hrow := Lib.hid hrow
  replace hAl := Lib.hid hAl
  clear hA hD hW v0 v1 k0 k1 k2 b0
  go_enter Tryz.func76, Tryz.ntmps76
  go_upto_region 1 with fail
  generalize hV : w.alloc (.cells #[.slice none 0 0, .slice none 0 0] 77) = V at *
  clear hV
  refine' Rgn.region_by (fun i => match i with | 12 => 1 | _ => 0) 1 (fun _ => false) (fun i _ v w' => match i with
      | 0 => v = .pointer (some ⟨Bv, 0, none⟩)
      | 1 => v = .pointer (some ⟨Bv, 0, none⟩)
      | 2 => v = .pointer (some ⟨Bv, 1, none⟩)
      | 3 => v = .slice da dl dc
      | 4 => v = .pointer (some ⟨Bc, 0, none⟩)
      | 5 => v = .pointer (some ⟨Bc, 0, none⟩)
      | 6 => v = .pointer (some ⟨Bc, 1, none⟩)
      | 7 => v = .int .i64 (t : Int)
      | 8 => LongS w' v (t)
      | 9 => LongS w' v (D * t)
      | 10 => ∃ d, v = .agg #[.slice none 0 0, d] ∧ LongS w' d (D * t)
      | 11 => ∃ B : Nat, v = .pointer (some ⟨B, 0, none⟩) ∧ V.heap.size ≤ B ∧ Blk w' B #[.slice none 0 0, .slice none 0 0] 77
      | _ => True) (fun i _ v => match i with
      | 0 => v = .pointer (some ⟨Bv, 0, none⟩)
      | 1 => v = .pointer (some ⟨Bv, 0, none⟩)
      | 2 => v = .pointer (some ⟨Bv, 1, none⟩)
      | 3 => v = .slice da dl dc
      | 4 => v = .pointer (some ⟨Bc, 0, none⟩)
      | 5 => v = .pointer (some ⟨Bc, 0, none⟩)
      | 6 => v = .pointer (some ⟨Bc, 1, none⟩)
      | 7 => v = .int .i64 (t : Int)
      | 8 => True
      | 9 => True
      | 10 => True
      | 11 => True
      | _ => True)
      (fun p z w' => ∃ (O : Nat) (ra : Option Addr) (rl rc : Nat), z 11 = .pointer (some ⟨O, 0, none⟩) ∧ V.heap.size ≤ O ∧ Blk w' O #[.slice none 0 0, .slice ra rl rc] 77 ∧ LongS w' (.slice ra rl rc) (D * t) ∧ Below V.heap.size V w') (by kernel_rfl) (by kernel_rfl) (by kernel_rfl) ?hst_a ?hG_a _ ?hfr_a ?hob_a ?hend_a
  case hfr_a =>
    intro z
    simp only [Rgn.fillAll, Act.put, List.setIfInBounds_toArray, List.set_cons_zero, List.set_cons_succ, Nat.reduceAdd, Nat.zero_add]
    exact rfl
  case hst_a =>
    intro i z v w1 w2 hi hb hx
    rcases i with _ | i
    · exact hx
    rcases i with _ | i
    · exact hx
    rcases i with _ | i
    · exact hx
    rcases i with _ | i
    · exact hx
    rcases i with _ | i
    · exact hx
    rcases i with _ | i
    · exact hx
    rcases i with _ | i
    · exact hx
    rcases i with _ | i
    · exact hx
    rcases i with _ | i
    · exact (fun v w1 w2 hb h => h.keep hb) v w1 w2 hb hx
    rcases i with _ | i
    · exact (fun v w1 w2 hb h => h.keep hb) v w1 w2 hb hx
    rcases i with _ | i
    · exact (fun v w1 w2 hb h => h.elim fun d h => ⟨d, h.1, h.2.keep hb⟩) v w1 w2 hb hx
    rcases i with _ | i
    · exact (fun v w1 w2 hb h => h.elim fun B hB => ⟨B, hB.1, hB.2.1, hB.2.2.step hb⟩) v w1 w2 hb hx
    rcases i with _ | i
    · exact trivial
    exact trivial
  case hG_a =>
    intro i z v w1 hi hx
    rcases i with _ | i
    · exact hx
    rcases i with _ | i
    · exact hx
    rcases i with _ | i
    · exact hx
    rcases i with _ | i
    · exact hx
    rcases i with _ | i
    · exact hx
    rcases i with _ | i
    · exact hx
    rcases i with _ | i
    · exact hx
    rcases i with _ | i
    · exact hx
    rcases i with _ | i
    · trivial
    rcases i with _ | i
    · trivial
    rcases i with _ | i
    · trivial
    rcases i with _ | i
    · trivial
    rcases i with _ | i
    · exact trivial
    exact trivial
  case hob_a =>
    intro hfr
    refine Rgn.AllOb.cons (j := 1) (by kernel_rfl) ?_ ?_
    · refine' Rgn.ob_body (fr := _) ?hf_a0 ?h1_a0 ?h2_a0 ?h3_a0 ?h_a0
      case hf_a0 => exact hfr
      case h1_a0 => kernel_rfl
      case h2_a0 => kernel_rfl
      case h3_a0 => rfl
      clear hfr
      intro z w1 hb hd ho K hK
      clear hd ho
      go_simp
      have hh := hK.out (.pointer (some ⟨Bv, 0, none⟩)) _ (Below.refl _ _) rfl
      simp only [Act.put, List.setIfInBounds_toArray, List.set_cons_zero, List.set_cons_succ] at hh
      exact hh
    refine Rgn.AllOb.cons (j := 2) (by kernel_rfl) ?_ ?_
    · refine' Rgn.ob_body (fr := _) ?hf_a1 ?h1_a1 ?h2_a1 ?h3_a1 ?h_a1
      case hf_a1 => exact hfr
      case h1_a1 => kernel_rfl
      case h2_a1 => kernel_rfl
      case h3_a1 => rfl
      clear hfr
      intro z w1 hb hd ho K hK
      have e0 : z 0 = .pointer (some ⟨Bv, 0, none⟩) := hd.out 0 (by kernel_rfl)
      clear hd ho
      go_simp
      have hh := hK.out (.pointer (some ⟨Bv, 0, none⟩)) _ (Below.refl _ _) rfl
      simp only [Act.put, List.setIfInBounds_toArray, List.set_cons_zero, List.set_cons_succ, e0] at hh
      exact hh
    refine Rgn.AllOb.cons (j := 3) (by kernel_rfl) ?_ ?_
    · refine' Rgn.ob_body (fr := _) ?hf_a2 ?h1_a2 ?h2_a2 ?h3_a2 ?h_a2
      case hf_a2 => exact hfr
      case h1_a2 => kernel_rfl
      case h2_a2 => kernel_rfl
      case h3_a2 => rfl
      clear hfr
      intro z w1 hb hd ho K hK
      have e1 : z 1 = .pointer (some ⟨Bv, 0, none⟩) := hd.out 1 (by kernel_rfl)
      clear hd ho
      go_simp
      have hh := hK.out (.pointer (some ⟨Bv, 1, none⟩)) _ (Below.refl _ _) rfl
      simp only [Act.put, List.setIfInBounds_toArray, List.set_cons_zero, List.set_cons_succ, e1] at hh
      exact hh
    refine Rgn.AllOb.cons (j := 4) (by kernel_rfl) ?_ ?_
    · refine' Rgn.ob_body (fr := _) ?hf_a3 ?h1_a3 ?h2_a3 ?h3_a3 ?h_a3
      case hf_a3 => exact hfr
      case h1_a3 => kernel_rfl
      case h2_a3 => kernel_rfl
      case h3_a3 => rfl
      clear hfr
      intro z w1 hb hd ho K hK
      have e2 : z 2 = .pointer (some ⟨Bv, 1, none⟩) := hd.out 2 (by kernel_rfl)
      clear hd ho
      have x0 := cv1.out w1 hb
      go_simp
      have hh := hK.out (.slice da dl dc) _ (Below.refl _ _) rfl
      simp only [Act.put, List.setIfInBounds_toArray, List.set_cons_zero, List.set_cons_succ, e2] at hh
      exact hh
    refine Rgn.AllOb.cons (j := 5) (by kernel_rfl) ?_ ?_
    · refine' Rgn.ob_body (fr := _) ?hf_a4 ?h1_a4 ?h2_a4 ?h3_a4 ?h_a4
      case hf_a4 => exact hfr
      case h1_a4 => kernel_rfl
      case h2_a4 => kernel_rfl
      case h3_a4 => rfl
      clear hfr
      intro z w1 hb hd ho K hK
      clear hd ho
      go_simp
      have hh := hK.out (.pointer (some ⟨Bc, 0, none⟩)) _ (Below.refl _ _) rfl
      simp only [Act.put, List.setIfInBounds_toArray, List.set_cons_zero, List.set_cons_succ] at hh
      exact hh
    refine Rgn.AllOb.cons (j := 6) (by kernel_rfl) ?_ ?_
    · refine' Rgn.ob_body (fr := _) ?hf_a5 ?h1_a5 ?h2_a5 ?h3_a5 ?h_a5
      case hf_a5 => exact hfr
      case h1_a5 => kernel_rfl
      case h2_a5 => kernel_rfl
      case h3_a5 => rfl
      clear hfr
      intro z w1 hb hd ho K hK
      have e4 : z 4 = .pointer (some ⟨Bc, 0, none⟩) := hd.out 4 (by kernel_rfl)
      clear hd ho
      go_simp
      have hh := hK.out (.pointer (some ⟨Bc, 0, none⟩)) _ (Below.refl _ _) rfl
      simp only [Act.put, List.setIfInBounds_toArray, List.set_cons_zero, List.set_cons_succ, e4] at hh
      exact hh
    refine Rgn.AllOb.cons (j := 7) (by kernel_rfl) ?_ ?_
    · refine' Rgn.ob_body (fr := _) ?hf_a6 ?h1_a6 ?h2_a6 ?h3_a6 ?h_a6
      case hf_a6 => exact hfr
      case h1_a6 => kernel_rfl
      case h2_a6 => kernel_rfl
      case h3_a6 => rfl
      clear hfr
      intro z w1 hb hd ho K hK
      have e5 : z 5 = .pointer (some ⟨Bc, 0, none⟩) := hd.out 5 (by kernel_rfl)
      clear hd ho
      go_simp
      have hh := hK.out (.pointer (some ⟨Bc, 1, none⟩)) _ (Below.refl _ _) rfl
      simp only [Act.put, List.setIfInBounds_toArray, List.set_cons_zero, List.set_cons_succ, e5] at hh
      exact hh
    refine Rgn.AllOb.cons (j := 8) (by kernel_rfl) ?_ ?_
    · refine' Rgn.ob_body (fr := _) ?hf_a7 ?h1_a7 ?h2_a7 ?h3_a7 ?h_a7
      case hf_a7 => exact hfr
      case h1_a7 => kernel_rfl
      case h2_a7 => kernel_rfl
      case h3_a7 => rfl
      clear hfr
      intro z w1 hb hd ho K hK
      have e6 : z 6 = .pointer (some ⟨Bc, 1, none⟩) := hd.out 6 (by kernel_rfl)
      clear hd ho
      have x0 := cc1.out w1 hb
      go_simp
      have hh := hK.out (.int .i64 (t : Int)) _ (Below.refl _ _) rfl
      simp only [Act.put, List.setIfInBounds_toArray, List.set_cons_zero, List.set_cons_succ, e6] at hh
      exact hh
    refine Rgn.AllOb.cons (j := 9) (by kernel_rfl) ?_ ?_
    · refine' Rgn.ob_body (fr := _) ?hf_a8 ?h1_a8 ?h2_a8 ?h3_a8 ?h_a8
      case hf_a8 => exact hfr
      case h1_a8 => kernel_rfl
      case h2_a8 => kernel_rfl
      case h3_a8 => rfl
      clear hfr
      intro z w1 hb hd ho K hK
      have e7 : z 7 = .int .i64 (t : Int) := hd.out 7 (by kernel_rfl)
      clear hd ho
      go_simp
      have hh := hK.out (.slice (some ⟨w1.heap.size, 0, none⟩) 1 1) _ (below1 _ (.cells #[.int .i64 (t : Int)] 2)) (one_long w1 t (by omega) (by simp only [B9]; omega))
      simp only [Act.put, List.setIfInBounds_toArray, List.set_cons_zero, List.set_cons_succ, e7] at hh
      exact hh
    refine Rgn.AllOb.cons (j := 10) (by kernel_rfl) ?_ ?_
    · refine' Rgn.ob_body (fr := _) ?hf_a9 ?h1_a9 ?h2_a9 ?h3_a9 ?h_a9
      case hf_a9 => exact hfr
      case h1_a9 => kernel_rfl
      case h2_a9 => kernel_rfl
      case h3_a9 => rfl
      clear hfr
      intro z w1 hb hd ho K hK
      have e3 : z 3 = .slice da dl dc := hd.out 3 (by kernel_rfl)
      have e8 : LongS w1 (z 8) (t) := hd.out 8 (by kernel_rfl)
      clear hd ho
      go_simp
      refine (l01Product_any _ _ D t w1 (hD0.out.keep hb) e8 (by omega) (by omega)).mono ?_
      rintro e w2 ⟨r, rfl, hr, b⟩
      have hh := hK.out _ _ b hr
      simp only [Act.put, List.setIfInBounds_toArray, List.set_cons_zero, List.set_cons_succ, e3] at hh
      exact hh
    refine Rgn.AllOb.cons (j := 11) (by kernel_rfl) ?_ ?_
    · refine' Rgn.ob_body (fr := _) ?hf_a10 ?h1_a10 ?h2_a10 ?h3_a10 ?h_a10
      case hf_a10 => exact hfr
      case h1_a10 => kernel_rfl
      case h2_a10 => kernel_rfl
      case h3_a10 => rfl
      clear hfr
      intro z w1 hb hd ho K hK
      have e9 : LongS w1 (z 9) (D * t) := hd.out 9 (by kernel_rfl)
      clear hd ho
      go_simp
      obtain ⟨_, ra, rc, e9s⟩ := e9.len
      rw [e9s] at e9
      simp only [e9s]
      go_simp
      have hh := hK.out _ _ (Below.refl _ _) ⟨_, rfl, e9⟩
      simp only [Act.put, List.setIfInBounds_toArray, List.set_cons_zero, List.set_cons_succ, e9s] at hh
      first | exact hh | (simp only [e9s]; exact hh)
    refine Rgn.AllOb.cons (j := 12) (by kernel_rfl) ?_ ?_
    · refine' Rgn.ob_body (fr := _) ?hf_a11 ?h1_a11 ?h2_a11 ?h3_a11 ?h_a11
      case hf_a11 => exact hfr
      case h1_a11 => kernel_rfl
      case h2_a11 => kernel_rfl
      case h3_a11 => rfl
      clear hfr
      intro z w1 hb hd ho K hK
      clear hd ho
      go_simp
      have hh := hK.out _ _ (below1 _ _) ⟨_, rfl, hb.size, Blk.new _ _ _⟩
      simp only [Act.put, List.setIfInBounds_toArray, List.set_cons_zero, List.set_cons_succ] at hh
      exact hh
    refine Rgn.AllOb.cons (j := 13) (by kernel_rfl) ?_ ?_
    · refine' Rgn.ob_tail0 (fr := _) ?hf_a12 ?h1_a12 ?h3_a12 ?h_a12
      case hf_a12 => exact hfr
      case h1_a12 => kernel_rfl
      case h3_a12 => rfl
      clear hfr
      intro z w1 hb hf hd ho K hK
      obtain ⟨d, e10, hd8⟩ : ∃ d, z 10 = .agg #[.slice none 0 0, d] ∧ LongS w1 d (D * t) := hf.out 10 (by decide) rfl rfl
      obtain ⟨B, e11, hB, hX⟩ : ∃ B : Nat, z 11 = .pointer (some ⟨B, 0, none⟩) ∧ V.heap.size ≤ B ∧ Blk w1 B #[.slice none 0 0, .slice none 0 0] 77 := hf.out 11 (by decide) rfl rfl
      obtain ⟨ra, rl, rc, rfl⟩ := likeS.shape hd8
      have y0 := hX.cell 0
      have y1 := hX.cell 1
      have f0 := hX.frozen 0
      have f1 := hX.frozen 1
      simp only [List.getElem?_toArray, List.getElem?_cons_zero, List.getElem?_cons_succ] at y0 y1
      clear hf hd ho
      go_simp
      have hh := hK.out undef _ ⟨B, ra, rl, rc, e11, hB, by have := (hX.set 0 (.slice none 0 0)).set 1 (.slice ra rl rc); simpa using this, (hd8.setBox hX 0 _).setBox (hX.set 0 _) 1 _, (hb.setCell (p := ⟨B, 0, none⟩) hB _).setCell (p := ⟨B, 1, none⟩) hB _⟩
      simp only [Act.put, List.setIfInBounds_toArray, List.set_cons_zero, List.set_cons_succ, e10, e11] at hh
      exact hh
    exact Rgn.AllOb.nil
  case hend_a =>
    intro hfr
    refine' Rgn.end_tails (fr := _) ?g1_a ?g2_a ?g3_a
    case g1_a => exact hfr
    case g2_a => rfl
    clear hfr
    intro z w6 hT hg
    obtain ⟨O, da2, dl2, dc2, e11, hO, hOb, hDD, b6⟩ := hT
    replace e11 : z 11 = .pointer (some ⟨O, 0, none⟩) := e11
    simp only [e11]
    have hvec := Lib.hid (show VecAt w6 O ((stepN W A n).take 0) none 0 (.slice da2 dl2 dc2) (D * t) from ⟨hOb, MadeL.nil _ _ _, hDD⟩)
    have hOV := Lib.hid hO
    have b6' := Lib.hid b6
    have hkl0 := Lib.hid (fun k (h : k ≤ n) => (show ((stepN W A n).take k).length = k by rw [List.length_take, stepN_length]; omega))
    have hnx := Lib.hid (fun k (h : k < n) => stepN_take W A n k h)
    obtain ⟨DD, hDDe⟩ : ∃ d, D * t = d := ⟨_, rfl⟩
    rw [hDDe] at hvec
    have hDDe' := Lib.hid hDDe
    obtain ⟨kk0, kk1, kk2⟩ := (⟨cc0.out w6 b6, cc1.out w6 b6, cc2.out w6 b6⟩ : _ ∧ _ ∧ _)
    clear e11 hg hO hOb hDD b6 hDDe
    go_wp2
    go_loopw [6] (fun i wr => ∃ (k : Nat) (na : Option Addr) (nc2 : Nat), k ≤ n ∧ i = .int .i64 (k : Int) ∧ Hid (VecAt wr O ((stepN W A n).take k) na nc2 (.slice da2 dl2 dc2) DD) ∧ Hid (Below V.heap.size V wr)) (fun i _ => n - (intOf i).toNat)
    case atStart => exact ⟨0, _, _, Nat.zero_le _, rfl, hvec, b6'⟩
    case round =>
      clear hvec b6' kk0 kk1 kk2
      obtain ⟨k, na2, nc2, hk, rfl, hvec, bel⟩ := hrel
      obtain ⟨kk0, kk1, kk2⟩ := (⟨cc0.out wr bel.out, cc1.out wr bel.out, cc2.out wr bel.out⟩ : _ ∧ _ ∧ _)
      by_cases hlt : k < n
      · have i1 : (k : Int) < (n : Int) := by omega
        have hlt' := Lib.hid hlt
        have hS0 := Lib.hid (zero_long0 wr)
        have bS0 := Lib.hid (below1 wr (.cells #[] 2))
        have hdk := Lib.hid (fun j hj => hdot.out k j hlt hj)
        obtain ⟨wx, hwx⟩ : ∃ wx, wr = wx := ⟨_, rfl⟩
        rw [hwx] at hvec bel hS0 bS0 kk0 kk1 kk2 ⊢
        clear hlt hwx
        go_wp2
        go_loopw [7, 8] (fun sv i wr => ∃ (s : Nat) (sa : Option Addr) (sl sc : Nat), s ≤ n ∧ i = .int .i64 (s : Int) ∧ sv = .slice sa sl sc ∧ Hid (LongS wr (.slice sa sl sc) (dotN W A k s)) ∧ Hid (Below wx.heap.size wx wr)) (fun _ i _ => n - (intOf i).toNat)
        case atStart => exact ⟨0, _, _, _, Nat.zero_le _, rfl, rfl, hS0, bS0⟩
        case round =>
          clear hS0 bS0 kk0 kk1 kk2
          obtain ⟨s, sa, sl, sc, hs, rfl, rfl, hS, bx⟩ := hrel
          have bel0 := bel
          replace bel := Lib.hid (below_wt bel0.out bx.out)
          obtain ⟨kk0, kk1, kk2⟩ := (⟨cc0.out wr bel.out, cc1.out wr bel.out, cc2.out wr bel.out⟩ : _ ∧ _ ∧ _)
          by_cases hsn : s < n
          · have i2 : (s : Int) < (n : Int) := by omega
            have hsn' := Lib.hid hsn
            obtain ⟨wb, wo, wcap, rv, hwa, _, hc⟩ := (hW0.out.keep bel.out).at (by rw [hWl.out]; omega)
            simp only [Value.slice.injEq] at hwa
            obtain ⟨rfl, -, rfl⟩ := hwa
            obtain ⟨hck, hri⟩ := hc s (by rw [hWl.out]; exact hsn)
            obtain ⟨hrl, hrb⟩ := hrow.out s hsn
            obtain ⟨rb, ro, rc, hrk, _, hcr⟩ := hri.at (by omega)
            rw [hrl] at hrk
            rw [hrk] at hck
            have hcx := hcr k (by rw [hrl]; exact hlt'.out)
            obtain ⟨h0, h1⟩ := hrb _ (getD_mem (d := 0) (show k < (W.getD s []).length by rw [hrl]; exact hlt'.out))
            obtain ⟨x, hx⟩ : ∃ x : Nat, (W.getD s []).getD k 0 = (x : Int) := ⟨_, (Int.toNat_of_nonneg h0).symm⟩
            have hwx : wt W s k = x := by unfold wt; rw [hx, Int.toNat_natCast]
            rw [hx] at hcx h1
            by_cases hx0 : x = 0
            · subst hx0
              have hSn := Lib.hid (show LongS wr (.slice sa sl sc) (dotN W A k (s + 1)) by rw [dotN_skip hwx]; exact hS.out)
              clear hS hc hri hrl hrb hcr hrk hwx hx h0 h1 hsn
              go_wp2
              go_roundw
              case rel => exact ⟨s + 1, _, _, _, by have := hsn'.out; omega, by go_num, rfl, hSn, bx⟩
              case measure => have := hsn'.out; simp [intOf]; omega
            · have hxp : (0 : Int) < (x : Int) := by omega
              have hxd : decide (0 < x) = true := decide_eq_true (by omega)
              obtain ⟨ab, ao, xv, hna, hcA, hX0⟩ := (hA0.out.keep likeS bel.out).at s (by rw [hl.out]; exact hsn)
              subst hna
              obtain ⟨xa, xn, xc, rfl⟩ := likeS.shape hX0
              have dX := hAl.out s hsn
              have hdS := hdk.out s hsn
              have hnext := Lib.hid (show dotN W A k (s + 1) = dotN W A k s + A.getD s 0 * x by rw [dotN_next, hwx])
              have dx : dlen B9 x ≤ 1 := dlen_le b9 (show x < B9 ^ 1 by simp only [B9]; omega)
              generalize A.getD s 0 = X at *
              generalize dotN W A k s = S at *
              have dXx := mul_dlen' dX dx
              have hX := Lib.hid hX0
              have cA := Lib.hid (fun w1 (hb : Below wr.heap.size wr w1) => (hb.cell (p := ⟨ab, ao + s, none⟩) (block_lt hcA)).trans hcA)
              have cR := Lib.hid (fun w1 (hb : Below wr.heap.size wr w1) => (hb.cell (p := ⟨wb, wo + s, none⟩) (block_lt hck)).trans hck)
              have cX := Lib.hid (fun w1 (hb : Below wr.heap.size wr w1) => (hb.cell (p := ⟨rb, ro + k, none⟩) (block_lt hcx)).trans hcx)
              have i3 : (0 : Int) ≤ (s : Int) := by omega
              have i4 : (0 : Int) ≤ (k : Int) := by omega
              clear hX0 hcA hc hri hrl hrb hcr hrk hwx hx h0 hsn hx0
              go_upto_region 10 with fail
              clear hxd hck hcx kk0 kk1 kk2
              refine' Rgn.region_by (fun _ => 0) 0 (fun _ => false) (fun i _ v w' => match i with
                  | 0 => v = .slice sa sl sc
                  | 1 => v = .pointer (some ⟨Bv, 0, none⟩)
                  | 2 => v = .pointer (some ⟨Bv, 0, none⟩)
                  | 3 => v = .pointer (some ⟨Bv, 0, none⟩)
                  | 4 => v = .slice (some ⟨ab, ao, none⟩) n nc
                  | 5 => v = .int .i64 (s : Int)
                  | 6 => v = .pointer (some ⟨ab, ao + s, none⟩)
                  | 7 => v = .slice xa xn xc
                  | 8 => v = .pointer (some ⟨Bc, 0, none⟩)
                  | 9 => v = .pointer (some ⟨Bc, 0, none⟩)
                  | 10 => v = .pointer (some ⟨Bc, 2, none⟩)
                  | 11 => v = .slice (some ⟨wb, wo, none⟩) n wc
                  | 12 => v = .int .i64 (s : Int)
                  | 13 => v = .pointer (some ⟨wb, wo + s, none⟩)
                  | 14 => v = .slice (some ⟨rb, ro, none⟩) n rc
                  | 15 => v = .int .i64 (k : Int)
                  | 16 => v = .pointer (some ⟨rb, ro + k, none⟩)
                  | 17 => v = .int .i64 (x : Int)
                  | 18 => LongS w' v (x)
                  | 19 => LongS w' v (X * x)
                  | 20 => LongS w' v (S + X * x)
                  | 21 => LongS w' v (S + X * x)
                  | _ => True) (fun i _ v => match i with
                  | 0 => v = .slice sa sl sc
                  | 1 => v = .pointer (some ⟨Bv, 0, none⟩)
                  | 2 => v = .pointer (some ⟨Bv, 0, none⟩)
                  | 3 => v = .pointer (some ⟨Bv, 0, none⟩)
                  | 4 => v = .slice (some ⟨ab, ao, none⟩) n nc
                  | 5 => v = .int .i64 (s : Int)
                  | 6 => v = .pointer (some ⟨ab, ao + s, none⟩)
                  | 7 => v = .slice xa xn xc
                  | 8 => v = .pointer (some ⟨Bc, 0, none⟩)
                  | 9 => v = .pointer (some ⟨Bc, 0, none⟩)
                  | 10 => v = .pointer (some ⟨Bc, 2, none⟩)
                  | 11 => v = .slice (some ⟨wb, wo, none⟩) n wc
                  | 12 => v = .int .i64 (s : Int)
                  | 13 => v = .pointer (some ⟨wb, wo + s, none⟩)
                  | 14 => v = .slice (some ⟨rb, ro, none⟩) n rc
                  | 15 => v = .int .i64 (k : Int)
                  | 16 => v = .pointer (some ⟨rb, ro + k, none⟩)
                  | 17 => v = .int .i64 (x : Int)
                  | 18 => True
                  | 19 => True
                  | 20 => True
                  | 21 => True
                  | _ => True)
                  (fun _ _ _ => True) (by kernel_rfl) (by kernel_rfl) (by kernel_rfl) ?hst_b ?hG_b _ ?hfr_b ?hob_b ?hend_b
              case hfr_b =>
                intro z
                simp only [Rgn.fillAll, Act.put, List.setIfInBounds_toArray, List.set_cons_zero, List.set_cons_succ, Nat.reduceAdd, Nat.zero_add]
                exact rfl
              case hst_b =>
                intro i z v w1 w2 hi hb hx
                rcases i with _ | i
                · exact hx
                rcases i with _ | i
                · exact hx
                rcases i with _ | i
                · exact hx
                rcases i with _ | i
                · exact hx
                rcases i with _ | i
                · exact hx
                rcases i with _ | i
                · exact hx
                rcases i with _ | i
                · exact hx
                rcases i with _ | i
                · exact hx
                rcases i with _ | i
                · exact hx
                rcases i with _ | i
                · exact hx
                rcases i with _ | i
                · exact hx
                rcases i with _ | i
                · exact hx
                rcases i with _ | i
                · exact hx
                rcases i with _ | i
                · exact hx
                rcases i with _ | i
                · exact hx
                rcases i with _ | i
                · exact hx
                rcases i with _ | i
                · exact hx
                rcases i with _ | i
                · exact hx
                rcases i with _ | i
                · exact (fun v w1 w2 hb h => h.keep hb) v w1 w2 hb hx
                rcases i with _ | i
                · exact (fun v w1 w2 hb h => h.keep hb) v w1 w2 hb hx
                rcases i with _ | i
                · exact (fun v w1 w2 hb h => h.keep hb) v w1 w2 hb hx
                rcases i with _ | i
                · exact (fun v w1 w2 hb h => h.keep hb) v w1 w2 hb hx
                exact trivial
              case hG_b =>
                intro i z v w1 hi hx
                rcases i with _ | i
                · exact hx
                rcases i with _ | i
                · exact hx
                rcases i with _ | i
                · exact hx
                rcases i with _ | i
                · exact hx
                rcases i with _ | i
                · exact hx
                rcases i with _ | i
                · exact hx
                rcases i with _ | i
                · exact hx
                rcases i with _ | i
                · exact hx
                rcases i with _ | i
                · exact hx
                rcases i with _ | i
                · exact hx
                rcases i with _ | i
                · exact hx
                rcases i with _ | i
                · exact hx
                rcases i with _ | i
                · exact hx
                rcases i with _ | i
                · exact hx
                rcases i with _ | i
                · exact hx
                rcases i with _ | i
                · exact hx
                rcases i with _ | i
                · exact hx
                rcases i with _ | i
                · exact hx
                rcases i with _ | i
                · trivial
                rcases i with _ | i
                · trivial
                rcases i with _ | i
                · trivial
                rcases i with _ | i
                · trivial
                exact trivial
              case hob_b =>
                intro hfr
                refine Rgn.AllOb.cons (j := 1) (by kernel_rfl) ?_ ?_
                · refine' Rgn.ob_body (fr := _) ?hf_b0 ?h1_b0 ?h2_b0 ?h3_b0 ?h_b0
                  case hf_b0 => exact hfr
                  case h1_b0 => kernel_rfl
                  case h2_b0 => kernel_rfl
                  case h3_b0 => rfl
                  clear hfr
                  intro z w1 hb hd ho K hK
                  have o21 : z 21 = .slice sa sl sc := ho.out 21 (by kernel_rfl)
                  clear hd ho
                  go_simp
                  have hh := hK.out (.slice sa sl sc) _ (Below.refl _ _) rfl
                  simp only [Act.put, List.setIfInBounds_toArray, List.set_cons_zero, List.set_cons_succ, o21] at hh
                  exact hh
                refine Rgn.AllOb.cons (j := 2) (by kernel_rfl) ?_ ?_
                · refine' Rgn.ob_body (fr := _) ?hf_b1 ?h1_b1 ?h2_b1 ?h3_b1 ?h_b1
                  case hf_b1 => exact hfr
                  case h1_b1 => kernel_rfl
                  case h2_b1 => kernel_rfl
                  case h3_b1 => rfl
                  clear hfr
                  intro z w1 hb hd ho K hK
                  clear hd ho
                  go_simp
                  have hh := hK.out (.pointer (some ⟨Bv, 0, none⟩)) _ (Below.refl _ _) rfl
                  simp only [Act.put, List.setIfInBounds_toArray, List.set_cons_zero, List.set_cons_succ] at hh
                  exact hh
                refine Rgn.AllOb.cons (j := 3) (by kernel_rfl) ?_ ?_
                · refine' Rgn.ob_body (fr := _) ?hf_b2 ?h1_b2 ?h2_b2 ?h3_b2 ?h_b2
                  case hf_b2 => exact hfr
                  case h1_b2 => kernel_rfl
                  case h2_b2 => kernel_rfl
                  case h3_b2 => rfl
                  clear hfr
                  intro z w1 hb hd ho K hK
                  have e1 : z 1 = .pointer (some ⟨Bv, 0, none⟩) := hd.out 1 (by kernel_rfl)
                  clear hd ho
                  go_simp
                  have hh := hK.out (.pointer (some ⟨Bv, 0, none⟩)) _ (Below.refl _ _) rfl
                  simp only [Act.put, List.setIfInBounds_toArray, List.set_cons_zero, List.set_cons_succ, e1] at hh
                  exact hh
                refine Rgn.AllOb.cons (j := 4) (by kernel_rfl) ?_ ?_
                · refine' Rgn.ob_body (fr := _) ?hf_b3 ?h1_b3 ?h2_b3 ?h3_b3 ?h_b3
                  case hf_b3 => exact hfr
                  case h1_b3 => kernel_rfl
                  case h2_b3 => kernel_rfl
                  case h3_b3 => rfl
                  clear hfr
                  intro z w1 hb hd ho K hK
                  have e2 : z 2 = .pointer (some ⟨Bv, 0, none⟩) := hd.out 2 (by kernel_rfl)
                  clear hd ho
                  go_simp
                  have hh := hK.out (.pointer (some ⟨Bv, 0, none⟩)) _ (Below.refl _ _) rfl
                  simp only [Act.put, List.setIfInBounds_toArray, List.set_cons_zero, List.set_cons_succ, e2] at hh
                  exact hh
                refine Rgn.AllOb.cons (j := 5) (by kernel_rfl) ?_ ?_
                · refine' Rgn.ob_body (fr := _) ?hf_b4 ?h1_b4 ?h2_b4 ?h3_b4 ?h_b4
                  case hf_b4 => exact hfr
                  case h1_b4 => kernel_rfl
                  case h2_b4 => kernel_rfl
                  case h3_b4 => rfl
                  clear hfr
                  intro z w1 hb hd ho K hK
                  have e3 : z 3 = .pointer (some ⟨Bv, 0, none⟩) := hd.out 3 (by kernel_rfl)
                  clear hd ho
                  have x0 := cv0.out w1 (below_wt bel.out hb)
                  go_simp
                  have hh := hK.out (.slice (some ⟨ab, ao, none⟩) n nc) _ (Below.refl _ _) rfl
                  simp only [Act.put, List.setIfInBounds_toArray, List.set_cons_zero, List.set_cons_succ, e3] at hh
                  exact hh
                refine Rgn.AllOb.cons (j := 6) (by kernel_rfl) ?_ ?_
                · refine' Rgn.ob_body (fr := _) ?hf_b5 ?h1_b5 ?h2_b5 ?h3_b5 ?h_b5
                  case hf_b5 => exact hfr
                  case h1_b5 => kernel_rfl
                  case h2_b5 => kernel_rfl
                  case h3_b5 => rfl
                  clear hfr
                  intro z w1 hb hd ho K hK
                  clear hd ho
                  go_simp
                  have hh := hK.out (.int .i64 (s : Int)) _ (Below.refl _ _) rfl
                  simp only [Act.put, List.setIfInBounds_toArray, List.set_cons_zero, List.set_cons_succ] at hh
                  exact hh
                refine Rgn.AllOb.cons (j := 7) (by kernel_rfl) ?_ ?_
                · refine' Rgn.ob_body (fr := _) ?hf_b6 ?h1_b6 ?h2_b6 ?h3_b6 ?h_b6
                  case hf_b6 => exact hfr
                  case h1_b6 => kernel_rfl
                  case h2_b6 => kernel_rfl
                  case h3_b6 => rfl
                  clear hfr
                  intro z w1 hb hd ho K hK
                  have e4 : z 4 = .slice (some ⟨ab, ao, none⟩) n nc := hd.out 4 (by kernel_rfl)
                  have e5 : z 5 = .int .i64 (s : Int) := hd.out 5 (by kernel_rfl)
                  clear hd ho
                  go_simp
                  have hh := hK.out (.pointer (some ⟨ab, ao + s, none⟩)) _ (Below.refl _ _) rfl
                  simp only [Act.put, List.setIfInBounds_toArray, List.set_cons_zero, List.set_cons_succ, e4, e5] at hh
                  exact hh
                refine Rgn.AllOb.cons (j := 8) (by kernel_rfl) ?_ ?_
                · refine' Rgn.ob_body (fr := _) ?hf_b7 ?h1_b7 ?h2_b7 ?h3_b7 ?h_b7
                  case hf_b7 => exact hfr
                  case h1_b7 => kernel_rfl
                  case h2_b7 => kernel_rfl
                  case h3_b7 => rfl
                  clear hfr
                  intro z w1 hb hd ho K hK
                  have e6 : z 6 = .pointer (some ⟨ab, ao + s, none⟩) := hd.out 6 (by kernel_rfl)
                  clear hd ho
                  have x0 := cA.out w1 hb
                  go_simp
                  have hh := hK.out (.slice xa xn xc) _ (Below.refl _ _) rfl
                  simp only [Act.put, List.setIfInBounds_toArray, List.set_cons_zero, List.set_cons_succ, e6] at hh
                  exact hh
                refine Rgn.AllOb.cons (j := 9) (by kernel_rfl) ?_ ?_
                · refine' Rgn.ob_body (fr := _) ?hf_b8 ?h1_b8 ?h2_b8 ?h3_b8 ?h_b8
                  case hf_b8 => exact hfr
                  case h1_b8 => kernel_rfl
                  case h2_b8 => kernel_rfl
                  case h3_b8 => rfl
                  clear hfr
                  intro z w1 hb hd ho K hK
                  clear hd ho
                  go_simp
                  have hh := hK.out (.pointer (some ⟨Bc, 0, none⟩)) _ (Below.refl _ _) rfl
                  simp only [Act.put, List.setIfInBounds_toArray, List.set_cons_zero, List.set_cons_succ] at hh
                  exact hh
                refine Rgn.AllOb.cons (j := 10) (by kernel_rfl) ?_ ?_
                · refine' Rgn.ob_body (fr := _) ?hf_b9 ?h1_b9 ?h2_b9 ?h3_b9 ?h_b9
                  case hf_b9 => exact hfr
                  case h1_b9 => kernel_rfl
                  case h2_b9 => kernel_rfl
                  case h3_b9 => rfl
                  clear hfr
                  intro z w1 hb hd ho K hK
                  have e8 : z 8 = .pointer (some ⟨Bc, 0, none⟩) := hd.out 8 (by kernel_rfl)
                  clear hd ho
                  go_simp
                  have hh := hK.out (.pointer (some ⟨Bc, 0, none⟩)) _ (Below.refl _ _) rfl
                  simp only [Act.put, List.setIfInBounds_toArray, List.set_cons_zero, List.set_cons_succ, e8] at hh
                  exact hh
                refine Rgn.AllOb.cons (j := 11) (by kernel_rfl) ?_ ?_
                · refine' Rgn.ob_body (fr := _) ?hf_b10 ?h1_b10 ?h2_b10 ?h3_b10 ?h_b10
                  case hf_b10 => exact hfr
                  case h1_b10 => kernel_rfl
                  case h2_b10 => kernel_rfl
                  case h3_b10 => rfl
                  clear hfr
                  intro z w1 hb hd ho K hK
                  have e9 : z 9 = .pointer (some ⟨Bc, 0, none⟩) := hd.out 9 (by kernel_rfl)
                  clear hd ho
                  go_simp
                  have hh := hK.out (.pointer (some ⟨Bc, 2, none⟩)) _ (Below.refl _ _) rfl
                  simp only [Act.put, List.setIfInBounds_toArray, List.set_cons_zero, List.set_cons_succ, e9] at hh
                  exact hh
                refine Rgn.AllOb.cons (j := 12) (by kernel_rfl) ?_ ?_
                · refine' Rgn.ob_body (fr := _) ?hf_b11 ?h1_b11 ?h2_b11 ?h3_b11 ?h_b11
                  case hf_b11 => exact hfr
                  case h1_b11 => kernel_rfl
                  case h2_b11 => kernel_rfl
                  case h3_b11 => rfl
                  clear hfr
                  intro z w1 hb hd ho K hK
                  have e10 : z 10 = .pointer (some ⟨Bc, 2, none⟩) := hd.out 10 (by kernel_rfl)
                  clear hd ho
                  have x0 := cc2.out w1 (below_wt bel.out hb)
                  go_simp
                  have hh := hK.out (.slice (some ⟨wb, wo, none⟩) n wc) _ (Below.refl _ _) rfl
                  simp only [Act.put, List.setIfInBounds_toArray, List.set_cons_zero, List.set_cons_succ, e10] at hh
                  exact hh
                refine Rgn.AllOb.cons (j := 13) (by kernel_rfl) ?_ ?_
                · refine' Rgn.ob_body (fr := _) ?hf_b12 ?h1_b12 ?h2_b12 ?h3_b12 ?h_b12
                  case hf_b12 => exact hfr
                  case h1_b12 => kernel_rfl
                  case h2_b12 => kernel_rfl
                  case h3_b12 => rfl
                  clear hfr
                  intro z w1 hb hd ho K hK
                  clear hd ho
                  go_simp
                  have hh := hK.out (.int .i64 (s : Int)) _ (Below.refl _ _) rfl
                  simp only [Act.put, List.setIfInBounds_toArray, List.set_cons_zero, List.set_cons_succ] at hh
                  exact hh
                refine Rgn.AllOb.cons (j := 14) (by kernel_rfl) ?_ ?_
                · refine' Rgn.ob_body (fr := _) ?hf_b13 ?h1_b13 ?h2_b13 ?h3_b13 ?h_b13
                  case hf_b13 => exact hfr
                  case h1_b13 => kernel_rfl
                  case h2_b13 => kernel_rfl
                  case h3_b13 => rfl
                  clear hfr
                  intro z w1 hb hd ho K hK
                  have e11 : z 11 = .slice (some ⟨wb, wo, none⟩) n wc := hd.out 11 (by kernel_rfl)
                  have e12 : z 12 = .int .i64 (s : Int) := hd.out 12 (by kernel_rfl)
                  clear hd ho
                  go_simp
                  have hh := hK.out (.pointer (some ⟨wb, wo + s, none⟩)) _ (Below.refl _ _) rfl
                  simp only [Act.put, List.setIfInBounds_toArray, List.set_cons_zero, List.set_cons_succ, e11, e12] at hh
                  exact hh
                refine Rgn.AllOb.cons (j := 15) (by kernel_rfl) ?_ ?_
                · refine' Rgn.ob_body (fr := _) ?hf_b14 ?h1_b14 ?h2_b14 ?h3_b14 ?h_b14
                  case hf_b14 => exact hfr
                  case h1_b14 => kernel_rfl
                  case h2_b14 => kernel_rfl
                  case h3_b14 => rfl
                  clear hfr
                  intro z w1 hb hd ho K hK
                  have e13 : z 13 = .pointer (some ⟨wb, wo + s, none⟩) := hd.out 13 (by kernel_rfl)
                  clear hd ho
                  have x0 := cR.out w1 hb
                  go_simp
                  have hh := hK.out (.slice (some ⟨rb, ro, none⟩) n rc) _ (Below.refl _ _) rfl
                  simp only [Act.put, List.setIfInBounds_toArray, List.set_cons_zero, List.set_cons_succ, e13] at hh
                  exact hh
                refine Rgn.AllOb.cons (j := 16) (by kernel_rfl) ?_ ?_
                · refine' Rgn.ob_body (fr := _) ?hf_b15 ?h1_b15 ?h2_b15 ?h3_b15 ?h_b15
                  case hf_b15 => exact hfr
                  case h1_b15 => kernel_rfl
                  case h2_b15 => kernel_rfl
                  case h3_b15 => rfl
                  clear hfr
                  intro z w1 hb hd ho K hK
                  clear hd ho
                  go_simp
                  have hh := hK.out (.int .i64 (k : Int)) _ (Below.refl _ _) rfl
                  simp only [Act.put, List.setIfInBounds_toArray, List.set_cons_zero, List.set_cons_succ] at hh
                  exact hh
                refine Rgn.AllOb.cons (j := 17) (by kernel_rfl) ?_ ?_
                · refine' Rgn.ob_body (fr := _) ?hf_b16 ?h1_b16 ?h2_b16 ?h3_b16 ?h_b16
                  case hf_b16 => exact hfr
                  case h1_b16 => kernel_rfl
                  case h2_b16 => kernel_rfl
                  case h3_b16 => rfl
                  clear hfr
                  intro z w1 hb hd ho K hK
                  have e14 : z 14 = .slice (some ⟨rb, ro, none⟩) n rc := hd.out 14 (by kernel_rfl)
                  have e15 : z 15 = .int .i64 (k : Int) := hd.out 15 (by kernel_rfl)
                  clear hd ho
                  go_simp
                  have hh := hK.out (.pointer (some ⟨rb, ro + k, none⟩)) _ (Below.refl _ _) rfl
                  simp only [Act.put, List.setIfInBounds_toArray, List.set_cons_zero, List.set_cons_succ, e14, e15] at hh
                  exact hh
                refine Rgn.AllOb.cons (j := 18) (by kernel_rfl) ?_ ?_
                · refine' Rgn.ob_body (fr := _) ?hf_b17 ?h1_b17 ?h2_b17 ?h3_b17 ?h_b17
                  case hf_b17 => exact hfr
                  case h1_b17 => kernel_rfl
                  case h2_b17 => kernel_rfl
                  case h3_b17 => rfl
                  clear hfr
                  intro z w1 hb hd ho K hK
                  have e16 : z 16 = .pointer (some ⟨rb, ro + k, none⟩) := hd.out 16 (by kernel_rfl)
                  clear hd ho
                  have x0 := cX.out w1 hb
                  go_simp
                  have hh := hK.out (.int .i64 (x : Int)) _ (Below.refl _ _) rfl
                  simp only [Act.put, List.setIfInBounds_toArray, List.set_cons_zero, List.set_cons_succ, e16] at hh
                  exact hh
                refine Rgn.AllOb.cons (j := 19) (by kernel_rfl) ?_ ?_
                · refine' Rgn.ob_body (fr := _) ?hf_b18 ?h1_b18 ?h2_b18 ?h3_b18 ?h_b18
                  case hf_b18 => exact hfr
                  case h1_b18 => kernel_rfl
                  case h2_b18 => kernel_rfl
                  case h3_b18 => rfl
                  clear hfr
                  intro z w1 hb hd ho K hK
                  have e17 : z 17 = .int .i64 (x : Int) := hd.out 17 (by kernel_rfl)
                  clear hd ho
                  go_simp
                  have hh := hK.out (.slice (some ⟨w1.heap.size, 0, none⟩) 1 1) _ (below1 _ (.cells #[.int .i64 (x : Int)] 2)) (one_long w1 x (by omega) (by simp only [B9]; omega))
                  simp only [Act.put, List.setIfInBounds_toArray, List.set_cons_zero, List.set_cons_succ, e17] at hh
                  exact hh
                refine Rgn.AllOb.cons (j := 20) (by kernel_rfl) ?_ ?_
                · refine' Rgn.ob_body (fr := _) ?hf_b19 ?h1_b19 ?h2_b19 ?h3_b19 ?h_b19
                  case hf_b19 => exact hfr
                  case h1_b19 => kernel_rfl
                  case h2_b19 => kernel_rfl
                  case h3_b19 => rfl
                  clear hfr
                  intro z w1 hb hd ho K hK
                  have e7 : z 7 = .slice xa xn xc := hd.out 7 (by kernel_rfl)
                  have e18 : LongS w1 (z 18) (x) := hd.out 18 (by kernel_rfl)
                  clear hd ho
                  go_simp
                  refine (l01Product_any _ _ X x w1 (hX.out.keep hb) e18 (by omega) (by omega)).mono ?_
                  rintro e w2 ⟨r, rfl, hr, b⟩
                  have hh := hK.out _ _ b hr
                  simp only [Act.put, List.setIfInBounds_toArray, List.set_cons_zero, List.set_cons_succ, e7] at hh
                  exact hh
                refine Rgn.AllOb.cons (j := 21) (by kernel_rfl) ?_ ?_
                · refine' Rgn.ob_body (fr := _) ?hf_b20 ?h1_b20 ?h2_b20 ?h3_b20 ?h_b20
                  case hf_b20 => exact hfr
                  case h1_b20 => kernel_rfl
                  case h2_b20 => kernel_rfl
                  case h3_b20 => rfl
                  clear hfr
                  intro z w1 hb hd ho K hK
                  have e0 : z 0 = .slice sa sl sc := hd.out 0 (by kernel_rfl)
                  have e19 : LongS w1 (z 19) (X * x) := hd.out 19 (by kernel_rfl)
                  clear hd ho
                  go_simp
                  refine (l01Plus_any _ _ S (X * x) w1 (hS.out.keep hb) e19 (by omega) (by omega)).mono ?_
                  rintro e w2 ⟨r, rfl, hr, b⟩
                  have hh := hK.out _ _ b hr
                  simp only [Act.put, List.setIfInBounds_toArray, List.set_cons_zero, List.set_cons_succ, e0] at hh
                  exact hh
                refine Rgn.AllOb.cons (j := 22) (by kernel_rfl) ?_ ?_
                · refine' Rgn.ob_body (fr := _) ?hf_b21 ?h1_b21 ?h2_b21 ?h3_b21 ?h_b21
                  case hf_b21 => exact hfr
                  case h1_b21 => kernel_rfl
                  case h2_b21 => kernel_rfl
                  case h3_b21 => rfl
                  clear hfr
                  intro z w1 hb hd ho K hK
                  have e20 : LongS w1 (z 20) (S + X * x) := hd.out 20 (by kernel_rfl)
                  clear hd ho
                  go_simp
                  have hh := hK.out _ _ (Below.refl _ _) e20
                  simp only [Act.put, List.setIfInBounds_toArray, List.set_cons_zero, List.set_cons_succ] at hh
                  exact hh
                exact Rgn.AllOb.nil
              case hend_b =>
                intro hfr
                refine' Rgn.end_plain (fr := _) ?g1_b ?g2_b ?g3_b
                case g1_b => exact hfr
                case g2_b => kernel_rfl
                clear hfr
                intro z w7 b7 hf
                have e21 : LongS w7 (z 21) (S + X * x) := hf.out 21 (by decide)
                obtain ⟨ta, tl, tc, e21s⟩ := likeS.shape e21
                rw [e21s] at e21
                simp only [e21s]
                have hSn := Lib.hid (show LongS w7 (.slice ta tl tc) (dotN W A k (s + 1)) by rw [hnext.out]; exact e21)
                have bx' := Lib.hid (below_wt bx.out b7)
                clear hf e21 e21s b7 hS hX cA cR cX bx bel bel0
                go_wp2
                go_roundw
                case rel => exact ⟨s + 1, _, _, _, by have := hsn'.out; omega, by go_num, rfl, hSn, bx'⟩
                case measure => have := hsn'.out; simp [intOf]; omega
          · obtain rfl : n = s := by omega
            have hnn : ¬ (n : Int) < (n : Int) := by omega
            have hvec1 := hvec.out.keep bx.out
            have hRl := Lib.hid (hkl0.out k hk)
            have hnxk := Lib.hid (hnx.out k hlt'.out)
            generalize dotN W A k n = S at *
            have dS : True := trivial
            generalize (stepN W A n).take k = R at *
            rw [VecAt] at hvec1
            have hvec2 := Lib.hid (show VecAt wr O R na2 nc2 (.slice da2 dl2 dc2) DD from hvec1)
            have cO0 := Lib.hid (fun w1 (hb : Below wr.heap.size wr w1) => (show w1.cell? ⟨O, 0, none⟩ = some (.slice na2 k nc2) from by have := (hvec2.out.keep hb).1.cell 0; rw [hRl.out] at this; exact this))
            have bV := bel
            replace hvec := hvec2
            clear hvec1 hvec2 hsn
            go_upto_region 11 with fail
            refine' Rgn.region_by (fun i => match i with | 5 => 1 | 6 => 2 | 7 => 3 | _ => 0) 3 (fun _ => false) (fun i _ v w' => match i with
                | 0 => v = .pointer (some ⟨O, 0, none⟩)
                | 1 => v = .slice na2 k nc2
                | 2 => v = .slice sa sl sc
                | 3 => LongS w' v (S)
                | 4 => ∃ b p, v = .slice (some ⟨b, 0, none⟩) 1 1 ∧ Blk w' b #[p] 75 ∧ LongS w' p (S)
                | _ => True) (fun i _ v => match i with
                | 0 => v = .pointer (some ⟨O, 0, none⟩)
                | 1 => v = .slice na2 k nc2
                | 2 => v = .slice sa sl sc
                | 3 => True
                | 4 => True
                | _ => True)
                (fun p z w' => ∃ g cap, z 5 = .slice (some ⟨g, 0, none⟩) (k + 1) cap ∧ (p ≤ 2 → Blk w' O #[.slice na2 k nc2, .slice da2 dl2 dc2] 77 ∧ MadeL LongS 75 w' (O + 1) (.slice (some ⟨g, 0, none⟩) (k + 1) cap) (R ++ [S]) ∧ LongS w' (.slice da2 dl2 dc2) DD ∧ O + 1 ≤ g) ∧ (p = 2 → z 6 = .pointer (some ⟨O, 0, none⟩)) ∧ (p = 3 → VecAt w' O (R ++ [S]) (some ⟨g, 0, none⟩) cap (.slice da2 dl2 dc2) DD) ∧ Below V.heap.size V w') (by kernel_rfl) (by kernel_rfl) (by kernel_rfl) ?hst_c ?hG_c _ ?hfr_c ?hob_c ?hend_c
            case hfr_c =>
              intro z
              simp only [Rgn.fillAll, Act.put, List.setIfInBounds_toArray, List.set_cons_zero, List.set_cons_succ, Nat.reduceAdd, Nat.zero_add]
              exact rfl
            case hst_c =>
              intro i z v w1 w2 hi hb hx
              rcases i with _ | i
              · exact hx
              rcases i with _ | i
              · exact hx
              rcases i with _ | i
              · exact hx
              rcases i with _ | i
              · exact (fun v w1 w2 hb h => h.keep hb) v w1 w2 hb hx
              rcases i with _ | i
              · exact (fun v w1 w2 hb h => h.elim fun b h => h.elim fun p h => ⟨b, p, h.1, h.2.1.step hb, h.2.2.keep hb⟩) v w1 w2 hb hx
              rcases i with _ | i
              · exact trivial
              rcases i with _ | i
              · exact trivial
              rcases i with _ | i
              · exact trivial
              exact trivial
            case hG_c =>
              intro i z v w1 hi hx
              rcases i with _ | i
              · exact hx
              rcases i with _ | i
              · exact hx
              rcases i with _ | i
              · exact hx
              rcases i with _ | i
              · trivial
              rcases i with _ | i
              · trivial
              rcases i with _ | i
              · exact trivial
              rcases i with _ | i
              · exact trivial
              rcases i with _ | i
              · exact trivial
              exact trivial
            case hob_c =>
              intro hfr
              refine Rgn.AllOb.cons (j := 1) (by kernel_rfl) ?_ ?_
              · refine' Rgn.ob_body (fr := _) ?hf_c0 ?h1_c0 ?h2_c0 ?h3_c0 ?h_c0
                case hf_c0 => exact hfr
                case h1_c0 => kernel_rfl
                case h2_c0 => kernel_rfl
                case h3_c0 => rfl
                clear hfr
                intro z w1 hb hd ho K hK
                clear hd ho
                go_simp
                have hh := hK.out (.pointer (some ⟨O, 0, none⟩)) _ (Below.refl _ _) rfl
                simp only [Act.put, List.setIfInBounds_toArray, List.set_cons_zero, List.set_cons_succ] at hh
                exact hh
              refine Rgn.AllOb.cons (j := 2) (by kernel_rfl) ?_ ?_
              · refine' Rgn.ob_body (fr := _) ?hf_c1 ?h1_c1 ?h2_c1 ?h3_c1 ?h_c1
                case hf_c1 => exact hfr
                case h1_c1 => kernel_rfl
                case h2_c1 => kernel_rfl
                case h3_c1 => rfl
                clear hfr
                intro z w1 hb hd ho K hK
                have e0 : z 0 = .pointer (some ⟨O, 0, none⟩) := hd.out 0 (by kernel_rfl)
                clear hd ho
                have x0 := cO0.out w1 hb
                go_simp
                have hh := hK.out (.slice na2 k nc2) _ (Below.refl _ _) rfl
                simp only [Act.put, List.setIfInBounds_toArray, List.set_cons_zero, List.set_cons_succ, e0] at hh
                exact hh
              refine Rgn.AllOb.cons (j := 3) (by kernel_rfl) ?_ ?_
              · refine' Rgn.ob_body (fr := _) ?hf_c2 ?h1_c2 ?h2_c2 ?h3_c2 ?h_c2
                case hf_c2 => exact hfr
                case h1_c2 => kernel_rfl
                case h2_c2 => kernel_rfl
                case h3_c2 => rfl
                clear hfr
                intro z w1 hb hd ho K hK
                clear hd ho
                go_simp
                have hh := hK.out (.slice sa sl sc) _ (Below.refl _ _) rfl
                simp only [Act.put, List.setIfInBounds_toArray, List.set_cons_zero, List.set_cons_succ] at hh
                exact hh
              refine Rgn.AllOb.cons (j := 4) (by kernel_rfl) ?_ ?_
              · refine' Rgn.ob_body (fr := _) ?hf_c3 ?h1_c3 ?h2_c3 ?h3_c3 ?h_c3
                case hf_c3 => exact hfr
                case h1_c3 => kernel_rfl
                case h2_c3 => kernel_rfl
                case h3_c3 => rfl
                clear hfr
                intro z w1 hb hd ho K hK
                have e2 : z 2 = .slice sa sl sc := hd.out 2 (by kernel_rfl)
                clear hd ho
                go_simp
                refine (cut_long _ _ _ (hS.out.keep hb)).mono ?_
                rintro e w2 ⟨r, rfl, hr, b⟩
                have hh := hK.out _ _ b hr
                simp only [Act.put, List.setIfInBounds_toArray, List.set_cons_zero, List.set_cons_succ, e2] at hh
                exact hh
              refine Rgn.AllOb.cons (j := 5) (by kernel_rfl) ?_ ?_
              · refine' Rgn.ob_body (fr := _) ?hf_c4 ?h1_c4 ?h2_c4 ?h3_c4 ?h_c4
                case hf_c4 => exact hfr
                case h1_c4 => kernel_rfl
                case h2_c4 => kernel_rfl
                case h3_c4 => rfl
                clear hfr
                intro z w1 hb hd ho K hK
                have e3 : LongS w1 (z 3) (S) := hd.out 3 (by kernel_rfl)
                clear hd ho
                go_simp
                obtain ⟨_, pa', pc', e3a⟩ := e3.len
                rw [e3a] at e3
                simp only [e3a]
                go_simp
                have hh := hK.out (.slice (some ⟨w1.heap.size, 0, none⟩) 1 1) _ (below1 _ (.cells #[.slice pa' (dlen B9 S) pc'] 75)) ⟨_, _, rfl, Blk.new _ _ _, e3.keep (below1 _ _)⟩
                simp only [Act.put, List.setIfInBounds_toArray, List.set_cons_zero, List.set_cons_succ, e3a] at hh
                exact hh
              refine Rgn.AllOb.cons (j := 6) (by kernel_rfl) ?_ ?_
              · refine' Rgn.ob_tail0 (fr := _) ?hf_c5 ?h1_c5 ?h3_c5 ?h_c5
                case hf_c5 => exact hfr
                case h1_c5 => kernel_rfl
                case h3_c5 => rfl
                clear hfr
                intro z w1 hb hf hd ho K hK
                have e1 : z 1 = .slice na2 k nc2 := hd.out 1 rfl (by kernel_rfl)
                obtain ⟨b, p, e4, hXb, hp⟩ : ∃ b p, z 4 = .slice (some ⟨b, 0, none⟩) 1 1 ∧ Blk w1 b #[p] 75 ∧ LongS w1 p (S) := hf.out 4 (by decide) rfl rfl
                have hVw := hvec.out.keep hb
                refine wp_append_long (ops := #[]) rfl _ _ rfl O (.slice na2 k nc2) R (by have := hVw.2.1; rw [hRl.out] at this; exact this) (by simp [Act.eval, e1]) b 1 p _ (by simp [Act.eval, e4]) hXb hp (by rw [hRl.out]; omega) (by have := hVw.1.lt; omega) ?_
                intro g cap w2 hM hg b2 hkeep
                rw [hRl.out] at hM ⊢
                have hh := hK.out (.slice (some ⟨g, 0, none⟩) (k + 1) cap) _ ⟨g, cap, rfl, fun _ => ⟨by have := hVw.1.keep b2 (Nat.lt_succ_self O); rw [hRl.out] at this; exact this, hM, hkeep _ _ hVw.2.2, hg⟩, (fun h => absurd h (by decide)), (fun h => absurd h (by decide)), (below_wt bV.out hb).trans (b2.mono (by have := hOV.out; omega))⟩
                exact hh
              refine Rgn.AllOb.cons (j := 7) (by kernel_rfl) ?_ ?_
              · refine' Rgn.ob_tail (fr := _) ?hf_c6 ?h1_c6 ?h3_c6 ?hp_c6 ?h4_c6 ?h_c6
                case hp_c6 => exact 1
                case hf_c6 => exact hfr
                case h1_c6 => kernel_rfl
                case h3_c6 => rfl
                case h4_c6 => kernel_rfl
                clear hfr
                intro z w1 hT hd ho K hK
                obtain ⟨g, cap, e5, h1, _, _, bb⟩ := hT
                have h1' := h1 (by decide)
                replace e5 : z 5 = .slice (some ⟨g, 0, none⟩) (k + 1) cap := e5
                clear hd ho h1
                go_simp
                have hh := hK.out (.pointer (some ⟨O, 0, none⟩)) _ ⟨g, cap, e5, fun _ => h1', fun _ => rfl, (fun h => absurd h (by decide)), bb⟩
                simp only [Act.put, List.setIfInBounds_toArray, List.set_cons_zero, List.set_cons_succ, e5] at hh
                first | exact hh | (simp only [e5]; exact hh)
              refine Rgn.AllOb.cons (j := 8) (by kernel_rfl) ?_ ?_
              · refine' Rgn.ob_tail (fr := _) ?hf_c7 ?h1_c7 ?h3_c7 ?hp_c7 ?h4_c7 ?h_c7
                case hp_c7 => exact 2
                case hf_c7 => exact hfr
                case h1_c7 => kernel_rfl
                case h3_c7 => rfl
                case h4_c7 => kernel_rfl
                clear hfr
                intro z w1 hT hd ho K hK
                obtain ⟨g, cap, e5, h1, h8, _, bb⟩ := hT
                obtain ⟨hX, hM, hD, hg⟩ := h1 (by decide)
                replace e5 : z 5 = .slice (some ⟨g, 0, none⟩) (k + 1) cap := e5
                have e6 : z 6 = .pointer (some ⟨O, 0, none⟩) := h8 rfl
                have y0 := hX.cell 0
                have f0 := hX.frozen 0
                simp only [List.getElem?_toArray, List.getElem?_cons_zero] at y0
                clear hd ho h1 h8
                go_simp
                have hst := VecAt.store (R := R) (by rw [hRl.out]; exact hX) (by rw [hRl.out]; exact hM) hg hD
                rw [hRl.out] at hst
                have hh := hK.out undef _ ⟨g, cap, e5, (fun h => absurd h (by decide)), (fun h => absurd h (by decide)), fun _ => hst, bb.setCell (p := ⟨O, 0, none⟩) hOV.out _⟩
                simp only [Act.put, List.setIfInBounds_toArray, List.set_cons_zero, List.set_cons_succ, e5, e6] at hh
                exact hh
              exact Rgn.AllOb.nil
            case hend_c =>
              intro hfr
              refine' Rgn.end_tails (fr := _) ?g1_c ?g2_c ?g3_c
              case g1_c => exact hfr
              case g2_c => rfl
              clear hfr
              intro z w7 hT hg
              obtain ⟨g, cap, e5, _, _, hv3, bb⟩ := hT
              have hvn := Lib.hid (hv3 rfl)
              have bb' := Lib.hid bb
              rw [← hnxk.out] at hvn
              clear hv3 hg bb hvec cO0 bV hS
              go_wp2
              go_roundw
              case rel => exact ⟨k + 1, _, _, by have := hlt'.out; omega, by go_num, hvn, bb'⟩
              case measure => have := hlt'.out; simp [intOf]; omega
      · obtain rfl : n = k := by omega
        have hnn : ¬ (n : Int) < (n : Int) := by omega
        have hall : (stepN W A n).take n = stepN W A n := by
          have := List.take_length (l := stepN W A n)
          rwa [stepN_length] at this
        rw [hall] at hvec
        have hRr := hR.out.keep bel.out hsz.out
        have hO1 := hvec.out.1
        rw [stepN_length] at hO1
        obtain ⟨o0, o1⟩ := (⟨hO1.cell 0, hO1.cell 1⟩ : _ ∧ _)
        obtain ⟨r0, r1⟩ := (⟨hRr.cell 0, hRr.cell 1⟩ : _ ∧ _)
        have f0 := hRr.frozen 0
        have f1 := hRr.frozen 1
        simp only [List.getElem?_toArray, List.getElem?_cons_zero, List.getElem?_cons_succ] at o0 o1 r0 r1
        have hrow0 := hvec.out.2.1.done
        have hown : ∀ g o, na2 = some ⟨g, o, none⟩ → w.heap.size < g := by
          obtain ⟨xs, how, _⟩ := hvec.out.2.1
          intro g o e
          subst e
          rcases how.2 with ⟨h, _⟩ | ⟨g', c', cur, h, hg', _⟩
          · cases h
          · injection h with h _ _
            injection h with h
            injection h with h _ _
            have := hsz.out
            have := hOV.out
            omega
        rw [stepN_length] at hrow0
        have hfA := Lib.hid ((hrow0.setBoxS hRr (fun g o e => Nat.ne_of_gt (hown g o e)) 0 (.slice na2 n nc2)).setBoxS (hRr.set 0 _) (fun g o e => Nat.ne_of_gt (hown g o e)) 1 (.slice da2 dl2 dc2))
        have hfD := Lib.hid ((hvec.out.2.2.setBox hRr 0 (.slice na2 n nc2)).setBox (hRr.set 0 _) 1 (.slice da2 dl2 dc2))
        have hfB := Lib.hid (((below_wt B0.out bel.out).setCell (p := ⟨w.heap.size, 0, none⟩) (Nat.le_refl _) (.slice na2 n nc2)).setCell (p := ⟨w.heap.size, 1, none⟩) (Nat.le_refl _) (.slice da2 dl2 dc2))
        have hown' := Lib.hid (fun g o e => Nat.le_of_lt (hown g o e))
        rw [← hDDe'.out] at hfD
        clear hvec hRr hO1 hrow0 hown hall bel hlt
        go_wp2
        refine bodyPost_ret (v := .agg #[.slice na2 n nc2, .slice da2 dl2 dc2]) (by simp [results, Tryz.results76, go_sem, r0, r1]) rfl ?_
        exact ⟨_, _, _, rfl, hown'.out, hfA.out, hfD.out, hfB.out⟩
end Go.Proofs.YtiddhnnofpbopaaGreatDoor

/- Some steps of the specification's vector of chances. Conditions: 1 to 1000 states, weights up to 3600, numbers of at most 100000 digits at the end. -/
namespace Go.Proofs.YtiddhnnofpbopaaGreatDoor
open Go.RowKit Go.Deep
set_option linter.unusedVariables false
set_option linter.unusedSimpArgs false

theorem pow_nextS (D t i : Nat) : D * t ^ i * t = D * t ^ (i + 1) := by rw [Nat.pow_succ, Nat.mul_assoc]
theorem pow_lenS (D t L : Nat) (hD : dlen B9 D ≤ L) (ht : t ≤ 3600) : ∀ i, dlen B9 (D * t ^ i) ≤ L + i * 1
  | 0 => by simpa using hD
  | i + 1 => by
      rw [← pow_nextS]
      have := mul_dlen' (pow_lenS D t L hD ht i) (dlen_le b9 (show t < B9 ^ 1 by simp only [B9]; omega))
      omega

set_option maxRecDepth 100000 in
set_option maxHeartbeats 4000000 in
theorem l01After_any (Bc : Nat) (nv dv wv : Value) (A : List Nat) (D n L t m : Nat) (W : List (List Int)) (w : World)
    (k0 : w.cell? ⟨Bc, 0, none⟩ = some (.int .i64 (n : Int))) (k1 : w.cell? ⟨Bc, 1, none⟩ = some (.int .i64 (t : Int))) (k2 : w.cell? ⟨Bc, 2, none⟩ = some wv)
    (hA : RowL LongS w nv A) (hD : LongS w dv D) (hW : Rows2 w wv W) (hl : A.length = n) (hn0 : 1 ≤ n) (hn : n ≤ 1000) (hWl : W.length = n)
    (hrow : ∀ k, k < n → (W.getD k []).length = n ∧ ∀ x ∈ W.getD k [], 0 ≤ x ∧ x ≤ 3600) (ht0 : 1 ≤ t) (ht : t ≤ 3600) (hAl : ∀ k, k < n → dlen B9 (A.getD k 0) ≤ L) (hDl : dlen B9 D ≤ L) (hm : m ≤ 1000000) (hL : L + m * (1 + n) ≤ 100000) :
    Calls Tryz.prog 42 #[.pointer (some ⟨Bc, 0, none⟩), .agg #[nv, dv], .int .i64 (m : Int)] w fun e w' => ∃ a c dv', e = .returned (.agg #[.slice a n c, dv']) ∧ (∀ g o, a = some ⟨g, o, none⟩ → w.heap.size ≤ g ∨ ∃ o' n' c', nv = .slice (some ⟨g, o', none⟩) n' c') ∧ RowL LongS w' (.slice a n c) (afterN W A n m) ∧ LongS w' dv' (D * t ^ m) ∧ Below w.heap.size w w' := by
  obtain ⟨na, nc, hnv, hc0⟩ := id hA
  rw [hl] at hnv
  obtain ⟨ga, go, _, rfl, hcell, _⟩ := hc0 0 (by omega)
  obtain ⟨da, dn, dc, rfl⟩ := likeS.shape hD
  obtain ⟨_, wa, wc, hwv⟩ := hW.len
  rw [hWl] at hwv
  subst hnv hwv
  have hga := block_lt hcell
  simp only at hga
  have hlen := Lib.hid (afterN_len b9 W A n L 1 hl hAl (fun j k hk => (show dlen B9 (wt W k j) ≤ 1 from by
    obtain ⟨h1, h2⟩ := hrow k hk
    by_cases hj : j < n
    · have h3 := h2 _ (getD_mem (d := 0) (show j < (W.getD k []).length by omega))
      exact dlen_le b9 (show wt W k j < B9 ^ 1 by unfold wt; simp only [B9]; omega)
    · exact dlen_le b9 (show wt W k j < B9 ^ 1 by
        unfold wt
        rw [show (W.getD k []).getD j 0 = 0 by rw [List.getD, List.getElem?_eq_none (by omega)]; rfl]
        simp [B9]))))
  have hpow := Lib.hid (pow_lenS D t L hDl ht)
  have hmn := Lib.hid (fun i (h : i ≤ m) => (Nat.le_trans (Nat.add_le_add_left (Nat.mul_le_mul_right (1 + n) h) L) hL))
  have b1 := below1 w (.cells #[.slice (some ⟨ga, go, none⟩) n nc, .slice da dn dc] 77)
  have b2 := below1 (w.alloc (.cells #[.slice (some ⟨ga, go, none⟩) n nc, .slice da dn dc] 77)) (.cells #[.slice none 0 0, .slice none 0 0] 77)
  have b12 := below_wt b1 b2
  have hP := (Blk.new w #[.slice (some ⟨ga, go, none⟩) n nc, .slice da dn dc] 77).keep b2 (Blk.new w #[.slice (some ⟨ga, go, none⟩) n nc, .slice da dn dc] 77).lt
  have hR := Blk.new (w.alloc (.cells #[.slice (some ⟨ga, go, none⟩) n nc, .slice da dn dc] 77)) #[.slice none 0 0, .slice none 0 0] 77
  have hA0 := Lib.hid (show RowL LongS _ _ (afterN W A n 0) from hA.keep likeS b12)
  have hD0 := Lib.hid (show LongS _ _ (D * t ^ 0) from by rw [Nat.pow_zero, Nat.mul_one]; exact hD.keep b12)
  simp only [World.size_alloc] at hR hP
  replace hP := Lib.hid hP; replace hR := Lib.hid hR
  replace b12 := Lib.hid b12
  have hW0 := Lib.hid hW
  have cc0 := Lib.hid (fun w1 (hb : Below w.heap.size w w1) => (hb.cell (p := ⟨Bc, 0, none⟩) (block_lt k0)).trans k0)
  have cc1 := Lib.hid (fun w1 (hb : Below w.heap.size w w1) => (hb.cell (p := ⟨Bc, 1, none⟩) (block_lt k1)).trans k1)
  have cc2 := Lib.hid (fun w1 (hb : Below w.heap.size w w1) => (hb.cell (p := ⟨Bc, 2, none⟩) (block_lt k2)).trans k2)
  have hBR := Lib.hid (show w.heap.size < w.heap.size + 1 from by omega)
  have hga1 := Lib.hid (show ∀ g o, some (⟨ga, go, none⟩ : Addr) = some ⟨g, o, none⟩ → g = ga ∨ w.heap.size + 1 < g from fun g o e => by injection e with e; injection e with e _ _; exact Or.inl e.symm)
  have hgw := Lib.hid hga
  replace hl := Lib.hid hl
  replace hWl := Lib.hid hWl
  replace hrow := Lib.hid hrow
  clear hA hD hW b1 b2 hAl hDl hL hcell hc0 hga k0 k1 k2
  go_enter Tryz.func42, Tryz.ntmps42
  go_wp2_with fail
  generalize hV0 : ((w.alloc (.cells #[.slice (some ⟨ga, go, none⟩) n nc, .slice da dn dc] 77)).alloc (.cells #[.slice none 0 0, .slice none 0 0] 77)) = V0 at *
  generalize w.heap.size + 1 = BR at *
  clear hV0
  go_loopw [7] (fun i wr => ∃ (k c : Nat) (a : Option Addr) (ra : Option Addr) (rn rc : Nat), k ≤ m ∧ i = .int .i64 (k : Int) ∧ Hid (∀ g o, a = some ⟨g, o, none⟩ → g = ga ∨ BR < g) ∧ Hid (Blk wr w.heap.size #[.slice a n c, .slice ra rn rc] 77) ∧ Hid (RowL LongS wr (.slice a n c) (afterN W A n k)) ∧ Hid (LongS wr (.slice ra rn rc) (D * t ^ k))
    ∧ Hid (Blk wr BR #[.slice none 0 0, .slice none 0 0] 77) ∧ Hid (Below w.heap.size w wr)) (fun i _ => m - (intOf i).toNat)
  case atStart => exact ⟨0, nc, _, da, dn, dc, Nat.zero_le _, rfl, hga1, hP, hA0, hD0, hR, b12⟩
  case round =>
    clear hA0 hD0 hP hR b12
    obtain ⟨k, c, a, ra, rn, rc, hk, rfl, hgne, hP, hA, hD, hR, bel⟩ := hrel
    obtain ⟨p0, p1⟩ := (⟨hP.out.cell 0, hP.out.cell 1⟩ : _ ∧ _)
    simp only [List.getElem?_toArray, List.getElem?_cons_zero, List.getElem?_cons_succ] at p0 p1
    by_cases hlt : k < m
    · have i1 : (k : Int) < (m : Int) := by omega
      have hlt' := Lib.hid hlt
      have hW1 := hW0.out.keep bel.out
      have hst := Lib.hid (fun h1 h2 => vecStep_any w.heap.size Bc (.slice a n c) (.slice ra rn rc) (.slice wa n wc) (afterN W A n k) (D * t ^ k) n (L + k * (1 + n)) t W wr p0 p1 (cc0.out wr bel.out) (cc1.out wr bel.out) (cc2.out wr bel.out) hA.out hD.out hW1 (hlen.out k).1 hn hWl.out hrow.out ht0 ht (hlen.out k).2 h1 h2)
      have hst' := Lib.hid (hst.out (Nat.le_trans (hpow.out k) (Nat.add_le_add_left (Nat.mul_le_mul_left k (by omega)) L)) (hmn.out k hk))
      clear hW1 hst hlt p0 p1
      go_wp2_with fail
      (with_reducible refine hst'.out.mono ?_)
      rintro e w5 ⟨g5, c5, dv5, rfl, hg5, N5, L5, b5⟩
      obtain ⟨sa, sn, sc, rfl⟩ := likeS.shape L5
      have hP5 := hP.out.keep b5 hP.out.lt
      have hR5 := hR.out.keep b5 hR.out.lt
      have hne5 : ∀ g o, g5 = some ⟨g, o, none⟩ → g ≠ w.heap.size := fun g o e => by have := hg5 g o e; have := hP.out.lt; omega
      have hnR5 : ∀ g o, g5 = some ⟨g, o, none⟩ → g = ga ∨ BR < g := fun g o e => by have := hg5 g o e; have := hR.out.lt; omega
      have N6 := Lib.hid ((N5.setBoxS hP5 hne5 0 (.slice g5 n c5)).setBoxS (hP5.set 0 _) hne5 1 (.slice sa sn sc))
      have L6 := Lib.hid ((L5.setBox hP5 0 (.slice g5 n c5)).setBox (hP5.set 0 _) 1 (.slice sa sn sc))
      rw [pow_nextS] at L6
      have hP6 := Lib.hid (show Blk _ w.heap.size #[.slice g5 n c5, .slice sa sn sc] 77 from by have := (hP5.set 0 (.slice g5 n c5)).set 1 (.slice sa sn sc); simpa using this)
      have hR6 := Lib.hid ((hR5.setOther (a := ⟨w.heap.size, 0, none⟩) (Nat.ne_of_gt hBR.out) (.slice g5 n c5)).setOther (a := ⟨w.heap.size, 1, none⟩) (Nat.ne_of_gt hBR.out) (.slice sa sn sc))
      have B6 := Lib.hid (((below_wt bel.out b5).setCell (p := ⟨w.heap.size, 0, none⟩) (Nat.le_refl _) (.slice g5 n c5)).setCell (p := ⟨w.heap.size, 1, none⟩) (Nat.le_refl _) (.slice sa sn sc))
      have hgn := Lib.hid hnR5
      obtain ⟨q0, q1⟩ := (⟨hP5.cell 0, hP5.cell 1⟩ : _ ∧ _)
      have f0 := hP5.frozen 0
      have f1 := hP5.frozen 1
      simp only [List.getElem?_toArray, List.getElem?_cons_zero, List.getElem?_cons_succ] at q0 q1
      clear N5 L5 b5 hP5 hR5 hne5 hnR5 hP hA hD hR bel hst' hg5 hgne
      go_wp2
      go_roundw
      case rel => exact ⟨k + 1, c5, g5, sa, sn, sc, by have := hlt'.out; omega, by go_num, hgn, hP6, N6, L6, hR6, B6⟩
      case measure => have := hlt'.out; simp [intOf]; omega
    · obtain rfl : m = k := by omega
      have hnn : ¬ (m : Int) < (m : Int) := by omega
      obtain ⟨r0, r1⟩ := (⟨hR.out.cell 0, hR.out.cell 1⟩ : _ ∧ _)
      have f0 := hR.out.frozen 0
      have f1 := hR.out.frozen 1
      simp only [List.getElem?_toArray, List.getElem?_cons_zero, List.getElem?_cons_succ] at r0 r1
      have hgR : ∀ g o, a = some ⟨g, o, none⟩ → g ≠ BR := fun g o e => by have := hgne.out g o e; have := hgw.out; have := hBR.out; omega
      have hfG := Lib.hid (show ∀ g o, a = some ⟨g, o, none⟩ → w.heap.size ≤ g ∨ ga = g from fun g o e => by
        rcases hgne.out g o e with h | h
        · exact Or.inr h.symm
        · have := hBR.out; exact Or.inl (by omega))
      have hfA := Lib.hid ((hA.out.setBoxS hR.out hgR 0 (.slice a n c)).setBoxS (hR.out.set 0 _) hgR 1 (.slice ra rn rc))
      have hfD := Lib.hid ((hD.out.setBox hR.out 0 (.slice a n c)).setBox (hR.out.set 0 _) 1 (.slice ra rn rc))
      have hfB := Lib.hid ((bel.out.setCell (p := ⟨BR, 0, none⟩) (Nat.le_of_lt hBR.out) (.slice a n c)).setCell (p := ⟨BR, 1, none⟩) (Nat.le_of_lt hBR.out) (.slice ra rn rc))
      clear hP hA hD hR bel hgne hlt hgR
      go_wp2
      refine bodyPost_ret (v := .agg #[.slice a n c, .slice ra rn rc]) (by simp [results, Tryz.results42, go_sem, r0, r1]) rfl ?_
      exact ⟨_, _, _, rfl, hfG.out, hfA.out, hfD.out, hfB.out⟩
end Go.Proofs.YtiddhnnofpbopaaGreatDoor

/- The vector of one state (the specification's). Conditions: at most 1000 states. -/
namespace Go.Proofs.YtiddhnnofpbopaaGreatDoor
open Go.RowKit Go.Deep
set_option linter.unusedVariables false
set_option linter.unusedSimpArgs false

theorem l00Max_max (x y : Int) (w : World) : Calls Tryz.prog 79 #[.int .i64 x, .int .i64 y] w fun e w' => e = .returned (.int .i64 (max x y)) ∧ w = w' := by
  go_enter Tryz.func79, Tryz.ntmps79
  by_cases h : y < x
  · have hq := Lib.hid (show max x y = x by omega)
    go_wp2
    go_ret
    exact ⟨ret_int hq.out.symm, rfl⟩
  · have hq := Lib.hid (show max x y = y by omega)
    go_wp2
    go_ret
    exact ⟨ret_int hq.out.symm, rfl⟩
theorem cut_one (a : Value) (d : Nat) (w : World) (ha : Ints w a (nats [d])) (hd : d < B9) :
    Calls Tryz.prog 77 #[a] w fun e w' => ∃ v, e = .returned v ∧ LongS w' v d ∧ Below w.heap.size w w' := by
  have h := l01Cut_any a [d] w ha (by simpa using hd)
  rw [show val B9 [d] = d by simp [val]] at h
  refine h.mono ?_
  rintro e w' ⟨⟨v, rfl, hv⟩, k, rfl⟩
  have b := below_drewN (Below.refl w.heap.size w) k
  exact ⟨v, rfl, hv.keep b, b⟩
/-- the numbers of one state -/
def sureN (n s : Nat) : List Nat := (List.replicate n 0).set s 1
theorem sureN_length (n s : Nat) : (sureN n s).length = n := by simp [sureN]
theorem sureN_get (n s i : Nat) (h : i < n) : (sureN n s).getD i 0 = if i = s then 1 else 0 := by
  unfold sureN
  by_cases e : s = i
  · subst e; simp [List.getD, h]
  · have e' : ¬ i = s := fun h => e h.symm
    simp [List.getD, e, e', h]
theorem sureN_take (n s k : Nat) (h : k < n) : (sureN n s).take (k + 1) = (sureN n s).take k ++ [if k = s then 1 else 0] := by
  rw [List.take_add_one, List.getElem?_eq_getElem (by rw [sureN_length]; exact h)]
  have := sureN_get n s k h
  simp only [List.getD, List.getElem?_eq_getElem (show k < (sureN n s).length by rw [sureN_length]; exact h), Option.getD_some] at this
  rw [this]; rfl
theorem delta_eq (k s : Nat) (d q : Int) (hd : (k : Int) - (s : Int) = d) (hq : d * d = q) : min 1 (max 0 (1 - q)) = ((if k = s then 1 else 0 : Nat) : Int) := by
  by_cases e : k = s
  · subst e
    obtain rfl : d = 0 := by omega
    have : q = 0 := by omega
    subst this; rw [if_pos rfl]; decide
  · rw [if_neg e]
    have h1 : 1 ≤ q := by
      rw [← hq]
      rcases Int.lt_or_gt_of_ne (show d ≠ 0 by omega) with h | h
      · have := Int.mul_le_mul (show (1 : Int) ≤ -d by omega) (show (1 : Int) ≤ -d by omega) (by omega) (by omega)
        rw [Int.neg_mul_neg] at this
        simpa using this
      · have := Int.mul_le_mul (show (1 : Int) ≤ d by omega) (show (1 : Int) ≤ d by omega) (by omega) (by omega)
        simpa using this
    simp; omega
theorem sq_bound (d : Int) (h1 : -1000 ≤ d) (h2 : d ≤ 1000) : 0 ≤ d * d ∧ d * d ≤ 1000000 := by
  refine ⟨by rcases Int.le_total 0 d with h | h
             · exact Int.mul_nonneg h h
             · have := Int.mul_nonneg (show 0 ≤ -d by omega) (show 0 ≤ -d by omega); rwa [Int.neg_mul_neg] at this, ?_⟩
  rcases Int.le_total 0 d with h | h
  · have := Int.mul_le_mul h2 h2 h (by omega); simpa using this
  · have := Int.mul_le_mul (show -d ≤ 1000 by omega) (show -d ≤ 1000 by omega) (by omega) (by omega)
    rw [Int.neg_mul_neg] at this; simpa using this

set_option maxRecDepth 100000 in
set_option maxHeartbeats 4000000 in
theorem l01Sure_any (n s : Nat) (w : World) (hn : n ≤ 1000) (hs : s ≤ 1000) :
    Calls Tryz.prog 43 #[.int .i64 (n : Int), .int .i64 (s : Int)] w fun e w' => ∃ a c dv', e = .returned (.agg #[.slice a n c, dv']) ∧ RowL LongS w' (.slice a n c) (sureN n s) ∧ LongS w' dv' 1 ∧ Below w.heap.size w w' := by
  have b1 := below1 w (.cells #[.slice none 0 0, .slice none 0 0] 77)
  have hR := Blk.new w #[.slice none 0 0, .slice none 0 0] 77
  have h1 := one_long1 (w.alloc (.cells #[.slice none 0 0, .slice none 0 0] 77))
  have b2 := below1 (w.alloc (.cells #[.slice none 0 0, .slice none 0 0] 77)) (.cells #[.int .i64 1] 2)
  have b3 := below1 ((w.alloc (.cells #[.slice none 0 0, .slice none 0 0] 77)).alloc (.cells #[.int .i64 1] 2)) (.cells #[.slice none 0 0, .slice (some ⟨w.heap.size + 1, 0, none⟩) 1 1] 77)
  have hO := Blk.new ((w.alloc (.cells #[.slice none 0 0, .slice none 0 0] 77)).alloc (.cells #[.int .i64 1] 2)) #[.slice none 0 0, .slice (some ⟨w.heap.size + 1, 0, none⟩) 1 1] 77
  have h13 := h1.keep b3
  have b12 := below_wt b1 b2
  have hR2 := hR.keep b2 hR.lt
  simp only [World.size_alloc] at hO h13
  have hvec := Lib.hid (show VecAt _ (w.heap.size + 1 + 1) ((sureN n s).take 0) none 0 (.slice (some ⟨w.heap.size + 1, 0, none⟩) 1 1) 1 from ⟨hO, MadeL.nil _ _ _, h13⟩)
  have hR' := Lib.hid hR2
  have b12' := Lib.hid b12
  have b3' := Lib.hid b3
  have hOV := Lib.hid (show ((w.alloc (.cells #[.slice none 0 0, .slice none 0 0] 77)).alloc (.cells #[.int .i64 1] 2)).heap.size ≤ w.heap.size + 1 + 1 by simp only [World.size_alloc]; exact Nat.le_refl _)
  have hBO := Lib.hid (show w.heap.size < w.heap.size + 1 + 1 by omega)
  have hkl0 := Lib.hid (fun k (h : k ≤ n) => (show ((sureN n s).take k).length = k by rw [List.length_take, sureN_length]; omega))
  have hnx := Lib.hid (fun k (h : k < n) => sureN_take n s k h)
  clear hR hR2 b1 h1 b2 b3 hO h13 b12
  go_enter Tryz.func43, Tryz.ntmps43
  go_wp2_with fail
  generalize hV : (w.alloc (.cells #[.slice none 0 0, .slice none 0 0] 77)).alloc (.cells #[.int .i64 1] 2) = V at *
  generalize w.heap.size + 1 + 1 = O at *
  clear hV
  go_loopw [6] (fun i wr => ∃ (k : Nat) (na : Option Addr) (nc2 : Nat) (da2 : Option Addr) (dl2 dc2 : Nat), k ≤ n ∧ i = .int .i64 (k : Int) ∧ Hid (VecAt wr O ((sureN n s).take k) na nc2 (.slice da2 dl2 dc2) 1) ∧ Hid (Below V.heap.size V wr)) (fun i _ => n - (intOf i).toNat)
  case atStart => exact ⟨0, _, _, _, _, _, Nat.zero_le _, rfl, hvec, b3'⟩
  case round =>
    clear hvec b3'
    obtain ⟨k, na, nc2, da2, dl2, dc2, hk, rfl, hvec, bV⟩ := hrel
    by_cases hlt : k < n
    · have i1 : (k : Int) < (n : Int) := by omega
      have hlt' := Lib.hid hlt
      have hRl := Lib.hid (hkl0.out k hk)
      have hnxk := Lib.hid (hnx.out k hlt)
      obtain ⟨d, hd0⟩ : ∃ d : Int, (k : Int) - (s : Int) = d := ⟨_, rfl⟩
      have hdb : -1000 ≤ d ∧ d ≤ 1000 := by omega
      obtain ⟨q, hq0⟩ : ∃ q : Int, d * d = q := ⟨_, rfl⟩
      have hqb := sq_bound d hdb.1 hdb.2
      rw [hq0] at hqb
      obtain ⟨hqb1, hqb2⟩ := hqb
      obtain ⟨δ, hδe⟩ : ∃ x : Nat, (if k = s then 1 else 0) = x := ⟨_, rfl⟩
      have hδ := Lib.hid (show min 1 (max 0 (1 - q)) = (δ : Int) by rw [delta_eq k s d q hd0 hq0, hδe])
      have hδ9 : δ < B9 := by rw [← hδe]; split <;> decide
      rw [hδe] at hnxk
      replace hd0 := Lib.hid hd0
      replace hq0 := Lib.hid hq0
      generalize (sureN n s).take k = R at *
      have cO0 := Lib.hid (fun w1 (hb : Below wr.heap.size wr w1) => (show w1.cell? ⟨O, 0, none⟩ = some (.slice na k nc2) from by have := (hvec.out.keep hb).1.cell 0; rw [hRl.out] at this; exact this))
      clear hlt hδe hdb
      go_upto_region 5 with fail
      refine' Rgn.region_by (fun i => match i with | 15 => 1 | 16 => 2 | 17 => 3 | _ => 0) 3 (fun _ => false) (fun i _ v w' => match i with
          | 0 => v = .pointer (some ⟨O, 0, none⟩)
          | 1 => v = .slice na k nc2
          | 2 => v = .int .i64 (k : Int)
          | 3 => v = .int .i64 (s : Int)
          | 4 => v = .int .i64 d
          | 5 => v = .int .i64 (k : Int)
          | 6 => v = .int .i64 (s : Int)
          | 7 => v = .int .i64 d
          | 8 => v = .int .i64 q
          | 9 => v = .int .i64 (1 - q)
          | 10 => v = .int .i64 (max 0 (1 - q))
          | 11 => v = .int .i64 (δ : Int)
          | 12 => Ints w' v (nats [δ])
          | 13 => LongS w' v (δ)
          | 14 => ∃ b p, v = .slice (some ⟨b, 0, none⟩) 1 1 ∧ Blk w' b #[p] 75 ∧ LongS w' p (δ)
          | _ => True) (fun i _ v => match i with
          | 0 => v = .pointer (some ⟨O, 0, none⟩)
          | 1 => v = .slice na k nc2
          | 2 => v = .int .i64 (k : Int)
          | 3 => v = .int .i64 (s : Int)
          | 4 => v = .int .i64 d
          | 5 => v = .int .i64 (k : Int)
          | 6 => v = .int .i64 (s : Int)
          | 7 => v = .int .i64 d
          | 8 => v = .int .i64 q
          | 9 => v = .int .i64 (1 - q)
          | 10 => True
          | 11 => True
          | 12 => True
          | 13 => True
          | 14 => True
          | _ => True)
          (fun p z w' => ∃ g cap, z 15 = .slice (some ⟨g, 0, none⟩) (k + 1) cap ∧ (p ≤ 2 → Blk w' O #[.slice na k nc2, .slice da2 dl2 dc2] 77 ∧ MadeL LongS 75 w' (O + 1) (.slice (some ⟨g, 0, none⟩) (k + 1) cap) (R ++ [δ]) ∧ LongS w' (.slice da2 dl2 dc2) 1 ∧ O + 1 ≤ g) ∧ (p = 2 → z 16 = .pointer (some ⟨O, 0, none⟩)) ∧ (p = 3 → VecAt w' O (R ++ [δ]) (some ⟨g, 0, none⟩) cap (.slice da2 dl2 dc2) 1) ∧ Below V.heap.size V w') (by kernel_rfl) (by kernel_rfl) (by kernel_rfl) ?hst_c ?hG_c _ ?hfr_c ?hob_c ?hend_c
      case hfr_c =>
        intro z
        simp only [Rgn.fillAll, Act.put, List.setIfInBounds_toArray, List.set_cons_zero, List.set_cons_succ, Nat.reduceAdd, Nat.zero_add]
        exact rfl
      case hst_c =>
        intro i z v w1 w2 hi hb hx
        rcases i with _ | i
        · exact hx
        rcases i with _ | i
        · exact hx
        rcases i with _ | i
        · exact hx
        rcases i with _ | i
        · exact hx
        rcases i with _ | i
        · exact hx
        rcases i with _ | i
        · exact hx
        rcases i with _ | i
        · exact hx
        rcases i with _ | i
        · exact hx
        rcases i with _ | i
        · exact hx
        rcases i with _ | i
        · exact hx
        rcases i with _ | i
        · exact (fun v w1 w2 hb h => h) v w1 w2 hb hx
        rcases i with _ | i
        · exact (fun v w1 w2 hb h => h) v w1 w2 hb hx
        rcases i with _ | i
        · exact (fun v w1 w2 hb h => h.keep hb) v w1 w2 hb hx
        rcases i with _ | i
        · exact (fun v w1 w2 hb h => h.keep hb) v w1 w2 hb hx
        rcases i with _ | i
        · exact (fun v w1 w2 hb h => h.elim fun b h => h.elim fun p h => ⟨b, p, h.1, h.2.1.step hb, h.2.2.keep hb⟩) v w1 w2 hb hx
        rcases i with _ | i
        · exact trivial
        rcases i with _ | i
        · exact trivial
        rcases i with _ | i
        · exact trivial
        exact trivial
      case hG_c =>
        intro i z v w1 hi hx
        rcases i with _ | i
        · exact hx
        rcases i with _ | i
        · exact hx
        rcases i with _ | i
        · exact hx
        rcases i with _ | i
        · exact hx
        rcases i with _ | i
        · exact hx
        rcases i with _ | i
        · exact hx
        rcases i with _ | i
        · exact hx
        rcases i with _ | i
        · exact hx
        rcases i with _ | i
        · exact hx
        rcases i with _ | i
        · exact hx
        rcases i with _ | i
        · trivial
        rcases i with _ | i
        · trivial
        rcases i with _ | i
        · trivial
        rcases i with _ | i
        · trivial
        rcases i with _ | i
        · trivial
        rcases i with _ | i
        · exact trivial
        rcases i with _ | i
        · exact trivial
        rcases i with _ | i
        · exact trivial
        exact trivial
      case hob_c =>
        intro hfr
        refine Rgn.AllOb.cons (j := 1) (by kernel_rfl) ?_ ?_
        · refine' Rgn.ob_body (fr := _) ?hf_c0 ?h1_c0 ?h2_c0 ?h3_c0 ?h_c0
          case hf_c0 => exact hfr
          case h1_c0 => kernel_rfl
          case h2_c0 => kernel_rfl
          case h3_c0 => rfl
          clear hfr
          intro z w1 hb hd ho K hK
          clear hd ho
          go_simp
          have hh := hK.out (.pointer (some ⟨O, 0, none⟩)) _ (Below.refl _ _) rfl
          simp only [Act.put, List.setIfInBounds_toArray, List.set_cons_zero, List.set_cons_succ] at hh
          exact hh
        refine Rgn.AllOb.cons (j := 2) (by kernel_rfl) ?_ ?_
        · refine' Rgn.ob_body (fr := _) ?hf_c1 ?h1_c1 ?h2_c1 ?h3_c1 ?h_c1
          case hf_c1 => exact hfr
          case h1_c1 => kernel_rfl
          case h2_c1 => kernel_rfl
          case h3_c1 => rfl
          clear hfr
          intro z w1 hb hd ho K hK
          have e0 : z 0 = .pointer (some ⟨O, 0, none⟩) := hd.out 0 (by kernel_rfl)
          clear hd ho
          have x0 := cO0.out w1 hb
          go_simp
          have hh := hK.out (.slice na k nc2) _ (Below.refl _ _) rfl
          simp only [Act.put, List.setIfInBounds_toArray, List.set_cons_zero, List.set_cons_succ, e0] at hh
          exact hh
        refine Rgn.AllOb.cons (j := 3) (by kernel_rfl) ?_ ?_
        · refine' Rgn.ob_body (fr := _) ?hf_c2 ?h1_c2 ?h2_c2 ?h3_c2 ?h_c2
          case hf_c2 => exact hfr
          case h1_c2 => kernel_rfl
          case h2_c2 => kernel_rfl
          case h3_c2 => rfl
          clear hfr
          intro z w1 hb hd ho K hK
          clear hd ho
          go_simp
          have hh := hK.out (.int .i64 (k : Int)) _ (Below.refl _ _) rfl
          simp only [Act.put, List.setIfInBounds_toArray, List.set_cons_zero, List.set_cons_succ] at hh
          exact hh
        refine Rgn.AllOb.cons (j := 4) (by kernel_rfl) ?_ ?_
        · refine' Rgn.ob_body (fr := _) ?hf_c3 ?h1_c3 ?h2_c3 ?h3_c3 ?h_c3
          case hf_c3 => exact hfr
          case h1_c3 => kernel_rfl
          case h2_c3 => kernel_rfl
          case h3_c3 => rfl
          clear hfr
          intro z w1 hb hd ho K hK
          clear hd ho
          go_simp
          have hh := hK.out (.int .i64 (s : Int)) _ (Below.refl _ _) rfl
          simp only [Act.put, List.setIfInBounds_toArray, List.set_cons_zero, List.set_cons_succ] at hh
          exact hh
        refine Rgn.AllOb.cons (j := 5) (by kernel_rfl) ?_ ?_
        · refine' Rgn.ob_body (fr := _) ?hf_c4 ?h1_c4 ?h2_c4 ?h3_c4 ?h_c4
          case hf_c4 => exact hfr
          case h1_c4 => kernel_rfl
          case h2_c4 => kernel_rfl
          case h3_c4 => rfl
          clear hfr
          intro z w1 hb hd ho K hK
          have e2 : z 2 = .int .i64 (k : Int) := hd.out 2 (by kernel_rfl)
          have e3 : z 3 = .int .i64 (s : Int) := hd.out 3 (by kernel_rfl)
          clear hd ho
          have hwp : IntKind.i64.wrap ((k : Int) - (s : Int)) = d := by rw [IntWalk.i64_in _ (by omega)]; exact hd0.out
          go_simp
          have hh := hK.out (.int .i64 d) _ (Below.refl _ _) rfl
          simp only [Act.put, List.setIfInBounds_toArray, List.set_cons_zero, List.set_cons_succ, e2, e3] at hh
          exact hh
        refine Rgn.AllOb.cons (j := 6) (by kernel_rfl) ?_ ?_
        · refine' Rgn.ob_body (fr := _) ?hf_c5 ?h1_c5 ?h2_c5 ?h3_c5 ?h_c5
          case hf_c5 => exact hfr
          case h1_c5 => kernel_rfl
          case h2_c5 => kernel_rfl
          case h3_c5 => rfl
          clear hfr
          intro z w1 hb hd ho K hK
          clear hd ho
          go_simp
          have hh := hK.out (.int .i64 (k : Int)) _ (Below.refl _ _) rfl
          simp only [Act.put, List.setIfInBounds_toArray, List.set_cons_zero, List.set_cons_succ] at hh
          exact hh
        refine Rgn.AllOb.cons (j := 7) (by kernel_rfl) ?_ ?_
        · refine' Rgn.ob_body (fr := _) ?hf_c6 ?h1_c6 ?h2_c6 ?h3_c6 ?h_c6
          case hf_c6 => exact hfr
          case h1_c6 => kernel_rfl
          case h2_c6 => kernel_rfl
          case h3_c6 => rfl
          clear hfr
          intro z w1 hb hd ho K hK
          clear hd ho
          go_simp
          have hh := hK.out (.int .i64 (s : Int)) _ (Below.refl _ _) rfl
          simp only [Act.put, List.setIfInBounds_toArray, List.set_cons_zero, List.set_cons_succ] at hh
          exact hh
        refine Rgn.AllOb.cons (j := 8) (by kernel_rfl) ?_ ?_
        · refine' Rgn.ob_body (fr := _) ?hf_c7 ?h1_c7 ?h2_c7 ?h3_c7 ?h_c7
          case hf_c7 => exact hfr
          case h1_c7 => kernel_rfl
          case h2_c7 => kernel_rfl
          case h3_c7 => rfl
          clear hfr
          intro z w1 hb hd ho K hK
          have e5 : z 5 = .int .i64 (k : Int) := hd.out 5 (by kernel_rfl)
          have e6 : z 6 = .int .i64 (s : Int) := hd.out 6 (by kernel_rfl)
          clear hd ho
          have hwp : IntKind.i64.wrap ((k : Int) - (s : Int)) = d := by rw [IntWalk.i64_in _ (by omega)]; exact hd0.out
          go_simp
          have hh := hK.out (.int .i64 d) _ (Below.refl _ _) rfl
          simp only [Act.put, List.setIfInBounds_toArray, List.set_cons_zero, List.set_cons_succ, e5, e6] at hh
          exact hh
        refine Rgn.AllOb.cons (j := 9) (by kernel_rfl) ?_ ?_
        · refine' Rgn.ob_body (fr := _) ?hf_c8 ?h1_c8 ?h2_c8 ?h3_c8 ?h_c8
          case hf_c8 => exact hfr
          case h1_c8 => kernel_rfl
          case h2_c8 => kernel_rfl
          case h3_c8 => rfl
          clear hfr
          intro z w1 hb hd ho K hK
          have e4 : z 4 = .int .i64 d := hd.out 4 (by kernel_rfl)
          have e7 : z 7 = .int .i64 d := hd.out 7 (by kernel_rfl)
          clear hd ho
          have hqe := hq0.out; have hwp : IntKind.i64.wrap q = q := IntWalk.i64_in _ (by omega)
          go_simp
          have hh := hK.out (.int .i64 q) _ (Below.refl _ _) rfl
          simp only [Act.put, List.setIfInBounds_toArray, List.set_cons_zero, List.set_cons_succ, e4, e7] at hh
          exact hh
        refine Rgn.AllOb.cons (j := 10) (by kernel_rfl) ?_ ?_
        · refine' Rgn.ob_body (fr := _) ?hf_c9 ?h1_c9 ?h2_c9 ?h3_c9 ?h_c9
          case hf_c9 => exact hfr
          case h1_c9 => kernel_rfl
          case h2_c9 => kernel_rfl
          case h3_c9 => rfl
          clear hfr
          intro z w1 hb hd ho K hK
          have e8 : z 8 = .int .i64 q := hd.out 8 (by kernel_rfl)
          clear hd ho
          have hwp : IntKind.i64.wrap (1 - q) = 1 - q := IntWalk.i64_in _ (by omega)
          go_simp
          have hh := hK.out (.int .i64 (1 - q)) _ (Below.refl _ _) rfl
          simp only [Act.put, List.setIfInBounds_toArray, List.set_cons_zero, List.set_cons_succ, e8] at hh
          exact hh
        refine Rgn.AllOb.cons (j := 11) (by kernel_rfl) ?_ ?_
        · refine' Rgn.ob_body (fr := _) ?hf_c10 ?h1_c10 ?h2_c10 ?h3_c10 ?h_c10
          case hf_c10 => exact hfr
          case h1_c10 => kernel_rfl
          case h2_c10 => kernel_rfl
          case h3_c10 => rfl
          clear hfr
          intro z w1 hb hd ho K hK
          have e9 : z 9 = .int .i64 (1 - q) := hd.out 9 (by kernel_rfl)
          clear hd ho
          go_simp
          refine (l00Max_max 0 (1 - q) w1).mono ?_
          rintro e w2 ⟨rfl, rfl⟩
          have hh := hK.out _ _ (Below.refl _ _) rfl
          simp only [Act.put, List.setIfInBounds_toArray, List.set_cons_zero, List.set_cons_succ, e9] at hh
          exact hh
        refine Rgn.AllOb.cons (j := 12) (by kernel_rfl) ?_ ?_
        · refine' Rgn.ob_body (fr := _) ?hf_c11 ?h1_c11 ?h2_c11 ?h3_c11 ?h_c11
          case hf_c11 => exact hfr
          case h1_c11 => kernel_rfl
          case h2_c11 => kernel_rfl
          case h3_c11 => rfl
          clear hfr
          intro z w1 hb hd ho K hK
          have e10 : (z 10) = .int .i64 (max 0 (1 - q)) := hd.out 10 (by kernel_rfl)
          clear hd ho
          go_simp
          refine (l00Min_any 1 (max 0 (1 - q)) w1).mono ?_
          rintro e w2 ⟨rfl, rfl⟩
          rw [hδ.out]
          have hh := hK.out _ _ (Below.refl _ _) rfl
          simp only [Act.put, List.setIfInBounds_toArray, List.set_cons_zero, List.set_cons_succ, e10] at hh
          exact hh
        refine Rgn.AllOb.cons (j := 13) (by kernel_rfl) ?_ ?_
        · refine' Rgn.ob_body (fr := _) ?hf_c12 ?h1_c12 ?h2_c12 ?h3_c12 ?h_c12
          case hf_c12 => exact hfr
          case h1_c12 => kernel_rfl
          case h2_c12 => kernel_rfl
          case h3_c12 => rfl
          clear hfr
          intro z w1 hb hd ho K hK
          have e11 : (z 11) = .int .i64 (δ : Int) := hd.out 11 (by kernel_rfl)
          clear hd ho
          go_simp
          have hh := hK.out (.slice (some ⟨w1.heap.size, 0, none⟩) 1 1) _ (below1 _ (.cells #[.int .i64 (δ : Int)] 2)) (one_ints w1 δ)
          simp only [Act.put, List.setIfInBounds_toArray, List.set_cons_zero, List.set_cons_succ, e11] at hh
          exact hh
        refine Rgn.AllOb.cons (j := 14) (by kernel_rfl) ?_ ?_
        · refine' Rgn.ob_body (fr := _) ?hf_c13 ?h1_c13 ?h2_c13 ?h3_c13 ?h_c13
          case hf_c13 => exact hfr
          case h1_c13 => kernel_rfl
          case h2_c13 => kernel_rfl
          case h3_c13 => rfl
          clear hfr
          intro z w1 hb hd ho K hK
          have e12 : Ints w1 (z 12) (nats [δ]) := hd.out 12 (by kernel_rfl)
          clear hd ho
          go_simp
          refine (cut_one _ δ w1 e12 hδ9).mono ?_
          rintro e w2 ⟨r, rfl, hr, b⟩
          have hh := hK.out _ _ b hr
          simp only [Act.put, List.setIfInBounds_toArray, List.set_cons_zero, List.set_cons_succ] at hh
          exact hh
        refine Rgn.AllOb.cons (j := 15) (by kernel_rfl) ?_ ?_
        · refine' Rgn.ob_body (fr := _) ?hf_c14 ?h1_c14 ?h2_c14 ?h3_c14 ?h_c14
          case hf_c14 => exact hfr
          case h1_c14 => kernel_rfl
          case h2_c14 => kernel_rfl
          case h3_c14 => rfl
          clear hfr
          intro z w1 hb hd ho K hK
          have e13 : LongS w1 (z 13) (δ) := hd.out 13 (by kernel_rfl)
          clear hd ho
          go_simp
          obtain ⟨_, pa', pc', e3a⟩ := e13.len
          rw [e3a] at e13
          simp only [e3a]
          go_simp
          have hh := hK.out (.slice (some ⟨w1.heap.size, 0, none⟩) 1 1) _ (below1 _ (.cells #[.slice pa' (dlen B9 δ) pc'] 75)) ⟨_, _, rfl, Blk.new _ _ _, e13.keep (below1 _ _)⟩
          simp only [Act.put, List.setIfInBounds_toArray, List.set_cons_zero, List.set_cons_succ, e3a] at hh
          exact hh
        refine Rgn.AllOb.cons (j := 16) (by kernel_rfl) ?_ ?_
        · refine' Rgn.ob_tail0 (fr := _) ?hf_c15 ?h1_c15 ?h3_c15 ?h_c15
          case hf_c15 => exact hfr
          case h1_c15 => kernel_rfl
          case h3_c15 => rfl
          clear hfr
          intro z w1 hb hf hd ho K hK
          have e1 : z 1 = .slice na k nc2 := hd.out 1 rfl (by kernel_rfl)
          obtain ⟨b, p, e4, hXb, hp⟩ : ∃ b p, z 14 = .slice (some ⟨b, 0, none⟩) 1 1 ∧ Blk w1 b #[p] 75 ∧ LongS w1 p (δ) := hf.out 14 (by decide) rfl rfl
          have hVw := hvec.out.keep hb
          refine wp_append_long (ops := #[]) rfl _ _ rfl O (.slice na k nc2) R (by have := hVw.2.1; rw [hRl.out] at this; exact this) (by simp [Act.eval, e1]) b 1 p _ (by simp [Act.eval, e4]) hXb hp (by rw [hRl.out]; omega) (by have := hVw.1.lt; omega) ?_
          intro g cap w2 hM hg b2 hkeep
          rw [hRl.out] at hM ⊢
          have hh := hK.out (.slice (some ⟨g, 0, none⟩) (k + 1) cap) _ ⟨g, cap, rfl, fun _ => ⟨by have := hVw.1.keep b2 (Nat.lt_succ_self O); rw [hRl.out] at this; exact this, hM, hkeep _ _ hVw.2.2, hg⟩, (fun h => absurd h (by decide)), (fun h => absurd h (by decide)), (below_wt bV.out hb).trans (b2.mono (by have := hOV.out; omega))⟩
          exact hh
        refine Rgn.AllOb.cons (j := 17) (by kernel_rfl) ?_ ?_
        · refine' Rgn.ob_tail (fr := _) ?hf_c16 ?h1_c16 ?h3_c16 ?hp_c16 ?h4_c16 ?h_c16
          case hp_c16 => exact 1
          case hf_c16 => exact hfr
          case h1_c16 => kernel_rfl
          case h3_c16 => rfl
          case h4_c16 => kernel_rfl
          clear hfr
          intro z w1 hT hd ho K hK
          obtain ⟨g, cap, e5, h1, _, _, bb⟩ := hT
          have h1' := h1 (by decide)
          replace e5 : z 15 = .slice (some ⟨g, 0, none⟩) (k + 1) cap := e5
          clear hd ho h1
          go_simp
          have hh := hK.out (.pointer (some ⟨O, 0, none⟩)) _ ⟨g, cap, e5, fun _ => h1', fun _ => rfl, (fun h => absurd h (by decide)), bb⟩
          simp only [Act.put, List.setIfInBounds_toArray, List.set_cons_zero, List.set_cons_succ, e5] at hh
          first | exact hh | (simp only [e5]; exact hh)
        refine Rgn.AllOb.cons (j := 18) (by kernel_rfl) ?_ ?_
        · refine' Rgn.ob_tail (fr := _) ?hf_c17 ?h1_c17 ?h3_c17 ?hp_c17 ?h4_c17 ?h_c17
          case hp_c17 => exact 2
          case hf_c17 => exact hfr
          case h1_c17 => kernel_rfl
          case h3_c17 => rfl
          case h4_c17 => kernel_rfl
          clear hfr
          intro z w1 hT hd ho K hK
          obtain ⟨g, cap, e5, h1, h8, _, bb⟩ := hT
          obtain ⟨hX, hM, hD, hg⟩ := h1 (by decide)
          replace e5 : z 15 = .slice (some ⟨g, 0, none⟩) (k + 1) cap := e5
          have e6 : z 16 = .pointer (some ⟨O, 0, none⟩) := h8 rfl
          have y0 := hX.cell 0
          have f0 := hX.frozen 0
          simp only [List.getElem?_toArray, List.getElem?_cons_zero] at y0
          clear hd ho h1 h8
          go_simp
          have hst := VecAt.store (R := R) (by rw [hRl.out]; exact hX) (by rw [hRl.out]; exact hM) hg hD
          rw [hRl.out] at hst
          have hh := hK.out undef _ ⟨g, cap, e5, (fun h => absurd h (by decide)), (fun h => absurd h (by decide)), fun _ => hst, bb.setCell (p := ⟨O, 0, none⟩) hOV.out _⟩
          simp only [Act.put, List.setIfInBounds_toArray, List.set_cons_zero, List.set_cons_succ, e5, e6] at hh
          exact hh
        exact Rgn.AllOb.nil
      case hend_c =>
        intro hfr
        refine' Rgn.end_tails (fr := _) ?g1_c ?g2_c ?g3_c
        case g1_c => exact hfr
        case g2_c => rfl
        clear hfr
        intro z w7 hT hg
        obtain ⟨g, cap, e5, _, _, hv3, bb⟩ := hT
        have hvn := Lib.hid (hv3 rfl)
        have bb' := Lib.hid bb
        rw [← hnxk.out] at hvn
        clear hv3 hg bb hvec cO0 bV
        go_wp2
        go_roundw
        case rel => exact ⟨k + 1, _, _, _, _, _, by have := hlt'.out; omega, by go_num, hvn, bb'⟩
        case measure => have := hlt'.out; simp [intOf]; omega
    · obtain rfl : n = k := by omega
      have hnn : ¬ (n : Int) < (n : Int) := by omega
      have hall : (sureN n s).take n = sureN n s := by
        have := List.take_length (l := sureN n s)
        rwa [sureN_length] at this
      rw [hall] at hvec
      have hRr := hR'.out.keep bV.out hR'.out.lt
      have hO1 := hvec.out.1
      rw [sureN_length] at hO1
      obtain ⟨o0, o1⟩ := (⟨hO1.cell 0, hO1.cell 1⟩ : _ ∧ _)
      obtain ⟨r0, r1⟩ := (⟨hRr.cell 0, hRr.cell 1⟩ : _ ∧ _)
      have f0 := hRr.frozen 0
      have f1 := hRr.frozen 1
      simp only [List.getElem?_toArray, List.getElem?_cons_zero, List.getElem?_cons_succ] at o0 o1 r0 r1
      have hrow0 := hvec.out.2.1.done
      have hown : ∀ g o, na = some ⟨g, o, none⟩ → w.heap.size < g := by
        obtain ⟨xs, how, _⟩ := hvec.out.2.1
        intro g o e
        subst e
        rcases how.2 with ⟨h, _⟩ | ⟨g', c', cur, h, hg', _⟩
        · cases h
        · injection h with h _ _
          injection h with h
          injection h with h _ _
          have := hBO.out
          omega
      rw [sureN_length] at hrow0
      have hfA := Lib.hid ((hrow0.setBoxS hRr (fun g o e => Nat.ne_of_gt (hown g o e)) 0 (.slice na n nc2)).setBoxS (hRr.set 0 _) (fun g o e => Nat.ne_of_gt (hown g o e)) 1 (.slice da2 dl2 dc2))
      have hfD := Lib.hid ((hvec.out.2.2.setBox hRr 0 (.slice na n nc2)).setBox (hRr.set 0 _) 1 (.slice da2 dl2 dc2))
      have hfB := Lib.hid (((below_wt b12'.out bV.out).setCell (p := ⟨w.heap.size, 0, none⟩) (Nat.le_refl _) (.slice na n nc2)).setCell (p := ⟨w.heap.size, 1, none⟩) (Nat.le_refl _) (.slice da2 dl2 dc2))
      clear hvec hRr hO1 hrow0 hown hall bV hlt
      go_wp2
      refine bodyPost_ret (v := .agg #[.slice na n nc2, .slice da2 dl2 dc2]) (by simp [results, Tryz.results43, go_sem, r0, r1]) rfl ?_
      exact ⟨_, _, _, rfl, hfA.out, hfD.out, hfB.out⟩
end Go.Proofs.YtiddhnnofpbopaaGreatDoor
