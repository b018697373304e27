/- IsStationary of the project. Conditions: told by the code. -/
import Derived.Test.YtiddhnnofpbopaaIsM
namespace Go.Proofs.Ytiddhnnofpbopaa
open Go.RowKit Go.Deep
set_option linter.unusedVariables false
set_option linter.unusedSimpArgs false

theorem NumsAt.ne {e t : TypeId} {w : World} {g O : Nat} {R : List Nat} {c : Array Value} (h : NumsAt e w g R) (hB : Blk w O c t) (ht : e ≠ t) : g ≠ O := by
  obtain ⟨c', hX, _⟩ := h
  intro h
  subst h
  unfold Blk at hX hB
  rw [hX] at hB
  injection hB with hB
  injection hB with _ h2 _
  exact ht h2

set_option maxRecDepth 100000 in
set_option maxHeartbeats 40000000 in
theorem IsStationary_impl (cv pv : Value) (c : Ch) (p : List (ByteArray × ByteArray)) (w : World) (hc : ChR w cv c) (hp : FrL w pv p) :
    Calls Try.prog 15 #[cv, pv] w fun e w' => e = .returned (.tuple #[.bool (isR c p).1, .int .i64 (isR c p).2]) ∧ Below w.heap.size w w' := by
  obtain ⟨hm1, va, vc, rfl, _⟩ := id hp
  unfold maxLen at hm1
  obtain ⟨ca, ccap, hcv, hcr⟩ : ∃ a cap, cv = .agg #[.int .i64 c.n, .int .i64 c.t, .slice a c.w.length cap] ∧ Rows2 w (.slice a c.w.length cap) c.w := by
    obtain ⟨v, rfl, hr⟩ := hc
    obtain ⟨_, a, cap, rfl⟩ := hr.len
    exact ⟨a, cap, rfl, hr⟩
  subst hcv
  have b0 := below1 w (.cells #[.int .i64 c.n, .int .i64 c.t, .slice ca c.w.length ccap] 36)
  have hB := Blk.new w #[.int .i64 c.n, .int .i64 c.t, .slice ca c.w.length ccap] 36
  have hrs := Lib.hid (readSpreadOf_any _ (.slice va p.length vc) c p _ (hc.keep b0) (hp.keep b0))
  have hW0 := Lib.hid (hcr.keep b0)
  obtain ⟨q0, q1, q2⟩ := (⟨hB.cell 0, hB.cell 1, hB.cell 2⟩ : _ ∧ _ ∧ _)
  simp only [List.getElem?_toArray, List.getElem?_cons_zero, List.getElem?_cons_succ] at q0 q1 q2
  obtain ⟨L, hL⟩ : ∃ L, L = p.length := ⟨_, rfl⟩
  rw [← hL] at hm1 hrs ⊢
  have hL' := Lib.hid hL
  clear hc hp hcr hL
  go_enter Try.func15, Try.ntmps15
  go_wp2_with fail
  (with_reducible refine hrs.out.mono ?_)
  rintro e w1 ⟨aa, an, acap, rfl, b1, hval⟩
  have hB1 := Lib.hid (hB.keep b1 hB.lt)
  have hW1 := Lib.hid (hW0.out.keep b1)
  have B1 := Lib.hid (below_wt b0 b1)
  have hval' := Lib.hid hval
  clear hval b1 hB hrs hW0 q0 q1 q2 b0
  by_cases hrc : rsoC c p = 0
  · obtain ⟨ho1, ho2, hl, hres⟩ := rso_ok hrc
    obtain ⟨hn, hP⟩ := hval'.out hrc
    obtain rfl : L = an := by rw [hn, hL'.out]
    rw [hrc]
    obtain ⟨hch, al, aW, a9, dW, d9, d0, pl, pW, p9, p0, dotW⟩ := isF_of ho1 ho2 hl
    have f1 := (spreadB_all ho1).1
    have hden := numP_den f1
    have hlen := numP_len f1
    rw [← hL'.out] at hch al aW pl pW dotW hres
    obtain ⟨n1, n6, t1, t2, hcn, hct, hcl, hrow⟩ := hch
    obtain ⟨t, hte⟩ : ∃ t, c.t.toNat = t := ⟨_, rfl⟩
    rw [hte] at t1 t2 hct
    obtain ⟨A, hA⟩ : ∃ A, comN (comD (numP p)) (numP p) = A := ⟨_, rfl⟩
    obtain ⟨D, hD⟩ : ∃ D, comD (numP p) = D := ⟨_, rfl⟩
    have hsh := Lib.hid (fun w2 (hb : Below w1.heap.size w1 w2) => shareOut_any (.slice aa L acap) (numP p) 300 w2 (hP.keep likeI hb) hlen hden (by rw [pl]; omega) (by rw [pl]; omega))
    have hisk := Lib.hid (fun k => (show isK c p L k = decide (((numP p).getD k (0, 0)).1 * (D * t) = dotN c.w A k L * ((numP p).getD k (0, 0)).2) by unfold isK; rw [hA, hD, hte]))
    rw [hA] at hsh al aW dotW
    rw [hD] at hsh dW
    rw [hcn, hct, hcl] at hB1
    rw [hcl] at hW1
    have hst := Lib.hid (fun w2 (nv dv : Value) (hb : Below w1.heap.size w1 w2) (h1 : RowL LongI w2 nv A) (h2 : LongI w2 dv D) => sharingStep_any nv dv (.slice ca L ccap) A D L 3300 t c.w w2 h1 h2 (hW1.out.keep hb) al (by omega) hcl hrow (by omega) aW (by omega) (by omega))
    have hSg := Lib.hid (fun k (h : k < L) => stepN_get c.w A L k h)
    have hSl := Lib.hid (stepN_length c.w A L)
    have dE : dlen W32 (D * t) ≤ 3003 := mul_dlen w32 dW (dlen_le w32 (show t < W32 ^ 3 by simp only [W32]; omega))
    obtain ⟨S, hS⟩ : ∃ S, stepN c.w A L = S := ⟨_, rfl⟩
    obtain ⟨E, hE⟩ : ∃ E, D * t = E := ⟨_, rfl⟩
    rw [hS] at hst hSg hSl
    simp only [hE] at hst hisk dE
    have hM := Lib.hid hP
    replace dotW := Lib.hid dotW
    replace pW := Lib.hid pW
    replace pl := Lib.hid pl
    replace hres := Lib.hid hres
    have V0 : True := trivial
    obtain ⟨V, hV⟩ : ∃ V, w1 = V := ⟨_, rfl⟩
    rw [hV] at hsh hst hB1 B1 hM ⊢
    have cC0 := Lib.hid (fun w1 (hb : Below V.heap.size V w1) => (show w1.cell? ⟨w.heap.size, 0, none⟩ = some (.int .i64 (L : Int)) from (hB1.out.keep hb hB1.out.lt).cell 0))
    have cC1 := Lib.hid (fun w1 (hb : Below V.heap.size V w1) => (show w1.cell? ⟨w.heap.size, 1, none⟩ = some (.int .i64 (t : Int)) from (hB1.out.keep hb hB1.out.lt).cell 1))
    have cC2 := Lib.hid (fun w1 (hb : Below V.heap.size V w1) => (show w1.cell? ⟨w.heap.size, 2, none⟩ = some (.slice ca L ccap) from (hB1.out.keep hb hB1.out.lt).cell 2))
    clear hrc ho1 ho2 hl hn hP al aW a9 dW d9 d0 p9 p0 hcn hct hcl hrow hte hA hD hS hE f1 hden hlen hval' hW1 hV hB1 V0
    go_upto_region 4 with fail
    refine' Rgn.region_by (fun i => match i with | 5 => 1 | _ => 0) 1 (fun _ => false) (fun i _ v w' => match i with
        | 0 => v = .slice aa L acap
        | 1 => ∃ p q, v = .agg #[p, q] ∧ RowL LongI w' p A ∧ LongI w' q D
        | 2 => v = .agg #[.int .i64 (L : Int), .int .i64 (t : Int), .slice ca L ccap]
        | 3 => ∃ g d, v = .agg #[.slice (some ⟨g, 0, none⟩) L L, d] ∧ NumsAt 71 w' g S ∧ LongI w' d E
        | 4 => ∃ B : Nat, v = .pointer (some ⟨B, 0, none⟩) ∧ V.heap.size ≤ B ∧ Blk w' B #[.slice none 0 0, .slice none 0 0] 73
        | _ => True) (fun i _ v => match i with
        | 0 => v = .slice aa L acap
        | 1 => True
        | 2 => v = .agg #[.int .i64 (L : Int), .int .i64 (t : Int), .slice ca L ccap]
        | 3 => True
        | 4 => True
        | _ => True)
        (fun p z w' => ∃ (O g : Nat) (ra : Option Addr) (rn rc : Nat), z 4 = .pointer (some ⟨O, 0, none⟩) ∧ Blk w' O #[.slice (some ⟨g, 0, none⟩) L L, .slice ra rn rc] 73 ∧ NumsAt 71 w' g S ∧ LongI w' (.slice ra rn rc) E ∧ Below V.heap.size V w') (by kernel_rfl) (by kernel_rfl) (by kernel_rfl) ?hst_a ?hG_a _ ?hfr_a ?hob_a ?hend_a
    case hfr_a =>
      intro z
      simp only [Rgn.fillAll, Act.put, List.setIfInBounds_toArray, List.set_cons_zero, List.set_cons_succ, Nat.reduceAdd, Nat.zero_add]
      exact rfl
    case hst_a =>
      intro i z v w1 w2 hi hb hx
      rcases i with _ | i
      · exact hx
      rcases i with _ | i
      · exact (fun v w1 w2 hb h => h.elim fun p h => h.elim fun q h => ⟨p, q, h.1, h.2.1.keep likeI hb, h.2.2.keep hb⟩) v w1 w2 hb hx
      rcases i with _ | i
      · exact hx
      rcases i with _ | i
      · exact (fun v w1 w2 hb h => h.elim fun g h => h.elim fun d h => ⟨g, d, h.1, h.2.1.keep hb, h.2.2.keep hb⟩) v w1 w2 hb hx
      rcases i with _ | i
      · exact (fun v w1 w2 hb h => h.elim fun B hB => ⟨B, hB.1, hB.2.1, hB.2.2.step hb⟩) v w1 w2 hb hx
      rcases i with _ | i
      · exact trivial
      exact trivial
    case hG_a =>
      intro i z v w1 hi hx
      rcases i with _ | i
      · exact hx
      rcases i with _ | i
      · trivial
      rcases i with _ | i
      · exact hx
      rcases i with _ | i
      · trivial
      rcases i with _ | i
      · trivial
      rcases i with _ | i
      · exact trivial
      exact trivial
    case hob_a =>
      intro hfr
      refine Rgn.AllOb.cons (j := 1) (by kernel_rfl) ?_ ?_
      · refine' Rgn.ob_body (fr := _) ?hf_a0 ?h1_a0 ?h2_a0 ?h3_a0 ?h_a0
        case hf_a0 => exact hfr
        case h1_a0 => kernel_rfl
        case h2_a0 => kernel_rfl
        case h3_a0 => rfl
        clear hfr
        intro z w1 hb hd ho K hK
        clear hd ho
        go_simp
        have hh := hK.out (.slice aa L acap) _ (Below.refl _ _) rfl
        simp only [Act.put, List.setIfInBounds_toArray, List.set_cons_zero, List.set_cons_succ] at hh
        exact hh
      refine Rgn.AllOb.cons (j := 2) (by kernel_rfl) ?_ ?_
      · refine' Rgn.ob_body (fr := _) ?hf_a1 ?h1_a1 ?h2_a1 ?h3_a1 ?h_a1
        case hf_a1 => exact hfr
        case h1_a1 => kernel_rfl
        case h2_a1 => kernel_rfl
        case h3_a1 => rfl
        clear hfr
        intro z w1 hb hd ho K hK
        have e0 : z 0 = .slice aa L acap := hd.out 0 (by kernel_rfl)
        clear hd ho
        go_simp
        refine (hsh.out w1 hb).mono ?_
        rintro e w2 ⟨p, q, rfl, hp, hq2, b⟩
        have hh := hK.out _ _ b ⟨p, q, rfl, hp, hq2⟩
        simp only [Act.put, List.setIfInBounds_toArray, List.set_cons_zero, List.set_cons_succ, e0] at hh
        exact hh
      refine Rgn.AllOb.cons (j := 3) (by kernel_rfl) ?_ ?_
      · refine' Rgn.ob_body (fr := _) ?hf_a2 ?h1_a2 ?h2_a2 ?h3_a2 ?h_a2
        case hf_a2 => exact hfr
        case h1_a2 => kernel_rfl
        case h2_a2 => kernel_rfl
        case h3_a2 => rfl
        clear hfr
        intro z w1 hb hd ho K hK
        clear hd ho
        have x0 := cC0.out w1 hb; have x1 := cC1.out w1 hb; have x2 := cC2.out w1 hb
        go_simp
        have hh := hK.out (.agg #[.int .i64 (L : Int), .int .i64 (t : Int), .slice ca L ccap]) _ (Below.refl _ _) rfl
        simp only [Act.put, List.setIfInBounds_toArray, List.set_cons_zero, List.set_cons_succ] at hh
        exact hh
      refine Rgn.AllOb.cons (j := 4) (by kernel_rfl) ?_ ?_
      · refine' Rgn.ob_body (fr := _) ?hf_a3 ?h1_a3 ?h2_a3 ?h3_a3 ?h_a3
        case hf_a3 => exact hfr
        case h1_a3 => kernel_rfl
        case h2_a3 => kernel_rfl
        case h3_a3 => rfl
        clear hfr
        intro z w1 hb hd ho K hK
        have e1 : ∃ p q, (z 1) = .agg #[p, q] ∧ RowL LongI w1 p A ∧ LongI w1 q D := hd.out 1 (by kernel_rfl)
        have e2 : z 2 = .agg #[.int .i64 (L : Int), .int .i64 (t : Int), .slice ca L ccap] := hd.out 2 (by kernel_rfl)
        clear hd ho
        go_simp
        obtain ⟨p, q, e1, hp, hq2⟩ := e1
        simp only [e1]
        refine (hst.out w1 p q hb hp hq2).mono ?_
        rintro e w2 ⟨g, d', rfl, hp', hq', _, b⟩
        have hh := hK.out _ _ b ⟨_, _, rfl, hp', hq'⟩
        simp only [Act.put, List.setIfInBounds_toArray, List.set_cons_zero, List.set_cons_succ, e2, e1] at hh
        exact hh
      refine Rgn.AllOb.cons (j := 5) (by kernel_rfl) ?_ ?_
      · refine' Rgn.ob_body (fr := _) ?hf_a4 ?h1_a4 ?h2_a4 ?h3_a4 ?h_a4
        case hf_a4 => exact hfr
        case h1_a4 => kernel_rfl
        case h2_a4 => kernel_rfl
        case h3_a4 => rfl
        clear hfr
        intro z w1 hb hd ho K hK
        clear hd ho
        go_simp
        have hh := hK.out _ _ (below1 _ _) ⟨_, rfl, hb.size, Blk.new _ _ _⟩
        simp only [Act.put, List.setIfInBounds_toArray, List.set_cons_zero, List.set_cons_succ] at hh
        exact hh
      refine Rgn.AllOb.cons (j := 6) (by kernel_rfl) ?_ ?_
      · refine' Rgn.ob_tail0 (fr := _) ?hf_a5 ?h1_a5 ?h3_a5 ?h_a5
        case hf_a5 => exact hfr
        case h1_a5 => kernel_rfl
        case h3_a5 => rfl
        clear hfr
        intro z w1 hb hf hd ho K hK
        obtain ⟨g, d, e3, hN, hd8⟩ : ∃ g d, z 3 = .agg #[.slice (some ⟨g, 0, none⟩) L L, d] ∧ NumsAt 71 w1 g S ∧ LongI w1 d E := hf.out 3 (by decide) rfl rfl
        obtain ⟨B, e4, hB, hX⟩ : ∃ B : Nat, z 4 = .pointer (some ⟨B, 0, none⟩) ∧ V.heap.size ≤ B ∧ Blk w1 B #[.slice none 0 0, .slice none 0 0] 73 := hf.out 4 (by decide) rfl rfl
        obtain ⟨ra, rn, rc, rfl⟩ := likeI.shape hd8
        have hne := hN.ne hX (by decide)
        have y0 := hX.cell 0
        have y1 := hX.cell 1
        have f0 := hX.frozen 0
        have f1 := hX.frozen 1
        simp only [List.getElem?_toArray, List.getElem?_cons_zero, List.getElem?_cons_succ] at y0 y1
        clear hf hd ho
        go_simp
        have hh := hK.out undef _ ⟨B, g, ra, rn, rc, e4, by have := (hX.set 0 (.slice (some ⟨g, 0, none⟩) L L)).set 1 (.slice ra rn rc); simpa using this, (hN.setBox hX hne 0 _).setBox (hX.set 0 _) hne 1 _, (hd8.setBox hX 0 _).setBox (hX.set 0 _) 1 _, (hb.setCell (p := ⟨B, 0, none⟩) hB _).setCell (p := ⟨B, 1, none⟩) hB _⟩
        simp only [Act.put, List.setIfInBounds_toArray, List.set_cons_zero, List.set_cons_succ, e3, e4] at hh
        exact hh
      exact Rgn.AllOb.nil
    case hend_a =>
      intro hfr
      refine' Rgn.end_tails (fr := _) ?g1_a ?g2_a ?g3_a
      case g1_a => exact hfr
      case g2_a => rfl
      clear hfr
      intro z w7 hT hg
      obtain ⟨O, g, ra, rn, rc, e4, hOb, hN, hEv, b7⟩ := hT
      replace e4 : z 4 = .pointer (some ⟨O, 0, none⟩) := e4
      simp only [e4]
      have hO := Lib.hid hOb
      have hNx := Lib.hid hN
      have hEx := Lib.hid hEv
      have hM7 := Lib.hid (hM.out.keep likeI b7)
      have B7 := Lib.hid (below_wt B1.out b7)
      clear hg e4 hOb hN hEv b7 cC0 cC1 cC2 hM B1 hsh hst
      go_wp2
      go_loopw [26] (fun i wr => ∃ k : Nat, k ≤ L ∧ i = .int .i64 (k : Int) ∧ Hid (isAll c p L k = true) ∧ Hid (Below w7.heap.size w7 wr)) (fun i _ => L - (intOf i).toNat)
      case atStart => exact ⟨0, Nat.zero_le _, rfl, Lib.hid rfl, Lib.hid (Below.refl _ _)⟩
      case round =>
        obtain ⟨k, hk, rfl, hall, bel⟩ := hrel
        by_cases hlt : k < L
        · have i1 : (k : Int) < (L : Int) := by omega
          have i0 : (0 : Int) ≤ (k : Int) := by omega
          have hlt' := Lib.hid hlt
          obtain ⟨b, o, x0, x1, rfl, q0, q1, hx0, hx1⟩ := (hM7.out.keep likeI bel.out).at k (by rw [pl.out]; exact hlt)
          obtain ⟨u1, u2⟩ := pW.out k hlt
          have hik := hisk.out k
          have hdk := dotW.out k L (Nat.le_refl _)
          have hsg := hSg.out k hlt
          obtain ⟨N, hNe⟩ : ∃ N, ((numP p).getD k (0, 0)).1 = N := ⟨_, rfl⟩
          obtain ⟨M, hMe⟩ : ∃ M, ((numP p).getD k (0, 0)).2 = M := ⟨_, rfl⟩
          obtain ⟨Q, hQe⟩ : ∃ Q, S.getD k 0 = Q := ⟨_, rfl⟩
          rw [← hsg, hQe] at hik hdk
          rw [hNe, hMe] at hik
          rw [hNe] at hx0 u1
          rw [hMe] at hx1 u2
          obtain ⟨_, xa, xc, rfl⟩ := hx0.len
          obtain ⟨_, ya, yc, rfl⟩ := hx1.len
          have bx := below1 wr (.cells #[.slice xa (dlen W32 N) xc, .slice ya (dlen W32 M) yc] 77)
          have hXb := Blk.new wr #[.slice xa (dlen W32 N) xc, .slice ya (dlen W32 M) yc] 77
          have hX0 := Lib.hid (hx0.keep bx)
          have hX1 := Lib.hid (hx1.keep bx)
          have bel2 := Lib.hid (below_wt bel.out bx)
          have hNS0 := (hNx.out.keep bel.out).keep bx
          have hE0 := (hEx.out.keep bel.out).keep bx
          have hO0 := (hO.out.keep bel.out hO.out.lt).keep bx (hO.out.keep bel.out hO.out.lt).lt
          obtain ⟨CC, hCCe⟩ : ∃ x, cmpI (N * E) (Q * M) = x := ⟨_, rfl⟩
          have hz := cmpI_zero (N * E) (Q * M)
          rw [hCCe, ← hik] at hz
          obtain ⟨bb, hbe⟩ : ∃ x, (CC != 0) = x := ⟨_, rfl⟩
          rw [hbe] at hz
          have hbb := Lib.hid hbe
          have hCC := Lib.hid hCCe
          have hzz := Lib.hid hz
          replace hE0 := Lib.hid hE0
          replace hO0 := Lib.hid hO0
          replace hXb := Lib.hid hXb
          replace hNS0 := Lib.hid (hNS0.rowN (n := L) hSl.out L)
          have hQ' := Lib.hid hQe
          clear hx0 hx1 bx hik hsg hNe hMe hQe hCCe hz hbe hlt
          go_upto_region 8 with fail
          generalize hX : wr.alloc (.cells #[.slice xa (dlen W32 N) xc, .slice ya (dlen W32 M) yc] 77) = X at *
          generalize wr.heap.size = BX at *
          have cX0 := Lib.hid (fun w1 (hb : Below X.heap.size X w1) => (show w1.cell? ⟨BX, 0, none⟩ = some (.slice xa (dlen W32 N) xc) from (hXb.out.keep hb hXb.out.lt).cell 0))
          have cX1 := Lib.hid (fun w1 (hb : Below X.heap.size X w1) => (show w1.cell? ⟨BX, 1, none⟩ = some (.slice ya (dlen W32 M) yc) from (hXb.out.keep hb hXb.out.lt).cell 1))
          have cO0 := Lib.hid (fun w1 (hb : Below X.heap.size X w1) => (show w1.cell? ⟨O, 0, none⟩ = some (.slice (some ⟨g, 0, none⟩) L L) from (hO0.out.keep hb hO0.out.lt).cell 0))
          have cO1 := Lib.hid (fun w1 (hb : Below X.heap.size X w1) => (show w1.cell? ⟨O, 1, none⟩ = some (.slice ra rn rc) from (hO0.out.keep hb hO0.out.lt).cell 1))
          have hAt := Lib.hid (fun w1 (hb : Below X.heap.size X w1) => sharingAt_any _ _ S E k w1 (hNS0.out.keep likeI hb) (hE0.out.keep hb) (by rw [hSl.out]; exact hlt'.out) (by rw [hSl.out]; omega))
          rw [hQ'.out] at hAt
          clear hX q0 q1 hXb hO0
          refine' Rgn.region_by (fun _ => 0) 0 (fun _ => false) (fun i _ v w' => match i with
              | 0 => v = .agg #[.slice xa (dlen W32 N) xc, .slice ya (dlen W32 M) yc]
              | 1 => v = .agg #[.slice (some ⟨g, 0, none⟩) L L, .slice ra rn rc]
              | 2 => v = .int .i64 (k : Int)
              | 3 => ∃ p q, v = .agg #[p, q] ∧ LongI w' p (Q) ∧ LongI w' q (E)
              | 4 => v = .int .i64 CC
              | 5 => v = .bool bb
              | _ => True) (fun i _ v => match i with
              | 0 => v = .agg #[.slice xa (dlen W32 N) xc, .slice ya (dlen W32 M) yc]
              | 1 => v = .agg #[.slice (some ⟨g, 0, none⟩) L L, .slice ra rn rc]
              | 2 => v = .int .i64 (k : Int)
              | 3 => True
              | 4 => True
              | 5 => v = .bool bb
              | _ => True)
              (fun _ _ _ => True) (by kernel_rfl) (by kernel_rfl) (by kernel_rfl) ?hst_b ?hG_b _ ?hfr_b ?hob_b ?hend_b
          case hfr_b =>
            intro z
            simp only [Rgn.fillAll, Act.put, List.setIfInBounds_toArray, List.set_cons_zero, List.set_cons_succ, Nat.reduceAdd, Nat.zero_add]
            exact rfl
          case hst_b =>
            intro i z v w1 w2 hi hb hx
            rcases i with _ | i
            · exact hx
            rcases i with _ | i
            · exact hx
            rcases i with _ | i
            · exact hx
            rcases i with _ | i
            · exact (fun v w1 w2 hb h => h.elim fun p h => h.elim fun q h => ⟨p, q, h.1, h.2.1.keep hb, h.2.2.keep hb⟩) v w1 w2 hb hx
            rcases i with _ | i
            · exact (fun v w1 w2 hb h => h) v w1 w2 hb hx
            rcases i with _ | i
            · exact hx
            exact trivial
          case hG_b =>
            intro i z v w1 hi hx
            rcases i with _ | i
            · exact hx
            rcases i with _ | i
            · exact hx
            rcases i with _ | i
            · exact hx
            rcases i with _ | i
            · trivial
            rcases i with _ | i
            · trivial
            rcases i with _ | i
            · exact hx
            exact trivial
          case hob_b =>
            intro hfr
            refine Rgn.AllOb.cons (j := 1) (by kernel_rfl) ?_ ?_
            · refine' Rgn.ob_body (fr := _) ?hf_b0 ?h1_b0 ?h2_b0 ?h3_b0 ?h_b0
              case hf_b0 => exact hfr
              case h1_b0 => kernel_rfl
              case h2_b0 => kernel_rfl
              case h3_b0 => rfl
              clear hfr
              intro z w1 hb hd ho K hK
              clear hd ho
              have x0 := cX0.out w1 hb; have x1 := cX1.out w1 hb
              go_simp
              have hh := hK.out (.agg #[.slice xa (dlen W32 N) xc, .slice ya (dlen W32 M) yc]) _ (Below.refl _ _) rfl
              simp only [Act.put, List.setIfInBounds_toArray, List.set_cons_zero, List.set_cons_succ] at hh
              exact hh
            refine Rgn.AllOb.cons (j := 2) (by kernel_rfl) ?_ ?_
            · refine' Rgn.ob_body (fr := _) ?hf_b1 ?h1_b1 ?h2_b1 ?h3_b1 ?h_b1
              case hf_b1 => exact hfr
              case h1_b1 => kernel_rfl
              case h2_b1 => kernel_rfl
              case h3_b1 => rfl
              clear hfr
              intro z w1 hb hd ho K hK
              clear hd ho
              have x0 := cO0.out w1 hb; have x1 := cO1.out w1 hb
              go_simp
              have hh := hK.out (.agg #[.slice (some ⟨g, 0, none⟩) L L, .slice ra rn rc]) _ (Below.refl _ _) rfl
              simp only [Act.put, List.setIfInBounds_toArray, List.set_cons_zero, List.set_cons_succ] at hh
              exact hh
            refine Rgn.AllOb.cons (j := 3) (by kernel_rfl) ?_ ?_
            · refine' Rgn.ob_body (fr := _) ?hf_b2 ?h1_b2 ?h2_b2 ?h3_b2 ?h_b2
              case hf_b2 => exact hfr
              case h1_b2 => kernel_rfl
              case h2_b2 => kernel_rfl
              case h3_b2 => rfl
              clear hfr
              intro z w1 hb hd ho K hK
              clear hd ho
              go_simp
              have hh := hK.out (.int .i64 (k : Int)) _ (Below.refl _ _) rfl
              simp only [Act.put, List.setIfInBounds_toArray, List.set_cons_zero, List.set_cons_succ] at hh
              exact hh
            refine Rgn.AllOb.cons (j := 4) (by kernel_rfl) ?_ ?_
            · refine' Rgn.ob_body (fr := _) ?hf_b3 ?h1_b3 ?h2_b3 ?h3_b3 ?h_b3
              case hf_b3 => exact hfr
              case h1_b3 => kernel_rfl
              case h2_b3 => kernel_rfl
              case h3_b3 => rfl
              clear hfr
              intro z w1 hb hd ho K hK
              have e1 : z 1 = .agg #[.slice (some ⟨g, 0, none⟩) L L, .slice ra rn rc] := hd.out 1 (by kernel_rfl)
              have e2 : z 2 = .int .i64 (k : Int) := hd.out 2 (by kernel_rfl)
              clear hd ho
              go_simp
              have hat := hAt.out w1 hb
              refine hat.mono ?_
              rintro e w2 ⟨p, q, rfl, hp, hq2, b⟩
              have hh := hK.out _ _ b ⟨p, q, rfl, hp, hq2⟩
              simp only [Act.put, List.setIfInBounds_toArray, List.set_cons_zero, List.set_cons_succ, e1, e2] at hh
              exact hh
            refine Rgn.AllOb.cons (j := 5) (by kernel_rfl) ?_ ?_
            · refine' Rgn.ob_body (fr := _) ?hf_b4 ?h1_b4 ?h2_b4 ?h3_b4 ?h_b4
              case hf_b4 => exact hfr
              case h1_b4 => kernel_rfl
              case h2_b4 => kernel_rfl
              case h3_b4 => rfl
              clear hfr
              intro z w1 hb hd ho K hK
              have e0 : z 0 = .agg #[.slice xa (dlen W32 N) xc, .slice ya (dlen W32 M) yc] := hd.out 0 (by kernel_rfl)
              have e3 : ∃ p q, (z 3) = .agg #[p, q] ∧ LongI w1 p (Q) ∧ LongI w1 q (E) := hd.out 3 (by kernel_rfl)
              clear hd ho
              go_simp
              obtain ⟨p, q, e3, hp, hq2⟩ := e3
              obtain ⟨_, pa, pc, rfl⟩ := hp.len
              obtain ⟨_, qa, qc, rfl⟩ := hq2.len
              simp only [e3]
              refine (cmp_implW xa ya pa qa xc yc pc qc N M Q E w1 (hX0.out.keep hb) (hX1.out.keep hb) hp hq2 (by omega) (by omega) (by omega) (by omega)).mono ?_
              rintro e w2 ⟨rfl, b⟩
              rw [hCC.out]
              have hh := hK.out _ _ b rfl
              simp only [Act.put, List.setIfInBounds_toArray, List.set_cons_zero, List.set_cons_succ, e0, e3] at hh
              exact hh
            refine Rgn.AllOb.cons (j := 6) (by kernel_rfl) ?_ ?_
            · refine' Rgn.ob_body (fr := _) ?hf_b5 ?h1_b5 ?h2_b5 ?h3_b5 ?h_b5
              case hf_b5 => exact hfr
              case h1_b5 => kernel_rfl
              case h2_b5 => kernel_rfl
              case h3_b5 => rfl
              clear hfr
              intro z w1 hb hd ho K hK
              have e4 : (z 4) = .int .i64 CC := hd.out 4 (by kernel_rfl)
              clear hd ho
              have hbe := hbb.out
              go_simp
              have hh := hK.out (.bool bb) _ (Below.refl _ _) rfl
              simp only [Act.put, List.setIfInBounds_toArray, List.set_cons_zero, List.set_cons_succ, e4] at hh
              exact hh
            exact Rgn.AllOb.nil
          case hend_b =>
            intro hfr
            refine' Rgn.end_plain (fr := _) ?g1_b ?g2_b ?g3_b
            case g1_b => exact hfr
            case g2_b => kernel_rfl
            clear hfr
            intro z w8 b8 hf
            have e5 : z 5 = .bool bb := hf.out 5 (by decide)
            simp only [e5]
            have bel8 := Lib.hid (below_wt bel2.out b8)
            have Bf := Lib.hid (below_wt B7.out bel8.out)
            have hz := hzz.out
            clear hf e5 b8 cX0 cX1 cO0 cO1 hAt hbb bel bel2 hX0 hX1 hNS0 hE0 hCC hzz
            cases bb with
            | true =>
              have hno := Lib.hid (isAll_no (m := L) hlt'.out (show isK c p L k = false by simpa using hz))
              clear hz
              go_wp2
              go_ret2
              exact ⟨by rw [hres.out, hno.out]; first | done | rfl, Bf.out⟩
            | false =>
              have hnx := Lib.hid (isAll_next hall.out (show isK c p L k = true by simpa using hz))
              clear hz
              go_wp2
              go_roundw
              case rel => exact ⟨k + 1, by have := hlt'.out; omega, by go_num, hnx, bel8⟩
              case measure => have := hlt'.out; simp [intOf]; omega
        · obtain rfl : L = k := by omega
          have hnn : ¬ (L : Int) < (L : Int) := by omega
          have Bf := Lib.hid (below_wt B7.out bel.out)
          clear hlt
          go_wp2
          go_ret2
          exact ⟨by rw [hres.out, hall.out]; first | done | rfl, Bf.out⟩
  · have hr := Lib.hid (isR_rso c p hrc)
    obtain ⟨RC, hRC⟩ : ∃ x, rsoC c p = x := ⟨_, rfl⟩
    rw [hRC] at hrc hr ⊢
    have hne : (RC != 0) = true := by simpa using hrc
    clear hRC hval' hB1 hW1 hrc
    go_wp2
    go_ret2
    exact ⟨by rw [hr.out]; first | done | rfl, B1.out⟩
end Go.Proofs.Ytiddhnnofpbopaa
