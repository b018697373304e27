/- For every chain and list of fractions the project's IsStationary and the specification's answer alike and change nothing.
   Conditions: none beyond the row's own (every input that can be read as data). -/
import Derived.Test.YtiddhnnofpbopaaIsI
import Derived.Test.YtiddhnnofpbopaaIsS
import Derived.Test.YtiddhnnofpbopaaLg
import Derived.Test.YtiddhnnofpbopaaChainG
namespace Go.Proofs.Ytiddhnnofpbopaa.fnExactIsStationary
open Go.ChangeShapes Go.WideShapes Go.ChangeAt Go.RowKit Go.Deep Go.Joins
open Go.ChangeMaps (open_string shut_string)
set_option linter.unusedVariables false

theorem own : ownKnob Try.prog.godebug = none := by kernel_rfl
theorem laidOut : laidOutB Try.prog = true := by kernel_rfl

set_option maxRecDepth 100000 in
set_option maxHeartbeats 40000000 in
theorem walk {w : World} (v0 : Value) (c0 : Ch) (k0 : ChR w v0 c0) (v1 : Value) (c1 : List (ByteArray × ByteArray)) (k1 : FrsIn w v1 c1) :
    Calls Try.prog 4 #[v0, v1] w fun e w' => e = .returned (.bool true) ∧ Below w.heap.size w w' := by
  obtain ⟨a0, a0c, rfl⟩ := k0.shape
  obtain ⟨_, a1, a1c, rfl, _⟩ := id k1.1
  have bb0 := below1 w (.cells #[.int .i64 c0.n, .int .i64 c0.t, .slice a0 c0.w.length a0c] 30)
  have P0 := Blk.new w #[.int .i64 c0.n, .int .i64 c0.t, .slice a0 c0.w.length a0c] 30
  have B0 := bb0
  have z0 := B0.size
  have zP0 := P0.lt
  have R0 := Lib.hid (fun W (h : Below w.heap.size w W) => k0.keep h)
  have R1 := Lib.hid (fun W (h : Below w.heap.size w W) => k1.1.keep h)
  have R1s := Lib.hid (fun W (h : Below w.heap.size w W) => k1.keep h)
  obtain ⟨n1, hn1⟩ : ∃ n, c1.length = n := ⟨_, rfl⟩
  rw [hn1] at R1 R1s ⊢
  replace hn1 := Lib.hid hn1
  clear k0 k1
  go_enter Try.func4, Try.ntmps4
  obtain ⟨qP00, qP01, qP02⟩ := (⟨P0.cell 0, P0.cell 1, P0.cell 2⟩ : _ ∧ _ ∧ _)
  simp only [List.getElem?_toArray, List.getElem?_cons_zero, List.getElem?_cons_succ] at qP00 qP01 qP02
  go_wp2_with fail
  (with_reducible refine (sz_ch _ c0 1048576 _ (R0.out _ B0) (by decide) (by decide)).mono ?_)
  rintro e u1 ⟨⟨L0, rfl, hL0, hS0⟩, b1⟩
  clear qP00 qP01 qP02
  have B1 := below_wt B0 b1
  have z1 := b1.size
  replace P0 := P0.keep b1 P0.lt
  clear b1
  clear B0
  by_cases hq0 : L0 < 0
  · clear hS0
    go_wp2
    go_ret
    exact ⟨rfl, B1⟩
  · have bd0 := hS0 (by omega)
    have hq00 : 0 ≤ L0 := by omega
    clear hS0
    go_wp2_with fail
    (with_reducible refine (sz_frs _ c1 L0 _ (R1s.out _ B1) hq00 hL0).mono ?_)
    rintro e u2 ⟨⟨L1, rfl, hL1, hS1⟩, b2⟩
    have B2 := below_wt B1 b2
    have z2 := b2.size
    replace P0 := P0.keep b2 P0.lt
    clear b2
    clear B1
    by_cases hq1 : L1 < 0
    · clear hS1
      go_wp2
      go_ret
      exact ⟨rfl, B2⟩
    · have bd1 := hS1 (by omega)
      have hq10 : 0 ≤ L1 := by omega
      clear hS1
      have T0 := Lib.hid (fun W (h : Below w.heap.size w W) => to_ch _ c0 W (R0.out W h) bd0)
      have T1 := Lib.hid (fun W (h : Below w.heap.size w W) => toFractionS_own _ c1 W (R1.out W h) (Nat.le_trans bd1 (by decide)))
      have hs := (fun W u0 u1 (f0 : ChR W u0 c0) (f1 : FrL W u1 c1) => IsStationary_spec u0 u1 c0 c1 W f0 f1)
      have hi := (fun W u0 u1 (f0 : ChR W u0 c0) (f1 : FrL W u1 c1) => IsStationary_impl u0 u1 c0 c1 W f0 f1)
      generalize isR c0 c1 = r at hs hi
      obtain ⟨R, C⟩ := r
      simp only at hs hi
      replace hs := Lib.hid hs
      replace hi := Lib.hid hi
      obtain ⟨qP00, qP01, qP02⟩ := (⟨P0.cell 0, P0.cell 1, P0.cell 2⟩ : _ ∧ _ ∧ _)
      simp only [List.getElem?_toArray, List.getElem?_cons_zero, List.getElem?_cons_succ] at qP00 qP01 qP02
      go_wp2_with fail
      (with_reducible refine (T0.out _ B2).mono ?_)
      rintro e u3 ⟨s0, rfl, S0, b3⟩
      clear qP00 qP01 qP02
      have B3 := below_wt B2 b3
      have z3 := b3.size
      replace P0 := P0.keep b3 P0.lt
      clear b3
      clear B2
      go_wp2_with fail
      (with_reducible refine (T1.out _ B3).mono ?_)
      rintro e u4 ⟨s1, rfl, S1, b4⟩
      have B4 := below_wt B3 b4
      have z4 := b4.size
      replace S0 := S0.step b4
      replace P0 := P0.keep b4 P0.lt
      clear b4
      clear B3
      go_wp2_with fail
      (with_reducible refine (hs.out _ _ _ S0.ch S1.frl).mono ?_)
      rintro e u5 ⟨rfl, b5⟩
      have B5 := below_wt B4 b5
      have z5 := b5.size
      replace S0 := S0.step b5
      replace S1 := S1.keep b5
      replace P0 := P0.keep b5 P0.lt
      clear b5
      clear B4
      clear S0 S1
      clear hq0 hq00 hL0
      clear hq1 hq10 hL1
      obtain ⟨qP00, qP01, qP02⟩ := (⟨P0.cell 0, P0.cell 1, P0.cell 2⟩ : _ ∧ _ ∧ _)
      simp only [List.getElem?_toArray, List.getElem?_cons_zero, List.getElem?_cons_succ] at qP00 qP01 qP02
      go_wp2_with fail
      (with_reducible refine (T0.out _ B5).mono ?_)
      rintro e u6 ⟨x0, rfl, X0, b6⟩
      clear qP00 qP01 qP02
      have B6 := below_wt B5 b6
      have z6 := b6.size
      replace P0 := P0.keep b6 P0.lt
      clear b6
      clear B5
      obtain ⟨y0, y0c, rfl⟩ := X0.shape
      have b7 := below1 u6 (.cells #[.int .i64 c0.n, .int .i64 c0.t, .slice y0 c0.w.length y0c] 36)
      have Y0 := Blk.new u6 #[.int .i64 c0.n, .int .i64 c0.t, .slice y0 c0.w.length y0c] 36
      have y0z := World.size_alloc u6 (.cells #[.int .i64 c0.n, .int .i64 c0.t, .slice y0 c0.w.length y0c] 36)
      replace y0z := Nat.le_of_eq y0z.symm
      have B7 := below_wt B6 b7
      have z7 := b7.size
      replace X0 := X0.step b7
      replace P0 := P0.keep b7 P0.lt
      clear b7
      clear B6
      go_wp2_with fail
      (with_reducible refine (T1.out _ B7).mono ?_)
      rintro e u8 ⟨x1, rfl, X1, b8⟩
      have B8 := below_wt B7 b8
      have z8 := b8.size
      replace X0 := X0.step b8
      replace P0 := P0.keep b8 P0.lt
      replace Y0 := Y0.keep b8 Y0.lt
      clear b8
      clear B7
      obtain ⟨qY00, qY01, qY02⟩ := (⟨Y0.cell 0, Y0.cell 1, Y0.cell 2⟩ : _ ∧ _ ∧ _)
      simp only [List.getElem?_toArray, List.getElem?_cons_zero, List.getElem?_cons_succ] at qY00 qY01 qY02
      go_wp2_with fail
      (with_reducible refine (hi.out _ _ _ X0.ch X1.frl).mono ?_)
      rintro e u9 ⟨rfl, b9⟩
      clear qY00 qY01 qY02
      have B9 := below_wt B8 b9
      have z9 := b9.size
      replace X0 := X0.step b9
      replace X1 := X1.keep b9
      replace P0 := P0.keep b9 P0.lt
      replace Y0 := Y0.keep b9 Y0.lt
      clear b9
      clear B8
      go_upto_region 14 with fail
      have cY00 := Lib.hid (fun w1 (hb : Below u9.heap.size u9 w1) => ((Y0.keep hb Y0.lt).cell 0))
      have cY01 := Lib.hid (fun w1 (hb : Below u9.heap.size u9 w1) => ((Y0.keep hb Y0.lt).cell 1))
      have cY02 := Lib.hid (fun w1 (hb : Below u9.heap.size u9 w1) => ((Y0.keep hb Y0.lt).cell 2))
      simp only [List.getElem?_toArray, List.getElem?_cons_zero, List.getElem?_cons_succ] at cY00 cY01 cY02
      have cP00 := Lib.hid (fun w1 (hb : Below u9.heap.size u9 w1) => ((P0.keep hb P0.lt).cell 0))
      have cP01 := Lib.hid (fun w1 (hb : Below u9.heap.size u9 w1) => ((P0.keep hb P0.lt).cell 1))
      have cP02 := Lib.hid (fun w1 (hb : Below u9.heap.size u9 w1) => ((P0.keep hb P0.lt).cell 2))
      simp only [List.getElem?_toArray, List.getElem?_cons_zero, List.getElem?_cons_succ] at cP00 cP01 cP02
      refine' Rgn.region_by (fun _ => 0) 0 (fun _ => false) (fun i _ v w' => match i with
          | 0 => v = .agg #[.int .i64 c0.n, .int .i64 c0.t, .slice y0 c0.w.length y0c]
          | 1 => v = .agg #[.int .i64 c0.n, .int .i64 c0.t, .slice a0 c0.w.length a0c]
          | 2 => ChR w' v c0
          | 3 => v = .bool true
          | 4 => v = .bool false
          | _ => True) (fun i _ v => match i with
          | 0 => v = .agg #[.int .i64 c0.n, .int .i64 c0.t, .slice y0 c0.w.length y0c]
          | 1 => v = .agg #[.int .i64 c0.n, .int .i64 c0.t, .slice a0 c0.w.length a0c]
          | 2 => True
          | 3 => True
          | 4 => v = .bool false
          | _ => True)
          (fun _ _ _ => True) (by kernel_rfl) (by kernel_rfl) (by kernel_rfl) ?hst_b ?hG_b _ ?hfr_b ?hob_b ?hend_b
      case hfr_b =>
        intro z
        simp only [Rgn.fillAll, Act.put, List.setIfInBounds_toArray, List.set_cons_zero, List.set_cons_succ, Nat.reduceAdd, Nat.zero_add]
        exact rfl
      case hst_b =>
        intro i z v w1 w2 hi hb hx
        rcases i with _ | i
        · exact hx
        rcases i with _ | i
        · exact hx
        rcases i with _ | i
        · exact (fun v w1 w2 hb h => h.keep hb) v w1 w2 hb hx
        rcases i with _ | i
        · exact (fun v w1 w2 hb h => h) v w1 w2 hb hx
        rcases i with _ | i
        · exact hx
        exact trivial
      case hG_b =>
        intro i z v w1 hi hx
        rcases i with _ | i
        · exact hx
        rcases i with _ | i
        · exact hx
        rcases i with _ | i
        · trivial
        rcases i with _ | i
        · trivial
        rcases i with _ | i
        · exact hx
        exact trivial
      case hob_b =>
        intro hfr
        refine Rgn.AllOb.cons (j := 1) (by kernel_rfl) ?_ ?_
        · refine' Rgn.ob_body (fr := _) ?hf_b0 ?h1_b0 ?h2_b0 ?h3_b0 ?h_b0
          case hf_b0 => exact hfr
          case h1_b0 => kernel_rfl
          case h2_b0 => kernel_rfl
          case h3_b0 => rfl
          clear hfr
          intro z w1 hb hd ho K hK
          clear hd ho
          have x0 := cY00.out w1 hb; have x1 := cY01.out w1 hb; have x2 := cY02.out w1 hb
          go_simp
          have hh := hK.out (.agg #[.int .i64 c0.n, .int .i64 c0.t, .slice y0 c0.w.length y0c]) _ (Below.refl _ _) rfl
          simp only [Act.put, List.setIfInBounds_toArray, List.set_cons_zero, List.set_cons_succ] at hh
          exact hh
        refine Rgn.AllOb.cons (j := 2) (by kernel_rfl) ?_ ?_
        · refine' Rgn.ob_body (fr := _) ?hf_b1 ?h1_b1 ?h2_b1 ?h3_b1 ?h_b1
          case hf_b1 => exact hfr
          case h1_b1 => kernel_rfl
          case h2_b1 => kernel_rfl
          case h3_b1 => rfl
          clear hfr
          intro z w1 hb hd ho K hK
          clear hd ho
          have x0 := cP00.out w1 hb; have x1 := cP01.out w1 hb; have x2 := cP02.out w1 hb
          go_simp
          have hh := hK.out (.agg #[.int .i64 c0.n, .int .i64 c0.t, .slice a0 c0.w.length a0c]) _ (Below.refl _ _) rfl
          simp only [Act.put, List.setIfInBounds_toArray, List.set_cons_zero, List.set_cons_succ] at hh
          exact hh
        refine Rgn.AllOb.cons (j := 3) (by kernel_rfl) ?_ ?_
        · refine' Rgn.ob_body (fr := _) ?hf_b2 ?h1_b2 ?h2_b2 ?h3_b2 ?h_b2
          case hf_b2 => exact hfr
          case h1_b2 => kernel_rfl
          case h2_b2 => kernel_rfl
          case h3_b2 => rfl
          clear hfr
          intro z w1 hb hd ho K hK
          have e1 : z 1 = .agg #[.int .i64 c0.n, .int .i64 c0.t, .slice a0 c0.w.length a0c] := hd.out 1 (by kernel_rfl)
          clear hd ho
          go_simp
          refine (T0.out w1 (below_wt B9 hb)).mono ?_
          rintro e w2 ⟨y, rfl, hy, b⟩
          have hh := hK.out _ _ b hy.ch
          simp only [Act.put, List.setIfInBounds_toArray, List.set_cons_zero, List.set_cons_succ, e1] at hh
          exact hh
        refine Rgn.AllOb.cons (j := 4) (by kernel_rfl) ?_ ?_
        · refine' Rgn.ob_body (fr := _) ?hf_b3 ?h1_b3 ?h2_b3 ?h3_b3 ?h_b3
          case hf_b3 => exact hfr
          case h1_b3 => kernel_rfl
          case h2_b3 => kernel_rfl
          case h3_b3 => rfl
          clear hfr
          intro z w1 hb hd ho K hK
          have e0 : z 0 = .agg #[.int .i64 c0.n, .int .i64 c0.t, .slice y0 c0.w.length y0c] := hd.out 0 (by kernel_rfl)
          have e2 : ChR w1 (z 2) c0 := hd.out 2 (by kernel_rfl)
          clear hd ho
          go_simp
          refine (eq_ch _ _ c0 w1 (X0.ch.keep hb) e2).mono ?_
          rintro e w2 ⟨rfl, b⟩
          have hh := hK.out _ _ b rfl
          simp only [Act.put, List.setIfInBounds_toArray, List.set_cons_zero, List.set_cons_succ, e0] at hh
          exact hh
        refine Rgn.AllOb.cons (j := 5) (by kernel_rfl) ?_ ?_
        · refine' Rgn.ob_body (fr := _) ?hf_b4 ?h1_b4 ?h2_b4 ?h3_b4 ?h_b4
          case hf_b4 => exact hfr
          case h1_b4 => kernel_rfl
          case h2_b4 => kernel_rfl
          case h3_b4 => rfl
          clear hfr
          intro z w1 hb hd ho K hK
          have e3 : (z 3) = .bool true := hd.out 3 (by kernel_rfl)
          clear hd ho
          go_simp
          have hh := hK.out (.bool false) _ (Below.refl _ _) rfl
          simp only [Act.put, List.setIfInBounds_toArray, List.set_cons_zero, List.set_cons_succ, e3] at hh
          exact hh
        exact Rgn.AllOb.nil
      case hend_b =>
        intro hfr
        refine' Rgn.end_plain (fr := _) ?g1_b ?g2_b ?g3_b
        case g1_b => exact hfr
        case g2_b => kernel_rfl
        clear hfr
        intro z u10 b10 hf
        have e4 : z 4 = .bool false := hf.out 4 (by decide)
        simp only [e4]
        clear hf e4 cY00 cY01 cY02 cP00 cP01 cP02
        have B10 := below_wt B9 b10
        have z10 := b10.size
        replace X0 := X0.step b10
        replace X1 := X1.keep b10
        replace P0 := P0.keep b10 P0.lt
        replace Y0 := Y0.keep b10 Y0.lt
        clear b10
        clear B9
        go_wp2_with fail
        (with_reducible refine (T1.out _ B10).mono ?_)
        rintro e u11 ⟨e1, rfl, E1, b11⟩
        have B11 := below_wt B10 b11
        have z11 := b11.size
        replace X0 := X0.step b11
        replace X1 := X1.keep b11
        replace P0 := P0.keep b11 P0.lt
        replace Y0 := Y0.keep b11 Y0.lt
        clear b11
        clear B10
        go_wp2_with fail
        (with_reducible refine (eqFractionS_same _ _ c1 _ X1.frl E1.frl).mono ?_)
        rintro e u12 ⟨rfl, b12⟩
        have B12 := below_wt B11 b12
        have z12 := b12.size
        replace X0 := X0.step b12
        replace X1 := X1.keep b12
        replace E1 := E1.keep b12
        replace P0 := P0.keep b12 P0.lt
        replace Y0 := Y0.keep b12 Y0.lt
        clear b12
        clear B11
        clear E1
        go_wp2
        go_ret
        exact ⟨rfl, B12⟩

set_option maxRecDepth 100000 in
theorem lifted (os : Os) (started : os.Started) (H : Type) (enc : TypeId × Value → H) :
    ReturnsInHanded {} Try.checked os 4 .any (Rows.fnExactIsStationarySpec.pre6 enc Try.prog Try.f4 Rows.fnExactIsStationaryRow.domain false) (Rows.fnExactIsStationarySpec.post enc Try.prog Try.f4 false true false false) := by
  refine returnsInHanded_of_change (C := Try.checked) own started (by kernel_rfl) Try.func4
    (ChangeSpec.witness6 (enc := enc) (C := Try.checked) false ⟨#[], #[.agg #[.int .i64 0, .int .i64 0, .slice none 0 0], .slice none 0 0], []⟩ 8 (by kernel_rfl) (by kernel_rfl) (by kernel_rfl) (by kernel_rfl)) ?_
  intro W base args ds gs before hval0 hW hcnd _
  have hval : ∀ (j : Nat) t v, Try.f4.params[j]? = some t → args[j]? = some v → Value.okWide Try.prog W .any base t v := hval0
  have hW' := hW
  obtain ⟨p, q, hA0, hV, rfl, hfz, hnd⟩ := hW
  have hA : DataW.TrodAll enc Try.prog W 0 (fun _ => true) true Try.f4.params.toList args.toList ds p := hA0
  rw [Try.params4] at hA hval
  obtain ⟨v0, vs0, d0, ds0, p0, q0, hargs, rfl, rfl, h0, r0⟩ := trodAll_cons hA
  obtain ⟨v1, vs1, d1, ds1, p1, q1, rfl, rfl, rfl, h1, r1⟩ := trodAll_cons r0
  obtain ⟨rfl, rfl, rfl⟩ := trodAll_nil r1
  obtain rfl : args = #[v0, v1] := by cases args; simp_all
  obtain ⟨rfl, rfl⟩ := trodVars_none hV
  have k0 := h0
  have lt0 : ∀ x ∈ p0, x.block < W.heap.size := by obtain ⟨m, hm⟩ := k0; exact DataW.trod_lt m _ _ _ hm
  obtain ⟨c0, w0⟩ := open_chain (hval 0 30 v0 rfl rfl) h0
  have k1 := h1
  have lt1 : ∀ x ∈ p1, x.block < W.heap.size := by obtain ⟨m, hm⟩ := k1; exact DataW.trod_lt m _ _ _ hm
  obtain ⟨c1, w1⟩ := open_fracs (hval 1 31 v1 rfl rfl) h1
  clear hA0 hval0
  refine (walk v0 c0 w0 v1 c1 w1).mono fun e W' ⟨he, bel⟩ => ?_
  subst he
  exact ⟨_, rfl, _, _, _, [], _, [], hW', trodAll_mk1 (shut_bool Try.underlying4 _), (trodAll_cons_mk (Below.trod laidOut (by kernel_rfl) (of_decide_eq_true (by kernel_rfl)) k0 bel lt0) (trodAll_cons_mk (Below.trod laidOut (by kernel_rfl) (of_decide_eq_true (by kernel_rfl)) k1 bel lt1) trodAll_mk0)), rfl, bel.frame _, fun h => by cases h⟩

theorem over : Rows.fnExactIsStationaryRow.holds Try.pinned (OpenSpec.ofChange Rows.fnExactIsStationarySpec) :=
  OpenClaim.holds_of_wide 4 Try.f4 rfl rfl rfl rfl rfl rfl rfl ⟨rfl, rfl, rfl, rfl, rfl⟩ rfl rfl rfl rfl rfl (by kernel_rfl) Try.func4 (by kernel_rfl)
    (of_decide_eq_true (by kernel_rfl)) (by unfold Func.isWrapper; first | (rw [if_pos (by decide +kernel)]; kernel_rfl) | (rw [if_neg (by decide +kernel)]; exact ⟨rfl, rfl⟩))
    (fun os started H enc _ => lifted os started H enc)

/-- the statement -/
theorem proved : Rows.FnExactIsStationarySaid := over
end Go.Proofs.Ytiddhnnofpbopaa.fnExactIsStationary
