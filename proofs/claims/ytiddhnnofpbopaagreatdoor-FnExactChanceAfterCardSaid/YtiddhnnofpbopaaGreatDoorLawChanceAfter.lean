/- For every chain, two states and number of steps the project's ChanceAfter and the specification's answer alike and change nothing.
   Conditions: none beyond the row's own (every input that can be read as data); the listed tables hold what their texts say. -/
import Derived.Test.YtiddhnnofpbopaaGreatDoorCa
import Derived.Test.YtiddhnnofpbopaaGreatDoorCaS
import Derived.Test.YtiddhnnofpbopaaGreatDoorLg
import Derived.Test.YtiddhnnofpbopaaGreatDoorTab
namespace Go.Proofs.YtiddhnnofpbopaaGreatDoor.fnExactChanceAfter
open Go.ChangeShapes Go.WideShapes Go.ChangeAt Go.RowKit Go.Deep Go.Joins
open Go.ChangeMaps (open_string shut_string)
set_option linter.unusedVariables false
set_option linter.unusedSimpArgs false

theorem own : ownKnob Tryz.prog.godebug = none := by kernel_rfl
theorem laidOut : laidOutB Tryz.prog = true := by kernel_rfl

set_option maxRecDepth 100000 in
set_option maxHeartbeats 40000000 in
theorem walk {w : World} (htab : Tab10 w) (v0 : Value) (c0 : Ch) (k0 : ChR w v0 c0) (a1 : Int) (w1 : (Lit.int .i64 a1).wf = true) (a2 : Int) (w2 : (Lit.int .i64 a2).wf = true) (a3 : Int) (w3 : (Lit.int .i64 a3).wf = true) :
    Calls Tryz.prog 5 #[v0, .int .i64 a1, .int .i64 a2, .int .i64 a3] w fun e w' => e = .returned (.bool true) ∧ Below w.heap.size w w' := by
  obtain ⟨a0, a0c, rfl⟩ := k0.shape
  have bb0 := below1 w (.cells #[.int .i64 c0.n, .int .i64 c0.t, .slice a0 c0.w.length a0c] 39)
  have P0 := Blk.new w #[.int .i64 c0.n, .int .i64 c0.t, .slice a0 c0.w.length a0c] 39
  have B0 := bb0
  have R0 := Lib.hid (fun W (h : Below w.heap.size w W) => k0.keep h)
  have htab' := Lib.hid htab
  clear k0 htab
  go_enter Tryz.func5, Tryz.ntmps5
  obtain ⟨qP00, qP01, qP02⟩ := (⟨P0.cell 0, P0.cell 1, P0.cell 2⟩ : _ ∧ _ ∧ _)
  simp only [List.getElem?_toArray, List.getElem?_cons_zero, List.getElem?_cons_succ] at qP00 qP01 qP02
  go_wp2_with fail
  (with_reducible refine (sz_ch _ c0 1048576 _ (R0.out _ B0) (by decide) (by decide)).mono ?_)
  rintro e u1 ⟨⟨L0, rfl, hL0, hS0⟩, b1⟩
  clear qP00 qP01 qP02
  have B1 := below_wt B0 b1
  have z1 := b1.size
  replace P0 := P0.keep b1 P0.lt
  clear b1
  clear B0
  by_cases hq0 : L0 < 0
  · clear hS0
    go_wp2
    go_ret
    exact ⟨rfl, B1⟩
  · have bd0 := hS0 (by omega)
    have hq00 : 0 ≤ L0 := by omega
    clear hS0
    have T0 := Lib.hid (fun W (h : Below w.heap.size w W) => to_ch _ c0 W (R0.out W h) bd0)
    have hs := (fun W u0 (f0 : ChR W u0 c0) => ChanceAfter_spec u0 c0 a1 a2 a3 W f0)
    have hi := (fun W u0 (f0 : ChR W u0 c0) ht => ChanceAfter_impl u0 c0 a1 a2 a3 W f0 ht)
    generalize caR c0 a1 a2 a3 = r at hs hi
    obtain ⟨⟨rn, rd⟩, C⟩ := r
    simp only at hs hi
    replace hs := Lib.hid hs
    replace hi := Lib.hid hi
    obtain ⟨qP00, qP01, qP02⟩ := (⟨P0.cell 0, P0.cell 1, P0.cell 2⟩ : _ ∧ _ ∧ _)
    simp only [List.getElem?_toArray, List.getElem?_cons_zero, List.getElem?_cons_succ] at qP00 qP01 qP02
    go_wp2_with fail
    (with_reducible refine (T0.out _ B1).mono ?_)
    rintro e u2 ⟨s0, rfl, S0, b2⟩
    clear qP00 qP01 qP02
    have B2 := below_wt B1 b2
    have z2 := b2.size
    replace P0 := P0.keep b2 P0.lt
    clear b2
    clear B1
    go_wp2_with fail
    (with_reducible refine (hs.out _ _ S0.ch).mono ?_)
    rintro e u3 ⟨rfl, b3⟩
    have B3 := below_wt B2 b3
    have z3 := b3.size
    replace S0 := S0.step b3
    replace P0 := P0.keep b3 P0.lt
    clear b3
    clear B2
    have b4 := below1 u3 (.cells #[.string rn, .string rd] 30)
    have F := Blk.new u3 #[.string rn, .string rd] 30
    have B4 := below_wt B3 b4
    have z4 := b4.size
    replace S0 := S0.step b4
    replace P0 := P0.keep b4 P0.lt
    clear b4
    clear B3
    clear S0
    clear hq0 hq00 hL0
    obtain ⟨qP00, qP01, qP02⟩ := (⟨P0.cell 0, P0.cell 1, P0.cell 2⟩ : _ ∧ _ ∧ _)
    simp only [List.getElem?_toArray, List.getElem?_cons_zero, List.getElem?_cons_succ] at qP00 qP01 qP02
    go_wp2_with fail
    (with_reducible refine (T0.out _ B4).mono ?_)
    rintro e u5 ⟨x0, rfl, X0, b5⟩
    clear qP00 qP01 qP02
    have B5 := below_wt B4 b5
    have z5 := b5.size
    replace P0 := P0.keep b5 P0.lt
    replace F := F.keep b5 F.lt
    clear b5
    clear B4
    obtain ⟨y0, y0c, rfl⟩ := X0.shape
    have b6 := below1 u5 (.cells #[.int .i64 c0.n, .int .i64 c0.t, .slice y0 c0.w.length y0c] 26)
    have Y0 := Blk.new u5 #[.int .i64 c0.n, .int .i64 c0.t, .slice y0 c0.w.length y0c] 26
    have y0z := World.size_alloc u5 (.cells #[.int .i64 c0.n, .int .i64 c0.t, .slice y0 c0.w.length y0c] 26)
    replace y0z := Nat.le_of_eq y0z.symm
    have B6 := below_wt B5 b6
    have z6 := b6.size
    replace X0 := X0.step b6
    replace P0 := P0.keep b6 P0.lt
    replace F := F.keep b6 F.lt
    clear b6
    clear B5
    obtain ⟨qY00, qY01, qY02⟩ := (⟨Y0.cell 0, Y0.cell 1, Y0.cell 2⟩ : _ ∧ _ ∧ _)
    simp only [List.getElem?_toArray, List.getElem?_cons_zero, List.getElem?_cons_succ] at qY00 qY01 qY02
    go_wp2_with fail
    (with_reducible refine (hi.out _ _ X0.ch (htab'.out.keep B6)).mono ?_)
    rintro e u7 ⟨rfl, b7⟩
    clear qY00 qY01 qY02
    have B7 := below_wt B6 b7
    have z7 := b7.size
    replace X0 := X0.step b7
    replace P0 := P0.keep b7 P0.lt
    replace F := F.keep b7 F.lt
    replace Y0 := Y0.keep b7 Y0.lt
    clear b7
    clear B6
    have b8 := below1 u7 (.cells #[.string rn, .string rd] 30)
    have G := Blk.new u7 #[.string rn, .string rd] 30
    have B8 := below_wt B7 b8
    have z8 := b8.size
    replace X0 := X0.step b8
    replace P0 := P0.keep b8 P0.lt
    replace F := F.keep b8 F.lt
    replace Y0 := Y0.keep b8 Y0.lt
    clear b8
    clear B7
    obtain ⟨qG0, qG1⟩ := (⟨G.cell 0, G.cell 1⟩ : _ ∧ _)
    simp only [List.getElem?_toArray, List.getElem?_cons_zero, List.getElem?_cons_succ] at qG0 qG1
    obtain ⟨qF0, qF1⟩ := (⟨F.cell 0, F.cell 1⟩ : _ ∧ _)
    simp only [List.getElem?_toArray, List.getElem?_cons_zero, List.getElem?_cons_succ] at qF0 qF1
    go_wp2_with fail
    (with_reducible refine (eqFraction_self rn rd _).mono ?_)
    rintro e u9 ⟨rfl, b9⟩
    clear qG0 qG1
    clear qF0 qF1
    have B9 := below_wt B8 b9
    have z9 := b9.size
    replace X0 := X0.step b9
    replace P0 := P0.keep b9 P0.lt
    replace F := F.keep b9 F.lt
    replace Y0 := Y0.keep b9 Y0.lt
    replace G := G.keep b9 G.lt
    clear b9
    clear B8
    clear G F
    go_upto_region 10 with fail
    have cY00 := Lib.hid (fun w1 (hb : Below u9.heap.size u9 w1) => ((Y0.keep hb Y0.lt).cell 0))
    have cY01 := Lib.hid (fun w1 (hb : Below u9.heap.size u9 w1) => ((Y0.keep hb Y0.lt).cell 1))
    have cY02 := Lib.hid (fun w1 (hb : Below u9.heap.size u9 w1) => ((Y0.keep hb Y0.lt).cell 2))
    simp only [List.getElem?_toArray, List.getElem?_cons_zero, List.getElem?_cons_succ] at cY00 cY01 cY02
    have cP00 := Lib.hid (fun w1 (hb : Below u9.heap.size u9 w1) => ((P0.keep hb P0.lt).cell 0))
    have cP01 := Lib.hid (fun w1 (hb : Below u9.heap.size u9 w1) => ((P0.keep hb P0.lt).cell 1))
    have cP02 := Lib.hid (fun w1 (hb : Below u9.heap.size u9 w1) => ((P0.keep hb P0.lt).cell 2))
    simp only [List.getElem?_toArray, List.getElem?_cons_zero, List.getElem?_cons_succ] at cP00 cP01 cP02
    refine' Rgn.region_by (fun _ => 0) 0 (fun _ => false) (fun i _ v w' => match i with
        | 0 => v = .agg #[.int .i64 c0.n, .int .i64 c0.t, .slice y0 c0.w.length y0c]
        | 1 => v = .agg #[.int .i64 c0.n, .int .i64 c0.t, .slice a0 c0.w.length a0c]
        | 2 => ChR w' v c0
        | 3 => v = .bool true
        | 4 => v = .bool false
        | _ => True) (fun i _ v => match i with
        | 0 => v = .agg #[.int .i64 c0.n, .int .i64 c0.t, .slice y0 c0.w.length y0c]
        | 1 => v = .agg #[.int .i64 c0.n, .int .i64 c0.t, .slice a0 c0.w.length a0c]
        | 2 => True
        | 3 => True
        | 4 => v = .bool false
        | _ => True)
        (fun _ _ _ => True) (by kernel_rfl) (by kernel_rfl) (by kernel_rfl) ?hst_b ?hG_b _ ?hfr_b ?hob_b ?hend_b
    case hfr_b =>
      intro z
      simp only [Rgn.fillAll, Act.put, List.setIfInBounds_toArray, List.set_cons_zero, List.set_cons_succ, Nat.reduceAdd, Nat.zero_add]
      exact rfl
    case hst_b =>
      intro i z v w1 w2 hi hb hx
      rcases i with _ | i
      · exact hx
      rcases i with _ | i
      · exact hx
      rcases i with _ | i
      · exact (fun v w1 w2 hb h => h.keep hb) v w1 w2 hb hx
      rcases i with _ | i
      · exact (fun v w1 w2 hb h => h) v w1 w2 hb hx
      rcases i with _ | i
      · exact hx
      exact trivial
    case hG_b =>
      intro i z v w1 hi hx
      rcases i with _ | i
      · exact hx
      rcases i with _ | i
      · exact hx
      rcases i with _ | i
      · trivial
      rcases i with _ | i
      · trivial
      rcases i with _ | i
      · exact hx
      exact trivial
    case hob_b =>
      intro hfr
      refine Rgn.AllOb.cons (j := 1) (by kernel_rfl) ?_ ?_
      · refine' Rgn.ob_body (fr := _) ?hf_b0 ?h1_b0 ?h2_b0 ?h3_b0 ?h_b0
        case hf_b0 => exact hfr
        case h1_b0 => kernel_rfl
        case h2_b0 => kernel_rfl
        case h3_b0 => rfl
        clear hfr
        intro z w1 hb hd ho K hK
        clear hd ho
        have x0 := cY00.out w1 hb; have x1 := cY01.out w1 hb; have x2 := cY02.out w1 hb
        go_simp
        have hh := hK.out (.agg #[.int .i64 c0.n, .int .i64 c0.t, .slice y0 c0.w.length y0c]) _ (Below.refl _ _) rfl
        simp only [Act.put, List.setIfInBounds_toArray, List.set_cons_zero, List.set_cons_succ] at hh
        exact hh
      refine Rgn.AllOb.cons (j := 2) (by kernel_rfl) ?_ ?_
      · refine' Rgn.ob_body (fr := _) ?hf_b1 ?h1_b1 ?h2_b1 ?h3_b1 ?h_b1
        case hf_b1 => exact hfr
        case h1_b1 => kernel_rfl
        case h2_b1 => kernel_rfl
        case h3_b1 => rfl
        clear hfr
        intro z w1 hb hd ho K hK
        clear hd ho
        have x0 := cP00.out w1 hb; have x1 := cP01.out w1 hb; have x2 := cP02.out w1 hb
        go_simp
        have hh := hK.out (.agg #[.int .i64 c0.n, .int .i64 c0.t, .slice a0 c0.w.length a0c]) _ (Below.refl _ _) rfl
        simp only [Act.put, List.setIfInBounds_toArray, List.set_cons_zero, List.set_cons_succ] at hh
        exact hh
      refine Rgn.AllOb.cons (j := 3) (by kernel_rfl) ?_ ?_
      · refine' Rgn.ob_body (fr := _) ?hf_b2 ?h1_b2 ?h2_b2 ?h3_b2 ?h_b2
        case hf_b2 => exact hfr
        case h1_b2 => kernel_rfl
        case h2_b2 => kernel_rfl
        case h3_b2 => rfl
        clear hfr
        intro z w1 hb hd ho K hK
        have e1 : z 1 = .agg #[.int .i64 c0.n, .int .i64 c0.t, .slice a0 c0.w.length a0c] := hd.out 1 (by kernel_rfl)
        clear hd ho
        go_simp
        refine (T0.out w1 (below_wt B9 hb)).mono ?_
        rintro e w2 ⟨y, rfl, hy, b⟩
        have hh := hK.out _ _ b hy.ch
        simp only [Act.put, List.setIfInBounds_toArray, List.set_cons_zero, List.set_cons_succ, e1] at hh
        exact hh
      refine Rgn.AllOb.cons (j := 4) (by kernel_rfl) ?_ ?_
      · refine' Rgn.ob_body (fr := _) ?hf_b3 ?h1_b3 ?h2_b3 ?h3_b3 ?h_b3
        case hf_b3 => exact hfr
        case h1_b3 => kernel_rfl
        case h2_b3 => kernel_rfl
        case h3_b3 => rfl
        clear hfr
        intro z w1 hb hd ho K hK
        have e0 : z 0 = .agg #[.int .i64 c0.n, .int .i64 c0.t, .slice y0 c0.w.length y0c] := hd.out 0 (by kernel_rfl)
        have e2 : ChR w1 (z 2) c0 := hd.out 2 (by kernel_rfl)
        clear hd ho
        go_simp
        refine (eq_ch _ _ c0 w1 (X0.ch.keep hb) e2).mono ?_
        rintro e w2 ⟨rfl, b⟩
        have hh := hK.out _ _ b rfl
        simp only [Act.put, List.setIfInBounds_toArray, List.set_cons_zero, List.set_cons_succ, e0] at hh
        exact hh
      refine Rgn.AllOb.cons (j := 5) (by kernel_rfl) ?_ ?_
      · refine' Rgn.ob_body (fr := _) ?hf_b4 ?h1_b4 ?h2_b4 ?h3_b4 ?h_b4
        case hf_b4 => exact hfr
        case h1_b4 => kernel_rfl
        case h2_b4 => kernel_rfl
        case h3_b4 => rfl
        clear hfr
        intro z w1 hb hd ho K hK
        have e3 : (z 3) = .bool true := hd.out 3 (by kernel_rfl)
        clear hd ho
        go_simp
        have hh := hK.out (.bool false) _ (Below.refl _ _) rfl
        simp only [Act.put, List.setIfInBounds_toArray, List.set_cons_zero, List.set_cons_succ, e3] at hh
        exact hh
      exact Rgn.AllOb.nil
    case hend_b =>
      intro hfr
      refine' Rgn.end_plain (fr := _) ?g1_b ?g2_b ?g3_b
      case g1_b => exact hfr
      case g2_b => kernel_rfl
      clear hfr
      intro z u10 b10 hf
      have e4 : z 4 = .bool false := hf.out 4 (by decide)
      simp only [e4]
      clear hf e4 cY00 cY01 cY02 cP00 cP01 cP02
      have B10 := below_wt B9 b10
      have z10 := b10.size
      replace X0 := X0.step b10
      replace P0 := P0.keep b10 P0.lt
      replace Y0 := Y0.keep b10 Y0.lt
      clear b10
      clear B9
      go_wp2
      go_ret
      exact ⟨rfl, B10⟩

set_option maxRecDepth 100000 in
theorem lifted (os : Os) (started : os.Started) (H : Type) (enc : TypeId × Value → H) :
    ReturnsInHanded {} Tryz.checked os 5 .any (fun w args => (Rows.fnExactChanceAfterSpec.pre enc Tryz.prog Tryz.f5 [] false w args ∧ laidMetH Tryz.prog laidL w) ∧ sizedMet enc Tryz.prog Tryz.f5 (OpenSpec.ofChange Rows.fnExactChanceAfterSpec) false w args)
      (Rows.fnExactChanceAfterSpec.post enc Tryz.prog Tryz.f5 false true false false) := by
  refine returnsInHanded_of_change_and (C := Tryz.checked) (X := fun w _ => laidMetH Tryz.prog laidL w) (fun _ _ _ hh h => h.of_heap hh) own started (by kernel_rfl) Tryz.func5
    (ChangeSpec.witness_shaped (enc := enc) (C := Tryz.checked) (os := os) (X := fun w _ => laidMetH Tryz.prog laidL w) false (World.doorLaid Tryz.prog 400 os) #[.agg #[.int .i64 0, .int .i64 0, .slice none 0 0], .int .i64 0, .int .i64 0, .int .i64 0] 8 rfl (World.shaped_of_RefB (by kernel_rfl) (by kernel_rfl)) (by kernel_rfl) (by kernel_rfl) (by kernel_rfl) (door_met os _)) ?_
  intro W base args ds gs before hval0 hW _ _ hL _
  have htab : Tab10 W := tab10_of hL
  have hval : ∀ (j : Nat) t v, Tryz.f5.params[j]? = some t → args[j]? = some v → Value.okWide Tryz.prog W .any base t v := hval0
  have hW' := hW
  obtain ⟨p, q, hA0, hV, rfl, hfz, hnd⟩ := hW
  have hA : DataW.TrodAll enc Tryz.prog W 0 (fun _ => true) true Tryz.f5.params.toList args.toList ds p := hA0
  rw [Tryz.params5] at hA hval
  obtain ⟨v0, vs0, d0, ds0, p0, q0, hargs, rfl, rfl, h0, r0⟩ := trodAll_cons hA
  obtain ⟨v1, vs1, d1, ds1, p1, q1, rfl, rfl, rfl, h1, r1⟩ := trodAll_cons r0
  obtain ⟨v2, vs2, d2, ds2, p2, q2, rfl, rfl, rfl, h2, r2⟩ := trodAll_cons r1
  obtain ⟨v3, vs3, d3, ds3, p3, q3, rfl, rfl, rfl, h3, r3⟩ := trodAll_cons r2
  obtain ⟨rfl, rfl, rfl⟩ := trodAll_nil r3
  obtain rfl : args = #[v0, v1, v2, v3] := by cases args; simp_all
  obtain ⟨rfl, rfl⟩ := trodVars_none hV
  have k0 := h0
  have lt0 : ∀ x ∈ p0, x.block < W.heap.size := by obtain ⟨m, hm⟩ := k0; exact DataW.trod_lt m _ _ _ hm
  obtain ⟨c0, w0⟩ := open_chain (hval 0 39 v0 rfl rfl) h0
  obtain ⟨a1, rfl, rfl, rfl, w1⟩ := open_int Tryz.underlying2 (hval 1 2 v1 rfl rfl) h1
  obtain ⟨a2, rfl, rfl, rfl, w2⟩ := open_int Tryz.underlying2 (hval 2 2 v2 rfl rfl) h2
  obtain ⟨a3, rfl, rfl, rfl, w3⟩ := open_int Tryz.underlying2 (hval 3 2 v3 rfl rfl) h3
  clear hA0 hval0
  refine (walk htab v0 c0 w0 a1 w1 a2 w2 a3 w3).mono fun e W' ⟨he, bel⟩ => ?_
  subst he
  exact ⟨_, rfl, _, _, _, [], _, [], hW', trodAll_mk1 (shut_bool Tryz.underlying4 _), (trodAll_cons_mk (Below.trod laidOut (by kernel_rfl) (of_decide_eq_true (by kernel_rfl)) k0 bel lt0) (trodAll_cons_mk (shut_int Tryz.underlying2 w1) (trodAll_cons_mk (shut_int Tryz.underlying2 w2) (trodAll_cons_mk (shut_int Tryz.underlying2 w3) trodAll_mk0)))), rfl, bel.frame _, fun h => by cases h⟩

theorem over : Rows.FnExactChanceAfterSaid :=
  OpenClaim.holds_of_wide 5 Tryz.f5 rfl rfl rfl rfl rfl rfl rfl ⟨rfl, rfl, rfl, rfl, rfl⟩ rfl rfl rfl rfl rfl (by kernel_rfl) Tryz.func5 (by kernel_rfl)
    (of_decide_eq_true (by kernel_rfl)) (by unfold Func.isWrapper; first | (rw [if_pos (by decide +kernel)]; kernel_rfl) | (rw [if_neg (by decide +kernel)]; exact ⟨rfl, rfl⟩))
    (fun os started H enc _ => lifted os started H enc)

/-- the statement: the tied card -/
theorem proved : Rows.FnExactChanceAfterCardSaid :=
  Claim7.holds_tied_plain_at .later [] [.data, .data, .data] true (true, "9a54face0f94f5f3e59b4fc25abc16c2904610ee29dbbc844e094dabf6e5bc3a") false
    over (fun _ h => by cases h) (by kernel_rfl) (fun _ h => by cases h) fnExactChanceAfter_row_tie rfl ⟨rfl, rfl⟩ (by kernel_rfl) rfl
    (fun f fn hf hfn => by
      obtain rfl : f = 5 := Option.some.inj ((show Tryz.prog.funcNamed "loop.example/g01118/laws.FnExactChanceAfter" = some 5 by kernel_rfl).symm.trans hf) |>.symm
      obtain rfl : fn = Tryz.f5 := (Option.some.inj (Tryz.func5.symm.trans hfn)).symm
      exact ⟨by kernel_rfl, fun j t ht => by
        rw [Tryz.params5] at ht
        have hm : t ∈ [39, 2, 2, 2] := by simpa using Array.mem_of_getElem? ht
        have hall : ([39, 2, 2, 2].all fun u => !Tryz.prog.wantsStandIn u) = true := by kernel_rfl
        exact (show Tryz.prog.wantsStandIn t = false by simpa using List.all_eq_true.1 hall t hm)⟩)
    (by kernel_rfl)
end Go.Proofs.YtiddhnnofpbopaaGreatDoor.fnExactChanceAfter
