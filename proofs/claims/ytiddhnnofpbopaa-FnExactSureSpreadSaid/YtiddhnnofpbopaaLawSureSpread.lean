/- For every two numbers the project's SureSpread and the specification's answer alike, and what is handed back is shared with nothing.
   Conditions: none beyond the row's own (every input that can be read as data). -/
import Derived.Test.YtiddhnnofpbopaaSuS
import Derived.Test.YtiddhnnofpbopaaLg
import Derived.Test.YtiddhnnofpbopaaChainG
namespace Go.Proofs.Ytiddhnnofpbopaa.fnExactSureSpread
open Go.ChangeShapes Go.WideShapes Go.ChangeAt Go.RowKit Go.Deep Go.Joins
open Go.ChangeMaps (open_string shut_string)
set_option linter.unusedVariables false

theorem own : ownKnob Try.prog.godebug = none := by kernel_rfl
theorem laidOut : laidOutB Try.prog = true := by kernel_rfl

set_option maxRecDepth 100000 in
set_option maxHeartbeats 40000000 in
theorem walk {w : World} (a0 : Int) (w0 : (Lit.int .i64 a0).wf = true) (a1 : Int) (w1 : (Lit.int .i64 a1).wf = true) :
    Calls Try.prog 3 #[.int .i64 a0, .int .i64 a1] w fun e w' => e = .returned (.bool true) ∧ Below w.heap.size w w' := by
  have B0 := Below.refl w.heap.size w
  have z0 := B0.size
  go_enter Try.func3, Try.ntmps3
  have hs := (fun W   => SureSpread_spec a0 a1 W)
  have hi := (fun W   => SureSpread_impl a0 a1 W)
  generalize suR a0 a1 = r at hs hi
  obtain ⟨R, C⟩ := r
  simp only at hs hi
  replace hs := Lib.hid hs
  replace hi := Lib.hid hi
  go_wp2_with fail
  (with_reducible refine (hs.out _  ).mono ?_)
  rintro e u1 ⟨f, rfl, F, b1⟩
  have B1 := below_wt B0 b1
  have z1 := b1.size
  clear b1
  clear B0
  go_wp2_with fail
  (with_reducible refine (hi.out _  ).mono ?_)
  rintro e u2 ⟨g, rfl, G, b2⟩
  have B2 := below_wt B1 b2
  have z2 := b2.size
  replace F := F.keep b2
  clear b2
  clear B1
  go_wp2_with fail
  (with_reducible refine (eqFractionS_same _ _ R _ G.frl F.frl).mono ?_)
  rintro e u3 ⟨rfl, b3⟩
  have B3 := below_wt B2 b3
  have z3 := b3.size
  replace F := F.keep b3
  replace G := G.keep b3
  clear b3
  clear B2
  have hRl : R.length ≤ 2097152 := G.1
  go_wp2_with fail
  (with_reducible refine (mkr_frs G hRl).mono ?_)
  rintro e u4 ⟨rfl, GM, t4⟩
  clear G
  have z4 := t4.size
  have B4 := B3.trans (t4.below' w.heap.size (by omega) B3.size)
  replace F := F.untouched t4 (Or.inl (by omega))
  clear t4 B3
  have hmn : ¬ (((1 + R.length * 2 : Nat) : Int) < 0) := by omega
  obtain ⟨mk, hmk⟩ : ∃ k : Int, ((1 + R.length * 2 : Nat) : Int) = k := ⟨_, rfl⟩
  rw [hmk] at hmn ⊢
  have hh1 := Lib.hid (fun W v h => hdr_frs v R.length W h hRl)
  rw [hmk] at hh1
  clear hmk
  go_wp2_with fail
  (with_reducible refine (hh1.out _ _ GM.frl).mono ?_)
  rintro e u5 ⟨rfl, b5⟩
  have B5 := below_wt B4 b5
  have z5 := b5.size
  replace F := F.keep b5
  replace GM := GM.keep b5
  clear b5
  clear B4
  go_wp2_with fail
  (with_reducible refine (hi.out _  ).mono ?_)
  rintro e u6 ⟨h, rfl, H, b6⟩
  have B6 := below_wt B5 b6
  have z6 := b6.size
  replace F := F.keep b6
  replace GM := GM.keep b6
  clear b6
  clear B5
  go_wp2_with fail
  (with_reducible refine (eqFractionS_same _ _ R _ H.frl F.frl).mono ?_)
  rintro e u7 ⟨rfl, b7⟩
  have B7 := below_wt B6 b7
  have z7 := b7.size
  replace F := F.keep b7
  replace GM := GM.keep b7
  replace H := H.keep b7
  clear b7
  clear B6
  go_wp2_with fail
  (with_reducible refine (hh1.out _ _ GM.frl).mono ?_)
  rintro e u8 ⟨rfl, b8⟩
  have B8 := below_wt B7 b8
  have z8 := b8.size
  replace F := F.keep b8
  replace GM := GM.keep b8
  replace H := H.keep b8
  clear b8
  clear B7
  go_wp2
  go_ret
  exact ⟨rfl, B8⟩

set_option maxRecDepth 100000 in
theorem lifted (os : Os) (started : os.Started) (H : Type) (enc : TypeId × Value → H) :
    ReturnsInHanded {} Try.checked os 3 .any (Rows.fnExactSureSpreadSpec.pre6 enc Try.prog Try.f3 Rows.fnExactSureSpreadRow.domain false) (Rows.fnExactSureSpreadSpec.post enc Try.prog Try.f3 false true false false) := by
  refine returnsInHanded_of_change (C := Try.checked) own started (by kernel_rfl) Try.func3
    (ChangeSpec.witness6 (enc := enc) (C := Try.checked) false ⟨#[], #[.int .i64 0, .int .i64 0], []⟩ 8 (by kernel_rfl) (by kernel_rfl) (by kernel_rfl) (by kernel_rfl)) ?_
  intro W base args ds gs before hval0 hW hcnd _
  have hval : ∀ (j : Nat) t v, Try.f3.params[j]? = some t → args[j]? = some v → Value.okWide Try.prog W .any base t v := hval0
  have hW' := hW
  obtain ⟨p, q, hA0, hV, rfl, hfz, hnd⟩ := hW
  have hA : DataW.TrodAll enc Try.prog W 0 (fun _ => true) true Try.f3.params.toList args.toList ds p := hA0
  rw [Try.params3] at hA hval
  obtain ⟨v0, vs0, d0, ds0, p0, q0, hargs, rfl, rfl, h0, r0⟩ := trodAll_cons hA
  obtain ⟨v1, vs1, d1, ds1, p1, q1, rfl, rfl, rfl, h1, r1⟩ := trodAll_cons r0
  obtain ⟨rfl, rfl, rfl⟩ := trodAll_nil r1
  obtain rfl : args = #[v0, v1] := by cases args; simp_all
  obtain ⟨rfl, rfl⟩ := trodVars_none hV
  obtain ⟨a0, rfl, rfl, rfl, w0⟩ := open_int Try.underlying2 (hval 0 2 v0 rfl rfl) h0
  obtain ⟨a1, rfl, rfl, rfl, w1⟩ := open_int Try.underlying2 (hval 1 2 v1 rfl rfl) h1
  clear hA0 hval0
  refine (walk a0 w0 a1 w1).mono fun e W' ⟨he, bel⟩ => ?_
  subst he
  exact ⟨_, rfl, _, _, _, [], _, [], hW', trodAll_mk1 (shut_bool Try.underlying4 _), (trodAll_cons_mk (shut_int Try.underlying2 w0) (trodAll_cons_mk (shut_int Try.underlying2 w1) trodAll_mk0)), rfl, bel.frame _, fun h => by cases h⟩

theorem over : Rows.fnExactSureSpreadRow.holds Try.pinned (OpenSpec.ofChange Rows.fnExactSureSpreadSpec) :=
  OpenClaim.holds_of_wide 3 Try.f3 rfl rfl rfl rfl rfl rfl rfl ⟨rfl, rfl, rfl, rfl, rfl⟩ rfl rfl rfl rfl rfl (by kernel_rfl) Try.func3 (by kernel_rfl)
    (of_decide_eq_true (by kernel_rfl)) (by unfold Func.isWrapper; first | (rw [if_pos (by decide +kernel)]; kernel_rfl) | (rw [if_neg (by decide +kernel)]; exact ⟨rfl, rfl⟩))
    (fun os started H enc _ => lifted os started H enc)

/-- the statement -/
theorem proved : Rows.FnExactSureSpreadSaid := over
end Go.Proofs.Ytiddhnnofpbopaa.fnExactSureSpread
