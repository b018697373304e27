/- For every number the project's EvenSpread and the specification's answer alike, and what is handed back is shared with nothing.
   Conditions: none beyond the row's own (every input that can be read as data); the listed tables hold what their texts say. -/
import Derived.Test.YtiddhnnofpbopaaDoorEvM
import Derived.Test.YtiddhnnofpbopaaDoorLg
import Derived.Test.YtiddhnnofpbopaaDoorTab
namespace Go.Proofs.YtiddhnnofpbopaaDoor.fnExactEvenSpread
open Go.ChangeShapes Go.WideShapes Go.ChangeAt Go.RowKit Go.Deep Go.Joins
open Go.ChangeMaps (open_string shut_string)
set_option linter.unusedVariables false
set_option linter.unusedSimpArgs false

theorem own : ownKnob Tryd.prog.godebug = none := by kernel_rfl
theorem laidOut : laidOutB Tryd.prog = true := by kernel_rfl

set_option maxRecDepth 100000 in
set_option maxHeartbeats 40000000 in
theorem walk {w : World} (htab : Tab10 w) (a0 : Int) (w0 : (Lit.int .i64 a0).wf = true) :
    Calls Tryd.prog 3 #[.int .i64 a0] w fun e w' => e = .returned (.bool true) ∧ Below w.heap.size w w' := by
  have B0 := Below.refl w.heap.size w
  have z0 := B0.size
  have htab' := Lib.hid htab
  clear  htab
  go_enter Tryd.func3, Tryd.ntmps3
  have hs := (fun W   => EvenSpread_spec a0 W)
  have hi := (fun W   ht => EvenSpread_impl a0 W ht)
  generalize evR a0 = r at hs hi
  obtain ⟨R, C⟩ := r
  simp only at hs hi
  replace hs := Lib.hid hs
  replace hi := Lib.hid hi
  go_wp2_with fail
  (with_reducible refine (hs.out _  ).mono ?_)
  rintro e u1 ⟨f, rfl, F, b1⟩
  have B1 := below_wt B0 b1
  have z1 := b1.size
  clear b1
  clear B0
  go_wp2_with fail
  (with_reducible refine (hi.out _   (htab'.out.keep B1)).mono ?_)
  rintro e u2 ⟨g, rfl, G, b2⟩
  have B2 := below_wt B1 b2
  have z2 := b2.size
  replace F := F.keep b2
  clear b2
  clear B1
  go_wp2_with fail
  (with_reducible refine (eqFractionS_same _ _ R _ G.frl F.frl).mono ?_)
  rintro e u3 ⟨rfl, b3⟩
  have B3 := below_wt B2 b3
  have z3 := b3.size
  replace F := F.keep b3
  replace G := G.keep b3
  clear b3
  clear B2
  have hRl : R.length ≤ 2097152 := G.1
  go_wp2_with fail
  (with_reducible refine (mkr_frs G hRl).mono ?_)
  rintro e u4 ⟨rfl, GM, t4⟩
  clear G
  have z4 := t4.size
  have B4 := B3.trans (t4.below' w.heap.size (by omega) B3.size)
  replace F := F.untouched t4 (Or.inl (by omega))
  clear t4 B3
  have hmn : ¬ (((1 + R.length * 2 : Nat) : Int) < 0) := by omega
  obtain ⟨mk, hmk⟩ : ∃ k : Int, ((1 + R.length * 2 : Nat) : Int) = k := ⟨_, rfl⟩
  rw [hmk] at hmn ⊢
  have hh1 := Lib.hid (fun W v h => hdr_frs v R.length W h hRl)
  rw [hmk] at hh1
  clear hmk
  go_wp2_with fail
  (with_reducible refine (hh1.out _ _ GM.frl).mono ?_)
  rintro e u5 ⟨rfl, b5⟩
  have B5 := below_wt B4 b5
  have z5 := b5.size
  replace F := F.keep b5
  replace GM := GM.keep b5
  clear b5
  clear B4
  go_wp2_with fail
  (with_reducible refine (hi.out _   (htab'.out.keep B5)).mono ?_)
  rintro e u6 ⟨h, rfl, H, b6⟩
  have B6 := below_wt B5 b6
  have z6 := b6.size
  replace F := F.keep b6
  replace GM := GM.keep b6
  clear b6
  clear B5
  go_wp2_with fail
  (with_reducible refine (eqFractionS_same _ _ R _ H.frl F.frl).mono ?_)
  rintro e u7 ⟨rfl, b7⟩
  have B7 := below_wt B6 b7
  have z7 := b7.size
  replace F := F.keep b7
  replace GM := GM.keep b7
  replace H := H.keep b7
  clear b7
  clear B6
  go_wp2_with fail
  (with_reducible refine (hh1.out _ _ GM.frl).mono ?_)
  rintro e u8 ⟨rfl, b8⟩
  have B8 := below_wt B7 b8
  have z8 := b8.size
  replace F := F.keep b8
  replace GM := GM.keep b8
  replace H := H.keep b8
  clear b8
  clear B7
  go_wp2
  go_ret
  exact ⟨rfl, B8⟩

set_option maxRecDepth 100000 in
theorem lifted (os : Os) (started : os.Started) (H : Type) (enc : TypeId × Value → H) :
    ReturnsInHanded {} Tryd.checked os 3 .any (fun w args => (Rows.fnExactEvenSpreadSpec.pre enc Tryd.prog Tryd.f3 [] false w args ∧ laidMetH Tryd.prog laidL w) ∧ sizedMet enc Tryd.prog Tryd.f3 (OpenSpec.ofChange Rows.fnExactEvenSpreadSpec) false w args)
      (Rows.fnExactEvenSpreadSpec.post enc Tryd.prog Tryd.f3 false true false false) := by
  refine returnsInHanded_of_change_and (C := Tryd.checked) (X := fun w _ => laidMetH Tryd.prog laidL w) (fun _ _ _ hh h => h.of_heap hh) own started (by kernel_rfl) Tryd.func3
    (ChangeSpec.witness_shaped (enc := enc) (C := Tryd.checked) (os := os) (X := fun w _ => laidMetH Tryd.prog laidL w) false (World.doorLaid Tryd.prog 400 os) #[.int .i64 0] 8 rfl (World.shaped_of_RefB (by kernel_rfl) (by kernel_rfl)) (by kernel_rfl) (by kernel_rfl) (by kernel_rfl) (door_met os _)) ?_
  intro W base args ds gs before hval0 hW _ _ hL _
  have htab : Tab10 W := tab10_of hL
  have hval : ∀ (j : Nat) t v, Tryd.f3.params[j]? = some t → args[j]? = some v → Value.okWide Tryd.prog W .any base t v := hval0
  have hW' := hW
  obtain ⟨p, q, hA0, hV, rfl, hfz, hnd⟩ := hW
  have hA : DataW.TrodAll enc Tryd.prog W 0 (fun _ => true) true Tryd.f3.params.toList args.toList ds p := hA0
  rw [Tryd.params3] at hA hval
  obtain ⟨v0, vs0, d0, ds0, p0, q0, hargs, rfl, rfl, h0, r0⟩ := trodAll_cons hA
  obtain ⟨rfl, rfl, rfl⟩ := trodAll_nil r0
  obtain rfl : args = #[v0] := by cases args; simp_all
  obtain ⟨rfl, rfl⟩ := trodVars_none hV
  obtain ⟨a0, rfl, rfl, rfl, w0⟩ := open_int Tryd.underlying2 (hval 0 2 v0 rfl rfl) h0
  clear hA0 hval0
  refine (walk htab a0 w0).mono fun e W' ⟨he, bel⟩ => ?_
  subst he
  exact ⟨_, rfl, _, _, _, [], _, [], hW', trodAll_mk1 (shut_bool Tryd.underlying4 _), (trodAll_cons_mk (shut_int Tryd.underlying2 w0) trodAll_mk0), rfl, bel.frame _, fun h => by cases h⟩

theorem over : Rows.FnExactEvenSpreadSaid :=
  OpenClaim.holds_of_wide 3 Tryd.f3 rfl rfl rfl rfl rfl rfl rfl ⟨rfl, rfl, rfl, rfl, rfl⟩ rfl rfl rfl rfl rfl (by kernel_rfl) Tryd.func3 (by kernel_rfl)
    (of_decide_eq_true (by kernel_rfl)) (by unfold Func.isWrapper; first | (rw [if_pos (by decide +kernel)]; kernel_rfl) | (rw [if_neg (by decide +kernel)]; exact ⟨rfl, rfl⟩))
    (fun os started H enc _ => lifted os started H enc)

/-- the statement: the tied card -/
theorem proved : Rows.FnExactEvenSpreadCardSaid :=
  Claim7.holds_tied_plain_at .later [] [.data, .data, .data] true (true, "a95b3ed5dd812b6aafe41d0322d7008a9009dc94826c09ee99f20cebf1c400ed") false
    over (fun _ h => by cases h) (by kernel_rfl) (fun _ h => by cases h) fnExactEvenSpread_row_tie rfl ⟨rfl, rfl⟩ (by kernel_rfl) rfl
    (fun f fn hf hfn => by
      obtain rfl : f = 3 := Option.some.inj ((show Tryd.prog.funcNamed "loop.example/g01118/laws.FnExactEvenSpread" = some 3 by kernel_rfl).symm.trans hf) |>.symm
      obtain rfl : fn = Tryd.f3 := (Option.some.inj (Tryd.func3.symm.trans hfn)).symm
      exact ⟨by kernel_rfl, fun j t ht => by
        rw [Tryd.params3] at ht
        have hm : t ∈ [2] := by simpa using Array.mem_of_getElem? ht
        have hall : ([2].all fun u => !Tryd.prog.wantsStandIn u) = true := by kernel_rfl
        exact (show Tryd.prog.wantsStandIn t = false by simpa using List.all_eq_true.1 hall t hm)⟩)
    (by kernel_rfl)
end Go.Proofs.YtiddhnnofpbopaaDoor.fnExactEvenSpread
