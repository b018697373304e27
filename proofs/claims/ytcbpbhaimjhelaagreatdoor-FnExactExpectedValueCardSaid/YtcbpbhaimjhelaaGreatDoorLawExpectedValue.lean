/- For every two lists of fractions the project's ExpectedValue and the specification's answer alike, and change nothing.
   Conditions: none beyond the row's own (every input that can be read as data); the listed tables hold what their texts say. -/
import Derived.Test.YtcbpbhaimjhelaaGreatDoorExI
import Derived.Test.YtcbpbhaimjhelaaGreatDoorFsG
import Derived.Test.YtcbpbhaimjhelaaGreatDoorTab
namespace Go.Proofs.YtcbpbhaimjhelaaGreatDoor.fnExactExpectedValue
open Go.ChangeShapes Go.WideShapes Go.ChangeAt Go.RowKit Go.Deep Go.Joins
open Go.ChangeMaps (open_string shut_string)
set_option linter.unusedVariables false
set_option linter.unusedSimpArgs false

theorem own : ownKnob Tryz.prog.godebug = none := by kernel_rfl
theorem laidOut : laidOutB Tryz.prog = true := by kernel_rfl

set_option maxRecDepth 100000 in
set_option maxHeartbeats 4000000 in
theorem walk {w : World} (htab : Tab10 w) (v0 : Value) (p : List (ByteArray × ByteArray)) (h0 : FrsIn w v0 p) (v1 : Value) (q : List (ByteArray × ByteArray)) (h1 : FrsIn w v1 q) :
    Calls Tryz.prog 8 #[v0, v1] w fun e w' => e = .returned (.bool true) ∧ Below w.heap.size w w' := by
  obtain ⟨_, va, vc, rfl, _⟩ := id h0.1
  obtain ⟨_, ua, uc, rfl, _⟩ := id h1.1
  have H0 := Lib.hid h0
  have H1 := Lib.hid h1
  have htab' := Lib.hid htab
  have hz1 := Lib.hid (szFractionS_any _ p 1048576 w h0 (by decide) (by decide))
  clear h0 h1 htab
  go_enter Tryz.func8, Tryz.ntmps8
  go_wp2_with fail
  (with_reducible refine hz1.out.mono ?_)
  rintro e w1 ⟨⟨L, rfl, hL, hL2⟩, b1⟩
  by_cases hn : L < 0
  · clear hL2
    go_wp2
    go_ret
    exact ⟨rfl, b1⟩
  · have n1 : p.length ≤ 1048576 := hL2 (by omega)
    clear hL2
    have hz2 := Lib.hid (szFractionS_any _ q L w1 (H1.out.keep b1) (by omega) hL)
    go_wp2_with fail
    (with_reducible refine hz2.out.mono ?_)
    rintro e w2 ⟨⟨L2, rfl, hM, hM2⟩, b2⟩
    by_cases hn2 : L2 < 0
    · clear hM2
      go_wp2
      go_ret
      exact ⟨rfl, below_wt b1 b2⟩
    · have n2 : q.length ≤ 1048576 := hM2 (by omega)
      clear hM2
      have B2 := below_wt b1 b2
      have t0 := Lib.hid (fun W (h : Below w.heap.size w W) => toFractionS_any (.slice va p.length vc) p W (H0.out.1.keep h) (by omega))
      have t1 := Lib.hid (fun W (h : Below w.heap.size w W) => toFractionS_any (.slice ua q.length uc) q W (H1.out.1.keep h) (by omega))
      have hs := (fun W v v' (h3 : FrL W v p) (h4 : FrL W v' q) => ExpectedValue_spec v v' p q W h3 h4 (by omega))
      have hi := (fun W v v' (h3 : FrL W v p) (h4 : FrL W v' q) ht => ExpectedValue_impl v v' p q W h3 h4 (by omega) ht)
      unfold opV at hs hi
      generalize expR p q = r at hs hi
      obtain ⟨rn, rd, rc⟩ := r
      simp only at hs hi
      replace hs := Lib.hid hs
      replace hi := Lib.hid hi
      replace n1 := Lib.hid n1
      replace n2 := Lib.hid n2
      clear b1 b2 hz1 hz2
      go_wp2_with fail
      (with_reducible refine (t0.out _ B2).mono ?_)
      rintro e w3 ⟨a3, c3, rfl, F3, b3⟩
      have B3 := below_wt B2 b3
      go_wp2_with fail
      (with_reducible refine (t1.out _ B3).mono ?_)
      rintro e w4 ⟨a4, c4, rfl, F4, b4⟩
      have B4 := below_wt B3 b4
      go_wp2_with fail
      (with_reducible refine (hs.out w4 _ _ (F3.keep b4) F4).mono ?_)
      rintro e w5 ⟨rfl, b5⟩
      have X6 := Blk.new w5 #[.string rn, .string rd] 25
      have n6 := below_wt b5 (below1 w5 (.cells #[.string rn, .string rd] 25))
      have B5 := below_wt B4 n6
      clear F3 F4 b3 b4 b5 n6
      go_wp2_with fail
      (with_reducible refine (t0.out _ B5).mono ?_)
      rintro e w6 ⟨a6, c6, rfl, F6, b6⟩
      have B6 := below_wt B5 b6
      replace X6 := X6.keep b6 X6.lt
      go_wp2_with fail
      (with_reducible refine (t1.out _ B6).mono ?_)
      rintro e w7 ⟨a7, c7, rfl, F7, b7⟩
      have B7 := below_wt B6 b7
      replace X6 := X6.keep b7 X6.lt
      replace F6 := F6.keep b7
      go_wp2_with fail
      (with_reducible refine (hi.out w7 _ _ F6 F7 (htab'.out.keep B7)).mono ?_)
      rintro e w8 ⟨rfl, b8⟩
      have X10 := Blk.new w8 #[.string rn, .string rd] 25
      have bx := below1 w8 (.cells #[.string rn, .string rd] 25)
      have B8 := below_wt (below_wt B7 b8) bx
      replace X6 := (X6.keep b8 X6.lt).keep bx (X6.keep b8 X6.lt).lt
      replace F6 := (F6.keep b8).keep bx
      replace F7 := (F7.keep b8).keep bx
      obtain ⟨x0, x1⟩ := (⟨X6.cell 0, X6.cell 1⟩ : _ ∧ _)
      simp only [List.getElem?_toArray, List.getElem?_cons_zero, List.getElem?_cons_succ] at x0 x1
      clear b6 b7 b8 bx
      go_wp2_with fail
      (with_reducible refine (eqFraction_self rn rd _).mono ?_)
      rintro e w9 ⟨rfl, b9⟩
      have B9 := below_wt B8 b9
      replace F6 := F6.keep b9
      replace F7 := F7.keep b9
      clear x0 x1 X6 X10 b9
      go_wp2_with fail
      (with_reducible refine (t0.out _ B9).mono ?_)
      rintro e u1 ⟨a1, c1, rfl, G1, b1⟩
      have D1 := below_wt B9 b1
      replace F6 := F6.keep b1
      replace F7 := F7.keep b1
      go_wp2_with fail
      (with_reducible refine (eqFractionS_same _ _ p _ F6 G1).mono ?_)
      rintro e u2 ⟨rfl, b2⟩
      have D2 := below_wt D1 b2
      replace F7 := F7.keep b2
      clear G1 b1 b2
      go_wp2_with fail
      (with_reducible refine (t1.out _ D2).mono ?_)
      rintro e u3 ⟨a3', c3', rfl, G3, b3⟩
      have D3 := below_wt D2 b3
      replace F7 := F7.keep b3
      go_wp2_with fail
      (with_reducible refine (eqFractionS_same _ _ q _ F7 G3).mono ?_)
      rintro e u4 ⟨rfl, b4⟩
      have D4 := below_wt D3 b4
      clear G3 b3 b4
      go_wp2
      go_ret
      exact ⟨rfl, D4⟩

set_option maxRecDepth 100000 in
theorem lifted (os : Os) (started : os.Started) (H : Type) (enc : TypeId × Value → H) :
    ReturnsInHanded {} Tryz.checked os 8 .any (fun w args => (Rows.fnExactExpectedValueSpec.pre enc Tryz.prog Tryz.f8 [] false w args ∧ laidMetH Tryz.prog laidL w) ∧ sizedMet enc Tryz.prog Tryz.f8 (OpenSpec.ofChange Rows.fnExactExpectedValueSpec) false w args)
      (Rows.fnExactExpectedValueSpec.post enc Tryz.prog Tryz.f8 false true false false) := by
  refine returnsInHanded_of_change_and (C := Tryz.checked) (X := fun w _ => laidMetH Tryz.prog laidL w) (fun _ _ _ hh h => h.of_heap hh) own started (by kernel_rfl) Tryz.func8
    (ChangeSpec.witness_shaped (enc := enc) (C := Tryz.checked) (os := os) (X := fun w _ => laidMetH Tryz.prog laidL w) false (World.doorLaid Tryz.prog 400 os) #[.slice none 0 0, .slice none 0 0] 8 rfl (World.shaped_of_RefB (by kernel_rfl) (by kernel_rfl)) (by kernel_rfl) (by kernel_rfl) (by kernel_rfl) (door_met os _)) ?_
  intro W base args ds gs before hval0 hW _ _ hL _
  have htab : Tab10 W := tab10_of hL
  have hval : ∀ (j : Nat) t v, Tryz.f8.params[j]? = some t → args[j]? = some v → Value.okWide Tryz.prog W .any base t v := hval0
  have hW' := hW
  obtain ⟨p, q, hA0, hV, rfl, hfz, hnd⟩ := hW
  have hA : DataW.TrodAll enc Tryz.prog W 0 (fun _ => true) true Tryz.f8.params.toList args.toList ds p := hA0
  rw [Tryz.params8] at hA hval
  obtain ⟨v0, vs0, d0, ds0, p0, q0, hargs, rfl, rfl, h0, r0⟩ := trodAll_cons hA
  obtain ⟨v1, vs1, d1, ds1, p1, q1, rfl, rfl, rfl, h1, r1⟩ := trodAll_cons r0
  obtain ⟨rfl, rfl, rfl⟩ := trodAll_nil r1
  obtain rfl : args = #[v0, v1] := by cases args; simp_all
  obtain ⟨rfl, rfl⟩ := trodVars_none hV
  have k0 := h0
  have lt0 : ∀ x ∈ p0, x.block < W.heap.size := by obtain ⟨m, hm⟩ := k0; exact DataW.trod_lt m _ _ _ hm
  obtain ⟨c0, w0⟩ := open_fracs (hval 0 44 v0 rfl rfl) h0
  have k1 := h1
  have lt1 : ∀ x ∈ p1, x.block < W.heap.size := by obtain ⟨m, hm⟩ := k1; exact DataW.trod_lt m _ _ _ hm
  obtain ⟨c1, w1⟩ := open_fracs (hval 1 44 v1 rfl rfl) h1
  clear hA0 hval0
  refine (walk htab v0 c0 w0 v1 c1 w1).mono fun e W' ⟨he, bel⟩ => ?_
  subst he
  exact ⟨_, rfl, _, _, _, [], _, [], hW', trodAll_mk1 (shut_bool Tryz.underlying4 _), (trodAll_cons_mk (Below.trod laidOut (by kernel_rfl) (of_decide_eq_true (by kernel_rfl)) k0 bel lt0) (trodAll_cons_mk (Below.trod laidOut (by kernel_rfl) (of_decide_eq_true (by kernel_rfl)) k1 bel lt1) trodAll_mk0)), rfl, bel.frame _, fun h => by cases h⟩

theorem over : Rows.FnExactExpectedValueSaid :=
  OpenClaim.holds_of_wide 8 Tryz.f8 rfl rfl rfl rfl rfl rfl rfl ⟨rfl, rfl, rfl, rfl, rfl⟩ rfl rfl rfl rfl rfl (by kernel_rfl) Tryz.func8 (by kernel_rfl)
    (of_decide_eq_true (by kernel_rfl)) (by unfold Func.isWrapper; first | (rw [if_pos (by decide +kernel)]; kernel_rfl) | (rw [if_neg (by decide +kernel)]; exact ⟨rfl, rfl⟩))
    (fun os started H enc _ => lifted os started H enc)

/-- the statement: the tied card -/
theorem proved : Rows.FnExactExpectedValueCardSaid :=
  Claim7.holds_tied_plain_at .later [] [.data, .data, .data] true (true, "45f2684c3a7f54e46425a959a6a4822fb9a02b91778fd407763758523c5094de") false
    over (fun _ h => by cases h) (by kernel_rfl) (fun _ h => by cases h) fnExactExpectedValue_row_tie rfl ⟨rfl, rfl⟩ (by kernel_rfl) rfl
    (fun f fn hf hfn => by
      obtain rfl : f = 8 := Option.some.inj ((show Tryz.prog.funcNamed "loop.example/g01118/laws.FnExactExpectedValue" = some 8 by kernel_rfl).symm.trans hf) |>.symm
      obtain rfl : fn = Tryz.f8 := (Option.some.inj (Tryz.func8.symm.trans hfn)).symm
      exact ⟨by kernel_rfl, fun j t ht => by
        rw [Tryz.params8] at ht
        have hm : t ∈ [44, 44] := by simpa using Array.mem_of_getElem? ht
        have hall : ([44, 44].all fun u => !Tryz.prog.wantsStandIn u) = true := by kernel_rfl
        exact (show Tryz.prog.wantsStandIn t = false by simpa using List.all_eq_true.1 hall t hm)⟩)
    (by kernel_rfl)
end Go.Proofs.YtcbpbhaimjhelaaGreatDoor.fnExactExpectedValue
