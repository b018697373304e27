/- For every chain, the project's ChainText and the specification's give the same text, and the chain is left as it was.
   Conditions: none beyond the row's own (every input that can be read as data). -/
import Derived.Test.YtdempfpaihageaaDoorSz
import Derived.Test.YtdempfpaihageaaDoorTo
import Derived.Test.YtdempfpaihageaaDoorEq
import Derived.Test.YtdempfpaihageaaDoorTxt5
import Derived.Test.YtdempfpaihageaaDoorOpen
import Derived.Test.YtdempfpaihageaaDoorTie
import Derived.Test.YtdempfpaihageaaDoorCards
import Derived.ProofKit
import Derived.LaidMore
import Derived.OpenShut
import Derived.Stop.Joined
import Derived.SevenTiedAt
namespace Go.Proofs.YtdempfpaihageaaDoor.fnExactChainText
open Go.ChangeShapes Go.WideShapes Go.ChangeAt Go.RowKit Go.Deep Go.Joins
open Go.ChangeMaps (open_string shut_string)
set_option linter.unusedVariables false

theorem own : ownKnob Tryd.prog.godebug = none := by kernel_rfl
theorem laidOut : laidOutB Tryd.prog = true := by kernel_rfl

set_option maxRecDepth 100000 in
set_option maxHeartbeats 8000000 in
theorem walk_a {w : World} (v0 : Value) (c0 : Ch) (k0 : ChR w v0 c0) (hq : (1048576 : Int) < ((c0.w.length + total c0.w) : Nat)) :
    Calls Tryd.prog 3 #[v0] w fun e w' => e = .returned (.bool true) ∧ Below w.heap.size w w' := by
  obtain ⟨a0, a0c, rfl⟩ := k0.shape
  have H0 := Blk.new w #[.int .i64 c0.n, .int .i64 c0.t, .slice a0 c0.w.length a0c] 24
  have B0 := below1 w (.cells #[.int .i64 c0.n, .int .i64 c0.t, .slice a0 c0.w.length a0c] 24)
  have K0 := k0.keep B0
  have hn := szLeft_no hq
  have hneg : szLeft 1048576 (c0.w.length + total c0.w) < 0 := by rw [hn]; decide
  clear hn
  go_enter Tryd.func3, Tryd.ntmps3
  go_wp2_with fail
  refine (szChain_any _ c0 1048576 _ K0 (by decide) (by decide)).mono ?_
  rintro e u1 ⟨rfl, b1⟩
  replace H0 := H0.step b1
  replace K0 := K0.keep b1
  go_wp2
  go_ret
  exact ⟨rfl, (below_wt B0 b1)⟩

set_option maxRecDepth 100000 in
set_option maxHeartbeats 8000000 in
theorem walk_c {w : World} (v0 : Value) (c0 : Ch) (k0 : ChR w v0 c0) (hq : (((c0.w.length + total c0.w) : Nat) : Int) ≤ 1048576) :
    Calls Tryd.prog 3 #[v0] w fun e w' => e = .returned (.bool true) ∧ Below w.heap.size w w' := by
  obtain ⟨a0, a0c, rfl⟩ := k0.shape
  have H0 := Blk.new w #[.int .i64 c0.n, .int .i64 c0.t, .slice a0 c0.w.length a0c] 24
  have B0 := below1 w (.cells #[.int .i64 c0.n, .int .i64 c0.t, .slice a0 c0.w.length a0c] 24)
  have K0 := k0.keep B0
  have hy := szLeft_yes (left := 1048576) (n := (c0.w.length + total c0.w)) hq
  have h0 : 0 ≤ szLeft 1048576 (c0.w.length + total c0.w) := by omega
  have hbd0 : c0.w.length + total c0.w ≤ 2097152 := by omega
  clear hy
  have he0 := chEq_self c0
  go_enter Tryd.func3, Tryd.ntmps3
  go_wp2_with fail
  refine (szChain_any _ c0 1048576 _ K0 (by decide) (by decide)).mono ?_
  rintro e u1 ⟨rfl, b1⟩
  replace H0 := H0.step b1
  replace K0 := K0.keep b1
  obtain ⟨pH00, pH01, pH02⟩ := H0.three
  go_wp2_with fail
  refine (toChain_any _ c0 _ K0 hbd0).mono ?_
  rintro e u2 ⟨x1, rfl, o1, b2⟩
  clear pH00 pH01 pH02
  replace H0 := H0.step b2
  replace K0 := K0.keep b2
  obtain ⟨x1a, x1ac, rfl⟩ := o1.shape
  have O1 := o1.mine
  go_wp2_with fail
  refine (ChainText_spec _ c0 _ O1.ch).mono ?_
  rintro e u3 ⟨rfl, b3⟩
  replace H0 := H0.step b3
  replace K0 := K0.keep b3
  obtain ⟨g1, g10⟩ : ∃ x, textOf c0 = x := ⟨_, rfl⟩
  have g1h := Lib.hid g10
  rw [g10]
  clear g10
  obtain ⟨pH00, pH01, pH02⟩ := H0.three
  go_wp2_with fail
  refine (toChain_any _ c0 _ K0 hbd0).mono ?_
  rintro e u4 ⟨x3, rfl, o3, b4⟩
  clear pH00 pH01 pH02
  replace H0 := H0.step b4
  replace K0 := K0.keep b4
  obtain ⟨x3a, x3ac, rfl⟩ := o3.shape
  have O3 := o3.mine
  have b5 := below1 u4 (.cells #[.int .i64 c0.n, .int .i64 c0.t, .slice x3a c0.w.length x3ac] 27)
  have X0 := Blk.new u4 #[.int .i64 c0.n, .int .i64 c0.t, .slice x3a c0.w.length x3ac] 27
  replace H0 := H0.step b5
  replace K0 := K0.keep b5
  replace O3 := O3.step b5
  obtain ⟨pX00, pX01, pX02⟩ := X0.three
  go_wp2_with fail
  refine (ChainText_impl _ c0 _ O3.ch).mono ?_
  rintro e u6 ⟨rfl, b6⟩
  clear pX00 pX01 pX02
  replace H0 := H0.step b6
  replace K0 := K0.keep b6
  replace O3 := O3.step b6
  replace X0 := X0.step b6
  rw [g1h.out]
  obtain ⟨pH00, pH01, pH02⟩ := H0.three
  obtain ⟨pX00, pX01, pX02⟩ := X0.three
  go_wp2_with fail
  have b7 := below_drew u6
  replace H0 := H0.step b7
  replace K0 := K0.keep b7
  replace O3 := O3.step b7
  replace X0 := X0.step b7
  go_region_held3 (fun w' => w'.cell? ⟨w.heap.size, 0, none⟩ = some (.int .i64 c0.n) ∧ w'.cell? ⟨w.heap.size, 1, none⟩ = some (.int .i64 c0.t) ∧ w'.cell? ⟨w.heap.size, 2, none⟩ = some (.slice a0 c0.w.length a0c) ∧ w'.cell? ⟨u4.heap.size, 0, none⟩ = some (.int .i64 c0.n) ∧ w'.cell? ⟨u4.heap.size, 1, none⟩ = some (.int .i64 c0.t) ∧ w'.cell? ⟨u4.heap.size, 2, none⟩ = some (.slice x3a c0.w.length x3ac)) (go_keep) (first | (go_at_call 7; refine (toChain_any _ c0 _ K0 hbd0).mono ?_; rintro e u8 ⟨y4, rfl, q4, b8⟩; replace H0 := H0.step b8; replace K0 := K0.keep b8; replace O3 := O3.step b8; replace X0 := X0.step b8; have Q := q4.ch; obtain ⟨ya, yac, rfl⟩ := Q.shape; obtain ⟨pH00, pH01, pH02⟩ := H0.three; obtain ⟨pX00, pX01, pX02⟩ := X0.three) | (go_at_call 9; refine (eqChain_any _ _ c0 c0 _ O3.ch Q).mono ?_; rintro e u9 ⟨rfl, b9⟩; replace H0 := H0.step b9; replace K0 := K0.keep b9; replace O3 := O3.step b9; replace X0 := X0.step b9; replace Q := Q.keep b9; obtain ⟨pH00, pH01, pH02⟩ := H0.three; obtain ⟨pX00, pX01, pX02⟩ := X0.three))
  go_wp2
  go_ret
  exact ⟨rfl, (below_wt (below_wt (below_wt (below_wt (below_wt (below_wt (below_wt (below_wt (below_wt B0 b1) b2) b3) b4) b5) b6) b7) b8) b9)⟩

theorem walk {w : World} (v0 : Value) (c0 : Ch) (k0 : ChR w v0 c0) :
    Calls Tryd.prog 3 #[v0] w fun e w' => e = .returned (.bool true) ∧ Below w.heap.size w w' := by
  by_cases h1 : (((c0.w.length + total c0.w) : Nat) : Int) ≤ 1048576
  · exact walk_c v0 c0 k0 h1
  · exact walk_a v0 c0 k0 (by omega)

def laidL : List (String × DataW Unit) := [("math/bits.deBruijn32tab", Rows.laid_math_bits_deBruijn32tab), ("math/bits.deBruijn64tab", Rows.laid_math_bits_deBruijn64tab), ("internal/strconv.uint64pow10", Rows.laid_internal_strconv_uint64pow10)]

theorem door_met (os : Os) (args : Array Value) : laidMetH Tryd.prog laidL ((World.doorLaid Tryd.prog 400 os).forCall (fun _ _ => 0) ⟨#[], args, []⟩).memory :=
  laidMetH_of_parts3 (fuel := 8) (laidMet_of_run' 8 (by kernel_rfl) (by kernel_rfl)) (by kernel_rfl) (by kernel_rfl)

set_option maxRecDepth 100000 in
theorem lifted (os : Os) (started : os.Started) (H : Type) (enc : TypeId × Value → H) :
    ReturnsInHanded {} Tryd.checked os 3 .any (fun w args => (Rows.fnExactChainTextSpec.pre enc Tryd.prog Tryd.f3 [] false w args ∧ laidMetH Tryd.prog laidL w) ∧ sizedMet enc Tryd.prog Tryd.f3 (OpenSpec.ofChange Rows.fnExactChainTextSpec) false w args)
      (Rows.fnExactChainTextSpec.post enc Tryd.prog Tryd.f3 false true false false) := by
  refine returnsInHanded_of_change_and (C := Tryd.checked) (X := fun w _ => laidMetH Tryd.prog laidL w) (fun _ _ _ hh h => h.of_heap hh) own started (by kernel_rfl) Tryd.func3
    (ChangeSpec.witness_shaped (enc := enc) (C := Tryd.checked) (os := os) (X := fun w _ => laidMetH Tryd.prog laidL w) false (World.doorLaid Tryd.prog 400 os) #[.agg #[.int .i64 0, .int .i64 0, .slice none 0 0]] 8 rfl (World.shaped_of_RefB (by kernel_rfl) (by kernel_rfl)) (by kernel_rfl) (by kernel_rfl) (by kernel_rfl) (door_met os _)) ?_
  intro W base args ds gs before hval0 hW _ _ hL _
  have hval : ∀ (j : Nat) t v, Tryd.f3.params[j]? = some t → args[j]? = some v → Value.okWide Tryd.prog W .any base t v := hval0
  have hW' := hW
  obtain ⟨p, q, hA0, hV, rfl, hfz, hnd⟩ := hW
  have hA : DataW.TrodAll enc Tryd.prog W 0 (fun _ => true) true Tryd.f3.params.toList args.toList ds p := hA0
  rw [Tryd.params3] at hA hval
  obtain ⟨v0, vs0, d0, ds0, p0, q0, hargs, rfl, rfl, h0, r0⟩ := trodAll_cons hA
  obtain ⟨rfl, rfl, rfl⟩ := trodAll_nil r0
  obtain rfl : args = #[v0] := by cases args; simp_all
  obtain ⟨rfl, rfl⟩ := trodVars_none hV
  have k0 := h0
  have lt0 : ∀ x ∈ p0, x.block < W.heap.size := by obtain ⟨m, hm⟩ := k0; exact DataW.trod_lt m _ _ _ hm
  obtain ⟨c0, w0⟩ := open_chain (hval 0 24 v0 rfl rfl) h0
  clear hA0 hval0
  refine (walk v0 c0 w0).mono fun e W' ⟨he, bel⟩ => ?_
  subst he
  exact ⟨_, rfl, _, _, _, [], _, [], hW', trodAll_mk1 (shut_bool Tryd.underlying4 _), (trodAll_cons_mk (Below.trod laidOut (by kernel_rfl) (of_decide_eq_true (by kernel_rfl)) k0 bel lt0) trodAll_mk0), rfl, bel.frame _, fun h => by cases h⟩

theorem over : Rows.FnExactChainTextSaid :=
  OpenClaim.holds_of_wide 3 Tryd.f3 rfl rfl rfl rfl rfl rfl rfl ⟨rfl, rfl, rfl, rfl, rfl⟩ rfl rfl rfl rfl rfl (by kernel_rfl) Tryd.func3 (by kernel_rfl)
    (of_decide_eq_true (by kernel_rfl)) (by unfold Func.isWrapper; first | (rw [if_pos (by decide +kernel)]; kernel_rfl) | (rw [if_neg (by decide +kernel)]; exact ⟨rfl, rfl⟩))
    (fun os started H enc _ => lifted os started H enc)

/-- the statement: the tied card -/
theorem proved : Rows.FnExactChainTextCardSaid :=
  Claim7.holds_tied_plain_at .later [] [.data, .data, .data] true (true, "a3f5f5c666279de3e0a16dda8b83469cc7ee13ed8176518ee4ded6f74127d202") true
    over (fun _ h => by cases h) (by kernel_rfl) (fun _ h => by cases h) fnExactChainText_row_tie rfl ⟨rfl, rfl⟩ (by kernel_rfl) rfl
    (fun f fn hf hfn => by
      obtain rfl : f = 3 := Option.some.inj ((show Tryd.prog.funcNamed "loop.example/g01118/laws.FnExactChainText" = some 3 by kernel_rfl).symm.trans hf) |>.symm
      obtain rfl : fn = Tryd.f3 := (Option.some.inj (Tryd.func3.symm.trans hfn)).symm
      exact ⟨by kernel_rfl, fun j t ht => by
        rw [Tryd.params3] at ht
        have hm : t ∈ [24] := by simpa using Array.mem_of_getElem? ht
        have hall : ([24].all fun u => !Tryd.prog.wantsStandIn u) = true := by kernel_rfl
        exact (show Tryd.prog.wantsStandIn t = false by simpa using List.all_eq_true.1 hall t hm)⟩)
    (by kernel_rfl)
end Go.Proofs.YtdempfpaihageaaDoor.fnExactChainText
