/- For every rows of bools, the project's EndsOf and the specification's answer alike, with the same code; the rows are left as they were.
   Conditions: none beyond the row's own (every input that can be read as data). -/
import Derived.Test.YtkebfnmepbblnaaKinds
import Derived.Test.YtkebfnmepbblnaaEndsI
import Derived.Test.YtkebfnmepbblnaaOpen
namespace Go.Proofs.Ytkebfnmepbblnaa.fnExactEndsOf
open Go.ChangeShapes Go.WideShapes Go.ChangeAt Go.RowKit Go.Deep Go.Joins
open Go.ChangeMaps (open_string shut_string)
set_option linter.unusedVariables false

theorem own : ownKnob Try.prog.godebug = none := by kernel_rfl
theorem laidOut : laidOutB Try.prog = true := by kernel_rfl

set_option maxRecDepth 100000 in
set_option maxHeartbeats 16000000 in
theorem walk_long0 {w : World} (v0 : Value) (x0 : List (List Bool)) (k0 : BRows w v0 x0)  (hq0 : (1048576 : Int) < (((x0.length + btotal x0) : Nat) : Int)) :
    Calls Try.prog 9 #[v0] w fun e w' => e = .returned (.bool true) ∧ Below w.heap.size w w' := by
  obtain ⟨a0, a0c, rfl⟩ := k0.shape
  have B0 : Below w.heap.size w w := Below.refl _ _
  have K0 := BRUnder.of (k0.keep B0)
  have zu0 : w.heap.size + 0 = w.heap.size := by simp
  have SB : Since w.heap.size w w := ⟨Below.refl _ _, Nat.le_refl _⟩
  obtain ⟨u0, hu0⟩ : ∃ u, w = u := ⟨_, rfl⟩
  replace K0 := K0.step (show Below w.heap.size w u0 by rw [← hu0]; exact Below.refl _ _)
  replace B0 : Below w.heap.size w u0 := by rw [← hu0]; exact Below.refl _ _
  replace zu0 : w.heap.size + 0 = u0.heap.size := by rw [← hu0]; rfl
  replace SB : Since u0.heap.size u0 u0 := ⟨Below.refl _ _, Nat.le_refl _⟩
  have zu0' := Lib.hid zu0
  have hu0' := Lib.hid hu0
  have z0a : 0 + w.heap.size ≤ u0.heap.size := by omega
  clear zu0 hu0
  have hn := szLeft_no (left := 1048576) (n := (x0.length + btotal x0)) (by omega)
  have hneg : szLeft 1048576 (x0.length + btotal x0) < 0 := by rw [hn]; decide
  clear hn
  go_enter Try.func9, Try.ntmps9
  go_wp2_with fail
  rw [hu0'.out]
  refine (sz_brows _ x0 1048576 _ K0.now (by omega) (by omega)).mono ?_
  rintro e u1 ⟨rfl, b1⟩
  have zb1 := b1.size
  go_wp2
  go_ret
  replace SB := SB.step b1
  exact ⟨rfl, B0.trans (SB.bel.mono B0.size)⟩

set_option maxRecDepth 100000 in
set_option maxHeartbeats 16000000 in
theorem walk_ok {w : World} (v0 : Value) (x0 : List (List Bool)) (k0 : BRows w v0 x0) (hq0 : (((x0.length + btotal x0) : Nat) : Int) ≤ (1048576 : Int)) :
    Calls Try.prog 9 #[v0] w fun e w' => e = .returned (.bool true) ∧ Below w.heap.size w w' := by
  obtain ⟨a0, a0c, rfl⟩ := k0.shape
  have B0 : Below w.heap.size w w := Below.refl _ _
  have K0 := BRUnder.of (k0.keep B0)
  have zu0 : w.heap.size + 0 = w.heap.size := by simp
  have SB : Since w.heap.size w w := ⟨Below.refl _ _, Nat.le_refl _⟩
  obtain ⟨u0, hu0⟩ : ∃ u, w = u := ⟨_, rfl⟩
  replace K0 := K0.step (show Below w.heap.size w u0 by rw [← hu0]; exact Below.refl _ _)
  replace B0 : Below w.heap.size w u0 := by rw [← hu0]; exact Below.refl _ _
  replace zu0 : w.heap.size + 0 = u0.heap.size := by rw [← hu0]; rfl
  replace SB : Since u0.heap.size u0 u0 := ⟨Below.refl _ _, Nat.le_refl _⟩
  have zu0' := Lib.hid zu0
  have hu0' := Lib.hid hu0
  have z0a : 0 + w.heap.size ≤ u0.heap.size := by omega
  clear zu0 hu0
  have hy0 := szLeft_yes (left := 1048576) (n := (x0.length + btotal x0)) (by omega)
  have g1 : 0 ≤ (szLeft 1048576 (x0.length + btotal x0)) := by omega
  have gg1 : (szLeft 1048576 (x0.length + btotal x0)) ≤ 1048576 := by omega
  clear hy0
  obtain ⟨L1, hL1⟩ : ∃ l, szLeft 1048576 (x0.length + btotal x0) = l := ⟨_, rfl⟩
  rw [hL1] at g1 gg1
  have hM1 := Lib.hid hL1
  clear hL1
  have hbd0 : (x0.length + btotal x0) ≤ 2097152 := by omega
  have hti0 : ((btotal x0 : Nat) : Int) ≤ 2097152 := by omega
  obtain ⟨r0, hr0⟩ : ∃ r, (endsOf x0).1 = r := ⟨_, rfl⟩
  have hv0 := Lib.hid hr0
  clear hr0
  obtain ⟨r1, hr1⟩ : ∃ r, (endsOf x0).2.1 = r := ⟨_, rfl⟩
  have hv1 := Lib.hid hr1
  clear hr1
  obtain ⟨r2, hr2⟩ : ∃ r, (endsOf x0).2.2 = r := ⟨_, rfl⟩
  have hv2 := Lib.hid hr2
  clear hr2
  go_enter Try.func9, Try.ntmps9
  go_wp2_with fail
  rw [hu0'.out]
  refine (sz_brows _ x0 1048576 _ K0.now (by omega) (by omega)).mono ?_
  rintro e u1 ⟨rfl, b1⟩
  have zb1 := b1.size
  rw [hM1.out]
  replace K0 := K0.step b1
  go_wp2_with fail
  refine (to_brows _ x0 _ K0.now hbd0).mono ?_
  rintro e u2 ⟨s0, rfl, os0, b2⟩
  have zb2 := b2.size
  obtain ⟨s0a, s0ac, rfl⟩ := os0.shape
  have S0 := os0
  go_wp2_with fail
  refine (EndsOf_spec _ x0 _ S0.ch).mono ?_
  rintro e u3 ⟨rfl, b3⟩
  have zb3 := b3.size
  rw [hv0.out, hv1.out, hv2.out]
  have bc1_3 := (below_wt b2 b3)
  replace K0 := K0.step bc1_3
  go_wp2_with fail
  refine (to_brows _ x0 _ K0.now hbd0).mono ?_
  rintro e u4 ⟨x0_, rfl, ox0_, b4⟩
  have zb4 := b4.size
  obtain ⟨x0_a, x0_ac, rfl⟩ := ox0_.shape
  have X0 := ox0_
  go_wp2_with fail
  refine (EndsOf_impl _ x0 _ X0.ch).mono ?_
  rintro e u5 ⟨rfl, b5⟩
  have zb5 := b5.size
  rw [hv0.out, hv1.out, hv2.out]
  have bc3_5 := (below_wt b4 b5)
  replace K0 := K0.step bc3_5
  go_wp2_with fail
  refine (to_brows _ x0 _ K0.now hbd0).mono ?_
  rintro e u6 ⟨y0, rfl, oy0, b6⟩
  have zb6 := b6.size
  obtain ⟨y0a, y0ac, rfl⟩ := oy0.shape
  have Y0 := oy0
  have bc4_6 := (below_wt b5 b6)
  replace X0 := X0.step bc4_6
  go_wp2_with fail
  refine (eq_brows _ _ x0 _ X0.ch Y0.ch).mono ?_
  rintro e u7 ⟨rfl, b7⟩
  have zb7 := b7.size
  go_wp2
  go_ret
  have bc0_7 := (below_wt (below_wt (below_wt (below_wt (below_wt (below_wt b1 b2) b3) b4) b5) b6) b7)
  replace SB := SB.step bc0_7
  exact ⟨rfl, B0.trans (SB.bel.mono B0.size)⟩

theorem walk {w : World} (v0 : Value) (x0 : List (List Bool)) (k0 : BRows w v0 x0) :
    Calls Try.prog 9 #[v0] w fun e w' => e = .returned (.bool true) ∧ Below w.heap.size w w' := by
  by_cases h0 : (((x0.length + btotal x0) : Nat) : Int) ≤ (1048576 : Int)
  rotate_left
  · exact walk_long0 v0 x0 k0  (by omega)
  exact walk_ok v0 x0 k0 h0

set_option maxRecDepth 100000 in
theorem lifted (os : Os) (started : os.Started) (H : Type) (enc : TypeId × Value → H) :
    ReturnsInHanded {} Try.checked os 9 .any (Rows.fnExactEndsOfSpec.pre6 enc Try.prog Try.f9 Rows.fnExactEndsOfRow.domain false) (Rows.fnExactEndsOfSpec.post enc Try.prog Try.f9 false true false false) := by
  refine returnsInHanded_of_change (C := Try.checked) own started (by kernel_rfl) Try.func9
    (ChangeSpec.witness6 (enc := enc) (C := Try.checked) false ⟨#[], #[.slice none 0 0], []⟩ 8 (by kernel_rfl) (by kernel_rfl) (by kernel_rfl) (by kernel_rfl)) ?_
  intro W base args ds gs before hval0 hW hcnd _
  have hval : ∀ (j : Nat) t v, Try.f9.params[j]? = some t → args[j]? = some v → Value.okWide Try.prog W .any base t v := hval0
  have hW' := hW
  obtain ⟨p, q, hA0, hV, rfl, hfz, hnd⟩ := hW
  have hA : DataW.TrodAll enc Try.prog W 0 (fun _ => true) true Try.f9.params.toList args.toList ds p := hA0
  rw [Try.params9] at hA hval
  obtain ⟨v0, vs0, d0, ds0, p0, q0, hargs, rfl, rfl, h0, r0⟩ := trodAll_cons hA
  obtain ⟨rfl, rfl, rfl⟩ := trodAll_nil r0
  obtain rfl : args = #[v0] := by cases args; simp_all
  obtain ⟨rfl, rfl⟩ := trodVars_none hV
  have k0 := h0
  have lt0 : ∀ x ∈ p0, x.block < W.heap.size := by obtain ⟨m, hm⟩ := k0; exact DataW.trod_lt m _ _ _ hm
  obtain ⟨c0, w0⟩ := open_brows_in (hval 0 50 v0 rfl rfl) h0
  clear hA0 hval0
  refine (walk v0 c0 w0).mono fun e W' ⟨he, bel⟩ => ?_
  subst he
  exact ⟨_, rfl, _, _, _, [], _, [], hW', trodAll_mk1 (shut_bool Try.underlying4 _), (trodAll_cons_mk (Below.trod laidOut (by kernel_rfl) (of_decide_eq_true (by kernel_rfl)) k0 bel lt0) trodAll_mk0), rfl, bel.frame _, fun h => by cases h⟩

theorem over : Rows.fnExactEndsOfRow.holds Try.pinned (OpenSpec.ofChange Rows.fnExactEndsOfSpec) :=
  OpenClaim.holds_of_wide 9 Try.f9 rfl rfl rfl rfl rfl rfl rfl ⟨rfl, rfl, rfl, rfl, rfl⟩ rfl rfl rfl rfl rfl (by kernel_rfl) Try.func9 (by kernel_rfl)
    (of_decide_eq_true (by kernel_rfl)) (by unfold Func.isWrapper; first | (rw [if_pos (by decide +kernel)]; kernel_rfl) | (rw [if_neg (by decide +kernel)]; exact ⟨rfl, rfl⟩))
    (fun os started H enc _ => lifted os started H enc)

/-- the statement -/
theorem proved : Rows.FnExactEndsOfSaid := over
end Go.Proofs.Ytkebfnmepbblnaa.fnExactEndsOf
