/- For every number of states and rows of bools, the project's ValidOrder and the specification's answer alike; the rows are left as they were.
   Conditions: none beyond the row's own (every input that can be read as data). -/
import Derived.Test.YtkebfnmepbblnaaKinds
import Derived.Test.YtkebfnmepbblnaaEndsI
import Derived.Test.YtkebfnmepbblnaaOpen
namespace Go.Proofs.Ytkebfnmepbblnaa.fnExactValidOrder
open Go.ChangeShapes Go.WideShapes Go.ChangeAt Go.RowKit Go.Deep Go.Joins
open Go.ChangeMaps (open_string shut_string)
set_option linter.unusedVariables false

theorem own : ownKnob Try.prog.godebug = none := by kernel_rfl
theorem laidOut : laidOutB Try.prog = true := by kernel_rfl

set_option maxRecDepth 100000 in
set_option maxHeartbeats 16000000 in
theorem walk_long0 {w : World} (a0 : Int) (w0 : (Lit.int .i64 a0).wf = true) (v1 : Value) (x1 : List (List Bool)) (k1 : BRows w v1 x1)  (hq0 : (1048576 : Int) < (((x1.length + btotal x1) : Nat) : Int)) :
    Calls Try.prog 8 #[.int .i64 a0, v1] w fun e w' => e = .returned (.bool true) ∧ Below w.heap.size w w' := by
  obtain ⟨a1, a1c, rfl⟩ := k1.shape
  have B0 : Below w.heap.size w w := Below.refl _ _
  have K1 := BRUnder.of (k1.keep B0)
  have zu0 : w.heap.size + 0 = w.heap.size := by simp
  have SB : Since w.heap.size w w := ⟨Below.refl _ _, Nat.le_refl _⟩
  obtain ⟨u0, hu0⟩ : ∃ u, w = u := ⟨_, rfl⟩
  replace K1 := K1.step (show Below w.heap.size w u0 by rw [← hu0]; exact Below.refl _ _)
  replace B0 : Below w.heap.size w u0 := by rw [← hu0]; exact Below.refl _ _
  replace zu0 : w.heap.size + 0 = u0.heap.size := by rw [← hu0]; rfl
  replace SB : Since u0.heap.size u0 u0 := ⟨Below.refl _ _, Nat.le_refl _⟩
  have zu0' := Lib.hid zu0
  have hu0' := Lib.hid hu0
  have z0a : 0 + w.heap.size ≤ u0.heap.size := by omega
  clear zu0 hu0
  have hn := szLeft_no (left := 1048576) (n := (x1.length + btotal x1)) (by omega)
  have hneg : szLeft 1048576 (x1.length + btotal x1) < 0 := by rw [hn]; decide
  clear hn
  go_enter Try.func8, Try.ntmps8
  go_wp2_with fail
  rw [hu0'.out]
  refine (sz_brows _ x1 1048576 _ K1.now (by omega) (by omega)).mono ?_
  rintro e u1 ⟨rfl, b1⟩
  have zb1 := b1.size
  go_wp2
  go_ret
  replace SB := SB.step b1
  exact ⟨rfl, B0.trans (SB.bel.mono B0.size)⟩

set_option maxRecDepth 100000 in
set_option maxHeartbeats 16000000 in
theorem walk_ok {w : World} (a0 : Int) (w0 : (Lit.int .i64 a0).wf = true) (v1 : Value) (x1 : List (List Bool)) (k1 : BRows w v1 x1) (hq0 : (((x1.length + btotal x1) : Nat) : Int) ≤ (1048576 : Int)) :
    Calls Try.prog 8 #[.int .i64 a0, v1] w fun e w' => e = .returned (.bool true) ∧ Below w.heap.size w w' := by
  obtain ⟨a1, a1c, rfl⟩ := k1.shape
  have B0 : Below w.heap.size w w := Below.refl _ _
  have K1 := BRUnder.of (k1.keep B0)
  have zu0 : w.heap.size + 0 = w.heap.size := by simp
  have SB : Since w.heap.size w w := ⟨Below.refl _ _, Nat.le_refl _⟩
  obtain ⟨u0, hu0⟩ : ∃ u, w = u := ⟨_, rfl⟩
  replace K1 := K1.step (show Below w.heap.size w u0 by rw [← hu0]; exact Below.refl _ _)
  replace B0 : Below w.heap.size w u0 := by rw [← hu0]; exact Below.refl _ _
  replace zu0 : w.heap.size + 0 = u0.heap.size := by rw [← hu0]; rfl
  replace SB : Since u0.heap.size u0 u0 := ⟨Below.refl _ _, Nat.le_refl _⟩
  have zu0' := Lib.hid zu0
  have hu0' := Lib.hid hu0
  have z0a : 0 + w.heap.size ≤ u0.heap.size := by omega
  clear zu0 hu0
  have hy0 := szLeft_yes (left := 1048576) (n := (x1.length + btotal x1)) (by omega)
  have g1 : 0 ≤ (szLeft 1048576 (x1.length + btotal x1)) := by omega
  have gg1 : (szLeft 1048576 (x1.length + btotal x1)) ≤ 1048576 := by omega
  clear hy0
  obtain ⟨L1, hL1⟩ : ∃ l, szLeft 1048576 (x1.length + btotal x1) = l := ⟨_, rfl⟩
  rw [hL1] at g1 gg1
  have hM1 := Lib.hid hL1
  clear hL1
  have hbd1 : (x1.length + btotal x1) ≤ 2097152 := by omega
  have hti1 : ((btotal x1 : Nat) : Int) ≤ 2097152 := by omega
  obtain ⟨r0, hr0⟩ : ∃ r, ordOk a0 x1 = r := ⟨_, rfl⟩
  have hv0 := Lib.hid hr0
  clear hr0
  go_enter Try.func8, Try.ntmps8
  go_wp2_with fail
  rw [hu0'.out]
  refine (sz_brows _ x1 1048576 _ K1.now (by omega) (by omega)).mono ?_
  rintro e u1 ⟨rfl, b1⟩
  have zb1 := b1.size
  rw [hM1.out]
  replace K1 := K1.step b1
  go_wp2_with fail
  refine (to_brows _ x1 _ K1.now hbd1).mono ?_
  rintro e u2 ⟨s1, rfl, os1, b2⟩
  have zb2 := b2.size
  obtain ⟨s1a, s1ac, rfl⟩ := os1.shape
  have S1 := os1
  go_wp2_with fail
  refine (ValidOrder_specB a0 _ x1 _ S1.ch).mono ?_
  rintro e u3 ⟨rfl, b3⟩
  have zb3 := b3.size
  rw [hv0.out]
  have bc1_3 := (below_wt b2 b3)
  replace K1 := K1.step bc1_3
  go_wp2_with fail
  refine (to_brows _ x1 _ K1.now hbd1).mono ?_
  rintro e u4 ⟨x1_, rfl, ox1_, b4⟩
  have zb4 := b4.size
  obtain ⟨x1_a, x1_ac, rfl⟩ := ox1_.shape
  have X1 := ox1_
  go_wp2_with fail
  refine (ValidOrder_impl a0 _ x1 _ X1.ch).mono ?_
  rintro e u5 ⟨rfl, b5⟩
  have zb5 := b5.size
  rw [hv0.out]
  have bc3_5 := (below_wt b4 b5)
  replace K1 := K1.step bc3_5
  go_wp2_with fail
  refine (to_brows _ x1 _ K1.now hbd1).mono ?_
  rintro e u6 ⟨y1, rfl, oy1, b6⟩
  have zb6 := b6.size
  obtain ⟨y1a, y1ac, rfl⟩ := oy1.shape
  have Y1 := oy1
  have bc4_6 := (below_wt b5 b6)
  replace X1 := X1.step bc4_6
  go_wp2_with fail
  refine (eq_brows _ _ x1 _ X1.ch Y1.ch).mono ?_
  rintro e u7 ⟨rfl, b7⟩
  have zb7 := b7.size
  go_wp2
  go_ret
  have bc0_7 := (below_wt (below_wt (below_wt (below_wt (below_wt (below_wt b1 b2) b3) b4) b5) b6) b7)
  replace SB := SB.step bc0_7
  exact ⟨rfl, B0.trans (SB.bel.mono B0.size)⟩

theorem walk {w : World} (a0 : Int) (w0 : (Lit.int .i64 a0).wf = true) (v1 : Value) (x1 : List (List Bool)) (k1 : BRows w v1 x1) :
    Calls Try.prog 8 #[.int .i64 a0, v1] w fun e w' => e = .returned (.bool true) ∧ Below w.heap.size w w' := by
  by_cases h0 : (((x1.length + btotal x1) : Nat) : Int) ≤ (1048576 : Int)
  rotate_left
  · exact walk_long0 a0 w0 v1 x1 k1  (by omega)
  exact walk_ok a0 w0 v1 x1 k1 h0

set_option maxRecDepth 100000 in
theorem lifted (os : Os) (started : os.Started) (H : Type) (enc : TypeId × Value → H) :
    ReturnsInHanded {} Try.checked os 8 .any (Rows.fnExactValidOrderSpec.pre6 enc Try.prog Try.f8 Rows.fnExactValidOrderRow.domain false) (Rows.fnExactValidOrderSpec.post enc Try.prog Try.f8 false true false false) := by
  refine returnsInHanded_of_change (C := Try.checked) own started (by kernel_rfl) Try.func8
    (ChangeSpec.witness6 (enc := enc) (C := Try.checked) false ⟨#[], #[.int .i64 0, .slice none 0 0], []⟩ 8 (by kernel_rfl) (by kernel_rfl) (by kernel_rfl) (by kernel_rfl)) ?_
  intro W base args ds gs before hval0 hW hcnd _
  have hval : ∀ (j : Nat) t v, Try.f8.params[j]? = some t → args[j]? = some v → Value.okWide Try.prog W .any base t v := hval0
  have hW' := hW
  obtain ⟨p, q, hA0, hV, rfl, hfz, hnd⟩ := hW
  have hA : DataW.TrodAll enc Try.prog W 0 (fun _ => true) true Try.f8.params.toList args.toList ds p := hA0
  rw [Try.params8] at hA hval
  obtain ⟨v0, vs0, d0, ds0, p0, q0, hargs, rfl, rfl, h0, r0⟩ := trodAll_cons hA
  obtain ⟨v1, vs1, d1, ds1, p1, q1, rfl, rfl, rfl, h1, r1⟩ := trodAll_cons r0
  obtain ⟨rfl, rfl, rfl⟩ := trodAll_nil r1
  obtain rfl : args = #[v0, v1] := by cases args; simp_all
  obtain ⟨rfl, rfl⟩ := trodVars_none hV
  obtain ⟨a0, rfl, rfl, rfl, w0⟩ := open_int Try.underlying2 (hval 0 2 v0 rfl rfl) h0
  have k1 := h1
  have lt1 : ∀ x ∈ p1, x.block < W.heap.size := by obtain ⟨m, hm⟩ := k1; exact DataW.trod_lt m _ _ _ hm
  obtain ⟨c1, w1⟩ := open_brows_in (hval 1 50 v1 rfl rfl) h1
  clear hA0 hval0
  refine (walk a0 w0 v1 c1 w1).mono fun e W' ⟨he, bel⟩ => ?_
  subst he
  exact ⟨_, rfl, _, _, _, [], _, [], hW', trodAll_mk1 (shut_bool Try.underlying4 _), (trodAll_cons_mk (shut_int Try.underlying2 w0) (trodAll_cons_mk (Below.trod laidOut (by kernel_rfl) (of_decide_eq_true (by kernel_rfl)) k1 bel lt1) trodAll_mk0)), rfl, bel.frame _, fun h => by cases h⟩

theorem over : Rows.fnExactValidOrderRow.holds Try.pinned (OpenSpec.ofChange Rows.fnExactValidOrderSpec) :=
  OpenClaim.holds_of_wide 8 Try.f8 rfl rfl rfl rfl rfl rfl rfl ⟨rfl, rfl, rfl, rfl, rfl⟩ rfl rfl rfl rfl rfl (by kernel_rfl) Try.func8 (by kernel_rfl)
    (of_decide_eq_true (by kernel_rfl)) (by unfold Func.isWrapper; first | (rw [if_pos (by decide +kernel)]; kernel_rfl) | (rw [if_neg (by decide +kernel)]; exact ⟨rfl, rfl⟩))
    (fun os started H enc _ => lifted os started H enc)

/-- the statement -/
theorem proved : Rows.FnExactValidOrderSaid := over
end Go.Proofs.Ytkebfnmepbblnaa.fnExactValidOrder
