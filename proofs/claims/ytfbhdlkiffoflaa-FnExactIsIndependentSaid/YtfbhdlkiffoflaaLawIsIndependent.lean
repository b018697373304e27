/- IsIndependent answers as the document says
   Conditions: none beyond the row's own (every input that can be read as data). -/
import Derived.Test.YtfbhdlkiffoflaaKinds
import Derived.Test.YtfbhdlkiffoflaaStsS
import Derived.Test.YtfbhdlkiffoflaaOpen
namespace Go.Proofs.Ytfbhdlkiffoflaa.fnExactIsIndependent
open Go.ChangeShapes Go.WideShapes Go.ChangeAt Go.RowKit Go.Deep Go.Joins
open Go.ChangeMaps (open_string shut_string)
set_option linter.unusedVariables false

theorem own : ownKnob Try.prog.godebug = none := by kernel_rfl
theorem laidOut : laidOutB Try.prog = true := by kernel_rfl

set_option maxRecDepth 100000 in
set_option maxHeartbeats 16000000 in
theorem walk_long0 {w : World} (v0 : Value) (c0 : Gr) (k0 : GrR w v0 c0) (v1 : Value) (x1 : List Int) (k1 : Ints w v1 x1)  (hq0 : (1048576 : Int) < (x1.length : Int)) :
    Calls Try.prog 8 #[v0, v1] w fun e w' => e = .returned (.bool true) ∧ Below w.heap.size w w' := by
  obtain ⟨a0, a0c, rfl⟩ := k0.shape
  obtain ⟨a1, a1c, rfl⟩ := k1.shape
  have H0 := (Blk.new w #[.int .i64 c0.n, .slice a0 c0.e.length a0c] 24)
  have B0 : Below w.heap.size w (w.alloc (.cells #[.int .i64 c0.n, .slice a0 c0.e.length a0c] 24)) := below1 w (.cells #[.int .i64 c0.n, .slice a0 c0.e.length a0c] 24)
  have K0 := GrUnder.of (k0.keep B0)
  have K1 := IntsUnder.of (k1.keep B0)
  have zu0 : w.heap.size + 1 = (w.alloc (.cells #[.int .i64 c0.n, .slice a0 c0.e.length a0c] 24)).heap.size := by simp
  have SB : Since (w.alloc (.cells #[.int .i64 c0.n, .slice a0 c0.e.length a0c] 24)).heap.size (w.alloc (.cells #[.int .i64 c0.n, .slice a0 c0.e.length a0c] 24)) (w.alloc (.cells #[.int .i64 c0.n, .slice a0 c0.e.length a0c] 24)) := ⟨Below.refl _ _, Nat.le_refl _⟩
  obtain ⟨u0, hu0⟩ : ∃ u, (w.alloc (.cells #[.int .i64 c0.n, .slice a0 c0.e.length a0c] 24)) = u := ⟨_, rfl⟩
  rw [hu0] at H0 K0 K1 B0 zu0 SB
  have zu0' := Lib.hid zu0
  have hu0' := Lib.hid hu0
  have z0a : 1 + w.heap.size ≤ u0.heap.size := by omega
  clear zu0 hu0
  have hl1 : decide ((1048576 : Int) < (x1.length : Int)) = true := decide_eq_true (by omega)
  go_enter Try.func8, Try.ntmps8
  go_wp2
  go_ret
  rw [hu0'.out]
  exact ⟨rfl, B0⟩

set_option maxRecDepth 100000 in
set_option maxHeartbeats 16000000 in
theorem walk_long1 {w : World} (v0 : Value) (c0 : Gr) (k0 : GrR w v0 c0) (v1 : Value) (x1 : List Int) (k1 : Ints w v1 x1) (hq0 : (x1.length : Int) ≤ 1048576) (hq1 : (1048576 : Int) < (((c0.e.length + total c0.e) : Nat) : Int)) :
    Calls Try.prog 8 #[v0, v1] w fun e w' => e = .returned (.bool true) ∧ Below w.heap.size w w' := by
  obtain ⟨a0, a0c, rfl⟩ := k0.shape
  obtain ⟨a1, a1c, rfl⟩ := k1.shape
  have H0 := (Blk.new w #[.int .i64 c0.n, .slice a0 c0.e.length a0c] 24)
  have B0 : Below w.heap.size w (w.alloc (.cells #[.int .i64 c0.n, .slice a0 c0.e.length a0c] 24)) := below1 w (.cells #[.int .i64 c0.n, .slice a0 c0.e.length a0c] 24)
  have K0 := GrUnder.of (k0.keep B0)
  have K1 := IntsUnder.of (k1.keep B0)
  have zu0 : w.heap.size + 1 = (w.alloc (.cells #[.int .i64 c0.n, .slice a0 c0.e.length a0c] 24)).heap.size := by simp
  have SB : Since (w.alloc (.cells #[.int .i64 c0.n, .slice a0 c0.e.length a0c] 24)).heap.size (w.alloc (.cells #[.int .i64 c0.n, .slice a0 c0.e.length a0c] 24)) (w.alloc (.cells #[.int .i64 c0.n, .slice a0 c0.e.length a0c] 24)) := ⟨Below.refl _ _, Nat.le_refl _⟩
  obtain ⟨u0, hu0⟩ : ∃ u, (w.alloc (.cells #[.int .i64 c0.n, .slice a0 c0.e.length a0c] 24)) = u := ⟨_, rfl⟩
  rw [hu0] at H0 K0 K1 B0 zu0 SB
  have zu0' := Lib.hid zu0
  have hu0' := Lib.hid hu0
  have z0a : 1 + w.heap.size ≤ u0.heap.size := by omega
  clear zu0 hu0
  have hl1 : decide ((1048576 : Int) < (x1.length : Int)) = false := decide_eq_false (by omega)
  have hn := szLeft_no (left := 1048576) (n := (c0.e.length + total c0.e)) (by omega)
  have hneg : szLeft 1048576 (c0.e.length + total c0.e) < 0 := by rw [hn]; decide
  clear hn
  go_enter Try.func8, Try.ntmps8
  obtain ⟨pH00, pH01⟩ := H0.two
  go_wp2_with fail
  rw [hu0'.out]
  refine (szGraph_any _ c0 1048576 _ K0.now (by omega) (by omega)).mono ?_
  rintro e u1 ⟨rfl, b1⟩
  clear pH00 pH01
  have zb1 := b1.size
  go_wp2
  go_ret
  replace SB := SB.step b1
  exact ⟨rfl, B0.trans (SB.bel.mono B0.size)⟩

set_option maxRecDepth 100000 in
set_option maxHeartbeats 16000000 in
theorem walk_ok {w : World} (v0 : Value) (c0 : Gr) (k0 : GrR w v0 c0) (v1 : Value) (x1 : List Int) (k1 : Ints w v1 x1) (hq0 : (x1.length : Int) ≤ 1048576) (hq1 : (((c0.e.length + total c0.e) : Nat) : Int) ≤ (1048576 : Int)) :
    Calls Try.prog 8 #[v0, v1] w fun e w' => e = .returned (.bool true) ∧ Below w.heap.size w w' := by
  obtain ⟨a0, a0c, rfl⟩ := k0.shape
  obtain ⟨a1, a1c, rfl⟩ := k1.shape
  have H0 := (Blk.new w #[.int .i64 c0.n, .slice a0 c0.e.length a0c] 24)
  have B0 : Below w.heap.size w (w.alloc (.cells #[.int .i64 c0.n, .slice a0 c0.e.length a0c] 24)) := below1 w (.cells #[.int .i64 c0.n, .slice a0 c0.e.length a0c] 24)
  have K0 := GrUnder.of (k0.keep B0)
  have K1 := IntsUnder.of (k1.keep B0)
  have zu0 : w.heap.size + 1 = (w.alloc (.cells #[.int .i64 c0.n, .slice a0 c0.e.length a0c] 24)).heap.size := by simp
  have SB : Since (w.alloc (.cells #[.int .i64 c0.n, .slice a0 c0.e.length a0c] 24)).heap.size (w.alloc (.cells #[.int .i64 c0.n, .slice a0 c0.e.length a0c] 24)) (w.alloc (.cells #[.int .i64 c0.n, .slice a0 c0.e.length a0c] 24)) := ⟨Below.refl _ _, Nat.le_refl _⟩
  obtain ⟨u0, hu0⟩ : ∃ u, (w.alloc (.cells #[.int .i64 c0.n, .slice a0 c0.e.length a0c] 24)) = u := ⟨_, rfl⟩
  rw [hu0] at H0 K0 K1 B0 zu0 SB
  have zu0' := Lib.hid zu0
  have hu0' := Lib.hid hu0
  have z0a : 1 + w.heap.size ≤ u0.heap.size := by omega
  clear zu0 hu0
  have hl1 : decide ((1048576 : Int) < (x1.length : Int)) = false := decide_eq_false (by omega)
  have hy0 := szLeft_yes (left := 1048576) (n := (c0.e.length + total c0.e)) (by omega)
  have g1 : 0 ≤ (szLeft 1048576 (c0.e.length + total c0.e)) := by omega
  have gg1 : (szLeft 1048576 (c0.e.length + total c0.e)) ≤ 1048576 := by omega
  clear hy0
  obtain ⟨L1, hL1⟩ : ∃ l, szLeft 1048576 (c0.e.length + total c0.e) = l := ⟨_, rfl⟩
  rw [hL1] at g1 gg1
  have hM1 := Lib.hid hL1
  clear hL1
  have hbd0 : (c0.e.length + total c0.e) ≤ 2097152 := by omega
  have hti0 : ((total c0.e : Nat) : Int) ≤ 2097152 := by omega
  have hbd1 : x1.length ≤ 2097152 := by omega
  have hti1 : ((x1.length : Nat) : Int) ≤ 2097152 := by omega
  obtain ⟨r0, hr0⟩ : ∃ r, (iiOf c0 x1).1 = r := ⟨_, rfl⟩
  have hv0 := Lib.hid hr0
  clear hr0
  obtain ⟨r1, hr1⟩ : ∃ r, (iiOf c0 x1).2 = r := ⟨_, rfl⟩
  have hv1 := Lib.hid hr1
  clear hr1
  go_enter Try.func8, Try.ntmps8
  obtain ⟨pH00, pH01⟩ := H0.two
  go_wp2_with fail
  rw [hu0'.out]
  refine (szGraph_any _ c0 1048576 _ K0.now (by omega) (by omega)).mono ?_
  rintro e u1 ⟨rfl, b1⟩
  clear pH00 pH01
  have zb1 := b1.size
  rw [hM1.out]
  replace K0 := K0.step b1
  replace H0 := H0.step b1
  obtain ⟨pH00, pH01⟩ := H0.two
  go_wp2_with fail
  refine (to_gr _ c0 _ K0.now hbd0).mono ?_
  rintro e u2 ⟨s0, rfl, os0, b2⟩
  clear pH00 pH01
  have zb2 := b2.size
  obtain ⟨s0a, s0ac, rfl⟩ := os0.shape
  have S0 := os0
  have bc0_2 := (below_wt b1 b2)
  replace K1 := K1.step bc0_2
  go_wp2_with fail
  refine (to_ints _ x1 _ K1.now hbd1).mono ?_
  rintro e u3 ⟨s1, rfl, os1, b3⟩
  have zb3 := b3.size
  obtain ⟨s1a, s1ac, rfl⟩ := os1.shape
  have S1 := os1
  replace S0 := S0.step b3
  go_wp2_with fail
  refine (IsIndependent_spec _ _ c0 x1 _ S0.ch S1.ch).mono ?_
  rintro e u4 ⟨rfl, b4⟩
  have zb4 := b4.size
  rw [hv0.out, hv1.out]
  have bc1_4 := (below_wt (below_wt b2 b3) b4)
  replace K0 := K0.step bc1_4
  replace H0 := H0.step bc1_4
  obtain ⟨pH00, pH01⟩ := H0.two
  go_wp2_with fail
  refine (to_gr _ c0 _ K0.now hbd0).mono ?_
  rintro e u5 ⟨x0_, rfl, ox0_, b5⟩
  clear pH00 pH01
  have zb5 := b5.size
  obtain ⟨x0_a, x0_ac, rfl⟩ := ox0_.shape
  have X0 := ox0_
  have b6 := below1 u5 (.cells #[.int .i64 c0.n, .slice x0_a c0.e.length x0_ac] 27)
  have Q0 := Blk.new u5 #[.int .i64 c0.n, .slice x0_a c0.e.length x0_ac] 27
  have yb6 : u5.heap.size < (u5.alloc (.cells #[.int .i64 c0.n, .slice x0_a c0.e.length x0_ac] 27)).heap.size := by simp
  obtain ⟨u6, hu60⟩ : ∃ u, (u5.alloc (.cells #[.int .i64 c0.n, .slice x0_a c0.e.length x0_ac] 27)) = u := ⟨_, rfl⟩
  rw [hu60] at b6 Q0 yb6
  have hu6 := Lib.hid hu60
  clear hu60
  go_upto_region 9 with fail
  rw [hu6.out]
  have bc2_6 := (below_wt (below_wt (below_wt b3 b4) b5) b6)
  replace K1 := K1.step bc2_6
  go_wp2_with fail
  refine (to_ints _ x1 _ K1.now hbd1).mono ?_
  rintro e u7 ⟨x1_, rfl, ox1_, b7⟩
  have zb7 := b7.size
  obtain ⟨x1_a, x1_ac, rfl⟩ := ox1_.shape
  have X1 := ox1_
  have bc5_7 := (below_wt b6 b7)
  replace X0 := X0.step bc5_7
  replace Q0 := Q0.step b7
  obtain ⟨pQ00, pQ01⟩ := Q0.two
  go_wp2_with fail
  refine (IsIndependent_impl _ _ c0 x1 _ X0.ch X1.ch).mono ?_
  rintro e u8 ⟨rfl, b8⟩
  clear pQ00 pQ01
  have zb8 := b8.size
  rw [hv0.out, hv1.out]
  have bc4_8 := (below_wt (below_wt (below_wt b5 b6) b7) b8)
  replace K0 := K0.step bc4_8
  replace X0 := X0.step b8
  replace H0 := H0.step bc4_8
  replace Q0 := Q0.step b8
  obtain ⟨pH00, pH01⟩ := H0.two
  obtain ⟨pQ00, pQ01⟩ := Q0.two
  go_wp2_with fail
  have b9 := below_drew u8
  have zb9 := b9.size
  replace H0 := H0.step b9
  replace Q0 := Q0.step b9
  replace K0 := K0.step b9
  replace X0 := X0.step b9
  go_region_held3 (fun w' => w'.cell? ⟨w.heap.size, 0, none⟩ = some (.int .i64 c0.n) ∧ w'.cell? ⟨w.heap.size, 1, none⟩ = some (.slice a0 c0.e.length a0c) ∧ w'.cell? ⟨u5.heap.size, 0, none⟩ = some (.int .i64 c0.n) ∧ w'.cell? ⟨u5.heap.size, 1, none⟩ = some (.slice x0_a c0.e.length x0_ac)) (first | with_reducible exact duo2 H0 Q0 | go_keep) (first | (have _t := toky0; go_at_call 15; (with_reducible refine (eq_gr _ _ c0 _ X0.ch oy0.ch).mono ?_); rintro e u11 ⟨rfl, b11⟩; have zb11 := b11.size; replace H0 := H0.step b11; replace Q0 := Q0.step b11; replace K0 := K0.step b11; replace X0 := X0.step b11; clear pH00 pH01; clear pQ00 pQ01; obtain ⟨pH00, pH01⟩ := H0.two; obtain ⟨pQ00, pQ01⟩ := Q0.two; skip) | (go_at_call 13; (with_reducible refine (to_gr _ c0 _ K0.now hbd0).mono ?_); rintro e u10 ⟨y0, rfl, oy0, b10⟩; have zb10 := b10.size; replace H0 := H0.step b10; replace Q0 := Q0.step b10; replace K0 := K0.step b10; replace X0 := X0.step b10; clear pH00 pH01; clear pQ00 pQ01; obtain ⟨pH00, pH01⟩ := H0.two; obtain ⟨pQ00, pQ01⟩ := Q0.two; obtain ⟨y0a, y0ac, rfl⟩ := oy0.shape; have toky0 : True := trivial))
  clear pH00 pH01
  clear pQ00 pQ01
  have bc6_11 := (below_wt (below_wt (below_wt (below_wt b7 b8) b9) b10) b11)
  replace K1 := K1.step bc6_11
  go_wp2_with fail
  refine (to_ints _ x1 _ K1.now hbd1).mono ?_
  rintro e u12 ⟨y1, rfl, oy1, b12⟩
  have zb12 := b12.size
  obtain ⟨y1a, y1ac, rfl⟩ := oy1.shape
  have Y1 := oy1
  have bc7_12 := (below_wt (below_wt (below_wt (below_wt b8 b9) b10) b11) b12)
  replace X1 := X1.step bc7_12
  go_wp2_with fail
  refine (eq_ints _ _ x1 _ X1.ch Y1.ch).mono ?_
  rintro e u13 ⟨rfl, b13⟩
  have zb13 := b13.size
  go_wp2
  go_ret
  have bc0_13 := (below_wt (below_wt (below_wt (below_wt (below_wt (below_wt (below_wt (below_wt (below_wt (below_wt (below_wt (below_wt b1 b2) b3) b4) b5) b6) b7) b8) b9) b10) b11) b12) b13)
  replace SB := SB.step bc0_13
  exact ⟨rfl, B0.trans (SB.bel.mono B0.size)⟩

theorem walk {w : World} (v0 : Value) (c0 : Gr) (k0 : GrR w v0 c0) (v1 : Value) (x1 : List Int) (k1 : Ints w v1 x1) :
    Calls Try.prog 8 #[v0, v1] w fun e w' => e = .returned (.bool true) ∧ Below w.heap.size w w' := by
  by_cases h0 : (x1.length : Int) ≤ 1048576
  rotate_left
  · exact walk_long0 v0 c0 k0 v1 x1 k1  (by omega)
  by_cases h1 : (((c0.e.length + total c0.e) : Nat) : Int) ≤ (1048576 : Int)
  rotate_left
  · exact walk_long1 v0 c0 k0 v1 x1 k1 h0 (by omega)
  exact walk_ok v0 c0 k0 v1 x1 k1 h0 h1

set_option maxRecDepth 100000 in
theorem lifted (os : Os) (started : os.Started) (H : Type) (enc : TypeId × Value → H) :
    ReturnsInHanded {} Try.checked os 8 .any (Rows.fnExactIsIndependentSpec.pre6 enc Try.prog Try.f8 Rows.fnExactIsIndependentRow.domain false) (Rows.fnExactIsIndependentSpec.post enc Try.prog Try.f8 false true false false) := by
  refine returnsInHanded_of_change (C := Try.checked) own started (by kernel_rfl) Try.func8
    (ChangeSpec.witness6 (enc := enc) (C := Try.checked) false ⟨#[], #[.agg #[.int .i64 0, .slice none 0 0], .slice none 0 0], []⟩ 8 (by kernel_rfl) (by kernel_rfl) (by kernel_rfl) (by kernel_rfl)) ?_
  intro W base args ds gs before hval0 hW hcnd _
  have hval : ∀ (j : Nat) t v, Try.f8.params[j]? = some t → args[j]? = some v → Value.okWide Try.prog W .any base t v := hval0
  have hW' := hW
  obtain ⟨p, q, hA0, hV, rfl, hfz, hnd⟩ := hW
  have hA : DataW.TrodAll enc Try.prog W 0 (fun _ => true) true Try.f8.params.toList args.toList ds p := hA0
  rw [Try.params8] at hA hval
  obtain ⟨v0, vs0, d0, ds0, p0, q0, hargs, rfl, rfl, h0, r0⟩ := trodAll_cons hA
  obtain ⟨v1, vs1, d1, ds1, p1, q1, rfl, rfl, rfl, h1, r1⟩ := trodAll_cons r0
  obtain ⟨rfl, rfl, rfl⟩ := trodAll_nil r1
  obtain rfl : args = #[v0, v1] := by cases args; simp_all
  obtain ⟨rfl, rfl⟩ := trodVars_none hV
  have k0 := h0
  have lt0 : ∀ x ∈ p0, x.block < W.heap.size := by obtain ⟨m, hm⟩ := k0; exact DataW.trod_lt m _ _ _ hm
  obtain ⟨c0, w0⟩ := open_graph (hval 0 24 v0 rfl rfl) h0
  have k1 := h1
  have lt1 : ∀ x ∈ p1, x.block < W.heap.size := by obtain ⟨m, hm⟩ := k1; exact DataW.trod_lt m _ _ _ hm
  obtain ⟨c1, w1⟩ := open_list (hval 1 32 v1 rfl rfl) h1
  clear hA0 hval0
  refine (walk v0 c0 w0 v1 c1 w1).mono fun e W' ⟨he, bel⟩ => ?_
  subst he
  exact ⟨_, rfl, _, _, _, [], _, [], hW', trodAll_mk1 (shut_bool Try.underlying4 _), (trodAll_cons_mk (Below.trod laidOut (by kernel_rfl) (of_decide_eq_true (by kernel_rfl)) k0 bel lt0) (trodAll_cons_mk (Below.trod laidOut (by kernel_rfl) (of_decide_eq_true (by kernel_rfl)) k1 bel lt1) trodAll_mk0)), rfl, bel.frame _, fun h => by cases h⟩

theorem over : Rows.fnExactIsIndependentRow.holds Try.pinned (OpenSpec.ofChange Rows.fnExactIsIndependentSpec) :=
  OpenClaim.holds_of_wide 8 Try.f8 rfl rfl rfl rfl rfl rfl rfl ⟨rfl, rfl, rfl, rfl, rfl⟩ rfl rfl rfl rfl rfl (by kernel_rfl) Try.func8 (by kernel_rfl)
    (of_decide_eq_true (by kernel_rfl)) (by unfold Func.isWrapper; first | (rw [if_pos (by decide +kernel)]; kernel_rfl) | (rw [if_neg (by decide +kernel)]; exact ⟨rfl, rfl⟩))
    (fun os started H enc _ => lifted os started H enc)

/-- the statement -/
theorem proved : Rows.FnExactIsIndependentSaid := over
end Go.Proofs.Ytfbhdlkiffoflaa.fnExactIsIndependent
