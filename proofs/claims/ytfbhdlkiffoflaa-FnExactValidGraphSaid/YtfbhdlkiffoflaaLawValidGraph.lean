/- For every graph, the project's ValidGraph and the specification's answer alike; it is left as it was.
   Conditions: none beyond the row's own (every input that can be read as data). -/
import Derived.Test.YtfbhdlkiffoflaaKinds
import Derived.Test.YtfbhdlkiffoflaaGrV
import Derived.Test.YtfbhdlkiffoflaaOpen
namespace Go.Proofs.Ytfbhdlkiffoflaa.fnExactValidGraph
open Go.ChangeShapes Go.WideShapes Go.ChangeAt Go.RowKit Go.Deep Go.Joins
open Go.ChangeMaps (open_string shut_string)
set_option linter.unusedVariables false

theorem own : ownKnob Try.prog.godebug = none := by kernel_rfl
theorem laidOut : laidOutB Try.prog = true := by kernel_rfl

set_option maxRecDepth 100000 in
set_option maxHeartbeats 16000000 in
theorem walk_long0 {w : World} (v0 : Value) (c0 : Gr) (k0 : GrR w v0 c0)  (hq0 : (1048576 : Int) < (((c0.e.length + total c0.e) : Nat) : Int)) :
    Calls Try.prog 3 #[v0] w fun e w' => e = .returned (.bool true) ∧ Below w.heap.size w w' := by
  obtain ⟨a0, a0c, rfl⟩ := k0.shape
  have H0 := (Blk.new w #[.int .i64 c0.n, .slice a0 c0.e.length a0c] 24)
  have B0 : Below w.heap.size w (w.alloc (.cells #[.int .i64 c0.n, .slice a0 c0.e.length a0c] 24)) := below1 w (.cells #[.int .i64 c0.n, .slice a0 c0.e.length a0c] 24)
  have K0 := GrUnder.of (k0.keep B0)
  have zu0 : w.heap.size + 1 = (w.alloc (.cells #[.int .i64 c0.n, .slice a0 c0.e.length a0c] 24)).heap.size := by simp
  have SB : Since (w.alloc (.cells #[.int .i64 c0.n, .slice a0 c0.e.length a0c] 24)).heap.size (w.alloc (.cells #[.int .i64 c0.n, .slice a0 c0.e.length a0c] 24)) (w.alloc (.cells #[.int .i64 c0.n, .slice a0 c0.e.length a0c] 24)) := ⟨Below.refl _ _, Nat.le_refl _⟩
  obtain ⟨u0, hu0⟩ : ∃ u, (w.alloc (.cells #[.int .i64 c0.n, .slice a0 c0.e.length a0c] 24)) = u := ⟨_, rfl⟩
  rw [hu0] at H0 K0 B0 zu0 SB
  have zu0' := Lib.hid zu0
  have hu0' := Lib.hid hu0
  have z0a : 1 + w.heap.size ≤ u0.heap.size := by omega
  clear zu0 hu0
  have hn := szLeft_no (left := 1048576) (n := (c0.e.length + total c0.e)) (by omega)
  have hneg : szLeft 1048576 (c0.e.length + total c0.e) < 0 := by rw [hn]; decide
  clear hn
  go_enter Try.func3, Try.ntmps3
  obtain ⟨pH00, pH01⟩ := H0.two
  go_wp2_with fail
  rw [hu0'.out]
  refine (szGraph_any _ c0 1048576 _ K0.now (by omega) (by omega)).mono ?_
  rintro e u1 ⟨rfl, b1⟩
  clear pH00 pH01
  have zb1 := b1.size
  go_wp2
  go_ret
  replace SB := SB.step b1
  exact ⟨rfl, B0.trans (SB.bel.mono B0.size)⟩

set_option maxRecDepth 100000 in
set_option maxHeartbeats 16000000 in
theorem walk_ok {w : World} (v0 : Value) (c0 : Gr) (k0 : GrR w v0 c0) (hq0 : (((c0.e.length + total c0.e) : Nat) : Int) ≤ (1048576 : Int)) :
    Calls Try.prog 3 #[v0] w fun e w' => e = .returned (.bool true) ∧ Below w.heap.size w w' := by
  obtain ⟨a0, a0c, rfl⟩ := k0.shape
  have H0 := (Blk.new w #[.int .i64 c0.n, .slice a0 c0.e.length a0c] 24)
  have B0 : Below w.heap.size w (w.alloc (.cells #[.int .i64 c0.n, .slice a0 c0.e.length a0c] 24)) := below1 w (.cells #[.int .i64 c0.n, .slice a0 c0.e.length a0c] 24)
  have K0 := GrUnder.of (k0.keep B0)
  have zu0 : w.heap.size + 1 = (w.alloc (.cells #[.int .i64 c0.n, .slice a0 c0.e.length a0c] 24)).heap.size := by simp
  have SB : Since (w.alloc (.cells #[.int .i64 c0.n, .slice a0 c0.e.length a0c] 24)).heap.size (w.alloc (.cells #[.int .i64 c0.n, .slice a0 c0.e.length a0c] 24)) (w.alloc (.cells #[.int .i64 c0.n, .slice a0 c0.e.length a0c] 24)) := ⟨Below.refl _ _, Nat.le_refl _⟩
  obtain ⟨u0, hu0⟩ : ∃ u, (w.alloc (.cells #[.int .i64 c0.n, .slice a0 c0.e.length a0c] 24)) = u := ⟨_, rfl⟩
  rw [hu0] at H0 K0 B0 zu0 SB
  have zu0' := Lib.hid zu0
  have hu0' := Lib.hid hu0
  have z0a : 1 + w.heap.size ≤ u0.heap.size := by omega
  clear zu0 hu0
  have hy0 := szLeft_yes (left := 1048576) (n := (c0.e.length + total c0.e)) (by omega)
  have g1 : 0 ≤ (szLeft 1048576 (c0.e.length + total c0.e)) := by omega
  have gg1 : (szLeft 1048576 (c0.e.length + total c0.e)) ≤ 1048576 := by omega
  clear hy0
  obtain ⟨L1, hL1⟩ : ∃ l, szLeft 1048576 (c0.e.length + total c0.e) = l := ⟨_, rfl⟩
  rw [hL1] at g1 gg1
  have hM1 := Lib.hid hL1
  clear hL1
  have hbd0 : (c0.e.length + total c0.e) ≤ 2097152 := by omega
  have hti0 : ((total c0.e : Nat) : Int) ≤ 2097152 := by omega
  obtain ⟨r0, hr0⟩ : ∃ r, grOk c0 = r := ⟨_, rfl⟩
  have hv0 := Lib.hid hr0
  clear hr0
  go_enter Try.func3, Try.ntmps3
  obtain ⟨pH00, pH01⟩ := H0.two
  go_wp2_with fail
  rw [hu0'.out]
  refine (szGraph_any _ c0 1048576 _ K0.now (by omega) (by omega)).mono ?_
  rintro e u1 ⟨rfl, b1⟩
  clear pH00 pH01
  have zb1 := b1.size
  rw [hM1.out]
  replace K0 := K0.step b1
  replace H0 := H0.step b1
  obtain ⟨pH00, pH01⟩ := H0.two
  go_wp2_with fail
  refine (to_gr _ c0 _ K0.now hbd0).mono ?_
  rintro e u2 ⟨s0, rfl, os0, b2⟩
  clear pH00 pH01
  have zb2 := b2.size
  obtain ⟨s0a, s0ac, rfl⟩ := os0.shape
  have S0 := os0
  go_wp2_with fail
  refine (ValidGraph_spec _ c0 _ S0.ch).mono ?_
  rintro e u3 ⟨rfl, b3⟩
  have zb3 := b3.size
  rw [hv0.out]
  have bc1_3 := (below_wt b2 b3)
  replace K0 := K0.step bc1_3
  replace H0 := H0.step bc1_3
  obtain ⟨pH00, pH01⟩ := H0.two
  go_wp2_with fail
  refine (to_gr _ c0 _ K0.now hbd0).mono ?_
  rintro e u4 ⟨x0_, rfl, ox0_, b4⟩
  clear pH00 pH01
  have zb4 := b4.size
  obtain ⟨x0_a, x0_ac, rfl⟩ := ox0_.shape
  have X0 := ox0_
  have b5 := below1 u4 (.cells #[.int .i64 c0.n, .slice x0_a c0.e.length x0_ac] 27)
  have Q0 := Blk.new u4 #[.int .i64 c0.n, .slice x0_a c0.e.length x0_ac] 27
  have yb5 : u4.heap.size < (u4.alloc (.cells #[.int .i64 c0.n, .slice x0_a c0.e.length x0_ac] 27)).heap.size := by simp
  obtain ⟨u5, hu50⟩ : ∃ u, (u4.alloc (.cells #[.int .i64 c0.n, .slice x0_a c0.e.length x0_ac] 27)) = u := ⟨_, rfl⟩
  rw [hu50] at b5 Q0 yb5
  have hu5 := Lib.hid hu50
  clear hu50
  go_upto_region 7 with fail
  rw [hu5.out]
  replace X0 := X0.step b5
  obtain ⟨pQ00, pQ01⟩ := Q0.two
  go_wp2_with fail
  refine (ValidGraph_impl _ c0 _ X0.ch).mono ?_
  rintro e u6 ⟨rfl, b6⟩
  clear pQ00 pQ01
  have zb6 := b6.size
  rw [hv0.out]
  have bc3_6 := (below_wt (below_wt b4 b5) b6)
  replace K0 := K0.step bc3_6
  replace X0 := X0.step b6
  replace H0 := H0.step bc3_6
  replace Q0 := Q0.step b6
  obtain ⟨pH00, pH01⟩ := H0.two
  obtain ⟨pQ00, pQ01⟩ := Q0.two
  go_wp2_with fail
  have b7 := below_drew u6
  have zb7 := b7.size
  replace H0 := H0.step b7
  replace Q0 := Q0.step b7
  replace K0 := K0.step b7
  replace X0 := X0.step b7
  go_region_held3 (fun w' => w'.cell? ⟨w.heap.size, 0, none⟩ = some (.int .i64 c0.n) ∧ w'.cell? ⟨w.heap.size, 1, none⟩ = some (.slice a0 c0.e.length a0c) ∧ w'.cell? ⟨u4.heap.size, 0, none⟩ = some (.int .i64 c0.n) ∧ w'.cell? ⟨u4.heap.size, 1, none⟩ = some (.slice x0_a c0.e.length x0_ac)) (first | with_reducible exact duo2 H0 Q0 | go_keep) (first | (have _t := toky0; go_at_call 15; (with_reducible refine (eq_gr _ _ c0 _ X0.ch oy0.ch).mono ?_); rintro e u9 ⟨rfl, b9⟩; have zb9 := b9.size; replace H0 := H0.step b9; replace Q0 := Q0.step b9; replace K0 := K0.step b9; replace X0 := X0.step b9; clear pH00 pH01; clear pQ00 pQ01; obtain ⟨pH00, pH01⟩ := H0.two; obtain ⟨pQ00, pQ01⟩ := Q0.two; skip) | (go_at_call 13; (with_reducible refine (to_gr _ c0 _ K0.now hbd0).mono ?_); rintro e u8 ⟨y0, rfl, oy0, b8⟩; have zb8 := b8.size; replace H0 := H0.step b8; replace Q0 := Q0.step b8; replace K0 := K0.step b8; replace X0 := X0.step b8; clear pH00 pH01; clear pQ00 pQ01; obtain ⟨pH00, pH01⟩ := H0.two; obtain ⟨pQ00, pQ01⟩ := Q0.two; obtain ⟨y0a, y0ac, rfl⟩ := oy0.shape; have toky0 : True := trivial))
  clear pH00 pH01
  clear pQ00 pQ01
  go_wp2
  go_ret
  have bc0_9 := (below_wt (below_wt (below_wt (below_wt (below_wt (below_wt (below_wt (below_wt b1 b2) b3) b4) b5) b6) b7) b8) b9)
  replace SB := SB.step bc0_9
  exact ⟨rfl, B0.trans (SB.bel.mono B0.size)⟩

theorem walk {w : World} (v0 : Value) (c0 : Gr) (k0 : GrR w v0 c0) :
    Calls Try.prog 3 #[v0] w fun e w' => e = .returned (.bool true) ∧ Below w.heap.size w w' := by
  by_cases h0 : (((c0.e.length + total c0.e) : Nat) : Int) ≤ (1048576 : Int)
  rotate_left
  · exact walk_long0 v0 c0 k0  (by omega)
  exact walk_ok v0 c0 k0 h0

set_option maxRecDepth 100000 in
theorem lifted (os : Os) (started : os.Started) (H : Type) (enc : TypeId × Value → H) :
    ReturnsInHanded {} Try.checked os 3 .any (Rows.fnExactValidGraphSpec.pre6 enc Try.prog Try.f3 Rows.fnExactValidGraphRow.domain false) (Rows.fnExactValidGraphSpec.post enc Try.prog Try.f3 false true false false) := by
  refine returnsInHanded_of_change (C := Try.checked) own started (by kernel_rfl) Try.func3
    (ChangeSpec.witness6 (enc := enc) (C := Try.checked) false ⟨#[], #[.agg #[.int .i64 0, .slice none 0 0]], []⟩ 8 (by kernel_rfl) (by kernel_rfl) (by kernel_rfl) (by kernel_rfl)) ?_
  intro W base args ds gs before hval0 hW hcnd _
  have hval : ∀ (j : Nat) t v, Try.f3.params[j]? = some t → args[j]? = some v → Value.okWide Try.prog W .any base t v := hval0
  have hW' := hW
  obtain ⟨p, q, hA0, hV, rfl, hfz, hnd⟩ := hW
  have hA : DataW.TrodAll enc Try.prog W 0 (fun _ => true) true Try.f3.params.toList args.toList ds p := hA0
  rw [Try.params3] at hA hval
  obtain ⟨v0, vs0, d0, ds0, p0, q0, hargs, rfl, rfl, h0, r0⟩ := trodAll_cons hA
  obtain ⟨rfl, rfl, rfl⟩ := trodAll_nil r0
  obtain rfl : args = #[v0] := by cases args; simp_all
  obtain ⟨rfl, rfl⟩ := trodVars_none hV
  have k0 := h0
  have lt0 : ∀ x ∈ p0, x.block < W.heap.size := by obtain ⟨m, hm⟩ := k0; exact DataW.trod_lt m _ _ _ hm
  obtain ⟨c0, w0⟩ := open_graph (hval 0 24 v0 rfl rfl) h0
  clear hA0 hval0
  refine (walk v0 c0 w0).mono fun e W' ⟨he, bel⟩ => ?_
  subst he
  exact ⟨_, rfl, _, _, _, [], _, [], hW', trodAll_mk1 (shut_bool Try.underlying4 _), (trodAll_cons_mk (Below.trod laidOut (by kernel_rfl) (of_decide_eq_true (by kernel_rfl)) k0 bel lt0) trodAll_mk0), rfl, bel.frame _, fun h => by cases h⟩

theorem over : Rows.fnExactValidGraphRow.holds Try.pinned (OpenSpec.ofChange Rows.fnExactValidGraphSpec) :=
  OpenClaim.holds_of_wide 3 Try.f3 rfl rfl rfl rfl rfl rfl rfl ⟨rfl, rfl, rfl, rfl, rfl⟩ rfl rfl rfl rfl rfl (by kernel_rfl) Try.func3 (by kernel_rfl)
    (of_decide_eq_true (by kernel_rfl)) (by unfold Func.isWrapper; first | (rw [if_pos (by decide +kernel)]; kernel_rfl) | (rw [if_neg (by decide +kernel)]; exact ⟨rfl, rfl⟩))
    (fun os started H enc _ => lifted os started H enc)

/-- the statement -/
theorem proved : Rows.FnExactValidGraphSaid := over
end Go.Proofs.Ytfbhdlkiffoflaa.fnExactValidGraph
