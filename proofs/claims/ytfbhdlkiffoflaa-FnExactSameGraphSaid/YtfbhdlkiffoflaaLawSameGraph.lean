/- For every two graphs, the project's SameGraph and the specification's answer alike; both are left as they were.
   Conditions: none beyond the row's own (every input that can be read as data). -/
import Derived.Test.YtfbhdlkiffoflaaKinds
import Derived.Test.YtfbhdlkiffoflaaGrS
import Derived.Test.YtfbhdlkiffoflaaOpen
namespace Go.Proofs.Ytfbhdlkiffoflaa.fnExactSameGraph
open Go.ChangeShapes Go.WideShapes Go.ChangeAt Go.RowKit Go.Deep Go.Joins
open Go.ChangeMaps (open_string shut_string)
set_option linter.unusedVariables false

theorem own : ownKnob Try.prog.godebug = none := by kernel_rfl
theorem laidOut : laidOutB Try.prog = true := by kernel_rfl

set_option maxRecDepth 100000 in
set_option maxHeartbeats 16000000 in
theorem walk_long0 {w : World} (v0 : Value) (c0 : Gr) (k0 : GrR w v0 c0) (v1 : Value) (c1 : Gr) (k1 : GrR w v1 c1)  (hq0 : (1048576 : Int) < (((c0.e.length + total c0.e) : Nat) : Int)) :
    Calls Try.prog 4 #[v0, v1] w fun e w' => e = .returned (.bool true) ∧ Below w.heap.size w w' := by
  obtain ⟨a0, a0c, rfl⟩ := k0.shape
  obtain ⟨a1, a1c, rfl⟩ := k1.shape
  have H0 := ((Blk.new w #[.int .i64 c0.n, .slice a0 c0.e.length a0c] 24).alloc (.cells #[.int .i64 c1.n, .slice a1 c1.e.length a1c] 24))
  have H1 := (Blk.new (w.alloc (.cells #[.int .i64 c0.n, .slice a0 c0.e.length a0c] 24)) #[.int .i64 c1.n, .slice a1 c1.e.length a1c] 24)
  simp only [World.size_alloc] at H1
  have B0 : Below w.heap.size w ((w.alloc (.cells #[.int .i64 c0.n, .slice a0 c0.e.length a0c] 24)).alloc (.cells #[.int .i64 c1.n, .slice a1 c1.e.length a1c] 24)) := below2 w (.cells #[.int .i64 c0.n, .slice a0 c0.e.length a0c] 24) (.cells #[.int .i64 c1.n, .slice a1 c1.e.length a1c] 24)
  have K0 := GrUnder.of (k0.keep B0)
  have K1 := GrUnder.of (k1.keep B0)
  have zu0 : w.heap.size + 2 = ((w.alloc (.cells #[.int .i64 c0.n, .slice a0 c0.e.length a0c] 24)).alloc (.cells #[.int .i64 c1.n, .slice a1 c1.e.length a1c] 24)).heap.size := by simp
  have SB : Since ((w.alloc (.cells #[.int .i64 c0.n, .slice a0 c0.e.length a0c] 24)).alloc (.cells #[.int .i64 c1.n, .slice a1 c1.e.length a1c] 24)).heap.size ((w.alloc (.cells #[.int .i64 c0.n, .slice a0 c0.e.length a0c] 24)).alloc (.cells #[.int .i64 c1.n, .slice a1 c1.e.length a1c] 24)) ((w.alloc (.cells #[.int .i64 c0.n, .slice a0 c0.e.length a0c] 24)).alloc (.cells #[.int .i64 c1.n, .slice a1 c1.e.length a1c] 24)) := ⟨Below.refl _ _, Nat.le_refl _⟩
  obtain ⟨u0, hu0⟩ : ∃ u, ((w.alloc (.cells #[.int .i64 c0.n, .slice a0 c0.e.length a0c] 24)).alloc (.cells #[.int .i64 c1.n, .slice a1 c1.e.length a1c] 24)) = u := ⟨_, rfl⟩
  rw [hu0] at H0 H1 K0 K1 B0 zu0 SB
  have zu0' := Lib.hid zu0
  have hu0' := Lib.hid hu0
  have z0a : 2 + w.heap.size ≤ u0.heap.size := by omega
  clear zu0 hu0
  have hn := szLeft_no (left := 1048576) (n := (c0.e.length + total c0.e)) (by omega)
  have hneg : szLeft 1048576 (c0.e.length + total c0.e) < 0 := by rw [hn]; decide
  clear hn
  go_enter Try.func4, Try.ntmps4
  obtain ⟨pH00, pH01⟩ := H0.two
  go_wp2_with fail
  rw [hu0'.out]
  refine (szGraph_any _ c0 1048576 _ K0.now (by omega) (by omega)).mono ?_
  rintro e u1 ⟨rfl, b1⟩
  clear pH00 pH01
  have zb1 := b1.size
  go_wp2
  go_ret
  replace SB := SB.step b1
  exact ⟨rfl, B0.trans (SB.bel.mono B0.size)⟩

set_option maxRecDepth 100000 in
set_option maxHeartbeats 16000000 in
theorem walk_long1 {w : World} (v0 : Value) (c0 : Gr) (k0 : GrR w v0 c0) (v1 : Value) (c1 : Gr) (k1 : GrR w v1 c1) (hq0 : (((c0.e.length + total c0.e) : Nat) : Int) ≤ (1048576 : Int)) (hq1 : (1048576 : Int) < (((c0.e.length + total c0.e) : Nat) : Int) + (((c1.e.length + total c1.e) : Nat) : Int)) :
    Calls Try.prog 4 #[v0, v1] w fun e w' => e = .returned (.bool true) ∧ Below w.heap.size w w' := by
  obtain ⟨a0, a0c, rfl⟩ := k0.shape
  obtain ⟨a1, a1c, rfl⟩ := k1.shape
  have H0 := ((Blk.new w #[.int .i64 c0.n, .slice a0 c0.e.length a0c] 24).alloc (.cells #[.int .i64 c1.n, .slice a1 c1.e.length a1c] 24))
  have H1 := (Blk.new (w.alloc (.cells #[.int .i64 c0.n, .slice a0 c0.e.length a0c] 24)) #[.int .i64 c1.n, .slice a1 c1.e.length a1c] 24)
  simp only [World.size_alloc] at H1
  have B0 : Below w.heap.size w ((w.alloc (.cells #[.int .i64 c0.n, .slice a0 c0.e.length a0c] 24)).alloc (.cells #[.int .i64 c1.n, .slice a1 c1.e.length a1c] 24)) := below2 w (.cells #[.int .i64 c0.n, .slice a0 c0.e.length a0c] 24) (.cells #[.int .i64 c1.n, .slice a1 c1.e.length a1c] 24)
  have K0 := GrUnder.of (k0.keep B0)
  have K1 := GrUnder.of (k1.keep B0)
  have zu0 : w.heap.size + 2 = ((w.alloc (.cells #[.int .i64 c0.n, .slice a0 c0.e.length a0c] 24)).alloc (.cells #[.int .i64 c1.n, .slice a1 c1.e.length a1c] 24)).heap.size := by simp
  have SB : Since ((w.alloc (.cells #[.int .i64 c0.n, .slice a0 c0.e.length a0c] 24)).alloc (.cells #[.int .i64 c1.n, .slice a1 c1.e.length a1c] 24)).heap.size ((w.alloc (.cells #[.int .i64 c0.n, .slice a0 c0.e.length a0c] 24)).alloc (.cells #[.int .i64 c1.n, .slice a1 c1.e.length a1c] 24)) ((w.alloc (.cells #[.int .i64 c0.n, .slice a0 c0.e.length a0c] 24)).alloc (.cells #[.int .i64 c1.n, .slice a1 c1.e.length a1c] 24)) := ⟨Below.refl _ _, Nat.le_refl _⟩
  obtain ⟨u0, hu0⟩ : ∃ u, ((w.alloc (.cells #[.int .i64 c0.n, .slice a0 c0.e.length a0c] 24)).alloc (.cells #[.int .i64 c1.n, .slice a1 c1.e.length a1c] 24)) = u := ⟨_, rfl⟩
  rw [hu0] at H0 H1 K0 K1 B0 zu0 SB
  have zu0' := Lib.hid zu0
  have hu0' := Lib.hid hu0
  have z0a : 2 + w.heap.size ≤ u0.heap.size := by omega
  clear zu0 hu0
  have hy0 := szLeft_yes (left := 1048576) (n := (c0.e.length + total c0.e)) (by omega)
  have hn := szLeft_no (left := (szLeft 1048576 (c0.e.length + total c0.e))) (n := (c1.e.length + total c1.e)) (by omega)
  have hneg : szLeft (szLeft 1048576 (c0.e.length + total c0.e)) (c1.e.length + total c1.e) < 0 := by rw [hn]; decide
  have g1 : 0 ≤ (szLeft 1048576 (c0.e.length + total c0.e)) := by omega
  have gg1 : (szLeft 1048576 (c0.e.length + total c0.e)) ≤ 1048576 := by omega
  clear hy0 hn
  obtain ⟨L1, hL1⟩ : ∃ l, szLeft 1048576 (c0.e.length + total c0.e) = l := ⟨_, rfl⟩
  rw [hL1] at g1 gg1 hneg
  have hM1 := Lib.hid hL1
  clear hL1
  go_enter Try.func4, Try.ntmps4
  obtain ⟨pH00, pH01⟩ := H0.two
  go_wp2_with fail
  rw [hu0'.out]
  refine (szGraph_any _ c0 1048576 _ K0.now (by omega) (by omega)).mono ?_
  rintro e u1 ⟨rfl, b1⟩
  clear pH00 pH01
  have zb1 := b1.size
  rw [hM1.out]
  replace K1 := K1.step b1
  replace H1 := H1.step b1
  obtain ⟨pH10, pH11⟩ := H1.two
  go_wp2_with fail
  refine (szGraph_any _ c1 L1 _ K1.now (by omega) (by omega)).mono ?_
  rintro e u2 ⟨rfl, b2⟩
  clear pH10 pH11
  have zb2 := b2.size
  go_wp2
  go_ret
  have bc0_2 := (below_wt b1 b2)
  replace SB := SB.step bc0_2
  exact ⟨rfl, B0.trans (SB.bel.mono B0.size)⟩

set_option maxRecDepth 100000 in
set_option maxHeartbeats 16000000 in
theorem walk_ok {w : World} (v0 : Value) (c0 : Gr) (k0 : GrR w v0 c0) (v1 : Value) (c1 : Gr) (k1 : GrR w v1 c1) (hq0 : (((c0.e.length + total c0.e) : Nat) : Int) ≤ (1048576 : Int)) (hq1 : (((c0.e.length + total c0.e) : Nat) : Int) + (((c1.e.length + total c1.e) : Nat) : Int) ≤ (1048576 : Int)) :
    Calls Try.prog 4 #[v0, v1] w fun e w' => e = .returned (.bool true) ∧ Below w.heap.size w w' := by
  obtain ⟨a0, a0c, rfl⟩ := k0.shape
  obtain ⟨a1, a1c, rfl⟩ := k1.shape
  have H0 := ((Blk.new w #[.int .i64 c0.n, .slice a0 c0.e.length a0c] 24).alloc (.cells #[.int .i64 c1.n, .slice a1 c1.e.length a1c] 24))
  have H1 := (Blk.new (w.alloc (.cells #[.int .i64 c0.n, .slice a0 c0.e.length a0c] 24)) #[.int .i64 c1.n, .slice a1 c1.e.length a1c] 24)
  simp only [World.size_alloc] at H1
  have B0 : Below w.heap.size w ((w.alloc (.cells #[.int .i64 c0.n, .slice a0 c0.e.length a0c] 24)).alloc (.cells #[.int .i64 c1.n, .slice a1 c1.e.length a1c] 24)) := below2 w (.cells #[.int .i64 c0.n, .slice a0 c0.e.length a0c] 24) (.cells #[.int .i64 c1.n, .slice a1 c1.e.length a1c] 24)
  have K0 := GrUnder.of (k0.keep B0)
  have K1 := GrUnder.of (k1.keep B0)
  have zu0 : w.heap.size + 2 = ((w.alloc (.cells #[.int .i64 c0.n, .slice a0 c0.e.length a0c] 24)).alloc (.cells #[.int .i64 c1.n, .slice a1 c1.e.length a1c] 24)).heap.size := by simp
  have SB : Since ((w.alloc (.cells #[.int .i64 c0.n, .slice a0 c0.e.length a0c] 24)).alloc (.cells #[.int .i64 c1.n, .slice a1 c1.e.length a1c] 24)).heap.size ((w.alloc (.cells #[.int .i64 c0.n, .slice a0 c0.e.length a0c] 24)).alloc (.cells #[.int .i64 c1.n, .slice a1 c1.e.length a1c] 24)) ((w.alloc (.cells #[.int .i64 c0.n, .slice a0 c0.e.length a0c] 24)).alloc (.cells #[.int .i64 c1.n, .slice a1 c1.e.length a1c] 24)) := ⟨Below.refl _ _, Nat.le_refl _⟩
  obtain ⟨u0, hu0⟩ : ∃ u, ((w.alloc (.cells #[.int .i64 c0.n, .slice a0 c0.e.length a0c] 24)).alloc (.cells #[.int .i64 c1.n, .slice a1 c1.e.length a1c] 24)) = u := ⟨_, rfl⟩
  rw [hu0] at H0 H1 K0 K1 B0 zu0 SB
  have zu0' := Lib.hid zu0
  have hu0' := Lib.hid hu0
  have z0a : 2 + w.heap.size ≤ u0.heap.size := by omega
  clear zu0 hu0
  have hy0 := szLeft_yes (left := 1048576) (n := (c0.e.length + total c0.e)) (by omega)
  have hy1 := szLeft_yes (left := (szLeft 1048576 (c0.e.length + total c0.e))) (n := (c1.e.length + total c1.e)) (by omega)
  have g1 : 0 ≤ (szLeft 1048576 (c0.e.length + total c0.e)) := by omega
  have gg1 : (szLeft 1048576 (c0.e.length + total c0.e)) ≤ 1048576 := by omega
  have g2 : 0 ≤ (szLeft (szLeft 1048576 (c0.e.length + total c0.e)) (c1.e.length + total c1.e)) := by omega
  have gg2 : (szLeft (szLeft 1048576 (c0.e.length + total c0.e)) (c1.e.length + total c1.e)) ≤ 1048576 := by omega
  clear hy0 hy1
  obtain ⟨L1, hL1⟩ : ∃ l, szLeft 1048576 (c0.e.length + total c0.e) = l := ⟨_, rfl⟩
  rw [hL1] at g1 gg1 g2 gg2
  have hM1 := Lib.hid hL1
  clear hL1
  obtain ⟨L2, hL2⟩ : ∃ l, szLeft L1 (c1.e.length + total c1.e) = l := ⟨_, rfl⟩
  rw [hL2] at g2 gg2
  have hM2 := Lib.hid hL2
  clear hL2
  have hbd0 : (c0.e.length + total c0.e) ≤ 2097152 := by omega
  have hti0 : ((total c0.e : Nat) : Int) ≤ 2097152 := by omega
  have hbd1 : (c1.e.length + total c1.e) ≤ 2097152 := by omega
  have hti1 : ((total c1.e : Nat) : Int) ≤ 2097152 := by omega
  obtain ⟨r0, hr0⟩ : ∃ r, grEq c0 c1 = r := ⟨_, rfl⟩
  have hv0 := Lib.hid hr0
  clear hr0
  go_enter Try.func4, Try.ntmps4
  obtain ⟨pH00, pH01⟩ := H0.two
  go_wp2_with fail
  rw [hu0'.out]
  refine (szGraph_any _ c0 1048576 _ K0.now (by omega) (by omega)).mono ?_
  rintro e u1 ⟨rfl, b1⟩
  clear pH00 pH01
  have zb1 := b1.size
  rw [hM1.out]
  replace K1 := K1.step b1
  replace H1 := H1.step b1
  obtain ⟨pH10, pH11⟩ := H1.two
  go_wp2_with fail
  refine (szGraph_any _ c1 L1 _ K1.now (by omega) (by omega)).mono ?_
  rintro e u2 ⟨rfl, b2⟩
  clear pH10 pH11
  have zb2 := b2.size
  rw [hM2.out]
  have bc0_2 := (below_wt b1 b2)
  replace H0 := H0.step bc0_2
  replace H1 := H1.step b2
  replace K0 := K0.step bc0_2
  replace K1 := K1.step b2
  go_upto_region 8 with fail
  have b3 := below_drew u2
  have zb3 := b3.size
  replace H0 := H0.step b3
  replace H1 := H1.step b3
  replace K0 := K0.step b3
  replace K1 := K1.step b3
  obtain ⟨pH00, pH01⟩ := H0.two
  obtain ⟨pH10, pH11⟩ := H1.two
  go_region_held3 (fun w' => w'.cell? ⟨w.heap.size, 0, none⟩ = some (.int .i64 c0.n) ∧ w'.cell? ⟨w.heap.size, 1, none⟩ = some (.slice a0 c0.e.length a0c) ∧ w'.cell? ⟨w.heap.size + 1, 0, none⟩ = some (.int .i64 c1.n) ∧ w'.cell? ⟨w.heap.size + 1, 1, none⟩ = some (.slice a1 c1.e.length a1c)) (first | with_reducible exact duo2 H0 H1 | go_keep) (first | (have _t := toks2; go_at_call 16; (with_reducible refine (SameGraph_spec _ _ c0 c1 _ S0.ch S1.ch).mono ?_); rintro e u6 ⟨rfl, b6⟩; rw [hv0.out]; have zb6 := b6.size; replace H0 := H0.step b6; replace H1 := H1.step b6; replace K0 := K0.step b6; replace K1 := K1.step b6; replace S0 := S0.step b6; replace S1 := S1.step b6; (try clear pH00 pH01); (try clear pH10 pH11); obtain ⟨pH00, pH01⟩ := H0.two; obtain ⟨pH10, pH11⟩ := H1.two; have toks3 : True := trivial; clear toks2) | (have _t := toks1; go_at_call 13; (with_reducible refine (to_gr _ c1 _ K1.now hbd1).mono ?_); rintro e u5 ⟨s1, rfl, os1, b5⟩; obtain ⟨s1a, s1ac, rfl⟩ := os1.shape; have S1 := os1; have zb5 := b5.size; replace H0 := H0.step b5; replace H1 := H1.step b5; replace K0 := K0.step b5; replace K1 := K1.step b5; replace S0 := S0.step b5; (try clear pH00 pH01); (try clear pH10 pH11); obtain ⟨pH00, pH01⟩ := H0.two; obtain ⟨pH10, pH11⟩ := H1.two; have toks2 : True := trivial; clear toks1) | (go_at_call 13; (with_reducible refine (to_gr _ c0 _ K0.now hbd0).mono ?_); rintro e u4 ⟨s0, rfl, os0, b4⟩; obtain ⟨s0a, s0ac, rfl⟩ := os0.shape; have S0 := os0; have zb4 := b4.size; replace H0 := H0.step b4; replace H1 := H1.step b4; replace K0 := K0.step b4; replace K1 := K1.step b4; (try clear pH00 pH01); (try clear pH10 pH11); obtain ⟨pH00, pH01⟩ := H0.two; obtain ⟨pH10, pH11⟩ := H1.two; have toks1 : True := trivial))
  clear pH00 pH01
  clear pH10 pH11
  obtain ⟨pH00, pH01⟩ := H0.two
  go_wp2_with fail
  refine (to_gr _ c0 _ K0.now hbd0).mono ?_
  rintro e u7 ⟨x0_, rfl, ox0_, b7⟩
  clear pH00 pH01
  have zb7 := b7.size
  obtain ⟨x0_a, x0_ac, rfl⟩ := ox0_.shape
  have X0 := ox0_
  have b8 := below1 u7 (.cells #[.int .i64 c0.n, .slice x0_a c0.e.length x0_ac] 27)
  have Q0 := Blk.new u7 #[.int .i64 c0.n, .slice x0_a c0.e.length x0_ac] 27
  have yb8 : u7.heap.size < (u7.alloc (.cells #[.int .i64 c0.n, .slice x0_a c0.e.length x0_ac] 27)).heap.size := by simp
  obtain ⟨u8, hu80⟩ : ∃ u, (u7.alloc (.cells #[.int .i64 c0.n, .slice x0_a c0.e.length x0_ac] 27)) = u := ⟨_, rfl⟩
  rw [hu80] at b8 Q0 yb8
  have hu8 := Lib.hid hu80
  clear hu80
  go_upto_region 10 with fail
  rw [hu8.out]
  have bc6_8 := (below_wt b7 b8)
  replace K1 := K1.step bc6_8
  replace H1 := H1.step bc6_8
  obtain ⟨pH10, pH11⟩ := H1.two
  go_wp2_with fail
  refine (to_gr _ c1 _ K1.now hbd1).mono ?_
  rintro e u9 ⟨x1_, rfl, ox1_, b9⟩
  clear pH10 pH11
  have zb9 := b9.size
  obtain ⟨x1_a, x1_ac, rfl⟩ := ox1_.shape
  have X1 := ox1_
  have b10 := below1 u9 (.cells #[.int .i64 c1.n, .slice x1_a c1.e.length x1_ac] 27)
  have Q1 := Blk.new u9 #[.int .i64 c1.n, .slice x1_a c1.e.length x1_ac] 27
  have yb10 : u9.heap.size < (u9.alloc (.cells #[.int .i64 c1.n, .slice x1_a c1.e.length x1_ac] 27)).heap.size := by simp
  obtain ⟨u10, hu100⟩ : ∃ u, (u9.alloc (.cells #[.int .i64 c1.n, .slice x1_a c1.e.length x1_ac] 27)) = u := ⟨_, rfl⟩
  rw [hu100] at b10 Q1 yb10
  have hu10 := Lib.hid hu100
  clear hu100
  go_upto_region 11 with fail
  rw [hu10.out]
  have bc7_10 := (below_wt (below_wt b8 b9) b10)
  replace X0 := X0.step bc7_10
  replace X1 := X1.step b10
  have bc8_10 := (below_wt b9 b10)
  replace Q0 := Q0.step bc8_10
  obtain ⟨pQ00, pQ01⟩ := Q0.two
  obtain ⟨pQ10, pQ11⟩ := Q1.two
  go_wp2_with fail
  refine (SameGraph_impl _ _ c0 c1 _ X0.ch X1.ch).mono ?_
  rintro e u11 ⟨rfl, b11⟩
  clear pQ00 pQ01
  clear pQ10 pQ11
  have zb11 := b11.size
  rw [hv0.out]
  have bc6_11 := (below_wt (below_wt (below_wt (below_wt b7 b8) b9) b10) b11)
  replace K0 := K0.step bc6_11
  replace X0 := X0.step b11
  replace H0 := H0.step bc6_11
  replace Q0 := Q0.step b11
  obtain ⟨pH00, pH01⟩ := H0.two
  obtain ⟨pQ00, pQ01⟩ := Q0.two
  go_wp2_with fail
  have b12 := below_drew u11
  have zb12 := b12.size
  replace H0 := H0.step b12
  replace Q0 := Q0.step b12
  replace K0 := K0.step b12
  replace X0 := X0.step b12
  go_region_held3 (fun w' => w'.cell? ⟨w.heap.size, 0, none⟩ = some (.int .i64 c0.n) ∧ w'.cell? ⟨w.heap.size, 1, none⟩ = some (.slice a0 c0.e.length a0c) ∧ w'.cell? ⟨u7.heap.size, 0, none⟩ = some (.int .i64 c0.n) ∧ w'.cell? ⟨u7.heap.size, 1, none⟩ = some (.slice x0_a c0.e.length x0_ac)) (first | with_reducible exact duo2 H0 Q0 | go_keep) (first | (have _t := toky0; go_at_call 15; (with_reducible refine (eq_gr _ _ c0 _ X0.ch oy0.ch).mono ?_); rintro e u14 ⟨rfl, b14⟩; have zb14 := b14.size; replace H0 := H0.step b14; replace Q0 := Q0.step b14; replace K0 := K0.step b14; replace X0 := X0.step b14; clear pH00 pH01; clear pQ00 pQ01; obtain ⟨pH00, pH01⟩ := H0.two; obtain ⟨pQ00, pQ01⟩ := Q0.two; skip) | (go_at_call 13; (with_reducible refine (to_gr _ c0 _ K0.now hbd0).mono ?_); rintro e u13 ⟨y0, rfl, oy0, b13⟩; have zb13 := b13.size; replace H0 := H0.step b13; replace Q0 := Q0.step b13; replace K0 := K0.step b13; replace X0 := X0.step b13; clear pH00 pH01; clear pQ00 pQ01; obtain ⟨pH00, pH01⟩ := H0.two; obtain ⟨pQ00, pQ01⟩ := Q0.two; obtain ⟨y0a, y0ac, rfl⟩ := oy0.shape; have toky0 : True := trivial))
  clear pH00 pH01
  clear pQ00 pQ01
  have bc8_14 := (below_wt (below_wt (below_wt (below_wt (below_wt b9 b10) b11) b12) b13) b14)
  replace K1 := K1.step bc8_14
  have bc10_14 := (below_wt (below_wt (below_wt b11 b12) b13) b14)
  replace X1 := X1.step bc10_14
  replace H1 := H1.step bc8_14
  replace Q1 := Q1.step bc10_14
  obtain ⟨pH10, pH11⟩ := H1.two
  obtain ⟨pQ10, pQ11⟩ := Q1.two
  go_wp2_with fail
  have b15 := below_drew u14
  have zb15 := b15.size
  replace H1 := H1.step b15
  replace Q1 := Q1.step b15
  replace K1 := K1.step b15
  replace X1 := X1.step b15
  go_region_held3 (fun w' => w'.cell? ⟨w.heap.size + 1, 0, none⟩ = some (.int .i64 c1.n) ∧ w'.cell? ⟨w.heap.size + 1, 1, none⟩ = some (.slice a1 c1.e.length a1c) ∧ w'.cell? ⟨u9.heap.size, 0, none⟩ = some (.int .i64 c1.n) ∧ w'.cell? ⟨u9.heap.size, 1, none⟩ = some (.slice x1_a c1.e.length x1_ac)) (first | with_reducible exact duo2 H1 Q1 | go_keep) (first | (have _t := toky1; go_at_call 15; (with_reducible refine (eq_gr _ _ c1 _ X1.ch oy1.ch).mono ?_); rintro e u17 ⟨rfl, b17⟩; have zb17 := b17.size; replace H1 := H1.step b17; replace Q1 := Q1.step b17; replace K1 := K1.step b17; replace X1 := X1.step b17; clear pH10 pH11; clear pQ10 pQ11; obtain ⟨pH10, pH11⟩ := H1.two; obtain ⟨pQ10, pQ11⟩ := Q1.two; skip) | (go_at_call 13; (with_reducible refine (to_gr _ c1 _ K1.now hbd1).mono ?_); rintro e u16 ⟨y1, rfl, oy1, b16⟩; have zb16 := b16.size; replace H1 := H1.step b16; replace Q1 := Q1.step b16; replace K1 := K1.step b16; replace X1 := X1.step b16; clear pH10 pH11; clear pQ10 pQ11; obtain ⟨pH10, pH11⟩ := H1.two; obtain ⟨pQ10, pQ11⟩ := Q1.two; obtain ⟨y1a, y1ac, rfl⟩ := oy1.shape; have toky1 : True := trivial))
  clear pH10 pH11
  clear pQ10 pQ11
  go_wp2
  go_ret
  have bc0_17 := (below_wt (below_wt (below_wt (below_wt (below_wt (below_wt (below_wt (below_wt (below_wt (below_wt (below_wt (below_wt (below_wt (below_wt (below_wt (below_wt b1 b2) b3) b4) b5) b6) b7) b8) b9) b10) b11) b12) b13) b14) b15) b16) b17)
  replace SB := SB.step bc0_17
  exact ⟨rfl, B0.trans (SB.bel.mono B0.size)⟩

theorem walk {w : World} (v0 : Value) (c0 : Gr) (k0 : GrR w v0 c0) (v1 : Value) (c1 : Gr) (k1 : GrR w v1 c1) :
    Calls Try.prog 4 #[v0, v1] w fun e w' => e = .returned (.bool true) ∧ Below w.heap.size w w' := by
  by_cases h0 : (((c0.e.length + total c0.e) : Nat) : Int) ≤ (1048576 : Int)
  rotate_left
  · exact walk_long0 v0 c0 k0 v1 c1 k1  (by omega)
  by_cases h1 : (((c0.e.length + total c0.e) : Nat) : Int) + (((c1.e.length + total c1.e) : Nat) : Int) ≤ (1048576 : Int)
  rotate_left
  · exact walk_long1 v0 c0 k0 v1 c1 k1 h0 (by omega)
  exact walk_ok v0 c0 k0 v1 c1 k1 h0 h1

set_option maxRecDepth 100000 in
theorem lifted (os : Os) (started : os.Started) (H : Type) (enc : TypeId × Value → H) :
    ReturnsInHanded {} Try.checked os 4 .any (Rows.fnExactSameGraphSpec.pre6 enc Try.prog Try.f4 Rows.fnExactSameGraphRow.domain false) (Rows.fnExactSameGraphSpec.post enc Try.prog Try.f4 false true false false) := by
  refine returnsInHanded_of_change (C := Try.checked) own started (by kernel_rfl) Try.func4
    (ChangeSpec.witness6 (enc := enc) (C := Try.checked) false ⟨#[], #[.agg #[.int .i64 0, .slice none 0 0], .agg #[.int .i64 0, .slice none 0 0]], []⟩ 8 (by kernel_rfl) (by kernel_rfl) (by kernel_rfl) (by kernel_rfl)) ?_
  intro W base args ds gs before hval0 hW hcnd _
  have hval : ∀ (j : Nat) t v, Try.f4.params[j]? = some t → args[j]? = some v → Value.okWide Try.prog W .any base t v := hval0
  have hW' := hW
  obtain ⟨p, q, hA0, hV, rfl, hfz, hnd⟩ := hW
  have hA : DataW.TrodAll enc Try.prog W 0 (fun _ => true) true Try.f4.params.toList args.toList ds p := hA0
  rw [Try.params4] at hA hval
  obtain ⟨v0, vs0, d0, ds0, p0, q0, hargs, rfl, rfl, h0, r0⟩ := trodAll_cons hA
  obtain ⟨v1, vs1, d1, ds1, p1, q1, rfl, rfl, rfl, h1, r1⟩ := trodAll_cons r0
  obtain ⟨rfl, rfl, rfl⟩ := trodAll_nil r1
  obtain rfl : args = #[v0, v1] := by cases args; simp_all
  obtain ⟨rfl, rfl⟩ := trodVars_none hV
  have k0 := h0
  have lt0 : ∀ x ∈ p0, x.block < W.heap.size := by obtain ⟨m, hm⟩ := k0; exact DataW.trod_lt m _ _ _ hm
  obtain ⟨c0, w0⟩ := open_graph (hval 0 24 v0 rfl rfl) h0
  have k1 := h1
  have lt1 : ∀ x ∈ p1, x.block < W.heap.size := by obtain ⟨m, hm⟩ := k1; exact DataW.trod_lt m _ _ _ hm
  obtain ⟨c1, w1⟩ := open_graph (hval 1 24 v1 rfl rfl) h1
  clear hA0 hval0
  refine (walk v0 c0 w0 v1 c1 w1).mono fun e W' ⟨he, bel⟩ => ?_
  subst he
  exact ⟨_, rfl, _, _, _, [], _, [], hW', trodAll_mk1 (shut_bool Try.underlying4 _), (trodAll_cons_mk (Below.trod laidOut (by kernel_rfl) (of_decide_eq_true (by kernel_rfl)) k0 bel lt0) (trodAll_cons_mk (Below.trod laidOut (by kernel_rfl) (of_decide_eq_true (by kernel_rfl)) k1 bel lt1) trodAll_mk0)), rfl, bel.frame _, fun h => by cases h⟩

theorem over : Rows.fnExactSameGraphRow.holds Try.pinned (OpenSpec.ofChange Rows.fnExactSameGraphSpec) :=
  OpenClaim.holds_of_wide 4 Try.f4 rfl rfl rfl rfl rfl rfl rfl ⟨rfl, rfl, rfl, rfl, rfl⟩ rfl rfl rfl rfl rfl (by kernel_rfl) Try.func4 (by kernel_rfl)
    (of_decide_eq_true (by kernel_rfl)) (by unfold Func.isWrapper; first | (rw [if_pos (by decide +kernel)]; kernel_rfl) | (rw [if_neg (by decide +kernel)]; exact ⟨rfl, rfl⟩))
    (fun os started H enc _ => lifted os started H enc)

/-- the statement -/
theorem proved : Rows.FnExactSameGraphSaid := over
end Go.Proofs.Ytfbhdlkiffoflaa.fnExactSameGraph
