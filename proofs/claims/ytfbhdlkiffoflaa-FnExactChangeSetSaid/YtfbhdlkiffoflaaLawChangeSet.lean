/- For every graph, weight, list, node and draw, the project's ChangeSet and the specification's answer alike, with the same code; the arguments are left as they were, and the answer owns its list.
   Conditions: none beyond the row's own (every input that can be read as data). -/
import Derived.Test.YtfbhdlkiffoflaaKinds
import Derived.Test.YtfbhdlkiffoflaaChg
import Derived.Test.YtfbhdlkiffoflaaOpen
namespace Go.Proofs.Ytfbhdlkiffoflaa.fnExactChangeSet
open Go.ChangeShapes Go.WideShapes Go.ChangeAt Go.RowKit Go.Deep Go.Joins
open Go.ChangeMaps (open_string shut_string)
set_option linter.unusedVariables false

theorem own : ownKnob Try.prog.godebug = none := by kernel_rfl
theorem laidOut : laidOutB Try.prog = true := by kernel_rfl

theorem model_small (g : Gr) (wt : Int) (xs : List Int) (node draw : Int) : ∃ r rk, chOf g wt xs node draw = (r, rk) ∧ r.length ≤ 6 := by
  refine ⟨(chOf g wt xs node draw).1, (chOf g wt xs node draw).2, rfl, ?_⟩
  unfold chOf
  split
  · rename_i h
    obtain ⟨hok, hri, hnd, -, -⟩ := chCode_zero h
    have hn := grOk_nodes hok
    obtain ⟨nd0, nd1⟩ := inB_iff.1 hnd
    obtain ⟨nd, rfl⟩ : ∃ k : Nat, node = k := ⟨node.toNat, by omega⟩
    split
    · have e := ch_sel hri (grOk_prOk hok) nd (by omega) (draw == 0)
      simp only
      rw [← e]
      have := sel_len (fun j => lastF xs nd (!(draw == 0) && hasB (freeP bothI (setF xs) (nbOf nd (edgesOf g.e)) 2) 1) j == 1) g.n.toNat
      omega
    · simp
  · simp


set_option maxRecDepth 100000 in
set_option maxHeartbeats 16000000 in
theorem walk_long0 {w : World} (v0 : Value) (c0 : Gr) (k0 : GrR w v0 c0) (a1 : Int) (w1 : (Lit.int .i64 a1).wf = true) (v2 : Value) (x2 : List Int) (k2 : Ints w v2 x2) (a3 : Int) (w3 : (Lit.int .i64 a3).wf = true) (a4 : Int) (w4 : (Lit.int .i64 a4).wf = true)  (hq0 : (1048576 : Int) < (x2.length : Int)) :
    Calls Try.prog 9 #[v0, .int .i64 a1, v2, .int .i64 a3, .int .i64 a4] w fun e w' => e = .returned (.bool true) ∧ Below w.heap.size w w' := by
  obtain ⟨a0, a0c, rfl⟩ := k0.shape
  obtain ⟨a2, a2c, rfl⟩ := k2.shape
  have H0 := (Blk.new w #[.int .i64 c0.n, .slice a0 c0.e.length a0c] 24)
  have B0 : Below w.heap.size w (w.alloc (.cells #[.int .i64 c0.n, .slice a0 c0.e.length a0c] 24)) := below1 w (.cells #[.int .i64 c0.n, .slice a0 c0.e.length a0c] 24)
  have K0 := GrUnder.of (k0.keep B0)
  have K2 := IntsUnder.of (k2.keep B0)
  have zu0 : w.heap.size + 1 = (w.alloc (.cells #[.int .i64 c0.n, .slice a0 c0.e.length a0c] 24)).heap.size := by simp
  have SB : Since (w.alloc (.cells #[.int .i64 c0.n, .slice a0 c0.e.length a0c] 24)).heap.size (w.alloc (.cells #[.int .i64 c0.n, .slice a0 c0.e.length a0c] 24)) (w.alloc (.cells #[.int .i64 c0.n, .slice a0 c0.e.length a0c] 24)) := ⟨Below.refl _ _, Nat.le_refl _⟩
  obtain ⟨u0, hu0⟩ : ∃ u, (w.alloc (.cells #[.int .i64 c0.n, .slice a0 c0.e.length a0c] 24)) = u := ⟨_, rfl⟩
  rw [hu0] at H0 K0 K2 B0 zu0 SB
  have zu0' := Lib.hid zu0
  have hu0' := Lib.hid hu0
  have z0a : 1 + w.heap.size ≤ u0.heap.size := by omega
  clear zu0 hu0
  have hl2 : decide ((1048576 : Int) < (x2.length : Int)) = true := decide_eq_true (by omega)
  go_enter Try.func9, Try.ntmps9
  go_wp2
  go_ret
  rw [hu0'.out]
  exact ⟨rfl, B0⟩

set_option maxRecDepth 100000 in
set_option maxHeartbeats 16000000 in
theorem walk_long1 {w : World} (v0 : Value) (c0 : Gr) (k0 : GrR w v0 c0) (a1 : Int) (w1 : (Lit.int .i64 a1).wf = true) (v2 : Value) (x2 : List Int) (k2 : Ints w v2 x2) (a3 : Int) (w3 : (Lit.int .i64 a3).wf = true) (a4 : Int) (w4 : (Lit.int .i64 a4).wf = true) (hq0 : (x2.length : Int) ≤ 1048576) (hq1 : (1048576 : Int) < (((c0.e.length + total c0.e) : Nat) : Int)) :
    Calls Try.prog 9 #[v0, .int .i64 a1, v2, .int .i64 a3, .int .i64 a4] w fun e w' => e = .returned (.bool true) ∧ Below w.heap.size w w' := by
  obtain ⟨a0, a0c, rfl⟩ := k0.shape
  obtain ⟨a2, a2c, rfl⟩ := k2.shape
  have H0 := (Blk.new w #[.int .i64 c0.n, .slice a0 c0.e.length a0c] 24)
  have B0 : Below w.heap.size w (w.alloc (.cells #[.int .i64 c0.n, .slice a0 c0.e.length a0c] 24)) := below1 w (.cells #[.int .i64 c0.n, .slice a0 c0.e.length a0c] 24)
  have K0 := GrUnder.of (k0.keep B0)
  have K2 := IntsUnder.of (k2.keep B0)
  have zu0 : w.heap.size + 1 = (w.alloc (.cells #[.int .i64 c0.n, .slice a0 c0.e.length a0c] 24)).heap.size := by simp
  have SB : Since (w.alloc (.cells #[.int .i64 c0.n, .slice a0 c0.e.length a0c] 24)).heap.size (w.alloc (.cells #[.int .i64 c0.n, .slice a0 c0.e.length a0c] 24)) (w.alloc (.cells #[.int .i64 c0.n, .slice a0 c0.e.length a0c] 24)) := ⟨Below.refl _ _, Nat.le_refl _⟩
  obtain ⟨u0, hu0⟩ : ∃ u, (w.alloc (.cells #[.int .i64 c0.n, .slice a0 c0.e.length a0c] 24)) = u := ⟨_, rfl⟩
  rw [hu0] at H0 K0 K2 B0 zu0 SB
  have zu0' := Lib.hid zu0
  have hu0' := Lib.hid hu0
  have z0a : 1 + w.heap.size ≤ u0.heap.size := by omega
  clear zu0 hu0
  have hl2 : decide ((1048576 : Int) < (x2.length : Int)) = false := decide_eq_false (by omega)
  have hn := szLeft_no (left := 1048576) (n := (c0.e.length + total c0.e)) (by omega)
  have hneg : szLeft 1048576 (c0.e.length + total c0.e) < 0 := by rw [hn]; decide
  clear hn
  go_enter Try.func9, Try.ntmps9
  obtain ⟨pH00, pH01⟩ := H0.two
  go_wp2_with fail
  rw [hu0'.out]
  refine (szGraph_any _ c0 1048576 _ K0.now (by omega) (by omega)).mono ?_
  rintro e u1 ⟨rfl, b1⟩
  clear pH00 pH01
  have zb1 := b1.size
  go_wp2
  go_ret
  replace SB := SB.step b1
  exact ⟨rfl, B0.trans (SB.bel.mono B0.size)⟩

set_option maxRecDepth 100000 in
set_option maxHeartbeats 16000000 in
theorem walk_ok {w : World} (v0 : Value) (c0 : Gr) (k0 : GrR w v0 c0) (a1 : Int) (w1 : (Lit.int .i64 a1).wf = true) (v2 : Value) (x2 : List Int) (k2 : Ints w v2 x2) (a3 : Int) (w3 : (Lit.int .i64 a3).wf = true) (a4 : Int) (w4 : (Lit.int .i64 a4).wf = true) (hq0 : (x2.length : Int) ≤ 1048576) (hq1 : (((c0.e.length + total c0.e) : Nat) : Int) ≤ (1048576 : Int)) :
    Calls Try.prog 9 #[v0, .int .i64 a1, v2, .int .i64 a3, .int .i64 a4] w fun e w' => e = .returned (.bool true) ∧ Below w.heap.size w w' := by
  obtain ⟨a0, a0c, rfl⟩ := k0.shape
  obtain ⟨a2, a2c, rfl⟩ := k2.shape
  have H0 := (Blk.new w #[.int .i64 c0.n, .slice a0 c0.e.length a0c] 24)
  have B0 : Below w.heap.size w (w.alloc (.cells #[.int .i64 c0.n, .slice a0 c0.e.length a0c] 24)) := below1 w (.cells #[.int .i64 c0.n, .slice a0 c0.e.length a0c] 24)
  have K0 := GrUnder.of (k0.keep B0)
  have K2 := IntsUnder.of (k2.keep B0)
  have zu0 : w.heap.size + 1 = (w.alloc (.cells #[.int .i64 c0.n, .slice a0 c0.e.length a0c] 24)).heap.size := by simp
  have SB : Since (w.alloc (.cells #[.int .i64 c0.n, .slice a0 c0.e.length a0c] 24)).heap.size (w.alloc (.cells #[.int .i64 c0.n, .slice a0 c0.e.length a0c] 24)) (w.alloc (.cells #[.int .i64 c0.n, .slice a0 c0.e.length a0c] 24)) := ⟨Below.refl _ _, Nat.le_refl _⟩
  obtain ⟨u0, hu0⟩ : ∃ u, (w.alloc (.cells #[.int .i64 c0.n, .slice a0 c0.e.length a0c] 24)) = u := ⟨_, rfl⟩
  rw [hu0] at H0 K0 K2 B0 zu0 SB
  have zu0' := Lib.hid zu0
  have hu0' := Lib.hid hu0
  have z0a : 1 + w.heap.size ≤ u0.heap.size := by omega
  clear zu0 hu0
  have hl2 : decide ((1048576 : Int) < (x2.length : Int)) = false := decide_eq_false (by omega)
  have hy0 := szLeft_yes (left := 1048576) (n := (c0.e.length + total c0.e)) (by omega)
  have g1 : 0 ≤ (szLeft 1048576 (c0.e.length + total c0.e)) := by omega
  have gg1 : (szLeft 1048576 (c0.e.length + total c0.e)) ≤ 1048576 := by omega
  clear hy0
  obtain ⟨L1, hL1⟩ : ∃ l, szLeft 1048576 (c0.e.length + total c0.e) = l := ⟨_, rfl⟩
  rw [hL1] at g1 gg1
  have hM1 := Lib.hid hL1
  clear hL1
  have hbd0 : (c0.e.length + total c0.e) ≤ 2097152 := by omega
  have hti0 : ((total c0.e : Nat) : Int) ≤ 2097152 := by omega
  have hbd2 : x2.length ≤ 2097152 := by omega
  have hti2 : ((x2.length : Nat) : Int) ≤ 2097152 := by omega
  obtain ⟨rx, rk, hm0, hrt⟩ : ∃ r rk, chOf c0 a1 x2 a3 a4 = (r, rk) ∧ r.length ≤ 6 := model_small c0 a1 x2 a3 a4
  have hm := Lib.hid hm0
  clear hm0
  go_enter Try.func9, Try.ntmps9
  obtain ⟨pH00, pH01⟩ := H0.two
  go_wp2_with fail
  rw [hu0'.out]
  refine (szGraph_any _ c0 1048576 _ K0.now (by omega) (by omega)).mono ?_
  rintro e u1 ⟨rfl, b1⟩
  clear pH00 pH01
  have zb1 := b1.size
  rw [hM1.out]
  replace K0 := K0.step b1
  replace H0 := H0.step b1
  obtain ⟨pH00, pH01⟩ := H0.two
  go_wp2_with fail
  refine (to_gr _ c0 _ K0.now hbd0).mono ?_
  rintro e u2 ⟨s0, rfl, os0, b2⟩
  clear pH00 pH01
  have zb2 := b2.size
  obtain ⟨s0a, s0ac, rfl⟩ := os0.shape
  have S0 := os0
  have bc0_2 := (below_wt b1 b2)
  replace K2 := K2.step bc0_2
  go_wp2_with fail
  refine (to_ints _ x2 _ K2.now hbd2).mono ?_
  rintro e u3 ⟨s2, rfl, os2, b3⟩
  have zb3 := b3.size
  obtain ⟨s2a, s2ac, rfl⟩ := os2.shape
  have S2 := os2
  replace S0 := S0.step b3
  go_wp2_with fail
  refine (ChangeSet_spec _ _ c0 a1 x2 a3 a4 _ S0.ch S2.ch).mono ?_
  rintro e u4 ⟨sr, rfl, osr, b4⟩
  have zb4 := b4.size
  rw [hm.out] at osr ⊢
  obtain ⟨sra, srac, rfl⟩ := osr.shape
  have SR := osr
  have bc1_4 := (below_wt (below_wt b2 b3) b4)
  replace K0 := K0.step bc1_4
  replace H0 := H0.step bc1_4
  obtain ⟨pH00, pH01⟩ := H0.two
  go_wp2_with fail
  refine (to_gr _ c0 _ K0.now hbd0).mono ?_
  rintro e u5 ⟨x0_, rfl, ox0_, b5⟩
  clear pH00 pH01
  have zb5 := b5.size
  obtain ⟨x0_a, x0_ac, rfl⟩ := ox0_.shape
  have X0 := ox0_
  have b6 := below1 u5 (.cells #[.int .i64 c0.n, .slice x0_a c0.e.length x0_ac] 27)
  have Q0 := Blk.new u5 #[.int .i64 c0.n, .slice x0_a c0.e.length x0_ac] 27
  have yb6 : u5.heap.size < (u5.alloc (.cells #[.int .i64 c0.n, .slice x0_a c0.e.length x0_ac] 27)).heap.size := by simp
  obtain ⟨u6, hu60⟩ : ∃ u, (u5.alloc (.cells #[.int .i64 c0.n, .slice x0_a c0.e.length x0_ac] 27)) = u := ⟨_, rfl⟩
  rw [hu60] at b6 Q0 yb6
  have hu6 := Lib.hid hu60
  clear hu60
  go_upto_region 9 with fail
  rw [hu6.out]
  have bc2_6 := (below_wt (below_wt (below_wt b3 b4) b5) b6)
  replace K2 := K2.step bc2_6
  go_wp2_with fail
  refine (to_ints _ x2 _ K2.now hbd2).mono ?_
  rintro e u7 ⟨x2_, rfl, ox2_, b7⟩
  have zb7 := b7.size
  obtain ⟨x2_a, x2_ac, rfl⟩ := ox2_.shape
  have X2 := ox2_
  have bc5_7 := (below_wt b6 b7)
  replace X0 := X0.step bc5_7
  replace Q0 := Q0.step b7
  obtain ⟨pQ00, pQ01⟩ := Q0.two
  go_wp2_with fail
  refine (ChangeSet_impl _ _ c0 a1 x2 a3 a4 _ X0.ch X2.ch).mono ?_
  rintro e u8 ⟨gr, rfl, ogr, b8⟩
  clear pQ00 pQ01
  have zb8 := b8.size
  rw [hm.out] at ogr ⊢
  obtain ⟨gra, grac, rfl⟩ := ogr.shape
  have GR := ogr
  have bc4_8 := (below_wt (below_wt (below_wt b5 b6) b7) b8)
  replace SR := SR.step bc4_8
  go_wp2_with fail
  refine (eq_ints _ _ rx _ GR.ch SR.ch).mono ?_
  rintro e u9 ⟨rfl, b9⟩
  have zb9 := b9.size
  have bc4_9 := (below_wt (below_wt (below_wt (below_wt b5 b6) b7) b8) b9)
  replace K0 := K0.step bc4_9
  have bc7_9 := (below_wt b8 b9)
  replace X0 := X0.step bc7_9
  replace H0 := H0.step bc4_9
  replace Q0 := Q0.step bc7_9
  obtain ⟨pH00, pH01⟩ := H0.two
  obtain ⟨pQ00, pQ01⟩ := Q0.two
  go_wp2_with fail
  have b10 := below_drew u9
  have zb10 := b10.size
  replace H0 := H0.step b10
  replace Q0 := Q0.step b10
  replace K0 := K0.step b10
  replace X0 := X0.step b10
  go_region_held3 (fun w' => w'.cell? ⟨w.heap.size, 0, none⟩ = some (.int .i64 c0.n) ∧ w'.cell? ⟨w.heap.size, 1, none⟩ = some (.slice a0 c0.e.length a0c) ∧ w'.cell? ⟨u5.heap.size, 0, none⟩ = some (.int .i64 c0.n) ∧ w'.cell? ⟨u5.heap.size, 1, none⟩ = some (.slice x0_a c0.e.length x0_ac)) (first | with_reducible exact duo2 H0 Q0 | go_keep) (first | (have _t := toky0; go_at_call 15; (with_reducible refine (eq_gr _ _ c0 _ X0.ch oy0.ch).mono ?_); rintro e u12 ⟨rfl, b12⟩; have zb12 := b12.size; replace H0 := H0.step b12; replace Q0 := Q0.step b12; replace K0 := K0.step b12; replace X0 := X0.step b12; clear pH00 pH01; clear pQ00 pQ01; obtain ⟨pH00, pH01⟩ := H0.two; obtain ⟨pQ00, pQ01⟩ := Q0.two; skip) | (go_at_call 13; (with_reducible refine (to_gr _ c0 _ K0.now hbd0).mono ?_); rintro e u11 ⟨y0, rfl, oy0, b11⟩; have zb11 := b11.size; replace H0 := H0.step b11; replace Q0 := Q0.step b11; replace K0 := K0.step b11; replace X0 := X0.step b11; clear pH00 pH01; clear pQ00 pQ01; obtain ⟨pH00, pH01⟩ := H0.two; obtain ⟨pQ00, pQ01⟩ := Q0.two; obtain ⟨y0a, y0ac, rfl⟩ := oy0.shape; have toky0 : True := trivial))
  clear pH00 pH01
  clear pQ00 pQ01
  have bc6_12 := (below_wt (below_wt (below_wt (below_wt (below_wt b7 b8) b9) b10) b11) b12)
  replace K2 := K2.step bc6_12
  go_wp2_with fail
  refine (to_ints _ x2 _ K2.now hbd2).mono ?_
  rintro e u13 ⟨y2, rfl, oy2, b13⟩
  have zb13 := b13.size
  obtain ⟨y2a, y2ac, rfl⟩ := oy2.shape
  have Y2 := oy2
  have bc7_13 := (below_wt (below_wt (below_wt (below_wt (below_wt b8 b9) b10) b11) b12) b13)
  replace X2 := X2.step bc7_13
  go_wp2_with fail
  refine (eq_ints _ _ x2 _ X2.ch Y2.ch).mono ?_
  rintro e u14 ⟨rfl, b14⟩
  have zb14 := b14.size
  have bc12_14 := (below_wt b13 b14)
  replace X0 := X0.step bc12_14
  replace Q0 := Q0.step bc12_14
  obtain ⟨pQ00, pQ01⟩ := Q0.two
  go_wp2_with fail
  refine (mark_gr X0 (by omega) (by omega)).mono ?_
  rintro e u15 ⟨rfl, mx0, b15⟩
  clear pQ00 pQ01
  have zb15 := b15.size
  replace X2 := X2.step b14
  replace X2 := X2.touch b15 (by omega)
  go_wp2_with fail
  refine (mark_ints X2 (by omega) (by omega)).mono ?_
  rintro e u16 ⟨rfl, mx2, b16⟩
  have zb16 := b16.size
  have hk1 : 0 ≤ 1 + ((total c0.e : Nat) : Int) + ((x2.length : Nat) : Int) := by omega
  have bc8_14 := (below_wt (below_wt (below_wt (below_wt (below_wt b9 b10) b11) b12) b13) b14)
  replace GR := GR.step bc8_14
  replace GR := GR.touch b15 (by omega)
  replace GR := GR.touch b16 (by omega)
  replace SR := SR.step bc8_14
  replace SR := SR.touch b15 (by omega)
  replace SR := SR.touch b16 (by omega)
  go_wp2_with fail
  refine (eq_ints _ _ rx _ GR.ch SR.ch).mono ?_
  rintro e u17 ⟨rfl, b17⟩
  have zb17 := b17.size
  replace GR := GR.step b17
  go_wp2_with fail
  refine (mark_ints GR (by omega) (by omega)).mono ?_
  rintro e u18 ⟨rfl, mg, b18⟩
  have zb18 := b18.size
  have hk2 : 0 ≤ 1 + ((rx.length : Nat) : Int) := by omega
  go_wp2_with fail
  refine (held_ints mg (by omega) (by omega)).mono ?_
  rintro e u19 ⟨rfl, b19⟩
  have zb19 := b19.size
  replace K0 := K0.step bc12_14
  replace K0 := K0.touch b15 (by omega)
  replace K0 := K0.touch b16 (by omega)
  replace K0 := K0.step b17
  replace K0 := K0.touch b18 (by omega)
  replace K0 := K0.step b19
  replace H0 := H0.step bc12_14
  replace H0 := H0.touch b15 (by omega)
  replace H0 := H0.touch b16 (by omega)
  replace H0 := H0.step b17
  replace H0 := H0.touch b18 (by omega)
  replace H0 := H0.step b19
  obtain ⟨pH00, pH01⟩ := H0.two
  go_wp2_with fail
  refine (to_gr _ c0 _ K0.now hbd0).mono ?_
  rintro e u20 ⟨t0, rfl, ot0, b20⟩
  clear pH00 pH01
  have zb20 := b20.size
  obtain ⟨t0a, t0ac, rfl⟩ := ot0.shape
  have T0 := ot0
  replace K2 := K2.step bc12_14
  replace K2 := K2.touch b15 (by omega)
  replace K2 := K2.touch b16 (by omega)
  replace K2 := K2.step b17
  replace K2 := K2.touch b18 (by omega)
  have bc18_20 := (below_wt b19 b20)
  replace K2 := K2.step bc18_20
  go_wp2_with fail
  refine (to_ints _ x2 _ K2.now hbd2).mono ?_
  rintro e u21 ⟨t2, rfl, ot2, b21⟩
  have zb21 := b21.size
  obtain ⟨t2a, t2ac, rfl⟩ := ot2.shape
  have T2 := ot2
  replace T0 := T0.step b21
  go_wp2_with fail
  refine (ChangeSet_impl _ _ c0 a1 x2 a3 a4 _ T0.ch T2.ch).mono ?_
  rintro e u22 ⟨tr, rfl, otr, b22⟩
  have zb22 := b22.size
  rw [hm.out] at otr ⊢
  obtain ⟨tra, trac, rfl⟩ := otr.shape
  have TR := otr
  replace SR := SR.step b17
  replace SR := SR.touch b18 (by omega)
  have bc18_22 := (below_wt (below_wt (below_wt b19 b20) b21) b22)
  replace SR := SR.step bc18_22
  go_wp2_with fail
  refine (eq_ints _ _ rx _ TR.ch SR.ch).mono ?_
  rintro e u23 ⟨rfl, b23⟩
  have zb23 := b23.size
  have bc18_23 := (below_wt (below_wt (below_wt (below_wt b19 b20) b21) b22) b23)
  replace mg := mg.step bc18_23
  go_wp2_with fail
  refine (held_ints mg (by omega) (by omega)).mono ?_
  rintro e u24 ⟨rfl, b24⟩
  have zb24 := b24.size
  go_wp2
  go_ret
  have bc0_14 := (below_wt (below_wt (below_wt (below_wt (below_wt (below_wt (below_wt (below_wt (below_wt (below_wt (below_wt (below_wt (below_wt b1 b2) b3) b4) b5) b6) b7) b8) b9) b10) b11) b12) b13) b14)
  replace SB := SB.step bc0_14
  replace SB := SB.touch b15 (by omega)
  replace SB := SB.touch b16 (by omega)
  replace SB := SB.step b17
  replace SB := SB.touch b18 (by omega)
  have bc18_24 := (below_wt (below_wt (below_wt (below_wt (below_wt b19 b20) b21) b22) b23) b24)
  replace SB := SB.step bc18_24
  exact ⟨rfl, B0.trans (SB.bel.mono B0.size)⟩

theorem walk {w : World} (v0 : Value) (c0 : Gr) (k0 : GrR w v0 c0) (a1 : Int) (w1 : (Lit.int .i64 a1).wf = true) (v2 : Value) (x2 : List Int) (k2 : Ints w v2 x2) (a3 : Int) (w3 : (Lit.int .i64 a3).wf = true) (a4 : Int) (w4 : (Lit.int .i64 a4).wf = true) :
    Calls Try.prog 9 #[v0, .int .i64 a1, v2, .int .i64 a3, .int .i64 a4] w fun e w' => e = .returned (.bool true) ∧ Below w.heap.size w w' := by
  by_cases h0 : (x2.length : Int) ≤ 1048576
  rotate_left
  · exact walk_long0 v0 c0 k0 a1 w1 v2 x2 k2 a3 w3 a4 w4  (by omega)
  by_cases h1 : (((c0.e.length + total c0.e) : Nat) : Int) ≤ (1048576 : Int)
  rotate_left
  · exact walk_long1 v0 c0 k0 a1 w1 v2 x2 k2 a3 w3 a4 w4 h0 (by omega)
  exact walk_ok v0 c0 k0 a1 w1 v2 x2 k2 a3 w3 a4 w4 h0 h1

set_option maxRecDepth 100000 in
theorem lifted (os : Os) (started : os.Started) (H : Type) (enc : TypeId × Value → H) :
    ReturnsInHanded {} Try.checked os 9 .any (Rows.fnExactChangeSetSpec.pre6 enc Try.prog Try.f9 Rows.fnExactChangeSetRow.domain false) (Rows.fnExactChangeSetSpec.post enc Try.prog Try.f9 false true false false) := by
  refine returnsInHanded_of_change (C := Try.checked) own started (by kernel_rfl) Try.func9
    (ChangeSpec.witness6 (enc := enc) (C := Try.checked) false ⟨#[], #[.agg #[.int .i64 0, .slice none 0 0], .int .i64 0, .slice none 0 0, .int .i64 0, .int .i64 0], []⟩ 8 (by kernel_rfl) (by kernel_rfl) (by kernel_rfl) (by kernel_rfl)) ?_
  intro W base args ds gs before hval0 hW hcnd _
  have hval : ∀ (j : Nat) t v, Try.f9.params[j]? = some t → args[j]? = some v → Value.okWide Try.prog W .any base t v := hval0
  have hW' := hW
  obtain ⟨p, q, hA0, hV, rfl, hfz, hnd⟩ := hW
  have hA : DataW.TrodAll enc Try.prog W 0 (fun _ => true) true Try.f9.params.toList args.toList ds p := hA0
  rw [Try.params9] at hA hval
  obtain ⟨v0, vs0, d0, ds0, p0, q0, hargs, rfl, rfl, h0, r0⟩ := trodAll_cons hA
  obtain ⟨v1, vs1, d1, ds1, p1, q1, rfl, rfl, rfl, h1, r1⟩ := trodAll_cons r0
  obtain ⟨v2, vs2, d2, ds2, p2, q2, rfl, rfl, rfl, h2, r2⟩ := trodAll_cons r1
  obtain ⟨v3, vs3, d3, ds3, p3, q3, rfl, rfl, rfl, h3, r3⟩ := trodAll_cons r2
  obtain ⟨v4, vs4, d4, ds4, p4, q4, rfl, rfl, rfl, h4, r4⟩ := trodAll_cons r3
  obtain ⟨rfl, rfl, rfl⟩ := trodAll_nil r4
  obtain rfl : args = #[v0, v1, v2, v3, v4] := by cases args; simp_all
  obtain ⟨rfl, rfl⟩ := trodVars_none hV
  have k0 := h0
  have lt0 : ∀ x ∈ p0, x.block < W.heap.size := by obtain ⟨m, hm⟩ := k0; exact DataW.trod_lt m _ _ _ hm
  obtain ⟨c0, w0⟩ := open_graph (hval 0 24 v0 rfl rfl) h0
  obtain ⟨a1, rfl, rfl, rfl, w1⟩ := open_int Try.underlying2 (hval 1 2 v1 rfl rfl) h1
  have k2 := h2
  have lt2 : ∀ x ∈ p2, x.block < W.heap.size := by obtain ⟨m, hm⟩ := k2; exact DataW.trod_lt m _ _ _ hm
  obtain ⟨c2, w2⟩ := open_list (hval 2 32 v2 rfl rfl) h2
  obtain ⟨a3, rfl, rfl, rfl, w3⟩ := open_int Try.underlying2 (hval 3 2 v3 rfl rfl) h3
  obtain ⟨a4, rfl, rfl, rfl, w4⟩ := open_int Try.underlying2 (hval 4 2 v4 rfl rfl) h4
  clear hA0 hval0
  refine (walk v0 c0 w0 a1 w1 v2 c2 w2 a3 w3 a4 w4).mono fun e W' ⟨he, bel⟩ => ?_
  subst he
  exact ⟨_, rfl, _, _, _, [], _, [], hW', trodAll_mk1 (shut_bool Try.underlying4 _), (trodAll_cons_mk (Below.trod laidOut (by kernel_rfl) (of_decide_eq_true (by kernel_rfl)) k0 bel lt0) (trodAll_cons_mk (shut_int Try.underlying2 w1) (trodAll_cons_mk (Below.trod laidOut (by kernel_rfl) (of_decide_eq_true (by kernel_rfl)) k2 bel lt2) (trodAll_cons_mk (shut_int Try.underlying2 w3) (trodAll_cons_mk (shut_int Try.underlying2 w4) trodAll_mk0))))), rfl, bel.frame _, fun h => by cases h⟩

theorem over : Rows.fnExactChangeSetRow.holds Try.pinned (OpenSpec.ofChange Rows.fnExactChangeSetSpec) :=
  OpenClaim.holds_of_wide 9 Try.f9 rfl rfl rfl rfl rfl rfl rfl ⟨rfl, rfl, rfl, rfl, rfl⟩ rfl rfl rfl rfl rfl (by kernel_rfl) Try.func9 (by kernel_rfl)
    (of_decide_eq_true (by kernel_rfl)) (by unfold Func.isWrapper; first | (rw [if_pos (by decide +kernel)]; kernel_rfl) | (rw [if_neg (by decide +kernel)]; exact ⟨rfl, rfl⟩))
    (fun os started H enc _ => lifted os started H enc)

/-- the statement -/
theorem proved : Rows.FnExactChangeSetSaid := over
end Go.Proofs.Ytfbhdlkiffoflaa.fnExactChangeSet
