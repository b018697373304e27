/- For every chain and list, the project's RenameStates and the specification's answer alike, with the same code; the arguments are left as they were, and the answer owns its memory.
   Conditions: none beyond the row's own (every input that can be read as data). -/
import Derived.Test.YtepajimcnheofaaKinds
import Derived.Test.YtepajimcnheofaaRename2
import Derived.Test.YtepajimcnheofaaOpen
namespace Go.Proofs.Ytepajimcnheofaa.fnExactRenameStates
open Go.ChangeShapes Go.WideShapes Go.ChangeAt Go.RowKit Go.Deep Go.Joins
open Go.ChangeMaps (open_string shut_string)
set_option linter.unusedVariables false

theorem own : ownKnob Try.prog.godebug = none := by kernel_rfl
theorem laidOut : laidOutB Try.prog = true := by kernel_rfl

theorem total_rows (n : Nat) (f : Nat → Nat → Int) : total (rowsOf n f) = n * n := by
  have h : ∀ (l : List Nat), total (l.map fun s => (List.range n).map fun t => f s t) = l.length * n := by
    intro l
    induction l with
    | nil => simp [total]
    | cons x r ih => simp only [List.map_cons, total, ih, List.length_map, List.length_range, List.length_cons, Nat.add_mul]; omega
  simpa [rowsOf] using h (List.range n)
theorem model_small (c : Ch) (o : List Int) : ∃ rc rk, renOf c o = (rc, rk) ∧ total rc.w ≤ 36 := by
  refine ⟨(renOf c o).1, (renOf c o).2, rfl, ?_⟩
  unfold renOf
  split
  · rename_i oc
    obtain ⟨n1, n2, -, -, -, -⟩ := chOk_all oc
    split
    · simp only [renCh, total_rows]
      have h6 : c.n.toNat ≤ 6 := by omega
      exact Nat.mul_le_mul h6 h6
    · simp [zeroCh, total]
  · simp [zeroCh, total]

set_option maxRecDepth 100000 in
set_option maxHeartbeats 16000000 in
theorem walk_long0 {w : World} (v0 : Value) (c0 : Ch) (k0 : ChR w v0 c0) (v1 : Value) (x1 : List Int) (k1 : Ints w v1 x1)  (hq0 : (1048576 : Int) < (x1.length : Int)) :
    Calls Try.prog 8 #[v0, v1] w fun e w' => e = .returned (.bool true) ∧ Below w.heap.size w w' := by
  obtain ⟨a0, a0c, rfl⟩ := k0.shape
  obtain ⟨a1, a1c, rfl⟩ := k1.shape
  have H0 := (Blk.new w #[.int .i64 c0.n, .int .i64 c0.t, .slice a0 c0.w.length a0c] 24)
  have B0 : Below w.heap.size w (w.alloc (.cells #[.int .i64 c0.n, .int .i64 c0.t, .slice a0 c0.w.length a0c] 24)) := below1 w (.cells #[.int .i64 c0.n, .int .i64 c0.t, .slice a0 c0.w.length a0c] 24)
  have K0 := ChUnder.of (k0.keep B0)
  have K1 := IntsUnder.of (k1.keep B0)
  have zu0 : w.heap.size + 1 = (w.alloc (.cells #[.int .i64 c0.n, .int .i64 c0.t, .slice a0 c0.w.length a0c] 24)).heap.size := by simp
  have SB : Since (w.alloc (.cells #[.int .i64 c0.n, .int .i64 c0.t, .slice a0 c0.w.length a0c] 24)).heap.size (w.alloc (.cells #[.int .i64 c0.n, .int .i64 c0.t, .slice a0 c0.w.length a0c] 24)) (w.alloc (.cells #[.int .i64 c0.n, .int .i64 c0.t, .slice a0 c0.w.length a0c] 24)) := ⟨Below.refl _ _, Nat.le_refl _⟩
  obtain ⟨u0, hu0⟩ : ∃ u, (w.alloc (.cells #[.int .i64 c0.n, .int .i64 c0.t, .slice a0 c0.w.length a0c] 24)) = u := ⟨_, rfl⟩
  rw [hu0] at H0 K0 K1 B0 zu0 SB
  have zu0' := Lib.hid zu0
  have hu0' := Lib.hid hu0
  have z0a : 1 + w.heap.size ≤ u0.heap.size := by omega
  clear zu0 hu0
  have hl1 : decide ((1048576 : Int) < (x1.length : Int)) = true := decide_eq_true (by omega)
  go_enter Try.func8, Try.ntmps8
  go_wp2
  go_ret
  rw [hu0'.out]
  exact ⟨rfl, B0⟩

set_option maxRecDepth 100000 in
set_option maxHeartbeats 16000000 in
theorem walk_long1 {w : World} (v0 : Value) (c0 : Ch) (k0 : ChR w v0 c0) (v1 : Value) (x1 : List Int) (k1 : Ints w v1 x1) (hq0 : (x1.length : Int) ≤ 1048576) (hq1 : (1048576 : Int) < (((c0.w.length + total c0.w) : Nat) : Int)) :
    Calls Try.prog 8 #[v0, v1] w fun e w' => e = .returned (.bool true) ∧ Below w.heap.size w w' := by
  obtain ⟨a0, a0c, rfl⟩ := k0.shape
  obtain ⟨a1, a1c, rfl⟩ := k1.shape
  have H0 := (Blk.new w #[.int .i64 c0.n, .int .i64 c0.t, .slice a0 c0.w.length a0c] 24)
  have B0 : Below w.heap.size w (w.alloc (.cells #[.int .i64 c0.n, .int .i64 c0.t, .slice a0 c0.w.length a0c] 24)) := below1 w (.cells #[.int .i64 c0.n, .int .i64 c0.t, .slice a0 c0.w.length a0c] 24)
  have K0 := ChUnder.of (k0.keep B0)
  have K1 := IntsUnder.of (k1.keep B0)
  have zu0 : w.heap.size + 1 = (w.alloc (.cells #[.int .i64 c0.n, .int .i64 c0.t, .slice a0 c0.w.length a0c] 24)).heap.size := by simp
  have SB : Since (w.alloc (.cells #[.int .i64 c0.n, .int .i64 c0.t, .slice a0 c0.w.length a0c] 24)).heap.size (w.alloc (.cells #[.int .i64 c0.n, .int .i64 c0.t, .slice a0 c0.w.length a0c] 24)) (w.alloc (.cells #[.int .i64 c0.n, .int .i64 c0.t, .slice a0 c0.w.length a0c] 24)) := ⟨Below.refl _ _, Nat.le_refl _⟩
  obtain ⟨u0, hu0⟩ : ∃ u, (w.alloc (.cells #[.int .i64 c0.n, .int .i64 c0.t, .slice a0 c0.w.length a0c] 24)) = u := ⟨_, rfl⟩
  rw [hu0] at H0 K0 K1 B0 zu0 SB
  have zu0' := Lib.hid zu0
  have hu0' := Lib.hid hu0
  have z0a : 1 + w.heap.size ≤ u0.heap.size := by omega
  clear zu0 hu0
  have hl1 : decide ((1048576 : Int) < (x1.length : Int)) = false := decide_eq_false (by omega)
  have hn := szLeft_no (left := 1048576) (n := (c0.w.length + total c0.w)) (by omega)
  have hneg : szLeft 1048576 (c0.w.length + total c0.w) < 0 := by rw [hn]; decide
  clear hn
  go_enter Try.func8, Try.ntmps8
  obtain ⟨pH00, pH01, pH02⟩ := H0.three
  go_wp2_with fail
  rw [hu0'.out]
  refine (szChain_any _ c0 1048576 _ K0.now (by omega) (by omega)).mono ?_
  rintro e u1 ⟨rfl, b1⟩
  clear pH00 pH01 pH02
  have zb1 := b1.size
  go_wp2
  go_ret
  replace SB := SB.step b1
  exact ⟨rfl, B0.trans (SB.bel.mono B0.size)⟩

set_option maxRecDepth 100000 in
set_option maxHeartbeats 16000000 in
theorem walk_ok {w : World} (v0 : Value) (c0 : Ch) (k0 : ChR w v0 c0) (v1 : Value) (x1 : List Int) (k1 : Ints w v1 x1) (hq0 : (x1.length : Int) ≤ 1048576) (hq1 : (((c0.w.length + total c0.w) : Nat) : Int) ≤ (1048576 : Int)) :
    Calls Try.prog 8 #[v0, v1] w fun e w' => e = .returned (.bool true) ∧ Below w.heap.size w w' := by
  obtain ⟨a0, a0c, rfl⟩ := k0.shape
  obtain ⟨a1, a1c, rfl⟩ := k1.shape
  have H0 := (Blk.new w #[.int .i64 c0.n, .int .i64 c0.t, .slice a0 c0.w.length a0c] 24)
  have B0 : Below w.heap.size w (w.alloc (.cells #[.int .i64 c0.n, .int .i64 c0.t, .slice a0 c0.w.length a0c] 24)) := below1 w (.cells #[.int .i64 c0.n, .int .i64 c0.t, .slice a0 c0.w.length a0c] 24)
  have K0 := ChUnder.of (k0.keep B0)
  have K1 := IntsUnder.of (k1.keep B0)
  have zu0 : w.heap.size + 1 = (w.alloc (.cells #[.int .i64 c0.n, .int .i64 c0.t, .slice a0 c0.w.length a0c] 24)).heap.size := by simp
  have SB : Since (w.alloc (.cells #[.int .i64 c0.n, .int .i64 c0.t, .slice a0 c0.w.length a0c] 24)).heap.size (w.alloc (.cells #[.int .i64 c0.n, .int .i64 c0.t, .slice a0 c0.w.length a0c] 24)) (w.alloc (.cells #[.int .i64 c0.n, .int .i64 c0.t, .slice a0 c0.w.length a0c] 24)) := ⟨Below.refl _ _, Nat.le_refl _⟩
  obtain ⟨u0, hu0⟩ : ∃ u, (w.alloc (.cells #[.int .i64 c0.n, .int .i64 c0.t, .slice a0 c0.w.length a0c] 24)) = u := ⟨_, rfl⟩
  rw [hu0] at H0 K0 K1 B0 zu0 SB
  have zu0' := Lib.hid zu0
  have hu0' := Lib.hid hu0
  have z0a : 1 + w.heap.size ≤ u0.heap.size := by omega
  clear zu0 hu0
  have hl1 : decide ((1048576 : Int) < (x1.length : Int)) = false := decide_eq_false (by omega)
  have hy0 := szLeft_yes (left := 1048576) (n := (c0.w.length + total c0.w)) (by omega)
  have g1 : 0 ≤ (szLeft 1048576 (c0.w.length + total c0.w)) := by omega
  have gg1 : (szLeft 1048576 (c0.w.length + total c0.w)) ≤ 1048576 := by omega
  clear hy0
  obtain ⟨L1, hL1⟩ : ∃ l, szLeft 1048576 (c0.w.length + total c0.w) = l := ⟨_, rfl⟩
  rw [hL1] at g1 gg1
  have hM1 := Lib.hid hL1
  clear hL1
  have hbd0 : (c0.w.length + total c0.w) ≤ 2097152 := by omega
  have hti0 : ((total c0.w : Nat) : Int) ≤ 2097152 := by omega
  have hbd1 : x1.length ≤ 2097152 := by omega
  have hti1 : ((x1.length : Nat) : Int) ≤ 2097152 := by omega
  obtain ⟨rc, rk, hm0, hrt⟩ : ∃ r rk, renOf c0 x1 = (r, rk) ∧ total r.w ≤ 36 := model_small c0 x1
  have hm := Lib.hid hm0
  clear hm0
  go_enter Try.func8, Try.ntmps8
  obtain ⟨pH00, pH01, pH02⟩ := H0.three
  go_wp2_with fail
  rw [hu0'.out]
  refine (szChain_any _ c0 1048576 _ K0.now (by omega) (by omega)).mono ?_
  rintro e u1 ⟨rfl, b1⟩
  clear pH00 pH01 pH02
  have zb1 := b1.size
  rw [hM1.out]
  replace K0 := K0.step b1
  replace H0 := H0.step b1
  obtain ⟨pH00, pH01, pH02⟩ := H0.three
  go_wp2_with fail
  refine (to_ch _ c0 _ K0.now hbd0).mono ?_
  rintro e u2 ⟨s0, rfl, os0, b2⟩
  clear pH00 pH01 pH02
  have zb2 := b2.size
  obtain ⟨s0a, s0ac, rfl⟩ := os0.shape
  have S0 := os0
  have bc0_2 := (below_wt b1 b2)
  replace K1 := K1.step bc0_2
  go_wp2_with fail
  refine (to_ints _ x1 _ K1.now hbd1).mono ?_
  rintro e u3 ⟨s1, rfl, os1, b3⟩
  have zb3 := b3.size
  obtain ⟨s1a, s1ac, rfl⟩ := os1.shape
  have S1 := os1
  replace S0 := S0.step b3
  go_wp2_with fail
  refine (RenameStates_spec _ _ c0 x1 _ S0.ch S1.ch).mono ?_
  rintro e u4 ⟨sr, rfl, osr, b4⟩
  have zb4 := b4.size
  rw [hm.out] at osr ⊢
  obtain ⟨sra, srac, rfl⟩ := osr.shape
  have SR := osr.mine
  have b5 := below1 u4 (.cells #[.int .i64 rc.n, .int .i64 rc.t, .slice sra rc.w.length srac] 26)
  have W0 := Blk.new u4 #[.int .i64 rc.n, .int .i64 rc.t, .slice sra rc.w.length srac] 26
  have yb5 : u4.heap.size < (u4.alloc (.cells #[.int .i64 rc.n, .int .i64 rc.t, .slice sra rc.w.length srac] 26)).heap.size := by simp
  obtain ⟨u5, hu50⟩ : ∃ u, (u4.alloc (.cells #[.int .i64 rc.n, .int .i64 rc.t, .slice sra rc.w.length srac] 26)) = u := ⟨_, rfl⟩
  rw [hu50] at b5 W0 yb5
  have hu5 := Lib.hid hu50
  clear hu50
  go_upto_region 8 with fail
  rw [hu5.out]
  have bc1_5 := (below_wt (below_wt (below_wt b2 b3) b4) b5)
  replace K0 := K0.step bc1_5
  replace H0 := H0.step bc1_5
  obtain ⟨pH00, pH01, pH02⟩ := H0.three
  go_wp2_with fail
  refine (to_ch _ c0 _ K0.now hbd0).mono ?_
  rintro e u6 ⟨x0_, rfl, ox0_, b6⟩
  clear pH00 pH01 pH02
  have zb6 := b6.size
  obtain ⟨x0_a, x0_ac, rfl⟩ := ox0_.shape
  have X0 := ox0_
  have b7 := below1 u6 (.cells #[.int .i64 c0.n, .int .i64 c0.t, .slice x0_a c0.w.length x0_ac] 26)
  have Q0 := Blk.new u6 #[.int .i64 c0.n, .int .i64 c0.t, .slice x0_a c0.w.length x0_ac] 26
  have yb7 : u6.heap.size < (u6.alloc (.cells #[.int .i64 c0.n, .int .i64 c0.t, .slice x0_a c0.w.length x0_ac] 26)).heap.size := by simp
  obtain ⟨u7, hu70⟩ : ∃ u, (u6.alloc (.cells #[.int .i64 c0.n, .int .i64 c0.t, .slice x0_a c0.w.length x0_ac] 26)) = u := ⟨_, rfl⟩
  rw [hu70] at b7 Q0 yb7
  have hu7 := Lib.hid hu70
  clear hu70
  go_upto_region 9 with fail
  rw [hu7.out]
  have bc2_7 := (below_wt (below_wt (below_wt (below_wt b3 b4) b5) b6) b7)
  replace K1 := K1.step bc2_7
  go_wp2_with fail
  refine (to_ints _ x1 _ K1.now hbd1).mono ?_
  rintro e u8 ⟨x1_, rfl, ox1_, b8⟩
  have zb8 := b8.size
  obtain ⟨x1_a, x1_ac, rfl⟩ := ox1_.shape
  have X1 := ox1_
  have bc6_8 := (below_wt b7 b8)
  replace X0 := X0.step bc6_8
  replace Q0 := Q0.step b8
  obtain ⟨pQ00, pQ01, pQ02⟩ := Q0.three
  go_wp2_with fail
  refine (RenameStates_impl _ _ c0 x1 _ X0.ch X1.ch).mono ?_
  rintro e u9 ⟨gr, rfl, ogr, b9⟩
  clear pQ00 pQ01 pQ02
  have zb9 := b9.size
  rw [hm.out] at ogr ⊢
  obtain ⟨gra, grac, rfl⟩ := ogr.shape
  have GR := ogr.mine
  have b10 := below1 u9 (.cells #[.int .i64 rc.n, .int .i64 rc.t, .slice gra rc.w.length grac] 26)
  have G0 := Blk.new u9 #[.int .i64 rc.n, .int .i64 rc.t, .slice gra rc.w.length grac] 26
  have yb10 : u9.heap.size < (u9.alloc (.cells #[.int .i64 rc.n, .int .i64 rc.t, .slice gra rc.w.length grac] 26)).heap.size := by simp
  obtain ⟨u10, hu100⟩ : ∃ u, (u9.alloc (.cells #[.int .i64 rc.n, .int .i64 rc.t, .slice gra rc.w.length grac] 26)) = u := ⟨_, rfl⟩
  rw [hu100] at b10 G0 yb10
  have hu10 := Lib.hid hu100
  clear hu100
  go_upto_region 11 with fail
  rw [hu10.out]
  replace GR := GR.step b10
  have bc4_10 := (below_wt (below_wt (below_wt (below_wt (below_wt b5 b6) b7) b8) b9) b10)
  replace SR := SR.step bc4_10
  have bc5_10 := (below_wt (below_wt (below_wt (below_wt b6 b7) b8) b9) b10)
  replace W0 := W0.step bc5_10
  obtain ⟨pG00, pG01, pG02⟩ := G0.three
  obtain ⟨pW00, pW01, pW02⟩ := W0.three
  go_wp2_with fail
  refine (eq_ch _ _ rc _ GR.ch SR.ch).mono ?_
  rintro e u11 ⟨rfl, b11⟩
  clear pG00 pG01 pG02
  clear pW00 pW01 pW02
  have zb11 := b11.size
  have bc5_11 := (below_wt (below_wt (below_wt (below_wt (below_wt b6 b7) b8) b9) b10) b11)
  replace K0 := K0.step bc5_11
  have bc8_11 := (below_wt (below_wt b9 b10) b11)
  replace X0 := X0.step bc8_11
  replace H0 := H0.step bc5_11
  replace Q0 := Q0.step bc8_11
  obtain ⟨pH00, pH01, pH02⟩ := H0.three
  obtain ⟨pQ00, pQ01, pQ02⟩ := Q0.three
  go_wp2_with fail
  have b12 := below_drew u11
  have zb12 := b12.size
  replace H0 := H0.step b12
  replace Q0 := Q0.step b12
  replace K0 := K0.step b12
  replace X0 := X0.step b12
  go_region_held3 (fun w' => w'.cell? ⟨w.heap.size, 0, none⟩ = some (.int .i64 c0.n) ∧ w'.cell? ⟨w.heap.size, 1, none⟩ = some (.int .i64 c0.t) ∧ w'.cell? ⟨w.heap.size, 2, none⟩ = some (.slice a0 c0.w.length a0c) ∧ w'.cell? ⟨u6.heap.size, 0, none⟩ = some (.int .i64 c0.n) ∧ w'.cell? ⟨u6.heap.size, 1, none⟩ = some (.int .i64 c0.t) ∧ w'.cell? ⟨u6.heap.size, 2, none⟩ = some (.slice x0_a c0.w.length x0_ac)) (first | with_reducible exact three2 H0 Q0 | go_keep) (first | (have _t := toky0; go_at_call 19; (with_reducible refine (eq_ch _ _ c0 _ X0.ch oy0.ch).mono ?_); rintro e u14 ⟨rfl, b14⟩; have zb14 := b14.size; replace H0 := H0.step b14; replace Q0 := Q0.step b14; replace K0 := K0.step b14; replace X0 := X0.step b14; clear pH00 pH01 pH02; clear pQ00 pQ01 pQ02; obtain ⟨pH00, pH01, pH02⟩ := H0.three; obtain ⟨pQ00, pQ01, pQ02⟩ := Q0.three; skip) | (go_at_call 17; (with_reducible refine (to_ch _ c0 _ K0.now hbd0).mono ?_); rintro e u13 ⟨y0, rfl, oy0, b13⟩; have zb13 := b13.size; replace H0 := H0.step b13; replace Q0 := Q0.step b13; replace K0 := K0.step b13; replace X0 := X0.step b13; clear pH00 pH01 pH02; clear pQ00 pQ01 pQ02; obtain ⟨pH00, pH01, pH02⟩ := H0.three; obtain ⟨pQ00, pQ01, pQ02⟩ := Q0.three; obtain ⟨y0a, y0ac, rfl⟩ := oy0.shape; have toky0 : True := trivial))
  clear pH00 pH01 pH02
  clear pQ00 pQ01 pQ02
  have bc7_14 := (below_wt (below_wt (below_wt (below_wt (below_wt (below_wt b8 b9) b10) b11) b12) b13) b14)
  replace K1 := K1.step bc7_14
  go_wp2_with fail
  refine (to_ints _ x1 _ K1.now hbd1).mono ?_
  rintro e u15 ⟨y1, rfl, oy1, b15⟩
  have zb15 := b15.size
  obtain ⟨y1a, y1ac, rfl⟩ := oy1.shape
  have Y1 := oy1
  have bc8_15 := (below_wt (below_wt (below_wt (below_wt (below_wt (below_wt b9 b10) b11) b12) b13) b14) b15)
  replace X1 := X1.step bc8_15
  go_wp2_with fail
  refine (eq_ints _ _ x1 _ X1.ch Y1.ch).mono ?_
  rintro e u16 ⟨rfl, b16⟩
  have zb16 := b16.size
  have bc14_16 := (below_wt b15 b16)
  replace X0 := X0.step bc14_16
  replace Q0 := Q0.step bc14_16
  obtain ⟨pQ00, pQ01, pQ02⟩ := Q0.three
  go_wp2_with fail
  refine (mark_mine X0 (by omega) (by omega)).mono ?_
  rintro e u17 ⟨rfl, mx0, b17⟩
  clear pQ00 pQ01 pQ02
  have zb17 := b17.size
  replace X1 := X1.step b16
  replace X1 := X1.touch b17 (by omega)
  go_wp2_with fail
  refine (mark_ints X1 (by omega) (by omega)).mono ?_
  rintro e u18 ⟨rfl, mx1, b18⟩
  have zb18 := b18.size
  have hk1 : 0 ≤ 1 + ((total c0.w : Nat) : Int) + ((x1.length : Nat) : Int) := by omega
  have bc10_16 := (below_wt (below_wt (below_wt (below_wt (below_wt b11 b12) b13) b14) b15) b16)
  replace GR := GR.step bc10_16
  replace GR := GR.touch b17 (by omega)
  replace GR := GR.touch b18 (by omega)
  replace SR := SR.step bc10_16
  replace SR := SR.touch b17 (by omega)
  replace SR := SR.touch b18 (by omega)
  replace G0 := G0.step bc10_16
  replace G0 := G0.touch b17 (by omega)
  replace G0 := G0.touch b18 (by omega)
  replace W0 := W0.step bc10_16
  replace W0 := W0.touch b17 (by omega)
  replace W0 := W0.touch b18 (by omega)
  obtain ⟨pG00, pG01, pG02⟩ := G0.three
  obtain ⟨pW00, pW01, pW02⟩ := W0.three
  go_wp2_with fail
  refine (eq_ch _ _ rc _ GR.ch SR.ch).mono ?_
  rintro e u19 ⟨rfl, b19⟩
  clear pG00 pG01 pG02
  clear pW00 pW01 pW02
  have zb19 := b19.size
  replace GR := GR.step b19
  replace G0 := G0.step b19
  obtain ⟨pG00, pG01, pG02⟩ := G0.three
  go_wp2_with fail
  refine (mark_mine GR (by omega) (by omega)).mono ?_
  rintro e u20 ⟨rfl, mg, b20⟩
  clear pG00 pG01 pG02
  have zb20 := b20.size
  have hk2 : 0 ≤ 1 + ((total rc.w : Nat) : Int) := by omega
  replace G0 := G0.touch b20 (by omega)
  obtain ⟨pG00, pG01, pG02⟩ := G0.three
  go_wp2_with fail
  refine (held_mine mg (by omega) (by omega)).mono ?_
  rintro e u21 ⟨rfl, b21⟩
  clear pG00 pG01 pG02
  have zb21 := b21.size
  replace K0 := K0.step bc14_16
  replace K0 := K0.touch b17 (by omega)
  replace K0 := K0.touch b18 (by omega)
  replace K0 := K0.step b19
  replace K0 := K0.touch b20 (by omega)
  replace K0 := K0.step b21
  replace H0 := H0.step bc14_16
  replace H0 := H0.touch b17 (by omega)
  replace H0 := H0.touch b18 (by omega)
  replace H0 := H0.step b19
  replace H0 := H0.touch b20 (by omega)
  replace H0 := H0.step b21
  obtain ⟨pH00, pH01, pH02⟩ := H0.three
  go_wp2_with fail
  refine (to_ch _ c0 _ K0.now hbd0).mono ?_
  rintro e u22 ⟨t0, rfl, ot0, b22⟩
  clear pH00 pH01 pH02
  have zb22 := b22.size
  obtain ⟨t0a, t0ac, rfl⟩ := ot0.shape
  have T0 := ot0
  replace K1 := K1.step bc14_16
  replace K1 := K1.touch b17 (by omega)
  replace K1 := K1.touch b18 (by omega)
  replace K1 := K1.step b19
  replace K1 := K1.touch b20 (by omega)
  have bc20_22 := (below_wt b21 b22)
  replace K1 := K1.step bc20_22
  go_wp2_with fail
  refine (to_ints _ x1 _ K1.now hbd1).mono ?_
  rintro e u23 ⟨t1, rfl, ot1, b23⟩
  have zb23 := b23.size
  obtain ⟨t1a, t1ac, rfl⟩ := ot1.shape
  have T1 := ot1
  replace T0 := T0.step b23
  go_wp2_with fail
  refine (RenameStates_impl _ _ c0 x1 _ T0.ch T1.ch).mono ?_
  rintro e u24 ⟨tr, rfl, otr, b24⟩
  have zb24 := b24.size
  rw [hm.out] at otr ⊢
  obtain ⟨tra, trac, rfl⟩ := otr.shape
  have TR := otr.mine
  have b25 := below1 u24 (.cells #[.int .i64 rc.n, .int .i64 rc.t, .slice tra rc.w.length trac] 26)
  have T9 := Blk.new u24 #[.int .i64 rc.n, .int .i64 rc.t, .slice tra rc.w.length trac] 26
  have yb25 : u24.heap.size < (u24.alloc (.cells #[.int .i64 rc.n, .int .i64 rc.t, .slice tra rc.w.length trac] 26)).heap.size := by simp
  obtain ⟨u25, hu250⟩ : ∃ u, (u24.alloc (.cells #[.int .i64 rc.n, .int .i64 rc.t, .slice tra rc.w.length trac] 26)) = u := ⟨_, rfl⟩
  rw [hu250] at b25 T9 yb25
  have hu25 := Lib.hid hu250
  clear hu250
  go_upto_region 31 with fail
  rw [hu25.out]
  replace TR := TR.step b25
  replace SR := SR.step b19
  replace SR := SR.touch b20 (by omega)
  have bc20_25 := (below_wt (below_wt (below_wt (below_wt b21 b22) b23) b24) b25)
  replace SR := SR.step bc20_25
  replace W0 := W0.step b19
  replace W0 := W0.touch b20 (by omega)
  replace W0 := W0.step bc20_25
  obtain ⟨pT90, pT91, pT92⟩ := T9.three
  obtain ⟨pW00, pW01, pW02⟩ := W0.three
  go_wp2_with fail
  refine (eq_ch _ _ rc _ TR.ch SR.ch).mono ?_
  rintro e u26 ⟨rfl, b26⟩
  clear pT90 pT91 pT92
  clear pW00 pW01 pW02
  have zb26 := b26.size
  have bc20_26 := (below_wt (below_wt (below_wt (below_wt (below_wt b21 b22) b23) b24) b25) b26)
  replace mg := mg.step bc20_26
  replace G0 := G0.step bc20_26
  obtain ⟨pG00, pG01, pG02⟩ := G0.three
  go_wp2_with fail
  refine (held_mine mg (by omega) (by omega)).mono ?_
  rintro e u27 ⟨rfl, b27⟩
  clear pG00 pG01 pG02
  have zb27 := b27.size
  go_wp2
  go_ret
  have bc0_16 := (below_wt (below_wt (below_wt (below_wt (below_wt (below_wt (below_wt (below_wt (below_wt (below_wt (below_wt (below_wt (below_wt (below_wt (below_wt b1 b2) b3) b4) b5) b6) b7) b8) b9) b10) b11) b12) b13) b14) b15) b16)
  replace SB := SB.step bc0_16
  replace SB := SB.touch b17 (by omega)
  replace SB := SB.touch b18 (by omega)
  replace SB := SB.step b19
  replace SB := SB.touch b20 (by omega)
  have bc20_27 := (below_wt (below_wt (below_wt (below_wt (below_wt (below_wt b21 b22) b23) b24) b25) b26) b27)
  replace SB := SB.step bc20_27
  exact ⟨rfl, B0.trans (SB.bel.mono B0.size)⟩

theorem walk {w : World} (v0 : Value) (c0 : Ch) (k0 : ChR w v0 c0) (v1 : Value) (x1 : List Int) (k1 : Ints w v1 x1) :
    Calls Try.prog 8 #[v0, v1] w fun e w' => e = .returned (.bool true) ∧ Below w.heap.size w w' := by
  by_cases h0 : (x1.length : Int) ≤ 1048576
  rotate_left
  · exact walk_long0 v0 c0 k0 v1 x1 k1  (by omega)
  by_cases h1 : (((c0.w.length + total c0.w) : Nat) : Int) ≤ (1048576 : Int)
  rotate_left
  · exact walk_long1 v0 c0 k0 v1 x1 k1 h0 (by omega)
  exact walk_ok v0 c0 k0 v1 x1 k1 h0 h1

set_option maxRecDepth 100000 in
theorem lifted (os : Os) (started : os.Started) (H : Type) (enc : TypeId × Value → H) :
    ReturnsInHanded {} Try.checked os 8 .any (Rows.fnExactRenameStatesSpec.pre6 enc Try.prog Try.f8 Rows.fnExactRenameStatesRow.domain false) (Rows.fnExactRenameStatesSpec.post enc Try.prog Try.f8 false true false false) := by
  refine returnsInHanded_of_change (C := Try.checked) own started (by kernel_rfl) Try.func8
    (ChangeSpec.witness6 (enc := enc) (C := Try.checked) false ⟨#[], #[.agg #[.int .i64 0, .int .i64 0, .slice none 0 0], .slice none 0 0], []⟩ 8 (by kernel_rfl) (by kernel_rfl) (by kernel_rfl) (by kernel_rfl)) ?_
  intro W base args ds gs before hval0 hW hcnd _
  have hval : ∀ (j : Nat) t v, Try.f8.params[j]? = some t → args[j]? = some v → Value.okWide Try.prog W .any base t v := hval0
  have hW' := hW
  obtain ⟨p, q, hA0, hV, rfl, hfz, hnd⟩ := hW
  have hA : DataW.TrodAll enc Try.prog W 0 (fun _ => true) true Try.f8.params.toList args.toList ds p := hA0
  rw [Try.params8] at hA hval
  obtain ⟨v0, vs0, d0, ds0, p0, q0, hargs, rfl, rfl, h0, r0⟩ := trodAll_cons hA
  obtain ⟨v1, vs1, d1, ds1, p1, q1, rfl, rfl, rfl, h1, r1⟩ := trodAll_cons r0
  obtain ⟨rfl, rfl, rfl⟩ := trodAll_nil r1
  obtain rfl : args = #[v0, v1] := by cases args; simp_all
  obtain ⟨rfl, rfl⟩ := trodVars_none hV
  have k0 := h0
  have lt0 : ∀ x ∈ p0, x.block < W.heap.size := by obtain ⟨m, hm⟩ := k0; exact DataW.trod_lt m _ _ _ hm
  obtain ⟨c0, w0⟩ := open_chain (hval 0 24 v0 rfl rfl) h0
  have k1 := h1
  have lt1 : ∀ x ∈ p1, x.block < W.heap.size := by obtain ⟨m, hm⟩ := k1; exact DataW.trod_lt m _ _ _ hm
  obtain ⟨c1, w1⟩ := open_list (hval 1 37 v1 rfl rfl) h1
  clear hA0 hval0
  refine (walk v0 c0 w0 v1 c1 w1).mono fun e W' ⟨he, bel⟩ => ?_
  subst he
  exact ⟨_, rfl, _, _, _, [], _, [], hW', trodAll_mk1 (shut_bool Try.underlying4 _), (trodAll_cons_mk (Below.trod laidOut (by kernel_rfl) (of_decide_eq_true (by kernel_rfl)) k0 bel lt0) (trodAll_cons_mk (Below.trod laidOut (by kernel_rfl) (of_decide_eq_true (by kernel_rfl)) k1 bel lt1) trodAll_mk0)), rfl, bel.frame _, fun h => by cases h⟩

theorem over : Rows.fnExactRenameStatesRow.holds Try.pinned (OpenSpec.ofChange Rows.fnExactRenameStatesSpec) :=
  OpenClaim.holds_of_wide 8 Try.f8 rfl rfl rfl rfl rfl rfl rfl ⟨rfl, rfl, rfl, rfl, rfl⟩ rfl rfl rfl rfl rfl (by kernel_rfl) Try.func8 (by kernel_rfl)
    (of_decide_eq_true (by kernel_rfl)) (by unfold Func.isWrapper; first | (rw [if_pos (by decide +kernel)]; kernel_rfl) | (rw [if_neg (by decide +kernel)]; exact ⟨rfl, rfl⟩))
    (fun os started H enc _ => lifted os started H enc)

/-- the statement -/
theorem proved : Rows.FnExactRenameStatesSaid := over
end Go.Proofs.Ytepajimcnheofaa.fnExactRenameStates
