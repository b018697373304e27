/- For every chain, the project's MapsByDraws and the specification's answer alike, with the same code; the chain is left as it was, and the answer owns its memory.
   Conditions: none beyond the row's own (every input that can be read as data). -/
import Derived.Test.YtgbhkdoejnkmhaaMapsM
import Derived.Test.YtgbhkdoejnkmhaaMbd2
import Derived.Test.YtgbhkdoejnkmhaaOpen
namespace Go.Proofs.Ytgbhkdoejnkmhaa.fnExactMapsByDraws
open Go.ChangeShapes Go.WideShapes Go.ChangeAt Go.RowKit Go.Deep Go.Joins
open Go.ChangeMaps (open_string shut_string)
set_option linter.unusedVariables false

theorem own : ownKnob Try.prog.godebug = none := by kernel_rfl
theorem laidOut : laidOutB Try.prog = true := by kernel_rfl

theorem model_small (c : Ch) : ∃ rm rk, mbdOf c = (rm, rk) ∧ msz rm.l ≤ 420 := by
  refine ⟨(mbdOf c).1, (mbdOf c).2, rfl, ?_⟩
  unfold mbdOf
  split
  · rename_i h
    obtain ⟨n1, n2, t1, t2, _⟩ := chOk_all h
    have hb : ∀ l : List Mp, ∀ m, (∀ r ∈ l, r.2.length ≤ m) → tot l ≤ m * l.length := by
      intro l m h
      induction l with
      | nil => simp [tot, total]
      | cons r rs ih =>
        have h1 := h r (by simp)
        have h2 := ih (fun x hx => h x (by simp [hx]))
        simp only [tot] at h2
        simp only [tot, List.map_cons, total, List.length_cons, Nat.mul_add]
        omega
    have := hb ((List.range c.t.toNat).map fun d => ((1 : Int), drawTo c c.n.toNat d)) 6 (fun r hr => by simp at hr; obtain ⟨a, _, rfl⟩ := hr; simp [drawTo_length]; omega)
    have hl : ((List.range c.t.toNat).map fun d => ((1 : Int), drawTo c c.n.toNat d)).length ≤ 60 := by simp; omega
    simp only [msz]; omega
  · show msz [] ≤ 420; decide

set_option maxRecDepth 100000 in
set_option maxHeartbeats 16000000 in
theorem walk_long0 {w : World} (v0 : Value) (c0 : Ch) (k0 : ChR w v0 c0)  (hq0 : (1048576 : Int) < (((c0.w.length + total c0.w) : Nat) : Int)) :
    Calls Try.prog 6 #[v0] w fun e w' => e = .returned (.bool true) ∧ Below w.heap.size w w' := by
  obtain ⟨a0, a0c, rfl⟩ := k0.shape
  have H0 := (Blk.new w #[.int .i64 c0.n, .int .i64 c0.t, .slice a0 c0.w.length a0c] 42)
  have B0 : Below w.heap.size w (w.alloc (.cells #[.int .i64 c0.n, .int .i64 c0.t, .slice a0 c0.w.length a0c] 42)) := below1 w (.cells #[.int .i64 c0.n, .int .i64 c0.t, .slice a0 c0.w.length a0c] 42)
  have K0 := ChUnder.of (k0.keep B0)
  have zu0 : w.heap.size + 1 = (w.alloc (.cells #[.int .i64 c0.n, .int .i64 c0.t, .slice a0 c0.w.length a0c] 42)).heap.size := by simp
  have SB : Since (w.alloc (.cells #[.int .i64 c0.n, .int .i64 c0.t, .slice a0 c0.w.length a0c] 42)).heap.size (w.alloc (.cells #[.int .i64 c0.n, .int .i64 c0.t, .slice a0 c0.w.length a0c] 42)) (w.alloc (.cells #[.int .i64 c0.n, .int .i64 c0.t, .slice a0 c0.w.length a0c] 42)) := ⟨Below.refl _ _, Nat.le_refl _⟩
  obtain ⟨u0, hu0⟩ : ∃ u, (w.alloc (.cells #[.int .i64 c0.n, .int .i64 c0.t, .slice a0 c0.w.length a0c] 42)) = u := ⟨_, rfl⟩
  rw [hu0] at H0 K0 B0 zu0 SB
  have zu0' := Lib.hid zu0
  have hu0' := Lib.hid hu0
  have z0a : 1 + w.heap.size ≤ u0.heap.size := by omega
  clear zu0 hu0
  have hn := szLeft_no (left := 1048576) (n := (c0.w.length + total c0.w)) (by omega)
  have hneg : szLeft 1048576 (c0.w.length + total c0.w) < 0 := by rw [hn]; decide
  clear hn
  go_enter Try.func6, Try.ntmps6
  obtain ⟨pH00, pH01, pH02⟩ := H0.three
  go_wp2_with fail
  rw [hu0'.out]
  refine (szChain_any _ c0 1048576 _ K0.now (by omega) (by omega)).mono ?_
  rintro e u1 ⟨rfl, b1⟩
  clear pH00 pH01 pH02
  have zb1 := b1.size
  go_wp2
  go_ret
  replace SB := SB.step b1
  exact ⟨rfl, B0.trans (SB.bel.mono B0.size)⟩

set_option maxRecDepth 100000 in
set_option maxHeartbeats 16000000 in
theorem walk_ok {w : World} (v0 : Value) (c0 : Ch) (k0 : ChR w v0 c0) (hq0 : (((c0.w.length + total c0.w) : Nat) : Int) ≤ (1048576 : Int)) :
    Calls Try.prog 6 #[v0] w fun e w' => e = .returned (.bool true) ∧ Below w.heap.size w w' := by
  obtain ⟨a0, a0c, rfl⟩ := k0.shape
  have H0 := (Blk.new w #[.int .i64 c0.n, .int .i64 c0.t, .slice a0 c0.w.length a0c] 42)
  have B0 : Below w.heap.size w (w.alloc (.cells #[.int .i64 c0.n, .int .i64 c0.t, .slice a0 c0.w.length a0c] 42)) := below1 w (.cells #[.int .i64 c0.n, .int .i64 c0.t, .slice a0 c0.w.length a0c] 42)
  have K0 := ChUnder.of (k0.keep B0)
  have zu0 : w.heap.size + 1 = (w.alloc (.cells #[.int .i64 c0.n, .int .i64 c0.t, .slice a0 c0.w.length a0c] 42)).heap.size := by simp
  have SB : Since (w.alloc (.cells #[.int .i64 c0.n, .int .i64 c0.t, .slice a0 c0.w.length a0c] 42)).heap.size (w.alloc (.cells #[.int .i64 c0.n, .int .i64 c0.t, .slice a0 c0.w.length a0c] 42)) (w.alloc (.cells #[.int .i64 c0.n, .int .i64 c0.t, .slice a0 c0.w.length a0c] 42)) := ⟨Below.refl _ _, Nat.le_refl _⟩
  obtain ⟨u0, hu0⟩ : ∃ u, (w.alloc (.cells #[.int .i64 c0.n, .int .i64 c0.t, .slice a0 c0.w.length a0c] 42)) = u := ⟨_, rfl⟩
  rw [hu0] at H0 K0 B0 zu0 SB
  have zu0' := Lib.hid zu0
  have hu0' := Lib.hid hu0
  have z0a : 1 + w.heap.size ≤ u0.heap.size := by omega
  clear zu0 hu0
  have hy0 := szLeft_yes (left := 1048576) (n := (c0.w.length + total c0.w)) (by omega)
  have g1 : 0 ≤ (szLeft 1048576 (c0.w.length + total c0.w)) := by omega
  have gg1 : (szLeft 1048576 (c0.w.length + total c0.w)) ≤ 1048576 := by omega
  clear hy0
  obtain ⟨L1, hL1⟩ : ∃ l, szLeft 1048576 (c0.w.length + total c0.w) = l := ⟨_, rfl⟩
  rw [hL1] at g1 gg1
  have hM1 := Lib.hid hL1
  clear hL1
  have hbd0 : (c0.w.length + total c0.w) ≤ 2097152 := by omega
  have hti0 : ((total c0.w : Nat) : Int) ≤ 2097152 := by omega
  obtain ⟨rm, rk, hm0, hrt⟩ : ∃ r rk, mbdOf c0 = (r, rk) ∧ msz r.l ≤ 420 := model_small c0
  have hm := Lib.hid hm0
  clear hm0
  go_enter Try.func6, Try.ntmps6
  obtain ⟨pH00, pH01, pH02⟩ := H0.three
  go_wp2_with fail
  rw [hu0'.out]
  refine (szChain_any _ c0 1048576 _ K0.now (by omega) (by omega)).mono ?_
  rintro e u1 ⟨rfl, b1⟩
  clear pH00 pH01 pH02
  have zb1 := b1.size
  rw [hM1.out]
  replace K0 := K0.step b1
  replace H0 := H0.step b1
  obtain ⟨pH00, pH01, pH02⟩ := H0.three
  go_wp2_with fail
  refine (to_ch _ c0 _ K0.now hbd0).mono ?_
  rintro e u2 ⟨s0, rfl, os0, b2⟩
  clear pH00 pH01 pH02
  have zb2 := b2.size
  obtain ⟨s0a, s0ac, rfl⟩ := os0.shape
  have S0 := os0
  go_wp2_with fail
  refine (MapsByDraws_spec _ c0 _ S0.ch).mono ?_
  rintro e u3 ⟨sr, rfl, osr, b3⟩
  have zb3 := b3.size
  rw [hm.out] at osr ⊢
  obtain ⟨sra, srac, rfl⟩ := osr.shape
  have SR := osr.mine
  have b4 := below1 u3 (.cells #[.int .i64 rm.n, .int .i64 rm.t, .slice sra rm.l.length srac] 29)
  have W0 := Blk.new u3 #[.int .i64 rm.n, .int .i64 rm.t, .slice sra rm.l.length srac] 29
  have yb4 : u3.heap.size < (u3.alloc (.cells #[.int .i64 rm.n, .int .i64 rm.t, .slice sra rm.l.length srac] 29)).heap.size := by simp
  obtain ⟨u4, hu40⟩ : ∃ u, (u3.alloc (.cells #[.int .i64 rm.n, .int .i64 rm.t, .slice sra rm.l.length srac] 29)) = u := ⟨_, rfl⟩
  rw [hu40] at b4 W0 yb4
  have hu4 := Lib.hid hu40
  clear hu40
  go_upto_region 6 with fail
  rw [hu4.out]
  have bc1_4 := (below_wt (below_wt b2 b3) b4)
  replace K0 := K0.step bc1_4
  replace H0 := H0.step bc1_4
  obtain ⟨pH00, pH01, pH02⟩ := H0.three
  go_wp2_with fail
  refine (to_ch _ c0 _ K0.now hbd0).mono ?_
  rintro e u5 ⟨x0_, rfl, ox0_, b5⟩
  clear pH00 pH01 pH02
  have zb5 := b5.size
  obtain ⟨x0_a, x0_ac, rfl⟩ := ox0_.shape
  have X0 := ox0_
  have b6 := below1 u5 (.cells #[.int .i64 c0.n, .int .i64 c0.t, .slice x0_a c0.w.length x0_ac] 36)
  have Q0 := Blk.new u5 #[.int .i64 c0.n, .int .i64 c0.t, .slice x0_a c0.w.length x0_ac] 36
  have yb6 : u5.heap.size < (u5.alloc (.cells #[.int .i64 c0.n, .int .i64 c0.t, .slice x0_a c0.w.length x0_ac] 36)).heap.size := by simp
  obtain ⟨u6, hu60⟩ : ∃ u, (u5.alloc (.cells #[.int .i64 c0.n, .int .i64 c0.t, .slice x0_a c0.w.length x0_ac] 36)) = u := ⟨_, rfl⟩
  rw [hu60] at b6 Q0 yb6
  have hu6 := Lib.hid hu60
  clear hu60
  go_upto_region 7 with fail
  rw [hu6.out]
  replace X0 := X0.step b6
  obtain ⟨pQ00, pQ01, pQ02⟩ := Q0.three
  go_wp2_with fail
  refine (MapsByDraws_impl _ c0 _ X0.ch).mono ?_
  rintro e u7 ⟨gr, rfl, ogr, b7⟩
  clear pQ00 pQ01 pQ02
  have zb7 := b7.size
  rw [hm.out] at ogr ⊢
  obtain ⟨gra, grac, rfl⟩ := ogr.shape
  have GR := ogr.mine
  have b8 := below1 u7 (.cells #[.int .i64 rm.n, .int .i64 rm.t, .slice gra rm.l.length grac] 29)
  have G0 := Blk.new u7 #[.int .i64 rm.n, .int .i64 rm.t, .slice gra rm.l.length grac] 29
  have yb8 : u7.heap.size < (u7.alloc (.cells #[.int .i64 rm.n, .int .i64 rm.t, .slice gra rm.l.length grac] 29)).heap.size := by simp
  obtain ⟨u8, hu80⟩ : ∃ u, (u7.alloc (.cells #[.int .i64 rm.n, .int .i64 rm.t, .slice gra rm.l.length grac] 29)) = u := ⟨_, rfl⟩
  rw [hu80] at b8 G0 yb8
  have hu8 := Lib.hid hu80
  clear hu80
  go_upto_region 8 with fail
  rw [hu8.out]
  replace GR := GR.step b8
  have bc3_8 := (below_wt (below_wt (below_wt (below_wt b4 b5) b6) b7) b8)
  replace SR := SR.step bc3_8
  have bc4_8 := (below_wt (below_wt (below_wt b5 b6) b7) b8)
  replace W0 := W0.step bc4_8
  obtain ⟨pG00, pG01, pG02⟩ := G0.three
  obtain ⟨pW00, pW01, pW02⟩ := W0.three
  go_wp2_with fail
  refine (eq_ms _ _ rm _ GR.ch SR.ch).mono ?_
  rintro e u9 ⟨rfl, b9⟩
  clear pG00 pG01 pG02
  clear pW00 pW01 pW02
  have zb9 := b9.size
  have bc4_9 := (below_wt (below_wt (below_wt (below_wt b5 b6) b7) b8) b9)
  replace K0 := K0.step bc4_9
  have bc6_9 := (below_wt (below_wt b7 b8) b9)
  replace X0 := X0.step bc6_9
  replace H0 := H0.step bc4_9
  replace Q0 := Q0.step bc6_9
  obtain ⟨pH00, pH01, pH02⟩ := H0.three
  obtain ⟨pQ00, pQ01, pQ02⟩ := Q0.three
  go_wp2_with fail
  have b10 := below_drew u9
  have zb10 := b10.size
  replace H0 := H0.step b10
  replace Q0 := Q0.step b10
  replace K0 := K0.step b10
  replace X0 := X0.step b10
  go_region_held3 (fun w' => w'.cell? ⟨w.heap.size, 0, none⟩ = some (.int .i64 c0.n) ∧ w'.cell? ⟨w.heap.size, 1, none⟩ = some (.int .i64 c0.t) ∧ w'.cell? ⟨w.heap.size, 2, none⟩ = some (.slice a0 c0.w.length a0c) ∧ w'.cell? ⟨u5.heap.size, 0, none⟩ = some (.int .i64 c0.n) ∧ w'.cell? ⟨u5.heap.size, 1, none⟩ = some (.int .i64 c0.t) ∧ w'.cell? ⟨u5.heap.size, 2, none⟩ = some (.slice x0_a c0.w.length x0_ac)) (first | with_reducible exact three2 H0 Q0 | go_keep) (first | (have _t := toky0; go_at_call 24; (with_reducible refine (eq_ch _ _ c0 _ X0.ch oy0.ch).mono ?_); rintro e u12 ⟨rfl, b12⟩; have zb12 := b12.size; replace H0 := H0.step b12; replace Q0 := Q0.step b12; replace K0 := K0.step b12; replace X0 := X0.step b12; clear pH00 pH01 pH02; clear pQ00 pQ01 pQ02; obtain ⟨pH00, pH01, pH02⟩ := H0.three; obtain ⟨pQ00, pQ01, pQ02⟩ := Q0.three; skip) | (go_at_call 30; (with_reducible refine (to_ch _ c0 _ K0.now hbd0).mono ?_); rintro e u11 ⟨y0, rfl, oy0, b11⟩; have zb11 := b11.size; replace H0 := H0.step b11; replace Q0 := Q0.step b11; replace K0 := K0.step b11; replace X0 := X0.step b11; clear pH00 pH01 pH02; clear pQ00 pQ01 pQ02; obtain ⟨pH00, pH01, pH02⟩ := H0.three; obtain ⟨pQ00, pQ01, pQ02⟩ := Q0.three; obtain ⟨y0a, y0ac, rfl⟩ := oy0.shape; have toky0 : True := trivial))
  clear pH00 pH01 pH02
  clear pQ00 pQ01 pQ02
  obtain ⟨pQ00, pQ01, pQ02⟩ := Q0.three
  go_wp2_with fail
  refine (mark_mine X0 (by omega) (by omega)).mono ?_
  rintro e u13 ⟨rfl, mx0, b13⟩
  clear pQ00 pQ01 pQ02
  have zb13 := b13.size
  have hk1 : 0 ≤ 1 + ((total c0.w : Nat) : Int) := by omega
  have bc8_12 := (below_wt (below_wt (below_wt b9 b10) b11) b12)
  replace GR := GR.step bc8_12
  replace GR := GR.touch b13 (by omega)
  replace SR := SR.step bc8_12
  replace SR := SR.touch b13 (by omega)
  replace G0 := G0.step bc8_12
  replace G0 := G0.touch b13 (by omega)
  replace W0 := W0.step bc8_12
  replace W0 := W0.touch b13 (by omega)
  obtain ⟨pG00, pG01, pG02⟩ := G0.three
  obtain ⟨pW00, pW01, pW02⟩ := W0.three
  go_wp2_with fail
  refine (eq_ms _ _ rm _ GR.ch SR.ch).mono ?_
  rintro e u14 ⟨rfl, b14⟩
  clear pG00 pG01 pG02
  clear pW00 pW01 pW02
  have zb14 := b14.size
  replace GR := GR.step b14
  replace G0 := G0.step b14
  obtain ⟨pG00, pG01, pG02⟩ := G0.three
  go_wp2_with fail
  refine (mark_ms GR (by omega) (by omega)).mono ?_
  rintro e u15 ⟨rfl, mg, b15⟩
  clear pG00 pG01 pG02
  have zb15 := b15.size
  have hk2 : 0 ≤ 1 + ((msz rm.l : Nat) : Int) := by omega
  replace G0 := G0.touch b15 (by omega)
  obtain ⟨pG00, pG01, pG02⟩ := G0.three
  go_wp2_with fail
  refine (held_ms mg (by omega) (by omega)).mono ?_
  rintro e u16 ⟨rfl, b16⟩
  clear pG00 pG01 pG02
  have zb16 := b16.size
  replace K0 := K0.touch b13 (by omega)
  replace K0 := K0.step b14
  replace K0 := K0.touch b15 (by omega)
  replace K0 := K0.step b16
  replace H0 := H0.touch b13 (by omega)
  replace H0 := H0.step b14
  replace H0 := H0.touch b15 (by omega)
  replace H0 := H0.step b16
  obtain ⟨pH00, pH01, pH02⟩ := H0.three
  go_wp2_with fail
  refine (to_ch _ c0 _ K0.now hbd0).mono ?_
  rintro e u17 ⟨t0, rfl, ot0, b17⟩
  clear pH00 pH01 pH02
  have zb17 := b17.size
  obtain ⟨t0a, t0ac, rfl⟩ := ot0.shape
  have T0 := ot0
  go_wp2_with fail
  refine (MapsByDraws_impl _ c0 _ T0.ch).mono ?_
  rintro e u18 ⟨tr, rfl, otr, b18⟩
  have zb18 := b18.size
  rw [hm.out] at otr ⊢
  obtain ⟨tra, trac, rfl⟩ := otr.shape
  have TR := otr.mine
  have b19 := below1 u18 (.cells #[.int .i64 rm.n, .int .i64 rm.t, .slice tra rm.l.length trac] 29)
  have T9 := Blk.new u18 #[.int .i64 rm.n, .int .i64 rm.t, .slice tra rm.l.length trac] 29
  have yb19 : u18.heap.size < (u18.alloc (.cells #[.int .i64 rm.n, .int .i64 rm.t, .slice tra rm.l.length trac] 29)).heap.size := by simp
  obtain ⟨u19, hu190⟩ : ∃ u, (u18.alloc (.cells #[.int .i64 rm.n, .int .i64 rm.t, .slice tra rm.l.length trac] 29)) = u := ⟨_, rfl⟩
  rw [hu190] at b19 T9 yb19
  have hu19 := Lib.hid hu190
  clear hu190
  go_upto_region 25 with fail
  rw [hu19.out]
  replace TR := TR.step b19
  replace SR := SR.step b14
  replace SR := SR.touch b15 (by omega)
  have bc15_19 := (below_wt (below_wt (below_wt b16 b17) b18) b19)
  replace SR := SR.step bc15_19
  replace W0 := W0.step b14
  replace W0 := W0.touch b15 (by omega)
  replace W0 := W0.step bc15_19
  obtain ⟨pT90, pT91, pT92⟩ := T9.three
  obtain ⟨pW00, pW01, pW02⟩ := W0.three
  go_wp2_with fail
  refine (eq_ms _ _ rm _ TR.ch SR.ch).mono ?_
  rintro e u20 ⟨rfl, b20⟩
  clear pT90 pT91 pT92
  clear pW00 pW01 pW02
  have zb20 := b20.size
  have bc15_20 := (below_wt (below_wt (below_wt (below_wt b16 b17) b18) b19) b20)
  replace mg := mg.step bc15_20
  replace G0 := G0.step bc15_20
  obtain ⟨pG00, pG01, pG02⟩ := G0.three
  go_wp2_with fail
  refine (held_ms mg (by omega) (by omega)).mono ?_
  rintro e u21 ⟨rfl, b21⟩
  clear pG00 pG01 pG02
  have zb21 := b21.size
  go_wp2
  go_ret
  have bc0_12 := (below_wt (below_wt (below_wt (below_wt (below_wt (below_wt (below_wt (below_wt (below_wt (below_wt (below_wt b1 b2) b3) b4) b5) b6) b7) b8) b9) b10) b11) b12)
  replace SB := SB.step bc0_12
  replace SB := SB.touch b13 (by omega)
  replace SB := SB.step b14
  replace SB := SB.touch b15 (by omega)
  have bc15_21 := (below_wt (below_wt (below_wt (below_wt (below_wt b16 b17) b18) b19) b20) b21)
  replace SB := SB.step bc15_21
  exact ⟨rfl, B0.trans (SB.bel.mono B0.size)⟩

theorem walk {w : World} (v0 : Value) (c0 : Ch) (k0 : ChR w v0 c0) :
    Calls Try.prog 6 #[v0] w fun e w' => e = .returned (.bool true) ∧ Below w.heap.size w w' := by
  by_cases h0 : (((c0.w.length + total c0.w) : Nat) : Int) ≤ (1048576 : Int)
  rotate_left
  · exact walk_long0 v0 c0 k0  (by omega)
  exact walk_ok v0 c0 k0 h0

set_option maxRecDepth 100000 in
theorem lifted (os : Os) (started : os.Started) (H : Type) (enc : TypeId × Value → H) :
    ReturnsInHanded {} Try.checked os 6 .any (Rows.fnExactMapsByDrawsSpec.pre6 enc Try.prog Try.f6 Rows.fnExactMapsByDrawsRow.domain false) (Rows.fnExactMapsByDrawsSpec.post enc Try.prog Try.f6 false true false false) := by
  refine returnsInHanded_of_change (C := Try.checked) own started (by kernel_rfl) Try.func6
    (ChangeSpec.witness6 (enc := enc) (C := Try.checked) false ⟨#[], #[.agg #[.int .i64 0, .int .i64 0, .slice none 0 0]], []⟩ 8 (by kernel_rfl) (by kernel_rfl) (by kernel_rfl) (by kernel_rfl)) ?_
  intro W base args ds gs before hval0 hW hcnd _
  have hval : ∀ (j : Nat) t v, Try.f6.params[j]? = some t → args[j]? = some v → Value.okWide Try.prog W .any base t v := hval0
  have hW' := hW
  obtain ⟨p, q, hA0, hV, rfl, hfz, hnd⟩ := hW
  have hA : DataW.TrodAll enc Try.prog W 0 (fun _ => true) true Try.f6.params.toList args.toList ds p := hA0
  rw [Try.params6] at hA hval
  obtain ⟨v0, vs0, d0, ds0, p0, q0, hargs, rfl, rfl, h0, r0⟩ := trodAll_cons hA
  obtain ⟨rfl, rfl, rfl⟩ := trodAll_nil r0
  obtain rfl : args = #[v0] := by cases args; simp_all
  obtain ⟨rfl, rfl⟩ := trodVars_none hV
  have k0 := h0
  have lt0 : ∀ x ∈ p0, x.block < W.heap.size := by obtain ⟨m, hm⟩ := k0; exact DataW.trod_lt m _ _ _ hm
  obtain ⟨c0, w0⟩ := open_chain (hval 0 42 v0 rfl rfl) h0
  clear hA0 hval0
  refine (walk v0 c0 w0).mono fun e W' ⟨he, bel⟩ => ?_
  subst he
  exact ⟨_, rfl, _, _, _, [], _, [], hW', trodAll_mk1 (shut_bool Try.underlying4 _), (trodAll_cons_mk (Below.trod laidOut (by kernel_rfl) (of_decide_eq_true (by kernel_rfl)) k0 bel lt0) trodAll_mk0), rfl, bel.frame _, fun h => by cases h⟩

theorem over : Rows.fnExactMapsByDrawsRow.holds Try.pinned (OpenSpec.ofChange Rows.fnExactMapsByDrawsSpec) :=
  OpenClaim.holds_of_wide 6 Try.f6 rfl rfl rfl rfl rfl rfl rfl ⟨rfl, rfl, rfl, rfl, rfl⟩ rfl rfl rfl rfl rfl (by kernel_rfl) Try.func6 (by kernel_rfl)
    (of_decide_eq_true (by kernel_rfl)) (by unfold Func.isWrapper; first | (rw [if_pos (by decide +kernel)]; kernel_rfl) | (rw [if_neg (by decide +kernel)]; exact ⟨rfl, rfl⟩))
    (fun os started H enc _ => lifted os started H enc)

/-- the statement -/
theorem proved : Rows.FnExactMapsByDrawsSaid := over
end Go.Proofs.Ytgbhkdoejnkmhaa.fnExactMapsByDraws
