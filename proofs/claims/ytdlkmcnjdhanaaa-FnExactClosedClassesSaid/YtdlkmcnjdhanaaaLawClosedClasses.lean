/- For every chain, the project's ClosedClasses and the specification's answer alike, with the same code; the chain is left as it was, and the answer owns its memory.
   Conditions: none beyond the row's own (every input that can be read as data). -/
import Derived.Test.YtdlkmcnjdhanaaaKinds
import Derived.Test.YtdlkmcnjdhanaaaRun
import Derived.Test.YtdlkmcnjdhanaaaClassJ
import Derived.Test.YtdlkmcnjdhanaaaOpen
namespace Go.Proofs.Ytdlkmcnjdhanaaa.fnExactClosedClasses
open Go.ChangeShapes Go.WideShapes Go.ChangeAt Go.RowKit Go.Deep Go.Joins
open Go.ChangeMaps (open_string shut_string)
set_option linter.unusedVariables false

theorem own : ownKnob Try.prog.godebug = none := by kernel_rfl
theorem laidOut : laidOutB Try.prog = true := by kernel_rfl

theorem total_le (m : Nat) : ∀ (xss : List (List Int)), (∀ x ∈ xss, x.length ≤ m) → total xss ≤ m * xss.length
  | [], _ => by simp [total]
  | x :: r, h => by
    have h1 := h x (by simp)
    have h2 := total_le m r (fun y hy => h y (by simp [hy]))
    simp only [total, List.length_cons, Nat.mul_succ]; omega
theorem model_small (c : Ch) : ∃ r rk, cloOf c = (r, rk) ∧ total r ≤ 42 := by
  refine ⟨(cloOf c).1, (cloOf c).2, rfl, ?_⟩
  unfold cloOf
  split
  · rename_i oc
    obtain ⟨n1, n2, -, -, hlen, -⟩ := chOk_all oc
    have h1 := closedL_len (rchB c) c.w.length c.w.length
    have h2 := total_le 6 (closedL (rchB c) c.w.length c.w.length) (fun x hx => by
      obtain ⟨i, hi, rfl⟩ := List.mem_iff_getElem.1 hx
      have := closedL_total (rchB c) c.w.length c.w.length i hi
      simp only [List.getD, List.getElem?_eq_getElem hi, Option.getD_some] at this
      omega)
    simp only
    omega
  · simp [total]

theorem clo_spec (cv : Value) (c : Ch) (w : World) (hc : ChR w cv c) :
    Calls Try.prog 19 #[cv] w fun e w' => ∃ rv, e = .returned (.tuple #[rv, .int .i64 (cloOf c).2]) ∧ RowsMine 26 2 w' w.heap.size w'.heap.size rv (cloOf c).1 ∧ Below w.heap.size w w' :=
  (ClosedClasses_spec cv c w hc).mono fun _ _ ⟨rv, h1, h2, h3⟩ => ⟨rv, h1, ⟨h2, Nat.le_refl _⟩, h3⟩
theorem clo_impl (cv : Value) (c : Ch) (w : World) (hc : ChR w cv c) :
    Calls Try.prog 20 #[cv] w fun e w' => ∃ rv, e = .returned (.tuple #[rv, .int .i64 (cloOf c).2]) ∧ RowsMine 26 2 w' w.heap.size w'.heap.size rv (cloOf c).1 ∧ Below w.heap.size w w' :=
  (ClosedClasses_impl cv c w hc).mono fun _ _ ⟨rv, h1, h2, h3⟩ => ⟨rv, h1, ⟨h2, Nat.le_refl _⟩, h3⟩

set_option maxRecDepth 100000 in
set_option maxHeartbeats 16000000 in
theorem walk_long0 {w : World} (v0 : Value) (c0 : Ch) (k0 : ChR w v0 c0)  (hq0 : (1048576 : Int) < (((c0.w.length + total c0.w) : Nat) : Int)) :
    Calls Try.prog 5 #[v0] w fun e w' => e = .returned (.bool true) ∧ Below w.heap.size w w' := by
  obtain ⟨a0, a0c, rfl⟩ := k0.shape
  have H0 := (Blk.new w #[.int .i64 c0.n, .int .i64 c0.t, .slice a0 c0.w.length a0c] 24)
  have B0 : Below w.heap.size w (w.alloc (.cells #[.int .i64 c0.n, .int .i64 c0.t, .slice a0 c0.w.length a0c] 24)) := below1 w (.cells #[.int .i64 c0.n, .int .i64 c0.t, .slice a0 c0.w.length a0c] 24)
  have K0 := ChUnder.of (k0.keep B0)
  have zu0 : w.heap.size + 1 = (w.alloc (.cells #[.int .i64 c0.n, .int .i64 c0.t, .slice a0 c0.w.length a0c] 24)).heap.size := by simp
  have SB : Since (w.alloc (.cells #[.int .i64 c0.n, .int .i64 c0.t, .slice a0 c0.w.length a0c] 24)).heap.size (w.alloc (.cells #[.int .i64 c0.n, .int .i64 c0.t, .slice a0 c0.w.length a0c] 24)) (w.alloc (.cells #[.int .i64 c0.n, .int .i64 c0.t, .slice a0 c0.w.length a0c] 24)) := ⟨Below.refl _ _, Nat.le_refl _⟩
  obtain ⟨u0, hu0⟩ : ∃ u, (w.alloc (.cells #[.int .i64 c0.n, .int .i64 c0.t, .slice a0 c0.w.length a0c] 24)) = u := ⟨_, rfl⟩
  rw [hu0] at H0 K0 B0 zu0 SB
  have zu0' := Lib.hid zu0
  have hu0' := Lib.hid hu0
  have z0a : 1 + w.heap.size ≤ u0.heap.size := by omega
  clear zu0 hu0
  have hn := szLeft_no (left := 1048576) (n := (c0.w.length + total c0.w)) (by omega)
  have hneg : szLeft 1048576 (c0.w.length + total c0.w) < 0 := by rw [hn]; decide
  clear hn
  go_enter Try.func5, Try.ntmps5
  obtain ⟨pH00, pH01, pH02⟩ := H0.three
  go_wp2_with fail
  rw [hu0'.out]
  refine (szChain_any _ c0 1048576 _ K0.now (by omega) (by omega)).mono ?_
  rintro e u1 ⟨rfl, b1⟩
  clear pH00 pH01 pH02
  have zb1 := b1.size
  go_wp2
  go_ret
  replace SB := SB.step b1
  exact ⟨rfl, B0.trans (SB.bel.mono B0.size)⟩

set_option maxRecDepth 100000 in
set_option maxHeartbeats 16000000 in
theorem walk_ok {w : World} (v0 : Value) (c0 : Ch) (k0 : ChR w v0 c0) (hq0 : (((c0.w.length + total c0.w) : Nat) : Int) ≤ (1048576 : Int)) :
    Calls Try.prog 5 #[v0] w fun e w' => e = .returned (.bool true) ∧ Below w.heap.size w w' := by
  obtain ⟨a0, a0c, rfl⟩ := k0.shape
  have H0 := (Blk.new w #[.int .i64 c0.n, .int .i64 c0.t, .slice a0 c0.w.length a0c] 24)
  have B0 : Below w.heap.size w (w.alloc (.cells #[.int .i64 c0.n, .int .i64 c0.t, .slice a0 c0.w.length a0c] 24)) := below1 w (.cells #[.int .i64 c0.n, .int .i64 c0.t, .slice a0 c0.w.length a0c] 24)
  have K0 := ChUnder.of (k0.keep B0)
  have zu0 : w.heap.size + 1 = (w.alloc (.cells #[.int .i64 c0.n, .int .i64 c0.t, .slice a0 c0.w.length a0c] 24)).heap.size := by simp
  have SB : Since (w.alloc (.cells #[.int .i64 c0.n, .int .i64 c0.t, .slice a0 c0.w.length a0c] 24)).heap.size (w.alloc (.cells #[.int .i64 c0.n, .int .i64 c0.t, .slice a0 c0.w.length a0c] 24)) (w.alloc (.cells #[.int .i64 c0.n, .int .i64 c0.t, .slice a0 c0.w.length a0c] 24)) := ⟨Below.refl _ _, Nat.le_refl _⟩
  obtain ⟨u0, hu0⟩ : ∃ u, (w.alloc (.cells #[.int .i64 c0.n, .int .i64 c0.t, .slice a0 c0.w.length a0c] 24)) = u := ⟨_, rfl⟩
  rw [hu0] at H0 K0 B0 zu0 SB
  have zu0' := Lib.hid zu0
  have hu0' := Lib.hid hu0
  have z0a : 1 + w.heap.size ≤ u0.heap.size := by omega
  clear zu0 hu0
  have hy0 := szLeft_yes (left := 1048576) (n := (c0.w.length + total c0.w)) (by omega)
  have g1 : 0 ≤ (szLeft 1048576 (c0.w.length + total c0.w)) := by omega
  have gg1 : (szLeft 1048576 (c0.w.length + total c0.w)) ≤ 1048576 := by omega
  clear hy0
  obtain ⟨L1, hL1⟩ : ∃ l, szLeft 1048576 (c0.w.length + total c0.w) = l := ⟨_, rfl⟩
  rw [hL1] at g1 gg1
  have hM1 := Lib.hid hL1
  clear hL1
  have hbd0 : (c0.w.length + total c0.w) ≤ 2097152 := by omega
  have hti0 : ((total c0.w : Nat) : Int) ≤ 2097152 := by omega
  obtain ⟨rr, rk, hm0, hrt⟩ : ∃ r rk, cloOf c0 = (r, rk) ∧ total r ≤ 42 := model_small c0
  have hm := Lib.hid hm0
  clear hm0
  go_enter Try.func5, Try.ntmps5
  obtain ⟨pH00, pH01, pH02⟩ := H0.three
  go_wp2_with fail
  rw [hu0'.out]
  refine (szChain_any _ c0 1048576 _ K0.now (by omega) (by omega)).mono ?_
  rintro e u1 ⟨rfl, b1⟩
  clear pH00 pH01 pH02
  have zb1 := b1.size
  rw [hM1.out]
  replace K0 := K0.step b1
  replace H0 := H0.step b1
  obtain ⟨pH00, pH01, pH02⟩ := H0.three
  go_wp2_with fail
  refine (to_ch _ c0 _ K0.now hbd0).mono ?_
  rintro e u2 ⟨s0, rfl, os0, b2⟩
  clear pH00 pH01 pH02
  have zb2 := b2.size
  obtain ⟨s0a, s0ac, rfl⟩ := os0.shape
  have S0 := os0
  go_wp2_with fail
  refine (clo_spec _ c0 _ S0.ch).mono ?_
  rintro e u3 ⟨sr, rfl, osr, b3⟩
  have zb3 := b3.size
  rw [hm.out] at osr ⊢
  obtain ⟨sra, srac, rfl⟩ := osr.shape
  have SR := osr
  have bc1_3 := (below_wt b2 b3)
  replace K0 := K0.step bc1_3
  replace H0 := H0.step bc1_3
  obtain ⟨pH00, pH01, pH02⟩ := H0.three
  go_wp2_with fail
  refine (to_ch _ c0 _ K0.now hbd0).mono ?_
  rintro e u4 ⟨x0_, rfl, ox0_, b4⟩
  clear pH00 pH01 pH02
  have zb4 := b4.size
  obtain ⟨x0_a, x0_ac, rfl⟩ := ox0_.shape
  have X0 := ox0_
  have b5 := below1 u4 (.cells #[.int .i64 c0.n, .int .i64 c0.t, .slice x0_a c0.w.length x0_ac] 29)
  have Q0 := Blk.new u4 #[.int .i64 c0.n, .int .i64 c0.t, .slice x0_a c0.w.length x0_ac] 29
  have yb5 : u4.heap.size < (u4.alloc (.cells #[.int .i64 c0.n, .int .i64 c0.t, .slice x0_a c0.w.length x0_ac] 29)).heap.size := by simp
  obtain ⟨u5, hu50⟩ : ∃ u, (u4.alloc (.cells #[.int .i64 c0.n, .int .i64 c0.t, .slice x0_a c0.w.length x0_ac] 29)) = u := ⟨_, rfl⟩
  rw [hu50] at b5 Q0 yb5
  have hu5 := Lib.hid hu50
  clear hu50
  go_upto_region 7 with fail
  rw [hu5.out]
  replace X0 := X0.step b5
  obtain ⟨pQ00, pQ01, pQ02⟩ := Q0.three
  go_wp2_with fail
  refine (clo_impl _ c0 _ X0.ch).mono ?_
  rintro e u6 ⟨gr, rfl, ogr, b6⟩
  clear pQ00 pQ01 pQ02
  have zb6 := b6.size
  rw [hm.out] at ogr ⊢
  obtain ⟨gra, grac, rfl⟩ := ogr.shape
  have GR := ogr
  have bc3_6 := (below_wt (below_wt b4 b5) b6)
  replace SR := SR.step bc3_6
  go_wp2_with fail
  refine (eq_rows _ _ rr _ GR.ch SR.ch).mono ?_
  rintro e u7 ⟨rfl, b7⟩
  have zb7 := b7.size
  have bc3_7 := (below_wt (below_wt (below_wt b4 b5) b6) b7)
  replace K0 := K0.step bc3_7
  have bc5_7 := (below_wt b6 b7)
  replace X0 := X0.step bc5_7
  replace H0 := H0.step bc3_7
  replace Q0 := Q0.step bc5_7
  obtain ⟨pH00, pH01, pH02⟩ := H0.three
  obtain ⟨pQ00, pQ01, pQ02⟩ := Q0.three
  go_wp2_with fail
  have b8 := below_drew u7
  have zb8 := b8.size
  replace H0 := H0.step b8
  replace Q0 := Q0.step b8
  replace K0 := K0.step b8
  replace X0 := X0.step b8
  go_region_held3 (fun w' => w'.cell? ⟨w.heap.size, 0, none⟩ = some (.int .i64 c0.n) ∧ w'.cell? ⟨w.heap.size, 1, none⟩ = some (.int .i64 c0.t) ∧ w'.cell? ⟨w.heap.size, 2, none⟩ = some (.slice a0 c0.w.length a0c) ∧ w'.cell? ⟨u4.heap.size, 0, none⟩ = some (.int .i64 c0.n) ∧ w'.cell? ⟨u4.heap.size, 1, none⟩ = some (.int .i64 c0.t) ∧ w'.cell? ⟨u4.heap.size, 2, none⟩ = some (.slice x0_a c0.w.length x0_ac)) (first | with_reducible exact three2 H0 Q0 | go_keep) (first | (have _t := toky0; go_at_call 13; (with_reducible refine (eq_ch _ _ c0 _ X0.ch oy0.ch).mono ?_); rintro e u10 ⟨rfl, b10⟩; have zb10 := b10.size; replace H0 := H0.step b10; replace Q0 := Q0.step b10; replace K0 := K0.step b10; replace X0 := X0.step b10; clear pH00 pH01 pH02; clear pQ00 pQ01 pQ02; obtain ⟨pH00, pH01, pH02⟩ := H0.three; obtain ⟨pQ00, pQ01, pQ02⟩ := Q0.three; skip) | (go_at_call 10; (with_reducible refine (to_ch _ c0 _ K0.now hbd0).mono ?_); rintro e u9 ⟨y0, rfl, oy0, b9⟩; have zb9 := b9.size; replace H0 := H0.step b9; replace Q0 := Q0.step b9; replace K0 := K0.step b9; replace X0 := X0.step b9; clear pH00 pH01 pH02; clear pQ00 pQ01 pQ02; obtain ⟨pH00, pH01, pH02⟩ := H0.three; obtain ⟨pQ00, pQ01, pQ02⟩ := Q0.three; obtain ⟨y0a, y0ac, rfl⟩ := oy0.shape; have toky0 : True := trivial))
  clear pH00 pH01 pH02
  clear pQ00 pQ01 pQ02
  obtain ⟨pQ00, pQ01, pQ02⟩ := Q0.three
  go_wp2_with fail
  refine (mark_mine X0 (by omega) (by omega)).mono ?_
  rintro e u11 ⟨rfl, mx0, b11⟩
  clear pQ00 pQ01 pQ02
  have zb11 := b11.size
  have hk1 : 0 ≤ 1 + ((total c0.w : Nat) : Int) := by omega
  have bc6_10 := (below_wt (below_wt (below_wt b7 b8) b9) b10)
  replace GR := GR.step bc6_10
  replace GR := GR.touch b11 (by omega)
  replace SR := SR.step bc6_10
  replace SR := SR.touch b11 (by omega)
  go_wp2_with fail
  refine (eq_rows _ _ rr _ GR.ch SR.ch).mono ?_
  rintro e u12 ⟨rfl, b12⟩
  have zb12 := b12.size
  replace GR := GR.step b12
  go_wp2_with fail
  refine (mark_rows GR (by omega) (by omega)).mono ?_
  rintro e u13 ⟨rfl, mg, b13⟩
  have zb13 := b13.size
  have hk2 : 0 ≤ 1 + ((total rr : Nat) : Int) := by omega
  go_wp2_with fail
  refine (held_rows mg (by omega) (by omega)).mono ?_
  rintro e u14 ⟨rfl, b14⟩
  have zb14 := b14.size
  replace K0 := K0.touch b11 (by omega)
  replace K0 := K0.step b12
  replace K0 := K0.touch b13 (by omega)
  replace K0 := K0.step b14
  replace H0 := H0.touch b11 (by omega)
  replace H0 := H0.step b12
  replace H0 := H0.touch b13 (by omega)
  replace H0 := H0.step b14
  obtain ⟨pH00, pH01, pH02⟩ := H0.three
  go_wp2_with fail
  refine (to_ch _ c0 _ K0.now hbd0).mono ?_
  rintro e u15 ⟨t0, rfl, ot0, b15⟩
  clear pH00 pH01 pH02
  have zb15 := b15.size
  obtain ⟨t0a, t0ac, rfl⟩ := ot0.shape
  have T0 := ot0
  go_wp2_with fail
  refine (clo_impl _ c0 _ T0.ch).mono ?_
  rintro e u16 ⟨tr, rfl, otr, b16⟩
  have zb16 := b16.size
  rw [hm.out] at otr ⊢
  obtain ⟨tra, trac, rfl⟩ := otr.shape
  have TR := otr
  replace SR := SR.step b12
  replace SR := SR.touch b13 (by omega)
  have bc13_16 := (below_wt (below_wt b14 b15) b16)
  replace SR := SR.step bc13_16
  go_wp2_with fail
  refine (eq_rows _ _ rr _ TR.ch SR.ch).mono ?_
  rintro e u17 ⟨rfl, b17⟩
  have zb17 := b17.size
  have bc13_17 := (below_wt (below_wt (below_wt b14 b15) b16) b17)
  replace mg := mg.step bc13_17
  go_wp2_with fail
  refine (held_rows mg (by omega) (by omega)).mono ?_
  rintro e u18 ⟨rfl, b18⟩
  have zb18 := b18.size
  go_wp2
  go_ret
  have bc0_10 := (below_wt (below_wt (below_wt (below_wt (below_wt (below_wt (below_wt (below_wt (below_wt b1 b2) b3) b4) b5) b6) b7) b8) b9) b10)
  replace SB := SB.step bc0_10
  replace SB := SB.touch b11 (by omega)
  replace SB := SB.step b12
  replace SB := SB.touch b13 (by omega)
  have bc13_18 := (below_wt (below_wt (below_wt (below_wt b14 b15) b16) b17) b18)
  replace SB := SB.step bc13_18
  exact ⟨rfl, B0.trans (SB.bel.mono B0.size)⟩

theorem walk {w : World} (v0 : Value) (c0 : Ch) (k0 : ChR w v0 c0) :
    Calls Try.prog 5 #[v0] w fun e w' => e = .returned (.bool true) ∧ Below w.heap.size w w' := by
  by_cases h0 : (((c0.w.length + total c0.w) : Nat) : Int) ≤ (1048576 : Int)
  rotate_left
  · exact walk_long0 v0 c0 k0  (by omega)
  exact walk_ok v0 c0 k0 h0

set_option maxRecDepth 100000 in
theorem lifted (os : Os) (started : os.Started) (H : Type) (enc : TypeId × Value → H) :
    ReturnsInHanded {} Try.checked os 5 .any (Rows.fnExactClosedClassesSpec.pre6 enc Try.prog Try.f5 Rows.fnExactClosedClassesRow.domain false) (Rows.fnExactClosedClassesSpec.post enc Try.prog Try.f5 false true false false) := by
  refine returnsInHanded_of_change (C := Try.checked) own started (by kernel_rfl) Try.func5
    (ChangeSpec.witness6 (enc := enc) (C := Try.checked) false ⟨#[], #[.agg #[.int .i64 0, .int .i64 0, .slice none 0 0]], []⟩ 8 (by kernel_rfl) (by kernel_rfl) (by kernel_rfl) (by kernel_rfl)) ?_
  intro W base args ds gs before hval0 hW hcnd _
  have hval : ∀ (j : Nat) t v, Try.f5.params[j]? = some t → args[j]? = some v → Value.okWide Try.prog W .any base t v := hval0
  have hW' := hW
  obtain ⟨p, q, hA0, hV, rfl, hfz, hnd⟩ := hW
  have hA : DataW.TrodAll enc Try.prog W 0 (fun _ => true) true Try.f5.params.toList args.toList ds p := hA0
  rw [Try.params5] at hA hval
  obtain ⟨v0, vs0, d0, ds0, p0, q0, hargs, rfl, rfl, h0, r0⟩ := trodAll_cons hA
  obtain ⟨rfl, rfl, rfl⟩ := trodAll_nil r0
  obtain rfl : args = #[v0] := by cases args; simp_all
  obtain ⟨rfl, rfl⟩ := trodVars_none hV
  have k0 := h0
  have lt0 : ∀ x ∈ p0, x.block < W.heap.size := by obtain ⟨m, hm⟩ := k0; exact DataW.trod_lt m _ _ _ hm
  obtain ⟨c0, w0⟩ := open_chain (hval 0 24 v0 rfl rfl) h0
  clear hA0 hval0
  refine (walk v0 c0 w0).mono fun e W' ⟨he, bel⟩ => ?_
  subst he
  exact ⟨_, rfl, _, _, _, [], _, [], hW', trodAll_mk1 (shut_bool Try.underlying4 _), (trodAll_cons_mk (Below.trod laidOut (by kernel_rfl) (of_decide_eq_true (by kernel_rfl)) k0 bel lt0) trodAll_mk0), rfl, bel.frame _, fun h => by cases h⟩

theorem over : Rows.fnExactClosedClassesRow.holds Try.pinned (OpenSpec.ofChange Rows.fnExactClosedClassesSpec) :=
  OpenClaim.holds_of_wide 5 Try.f5 rfl rfl rfl rfl rfl rfl rfl ⟨rfl, rfl, rfl, rfl, rfl⟩ rfl rfl rfl rfl rfl (by kernel_rfl) Try.func5 (by kernel_rfl)
    (of_decide_eq_true (by kernel_rfl)) (by unfold Func.isWrapper; first | (rw [if_pos (by decide +kernel)]; kernel_rfl) | (rw [if_neg (by decide +kernel)]; exact ⟨rfl, rfl⟩))
    (fun os started H enc _ => lifted os started H enc)

/-- the statement -/
theorem proved : Rows.FnExactClosedClassesSaid := over
end Go.Proofs.Ytdlkmcnjdhanaaa.fnExactClosedClasses
