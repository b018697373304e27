/- For every seed, total and count, the project's DrawsOf and the specification's answer alike, with the same code, and the answer owns its memory.
   Conditions: none beyond the row's own (every input that can be read as data). -/
import Derived.Test.YtnehnlejknieoaaKinds
import Derived.Test.YtnehnlejknieoaaDrw
import Derived.Test.YtnehnlejknieoaaOpen
namespace Go.Proofs.Ytnehnlejknieoaa.fnExactDrawsOf
open Go.ChangeShapes Go.WideShapes Go.ChangeAt Go.RowKit Go.Deep Go.Joins
open Go.ChangeMaps (open_string shut_string)
set_option linter.unusedVariables false

theorem own : ownKnob Try.prog.godebug = none := by kernel_rfl
theorem laidOut : laidOutB Try.prog = true := by kernel_rfl

theorem model_small (s t n : Int) : ∃ r rk, drwOf s t n = (r, rk) ∧ r.length ≤ 64 := by
  refine ⟨(drwOf s t n).1, (drwOf s t n).2, rfl, ?_⟩
  unfold drwOf
  split
  · rename_i h
    simp only [drwOk, Bool.and_eq_true] at h
    have := inB_iff.1 h.2.2
    rw [drL_len]; omega
  · simp

set_option maxRecDepth 100000 in
set_option maxHeartbeats 16000000 in
theorem walk_ok {w : World} (a0 : Int) (w0 : (Lit.int .i64 a0).wf = true) (a1 : Int) (w1 : (Lit.int .i64 a1).wf = true) (a2 : Int) (w2 : (Lit.int .i64 a2).wf = true)  :
    Calls Try.prog 3 #[.int .i64 a0, .int .i64 a1, .int .i64 a2] w fun e w' => e = .returned (.bool true) ∧ Below w.heap.size w w' := by
  have B0 : Below w.heap.size w w := Below.refl _ _
  have zu0 : w.heap.size + 0 = w.heap.size := by simp
  have SB : Since w.heap.size w w := ⟨Below.refl _ _, Nat.le_refl _⟩
  obtain ⟨u0, hu0⟩ : ∃ u, w = u := ⟨_, rfl⟩
  replace B0 : Below w.heap.size w u0 := by rw [← hu0]; exact Below.refl _ _
  replace zu0 : w.heap.size + 0 = u0.heap.size := by rw [← hu0]; rfl
  replace SB : Since u0.heap.size u0 u0 := ⟨Below.refl _ _, Nat.le_refl _⟩
  have zu0' := Lib.hid zu0
  have hu0' := Lib.hid hu0
  have z0a : 0 + w.heap.size ≤ u0.heap.size := by omega
  clear zu0 hu0
  skip
  obtain ⟨rx, rk, hm0, hrt⟩ : ∃ r rk, drwOf a0 a1 a2 = (r, rk) ∧ r.length ≤ 64 := model_small a0 a1 a2
  have hm := Lib.hid hm0
  clear hm0
  go_enter Try.func3, Try.ntmps3
  go_wp2_with fail
  rw [hu0'.out]
  refine (DrawsOf_spec a0 a1 a2 _).mono ?_
  rintro e u1 ⟨sr, rfl, osr, b1⟩
  have zb1 := b1.size
  rw [hm.out] at osr ⊢
  obtain ⟨sra, srac, rfl⟩ := osr.shape
  have SR := osr
  go_wp2_with fail
  refine (DrawsOf_impl a0 a1 a2 _).mono ?_
  rintro e u2 ⟨gr, rfl, ogr, b2⟩
  have zb2 := b2.size
  rw [hm.out] at ogr ⊢
  obtain ⟨gra, grac, rfl⟩ := ogr.shape
  have GR := ogr
  replace SR := SR.step b2
  go_wp2_with fail
  refine (eq_ints _ _ rx _ GR.ch SR.ch).mono ?_
  rintro e u3 ⟨rfl, b3⟩
  have zb3 := b3.size
  replace GR := GR.step b3
  go_wp2_with fail
  refine (mark_ints GR (by omega) (by omega)).mono ?_
  rintro e u4 ⟨rfl, mg, b4⟩
  have zb4 := b4.size
  have hk2 : 0 ≤ 1 + ((rx.length : Nat) : Int) := by omega
  go_wp2_with fail
  refine (held_ints mg (by omega) (by omega)).mono ?_
  rintro e u5 ⟨rfl, b5⟩
  have zb5 := b5.size
  go_wp2_with fail
  refine (DrawsOf_impl a0 a1 a2 _).mono ?_
  rintro e u6 ⟨tr, rfl, otr, b6⟩
  have zb6 := b6.size
  rw [hm.out] at otr ⊢
  obtain ⟨tra, trac, rfl⟩ := otr.shape
  have TR := otr
  replace SR := SR.step b3
  replace SR := SR.touch b4 (by omega)
  have bc4_6 := (below_wt b5 b6)
  replace SR := SR.step bc4_6
  go_wp2_with fail
  refine (eq_ints _ _ rx _ TR.ch SR.ch).mono ?_
  rintro e u7 ⟨rfl, b7⟩
  have zb7 := b7.size
  have bc4_7 := (below_wt (below_wt b5 b6) b7)
  replace mg := mg.step bc4_7
  go_wp2_with fail
  refine (held_ints mg (by omega) (by omega)).mono ?_
  rintro e u8 ⟨rfl, b8⟩
  have zb8 := b8.size
  go_wp2
  go_ret
  have bc0_3 := (below_wt (below_wt b1 b2) b3)
  replace SB := SB.step bc0_3
  replace SB := SB.touch b4 (by omega)
  have bc4_8 := (below_wt (below_wt (below_wt b5 b6) b7) b8)
  replace SB := SB.step bc4_8
  exact ⟨rfl, B0.trans (SB.bel.mono B0.size)⟩

theorem walk {w : World} (a0 : Int) (w0 : (Lit.int .i64 a0).wf = true) (a1 : Int) (w1 : (Lit.int .i64 a1).wf = true) (a2 : Int) (w2 : (Lit.int .i64 a2).wf = true) :
    Calls Try.prog 3 #[.int .i64 a0, .int .i64 a1, .int .i64 a2] w fun e w' => e = .returned (.bool true) ∧ Below w.heap.size w w' := by
  exact walk_ok a0 w0 a1 w1 a2 w2 

set_option maxRecDepth 100000 in
theorem lifted (os : Os) (started : os.Started) (H : Type) (enc : TypeId × Value → H) :
    ReturnsInHanded {} Try.checked os 3 .any (Rows.fnExactDrawsOfSpec.pre6 enc Try.prog Try.f3 Rows.fnExactDrawsOfRow.domain false) (Rows.fnExactDrawsOfSpec.post enc Try.prog Try.f3 false true false false) := by
  refine returnsInHanded_of_change (C := Try.checked) own started (by kernel_rfl) Try.func3
    (ChangeSpec.witness6 (enc := enc) (C := Try.checked) false ⟨#[], #[.int .i64 0, .int .i64 0, .int .i64 0], []⟩ 8 (by kernel_rfl) (by kernel_rfl) (by kernel_rfl) (by kernel_rfl)) ?_
  intro W base args ds gs before hval0 hW hcnd _
  have hval : ∀ (j : Nat) t v, Try.f3.params[j]? = some t → args[j]? = some v → Value.okWide Try.prog W .any base t v := hval0
  have hW' := hW
  obtain ⟨p, q, hA0, hV, rfl, hfz, hnd⟩ := hW
  have hA : DataW.TrodAll enc Try.prog W 0 (fun _ => true) true Try.f3.params.toList args.toList ds p := hA0
  rw [Try.params3] at hA hval
  obtain ⟨v0, vs0, d0, ds0, p0, q0, hargs, rfl, rfl, h0, r0⟩ := trodAll_cons hA
  obtain ⟨v1, vs1, d1, ds1, p1, q1, rfl, rfl, rfl, h1, r1⟩ := trodAll_cons r0
  obtain ⟨v2, vs2, d2, ds2, p2, q2, rfl, rfl, rfl, h2, r2⟩ := trodAll_cons r1
  obtain ⟨rfl, rfl, rfl⟩ := trodAll_nil r2
  obtain rfl : args = #[v0, v1, v2] := by cases args; simp_all
  obtain ⟨rfl, rfl⟩ := trodVars_none hV
  obtain ⟨a0, rfl, rfl, rfl, w0⟩ := open_int Try.underlying2 (hval 0 2 v0 rfl rfl) h0
  obtain ⟨a1, rfl, rfl, rfl, w1⟩ := open_int Try.underlying2 (hval 1 2 v1 rfl rfl) h1
  obtain ⟨a2, rfl, rfl, rfl, w2⟩ := open_int Try.underlying2 (hval 2 2 v2 rfl rfl) h2
  clear hA0 hval0
  refine (walk a0 w0 a1 w1 a2 w2).mono fun e W' ⟨he, bel⟩ => ?_
  subst he
  exact ⟨_, rfl, _, _, _, [], _, [], hW', trodAll_mk1 (shut_bool Try.underlying4 _), (trodAll_cons_mk (shut_int Try.underlying2 w0) (trodAll_cons_mk (shut_int Try.underlying2 w1) (trodAll_cons_mk (shut_int Try.underlying2 w2) trodAll_mk0))), rfl, bel.frame _, fun h => by cases h⟩

theorem over : Rows.fnExactDrawsOfRow.holds Try.pinned (OpenSpec.ofChange Rows.fnExactDrawsOfSpec) :=
  OpenClaim.holds_of_wide 3 Try.f3 rfl rfl rfl rfl rfl rfl rfl ⟨rfl, rfl, rfl, rfl, rfl⟩ rfl rfl rfl rfl rfl (by kernel_rfl) Try.func3 (by kernel_rfl)
    (of_decide_eq_true (by kernel_rfl)) (by unfold Func.isWrapper; first | (rw [if_pos (by decide +kernel)]; kernel_rfl) | (rw [if_neg (by decide +kernel)]; exact ⟨rfl, rfl⟩))
    (fun os started H enc _ => lifted os started H enc)

/-- the statement -/
theorem proved : Rows.FnExactDrawsOfSaid := over
end Go.Proofs.Ytnehnlejknieoaa.fnExactDrawsOf
