/- For every service the project's ValidService and the specification's answer alike, and the service is left as it was.
   Conditions: none beyond the row's own (every input that can be read as data). -/
import Derived.Test.YtnehnlejknieoaaSvc
import Derived.Test.YtnehnlejknieoaaOpen
namespace Go.Proofs.Ytnehnlejknieoaa.fnExactValidService
open Go.ChangeShapes Go.WideShapes Go.ChangeAt Go.RowKit Go.Deep Go.Joins
open Go.ChangeMaps (open_string shut_string)
set_option linter.unusedVariables false

theorem own : ownKnob Try.prog.godebug = none := by kernel_rfl
theorem laidOut : laidOutB Try.prog = true := by kernel_rfl

theorem sixcells {w : World} {b : Nat} {x0 x1 x2 x3 x4 x5 : Value} {t : TypeId} (h : Blk w b #[x0, x1, x2, x3, x4, x5] t) : w.cell? ⟨b, 0, none⟩ = some x0 ∧ w.cell? ⟨b, 1, none⟩ = some x1 ∧ w.cell? ⟨b, 2, none⟩ = some x2 ∧ w.cell? ⟨b, 3, none⟩ = some x3 ∧ w.cell? ⟨b, 4, none⟩ = some x4 ∧ w.cell? ⟨b, 5, none⟩ = some x5 := ⟨h.cell 0, h.cell 1, h.cell 2, h.cell 3, h.cell 4, h.cell 5⟩
set_option maxRecDepth 100000 in
set_option maxHeartbeats 16000000 in
theorem walk {w : World} (v : Value) (s : Sv) (hv : SvR w v s) :
    Calls Try.prog 6 #[v] w fun e w' => e = .returned (.bool true) ∧ Below w.heap.size w w' := by
  obtain ⟨a, cap, rfl⟩ := hv.shape
  have B0 := below1 w (.cells #[.int .i64 s.c.n, .int .i64 s.c.t, .slice a s.c.w.length cap, .int .i64 s.b, .int .i64 s.s, .int .i64 s.k] 42)
  have hX := Blk.new w #[.int .i64 s.c.n, .int .i64 s.c.t, .slice a s.c.w.length cap, .int .i64 s.b, .int .i64 s.s, .int .i64 s.k] 42
  have hz := Lib.hid (szService_any _ s 1048576 _ (hv.keep B0) (by decide) (by decide))
  have hv' := Lib.hid hv
  have hs := Lib.hid (fun x W h => ValidService_spec x s W h)
  have hi := Lib.hid (fun x W h => ValidService_impl x s W h)
  have he := Lib.hid (fun x y W h h' => eqService_self x y s W h h')
  clear hv
  by_cases hq : (1048576 : Int) < ((s.c.w.length + total s.c.w : Nat) : Int)
  · have hn := Lib.hid (szLeft_no hq)
    have hneg : szLeft 1048576 (s.c.w.length + total s.c.w) < 0 := by rw [hn.out]; decide
    generalize szLeft 1048576 (s.c.w.length + total s.c.w) = L at *
    clear hq
    go_enter Try.func6, Try.ntmps6
    go_wp2_with fail
    (with_reducible refine hz.out.mono ?_)
    rintro e w1 ⟨rfl, b1⟩
    go_wp2
    go_ret
    exact ⟨rfl, below_wt B0 b1⟩
  · have hn := Lib.hid (szLeft_yes (show ((s.c.w.length + total s.c.w : Nat) : Int) ≤ 1048576 by omega))
    have hneg : ¬ szLeft 1048576 (s.c.w.length + total s.c.w) < 0 := by rw [hn.out]; omega
    have ht := Lib.hid (fun W h => toService_any (.agg #[.int .i64 s.c.n, .int .i64 s.c.t, .slice a s.c.w.length cap, .int .i64 s.b, .int .i64 s.s, .int .i64 s.k]) s W h (by omega))
    generalize szLeft 1048576 (s.c.w.length + total s.c.w) = L at *
    generalize svOk s = ok at hs hi
    clear hq
    go_enter Try.func6, Try.ntmps6
    go_wp2_with fail
    (with_reducible refine hz.out.mono ?_)
    rintro e w1 ⟨rfl, b1⟩
    have X1 := hX.keep b1 hX.lt
    have B1 := below_wt B0 b1
    obtain ⟨x0, x1, x2, x3, x4, x5⟩ := sixcells X1
    go_wp2_with fail
    (with_reducible refine (ht.out _ (hv'.out.keep B1)).mono ?_)
    rintro e w2 ⟨y2, rfl, o2, b2⟩
    go_wp2_with fail
    (with_reducible refine (hs.out _ _ o2.ch).mono ?_)
    rintro e w3 ⟨rfl, b3⟩
    clear x0 x1 x2 x3 x4 x5
    have X3 := (X1.keep b2 X1.lt).keep b3 (X1.keep b2 X1.lt).lt
    have B3 := below_wt (below_wt B1 b2) b3
    obtain ⟨x0, x1, x2, x3, x4, x5⟩ := sixcells X3
    clear X1 B1 b1 b2 b3 o2
    go_wp2_with fail
    (with_reducible refine (ht.out _ (hv'.out.keep B3)).mono ?_)
    rintro e w4 ⟨y4, rfl, o4, b4⟩
    clear x0 x1 x2 x3 x4 x5
    obtain ⟨a4, cap4, rfl⟩ := o4.shape
    have X4 := (X3.keep b4 X3.lt).alloc (.cells #[.int .i64 s.c.n, .int .i64 s.c.t, .slice a4 s.c.w.length cap4, .int .i64 s.b, .int .i64 s.s, .int .i64 s.k] 46)
    have Y4 := Blk.new w4 #[.int .i64 s.c.n, .int .i64 s.c.t, .slice a4 s.c.w.length cap4, .int .i64 s.b, .int .i64 s.s, .int .i64 s.k] 46
    have b45 := below1 w4 (.cells #[.int .i64 s.c.n, .int .i64 s.c.t, .slice a4 s.c.w.length cap4, .int .i64 s.b, .int .i64 s.s, .int .i64 s.k] 46)
    have O5 := o4.ch.keep b45
    have B5 := below_wt (below_wt B3 b4) b45
    clear o4 X3 B3 b4 b45
    go_upto_region 7 with fail
    obtain ⟨w5, hw5⟩ : ∃ u, w4.alloc (.cells #[.int .i64 s.c.n, .int .i64 s.c.t, .slice a4 s.c.w.length cap4, .int .i64 s.b, .int .i64 s.s, .int .i64 s.k] 46) = u := ⟨_, rfl⟩
    rw [hw5] at X4 Y4 O5 B5 ⊢
    have hw5' := Lib.hid hw5
    clear hw5
    obtain ⟨y0, y1, y2, y3, y4, y5⟩ := sixcells Y4
    go_wp2_with fail
    (with_reducible refine (hi.out _ _ O5).mono ?_)
    rintro e w6 ⟨rfl, b6⟩
    clear y0 y1 y2 y3 y4 y5
    have X6 := X4.keep b6 X4.lt
    have Y6 := Y4.keep b6 Y4.lt
    have O6 := O5.keep b6
    have B6 := below_wt B5 b6
    clear X4 Y4 O5 B5 b6
    have hok : (ok != ok) = false := by simp
    go_upto_region 10 with fail
    obtain ⟨x0, x1, x2, x3, x4, x5⟩ := sixcells X6
    obtain ⟨y0, y1, y2, y3, y4, y5⟩ := sixcells Y6
    have l1 := X6.lt
    have l2 := Y6.lt
    go_region_held3 (fun w' => w'.cell? ⟨w.heap.size, 0, none⟩ = some (.int .i64 s.c.n) ∧ w'.cell? ⟨w.heap.size, 1, none⟩ = some (.int .i64 s.c.t) ∧ w'.cell? ⟨w.heap.size, 2, none⟩ = some (.slice a s.c.w.length cap) ∧ w'.cell? ⟨w.heap.size, 3, none⟩ = some (.int .i64 s.b) ∧ w'.cell? ⟨w.heap.size, 4, none⟩ = some (.int .i64 s.s) ∧ w'.cell? ⟨w.heap.size, 5, none⟩ = some (.int .i64 s.k) ∧ w'.cell? ⟨w4.heap.size, 0, none⟩ = some (.int .i64 s.c.n) ∧ w'.cell? ⟨w4.heap.size, 1, none⟩ = some (.int .i64 s.c.t) ∧ w'.cell? ⟨w4.heap.size, 2, none⟩ = some (.slice a4 s.c.w.length cap4) ∧ w'.cell? ⟨w4.heap.size, 3, none⟩ = some (.int .i64 s.b) ∧ w'.cell? ⟨w4.heap.size, 4, none⟩ = some (.int .i64 s.s) ∧ w'.cell? ⟨w4.heap.size, 5, none⟩ = some (.int .i64 s.k))
      (go_keep)
      (first
        | (go_at_call 25; (with_reducible refine (ht.out _ (hv'.out.keep B6.drew)).mono ?_); rintro e w7 ⟨z, rfl, o7, b7⟩; obtain ⟨a7, cap7, rfl⟩ := o7.shape; obtain ⟨x0', x1', x2', x3', x4', x5'⟩ := sixcells (X6.drew.keep b7 l1); obtain ⟨y0', y1', y2', y3', y4', y5'⟩ := sixcells (Y6.drew.keep b7 l2))
        | (go_at_call 27; (with_reducible refine (he.out _ _ _ ((O6.keep (Below.refl _ _).drew).keep b7) o7.ch).mono ?_); rintro e w8 ⟨rfl, b8⟩; obtain ⟨x0'', x1'', x2'', x3'', x4'', x5''⟩ := sixcells ((X6.drew.keep b7 l1).keep b8 (by have := b7.size; simp at this; omega)); obtain ⟨y0'', y1'', y2'', y3'', y4'', y5''⟩ := sixcells ((Y6.drew.keep b7 l2).keep b8 (by have := b7.size; simp at this; omega)))
        | fail "no arm")
    go_wp2
    go_ret
    exact ⟨rfl, below_wt (below_wt B6.drew b7) b8⟩

set_option maxRecDepth 100000 in
theorem lifted (os : Os) (started : os.Started) (H : Type) (enc : TypeId × Value → H) :
    ReturnsInHanded {} Try.checked os 6 .any (Rows.fnExactValidServiceSpec.pre6 enc Try.prog Try.f6 Rows.fnExactValidServiceRow.domain false) (Rows.fnExactValidServiceSpec.post enc Try.prog Try.f6 false true false false) := by
  refine returnsInHanded_of_change (C := Try.checked) own started (by kernel_rfl) Try.func6
    (ChangeSpec.witness6 (enc := enc) (C := Try.checked) false ⟨#[], #[.agg #[.int .i64 0, .int .i64 0, .slice none 0 0, .int .i64 0, .int .i64 0, .int .i64 0]], []⟩ 8 (by kernel_rfl) (by kernel_rfl) (by kernel_rfl) (by kernel_rfl)) ?_
  intro W base args ds gs before hval0 hW hcnd _
  have hval : ∀ (j : Nat) t v, Try.f6.params[j]? = some t → args[j]? = some v → Value.okWide Try.prog W .any base t v := hval0
  have hW' := hW
  obtain ⟨p, q, hA0, hV, rfl, hfz, hnd⟩ := hW
  have hA : DataW.TrodAll enc Try.prog W 0 (fun _ => true) true Try.f6.params.toList args.toList ds p := hA0
  rw [Try.params6] at hA hval
  obtain ⟨v0, vs0, d0, ds0, p0, q0, hargs, rfl, rfl, h0, r0⟩ := trodAll_cons hA
  obtain ⟨rfl, rfl, rfl⟩ := trodAll_nil r0
  obtain rfl : args = #[v0] := by cases args; simp_all
  obtain ⟨rfl, rfl⟩ := trodVars_none hV
  have k0 := h0
  have lt0 : ∀ x ∈ p0, x.block < W.heap.size := by obtain ⟨m, hm⟩ := k0; exact DataW.trod_lt m _ _ _ hm
  obtain ⟨c0, w0⟩ := open_service (hval 0 42 v0 rfl rfl) h0
  clear hA0 hval0
  refine (walk v0 c0 w0).mono fun e W' ⟨he, bel⟩ => ?_
  subst he
  exact ⟨_, rfl, _, _, _, [], _, [], hW', trodAll_mk1 (shut_bool Try.underlying4 _), (trodAll_cons_mk (Below.trod laidOut (by kernel_rfl) (of_decide_eq_true (by kernel_rfl)) k0 bel lt0) trodAll_mk0), rfl, bel.frame _, fun h => by cases h⟩

theorem over : Rows.fnExactValidServiceRow.holds Try.pinned (OpenSpec.ofChange Rows.fnExactValidServiceSpec) :=
  OpenClaim.holds_of_wide 6 Try.f6 rfl rfl rfl rfl rfl rfl rfl ⟨rfl, rfl, rfl, rfl, rfl⟩ rfl rfl rfl rfl rfl (by kernel_rfl) Try.func6 (by kernel_rfl)
    (of_decide_eq_true (by kernel_rfl)) (by unfold Func.isWrapper; first | (rw [if_pos (by decide +kernel)]; kernel_rfl) | (rw [if_neg (by decide +kernel)]; exact ⟨rfl, rfl⟩))
    (fun os started H enc _ => lifted os started H enc)

/-- the statement -/
theorem proved : Rows.FnExactValidServiceSaid := over
end Go.Proofs.Ytnehnlejknieoaa.fnExactValidService
