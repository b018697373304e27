/- ValidMaps of the project answers as the model does, for all maps (at most 2^20 entries, as the law says; larger ones it lets pass).
   Conditions: none beyond the row's own (every input that can be read as data). -/
import Derived.Test.YtgbhkdoejnkmhaaMsOkS
import Derived.Test.YtgbhkdoejnkmhaaOpen
namespace Go.Proofs.Ytgbhkdoejnkmhaa.fnExactValidMaps
open Go.ChangeShapes Go.WideShapes Go.ChangeAt Go.RowKit Go.Deep Go.Joins
open Go.ChangeMaps (open_string shut_string)
set_option linter.unusedVariables false

theorem own : ownKnob Try.prog.godebug = none := by kernel_rfl
theorem laidOut : laidOutB Try.prog = true := by kernel_rfl

set_option maxHeartbeats 4000000 in
theorem walk (v0 : Value) (c : Ms) {w : World} (hc0 : MsR w v0 c) :
    Calls Try.prog 3 #[v0] w fun e w' => e = .returned (.bool true) ∧ Below w.heap.size w w' := by
  obtain ⟨v, rfl, hr⟩ := hc0
  obtain ⟨_, a, cap, rfl⟩ := hr.len
  have hB := Blk.new w #[.int .i64 c.n, .int .i64 c.t, .slice a c.l.length cap] 24
  have B0 := below1 w (.cells #[.int .i64 c.n, .int .i64 c.t, .slice a c.l.length cap] 24)
  have hc : MsR (w.alloc (.cells #[.int .i64 c.n, .int .i64 c.t, .slice a c.l.length cap] 24)) (.agg #[.int .i64 c.n, .int .i64 c.t, .slice a c.l.length cap]) c := ⟨_, rfl, hr.keep B0⟩
  have hlt : w.heap.size < (w.alloc (.cells #[.int .i64 c.n, .int .i64 c.t, .slice a c.l.length cap] 24)).heap.size := by simp
  by_cases hq : (1048576 : Int) < ((c.l.length + tot c.l : Nat) : Int)
  · have hs := Lib.hid (szLeft_no hq)
    have hneg : szLeft 1048576 (c.l.length + tot c.l) < 0 := by rw [hs.out]; decide
    go_enter Try.func3, Try.ntmps3
    go_wp2_with fail
    refine (szMaps_any _ c 1048576 _ hc (by decide) (by decide)).mono ?_
    rintro e w1 ⟨rfl, b1⟩
    go_wp2
    go_ret
    exact ⟨rfl, below_wt B0 b1⟩
  · have hs := Lib.hid (szLeft_yes (left := 1048576) (n := c.l.length + tot c.l) (by omega))
    have hneg : 0 ≤ szLeft 1048576 (c.l.length + tot c.l) := by rw [hs.out]; omega
    have hbd : c.l.length + tot c.l ≤ 2097152 := by omega
    clear hq
    go_enter Try.func3, Try.ntmps3
    go_wp2_with fail
    refine (szMaps_any _ c 1048576 _ hc (by decide) (by decide)).mono ?_
    rintro e w1 ⟨rfl, b1⟩
    obtain ⟨p0, p1, p2⟩ := (hB.keep b1 hlt).three
    go_wp2_with fail
    refine (toMaps_any _ c _ (hc.keep b1) hbd).mono ?_
    rintro e w2 ⟨x1, rfl, o1, b2⟩
    obtain ⟨a1, cap1, rfl⟩ := o1.shape
    clear p0 p1 p2
    go_wp2_with fail
    refine (ValidMaps_spec _ c _ o1.ch).mono ?_
    rintro e w3 ⟨rfl, b3⟩
    have b13 := below_wt (below_wt b1 b2) b3
    obtain ⟨p0, p1, p2⟩ := (hB.keep b13 hlt).three
    go_wp2_with fail
    refine (toMaps_any _ c _ (hc.keep b13) hbd).mono ?_
    rintro e w4 ⟨x2, rfl, o2, b4⟩
    obtain ⟨a2, cap2, rfl⟩ := o2.shape
    clear p0 p1 p2
    have hX := Blk.new w4 #[.int .i64 c.n, .int .i64 c.t, .slice a2 c.l.length cap2] 29
    have bX := below1 w4 (.cells #[.int .i64 c.n, .int .i64 c.t, .slice a2 c.l.length cap2] 29)
    have ltX : w4.heap.size < (w4.alloc (.cells #[.int .i64 c.n, .int .i64 c.t, .slice a2 c.l.length cap2] 29)).heap.size := by simp
    go_wp2_with fail
    refine (ValidMaps_impl _ c _ (o2.ch.keep bX)).mono ?_
    rintro e w5 ⟨rfl, b5⟩
    have b15 := below_wt (below_wt (below_wt b13 b4) bX) b5
    have hB5 := hB.keep b15 hlt
    have hX5 := hX.keep b5 ltX
    obtain ⟨p0, p1, p2⟩ := hB5.three
    obtain ⟨q0, q1, q2⟩ := hX5.three
    have l1 := hB5.lt
    have l2 := hX5.lt
    generalize msOk c = ok
    have he := msEq_self c
    go_wp2_with fail
    go_region_held3 (fun w' => w'.cell? ⟨w.heap.size, 0, none⟩ = some (.int .i64 c.n) ∧ w'.cell? ⟨w.heap.size, 1, none⟩ = some (.int .i64 c.t) ∧ w'.cell? ⟨w.heap.size, 2, none⟩ = some (.slice a c.l.length cap) ∧
        w'.cell? ⟨w4.heap.size, 0, none⟩ = some (.int .i64 c.n) ∧ w'.cell? ⟨w4.heap.size, 1, none⟩ = some (.int .i64 c.t) ∧ w'.cell? ⟨w4.heap.size, 2, none⟩ = some (.slice a2 c.l.length cap2))
      (go_keep)
      (first
        | (go_at_call 17; refine (toMaps_any _ c _ (hc.keep b15.drew) hbd).mono ?_; rintro e w6 ⟨x3, rfl, o3, b6⟩; obtain ⟨a3, cap3, rfl⟩ := o3.shape; obtain ⟨p0', p1', p2'⟩ := (hB5.drew.keep b6 l1).three; obtain ⟨q0', q1', q2'⟩ := (hX5.drew.keep b6 l2).three)
        | (go_at_call 19; refine (eqMaps_any _ _ c c _ ((((o2.ch.keep bX).keep b5).keep (Below.refl _ _).drew).keep b6) o3.ch).mono ?_; rintro e w7 ⟨rfl, b7⟩; obtain ⟨p0'', p1'', p2''⟩ := ((hB5.drew.keep b6 l1).keep b7 (by have := b6.size; simp at this; omega)).three; obtain ⟨q0'', q1'', q2''⟩ := ((hX5.drew.keep b6 l2).keep b7 (by have := b6.size; simp at this; omega)).three))
    go_wp2
    go_ret
    exact ⟨rfl, below_wt B0 (below_wt (below_wt b15.drew b6) b7)⟩

set_option maxRecDepth 100000 in
theorem lifted (os : Os) (started : os.Started) (H : Type) (enc : TypeId × Value → H) :
    ReturnsInHanded {} Try.checked os 3 .any (Rows.fnExactValidMapsSpec.pre6 enc Try.prog Try.f3 Rows.fnExactValidMapsRow.domain false) (Rows.fnExactValidMapsSpec.post enc Try.prog Try.f3 false true false false) := by
  refine returnsInHanded_of_change (C := Try.checked) own started (by kernel_rfl) Try.func3
    (ChangeSpec.witness6 (enc := enc) (C := Try.checked) false ⟨#[], #[.agg #[.int .i64 0, .int .i64 0, .slice none 0 0]], []⟩ 8 (by kernel_rfl) (by kernel_rfl) (by kernel_rfl) (by kernel_rfl)) ?_
  intro W base args ds gs before hval0 hW hcnd _
  have hval : ∀ (j : Nat) t v, Try.f3.params[j]? = some t → args[j]? = some v → Value.okWide Try.prog W .any base t v := hval0
  have hW' := hW
  obtain ⟨p, q, hA0, hV, rfl, hfz, hnd⟩ := hW
  have hA : DataW.TrodAll enc Try.prog W 0 (fun _ => true) true Try.f3.params.toList args.toList ds p := hA0
  rw [Try.params3] at hA hval
  obtain ⟨v0, vs0, d0, ds0, p0, q0, hargs, rfl, rfl, h0, r0⟩ := trodAll_cons hA
  obtain ⟨rfl, rfl, rfl⟩ := trodAll_nil r0
  obtain rfl : args = #[v0] := by cases args; simp_all
  obtain ⟨rfl, rfl⟩ := trodVars_none hV
  have k0 := h0
  have lt0 : ∀ x ∈ p0, x.block < W.heap.size := by obtain ⟨m, hm⟩ := k0; exact DataW.trod_lt m _ _ _ hm
  obtain ⟨c0, w0⟩ := open_maps (hval 0 24 v0 rfl rfl) h0
  clear hA0 hval0
  refine (walk v0 c0 w0).mono fun e W' ⟨he, bel⟩ => ?_
  subst he
  exact ⟨_, rfl, _, _, _, [], _, [], hW', trodAll_mk1 (shut_bool Try.underlying4 _), (trodAll_cons_mk (Below.trod laidOut (by kernel_rfl) (of_decide_eq_true (by kernel_rfl)) k0 bel lt0) trodAll_mk0), rfl, bel.frame _, fun h => by cases h⟩

theorem over : Rows.fnExactValidMapsRow.holds Try.pinned (OpenSpec.ofChange Rows.fnExactValidMapsSpec) :=
  OpenClaim.holds_of_wide 3 Try.f3 rfl rfl rfl rfl rfl rfl rfl ⟨rfl, rfl, rfl, rfl, rfl⟩ rfl rfl rfl rfl rfl (by kernel_rfl) Try.func3 (by kernel_rfl)
    (of_decide_eq_true (by kernel_rfl)) (by unfold Func.isWrapper; first | (rw [if_pos (by decide +kernel)]; kernel_rfl) | (rw [if_neg (by decide +kernel)]; exact ⟨rfl, rfl⟩))
    (fun os started H enc _ => lifted os started H enc)

/-- the statement -/
theorem proved : Rows.FnExactValidMapsSaid := over
end Go.Proofs.Ytgbhkdoejnkmhaa.fnExactValidMaps
