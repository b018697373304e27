/- For every int64 the project's CodeName and the specification's CodeName tell the same string, and the law answers true.
   Conditions: none beyond the row's own (every int64). -/
import Derived.Test.YtcjpokpnojfojaaRows
import Derived.WalkKit
import Derived.ProofKit
import Derived.OpenShut
import Derived.Lib.Hide
import Derived.ChangeOld
import Derived.Below
namespace Go.Proofs.Ytcjpokpnojfojaa.fnExactCodeName
open Go.ChangeShapes Go.WideShapes Go.ChangeAt Go.RowKit
set_option linter.unusedVariables false      -- a walk need not use every 'w<i>' (that an integer argument fits its kind)

theorem own : ownKnob Try.prog.godebug = none := by kernel_rfl


/-! ### THE CALLEES: both tell the same string, whatever the code. -/
def Tells (f : Nat) (c : Int) (s : ByteArray) : Prop :=
  ∀ w : World, Calls Try.prog f #[.int .i64 c] w fun e w' => e = .returned (.string s) ∧ Below w.heap.size w w'

set_option maxHeartbeats 1000000 in
theorem in_yes (c : Int) (h1 : 0 ≤ c) (h2 : c ≤ 8) (w : World) : Calls Try.prog 17 #[.int .i64 c, .int .i64 0, .int .i64 8] w fun e w' => e = .returned (.bool true) ∧ w = w' := by
  go_enter Try.func17, Try.ntmps17
  go_wp2
  go_ret
  exact ⟨rfl, rfl⟩
set_option maxHeartbeats 1000000 in
theorem in_no (c : Int) (h : c < 0 ∨ 8 < c) (w : World) : Calls Try.prog 17 #[.int .i64 c, .int .i64 0, .int .i64 8] w fun e w' => e = .returned (.bool false) ∧ w = w' := by
  rcases h with h | h
  · go_enter Try.func17, Try.ntmps17
    go_wp2
    go_ret
    exact ⟨rfl, rfl⟩
  · have h0 : 0 ≤ c := by omega
    go_enter Try.func17, Try.ntmps17
    go_wp2
    go_ret
    exact ⟨congrArg (fun b => Ending.returned (Value.bool b)) (by simp; omega), rfl⟩
set_option maxHeartbeats 1000000 in
theorem spec_out (c : Int) (h : c < 0 ∨ 8 < c) : Tells 7 c ⟨#[]⟩ := by
  intro w
  have h' := Lib.hid h
  clear h
  go_enter Try.func7, Try.ntmps7
  go_wp2_with (go_at_call 17; refine (in_no c h'.out _).mono ?_; rintro e w' ⟨rfl, rfl⟩)
  go_ret
  exact ⟨rfl, by first | exact Below.refl _ _ | exact (Below.refl _ _).alloc (Nat.le_refl _) _⟩
set_option maxHeartbeats 1000000 in
theorem impl_lo (c : Int) (h : c < 0) : Tells 8 c ⟨#[]⟩ := by
  intro w
  go_enter Try.func8, Try.ntmps8
  go_wp2
  go_ret
  exact ⟨rfl, by first | exact Below.refl _ _ | exact (Below.refl _ _).alloc (Nat.le_refl _) _⟩
set_option maxHeartbeats 1000000 in
theorem impl_hi (c : Int) (h : 8 < c) : Tells 8 c ⟨#[]⟩ := by
  intro w
  have h0 : 0 ≤ c := by omega
  have h9 : 9 ≤ c := by omega
  go_enter Try.func8, Try.ntmps8
  go_wp2
  go_ret
  exact ⟨rfl, by first | exact Below.refl _ _ | exact (Below.refl _ _).alloc (Nat.le_refl _) _⟩
set_option maxHeartbeats 1000000 in
theorem both0 : ∃ s, Tells 7 0 s ∧ Tells 8 0 s := by
  refine ⟨⟨#[111, 107]⟩, ?_, ?_⟩
  · intro w
    go_enter Try.func7, Try.ntmps7
    go_wp2_with (go_at_call 17; refine (in_yes 0 (by decide) (by decide) _).mono ?_; rintro e w' ⟨rfl, rfl⟩)
    go_ret
    exact ⟨rfl, by first | exact Below.refl _ _ | exact (Below.refl _ _).alloc (Nat.le_refl _) _⟩
  · intro w
    go_enter Try.func8, Try.ntmps8
    go_wp2
    go_ret
    exact ⟨rfl, by first | exact Below.refl _ _ | exact (Below.refl _ _).alloc (Nat.le_refl _) _⟩
set_option maxHeartbeats 1000000 in
theorem both1 : ∃ s, Tells 7 1 s ∧ Tells 8 1 s := by
  refine ⟨⟨#[105, 110, 118, 97, 108, 105, 100]⟩, ?_, ?_⟩
  · intro w
    go_enter Try.func7, Try.ntmps7
    go_wp2_with (go_at_call 17; refine (in_yes 1 (by decide) (by decide) _).mono ?_; rintro e w' ⟨rfl, rfl⟩)
    go_ret
    exact ⟨rfl, by first | exact Below.refl _ _ | exact (Below.refl _ _).alloc (Nat.le_refl _) _⟩
  · intro w
    go_enter Try.func8, Try.ntmps8
    go_wp2
    go_ret
    exact ⟨rfl, by first | exact Below.refl _ _ | exact (Below.refl _ _).alloc (Nat.le_refl _) _⟩
set_option maxHeartbeats 1000000 in
theorem both2 : ∃ s, Tells 7 2 s ∧ Tells 8 2 s := by
  refine ⟨⟨#[114, 97, 110, 103, 101]⟩, ?_, ?_⟩
  · intro w
    go_enter Try.func7, Try.ntmps7
    go_wp2_with (go_at_call 17; refine (in_yes 2 (by decide) (by decide) _).mono ?_; rintro e w' ⟨rfl, rfl⟩)
    go_ret
    exact ⟨rfl, by first | exact Below.refl _ _ | exact (Below.refl _ _).alloc (Nat.le_refl _) _⟩
  · intro w
    go_enter Try.func8, Try.ntmps8
    go_wp2
    go_ret
    exact ⟨rfl, by first | exact Below.refl _ _ | exact (Below.refl _ _).alloc (Nat.le_refl _) _⟩
set_option maxHeartbeats 1000000 in
theorem both3 : ∃ s, Tells 7 3 s ∧ Tells 8 3 s := by
  refine ⟨⟨#[108, 105, 109, 105, 116]⟩, ?_, ?_⟩
  · intro w
    go_enter Try.func7, Try.ntmps7
    go_wp2_with (go_at_call 17; refine (in_yes 3 (by decide) (by decide) _).mono ?_; rintro e w' ⟨rfl, rfl⟩)
    go_ret
    exact ⟨rfl, by first | exact Below.refl _ _ | exact (Below.refl _ _).alloc (Nat.le_refl _) _⟩
  · intro w
    go_enter Try.func8, Try.ntmps8
    go_wp2
    go_ret
    exact ⟨rfl, by first | exact Below.refl _ _ | exact (Below.refl _ _).alloc (Nat.le_refl _) _⟩
set_option maxHeartbeats 1000000 in
theorem both4 : ∃ s, Tells 7 4 s ∧ Tells 8 4 s := by
  refine ⟨⟨#[115, 116, 97, 116, 101]⟩, ?_, ?_⟩
  · intro w
    go_enter Try.func7, Try.ntmps7
    go_wp2_with (go_at_call 17; refine (in_yes 4 (by decide) (by decide) _).mono ?_; rintro e w' ⟨rfl, rfl⟩)
    go_ret
    exact ⟨rfl, by first | exact Below.refl _ _ | exact (Below.refl _ _).alloc (Nat.le_refl _) _⟩
  · intro w
    go_enter Try.func8, Try.ntmps8
    go_wp2
    go_ret
    exact ⟨rfl, by first | exact Below.refl _ _ | exact (Below.refl _ _).alloc (Nat.le_refl _) _⟩
set_option maxHeartbeats 1000000 in
theorem both5 : ∃ s, Tells 7 5 s ∧ Tells 8 5 s := by
  refine ⟨⟨#[115, 121, 110, 116, 97, 120]⟩, ?_, ?_⟩
  · intro w
    go_enter Try.func7, Try.ntmps7
    go_wp2_with (go_at_call 17; refine (in_yes 5 (by decide) (by decide) _).mono ?_; rintro e w' ⟨rfl, rfl⟩)
    go_ret
    exact ⟨rfl, by first | exact Below.refl _ _ | exact (Below.refl _ _).alloc (Nat.le_refl _) _⟩
  · intro w
    go_enter Try.func8, Try.ntmps8
    go_wp2
    go_ret
    exact ⟨rfl, by first | exact Below.refl _ _ | exact (Below.refl _ _).alloc (Nat.le_refl _) _⟩
set_option maxHeartbeats 1000000 in
theorem both6 : ∃ s, Tells 7 6 s ∧ Tells 8 6 s := by
  refine ⟨⟨#[110, 111, 116, 102, 111, 117, 110, 100]⟩, ?_, ?_⟩
  · intro w
    go_enter Try.func7, Try.ntmps7
    go_wp2_with (go_at_call 17; refine (in_yes 6 (by decide) (by decide) _).mono ?_; rintro e w' ⟨rfl, rfl⟩)
    go_ret
    exact ⟨rfl, by first | exact Below.refl _ _ | exact (Below.refl _ _).alloc (Nat.le_refl _) _⟩
  · intro w
    go_enter Try.func8, Try.ntmps8
    go_wp2
    go_ret
    exact ⟨rfl, by first | exact Below.refl _ _ | exact (Below.refl _ _).alloc (Nat.le_refl _) _⟩
set_option maxHeartbeats 1000000 in
theorem both7 : ∃ s, Tells 7 7 s ∧ Tells 8 7 s := by
  refine ⟨⟨#[98, 117, 100, 103, 101, 116]⟩, ?_, ?_⟩
  · intro w
    go_enter Try.func7, Try.ntmps7
    go_wp2_with (go_at_call 17; refine (in_yes 7 (by decide) (by decide) _).mono ?_; rintro e w' ⟨rfl, rfl⟩)
    go_ret
    exact ⟨rfl, by first | exact Below.refl _ _ | exact (Below.refl _ _).alloc (Nat.le_refl _) _⟩
  · intro w
    go_enter Try.func8, Try.ntmps8
    go_wp2
    go_ret
    exact ⟨rfl, by first | exact Below.refl _ _ | exact (Below.refl _ _).alloc (Nat.le_refl _) _⟩
set_option maxHeartbeats 1000000 in
theorem both8 : ∃ s, Tells 7 8 s ∧ Tells 8 8 s := by
  refine ⟨⟨#[112, 114, 111, 111, 102]⟩, ?_, ?_⟩
  · intro w
    go_enter Try.func7, Try.ntmps7
    go_wp2_with (go_at_call 17; refine (in_yes 8 (by decide) (by decide) _).mono ?_; rintro e w' ⟨rfl, rfl⟩)
    go_ret
    exact ⟨rfl, by first | exact Below.refl _ _ | exact (Below.refl _ _).alloc (Nat.le_refl _) _⟩
  · intro w
    go_enter Try.func8, Try.ntmps8
    go_wp2
    go_ret
    exact ⟨rfl, by first | exact Below.refl _ _ | exact (Below.refl _ _).alloc (Nat.le_refl _) _⟩

theorem both (c : Int) : ∃ s, Tells 7 c s ∧ Tells 8 c s := by
  by_cases h : 0 ≤ c ∧ c ≤ 8
  · obtain ⟨h1, h2⟩ := h
    obtain rfl | rfl | rfl | rfl | rfl | rfl | rfl | rfl | rfl : c = 0 ∨ c = 1 ∨ c = 2 ∨ c = 3 ∨ c = 4 ∨ c = 5 ∨ c = 6 ∨ c = 7 ∨ c = 8 := by omega
    · exact both0
    · exact both1
    · exact both2
    · exact both3
    · exact both4
    · exact both5
    · exact both6
    · exact both7
    · exact both8
  · have h' : c < 0 ∨ 8 < c := by omega
    exact ⟨_, spec_out c h', by rcases h' with h' | h'; exact impl_lo c h'; exact impl_hi c h'⟩

set_option maxHeartbeats 1000000 in
theorem walk (a0 : Int) (w0 : (Lit.int .i64 a0).wf = true) (w : World) :
    Calls Try.prog 3 #[.int .i64 a0] w fun e w' => e = .returned (.bool true) ∧ Below w.heap.size w w' := by
  obtain ⟨s, h7, h8⟩ := both a0
  go_enter Try.func3, Try.ntmps3
  go_wp2_with (first | (go_at_call 7; refine (h7 _).mono ?_; rintro e w1 ⟨rfl, hg1⟩) | (go_at_call 8; refine (h8 _).mono ?_; rintro e w2 ⟨rfl, hg2⟩))
  go_ret
  exact ⟨rfl, hg1.trans (hg2.mono hg1.size)⟩

/-! ### THE ROW's STEP: WRITTEN OUT: LEAVE IT -/
set_option maxRecDepth 100000 in
theorem lifted (os : Os) (started : os.Started) (H : Type) (enc : TypeId × Value → H) :
    ReturnsInHanded {} Try.checked os 3 .any (Rows.fnExactCodeNameSpec.pre6 enc Try.prog Try.f3 Rows.fnExactCodeNameRow.domain false) (Rows.fnExactCodeNameSpec.post enc Try.prog Try.f3 false true false false) := by
  refine returnsInHanded_of_change (C := Try.checked) own started (by kernel_rfl) Try.func3
    (ChangeSpec.witness6 (enc := enc) (C := Try.checked) false ⟨#[], #[.int .i64 0], []⟩ 8 (by kernel_rfl) (by kernel_rfl) (by kernel_rfl) (by kernel_rfl)) ?_
  intro W base args ds gs before hval0 hW hcnd _
  have hval : ∀ (j : Nat) t v, Try.f3.params[j]? = some t → args[j]? = some v → Value.okWide Try.prog W .any base t v := hval0
  have hW' := hW
  obtain ⟨p, q, hA0, hV, rfl, hfz, hnd⟩ := hW
  have hA : DataW.TrodAll enc Try.prog W 0 (fun _ => true) true Try.f3.params.toList args.toList ds p := hA0
  rw [Try.params3] at hA hval
  obtain ⟨v0, vs0, d0, ds0, p0, q0, hargs, rfl, rfl, h0, r0⟩ := trodAll_cons hA
  obtain ⟨rfl, rfl, rfl⟩ := trodAll_nil r0
  obtain rfl : args = #[v0] := by cases args; simp_all
  obtain ⟨rfl, rfl⟩ := trodVars_none hV
  obtain ⟨a0, rfl, rfl, rfl, w0⟩ := open_int Try.underlying2 (hval 0 2 v0 rfl rfl) h0
  clear hA0 hval0
  simp only [List.append_nil] at hW'
  refine (walk a0 w0 W).mono fun e W' ⟨he, hg⟩ => ?_
  subst he
  exact ⟨_, rfl, _, _, _, [], _, [], hW', trodAll_mk1 (shut_bool Try.underlying4 _), (trodAll_cons_mk (shut_int Try.underlying2 w0) trodAll_mk0), rfl, hg.frame _, fun h => by cases h⟩

theorem over : Rows.fnExactCodeNameRow.holds Try.pinned (OpenSpec.ofChange Rows.fnExactCodeNameSpec) :=
  OpenClaim.holds_of_wide 3 Try.f3 rfl rfl rfl rfl rfl rfl rfl ⟨rfl, rfl, rfl, rfl, rfl⟩ rfl rfl rfl rfl rfl (by kernel_rfl) Try.func3 (by kernel_rfl)
    (of_decide_eq_true (by kernel_rfl)) (by unfold Func.isWrapper; first | (rw [if_pos (by decide +kernel)]; kernel_rfl) | (rw [if_neg (by decide +kernel)]; exact ⟨rfl, rfl⟩))
    (fun os started H enc _ => lifted os started H enc)

/-- ████ THE STATEMENT ████ -/
theorem proved : Rows.FnExactCodeNameSaid :=
  over
#print axioms proved
end Go.Proofs.Ytcjpokpnojfojaa.fnExactCodeName
