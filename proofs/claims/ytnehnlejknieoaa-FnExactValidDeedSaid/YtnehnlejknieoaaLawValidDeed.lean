/- For every deed the project's ValidDeed and the specification's answer alike.
   Conditions: none beyond the row's own (every input that can be read as data). -/
import Derived.Test.YtnehnlejknieoaaDeed
import Derived.Test.YtnehnlejknieoaaOpen
namespace Go.Proofs.Ytnehnlejknieoaa.fnExactValidDeed
open Go.ChangeShapes Go.WideShapes Go.ChangeAt Go.RowKit Go.Deep Go.Joins
open Go.ChangeMaps (open_string shut_string)
set_option linter.unusedVariables false

theorem own : ownKnob Try.prog.godebug = none := by kernel_rfl
theorem laidOut : laidOutB Try.prog = true := by kernel_rfl

set_option maxRecDepth 100000 in
set_option maxHeartbeats 4000000 in
theorem walk {w : World} (v : Value) (c : Int × Int) (hc : DdR w v c) :
    Calls Try.prog 9 #[v] w fun e w' => e = .returned (.bool true) ∧ Below w.heap.size w w' := by
  obtain ⟨k, a⟩ := c
  obtain ⟨rfl, wk, wa⟩ := hc
  simp only at wk wa ⊢
  have hs := Lib.hid (fun W => ValidDeed_spec k a W)
  have hi := Lib.hid (fun W => ValidDeed_impl k a W)
  have ht := Lib.hid (fun W => toDeed_any k a W)
  generalize ddOk k a = ok at hs hi
  have B0 := below1 w (.cells #[.int .i64 k, .int .i64 a] 71)
  have hX := Blk.new w #[.int .i64 k, .int .i64 a] 71
  clear wk wa
  go_enter Try.func9, Try.ntmps9
  go_wp2_with fail
  (with_reducible refine (ht.out _).mono ?_)
  rintro e w1 ⟨rfl, b1⟩
  replace hX := hX.keep b1 hX.lt
  replace B0 := below_wt B0 b1
  go_wp2_with fail
  (with_reducible refine (hs.out _).mono ?_)
  rintro e w2 ⟨rfl, b2⟩
  replace hX := hX.keep b2 hX.lt
  replace B0 := below_wt B0 b2
  obtain ⟨x0, x1⟩ : w2.cell? ⟨w.heap.size, 0, none⟩ = some (.int .i64 k) ∧ w2.cell? ⟨w.heap.size, 1, none⟩ = some (.int .i64 a) := ⟨hX.cell 0, hX.cell 1⟩
  go_wp2_with fail
  (with_reducible refine (ht.out _).mono ?_)
  rintro e w3 ⟨rfl, b3⟩
  go_wp2_with fail
  (with_reducible refine (hi.out _).mono ?_)
  rintro e w4 ⟨rfl, b4⟩
  rcases ok with _ | _
  all_goals
    go_wp2
    go_ret
    exact ⟨rfl, below_wt (below_wt B0 b3) b4⟩

set_option maxRecDepth 100000 in
theorem lifted (os : Os) (started : os.Started) (H : Type) (enc : TypeId × Value → H) :
    ReturnsInHanded {} Try.checked os 9 .any (Rows.fnExactValidDeedSpec.pre6 enc Try.prog Try.f9 Rows.fnExactValidDeedRow.domain false) (Rows.fnExactValidDeedSpec.post enc Try.prog Try.f9 false true false false) := by
  refine returnsInHanded_of_change (C := Try.checked) own started (by kernel_rfl) Try.func9
    (ChangeSpec.witness6 (enc := enc) (C := Try.checked) false ⟨#[], #[.agg #[.int .i64 0, .int .i64 0]], []⟩ 8 (by kernel_rfl) (by kernel_rfl) (by kernel_rfl) (by kernel_rfl)) ?_
  intro W base args ds gs before hval0 hW hcnd _
  have hval : ∀ (j : Nat) t v, Try.f9.params[j]? = some t → args[j]? = some v → Value.okWide Try.prog W .any base t v := hval0
  have hW' := hW
  obtain ⟨p, q, hA0, hV, rfl, hfz, hnd⟩ := hW
  have hA : DataW.TrodAll enc Try.prog W 0 (fun _ => true) true Try.f9.params.toList args.toList ds p := hA0
  rw [Try.params9] at hA hval
  obtain ⟨v0, vs0, d0, ds0, p0, q0, hargs, rfl, rfl, h0, r0⟩ := trodAll_cons hA
  obtain ⟨rfl, rfl, rfl⟩ := trodAll_nil r0
  obtain rfl : args = #[v0] := by cases args; simp_all
  obtain ⟨rfl, rfl⟩ := trodVars_none hV
  have k0 := h0
  have lt0 : ∀ x ∈ p0, x.block < W.heap.size := by obtain ⟨m, hm⟩ := k0; exact DataW.trod_lt m _ _ _ hm
  obtain ⟨c0, w0⟩ := open_deed (hval 0 71 v0 rfl rfl) h0
  clear hA0 hval0
  refine (walk v0 c0 w0).mono fun e W' ⟨he, bel⟩ => ?_
  subst he
  exact ⟨_, rfl, _, _, _, [], _, [], hW', trodAll_mk1 (shut_bool Try.underlying4 _), (trodAll_cons_mk (Below.trod laidOut (by kernel_rfl) (of_decide_eq_true (by kernel_rfl)) k0 bel lt0) trodAll_mk0), rfl, bel.frame _, fun h => by cases h⟩

theorem over : Rows.fnExactValidDeedRow.holds Try.pinned (OpenSpec.ofChange Rows.fnExactValidDeedSpec) :=
  OpenClaim.holds_of_wide 9 Try.f9 rfl rfl rfl rfl rfl rfl rfl ⟨rfl, rfl, rfl, rfl, rfl⟩ rfl rfl rfl rfl rfl (by kernel_rfl) Try.func9 (by kernel_rfl)
    (of_decide_eq_true (by kernel_rfl)) (by unfold Func.isWrapper; first | (rw [if_pos (by decide +kernel)]; kernel_rfl) | (rw [if_neg (by decide +kernel)]; exact ⟨rfl, rfl⟩))
    (fun os started H enc _ => lifted os started H enc)

/-- the statement -/
theorem proved : Rows.FnExactValidDeedSaid := over
end Go.Proofs.Ytnehnlejknieoaa.fnExactValidDeed
