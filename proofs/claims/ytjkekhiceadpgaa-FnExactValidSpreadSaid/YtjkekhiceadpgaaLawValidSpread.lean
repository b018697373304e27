/- The law ValidSpread.
   Conditions: none beyond the row's own (every input that can be read as data). -/
import Derived.Test.YtjkekhiceadpgaaFsT
import Derived.Test.YtjkekhiceadpgaaRs4
import Derived.Test.YtjkekhiceadpgaaOpen
namespace Go.Proofs.Ytjkekhiceadpgaa.fnExactValidSpread
open Go.ChangeShapes Go.WideShapes Go.ChangeAt Go.RowKit Go.Deep Go.Joins
open Go.ChangeMaps (open_string shut_string)
set_option linter.unusedVariables false

theorem own : ownKnob Try.prog.godebug = none := by kernel_rfl
theorem laidOut : laidOutB Try.prog = true := by kernel_rfl

set_option maxRecDepth 100000 in
set_option maxHeartbeats 4000000 in
theorem walk (v0 : Value) (c : List (ByteArray × ByteArray)) {w : World} (hc0 : FrsIn w v0 c) :
    Calls Try.prog 3 #[v0] w fun e w' => e = .returned (.bool true) ∧ Below w.heap.size w w' := by
  have hz := Lib.hid (szFractionS_any v0 c 1048576 w hc0 (by decide) (by decide))
  have hv := Lib.hid hc0.1
  have ht := Lib.hid (fun W b (h : c.length ≤ 2097152) => toFractionS_any v0 c W (hv.out.keep b) h)
  have hs := Lib.hid (fun v W h => ValidSpread_spec v c W h)
  have hi := Lib.hid (fun v W h => ValidSpread_impl v c W h)
  have he := Lib.hid (fun v1 v2 W h1 h2 => eqFractionS_same v1 v2 c W h1 h2)
  obtain ⟨⟨hm, va, vc, rfl, _⟩, _⟩ := hc0
  obtain ⟨n, hn⟩ : ∃ n, n = c.length := ⟨_, rfl⟩
  rw [← hn] at hz ht hm ⊢
  clear hn
  generalize spreadB c = ok at *
  by_cases hq : False
  · exact hq.elim
  · clear hq
    go_enter Try.func3, Try.ntmps3
    go_wp2_with fail
    (with_reducible refine hz.out.mono ?_)
    rintro e w1 ⟨⟨L, rfl, hL1, hL⟩, b1⟩
    by_cases hneg : L < 0
    · clear hL
      go_wp2
      go_ret
      exact ⟨rfl, b1⟩
    · have hnb : n ≤ 2097152 := by have := hL (by omega); omega
      have hL0 : 0 ≤ L := by omega
      clear hL
      go_wp2_with fail
      (with_reducible refine (ht.out _ b1 hnb).mono ?_)
      rintro e w2 ⟨a2, c2, rfl, f2, b2⟩
      have B2 := below_wt b1 b2
      go_wp2_with fail
      (with_reducible refine (hs.out _ _ f2).mono ?_)
      rintro e w3 ⟨rfl, b3⟩
      have B3 := below_wt B2 b3
      clear f2 b1 b2 b3 B2
      go_wp2_with fail
      (with_reducible refine (ht.out _ B3 hnb).mono ?_)
      rintro e w4 ⟨a4, c4, rfl, f4, b4⟩
      have B4 := below_wt B3 b4
      have hf4 := Lib.hid f4
      clear f4 b4 B3
      go_wp2_with fail
      (with_reducible refine (hi.out _ _ hf4.out).mono ?_)
      rintro e w5 ⟨rfl, b5⟩
      have B5 := below_wt B4 b5
      have hf5 := Lib.hid (hf4.out.keep b5)
      clear b5 B4
      go_wp2_with fail
      (with_reducible refine (ht.out _ B5 hnb).mono ?_)
      rintro e w6 ⟨a6, c6, rfl, f6, b6⟩
      have B6 := below_wt B5 b6
      have hf6 := Lib.hid f6
      have hf56 := Lib.hid (hf5.out.keep b6)
      clear b6 B5 f6
      go_wp2_with fail
      (with_reducible refine (he.out _ _ _ hf56.out hf6.out).mono ?_)
      rintro e w7 ⟨rfl, b7⟩
      have B7 := Lib.hid (below_wt B6 b7)
      clear b7 B6
      go_wp2
      go_ret
      exact ⟨rfl, B7.out⟩

set_option maxRecDepth 100000 in
theorem lifted (os : Os) (started : os.Started) (H : Type) (enc : TypeId × Value → H) :
    ReturnsInHanded {} Try.checked os 3 .any (Rows.fnExactValidSpreadSpec.pre6 enc Try.prog Try.f3 Rows.fnExactValidSpreadRow.domain false) (Rows.fnExactValidSpreadSpec.post enc Try.prog Try.f3 false true false false) := by
  refine returnsInHanded_of_change (C := Try.checked) own started (by kernel_rfl) Try.func3
    (ChangeSpec.witness6 (enc := enc) (C := Try.checked) false ⟨#[], #[.slice none 0 0], []⟩ 8 (by kernel_rfl) (by kernel_rfl) (by kernel_rfl) (by kernel_rfl)) ?_
  intro W base args ds gs before hval0 hW hcnd _
  have hval : ∀ (j : Nat) t v, Try.f3.params[j]? = some t → args[j]? = some v → Value.okWide Try.prog W .any base t v := hval0
  have hW' := hW
  obtain ⟨p, q, hA0, hV, rfl, hfz, hnd⟩ := hW
  have hA : DataW.TrodAll enc Try.prog W 0 (fun _ => true) true Try.f3.params.toList args.toList ds p := hA0
  rw [Try.params3] at hA hval
  obtain ⟨v0, vs0, d0, ds0, p0, q0, hargs, rfl, rfl, h0, r0⟩ := trodAll_cons hA
  obtain ⟨rfl, rfl, rfl⟩ := trodAll_nil r0
  obtain rfl : args = #[v0] := by cases args; simp_all
  obtain ⟨rfl, rfl⟩ := trodVars_none hV
  have k0 := h0
  have lt0 : ∀ x ∈ p0, x.block < W.heap.size := by obtain ⟨m, hm⟩ := k0; exact DataW.trod_lt m _ _ _ hm
  obtain ⟨c0, w0⟩ := open_fracs (hval 0 22 v0 rfl rfl) h0
  clear hA0 hval0
  refine (walk v0 c0 w0).mono fun e W' ⟨he, bel⟩ => ?_
  subst he
  exact ⟨_, rfl, _, _, _, [], _, [], hW', trodAll_mk1 (shut_bool Try.underlying4 _), (trodAll_cons_mk (Below.trod laidOut (by kernel_rfl) (of_decide_eq_true (by kernel_rfl)) k0 bel lt0) trodAll_mk0), rfl, bel.frame _, fun h => by cases h⟩

theorem over : Rows.fnExactValidSpreadRow.holds Try.pinned (OpenSpec.ofChange Rows.fnExactValidSpreadSpec) :=
  OpenClaim.holds_of_wide 3 Try.f3 rfl rfl rfl rfl rfl rfl rfl ⟨rfl, rfl, rfl, rfl, rfl⟩ rfl rfl rfl rfl rfl (by kernel_rfl) Try.func3 (by kernel_rfl)
    (of_decide_eq_true (by kernel_rfl)) (by unfold Func.isWrapper; first | (rw [if_pos (by decide +kernel)]; kernel_rfl) | (rw [if_neg (by decide +kernel)]; exact ⟨rfl, rfl⟩))
    (fun os started H enc _ => lifted os started H enc)

/-- the statement -/
theorem proved : Rows.FnExactValidSpreadSaid := over
end Go.Proofs.Ytjkekhiceadpgaa.fnExactValidSpread
