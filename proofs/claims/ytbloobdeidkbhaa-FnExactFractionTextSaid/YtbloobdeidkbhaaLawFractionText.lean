/- For every fraction that can be read as data, the project's FractionText and the specification's answer alike, and the fraction is left as it was.
   Conditions: none beyond the row's own (every input that can be read as data). -/
import Derived.Test.YtbloobdeidkbhaaFracT
import Derived.Test.YtbloobdeidkbhaaOpen
namespace Go.Proofs.Ytbloobdeidkbhaa.fnExactFractionText
open Go.ChangeShapes Go.WideShapes Go.ChangeAt Go.RowKit Go.Deep Go.Joins
open Go.ChangeMaps (open_string shut_string)
set_option linter.unusedVariables false

theorem own : ownKnob Try.prog.godebug = none := by kernel_rfl
theorem laidOut : laidOutB Try.prog = true := by kernel_rfl

set_option maxRecDepth 100000 in
set_option maxHeartbeats 4000000 in
theorem walk (v0 : Value) (c : ByteArray × ByteArray) {w : World} (hc0 : FrR w v0 c) :
    Calls Try.prog 4 #[v0] w fun e w' => e = .returned (.bool true) ∧ Below w.heap.size w w' := by
  obtain ⟨n, d⟩ := c
  obtain ⟨rfl, s1, s2⟩ := hc0
  simp only at s1 s2 ⊢
  have hz := Lib.hid (fun W => szFraction_any n d 1048576 W (by decide) (by decide) s1 s2)
  have hs := Lib.hid (fun W => FractionText_spec n d W)
  have hi := Lib.hid (fun W => FractionText_impl n d W)
  have ht := Lib.hid (fun W => toFraction_any n d W)
  have hB := Blk.new w #[.string n, .string d] 23
  have B0 := below1 w (.cells #[.string n, .string d] 23)
  have hlt : w.heap.size < (w.alloc (.cells #[.string n, .string d] 23)).heap.size := by simp
  generalize hok : frText n d = T at *
  clear hok
  have hself : (T.toList == T.toList) = true := by simp
  by_cases hq : (1048576 : Int) < ((n.size + d.size : Nat) : Int)
  · have hneg : frLeft 1048576 (n.size + d.size) < 0 := by rw [frLeft_no hq]; decide
    generalize frLeft 1048576 (n.size + d.size) = lf at *
    clear hq
    go_enter Try.func4, Try.ntmps4
    go_wp2_with fail
    (with_reducible refine (hz.out _).mono ?_)
    rintro e w1 ⟨rfl, b1⟩
    go_wp2
    go_ret
    exact ⟨rfl, below_wt B0 b1⟩
  · have hneg : ¬ frLeft 1048576 (n.size + d.size) < 0 := by rw [frLeft_yes hq]; omega
    generalize frLeft 1048576 (n.size + d.size) = lf at *
    clear hq
    go_enter Try.func4, Try.ntmps4
    go_wp2_with fail
    (with_reducible refine (hz.out _).mono ?_)
    rintro e w1 ⟨rfl, b1⟩
    have p0 := (hB.keep b1 hlt).cell 0
    have p1 := (hB.keep b1 hlt).cell 1
    simp only [List.getElem?_toArray, List.getElem?_cons_zero, List.getElem?_cons_succ] at p0 p1
    go_wp2_with fail
    (with_reducible refine (ht.out _).mono ?_)
    rintro e w2 ⟨rfl, b2⟩
    clear p0 p1
    go_wp2_with fail
    (with_reducible refine (hs.out _).mono ?_)
    rintro e w3 ⟨rfl, b3⟩
    have b13 := below_wt (below_wt b1 b2) b3
    have p0 := (hB.keep b13 hlt).cell 0
    have p1 := (hB.keep b13 hlt).cell 1
    simp only [List.getElem?_toArray, List.getElem?_cons_zero, List.getElem?_cons_succ] at p0 p1
    go_wp2_with fail
    (with_reducible refine (ht.out _).mono ?_)
    rintro e w4 ⟨rfl, b4⟩
    clear p0 p1
    go_wp2_with fail
    (with_reducible refine (hi.out _).mono ?_)
    rintro e w5 ⟨rfl, b5⟩
    have b15 := Lib.hid (below_wt B0 (below_wt (below_wt b13 b4) b5))
    clear b1 b2 b3 b4 b5 b13
    go_wp2
    go_ret
    exact ⟨rfl, b15.out⟩

set_option maxRecDepth 100000 in
theorem lifted (os : Os) (started : os.Started) (H : Type) (enc : TypeId × Value → H) :
    ReturnsInHanded {} Try.checked os 4 .any (Rows.fnExactFractionTextSpec.pre6 enc Try.prog Try.f4 Rows.fnExactFractionTextRow.domain false) (Rows.fnExactFractionTextSpec.post enc Try.prog Try.f4 false true false false) := by
  refine returnsInHanded_of_change (C := Try.checked) own started (by kernel_rfl) Try.func4
    (ChangeSpec.witness6 (enc := enc) (C := Try.checked) false ⟨#[], #[.agg #[.string .empty, .string .empty]], []⟩ 8 (by kernel_rfl) (by kernel_rfl) (by kernel_rfl) (by kernel_rfl)) ?_
  intro W base args ds gs before hval0 hW hcnd _
  have hval : ∀ (j : Nat) t v, Try.f4.params[j]? = some t → args[j]? = some v → Value.okWide Try.prog W .any base t v := hval0
  have hW' := hW
  obtain ⟨p, q, hA0, hV, rfl, hfz, hnd⟩ := hW
  have hA : DataW.TrodAll enc Try.prog W 0 (fun _ => true) true Try.f4.params.toList args.toList ds p := hA0
  rw [Try.params4] at hA hval
  obtain ⟨v0, vs0, d0, ds0, p0, q0, hargs, rfl, rfl, h0, r0⟩ := trodAll_cons hA
  obtain ⟨rfl, rfl, rfl⟩ := trodAll_nil r0
  obtain rfl : args = #[v0] := by cases args; simp_all
  obtain ⟨rfl, rfl⟩ := trodVars_none hV
  have k0 := h0
  have lt0 : ∀ x ∈ p0, x.block < W.heap.size := by obtain ⟨m, hm⟩ := k0; exact DataW.trod_lt m _ _ _ hm
  obtain ⟨c0, w0⟩ := open_frac (hval 0 23 v0 rfl rfl) h0
  clear hA0 hval0
  refine (walk v0 c0 w0).mono fun e W' ⟨he, bel⟩ => ?_
  subst he
  exact ⟨_, rfl, _, _, _, [], _, [], hW', trodAll_mk1 (shut_bool Try.underlying4 _), (trodAll_cons_mk (Below.trod laidOut (by kernel_rfl) (of_decide_eq_true (by kernel_rfl)) k0 bel lt0) trodAll_mk0), rfl, bel.frame _, fun h => by cases h⟩

theorem over : Rows.fnExactFractionTextRow.holds Try.pinned (OpenSpec.ofChange Rows.fnExactFractionTextSpec) :=
  OpenClaim.holds_of_wide 4 Try.f4 rfl rfl rfl rfl rfl rfl rfl ⟨rfl, rfl, rfl, rfl, rfl⟩ rfl rfl rfl rfl rfl (by kernel_rfl) Try.func4 (by kernel_rfl)
    (of_decide_eq_true (by kernel_rfl)) (by unfold Func.isWrapper; first | (rw [if_pos (by decide +kernel)]; kernel_rfl) | (rw [if_neg (by decide +kernel)]; exact ⟨rfl, rfl⟩))
    (fun os started H enc _ => lifted os started H enc)

/-- the statement -/
theorem proved : Rows.FnExactFractionTextSaid := over
end Go.Proofs.Ytbloobdeidkbhaa.fnExactFractionText
