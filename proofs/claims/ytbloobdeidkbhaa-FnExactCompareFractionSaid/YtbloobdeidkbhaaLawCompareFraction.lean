/- For every two fractions that can be read as data, the project's CompareFraction and the specification's answer alike, and the fractions are left as they were.
   Conditions: none beyond the row's own (every input that can be read as data). -/
import Derived.Test.YtbloobdeidkbhaaFracC
import Derived.Test.YtbloobdeidkbhaaOpen
namespace Go.Proofs.Ytbloobdeidkbhaa.fnExactCompareFraction
open Go.ChangeShapes Go.WideShapes Go.ChangeAt Go.RowKit Go.Deep Go.Joins
open Go.ChangeMaps (open_string shut_string)
set_option linter.unusedVariables false

theorem own : ownKnob Try.prog.godebug = none := by kernel_rfl
theorem laidOut : laidOutB Try.prog = true := by kernel_rfl

set_option maxRecDepth 100000 in
set_option maxHeartbeats 4000000 in
theorem walk {w : World} (v0 : Value) (c0 : ByteArray × ByteArray) (hc0 : FrR w v0 c0) (v1 : Value) (c1 : ByteArray × ByteArray) (hc1 : FrR w v1 c1) :
    Calls Try.prog 5 #[v0, v1] w fun e w' => e = .returned (.bool true) ∧ Below w.heap.size w w' := by
  obtain ⟨n1, d1⟩ := c0
  obtain ⟨n2, d2⟩ := c1
  obtain ⟨rfl, s1, s2⟩ := hc0
  obtain ⟨rfl, s3, s4⟩ := hc1
  simp only at s1 s2 s3 s4 ⊢
  have hs := Lib.hid (fun W => CompareFraction_spec n1 d1 n2 d2 W)
  have hi := Lib.hid (fun W => CompareFraction_impl n1 d1 n2 d2 W)
  have bel := below2 w (.cells #[.string n1, .string d1] 23) (.cells #[.string n2, .string d2] 23)
  have hB0 := (Blk.new w #[.string n1, .string d1] 23).alloc (.cells #[.string n2, .string d2] 23)
  have hB1 := Blk.new (w.alloc (.cells #[.string n1, .string d1] 23)) #[.string n2, .string d2] 23
  simp only [World.size_alloc] at hB1
  generalize hcv : cmpV n1 d1 n2 d2 = cv at *
  generalize hcc : cmpC n1 d1 n2 d2 = cc at *
  clear hcv hcc
  have hz1 := Lib.hid (fun W => szFraction_any n1 d1 1048576 W (by decide) (by decide) s1 s2)
  by_cases hq : (1048576 : Int) < ((n1.size + d1.size : Nat) : Int)
  · have hneg : frLeft 1048576 (n1.size + d1.size) < 0 := by rw [frLeft_no hq]; decide
    generalize frLeft 1048576 (n1.size + d1.size) = lf at *
    clear hq
    go_enter Try.func5, Try.ntmps5
    go_wp2_with fail
    (with_reducible refine (hz1.out _).mono ?_)
    rintro e w1 ⟨rfl, b1⟩
    go_wp2
    go_ret
    exact ⟨rfl, below_wt bel b1⟩
  · have hl : frLeft 1048576 (n1.size + d1.size) = 1048576 - ((n1.size + d1.size : Nat) : Int) := frLeft_yes hq
    have hl0 : 0 ≤ frLeft 1048576 (n1.size + d1.size) := by rw [hl]; omega
    have hl1 : frLeft 1048576 (n1.size + d1.size) ≤ 1048576 := by rw [hl]; omega
    generalize frLeft 1048576 (n1.size + d1.size) = lf at *
    clear hq hl
    have hz2 := Lib.hid (fun W => szFraction_any n2 d2 lf W hl0 hl1 s3 s4)
    have hlf : ¬ lf < 0 := by omega
    by_cases hq : lf < ((n2.size + d2.size : Nat) : Int)
    · have hneg : frLeft lf (n2.size + d2.size) < 0 := by rw [frLeft_no hq]; decide
      generalize frLeft lf (n2.size + d2.size) = lg at *
      clear hq hl0 hl1
      go_enter Try.func5, Try.ntmps5
      go_wp2_with fail
      (with_reducible refine (hz1.out _).mono ?_)
      rintro e w1 ⟨rfl, b1⟩
      have p0 := (hB1.keep b1 hB1.lt).cell 0
      have p1 := (hB1.keep b1 hB1.lt).cell 1
      simp only [List.getElem?_toArray, List.getElem?_cons_zero, List.getElem?_cons_succ] at p0 p1
      go_wp2_with fail
      (with_reducible refine (hz2.out _).mono ?_)
      rintro e w2 ⟨rfl, b2⟩
      clear p0 p1
      go_wp2
      go_ret
      exact ⟨rfl, below_wt (below_wt bel b1) b2⟩
    · have hneg : ¬ frLeft lf (n2.size + d2.size) < 0 := by rw [frLeft_yes hq]; omega
      generalize frLeft lf (n2.size + d2.size) = lg at *
      clear hq hl0 hl1
      go_enter Try.func5, Try.ntmps5
      go_wp2_with fail
      (with_reducible refine (hz1.out _).mono ?_)
      rintro e w1 ⟨rfl, b1⟩
      have p0 := (hB1.keep b1 hB1.lt).cell 0
      have p1 := (hB1.keep b1 hB1.lt).cell 1
      simp only [List.getElem?_toArray, List.getElem?_cons_zero, List.getElem?_cons_succ] at p0 p1
      go_wp2_with fail
      (with_reducible refine (hz2.out _).mono ?_)
      rintro e w2 ⟨rfl, b2⟩
      clear p0 p1
      have b12 := below_wt b1 b2
      have hB0' := hB0.keep b12 hB0.lt
      have hB1' := hB1.keep b12 hB1.lt
      have q0 : w2.drew.cell? ⟨w.heap.size, 0, none⟩ = some (.string n1) := hB0'.cell 0
      have q1 : w2.drew.cell? ⟨w.heap.size, 1, none⟩ = some (.string d1) := hB0'.cell 1
      have q2 : w2.drew.cell? ⟨w.heap.size + 1, 0, none⟩ = some (.string n2) := hB1'.cell 0
      have q3 : w2.drew.cell? ⟨w.heap.size + 1, 1, none⟩ = some (.string d2) := hB1'.cell 1
      clear hB0 hB1 hB0' hB1'
      go_wp2_with fail
      go_region_held3 (fun w' => w'.cell? ⟨w.heap.size, 0, none⟩ = some (.string n1) ∧ w'.cell? ⟨w.heap.size, 1, none⟩ = some (.string d1) ∧ w'.cell? ⟨w.heap.size + 1, 0, none⟩ = some (.string n2) ∧ w'.cell? ⟨w.heap.size + 1, 1, none⟩ = some (.string d2))
      (go_keep)
      (first
        | (go_at_call 12; first
            | ((with_reducible refine (toFraction_any n1 d1 _).mono ?_); rintro e u1 ⟨rfl, bu1⟩; replace q0 : u1.cell? ⟨w.heap.size, 0, none⟩ = some (.string n1) := (bu1.cell (p := ⟨w.heap.size, 0, none⟩) (block_lt q0)).trans q0; replace q1 : u1.cell? ⟨w.heap.size, 1, none⟩ = some (.string d1) := (bu1.cell (p := ⟨w.heap.size, 1, none⟩) (block_lt q1)).trans q1; replace q2 : u1.cell? ⟨w.heap.size + 1, 0, none⟩ = some (.string n2) := (bu1.cell (p := ⟨w.heap.size + 1, 0, none⟩) (block_lt q2)).trans q2; replace q3 : u1.cell? ⟨w.heap.size + 1, 1, none⟩ = some (.string d2) := (bu1.cell (p := ⟨w.heap.size + 1, 1, none⟩) (block_lt q3)).trans q3)
            | ((with_reducible refine (toFraction_any n2 d2 _).mono ?_); rintro e u2 ⟨rfl, bu2⟩; replace q0 : u2.cell? ⟨w.heap.size, 0, none⟩ = some (.string n1) := (bu2.cell (p := ⟨w.heap.size, 0, none⟩) (block_lt q0)).trans q0; replace q1 : u2.cell? ⟨w.heap.size, 1, none⟩ = some (.string d1) := (bu2.cell (p := ⟨w.heap.size, 1, none⟩) (block_lt q1)).trans q1; replace q2 : u2.cell? ⟨w.heap.size + 1, 0, none⟩ = some (.string n2) := (bu2.cell (p := ⟨w.heap.size + 1, 0, none⟩) (block_lt q2)).trans q2; replace q3 : u2.cell? ⟨w.heap.size + 1, 1, none⟩ = some (.string d2) := (bu2.cell (p := ⟨w.heap.size + 1, 1, none⟩) (block_lt q3)).trans q3))
        | (go_at_call 16; ((with_reducible refine (hs.out _).mono ?_); rintro e u3 ⟨rfl, bu3⟩; replace q0 : u3.cell? ⟨w.heap.size, 0, none⟩ = some (.string n1) := (bu3.cell (p := ⟨w.heap.size, 0, none⟩) (block_lt q0)).trans q0; replace q1 : u3.cell? ⟨w.heap.size, 1, none⟩ = some (.string d1) := (bu3.cell (p := ⟨w.heap.size, 1, none⟩) (block_lt q1)).trans q1; replace q2 : u3.cell? ⟨w.heap.size + 1, 0, none⟩ = some (.string n2) := (bu3.cell (p := ⟨w.heap.size + 1, 0, none⟩) (block_lt q2)).trans q2; replace q3 : u3.cell? ⟨w.heap.size + 1, 1, none⟩ = some (.string d2) := (bu3.cell (p := ⟨w.heap.size + 1, 1, none⟩) (block_lt q3)).trans q3)))

      have q0 : u3.drew.cell? ⟨w.heap.size, 0, none⟩ = some (.string n1) := q0
      have q1 : u3.drew.cell? ⟨w.heap.size, 1, none⟩ = some (.string d1) := q1
      have q2 : u3.drew.cell? ⟨w.heap.size + 1, 0, none⟩ = some (.string n2) := q2
      have q3 : u3.drew.cell? ⟨w.heap.size + 1, 1, none⟩ = some (.string d2) := q3
      have B3 := Lib.hid (below_wt (below_wt (below_wt (below_wt bel b12).drew bu1) bu2) bu3)
      clear bu1 bu2 bu3 b12 b1 b2
      go_wp2_with fail
      go_region_held3 (fun w' => w'.cell? ⟨w.heap.size, 0, none⟩ = some (.string n1) ∧ w'.cell? ⟨w.heap.size, 1, none⟩ = some (.string d1) ∧ w'.cell? ⟨w.heap.size + 1, 0, none⟩ = some (.string n2) ∧ w'.cell? ⟨w.heap.size + 1, 1, none⟩ = some (.string d2))
      (go_keep)
      (first
        | (go_at_call 12; first
            | ((with_reducible refine (toFraction_any n1 d1 _).mono ?_); rintro e u4 ⟨rfl, bu4⟩; replace q0 : u4.cell? ⟨w.heap.size, 0, none⟩ = some (.string n1) := (bu4.cell (p := ⟨w.heap.size, 0, none⟩) (block_lt q0)).trans q0; replace q1 : u4.cell? ⟨w.heap.size, 1, none⟩ = some (.string d1) := (bu4.cell (p := ⟨w.heap.size, 1, none⟩) (block_lt q1)).trans q1; replace q2 : u4.cell? ⟨w.heap.size + 1, 0, none⟩ = some (.string n2) := (bu4.cell (p := ⟨w.heap.size + 1, 0, none⟩) (block_lt q2)).trans q2; replace q3 : u4.cell? ⟨w.heap.size + 1, 1, none⟩ = some (.string d2) := (bu4.cell (p := ⟨w.heap.size + 1, 1, none⟩) (block_lt q3)).trans q3)
            | ((with_reducible refine (toFraction_any n2 d2 _).mono ?_); rintro e u5 ⟨rfl, bu5⟩; replace q0 : u5.cell? ⟨w.heap.size, 0, none⟩ = some (.string n1) := (bu5.cell (p := ⟨w.heap.size, 0, none⟩) (block_lt q0)).trans q0; replace q1 : u5.cell? ⟨w.heap.size, 1, none⟩ = some (.string d1) := (bu5.cell (p := ⟨w.heap.size, 1, none⟩) (block_lt q1)).trans q1; replace q2 : u5.cell? ⟨w.heap.size + 1, 0, none⟩ = some (.string n2) := (bu5.cell (p := ⟨w.heap.size + 1, 0, none⟩) (block_lt q2)).trans q2; replace q3 : u5.cell? ⟨w.heap.size + 1, 1, none⟩ = some (.string d2) := (bu5.cell (p := ⟨w.heap.size + 1, 1, none⟩) (block_lt q3)).trans q3))
        | (go_at_call 17; ((with_reducible refine (hi.out _).mono ?_); rintro e u6 ⟨rfl, bu6⟩; replace q0 : u6.cell? ⟨w.heap.size, 0, none⟩ = some (.string n1) := (bu6.cell (p := ⟨w.heap.size, 0, none⟩) (block_lt q0)).trans q0; replace q1 : u6.cell? ⟨w.heap.size, 1, none⟩ = some (.string d1) := (bu6.cell (p := ⟨w.heap.size, 1, none⟩) (block_lt q1)).trans q1; replace q2 : u6.cell? ⟨w.heap.size + 1, 0, none⟩ = some (.string n2) := (bu6.cell (p := ⟨w.heap.size + 1, 0, none⟩) (block_lt q2)).trans q2; replace q3 : u6.cell? ⟨w.heap.size + 1, 1, none⟩ = some (.string d2) := (bu6.cell (p := ⟨w.heap.size + 1, 1, none⟩) (block_lt q3)).trans q3)))

      have B6 := Lib.hid (below_wt (below_wt (below_wt B3.out.drew bu4) bu5) bu6)
      clear bu4 bu5 bu6
      go_wp2
      go_ret
      exact ⟨rfl, B6.out⟩

set_option maxRecDepth 100000 in
theorem lifted (os : Os) (started : os.Started) (H : Type) (enc : TypeId × Value → H) :
    ReturnsInHanded {} Try.checked os 5 .any (Rows.fnExactCompareFractionSpec.pre6 enc Try.prog Try.f5 Rows.fnExactCompareFractionRow.domain false) (Rows.fnExactCompareFractionSpec.post enc Try.prog Try.f5 false true false false) := by
  refine returnsInHanded_of_change (C := Try.checked) own started (by kernel_rfl) Try.func5
    (ChangeSpec.witness6 (enc := enc) (C := Try.checked) false ⟨#[], #[.agg #[.string .empty, .string .empty], .agg #[.string .empty, .string .empty]], []⟩ 8 (by kernel_rfl) (by kernel_rfl) (by kernel_rfl) (by kernel_rfl)) ?_
  intro W base args ds gs before hval0 hW hcnd _
  have hval : ∀ (j : Nat) t v, Try.f5.params[j]? = some t → args[j]? = some v → Value.okWide Try.prog W .any base t v := hval0
  have hW' := hW
  obtain ⟨p, q, hA0, hV, rfl, hfz, hnd⟩ := hW
  have hA : DataW.TrodAll enc Try.prog W 0 (fun _ => true) true Try.f5.params.toList args.toList ds p := hA0
  rw [Try.params5] at hA hval
  obtain ⟨v0, vs0, d0, ds0, p0, q0, hargs, rfl, rfl, h0, r0⟩ := trodAll_cons hA
  obtain ⟨v1, vs1, d1, ds1, p1, q1, rfl, rfl, rfl, h1, r1⟩ := trodAll_cons r0
  obtain ⟨rfl, rfl, rfl⟩ := trodAll_nil r1
  obtain rfl : args = #[v0, v1] := by cases args; simp_all
  obtain ⟨rfl, rfl⟩ := trodVars_none hV
  have k0 := h0
  have lt0 : ∀ x ∈ p0, x.block < W.heap.size := by obtain ⟨m, hm⟩ := k0; exact DataW.trod_lt m _ _ _ hm
  obtain ⟨c0, w0⟩ := open_frac (hval 0 23 v0 rfl rfl) h0
  have k1 := h1
  have lt1 : ∀ x ∈ p1, x.block < W.heap.size := by obtain ⟨m, hm⟩ := k1; exact DataW.trod_lt m _ _ _ hm
  obtain ⟨c1, w1⟩ := open_frac (hval 1 23 v1 rfl rfl) h1
  clear hA0 hval0
  refine (walk v0 c0 w0 v1 c1 w1).mono fun e W' ⟨he, bel⟩ => ?_
  subst he
  exact ⟨_, rfl, _, _, _, [], _, [], hW', trodAll_mk1 (shut_bool Try.underlying4 _), (trodAll_cons_mk (Below.trod laidOut (by kernel_rfl) (of_decide_eq_true (by kernel_rfl)) k0 bel lt0) (trodAll_cons_mk (Below.trod laidOut (by kernel_rfl) (of_decide_eq_true (by kernel_rfl)) k1 bel lt1) trodAll_mk0)), rfl, bel.frame _, fun h => by cases h⟩

theorem over : Rows.fnExactCompareFractionRow.holds Try.pinned (OpenSpec.ofChange Rows.fnExactCompareFractionSpec) :=
  OpenClaim.holds_of_wide 5 Try.f5 rfl rfl rfl rfl rfl rfl rfl ⟨rfl, rfl, rfl, rfl, rfl⟩ rfl rfl rfl rfl rfl (by kernel_rfl) Try.func5 (by kernel_rfl)
    (of_decide_eq_true (by kernel_rfl)) (by unfold Func.isWrapper; first | (rw [if_pos (by decide +kernel)]; kernel_rfl) | (rw [if_neg (by decide +kernel)]; exact ⟨rfl, rfl⟩))
    (fun os started H enc _ => lifted os started H enc)

/-- the statement -/
theorem proved : Rows.FnExactCompareFractionSaid := over
end Go.Proofs.Ytbloobdeidkbhaa.fnExactCompareFraction
