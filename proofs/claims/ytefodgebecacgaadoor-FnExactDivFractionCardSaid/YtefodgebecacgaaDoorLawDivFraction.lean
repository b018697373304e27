/- For every two fractions that can be read as data, the project's DivFraction and the specification's answer alike, and the fractions are left as they were.
   Conditions: none beyond the row's own (every input that can be read as data); the listed tables hold what their texts say. -/
import Derived.Test.YtefodgebecacgaaDoorFDiv
import Derived.Test.YtefodgebecacgaaDoorTab
namespace Go.Proofs.YtefodgebecacgaaDoor.fnExactDivFraction
open Go.ChangeShapes Go.WideShapes Go.ChangeAt Go.RowKit Go.Deep Go.Joins
set_option linter.unusedVariables false
set_option linter.unusedSimpArgs false

theorem own : ownKnob Tryd.prog.godebug = none := by kernel_rfl
theorem laidOut : laidOutB Tryd.prog = true := by kernel_rfl

set_option maxRecDepth 100000 in
set_option maxHeartbeats 4000000 in
theorem walk {w : World} (htab : Tab10 w) (v0 : Value) (c0 : ByteArray × ByteArray) (hc0 : FrR w v0 c0) (v1 : Value) (c1 : ByteArray × ByteArray) (hc1 : FrR w v1 c1) :
    Calls Tryd.prog 7 #[v0, v1] w fun e w' => e = .returned (.bool true) ∧ Below w.heap.size w w' := by
  obtain ⟨n1, d1⟩ := c0
  obtain ⟨n2, d2⟩ := c1
  obtain ⟨rfl, s1, s2⟩ := hc0
  obtain ⟨rfl, s3, s4⟩ := hc1
  simp only at s1 s2 s3 s4 ⊢
  have hs := Lib.hid (fun W => DivFraction_spec n1 d1 n2 d2 W)
  have hi := Lib.hid (fun W h => DivFraction_impl n1 d1 n2 d2 W h)
  have htab' := Lib.hid htab
  clear htab
  have bel := below2 w (.cells #[.string n1, .string d1] 28) (.cells #[.string n2, .string d2] 28)
  have hB0 := (Blk.new w #[.string n1, .string d1] 28).alloc (.cells #[.string n2, .string d2] 28)
  have hB1 := Blk.new (w.alloc (.cells #[.string n1, .string d1] 28)) #[.string n2, .string d2] 28
  simp only [World.size_alloc] at hB1
  unfold opV at hs hi
  generalize opR _ _ _ _ = r at hs hi
  obtain ⟨rn, rd, rc⟩ := r
  simp only at hs hi
  have hz1 := Lib.hid (fun W => szFraction_any n1 d1 1048576 W (by decide) (by decide) s1 s2)
  by_cases hq : (1048576 : Int) < ((n1.size + d1.size : Nat) : Int)
  · have hneg : frLeft 1048576 (n1.size + d1.size) < 0 := by rw [frLeft_no hq]; decide
    generalize frLeft 1048576 (n1.size + d1.size) = lf at *
    clear hq
    go_enter Tryd.func7, Tryd.ntmps7
    go_wp2_with fail
    (with_reducible refine (hz1.out _).mono ?_)
    rintro e w1 ⟨rfl, b1⟩
    go_wp2
    go_ret
    exact ⟨rfl, below_wt bel b1⟩
  · have hl : frLeft 1048576 (n1.size + d1.size) = 1048576 - ((n1.size + d1.size : Nat) : Int) := frLeft_yes hq
    have hl0 : 0 ≤ frLeft 1048576 (n1.size + d1.size) := by rw [hl]; omega
    have hl1 : frLeft 1048576 (n1.size + d1.size) ≤ 1048576 := by rw [hl]; omega
    generalize frLeft 1048576 (n1.size + d1.size) = lf at *
    clear hq hl
    have hz2 := Lib.hid (fun W => szFraction_any n2 d2 lf W hl0 hl1 s3 s4)
    have hlf : ¬ lf < 0 := by omega
    by_cases hq : lf < ((n2.size + d2.size : Nat) : Int)
    · have hneg : frLeft lf (n2.size + d2.size) < 0 := by rw [frLeft_no hq]; decide
      generalize frLeft lf (n2.size + d2.size) = lg at *
      clear hq hl0 hl1
      go_enter Tryd.func7, Tryd.ntmps7
      go_wp2_with fail
      (with_reducible refine (hz1.out _).mono ?_)
      rintro e w1 ⟨rfl, b1⟩
      have p0 := (hB1.keep b1 hB1.lt).cell 0
      have p1 := (hB1.keep b1 hB1.lt).cell 1
      simp only [List.getElem?_toArray, List.getElem?_cons_zero, List.getElem?_cons_succ] at p0 p1
      go_wp2_with fail
      (with_reducible refine (hz2.out _).mono ?_)
      rintro e w2 ⟨rfl, b2⟩
      clear p0 p1
      go_wp2
      go_ret
      exact ⟨rfl, below_wt (below_wt bel b1) b2⟩
    · have hneg : ¬ frLeft lf (n2.size + d2.size) < 0 := by rw [frLeft_yes hq]; omega
      generalize frLeft lf (n2.size + d2.size) = lg at *
      clear hq hl0 hl1
      go_enter Tryd.func7, Tryd.ntmps7
      go_wp2_with fail
      (with_reducible refine (hz1.out _).mono ?_)
      rintro e w1 ⟨rfl, b1⟩
      have p0 := (hB1.keep b1 hB1.lt).cell 0
      have p1 := (hB1.keep b1 hB1.lt).cell 1
      simp only [List.getElem?_toArray, List.getElem?_cons_zero, List.getElem?_cons_succ] at p0 p1
      go_upto_region 8 with ((with_reducible refine (hz2.out _).mono ?_); rintro e w2 ⟨rfl, b2⟩)
      clear p0 p1
      have b12 := below_wt b1 b2
      have hB0' := hB0.keep b12 hB0.lt
      have hB1' := hB1.keep b12 hB1.lt
      have B2 := Lib.hid (below_wt bel b12)
      clear b1 b2 b12 bel hB0 hB1
      go_cut [6, 7] (fun s s' wx => GotF w2 wx rn rd rc s s')
      case first =>
        have q0 : w2.drew.cell? ⟨w.heap.size, 0, none⟩ = some (.string n1) := hB0'.cell 0
        have q1 : w2.drew.cell? ⟨w.heap.size, 1, none⟩ = some (.string d1) := hB0'.cell 1
        have q2 : w2.drew.cell? ⟨w.heap.size + 1, 0, none⟩ = some (.string n2) := hB1'.cell 0
        have q3 : w2.drew.cell? ⟨w.heap.size + 1, 1, none⟩ = some (.string d2) := hB1'.cell 1
        have cW0 : w2.cell? ⟨w.heap.size, 0, none⟩ = some (.string n1) := q0
        have cW1 : w2.cell? ⟨w.heap.size, 1, none⟩ = some (.string d1) := q1
        have cW2 : w2.cell? ⟨w.heap.size + 1, 0, none⟩ = some (.string n2) := q2
        have cW3 : w2.cell? ⟨w.heap.size + 1, 1, none⟩ = some (.string d2) := q3
        have ne0 : w.heap.size ≠ w2.heap.size := Nat.ne_of_lt (block_lt q0)
        have ne0' : w2.heap.size ≠ w.heap.size := Ne.symm ne0
        have nf0 : w.heap.size + 1 ≠ w2.heap.size := Nat.ne_of_lt (block_lt q2)
        have nf0' : w2.heap.size ≠ w.heap.size + 1 := Ne.symm nf0
        go_region_held3 (fun w' => w'.cell? ⟨w.heap.size, 0, none⟩ = some (.string n1) ∧ w'.cell? ⟨w.heap.size, 1, none⟩ = some (.string d1) ∧ w'.cell? ⟨w.heap.size + 1, 0, none⟩ = some (.string n2) ∧ w'.cell? ⟨w.heap.size + 1, 1, none⟩ = some (.string d2))
          (first | go_keep | exact ⟨((below1 w2 _).cell (block_lt cW0)).trans cW0, ((below1 w2 _).cell (block_lt cW1)).trans cW1, ((below1 w2 _).cell (block_lt cW2)).trans cW2, ((below1 w2 _).cell (block_lt cW3)).trans cW3⟩ | exact ⟨((below1 _ _).cell (block_lt q0)).trans q0, ((below1 _ _).cell (block_lt q1)).trans q1, ((below1 _ _).cell (block_lt q2)).trans q2, ((below1 _ _).cell (block_lt q3)).trans q3⟩)
          (first
            | (go_at_call 14; first
                | ((with_reducible refine (toFraction_any n1 d1 _).mono ?_); rintro e u1 ⟨rfl, b1⟩; (first | (replace Z4 := Z4.keep b1 Z4.lt) | (have Z4 := (Blk.new _ #[.string ⟨#[]⟩, .string ⟨#[]⟩] 23).keep b1 (by simp)) | (have Z4 := (Blk.drewN1 (Blk.new w2 #[.string ⟨#[]⟩, .string ⟨#[]⟩] 23)).keep b1 (by simp)) | skip); replace q0 : u1.cell? ⟨w.heap.size, 0, none⟩ = some (.string n1) := (by first | exact (b1.cell (p := ⟨w.heap.size, 0, none⟩) (block_lt q0)).trans q0 | exact (b1.cell (p := ⟨w.heap.size, 0, none⟩) (block_lt (((below1 _ _).cell (block_lt q0)).trans q0))).trans (((below1 _ _).cell (block_lt q0)).trans q0)); replace q1 : u1.cell? ⟨w.heap.size, 1, none⟩ = some (.string d1) := (by first | exact (b1.cell (p := ⟨w.heap.size, 1, none⟩) (block_lt q1)).trans q1 | exact (b1.cell (p := ⟨w.heap.size, 1, none⟩) (block_lt (((below1 _ _).cell (block_lt q1)).trans q1))).trans (((below1 _ _).cell (block_lt q1)).trans q1)); replace q2 : u1.cell? ⟨w.heap.size + 1, 0, none⟩ = some (.string n2) := (by first | exact (b1.cell (p := ⟨w.heap.size + 1, 0, none⟩) (block_lt q2)).trans q2 | exact (b1.cell (p := ⟨w.heap.size + 1, 0, none⟩) (block_lt (((below1 _ _).cell (block_lt q2)).trans q2))).trans (((below1 _ _).cell (block_lt q2)).trans q2)); replace q3 : u1.cell? ⟨w.heap.size + 1, 1, none⟩ = some (.string d2) := (by first | exact (b1.cell (p := ⟨w.heap.size + 1, 1, none⟩) (block_lt q3)).trans q3 | exact (b1.cell (p := ⟨w.heap.size + 1, 1, none⟩) (block_lt (((below1 _ _).cell (block_lt q3)).trans q3))).trans (((below1 _ _).cell (block_lt q3)).trans q3)); have ne1 : w.heap.size ≠ u1.heap.size := Nat.ne_of_lt (block_lt q0); have ne1' : u1.heap.size ≠ w.heap.size := Ne.symm ne1; have nf1 : w.heap.size + 1 ≠ u1.heap.size := Nat.ne_of_lt (block_lt q2); have nf1' : u1.heap.size ≠ w.heap.size + 1 := Ne.symm nf1)
                | ((with_reducible refine (toFraction_any n2 d2 _).mono ?_); rintro e u2 ⟨rfl, b2⟩; (first | (replace Z4 := Z4.keep b2 Z4.lt) | (have Z4 := (Blk.new _ #[.string ⟨#[]⟩, .string ⟨#[]⟩] 23).keep b2 (by simp)) | (have Z4 := (Blk.drewN1 (Blk.new w2 #[.string ⟨#[]⟩, .string ⟨#[]⟩] 23)).keep b2 (by simp)) | skip); replace q0 : u2.cell? ⟨w.heap.size, 0, none⟩ = some (.string n1) := (by first | exact (b2.cell (p := ⟨w.heap.size, 0, none⟩) (block_lt q0)).trans q0 | exact (b2.cell (p := ⟨w.heap.size, 0, none⟩) (block_lt (((below1 _ _).cell (block_lt q0)).trans q0))).trans (((below1 _ _).cell (block_lt q0)).trans q0)); replace q1 : u2.cell? ⟨w.heap.size, 1, none⟩ = some (.string d1) := (by first | exact (b2.cell (p := ⟨w.heap.size, 1, none⟩) (block_lt q1)).trans q1 | exact (b2.cell (p := ⟨w.heap.size, 1, none⟩) (block_lt (((below1 _ _).cell (block_lt q1)).trans q1))).trans (((below1 _ _).cell (block_lt q1)).trans q1)); replace q2 : u2.cell? ⟨w.heap.size + 1, 0, none⟩ = some (.string n2) := (by first | exact (b2.cell (p := ⟨w.heap.size + 1, 0, none⟩) (block_lt q2)).trans q2 | exact (b2.cell (p := ⟨w.heap.size + 1, 0, none⟩) (block_lt (((below1 _ _).cell (block_lt q2)).trans q2))).trans (((below1 _ _).cell (block_lt q2)).trans q2)); replace q3 : u2.cell? ⟨w.heap.size + 1, 1, none⟩ = some (.string d2) := (by first | exact (b2.cell (p := ⟨w.heap.size + 1, 1, none⟩) (block_lt q3)).trans q3 | exact (b2.cell (p := ⟨w.heap.size + 1, 1, none⟩) (block_lt (((below1 _ _).cell (block_lt q3)).trans q3))).trans (((below1 _ _).cell (block_lt q3)).trans q3)); have ne2 : w.heap.size ≠ u2.heap.size := Nat.ne_of_lt (block_lt q0); have ne2' : u2.heap.size ≠ w.heap.size := Ne.symm ne2; have nf2 : w.heap.size + 1 ≠ u2.heap.size := Nat.ne_of_lt (block_lt q2); have nf2' : u2.heap.size ≠ w.heap.size + 1 := Ne.symm nf2))
            | (go_at_call 20; ((with_reducible refine (hs.out _).mono ?_); rintro e u3 ⟨rfl, b3⟩; (first | (replace Z4 := Z4.keep b3 Z4.lt) | (have Z4 := (Blk.new _ #[.string ⟨#[]⟩, .string ⟨#[]⟩] 23).keep b3 (by simp)) | (have Z4 := (Blk.drewN1 (Blk.new w2 #[.string ⟨#[]⟩, .string ⟨#[]⟩] 23)).keep b3 (by simp)) | skip); (try (have zq0 := Z4.cell 0; have zq1 := Z4.cell 1; have fq0 := Z4.frozen 0; have fq1 := Z4.frozen 1; simp only [List.getElem?_toArray, List.getElem?_cons_zero, List.getElem?_cons_succ] at zq0 zq1)); replace q0 : u3.cell? ⟨w.heap.size, 0, none⟩ = some (.string n1) := (by first | exact (b3.cell (p := ⟨w.heap.size, 0, none⟩) (block_lt q0)).trans q0 | exact (b3.cell (p := ⟨w.heap.size, 0, none⟩) (block_lt (((below1 _ _).cell (block_lt q0)).trans q0))).trans (((below1 _ _).cell (block_lt q0)).trans q0)); replace q1 : u3.cell? ⟨w.heap.size, 1, none⟩ = some (.string d1) := (by first | exact (b3.cell (p := ⟨w.heap.size, 1, none⟩) (block_lt q1)).trans q1 | exact (b3.cell (p := ⟨w.heap.size, 1, none⟩) (block_lt (((below1 _ _).cell (block_lt q1)).trans q1))).trans (((below1 _ _).cell (block_lt q1)).trans q1)); replace q2 : u3.cell? ⟨w.heap.size + 1, 0, none⟩ = some (.string n2) := (by first | exact (b3.cell (p := ⟨w.heap.size + 1, 0, none⟩) (block_lt q2)).trans q2 | exact (b3.cell (p := ⟨w.heap.size + 1, 0, none⟩) (block_lt (((below1 _ _).cell (block_lt q2)).trans q2))).trans (((below1 _ _).cell (block_lt q2)).trans q2)); replace q3 : u3.cell? ⟨w.heap.size + 1, 1, none⟩ = some (.string d2) := (by first | exact (b3.cell (p := ⟨w.heap.size + 1, 1, none⟩) (block_lt q3)).trans q3 | exact (b3.cell (p := ⟨w.heap.size + 1, 1, none⟩) (block_lt (((below1 _ _).cell (block_lt q3)).trans q3))).trans (((below1 _ _).cell (block_lt q3)).trans q3)); have ne3 : w.heap.size ≠ u3.heap.size := Nat.ne_of_lt (block_lt q0); have ne3' : u3.heap.size ≠ w.heap.size := Ne.symm ne3; have nf3 : w.heap.size + 1 ≠ u3.heap.size := Nat.ne_of_lt (block_lt q2); have nf3' : u3.heap.size ≠ w.heap.size + 1 := Ne.symm nf3)))
        all_goals (go_wp2_with fail; go_meet)
        all_goals first
          | exact GotF.new (by (repeat (first | exact Below.refl _ _ | refine Below.drew ?_ | refine below_wt ?_ b3 | refine below_wt ?_ b2 | refine below_wt ?_ b1 | refine below_wt ?_ (below1 _ _))))
          | exact GotF.fill (by (repeat (first | exact Below.refl _ _ | refine Below.drew ?_ | refine below_wt ?_ b3 | refine below_wt ?_ b2 | refine below_wt ?_ b1 | refine below_wt ?_ (below1 _ _)))) Z4 (by (repeat (first | exact Nat.le_refl _ | exact b1.size | exact Nat.le_trans b1.size b2.size | exact (below_wt (below_wt (Below.refl _ _).drew b1) b2).size)))
      case rest =>
        obtain ⟨B, rfl, rfl, hZ6, b6⟩ := hcut
        have hB0c := hB0'.keep b6 hB0'.lt
        have hB1c := hB1'.keep b6 hB1'.lt
        have B6 := Lib.hid (below_wt B2.out b6)
        clear hB0' hB1' b6 B2
        go_upto_region 9 with fail
        go_cut [8, 9] (fun s s' wx => GotF wc wx rn rd rc s s')
        case first =>
          have BW := Lib.hid B6.out
          have q0 : wc.drew.cell? ⟨w.heap.size, 0, none⟩ = some (.string n1) := hB0c.cell 0
          have q1 : wc.drew.cell? ⟨w.heap.size, 1, none⟩ = some (.string d1) := hB0c.cell 1
          have q2 : wc.drew.cell? ⟨w.heap.size + 1, 0, none⟩ = some (.string n2) := hB1c.cell 0
          have q3 : wc.drew.cell? ⟨w.heap.size + 1, 1, none⟩ = some (.string d2) := hB1c.cell 1
          have cW0 : wc.cell? ⟨w.heap.size, 0, none⟩ = some (.string n1) := q0
          have cW1 : wc.cell? ⟨w.heap.size, 1, none⟩ = some (.string d1) := q1
          have cW2 : wc.cell? ⟨w.heap.size + 1, 0, none⟩ = some (.string n2) := q2
          have cW3 : wc.cell? ⟨w.heap.size + 1, 1, none⟩ = some (.string d2) := q3
          have ne0 : w.heap.size ≠ wc.heap.size := Nat.ne_of_lt (block_lt q0)
          have ne0' : wc.heap.size ≠ w.heap.size := Ne.symm ne0
          have nf0 : w.heap.size + 1 ≠ wc.heap.size := Nat.ne_of_lt (block_lt q2)
          have nf0' : wc.heap.size ≠ w.heap.size + 1 := Ne.symm nf0
          go_region_held3 (fun w' => w'.cell? ⟨w.heap.size, 0, none⟩ = some (.string n1) ∧ w'.cell? ⟨w.heap.size, 1, none⟩ = some (.string d1) ∧ w'.cell? ⟨w.heap.size + 1, 0, none⟩ = some (.string n2) ∧ w'.cell? ⟨w.heap.size + 1, 1, none⟩ = some (.string d2))
            (first | go_keep | exact ⟨((below1 wc _).cell (block_lt cW0)).trans cW0, ((below1 wc _).cell (block_lt cW1)).trans cW1, ((below1 wc _).cell (block_lt cW2)).trans cW2, ((below1 wc _).cell (block_lt cW3)).trans cW3⟩ | exact ⟨((below1 _ _).cell (block_lt q0)).trans q0, ((below1 _ _).cell (block_lt q1)).trans q1, ((below1 _ _).cell (block_lt q2)).trans q2, ((below1 _ _).cell (block_lt q3)).trans q3⟩)
            (first
              | (go_at_call 14; first
                  | ((with_reducible refine (toFraction_any n1 d1 _).mono ?_); rintro e u1 ⟨rfl, b1⟩; (first | (replace Z4 := Z4.keep b1 Z4.lt) | (have Z4 := (Blk.new _ #[.string ⟨#[]⟩, .string ⟨#[]⟩] 23).keep b1 (by simp)) | (have Z4 := (Blk.drewN1 (Blk.new wc #[.string ⟨#[]⟩, .string ⟨#[]⟩] 23)).keep b1 (by simp)) | skip); replace q0 : u1.cell? ⟨w.heap.size, 0, none⟩ = some (.string n1) := (by first | exact (b1.cell (p := ⟨w.heap.size, 0, none⟩) (block_lt q0)).trans q0 | exact (b1.cell (p := ⟨w.heap.size, 0, none⟩) (block_lt (((below1 _ _).cell (block_lt q0)).trans q0))).trans (((below1 _ _).cell (block_lt q0)).trans q0)); replace q1 : u1.cell? ⟨w.heap.size, 1, none⟩ = some (.string d1) := (by first | exact (b1.cell (p := ⟨w.heap.size, 1, none⟩) (block_lt q1)).trans q1 | exact (b1.cell (p := ⟨w.heap.size, 1, none⟩) (block_lt (((below1 _ _).cell (block_lt q1)).trans q1))).trans (((below1 _ _).cell (block_lt q1)).trans q1)); replace q2 : u1.cell? ⟨w.heap.size + 1, 0, none⟩ = some (.string n2) := (by first | exact (b1.cell (p := ⟨w.heap.size + 1, 0, none⟩) (block_lt q2)).trans q2 | exact (b1.cell (p := ⟨w.heap.size + 1, 0, none⟩) (block_lt (((below1 _ _).cell (block_lt q2)).trans q2))).trans (((below1 _ _).cell (block_lt q2)).trans q2)); replace q3 : u1.cell? ⟨w.heap.size + 1, 1, none⟩ = some (.string d2) := (by first | exact (b1.cell (p := ⟨w.heap.size + 1, 1, none⟩) (block_lt q3)).trans q3 | exact (b1.cell (p := ⟨w.heap.size + 1, 1, none⟩) (block_lt (((below1 _ _).cell (block_lt q3)).trans q3))).trans (((below1 _ _).cell (block_lt q3)).trans q3)); have ne1 : w.heap.size ≠ u1.heap.size := Nat.ne_of_lt (block_lt q0); have ne1' : u1.heap.size ≠ w.heap.size := Ne.symm ne1; have nf1 : w.heap.size + 1 ≠ u1.heap.size := Nat.ne_of_lt (block_lt q2); have nf1' : u1.heap.size ≠ w.heap.size + 1 := Ne.symm nf1)
                  | ((with_reducible refine (toFraction_any n2 d2 _).mono ?_); rintro e u2 ⟨rfl, b2⟩; (first | (replace Z4 := Z4.keep b2 Z4.lt) | (have Z4 := (Blk.new _ #[.string ⟨#[]⟩, .string ⟨#[]⟩] 23).keep b2 (by simp)) | (have Z4 := (Blk.drewN1 (Blk.new wc #[.string ⟨#[]⟩, .string ⟨#[]⟩] 23)).keep b2 (by simp)) | skip); replace q0 : u2.cell? ⟨w.heap.size, 0, none⟩ = some (.string n1) := (by first | exact (b2.cell (p := ⟨w.heap.size, 0, none⟩) (block_lt q0)).trans q0 | exact (b2.cell (p := ⟨w.heap.size, 0, none⟩) (block_lt (((below1 _ _).cell (block_lt q0)).trans q0))).trans (((below1 _ _).cell (block_lt q0)).trans q0)); replace q1 : u2.cell? ⟨w.heap.size, 1, none⟩ = some (.string d1) := (by first | exact (b2.cell (p := ⟨w.heap.size, 1, none⟩) (block_lt q1)).trans q1 | exact (b2.cell (p := ⟨w.heap.size, 1, none⟩) (block_lt (((below1 _ _).cell (block_lt q1)).trans q1))).trans (((below1 _ _).cell (block_lt q1)).trans q1)); replace q2 : u2.cell? ⟨w.heap.size + 1, 0, none⟩ = some (.string n2) := (by first | exact (b2.cell (p := ⟨w.heap.size + 1, 0, none⟩) (block_lt q2)).trans q2 | exact (b2.cell (p := ⟨w.heap.size + 1, 0, none⟩) (block_lt (((below1 _ _).cell (block_lt q2)).trans q2))).trans (((below1 _ _).cell (block_lt q2)).trans q2)); replace q3 : u2.cell? ⟨w.heap.size + 1, 1, none⟩ = some (.string d2) := (by first | exact (b2.cell (p := ⟨w.heap.size + 1, 1, none⟩) (block_lt q3)).trans q3 | exact (b2.cell (p := ⟨w.heap.size + 1, 1, none⟩) (block_lt (((below1 _ _).cell (block_lt q3)).trans q3))).trans (((below1 _ _).cell (block_lt q3)).trans q3)); have ne2 : w.heap.size ≠ u2.heap.size := Nat.ne_of_lt (block_lt q0); have ne2' : u2.heap.size ≠ w.heap.size := Ne.symm ne2; have nf2 : w.heap.size + 1 ≠ u2.heap.size := Nat.ne_of_lt (block_lt q2); have nf2' : u2.heap.size ≠ w.heap.size + 1 := Ne.symm nf2))
              | (go_at_call 21; ((with_reducible refine (hi.out _ (htab'.out.keep (by (repeat (first | exact Below.refl _ _ | refine Below.drew ?_ | refine below_wt ?_ b2 | refine below_wt ?_ b1 | refine below_wt ?_ (below1 _ _) | exact BW.out | refine below_wt BW.out ?_))))).mono ?_); rintro e u3 ⟨rfl, b3⟩; (first | (replace Z4 := Z4.keep b3 Z4.lt) | (have Z4 := (Blk.new _ #[.string ⟨#[]⟩, .string ⟨#[]⟩] 23).keep b3 (by simp)) | (have Z4 := (Blk.drewN1 (Blk.new wc #[.string ⟨#[]⟩, .string ⟨#[]⟩] 23)).keep b3 (by simp)) | skip); (try (have zq0 := Z4.cell 0; have zq1 := Z4.cell 1; have fq0 := Z4.frozen 0; have fq1 := Z4.frozen 1; simp only [List.getElem?_toArray, List.getElem?_cons_zero, List.getElem?_cons_succ] at zq0 zq1)); replace q0 : u3.cell? ⟨w.heap.size, 0, none⟩ = some (.string n1) := (by first | exact (b3.cell (p := ⟨w.heap.size, 0, none⟩) (block_lt q0)).trans q0 | exact (b3.cell (p := ⟨w.heap.size, 0, none⟩) (block_lt (((below1 _ _).cell (block_lt q0)).trans q0))).trans (((below1 _ _).cell (block_lt q0)).trans q0)); replace q1 : u3.cell? ⟨w.heap.size, 1, none⟩ = some (.string d1) := (by first | exact (b3.cell (p := ⟨w.heap.size, 1, none⟩) (block_lt q1)).trans q1 | exact (b3.cell (p := ⟨w.heap.size, 1, none⟩) (block_lt (((below1 _ _).cell (block_lt q1)).trans q1))).trans (((below1 _ _).cell (block_lt q1)).trans q1)); replace q2 : u3.cell? ⟨w.heap.size + 1, 0, none⟩ = some (.string n2) := (by first | exact (b3.cell (p := ⟨w.heap.size + 1, 0, none⟩) (block_lt q2)).trans q2 | exact (b3.cell (p := ⟨w.heap.size + 1, 0, none⟩) (block_lt (((below1 _ _).cell (block_lt q2)).trans q2))).trans (((below1 _ _).cell (block_lt q2)).trans q2)); replace q3 : u3.cell? ⟨w.heap.size + 1, 1, none⟩ = some (.string d2) := (by first | exact (b3.cell (p := ⟨w.heap.size + 1, 1, none⟩) (block_lt q3)).trans q3 | exact (b3.cell (p := ⟨w.heap.size + 1, 1, none⟩) (block_lt (((below1 _ _).cell (block_lt q3)).trans q3))).trans (((below1 _ _).cell (block_lt q3)).trans q3)); have ne3 : w.heap.size ≠ u3.heap.size := Nat.ne_of_lt (block_lt q0); have ne3' : u3.heap.size ≠ w.heap.size := Ne.symm ne3; have nf3 : w.heap.size + 1 ≠ u3.heap.size := Nat.ne_of_lt (block_lt q2); have nf3' : u3.heap.size ≠ w.heap.size + 1 := Ne.symm nf3)))
          all_goals (go_wp2_with fail; go_meet)
          all_goals first
            | exact GotF.new (by (repeat (first | exact Below.refl _ _ | refine Below.drew ?_ | refine below_wt ?_ b3 | refine below_wt ?_ b2 | refine below_wt ?_ b1 | refine below_wt ?_ (below1 _ _))))
            | exact GotF.fill (by (repeat (first | exact Below.refl _ _ | refine Below.drew ?_ | refine below_wt ?_ b3 | refine below_wt ?_ b2 | refine below_wt ?_ b1 | refine below_wt ?_ (below1 _ _)))) Z4 (by (repeat (first | exact Nat.le_refl _ | exact b1.size | exact Nat.le_trans b1.size b2.size | exact (below_wt (below_wt (Below.refl _ _).drew b1) b2).size)))
        case rest =>
          obtain ⟨B', rfl, rfl, hZ8, b8⟩ := hcut
          have hZ6' := hZ6.keep b8 hZ6.lt
          have y0 := hZ6'.cell 0
          have y1 := hZ6'.cell 1
          have x0 := hZ8.cell 0
          have x1 := hZ8.cell 1
          simp only [List.getElem?_toArray, List.getElem?_cons_zero, List.getElem?_cons_succ] at y0 y1 x0 x1
          have B8 := Lib.hid (below_wt B6.out b8)
          clear hZ6 hZ6' hZ8 b8 hB0c hB1c
          go_wp2_with fail
          (with_reducible refine (eqFraction_self rn rd _).mono ?_)
          rintro e w9 ⟨rfl, b9⟩
          have B9 := Lib.hid (below_wt B8.out b9)
          clear b9
          go_wp2
          go_ret
          exact ⟨rfl, B9.out⟩

set_option maxRecDepth 100000 in
theorem lifted (os : Os) (started : os.Started) (H : Type) (enc : TypeId × Value → H) :
    ReturnsInHanded {} Tryd.checked os 7 .any (fun w args => (Rows.fnExactDivFractionSpec.pre enc Tryd.prog Tryd.f7 [] false w args ∧ laidMetH Tryd.prog laidL w) ∧ sizedMet enc Tryd.prog Tryd.f7 (OpenSpec.ofChange Rows.fnExactDivFractionSpec) false w args)
      (Rows.fnExactDivFractionSpec.post enc Tryd.prog Tryd.f7 false true false false) := by
  refine returnsInHanded_of_change_and (C := Tryd.checked) (X := fun w _ => laidMetH Tryd.prog laidL w) (fun _ _ _ hh h => h.of_heap hh) own started (by kernel_rfl) Tryd.func7
    (ChangeSpec.witness_shaped (enc := enc) (C := Tryd.checked) (os := os) (X := fun w _ => laidMetH Tryd.prog laidL w) false (World.doorLaid Tryd.prog 400 os) #[.agg #[.string .empty, .string .empty], .agg #[.string .empty, .string .empty]] 8 rfl (World.shaped_of_RefB (by kernel_rfl) (by kernel_rfl)) (by kernel_rfl) (by kernel_rfl) (by kernel_rfl) (door_met os _)) ?_
  intro W base args ds gs before hval0 hW _ _ hL _
  have htab : Tab10 W := tab10_of hL
  have hval : ∀ (j : Nat) t v, Tryd.f7.params[j]? = some t → args[j]? = some v → Value.okWide Tryd.prog W .any base t v := hval0
  have hW' := hW
  obtain ⟨p, q, hA0, hV, rfl, hfz, hnd⟩ := hW
  have hA : DataW.TrodAll enc Tryd.prog W 0 (fun _ => true) true Tryd.f7.params.toList args.toList ds p := hA0
  rw [Tryd.params7] at hA hval
  obtain ⟨v0, vs0, d0, ds0, p0, q0, hargs, rfl, rfl, h0, r0⟩ := trodAll_cons hA
  obtain ⟨v1, vs1, d1, ds1, p1, q1, rfl, rfl, rfl, h1, r1⟩ := trodAll_cons r0
  obtain ⟨rfl, rfl, rfl⟩ := trodAll_nil r1
  obtain rfl : args = #[v0, v1] := by cases args; simp_all
  obtain ⟨rfl, rfl⟩ := trodVars_none hV
  have k0 := h0
  have lt0 : ∀ x ∈ p0, x.block < W.heap.size := by obtain ⟨m, hm⟩ := k0; exact DataW.trod_lt m _ _ _ hm
  obtain ⟨c0, w0⟩ := open_frac (hval 0 28 v0 rfl rfl) h0
  have k1 := h1
  have lt1 : ∀ x ∈ p1, x.block < W.heap.size := by obtain ⟨m, hm⟩ := k1; exact DataW.trod_lt m _ _ _ hm
  obtain ⟨c1, w1⟩ := open_frac (hval 1 28 v1 rfl rfl) h1
  clear hA0 hval0
  refine (walk htab v0 c0 w0 v1 c1 w1).mono fun e W' ⟨he, bel⟩ => ?_
  subst he
  exact ⟨_, rfl, _, _, _, [], _, [], hW', trodAll_mk1 (shut_bool Tryd.underlying4 _), (trodAll_cons_mk (Below.trod laidOut (by kernel_rfl) (of_decide_eq_true (by kernel_rfl)) k0 bel lt0) (trodAll_cons_mk (Below.trod laidOut (by kernel_rfl) (of_decide_eq_true (by kernel_rfl)) k1 bel lt1) trodAll_mk0)), rfl, bel.frame _, fun h => by cases h⟩

theorem over : Rows.FnExactDivFractionSaid :=
  OpenClaim.holds_of_wide 7 Tryd.f7 rfl rfl rfl rfl rfl rfl rfl ⟨rfl, rfl, rfl, rfl, rfl⟩ rfl rfl rfl rfl rfl (by kernel_rfl) Tryd.func7 (by kernel_rfl)
    (of_decide_eq_true (by kernel_rfl)) (by unfold Func.isWrapper; first | (rw [if_pos (by decide +kernel)]; kernel_rfl) | (rw [if_neg (by decide +kernel)]; exact ⟨rfl, rfl⟩))
    (fun os started H enc _ => lifted os started H enc)

/-- the statement: the tied card -/
theorem proved : Rows.FnExactDivFractionCardSaid :=
  Claim7.holds_tied_plain_at .later [] [.data, .data, .data] true (true, "41521b35d461e1e0389af8480c4e89993f9ca8543f8518c3428bd255f2d70720") false
    over (fun _ h => by cases h) (by kernel_rfl) (fun _ h => by cases h) fnExactDivFraction_row_tie rfl ⟨rfl, rfl⟩ (by kernel_rfl) rfl
    (fun f fn hf hfn => by
      obtain rfl : f = 7 := Option.some.inj ((show Tryd.prog.funcNamed "loop.example/g01118/laws.FnExactDivFraction" = some 7 by kernel_rfl).symm.trans hf) |>.symm
      obtain rfl : fn = Tryd.f7 := (Option.some.inj (Tryd.func7.symm.trans hfn)).symm
      exact ⟨by kernel_rfl, fun j t ht => by
        rw [Tryd.params7] at ht
        have hm : t ∈ [28, 28] := by simpa using Array.mem_of_getElem? ht
        have hall : ([28, 28].all fun u => !Tryd.prog.wantsStandIn u) = true := by kernel_rfl
        exact (show Tryd.prog.wantsStandIn t = false by simpa using List.all_eq_true.1 hall t hm)⟩)
    (by kernel_rfl)
end Go.Proofs.YtefodgebecacgaaDoor.fnExactDivFraction
