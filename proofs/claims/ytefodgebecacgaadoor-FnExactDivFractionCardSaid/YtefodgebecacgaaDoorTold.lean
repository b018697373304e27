/- l01Told of the specification: a fraction's two texts. Conditions: at most 10^6 digits in base 10^9. -/
import Derived.Test.YtefodgebecacgaaDoorFrs
import Derived.Deep.DeepCutAuto
namespace Go.Proofs.YtefodgebecacgaaDoor
open Go.RowKit Go.Deep
set_option linter.unusedVariables false
set_option linter.unusedSimpArgs false

/-- both texts have at most 300 digits -/
def toldB (n d : Nat) : Bool := decide ((numT n).size ≤ 300 ∧ (numT d).size ≤ 300)
def toldN (n d : Nat) : ByteArray := if toldB n d then numT n else ⟨#[]⟩
def toldD (n d : Nat) : ByteArray := if toldB n d then numT d else ⟨#[]⟩
def toldC (n d : Nat) : Int := if toldB n d then 0 else 3
theorem told_yes {n d : Nat} (h1 : (numT n).size ≤ 300) (h2 : (numT d).size ≤ 300) : toldN n d = numT n ∧ toldD n d = numT d ∧ toldC n d = 0 := by
  have h : toldB n d = true := decide_eq_true ⟨h1, h2⟩
  simp [toldN, toldD, toldC, h]
theorem told_no {n d : Nat} (h1 : ¬ ((numT n).size ≤ 300 ∧ (numT d).size ≤ 300)) : toldN n d = ⟨#[]⟩ ∧ toldD n d = ⟨#[]⟩ ∧ toldC n d = 3 := by
  have h : toldB n d = false := decide_eq_false h1
  simp [toldN, toldD, toldC, h]

/-- what stands behind the making of both texts -/
def TwoT (w wx : World) (n d : ByteArray) (s4 : Value) : Prop := ∃ B : Nat, s4 = .pointer (some ⟨B, 0, none⟩) ∧ Blk wx B #[.string n, .string d] 23 ∧ Blk wx (w.heap.size + 1) #[.string ⟨#[]⟩, .string ⟨#[]⟩] 23 ∧ Below w.heap.size w wx ∧ B ≠ w.heap.size + 1
theorem TwoT.new {w W u2 : World} {n d : ByteArray} (hR : Blk W (w.heap.size + 1) #[.string ⟨#[]⟩, .string ⟨#[]⟩] 23) (bel : Below w.heap.size w W) (bW : Below W.heap.size W u2) :
    TwoT w (u2.alloc (.cells #[.string n, .string d] 23)) n d (.pointer (some ⟨u2.heap.size, 0, none⟩)) := by
  have h1 := hR.lt
  have h2 := bW.size
  exact ⟨_, rfl, Blk.new _ _ _, (hR.keep bW h1).keep (below1 u2 _) (by omega), below_wt (below_wt bel bW) (below1 _ _), by omega⟩
theorem TwoT.fill {w W u2 : World} {n d : ByteArray} {B : Nat} (hR : Blk W (w.heap.size + 1) #[.string ⟨#[]⟩, .string ⟨#[]⟩] 23) (bel : Below w.heap.size w W) (bW : Below W.heap.size W u2)
    (Z4 : Blk u2 B #[.string ⟨#[]⟩, .string ⟨#[]⟩] 23) (hB : W.heap.size ≤ B) :
    TwoT w ((u2.setCell ⟨B, 0, none⟩ (.string n)).setCell ⟨B, 1, none⟩ (.string d)) n d (.pointer (some ⟨B, 0, none⟩)) := by
  have h1 := hR.lt
  have h2 := bW.size
  have Z5 := Z4.set 0 (.string n)
  refine ⟨B, rfl, ?_, ((hR.keep bW h1).setOther (a := ⟨B, 0, none⟩) (by simp only; omega) _).setOther (a := ⟨B, 1, none⟩) (by simp only; omega) _, ?_, by omega⟩
  · have := Z5.set 1 (.string d)
    simpa using this
  · have b := below_wt bel bW
    exact (b.setCell (p := ⟨B, 0, none⟩) (by have := bel.size; simp only; omega) _).setCell (p := ⟨B, 1, none⟩) (by have := bel.size; simp only; omega) _

set_option maxRecDepth 100000 in
set_option maxHeartbeats 4000000 in
theorem l01Told_any (a b : Value) (N D : Nat) (w : World) (ha : LongS w a N) (hb : LongS w b D) (sa : dlen B9 N ≤ 10000000) (sb : dlen B9 D ≤ 10000000) :
    Calls Tryd.prog 27 #[.agg #[a, b]] w fun e w' => e = .returned (.tuple #[.agg #[.string (toldN N D), .string (toldD N D)], .int .i64 (toldC N D)]) ∧ Below w.heap.size w w' := by
  obtain ⟨_, xa0, xa1, rfl⟩ := ha.len
  obtain ⟨_, xb0, xb1, rfl⟩ := hb.len
  have hB0 := (Blk.new w #[(.slice xa0 (dlen B9 N) xa1), (.slice xb0 (dlen B9 D) xb1)] 42).alloc (.cells #[.string ⟨#[]⟩, .string ⟨#[]⟩] 23)
  have hR := Blk.new (w.alloc (.cells #[.slice xa0 (dlen B9 N) xa1, .slice xb0 (dlen B9 D) xb1] 42)) #[.string ⟨#[]⟩, .string ⟨#[]⟩] 23
  have bel := below2 w (.cells #[.slice xa0 (dlen B9 N) xa1, .slice xb0 (dlen B9 D) xb1] 42) (.cells #[.string ⟨#[]⟩, .string ⟨#[]⟩] 23)
  simp only [World.size_alloc] at hR
  have t0 := Lib.hid (fun W b => l01Text_any _ N W ((ha.keep bel).keep (w' := W) b) (by omega))
  have t1 := Lib.hid (fun W b => l01Text_any _ D W ((hb.keep bel).keep (w' := W) b) (by omega))
  clear ha hb sa sb
  go_enter Tryd.func27, Tryd.ntmps27
  go_upto_region 1 with fail
  generalize hW : (w.alloc _).alloc _ = W at *
  clear hW
  go_cut [4] (fun s4 wx => TwoT w wx (numT N) (numT D) s4)
  case first =>
    have c0 : W.drew.cell? ⟨w.heap.size, 0, none⟩ = some (.slice xa0 (dlen B9 N) xa1) := hB0.cell 0
    have c1 : W.drew.cell? ⟨w.heap.size, 1, none⟩ = some (.slice xb0 (dlen B9 D) xb1) := hB0.cell 1
    have cW0 : W.cell? ⟨w.heap.size, 0, none⟩ = some (.slice xa0 (dlen B9 N) xa1) := c0
    have cW1 : W.cell? ⟨w.heap.size, 1, none⟩ = some (.slice xb0 (dlen B9 D) xb1) := c1
    have neW : w.heap.size ≠ W.heap.size := Nat.ne_of_lt (block_lt c0)
    have neW' : W.heap.size ≠ w.heap.size := Ne.symm neW
    go_region_held3 (fun w' => w'.cell? ⟨w.heap.size, 0, none⟩ = some (.slice xa0 (dlen B9 N) xa1) ∧ w'.cell? ⟨w.heap.size, 1, none⟩ = some (.slice xb0 (dlen B9 D) xb1))
      (first | go_keep | exact ⟨((below1 W _).cell (block_lt cW0)).trans cW0, ((below1 W _).cell (block_lt cW1)).trans cW1⟩ | exact ⟨((below1 _ _).cell (block_lt c0)).trans c0, ((below1 _ _).cell (block_lt c1)).trans c1⟩)
      (first
        | (go_at_call 49; first
            | ((with_reducible refine (t0.out _ (by (repeat (first | exact Below.refl _ _ | refine Below.drew ?_ | refine below_wt ?_ (below1 _ _))))).mono ?_); rintro e u1 ⟨rfl, b1⟩; (first | (have Z4 := (Blk.new _ #[.string ⟨#[]⟩, .string ⟨#[]⟩] 23).keep b1 (by simp)) | (have Z4 := (Blk.drewN1 (Blk.new W #[.string ⟨#[]⟩, .string ⟨#[]⟩] 23)).keep b1 (by simp)) | skip); replace c0 : u1.cell? ⟨w.heap.size, 0, none⟩ = some (.slice xa0 (dlen B9 N) xa1) := (by first | exact (b1.cell (p := ⟨w.heap.size, 0, none⟩) (block_lt c0)).trans c0 | exact (b1.cell (p := ⟨w.heap.size, 0, none⟩) (block_lt (((below1 _ _).cell (block_lt c0)).trans c0))).trans (((below1 _ _).cell (block_lt c0)).trans c0)); replace c1 : u1.cell? ⟨w.heap.size, 1, none⟩ = some (.slice xb0 (dlen B9 D) xb1) := (by first | exact (b1.cell (p := ⟨w.heap.size, 1, none⟩) (block_lt c1)).trans c1 | exact (b1.cell (p := ⟨w.heap.size, 1, none⟩) (block_lt (((below1 _ _).cell (block_lt c1)).trans c1))).trans (((below1 _ _).cell (block_lt c1)).trans c1)); have ne1 : w.heap.size ≠ u1.heap.size := Nat.ne_of_lt (block_lt c0); have ne1' : u1.heap.size ≠ w.heap.size := Ne.symm ne1)
            | ((with_reducible refine (t1.out _ (by (repeat (first | exact Below.refl _ _ | refine Below.drew ?_ | refine below_wt ?_ b1 | refine below_wt ?_ (below1 _ _))))).mono ?_); rintro e u2 ⟨rfl, b2⟩; (first | (replace Z4 := Z4.keep b2 Z4.lt) | (first | (have Z4 := (Blk.new _ #[.string ⟨#[]⟩, .string ⟨#[]⟩] 23).keep b2 (by simp)) | (have Z4 := (Blk.drewN1 (Blk.new W #[.string ⟨#[]⟩, .string ⟨#[]⟩] 23)).keep b2 (by simp)) | skip)); (try (have zq0 := Z4.cell 0; have zq1 := Z4.cell 1; have fq0 := Z4.frozen 0; have fq1 := Z4.frozen 1; simp only [List.getElem?_toArray, List.getElem?_cons_zero, List.getElem?_cons_succ] at zq0 zq1)); replace c0 : u2.cell? ⟨w.heap.size, 0, none⟩ = some (.slice xa0 (dlen B9 N) xa1) := (by first | exact (b2.cell (p := ⟨w.heap.size, 0, none⟩) (block_lt c0)).trans c0 | exact (b2.cell (p := ⟨w.heap.size, 0, none⟩) (block_lt (((below1 _ _).cell (block_lt c0)).trans c0))).trans (((below1 _ _).cell (block_lt c0)).trans c0)); replace c1 : u2.cell? ⟨w.heap.size, 1, none⟩ = some (.slice xb0 (dlen B9 D) xb1) := (by first | exact (b2.cell (p := ⟨w.heap.size, 1, none⟩) (block_lt c1)).trans c1 | exact (b2.cell (p := ⟨w.heap.size, 1, none⟩) (block_lt (((below1 _ _).cell (block_lt c1)).trans c1))).trans (((below1 _ _).cell (block_lt c1)).trans c1)); have ne2 : w.heap.size ≠ u2.heap.size := Nat.ne_of_lt (block_lt c0); have ne2' : u2.heap.size ≠ w.heap.size := Ne.symm ne2)))
    all_goals (go_wp2_with fail; go_meet)
    · exact TwoT.new (W := W) hR bel (below_wt ((Below.refl _ W).drew.trans b1) b2)
    · exact TwoT.fill (W := W) hR bel (below_wt (below_wt ((Below.refl _ W).drew.trans b1) (below1 u1 _)) b2) Z4 b1.size
    · exact TwoT.fill (W := W) hR bel (below_wt (below_wt ((below1 W _).drew) b1) b2) Z4 (Nat.le_refl _)
  case rest =>
    obtain ⟨B, rfl, hB, hR, bel5, hne⟩ := hcut
    have q0 := hB.cell 0
    have q1 := hB.cell 1
    have z0 := hR.cell 0
    have z1 := hR.cell 1
    have f0 := hR.frozen 0
    have f1 := hR.frozen 1
    simp only [List.getElem?_toArray, List.getElem?_cons_zero, List.getElem?_cons_succ] at q0 q1 z0 z1
    have B5 := Lib.hid bel5
    have hne' : w.heap.size + 1 ≠ B := Ne.symm hne
    clear hB hR bel5
    by_cases h1 : (numT N).size ≤ 300
    · by_cases h2 : (numT D).size ≤ 300
      · have ht := Lib.hid (told_yes h1 h2)
        have hx := Lib.hid (fun x y => ((B5.out.setCell (p := ⟨w.heap.size + 1, 0, none⟩) (by simp only; omega) x).setCell (p := ⟨w.heap.size + 1, 1, none⟩) (by simp only; omega) y))
        generalize numT N = TN at *
        generalize numT D = TD at *
        have n1 : ¬ (300 : Int) < (TN.size : Int) := by omega
        have n2 : ¬ (300 : Int) < (TD.size : Int) := by omega
        go_wp2
        all_goals (refine bodyPost_ret (v := .tuple #[.agg #[.string TN, .string TD], .int .i64 0]) (by simp [results, Tryd.results27, go_sem, z0, z1]) rfl ?_)
        all_goals exact ⟨by rw [ht.out.1, ht.out.2.1, ht.out.2.2], hx.out _ _⟩
      · have ht := Lib.hid (told_no (n := N) (d := D) (by omega))
        have hx := Lib.hid (fun x y => ((B5.out.setCell (p := ⟨w.heap.size + 1, 0, none⟩) (by simp only; omega) x).setCell (p := ⟨w.heap.size + 1, 1, none⟩) (by simp only; omega) y))
        generalize numT N = TN at *
        generalize numT D = TD at *
        have n1 : ¬ (300 : Int) < (TN.size : Int) := by omega
        have n2 : (300 : Int) < (TD.size : Int) := by omega
        go_wp2
        all_goals (refine bodyPost_ret (v := .tuple #[.agg #[.string ⟨#[]⟩, .string ⟨#[]⟩], .int .i64 3]) (by simp [results, Tryd.results27, go_sem, z0, z1]) rfl ?_)
        all_goals exact ⟨by rw [ht.out.1, ht.out.2.1, ht.out.2.2], hx.out _ _⟩
    · have ht := Lib.hid (told_no (n := N) (d := D) (by omega))
      have hx := Lib.hid (fun x y => ((B5.out.setCell (p := ⟨w.heap.size + 1, 0, none⟩) (by simp only; omega) x).setCell (p := ⟨w.heap.size + 1, 1, none⟩) (by simp only; omega) y))
      generalize numT N = TN at *
      generalize numT D = TD at *
      have n1 : (300 : Int) < (TN.size : Int) := by omega
      go_wp2
      all_goals (refine bodyPost_ret (v := .tuple #[.agg #[.string ⟨#[]⟩, .string ⟨#[]⟩], .int .i64 3]) (by simp [results, Tryd.results27, go_sem, z0, z1]) rfl ?_)
      all_goals exact ⟨by rw [ht.out.1, ht.out.2.1, ht.out.2.2], hx.out _ _⟩
end Go.Proofs.YtefodgebecacgaaDoor
