/- A fraction of the project in lowest terms. Conditions: told by the code; at most 10^6 words in each part. -/
import Derived.Test.YtefodgebecacgaaDoorRat
namespace Go.Proofs.YtefodgebecacgaaDoor
open Go.RowKit Go.Deep
set_option linter.unusedVariables false
set_option linter.unusedSimpArgs false

set_option maxRecDepth 100000 in
set_option maxHeartbeats 4000000 in
theorem ratioLowest (xa xb : Value) (N1 D1 : Nat) (w : World) (h0 : LongI w xa N1) (h1 : LongI w xb D1) (s0 : dlen W32 N1 ≤ 1000000) (s1 : dlen W32 D1 ≤ 1000000) (hD : 0 < D1) :
    Calls Tryd.prog 53 #[.agg #[xa, xb]] w fun e w' => ∃ p q, e = .returned (.agg #[p, q]) ∧ LongI w' p (N1 / Nat.gcd N1 D1) ∧ LongI w' q (D1 / Nat.gcd N1 D1) ∧ Below w.heap.size w w' := by
  obtain ⟨_, xa0, xa1, rfl⟩ := h0.len
  obtain ⟨_, xb0, xb1, rfl⟩ := h1.len
  have bel := below2 w (.cells #[.slice xa0 (dlen W32 N1) xa1, .slice xb0 (dlen W32 D1) xb1] 49) (.cells #[.slice none 0 0, .slice none 0 0] 49)
  have hB0 := (Blk.new w #[.slice xa0 (dlen W32 N1) xa1, .slice xb0 (dlen W32 D1) xb1] 49).alloc (.cells #[.slice none 0 0, .slice none 0 0] 49)
  have hZ := Blk.new (w.alloc (.cells #[.slice xa0 (dlen W32 N1) xa1, .slice xb0 (dlen W32 D1) xb1] 49)) #[.slice none 0 0, .slice none 0 0] 49
  simp only [World.size_alloc] at hZ
  have g0 := Lib.hid (fun W b => (h0.keep bel).keep (w' := W) b)
  have g1 := Lib.hid (fun W b => (h1.keep bel).keep (w' := W) b)
  have hgp := Lib.hid (Nat.gcd_pos_of_pos_right N1 hD)
  clear h0 h1
  go_enter Tryd.func53, Tryd.ntmps53
  go_wp2_with fail
  generalize hW : (w.alloc _).alloc _ = W at *
  clear hW
  have q0 : W.drew.cell? ⟨w.heap.size, 0, none⟩ = some (.slice xa0 (dlen W32 N1) xa1) := hB0.cell 0
  have q0 : W.cell? ⟨w.heap.size, 0, none⟩ = some (.slice xa0 (dlen W32 N1) xa1) := q0
  have q1 : W.drew.cell? ⟨w.heap.size, 1, none⟩ = some (.slice xb0 (dlen W32 D1) xb1) := hB0.cell 1
  have q1 : W.cell? ⟨w.heap.size, 1, none⟩ = some (.slice xb0 (dlen W32 D1) xb1) := q1
  clear hB0
  have hZ' := Lib.hid hZ
  clear hZ
  have ne1 : w.heap.size + 1 ≠ w.heap.size := by omega
  have ne2 : w.heap.size ≠ w.heap.size + 1 := by omega
  (with_reducible refine (divisor_any (.slice xa0 (dlen W32 N1) xa1) (.slice xb0 (dlen W32 D1) xb1) (N1) (D1) _ (g0.out _ (by (repeat (first | exact Below.refl _ _ | refine Below.drew ?_)))) (g1.out _ (by (repeat (first | exact Below.refl _ _ | refine Below.drew ?_)))) (by omega) (by omega)).mono ?_)
  rintro e u1 ⟨r1, rfl, pr1, b1⟩
  obtain ⟨_, ra1, rc1, rfl⟩ := pr1.len
  replace q0 : u1.cell? ⟨w.heap.size, 0, none⟩ = some (.slice xa0 (dlen W32 N1) xa1) := (b1.cell (p := ⟨w.heap.size, 0, none⟩) (block_lt q0)).trans q0
  replace q1 : u1.cell? ⟨w.heap.size, 1, none⟩ = some (.slice xb0 (dlen W32 D1) xb1) := (b1.cell (p := ⟨w.heap.size, 1, none⟩) (block_lt q1)).trans q1
  go_wp2_with fail
  have q0 : u1.drew.cell? ⟨w.heap.size, 0, none⟩ = some (.slice xa0 (dlen W32 N1) xa1) := q0
  have q1 : u1.drew.cell? ⟨w.heap.size, 1, none⟩ = some (.slice xb0 (dlen W32 D1) xb1) := q1
  go_region_held3 (fun w' => w'.cell? ⟨w.heap.size, 0, none⟩ = some (.slice xa0 (dlen W32 N1) xa1) ∧ w'.cell? ⟨w.heap.size, 1, none⟩ = some (.slice xb0 (dlen W32 D1) xb1))
    (go_keep)
    (first
      | (go_at_call 72; first
          | ((with_reducible refine (over_any (.slice xa0 (dlen W32 N1) xa1) (.slice ra1 (dlen W32 (Nat.gcd N1 D1)) rc1) (N1) (Nat.gcd N1 D1) _ (g0.out _ (by (repeat (first | exact Below.refl _ _ | refine Below.drew ?_ | refine below_wt ?_ b1)))) (by (repeat (first | exact pr1 | refine LongI.keep ?_ (Below.refl _ _).drew))) hgp.out (by omega)).mono ?_); rintro e u2 ⟨r2, rfl, pr2, b2⟩; obtain ⟨_, ra2, rc2, rfl⟩ := pr2.len; replace q0 : u2.cell? ⟨w.heap.size, 0, none⟩ = some (.slice xa0 (dlen W32 N1) xa1) := (b2.cell (p := ⟨w.heap.size, 0, none⟩) (block_lt q0)).trans q0; replace q1 : u2.cell? ⟨w.heap.size, 1, none⟩ = some (.slice xb0 (dlen W32 D1) xb1) := (b2.cell (p := ⟨w.heap.size, 1, none⟩) (block_lt q1)).trans q1)
          | ((with_reducible refine (over_any (.slice xb0 (dlen W32 D1) xb1) (.slice ra1 (dlen W32 (Nat.gcd N1 D1)) rc1) (D1) (Nat.gcd N1 D1) _ (g1.out _ (by (repeat (first | exact Below.refl _ _ | refine Below.drew ?_ | refine below_wt ?_ b2 | refine below_wt ?_ b1)))) (by (repeat (first | exact pr1 | refine LongI.keep ?_ b2 | refine LongI.keep ?_ (Below.refl _ _).drew))) hgp.out (by omega)).mono ?_); rintro e u3 ⟨r3, rfl, pr3, b3⟩; obtain ⟨_, ra3, rc3, rfl⟩ := pr3.len; replace q0 : u3.cell? ⟨w.heap.size, 0, none⟩ = some (.slice xa0 (dlen W32 N1) xa1) := (b3.cell (p := ⟨w.heap.size, 0, none⟩) (block_lt q0)).trans q0; replace q1 : u3.cell? ⟨w.heap.size, 1, none⟩ = some (.slice xb0 (dlen W32 D1) xb1) := (b3.cell (p := ⟨w.heap.size, 1, none⟩) (block_lt q1)).trans q1; have hZr := hZ'.out.keep (below_wt (below_wt (below_wt (Below.refl W.heap.size W) b1).drew b2) b3) hZ'.out.lt; have z0 := hZr.cell 0; have z1 := hZr.cell 1; have f0 := hZr.frozen 0; have f1 := hZr.frozen 1; simp only [List.getElem?_toArray, List.getElem?_cons_zero, List.getElem?_cons_succ] at z0 z1)))
  have hf1 := Lib.hid (((pr2.keep b3).setBox hZr 0 (.slice ra2 (dlen W32 (N1 / Nat.gcd N1 D1)) rc2)).setBox (hZr.set 0 (.slice ra2 (dlen W32 (N1 / Nat.gcd N1 D1)) rc2)) 1 (.slice ra3 (dlen W32 (D1 / Nat.gcd N1 D1)) rc3))
  have hf2 := Lib.hid ((pr3.setBox hZr 0 (.slice ra2 (dlen W32 (N1 / Nat.gcd N1 D1)) rc2)).setBox (hZr.set 0 (.slice ra2 (dlen W32 (N1 / Nat.gcd N1 D1)) rc2)) 1 (.slice ra3 (dlen W32 (D1 / Nat.gcd N1 D1)) rc3))
  have hfin := Lib.hid (((below_wt (below_wt (below_wt bel b1).drew b2) b3).setCell (p := ⟨w.heap.size + 1, 0, none⟩) (by simp only; omega) (.slice ra2 (dlen W32 (N1 / Nat.gcd N1 D1)) rc2)).setCell (p := ⟨w.heap.size + 1, 1, none⟩) (by simp only; omega) (.slice ra3 (dlen W32 (D1 / Nat.gcd N1 D1)) rc3))
  go_wp2
  refine bodyPost_ret (v := .agg #[.slice ra2 (dlen W32 (N1 / Nat.gcd N1 D1)) rc2, .slice ra3 (dlen W32 (D1 / Nat.gcd N1 D1)) rc3]) (by simp [results, Tryd.results53, go_sem, z0, z1]) rfl ?_
  exact ⟨_, _, rfl, hf1.out, hf2.out, hfin.out⟩
end Go.Proofs.YtefodgebecacgaaDoor
