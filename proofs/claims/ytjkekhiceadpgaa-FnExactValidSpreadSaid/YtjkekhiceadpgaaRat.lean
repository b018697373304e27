/- Sums, differences, products and quotients of the project's fractions. Conditions: told by the code; at most 10^6 words in each part. -/
import Derived.Test.YtjkekhiceadpgaaFracC
namespace Go.Proofs.Ytjkekhiceadpgaa
open Go.RowKit Go.Deep
set_option linter.unusedVariables false
set_option linter.unusedSimpArgs false

theorem mul_dlen {B : Nat} (hB : 2 ≤ B) {m n L M : Nat} (h1 : dlen B m ≤ L) (h2 : dlen B n ≤ M) : dlen B (m * n) ≤ L + M :=
  dlen_le hB (by rw [Nat.pow_add]; exact Nat.mul_lt_mul'' (lt_of_dlen hB h1) (lt_of_dlen hB h2))

set_option maxRecDepth 100000 in
set_option maxHeartbeats 4000000 in
theorem ratioPlus (xa xb xc xd : Value) (N1 D1 N2 D2 : Nat) (w : World) (h0 : LongI w xa N1) (h1 : LongI w xb D1) (h2 : LongI w xc N2) (h3 : LongI w xd D2) (s0 : dlen W32 N1 ≤ 1000000) (s1 : dlen W32 D1 ≤ 1000000) (s2 : dlen W32 N2 ≤ 1000000) (s3 : dlen W32 D2 ≤ 1000000) :
    Calls Try.prog 101 #[.agg #[xa, xb], .agg #[xc, xd]] w fun e w' => ∃ p q, e = .returned (.agg #[p, q]) ∧ LongI w' p (N1 * D2 + N2 * D1) ∧ LongI w' q (D1 * D2) ∧ Below w.heap.size w w' := by
  obtain ⟨_, xa0, xa1, rfl⟩ := h0.len
  obtain ⟨_, xb0, xb1, rfl⟩ := h1.len
  obtain ⟨_, xc0, xc1, rfl⟩ := h2.len
  obtain ⟨_, xd0, xd1, rfl⟩ := h3.len
  have bel := below3 w (.cells #[.slice xa0 (dlen W32 N1) xa1, .slice xb0 (dlen W32 D1) xb1] 97) (.cells #[.slice xc0 (dlen W32 N2) xc1, .slice xd0 (dlen W32 D2) xd1] 97) (.cells #[.slice none 0 0, .slice none 0 0] 97)
  have hB0 := ((Blk.new w #[.slice xa0 (dlen W32 N1) xa1, .slice xb0 (dlen W32 D1) xb1] 97).alloc (.cells #[.slice xc0 (dlen W32 N2) xc1, .slice xd0 (dlen W32 D2) xd1] 97)).alloc (.cells #[.slice none 0 0, .slice none 0 0] 97)
  have hB1 := (Blk.new (w.alloc (.cells #[.slice xa0 (dlen W32 N1) xa1, .slice xb0 (dlen W32 D1) xb1] 97)) #[.slice xc0 (dlen W32 N2) xc1, .slice xd0 (dlen W32 D2) xd1] 97).alloc (.cells #[.slice none 0 0, .slice none 0 0] 97)
  have hZ := Blk.new ((w.alloc (.cells #[.slice xa0 (dlen W32 N1) xa1, .slice xb0 (dlen W32 D1) xb1] 97)).alloc (.cells #[.slice xc0 (dlen W32 N2) xc1, .slice xd0 (dlen W32 D2) xd1] 97)) #[.slice none 0 0, .slice none 0 0] 97
  simp only [World.size_alloc] at hB1 hZ
  have g0 := Lib.hid (fun W b => (h0.keep bel).keep (w' := W) b)
  have g1 := Lib.hid (fun W b => (h1.keep bel).keep (w' := W) b)
  have g2 := Lib.hid (fun W b => (h2.keep bel).keep (w' := W) b)
  have g3 := Lib.hid (fun W b => (h3.keep bel).keep (w' := W) b)
  have p1 := mul_dlen w32 s0 s3
  have p2 := mul_dlen w32 s2 s1
  have p3 := mul_dlen w32 s1 s3
  clear h0 h1 h2 h3
  go_enter Try.func101, Try.ntmps101
  go_wp2_with fail
  generalize hW : ((w.alloc _).alloc _).alloc _ = W at *
  clear hW
  have q0 : W.drew.cell? ⟨w.heap.size, 0, none⟩ = some (.slice xa0 (dlen W32 N1) xa1) := hB0.cell 0
  have q1 : W.drew.cell? ⟨w.heap.size, 1, none⟩ = some (.slice xb0 (dlen W32 D1) xb1) := hB0.cell 1
  have q2 : W.drew.cell? ⟨w.heap.size + 1, 0, none⟩ = some (.slice xc0 (dlen W32 N2) xc1) := hB1.cell 0
  have q3 : W.drew.cell? ⟨w.heap.size + 1, 1, none⟩ = some (.slice xd0 (dlen W32 D2) xd1) := hB1.cell 1
  clear hB0 hB1
  have hZ' := Lib.hid hZ
  clear hZ
  have ne1 : w.heap.size + 1 + 1 ≠ w.heap.size := by omega
  have ne2 : w.heap.size ≠ w.heap.size + 1 + 1 := by omega
  go_region_held3 (fun w' => w'.cell? ⟨w.heap.size, 0, none⟩ = some (.slice xa0 (dlen W32 N1) xa1) ∧ w'.cell? ⟨w.heap.size, 1, none⟩ = some (.slice xb0 (dlen W32 D1) xb1) ∧ w'.cell? ⟨w.heap.size + 1, 0, none⟩ = some (.slice xc0 (dlen W32 N2) xc1) ∧ w'.cell? ⟨w.heap.size + 1, 1, none⟩ = some (.slice xd0 (dlen W32 D2) xd1))
    (go_keep)
    (first
      | (go_at_call 84; first
          | ((with_reducible refine (times_any (.slice xa0 (dlen W32 N1) xa1) (.slice xd0 (dlen W32 D2) xd1) (N1) (D2) _ (g0.out _ (by (repeat (first | exact Below.refl _ _ | refine Below.drew ?_)))) (g3.out _ (by (repeat (first | exact Below.refl _ _ | refine Below.drew ?_)))) (by omega) (by omega)).mono ?_); rintro e u1 ⟨r1, rfl, pr1, b1⟩; obtain ⟨_, ra1, rc1, rfl⟩ := pr1.len; replace q0 : u1.cell? ⟨w.heap.size, 0, none⟩ = some (.slice xa0 (dlen W32 N1) xa1) := (b1.cell (p := ⟨w.heap.size, 0, none⟩) (block_lt q0)).trans q0; replace q1 : u1.cell? ⟨w.heap.size, 1, none⟩ = some (.slice xb0 (dlen W32 D1) xb1) := (b1.cell (p := ⟨w.heap.size, 1, none⟩) (block_lt q1)).trans q1; replace q2 : u1.cell? ⟨w.heap.size + 1, 0, none⟩ = some (.slice xc0 (dlen W32 N2) xc1) := (b1.cell (p := ⟨w.heap.size + 1, 0, none⟩) (block_lt q2)).trans q2; replace q3 : u1.cell? ⟨w.heap.size + 1, 1, none⟩ = some (.slice xd0 (dlen W32 D2) xd1) := (b1.cell (p := ⟨w.heap.size + 1, 1, none⟩) (block_lt q3)).trans q3)
          | ((with_reducible refine (times_any (.slice xc0 (dlen W32 N2) xc1) (.slice xb0 (dlen W32 D1) xb1) (N2) (D1) _ (g2.out _ (by (repeat (first | exact Below.refl _ _ | refine Below.drew ?_ | refine below_wt ?_ b1)))) (g1.out _ (by (repeat (first | exact Below.refl _ _ | refine Below.drew ?_ | refine below_wt ?_ b1)))) (by omega) (by omega)).mono ?_); rintro e u2 ⟨r2, rfl, pr2, b2⟩; obtain ⟨_, ra2, rc2, rfl⟩ := pr2.len; replace q0 : u2.cell? ⟨w.heap.size, 0, none⟩ = some (.slice xa0 (dlen W32 N1) xa1) := (b2.cell (p := ⟨w.heap.size, 0, none⟩) (block_lt q0)).trans q0; replace q1 : u2.cell? ⟨w.heap.size, 1, none⟩ = some (.slice xb0 (dlen W32 D1) xb1) := (b2.cell (p := ⟨w.heap.size, 1, none⟩) (block_lt q1)).trans q1; replace q2 : u2.cell? ⟨w.heap.size + 1, 0, none⟩ = some (.slice xc0 (dlen W32 N2) xc1) := (b2.cell (p := ⟨w.heap.size + 1, 0, none⟩) (block_lt q2)).trans q2; replace q3 : u2.cell? ⟨w.heap.size + 1, 1, none⟩ = some (.slice xd0 (dlen W32 D2) xd1) := (b2.cell (p := ⟨w.heap.size + 1, 1, none⟩) (block_lt q3)).trans q3)
          | ((with_reducible refine (times_any (.slice xb0 (dlen W32 D1) xb1) (.slice xd0 (dlen W32 D2) xd1) (D1) (D2) _ (g1.out _ (by (repeat (first | exact Below.refl _ _ | refine Below.drew ?_ | refine below_wt ?_ b3 | refine below_wt ?_ b2 | refine below_wt ?_ b1)))) (g3.out _ (by (repeat (first | exact Below.refl _ _ | refine Below.drew ?_ | refine below_wt ?_ b3 | refine below_wt ?_ b2 | refine below_wt ?_ b1)))) (by omega) (by omega)).mono ?_); rintro e u4 ⟨r4, rfl, pr4, b4⟩; obtain ⟨_, ra4, rc4, rfl⟩ := pr4.len; replace q0 : u4.cell? ⟨w.heap.size, 0, none⟩ = some (.slice xa0 (dlen W32 N1) xa1) := (b4.cell (p := ⟨w.heap.size, 0, none⟩) (block_lt q0)).trans q0; replace q1 : u4.cell? ⟨w.heap.size, 1, none⟩ = some (.slice xb0 (dlen W32 D1) xb1) := (b4.cell (p := ⟨w.heap.size, 1, none⟩) (block_lt q1)).trans q1; replace q2 : u4.cell? ⟨w.heap.size + 1, 0, none⟩ = some (.slice xc0 (dlen W32 N2) xc1) := (b4.cell (p := ⟨w.heap.size + 1, 0, none⟩) (block_lt q2)).trans q2; replace q3 : u4.cell? ⟨w.heap.size + 1, 1, none⟩ = some (.slice xd0 (dlen W32 D2) xd1) := (b4.cell (p := ⟨w.heap.size + 1, 1, none⟩) (block_lt q3)).trans q3; have hZr := hZ'.out.keep (below_wt (below_wt (below_wt (below_wt (Below.refl _ W).drew b1) b2) b3) b4) hZ'.out.lt; have z0 := hZr.cell 0; have z1 := hZr.cell 1; have f0 := hZr.frozen 0; have f1 := hZr.frozen 1; simp only [List.getElem?_toArray, List.getElem?_cons_zero, List.getElem?_cons_succ] at z0 z1))
      | (go_at_call 85; ((with_reducible refine (plus_any (.slice ra1 (dlen W32 (N1 * D2)) rc1) (.slice ra2 (dlen W32 (N2 * D1)) rc2) (N1 * D2) (N2 * D1) _ (by (repeat (first | exact pr1 | refine LongI.keep ?_ b2 | refine LongI.keep ?_ (Below.refl _ _).drew))) (by (repeat (first | exact pr2 | refine LongI.keep ?_ (Below.refl _ _).drew))) (by omega) (by omega)).mono ?_); rintro e u3 ⟨r3, rfl, pr3, b3⟩; obtain ⟨_, ra3, rc3, rfl⟩ := pr3.len; replace q0 : u3.cell? ⟨w.heap.size, 0, none⟩ = some (.slice xa0 (dlen W32 N1) xa1) := (b3.cell (p := ⟨w.heap.size, 0, none⟩) (block_lt q0)).trans q0; replace q1 : u3.cell? ⟨w.heap.size, 1, none⟩ = some (.slice xb0 (dlen W32 D1) xb1) := (b3.cell (p := ⟨w.heap.size, 1, none⟩) (block_lt q1)).trans q1; replace q2 : u3.cell? ⟨w.heap.size + 1, 0, none⟩ = some (.slice xc0 (dlen W32 N2) xc1) := (b3.cell (p := ⟨w.heap.size + 1, 0, none⟩) (block_lt q2)).trans q2; replace q3 : u3.cell? ⟨w.heap.size + 1, 1, none⟩ = some (.slice xd0 (dlen W32 D2) xd1) := (b3.cell (p := ⟨w.heap.size + 1, 1, none⟩) (block_lt q3)).trans q3)))
  have hf1 := Lib.hid (((pr3.keep b4).setBox hZr 0 (.slice ra3 (dlen W32 (N1 * D2 + N2 * D1)) rc3)).setBox (hZr.set 0 (.slice ra3 (dlen W32 (N1 * D2 + N2 * D1)) rc3)) 1 (.slice ra4 (dlen W32 (D1 * D2)) rc4))
  have hf2 := Lib.hid ((pr4.setBox hZr 0 (.slice ra3 (dlen W32 (N1 * D2 + N2 * D1)) rc3)).setBox (hZr.set 0 (.slice ra3 (dlen W32 (N1 * D2 + N2 * D1)) rc3)) 1 (.slice ra4 (dlen W32 (D1 * D2)) rc4))
  have hfin := Lib.hid (((below_wt (below_wt (below_wt (below_wt bel.drew b1) b2) b3) b4).setCell (p := ⟨w.heap.size + 1 + 1, 0, none⟩) (by simp only; omega) (.slice ra3 (dlen W32 (N1 * D2 + N2 * D1)) rc3)).setCell (p := ⟨w.heap.size + 1 + 1, 1, none⟩) (by simp only; omega) (.slice ra4 (dlen W32 (D1 * D2)) rc4))
  go_wp2
  refine bodyPost_ret (v := .agg #[.slice ra3 (dlen W32 (N1 * D2 + N2 * D1)) rc3, .slice ra4 (dlen W32 (D1 * D2)) rc4]) (by simp [results, Try.results101, go_sem, z0, z1]) rfl ?_
  exact ⟨_, _, rfl, hf1.out, hf2.out, hfin.out⟩

end Go.Proofs.Ytjkekhiceadpgaa
