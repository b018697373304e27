/- Sums, differences and products of the specification's fractions. Conditions: told by the code; at most 10^6 words in each part. -/
import Derived.Test.YtefodgebecacgaaDoorFracC
import Derived.Test.YtefodgebecacgaaDoorNtx2
namespace Go.Proofs.YtefodgebecacgaaDoor
open Go.RowKit Go.Deep
set_option linter.unusedVariables false
set_option linter.unusedSimpArgs false

theorem mul_dlen9 {m n L M : Nat} (h1 : dlen B9 m ≤ L) (h2 : dlen B9 n ≤ M) : dlen B9 (m * n) ≤ L + M :=
  dlen_le b9 (by rw [Nat.pow_add]; exact Nat.mul_lt_mul'' (lt_of_dlen b9 h1) (lt_of_dlen b9 h2))

set_option maxRecDepth 100000 in
set_option maxHeartbeats 4000000 in
theorem fracPlus (xa xb xc xd : Value) (N1 D1 N2 D2 : Nat) (w : World) (h0 : LongS w xa N1) (h1 : LongS w xb D1) (h2 : LongS w xc N2) (h3 : LongS w xd D2) (s0 : dlen B9 N1 ≤ 1000000) (s1 : dlen B9 D1 ≤ 1000000) (s2 : dlen B9 N2 ≤ 1000000) (s3 : dlen B9 D2 ≤ 1000000) (hp : 0 < D1 * D2) :
    Calls Tryd.prog 32 #[.agg #[xa, xb], .agg #[xc, xd]] w fun e w' => ∃ p q, e = .returned (.agg #[p, q]) ∧ LongS w' p ((N1 * D2 + N2 * D1) / Nat.gcd (N1 * D2 + N2 * D1) (D1 * D2)) ∧ LongS w' q ((D1 * D2) / Nat.gcd (N1 * D2 + N2 * D1) (D1 * D2)) ∧ Below w.heap.size w w' := by
  obtain ⟨_, xa0, xa1, rfl⟩ := h0.len
  obtain ⟨_, xb0, xb1, rfl⟩ := h1.len
  obtain ⟨_, xc0, xc1, rfl⟩ := h2.len
  obtain ⟨_, xd0, xd1, rfl⟩ := h3.len
  have bel := below3 w (.cells #[.slice xa0 (dlen B9 N1) xa1, .slice xb0 (dlen B9 D1) xb1] 42) (.cells #[.slice xc0 (dlen B9 N2) xc1, .slice xd0 (dlen B9 D2) xd1] 42) (.cells #[.slice none 0 0, .slice none 0 0] 42)
  have hB0 := ((Blk.new w #[.slice xa0 (dlen B9 N1) xa1, .slice xb0 (dlen B9 D1) xb1] 42).alloc (.cells #[.slice xc0 (dlen B9 N2) xc1, .slice xd0 (dlen B9 D2) xd1] 42)).alloc (.cells #[.slice none 0 0, .slice none 0 0] 42)
  have hB1 := (Blk.new (w.alloc (.cells #[.slice xa0 (dlen B9 N1) xa1, .slice xb0 (dlen B9 D1) xb1] 42)) #[.slice xc0 (dlen B9 N2) xc1, .slice xd0 (dlen B9 D2) xd1] 42).alloc (.cells #[.slice none 0 0, .slice none 0 0] 42)
  have hZ := Blk.new ((w.alloc (.cells #[.slice xa0 (dlen B9 N1) xa1, .slice xb0 (dlen B9 D1) xb1] 42)).alloc (.cells #[.slice xc0 (dlen B9 N2) xc1, .slice xd0 (dlen B9 D2) xd1] 42)) #[.slice none 0 0, .slice none 0 0] 42
  simp only [World.size_alloc] at hB1 hZ
  have g0 := Lib.hid (fun W b => (h0.keep bel).keep (w' := W) b)
  have g1 := Lib.hid (fun W b => (h1.keep bel).keep (w' := W) b)
  have g2 := Lib.hid (fun W b => (h2.keep bel).keep (w' := W) b)
  have g3 := Lib.hid (fun W b => (h3.keep bel).keep (w' := W) b)
  have p1 := mul_dlen9 s0 s3
  have p2 := mul_dlen9 s2 s1
  have p3 := mul_dlen9 s1 s3
  have p4 := plus_len b9 (show dlen B9 (N1 * D2) ≤ 2000000 by omega) (show dlen B9 (N2 * D1) ≤ 2000000 by omega)
  have p5 := mul_dlen9 s0 s2
  have hpos := Lib.hid hp
  clear hp
  clear h0 h1 h2 h3
  go_enter Tryd.func32, Tryd.ntmps32
  go_wp2_with fail
  generalize hW : ((w.alloc _).alloc _).alloc _ = W at *
  clear hW
  have q0 : W.drew.cell? ⟨w.heap.size, 0, none⟩ = some (.slice xa0 (dlen B9 N1) xa1) := hB0.cell 0
  have q1 : W.drew.cell? ⟨w.heap.size, 1, none⟩ = some (.slice xb0 (dlen B9 D1) xb1) := hB0.cell 1
  have q2 : W.drew.cell? ⟨w.heap.size + 1, 0, none⟩ = some (.slice xc0 (dlen B9 N2) xc1) := hB1.cell 0
  have q3 : W.drew.cell? ⟨w.heap.size + 1, 1, none⟩ = some (.slice xd0 (dlen B9 D2) xd1) := hB1.cell 1
  clear hB0 hB1
  have hZ' := Lib.hid hZ
  clear hZ
  have ne1 : w.heap.size + 1 + 1 ≠ w.heap.size := by omega
  have ne2 : w.heap.size ≠ w.heap.size + 1 + 1 := by omega
  go_region_held3 (fun w' => w'.cell? ⟨w.heap.size, 0, none⟩ = some (.slice xa0 (dlen B9 N1) xa1) ∧ w'.cell? ⟨w.heap.size, 1, none⟩ = some (.slice xb0 (dlen B9 D1) xb1) ∧ w'.cell? ⟨w.heap.size + 1, 0, none⟩ = some (.slice xc0 (dlen B9 N2) xc1) ∧ w'.cell? ⟨w.heap.size + 1, 1, none⟩ = some (.slice xd0 (dlen B9 D2) xd1))
    (go_keep)
    (first
      | (go_at_call 60; first
          | ((with_reducible refine (l01Product_any (.slice xa0 (dlen B9 N1) xa1) (.slice xd0 (dlen B9 D2) xd1) (N1) (D2) _ (g0.out _ (by (repeat (first | exact Below.refl _ _ | refine Below.drew ?_)))) (g3.out _ (by (repeat (first | exact Below.refl _ _ | refine Below.drew ?_)))) (by omega) (by omega)).mono ?_); rintro e u1 ⟨r1, rfl, pr1, b1⟩; obtain ⟨_, ra1, rc1, rfl⟩ := pr1.len; replace q0 : u1.cell? ⟨w.heap.size, 0, none⟩ = some (.slice xa0 (dlen B9 N1) xa1) := (b1.cell (p := ⟨w.heap.size, 0, none⟩) (block_lt q0)).trans q0; replace q1 : u1.cell? ⟨w.heap.size, 1, none⟩ = some (.slice xb0 (dlen B9 D1) xb1) := (b1.cell (p := ⟨w.heap.size, 1, none⟩) (block_lt q1)).trans q1; replace q2 : u1.cell? ⟨w.heap.size + 1, 0, none⟩ = some (.slice xc0 (dlen B9 N2) xc1) := (b1.cell (p := ⟨w.heap.size + 1, 0, none⟩) (block_lt q2)).trans q2; replace q3 : u1.cell? ⟨w.heap.size + 1, 1, none⟩ = some (.slice xd0 (dlen B9 D2) xd1) := (b1.cell (p := ⟨w.heap.size + 1, 1, none⟩) (block_lt q3)).trans q3)
          | ((with_reducible refine (l01Product_any (.slice xc0 (dlen B9 N2) xc1) (.slice xb0 (dlen B9 D1) xb1) (N2) (D1) _ (g2.out _ (by (repeat (first | exact Below.refl _ _ | refine Below.drew ?_ | refine below_wt ?_ b1)))) (g1.out _ (by (repeat (first | exact Below.refl _ _ | refine Below.drew ?_ | refine below_wt ?_ b1)))) (by omega) (by omega)).mono ?_); rintro e u2 ⟨r2, rfl, pr2, b2⟩; obtain ⟨_, ra2, rc2, rfl⟩ := pr2.len; replace q0 : u2.cell? ⟨w.heap.size, 0, none⟩ = some (.slice xa0 (dlen B9 N1) xa1) := (b2.cell (p := ⟨w.heap.size, 0, none⟩) (block_lt q0)).trans q0; replace q1 : u2.cell? ⟨w.heap.size, 1, none⟩ = some (.slice xb0 (dlen B9 D1) xb1) := (b2.cell (p := ⟨w.heap.size, 1, none⟩) (block_lt q1)).trans q1; replace q2 : u2.cell? ⟨w.heap.size + 1, 0, none⟩ = some (.slice xc0 (dlen B9 N2) xc1) := (b2.cell (p := ⟨w.heap.size + 1, 0, none⟩) (block_lt q2)).trans q2; replace q3 : u2.cell? ⟨w.heap.size + 1, 1, none⟩ = some (.slice xd0 (dlen B9 D2) xd1) := (b2.cell (p := ⟨w.heap.size + 1, 1, none⟩) (block_lt q3)).trans q3)
          | ((with_reducible refine (l01Product_any (.slice xb0 (dlen B9 D1) xb1) (.slice xd0 (dlen B9 D2) xd1) (D1) (D2) _ (g1.out _ (by (repeat (first | exact Below.refl _ _ | refine Below.drew ?_ | refine below_wt ?_ b3 | refine below_wt ?_ b2 | refine below_wt ?_ b1)))) (g3.out _ (by (repeat (first | exact Below.refl _ _ | refine Below.drew ?_ | refine below_wt ?_ b3 | refine below_wt ?_ b2 | refine below_wt ?_ b1)))) (by omega) (by omega)).mono ?_); rintro e u4 ⟨r4, rfl, pr4, b4⟩; obtain ⟨_, ra4, rc4, rfl⟩ := pr4.len; replace q0 : u4.cell? ⟨w.heap.size, 0, none⟩ = some (.slice xa0 (dlen B9 N1) xa1) := (b4.cell (p := ⟨w.heap.size, 0, none⟩) (block_lt q0)).trans q0; replace q1 : u4.cell? ⟨w.heap.size, 1, none⟩ = some (.slice xb0 (dlen B9 D1) xb1) := (b4.cell (p := ⟨w.heap.size, 1, none⟩) (block_lt q1)).trans q1; replace q2 : u4.cell? ⟨w.heap.size + 1, 0, none⟩ = some (.slice xc0 (dlen B9 N2) xc1) := (b4.cell (p := ⟨w.heap.size + 1, 0, none⟩) (block_lt q2)).trans q2; replace q3 : u4.cell? ⟨w.heap.size + 1, 1, none⟩ = some (.slice xd0 (dlen B9 D2) xd1) := (b4.cell (p := ⟨w.heap.size + 1, 1, none⟩) (block_lt q3)).trans q3))
      | (go_at_call 59; ((with_reducible refine (l01Plus_any (.slice ra1 (dlen B9 (N1 * D2)) rc1) (.slice ra2 (dlen B9 (N2 * D1)) rc2) (N1 * D2) (N2 * D1) _ (by (repeat (first | exact pr1 | refine LongS.keep ?_ b2 | refine LongS.keep ?_ (Below.refl _ _).drew))) (by (repeat (first | exact pr2 | refine LongS.keep ?_ (Below.refl _ _).drew))) (by omega) (by omega)).mono ?_); rintro e u3 ⟨r3, rfl, pr3, b3⟩; obtain ⟨_, ra3, rc3, rfl⟩ := pr3.len; replace q0 : u3.cell? ⟨w.heap.size, 0, none⟩ = some (.slice xa0 (dlen B9 N1) xa1) := (b3.cell (p := ⟨w.heap.size, 0, none⟩) (block_lt q0)).trans q0; replace q1 : u3.cell? ⟨w.heap.size, 1, none⟩ = some (.slice xb0 (dlen B9 D1) xb1) := (b3.cell (p := ⟨w.heap.size, 1, none⟩) (block_lt q1)).trans q1; replace q2 : u3.cell? ⟨w.heap.size + 1, 0, none⟩ = some (.slice xc0 (dlen B9 N2) xc1) := (b3.cell (p := ⟨w.heap.size + 1, 0, none⟩) (block_lt q2)).trans q2; replace q3 : u3.cell? ⟨w.heap.size + 1, 1, none⟩ = some (.slice xd0 (dlen B9 D2) xd1) := (b3.cell (p := ⟨w.heap.size + 1, 1, none⟩) (block_lt q3)).trans q3))
      | (go_at_call 50; ((with_reducible refine (l01Over_any (.slice ra3 (dlen B9 (N1 * D2 + N2 * D1)) rc3) (.slice ra4 (dlen B9 (D1 * D2)) rc4) (N1 * D2 + N2 * D1) (D1 * D2) _ (by (repeat (first | exact pr3 | refine LongS.keep ?_ b4 | refine LongS.keep ?_ (Below.refl _ _).drew))) (by (repeat (first | exact pr4 | refine LongS.keep ?_ (Below.refl _ _).drew))) hpos.out (by omega) (by omega)).mono ?_); rintro e u5 ⟨r5, r5', rfl, pr5, pr5', b5⟩; obtain ⟨_, ra5, rc5, rfl⟩ := pr5.len; obtain ⟨_, ra5', rc5', rfl⟩ := pr5'.len; replace q0 : u5.cell? ⟨w.heap.size, 0, none⟩ = some (.slice xa0 (dlen B9 N1) xa1) := (b5.cell (p := ⟨w.heap.size, 0, none⟩) (block_lt q0)).trans q0; replace q1 : u5.cell? ⟨w.heap.size, 1, none⟩ = some (.slice xb0 (dlen B9 D1) xb1) := (b5.cell (p := ⟨w.heap.size, 1, none⟩) (block_lt q1)).trans q1; replace q2 : u5.cell? ⟨w.heap.size + 1, 0, none⟩ = some (.slice xc0 (dlen B9 N2) xc1) := (b5.cell (p := ⟨w.heap.size + 1, 0, none⟩) (block_lt q2)).trans q2; replace q3 : u5.cell? ⟨w.heap.size + 1, 1, none⟩ = some (.slice xd0 (dlen B9 D2) xd1) := (b5.cell (p := ⟨w.heap.size + 1, 1, none⟩) (block_lt q3)).trans q3; have hZr := hZ'.out.keep (below_wt (below_wt (below_wt (below_wt (below_wt (Below.refl _ W).drew b1) b2) b3) b4) b5) hZ'.out.lt; have z0 := hZr.cell 0; have z1 := hZr.cell 1; have f0 := hZr.frozen 0; have f1 := hZr.frozen 1; simp only [List.getElem?_toArray, List.getElem?_cons_zero, List.getElem?_cons_succ] at z0 z1)))
  have hf1 := Lib.hid ((pr5.setBox hZr 0 (.slice ra5 (dlen B9 ((N1 * D2 + N2 * D1) / Nat.gcd (N1 * D2 + N2 * D1) (D1 * D2))) rc5)).setBox (hZr.set 0 (.slice ra5 (dlen B9 ((N1 * D2 + N2 * D1) / Nat.gcd (N1 * D2 + N2 * D1) (D1 * D2))) rc5)) 1 (.slice ra5' (dlen B9 ((D1 * D2) / Nat.gcd (N1 * D2 + N2 * D1) (D1 * D2))) rc5'))
  have hf2 := Lib.hid ((pr5'.setBox hZr 0 (.slice ra5 (dlen B9 ((N1 * D2 + N2 * D1) / Nat.gcd (N1 * D2 + N2 * D1) (D1 * D2))) rc5)).setBox (hZr.set 0 (.slice ra5 (dlen B9 ((N1 * D2 + N2 * D1) / Nat.gcd (N1 * D2 + N2 * D1) (D1 * D2))) rc5)) 1 (.slice ra5' (dlen B9 ((D1 * D2) / Nat.gcd (N1 * D2 + N2 * D1) (D1 * D2))) rc5'))
  have hfin := Lib.hid (((below_wt (below_wt (below_wt (below_wt (below_wt bel.drew b1) b2) b3) b4) b5).setCell (p := ⟨w.heap.size + 1 + 1, 0, none⟩) (by simp only; omega) (.slice ra5 (dlen B9 ((N1 * D2 + N2 * D1) / Nat.gcd (N1 * D2 + N2 * D1) (D1 * D2))) rc5)).setCell (p := ⟨w.heap.size + 1 + 1, 1, none⟩) (by simp only; omega) (.slice ra5' (dlen B9 ((D1 * D2) / Nat.gcd (N1 * D2 + N2 * D1) (D1 * D2))) rc5'))
  go_wp2
  refine bodyPost_ret (v := .agg #[.slice ra5 (dlen B9 ((N1 * D2 + N2 * D1) / Nat.gcd (N1 * D2 + N2 * D1) (D1 * D2))) rc5, .slice ra5' (dlen B9 ((D1 * D2) / Nat.gcd (N1 * D2 + N2 * D1) (D1 * D2))) rc5']) (by simp [results, Tryd.results32, go_sem, z0, z1]) rfl ?_
  exact ⟨_, _, rfl, hf1.out, hf2.out, hfin.out⟩

set_option maxRecDepth 100000 in
set_option maxHeartbeats 4000000 in
theorem fracLess (xa xb xc xd : Value) (N1 D1 N2 D2 : Nat) (w : World) (h0 : LongS w xa N1) (h1 : LongS w xb D1) (h2 : LongS w xc N2) (h3 : LongS w xd D2) (s0 : dlen B9 N1 ≤ 1000000) (s1 : dlen B9 D1 ≤ 1000000) (s2 : dlen B9 N2 ≤ 1000000) (s3 : dlen B9 D2 ≤ 1000000) (hp : 0 < D1 * D2) (hle : Hid (N2 * D1 ≤ N1 * D2)) :
    Calls Tryd.prog 36 #[.agg #[xa, xb], .agg #[xc, xd]] w fun e w' => ∃ p q, e = .returned (.agg #[p, q]) ∧ LongS w' p ((N1 * D2 - N2 * D1) / Nat.gcd (N1 * D2 - N2 * D1) (D1 * D2)) ∧ LongS w' q ((D1 * D2) / Nat.gcd (N1 * D2 - N2 * D1) (D1 * D2)) ∧ Below w.heap.size w w' := by
  obtain ⟨_, xa0, xa1, rfl⟩ := h0.len
  obtain ⟨_, xb0, xb1, rfl⟩ := h1.len
  obtain ⟨_, xc0, xc1, rfl⟩ := h2.len
  obtain ⟨_, xd0, xd1, rfl⟩ := h3.len
  have bel := below3 w (.cells #[.slice xa0 (dlen B9 N1) xa1, .slice xb0 (dlen B9 D1) xb1] 42) (.cells #[.slice xc0 (dlen B9 N2) xc1, .slice xd0 (dlen B9 D2) xd1] 42) (.cells #[.slice none 0 0, .slice none 0 0] 42)
  have hB0 := ((Blk.new w #[.slice xa0 (dlen B9 N1) xa1, .slice xb0 (dlen B9 D1) xb1] 42).alloc (.cells #[.slice xc0 (dlen B9 N2) xc1, .slice xd0 (dlen B9 D2) xd1] 42)).alloc (.cells #[.slice none 0 0, .slice none 0 0] 42)
  have hB1 := (Blk.new (w.alloc (.cells #[.slice xa0 (dlen B9 N1) xa1, .slice xb0 (dlen B9 D1) xb1] 42)) #[.slice xc0 (dlen B9 N2) xc1, .slice xd0 (dlen B9 D2) xd1] 42).alloc (.cells #[.slice none 0 0, .slice none 0 0] 42)
  have hZ := Blk.new ((w.alloc (.cells #[.slice xa0 (dlen B9 N1) xa1, .slice xb0 (dlen B9 D1) xb1] 42)).alloc (.cells #[.slice xc0 (dlen B9 N2) xc1, .slice xd0 (dlen B9 D2) xd1] 42)) #[.slice none 0 0, .slice none 0 0] 42
  simp only [World.size_alloc] at hB1 hZ
  have g0 := Lib.hid (fun W b => (h0.keep bel).keep (w' := W) b)
  have g1 := Lib.hid (fun W b => (h1.keep bel).keep (w' := W) b)
  have g2 := Lib.hid (fun W b => (h2.keep bel).keep (w' := W) b)
  have g3 := Lib.hid (fun W b => (h3.keep bel).keep (w' := W) b)
  have p1 := mul_dlen9 s0 s3
  have p2 := mul_dlen9 s2 s1
  have p3 := mul_dlen9 s1 s3
  have p4 := plus_len b9 (show dlen B9 (N1 * D2) ≤ 2000000 by omega) (show dlen B9 (N2 * D1) ≤ 2000000 by omega)
  have p5 := mul_dlen9 s0 s2
  have hpos := Lib.hid hp
  clear hp
  have p6 : dlen B9 (N1 * D2 - N2 * D1) ≤ dlen B9 (N1 * D2) := dlen_mono b9 (Nat.sub_le _ _)
  clear h0 h1 h2 h3
  go_enter Tryd.func36, Tryd.ntmps36
  go_wp2_with fail
  generalize hW : ((w.alloc _).alloc _).alloc _ = W at *
  clear hW
  have q0 : W.drew.cell? ⟨w.heap.size, 0, none⟩ = some (.slice xa0 (dlen B9 N1) xa1) := hB0.cell 0
  have q1 : W.drew.cell? ⟨w.heap.size, 1, none⟩ = some (.slice xb0 (dlen B9 D1) xb1) := hB0.cell 1
  have q2 : W.drew.cell? ⟨w.heap.size + 1, 0, none⟩ = some (.slice xc0 (dlen B9 N2) xc1) := hB1.cell 0
  have q3 : W.drew.cell? ⟨w.heap.size + 1, 1, none⟩ = some (.slice xd0 (dlen B9 D2) xd1) := hB1.cell 1
  clear hB0 hB1
  have hZ' := Lib.hid hZ
  clear hZ
  have ne1 : w.heap.size + 1 + 1 ≠ w.heap.size := by omega
  have ne2 : w.heap.size ≠ w.heap.size + 1 + 1 := by omega
  go_region_held3 (fun w' => w'.cell? ⟨w.heap.size, 0, none⟩ = some (.slice xa0 (dlen B9 N1) xa1) ∧ w'.cell? ⟨w.heap.size, 1, none⟩ = some (.slice xb0 (dlen B9 D1) xb1) ∧ w'.cell? ⟨w.heap.size + 1, 0, none⟩ = some (.slice xc0 (dlen B9 N2) xc1) ∧ w'.cell? ⟨w.heap.size + 1, 1, none⟩ = some (.slice xd0 (dlen B9 D2) xd1))
    (go_keep)
    (first
      | (go_at_call 60; first
          | ((with_reducible refine (l01Product_any (.slice xa0 (dlen B9 N1) xa1) (.slice xd0 (dlen B9 D2) xd1) (N1) (D2) _ (g0.out _ (by (repeat (first | exact Below.refl _ _ | refine Below.drew ?_)))) (g3.out _ (by (repeat (first | exact Below.refl _ _ | refine Below.drew ?_)))) (by omega) (by omega)).mono ?_); rintro e u1 ⟨r1, rfl, pr1, b1⟩; obtain ⟨_, ra1, rc1, rfl⟩ := pr1.len; replace q0 : u1.cell? ⟨w.heap.size, 0, none⟩ = some (.slice xa0 (dlen B9 N1) xa1) := (b1.cell (p := ⟨w.heap.size, 0, none⟩) (block_lt q0)).trans q0; replace q1 : u1.cell? ⟨w.heap.size, 1, none⟩ = some (.slice xb0 (dlen B9 D1) xb1) := (b1.cell (p := ⟨w.heap.size, 1, none⟩) (block_lt q1)).trans q1; replace q2 : u1.cell? ⟨w.heap.size + 1, 0, none⟩ = some (.slice xc0 (dlen B9 N2) xc1) := (b1.cell (p := ⟨w.heap.size + 1, 0, none⟩) (block_lt q2)).trans q2; replace q3 : u1.cell? ⟨w.heap.size + 1, 1, none⟩ = some (.slice xd0 (dlen B9 D2) xd1) := (b1.cell (p := ⟨w.heap.size + 1, 1, none⟩) (block_lt q3)).trans q3)
          | ((with_reducible refine (l01Product_any (.slice xc0 (dlen B9 N2) xc1) (.slice xb0 (dlen B9 D1) xb1) (N2) (D1) _ (g2.out _ (by (repeat (first | exact Below.refl _ _ | refine Below.drew ?_ | refine below_wt ?_ b1)))) (g1.out _ (by (repeat (first | exact Below.refl _ _ | refine Below.drew ?_ | refine below_wt ?_ b1)))) (by omega) (by omega)).mono ?_); rintro e u2 ⟨r2, rfl, pr2, b2⟩; obtain ⟨_, ra2, rc2, rfl⟩ := pr2.len; replace q0 : u2.cell? ⟨w.heap.size, 0, none⟩ = some (.slice xa0 (dlen B9 N1) xa1) := (b2.cell (p := ⟨w.heap.size, 0, none⟩) (block_lt q0)).trans q0; replace q1 : u2.cell? ⟨w.heap.size, 1, none⟩ = some (.slice xb0 (dlen B9 D1) xb1) := (b2.cell (p := ⟨w.heap.size, 1, none⟩) (block_lt q1)).trans q1; replace q2 : u2.cell? ⟨w.heap.size + 1, 0, none⟩ = some (.slice xc0 (dlen B9 N2) xc1) := (b2.cell (p := ⟨w.heap.size + 1, 0, none⟩) (block_lt q2)).trans q2; replace q3 : u2.cell? ⟨w.heap.size + 1, 1, none⟩ = some (.slice xd0 (dlen B9 D2) xd1) := (b2.cell (p := ⟨w.heap.size + 1, 1, none⟩) (block_lt q3)).trans q3)
          | ((with_reducible refine (l01Product_any (.slice xb0 (dlen B9 D1) xb1) (.slice xd0 (dlen B9 D2) xd1) (D1) (D2) _ (g1.out _ (by (repeat (first | exact Below.refl _ _ | refine Below.drew ?_ | refine below_wt ?_ b3 | refine below_wt ?_ b2 | refine below_wt ?_ b1)))) (g3.out _ (by (repeat (first | exact Below.refl _ _ | refine Below.drew ?_ | refine below_wt ?_ b3 | refine below_wt ?_ b2 | refine below_wt ?_ b1)))) (by omega) (by omega)).mono ?_); rintro e u4 ⟨r4, rfl, pr4, b4⟩; obtain ⟨_, ra4, rc4, rfl⟩ := pr4.len; replace q0 : u4.cell? ⟨w.heap.size, 0, none⟩ = some (.slice xa0 (dlen B9 N1) xa1) := (b4.cell (p := ⟨w.heap.size, 0, none⟩) (block_lt q0)).trans q0; replace q1 : u4.cell? ⟨w.heap.size, 1, none⟩ = some (.slice xb0 (dlen B9 D1) xb1) := (b4.cell (p := ⟨w.heap.size, 1, none⟩) (block_lt q1)).trans q1; replace q2 : u4.cell? ⟨w.heap.size + 1, 0, none⟩ = some (.slice xc0 (dlen B9 N2) xc1) := (b4.cell (p := ⟨w.heap.size + 1, 0, none⟩) (block_lt q2)).trans q2; replace q3 : u4.cell? ⟨w.heap.size + 1, 1, none⟩ = some (.slice xd0 (dlen B9 D2) xd1) := (b4.cell (p := ⟨w.heap.size + 1, 1, none⟩) (block_lt q3)).trans q3))
      | (go_at_call 64; ((with_reducible refine (l01Less_any (.slice ra1 (dlen B9 (N1 * D2)) rc1) (.slice ra2 (dlen B9 (N2 * D1)) rc2) (N1 * D2) (N2 * D1) _ (by (repeat (first | exact pr1 | refine LongS.keep ?_ b2 | refine LongS.keep ?_ (Below.refl _ _).drew))) (by (repeat (first | exact pr2 | refine LongS.keep ?_ (Below.refl _ _).drew))) hle.out (by omega)).mono ?_); rintro e u3 ⟨r3, rfl, pr3, b3⟩; obtain ⟨_, ra3, rc3, rfl⟩ := pr3.len; replace q0 : u3.cell? ⟨w.heap.size, 0, none⟩ = some (.slice xa0 (dlen B9 N1) xa1) := (b3.cell (p := ⟨w.heap.size, 0, none⟩) (block_lt q0)).trans q0; replace q1 : u3.cell? ⟨w.heap.size, 1, none⟩ = some (.slice xb0 (dlen B9 D1) xb1) := (b3.cell (p := ⟨w.heap.size, 1, none⟩) (block_lt q1)).trans q1; replace q2 : u3.cell? ⟨w.heap.size + 1, 0, none⟩ = some (.slice xc0 (dlen B9 N2) xc1) := (b3.cell (p := ⟨w.heap.size + 1, 0, none⟩) (block_lt q2)).trans q2; replace q3 : u3.cell? ⟨w.heap.size + 1, 1, none⟩ = some (.slice xd0 (dlen B9 D2) xd1) := (b3.cell (p := ⟨w.heap.size + 1, 1, none⟩) (block_lt q3)).trans q3))
      | (go_at_call 50; ((with_reducible refine (l01Over_any (.slice ra3 (dlen B9 (N1 * D2 - N2 * D1)) rc3) (.slice ra4 (dlen B9 (D1 * D2)) rc4) (N1 * D2 - N2 * D1) (D1 * D2) _ (by (repeat (first | exact pr3 | refine LongS.keep ?_ b4 | refine LongS.keep ?_ (Below.refl _ _).drew))) (by (repeat (first | exact pr4 | refine LongS.keep ?_ (Below.refl _ _).drew))) hpos.out (by omega) (by omega)).mono ?_); rintro e u5 ⟨r5, r5', rfl, pr5, pr5', b5⟩; obtain ⟨_, ra5, rc5, rfl⟩ := pr5.len; obtain ⟨_, ra5', rc5', rfl⟩ := pr5'.len; replace q0 : u5.cell? ⟨w.heap.size, 0, none⟩ = some (.slice xa0 (dlen B9 N1) xa1) := (b5.cell (p := ⟨w.heap.size, 0, none⟩) (block_lt q0)).trans q0; replace q1 : u5.cell? ⟨w.heap.size, 1, none⟩ = some (.slice xb0 (dlen B9 D1) xb1) := (b5.cell (p := ⟨w.heap.size, 1, none⟩) (block_lt q1)).trans q1; replace q2 : u5.cell? ⟨w.heap.size + 1, 0, none⟩ = some (.slice xc0 (dlen B9 N2) xc1) := (b5.cell (p := ⟨w.heap.size + 1, 0, none⟩) (block_lt q2)).trans q2; replace q3 : u5.cell? ⟨w.heap.size + 1, 1, none⟩ = some (.slice xd0 (dlen B9 D2) xd1) := (b5.cell (p := ⟨w.heap.size + 1, 1, none⟩) (block_lt q3)).trans q3; have hZr := hZ'.out.keep (below_wt (below_wt (below_wt (below_wt (below_wt (Below.refl _ W).drew b1) b2) b3) b4) b5) hZ'.out.lt; have z0 := hZr.cell 0; have z1 := hZr.cell 1; have f0 := hZr.frozen 0; have f1 := hZr.frozen 1; simp only [List.getElem?_toArray, List.getElem?_cons_zero, List.getElem?_cons_succ] at z0 z1)))
  have hf1 := Lib.hid ((pr5.setBox hZr 0 (.slice ra5 (dlen B9 ((N1 * D2 - N2 * D1) / Nat.gcd (N1 * D2 - N2 * D1) (D1 * D2))) rc5)).setBox (hZr.set 0 (.slice ra5 (dlen B9 ((N1 * D2 - N2 * D1) / Nat.gcd (N1 * D2 - N2 * D1) (D1 * D2))) rc5)) 1 (.slice ra5' (dlen B9 ((D1 * D2) / Nat.gcd (N1 * D2 - N2 * D1) (D1 * D2))) rc5'))
  have hf2 := Lib.hid ((pr5'.setBox hZr 0 (.slice ra5 (dlen B9 ((N1 * D2 - N2 * D1) / Nat.gcd (N1 * D2 - N2 * D1) (D1 * D2))) rc5)).setBox (hZr.set 0 (.slice ra5 (dlen B9 ((N1 * D2 - N2 * D1) / Nat.gcd (N1 * D2 - N2 * D1) (D1 * D2))) rc5)) 1 (.slice ra5' (dlen B9 ((D1 * D2) / Nat.gcd (N1 * D2 - N2 * D1) (D1 * D2))) rc5'))
  have hfin := Lib.hid (((below_wt (below_wt (below_wt (below_wt (below_wt bel.drew b1) b2) b3) b4) b5).setCell (p := ⟨w.heap.size + 1 + 1, 0, none⟩) (by simp only; omega) (.slice ra5 (dlen B9 ((N1 * D2 - N2 * D1) / Nat.gcd (N1 * D2 - N2 * D1) (D1 * D2))) rc5)).setCell (p := ⟨w.heap.size + 1 + 1, 1, none⟩) (by simp only; omega) (.slice ra5' (dlen B9 ((D1 * D2) / Nat.gcd (N1 * D2 - N2 * D1) (D1 * D2))) rc5'))
  go_wp2
  refine bodyPost_ret (v := .agg #[.slice ra5 (dlen B9 ((N1 * D2 - N2 * D1) / Nat.gcd (N1 * D2 - N2 * D1) (D1 * D2))) rc5, .slice ra5' (dlen B9 ((D1 * D2) / Nat.gcd (N1 * D2 - N2 * D1) (D1 * D2))) rc5']) (by simp [results, Tryd.results36, go_sem, z0, z1]) rfl ?_
  exact ⟨_, _, rfl, hf1.out, hf2.out, hfin.out⟩

set_option maxRecDepth 100000 in
set_option maxHeartbeats 4000000 in
theorem fracTimes (xa xb xc xd : Value) (N1 D1 N2 D2 : Nat) (w : World) (h0 : LongS w xa N1) (h1 : LongS w xb D1) (h2 : LongS w xc N2) (h3 : LongS w xd D2) (s0 : dlen B9 N1 ≤ 1000000) (s1 : dlen B9 D1 ≤ 1000000) (s2 : dlen B9 N2 ≤ 1000000) (s3 : dlen B9 D2 ≤ 1000000) (hp : 0 < D1 * D2) :
    Calls Tryd.prog 39 #[.agg #[xa, xb], .agg #[xc, xd]] w fun e w' => ∃ p q, e = .returned (.agg #[p, q]) ∧ LongS w' p ((N1 * N2) / Nat.gcd (N1 * N2) (D1 * D2)) ∧ LongS w' q ((D1 * D2) / Nat.gcd (N1 * N2) (D1 * D2)) ∧ Below w.heap.size w w' := by
  obtain ⟨_, xa0, xa1, rfl⟩ := h0.len
  obtain ⟨_, xb0, xb1, rfl⟩ := h1.len
  obtain ⟨_, xc0, xc1, rfl⟩ := h2.len
  obtain ⟨_, xd0, xd1, rfl⟩ := h3.len
  have bel := below3 w (.cells #[.slice xa0 (dlen B9 N1) xa1, .slice xb0 (dlen B9 D1) xb1] 42) (.cells #[.slice xc0 (dlen B9 N2) xc1, .slice xd0 (dlen B9 D2) xd1] 42) (.cells #[.slice none 0 0, .slice none 0 0] 42)
  have hB0 := ((Blk.new w #[.slice xa0 (dlen B9 N1) xa1, .slice xb0 (dlen B9 D1) xb1] 42).alloc (.cells #[.slice xc0 (dlen B9 N2) xc1, .slice xd0 (dlen B9 D2) xd1] 42)).alloc (.cells #[.slice none 0 0, .slice none 0 0] 42)
  have hB1 := (Blk.new (w.alloc (.cells #[.slice xa0 (dlen B9 N1) xa1, .slice xb0 (dlen B9 D1) xb1] 42)) #[.slice xc0 (dlen B9 N2) xc1, .slice xd0 (dlen B9 D2) xd1] 42).alloc (.cells #[.slice none 0 0, .slice none 0 0] 42)
  have hZ := Blk.new ((w.alloc (.cells #[.slice xa0 (dlen B9 N1) xa1, .slice xb0 (dlen B9 D1) xb1] 42)).alloc (.cells #[.slice xc0 (dlen B9 N2) xc1, .slice xd0 (dlen B9 D2) xd1] 42)) #[.slice none 0 0, .slice none 0 0] 42
  simp only [World.size_alloc] at hB1 hZ
  have g0 := Lib.hid (fun W b => (h0.keep bel).keep (w' := W) b)
  have g1 := Lib.hid (fun W b => (h1.keep bel).keep (w' := W) b)
  have g2 := Lib.hid (fun W b => (h2.keep bel).keep (w' := W) b)
  have g3 := Lib.hid (fun W b => (h3.keep bel).keep (w' := W) b)
  have p1 := mul_dlen9 s0 s3
  have p2 := mul_dlen9 s2 s1
  have p3 := mul_dlen9 s1 s3
  have p4 := plus_len b9 (show dlen B9 (N1 * D2) ≤ 2000000 by omega) (show dlen B9 (N2 * D1) ≤ 2000000 by omega)
  have p5 := mul_dlen9 s0 s2
  have hpos := Lib.hid hp
  clear hp
  clear h0 h1 h2 h3
  go_enter Tryd.func39, Tryd.ntmps39
  go_wp2_with fail
  generalize hW : ((w.alloc _).alloc _).alloc _ = W at *
  clear hW
  have q0 : W.drew.cell? ⟨w.heap.size, 0, none⟩ = some (.slice xa0 (dlen B9 N1) xa1) := hB0.cell 0
  have q1 : W.drew.cell? ⟨w.heap.size, 1, none⟩ = some (.slice xb0 (dlen B9 D1) xb1) := hB0.cell 1
  have q2 : W.drew.cell? ⟨w.heap.size + 1, 0, none⟩ = some (.slice xc0 (dlen B9 N2) xc1) := hB1.cell 0
  have q3 : W.drew.cell? ⟨w.heap.size + 1, 1, none⟩ = some (.slice xd0 (dlen B9 D2) xd1) := hB1.cell 1
  clear hB0 hB1
  have hZ' := Lib.hid hZ
  clear hZ
  have ne1 : w.heap.size + 1 + 1 ≠ w.heap.size := by omega
  have ne2 : w.heap.size ≠ w.heap.size + 1 + 1 := by omega
  go_region_held3 (fun w' => w'.cell? ⟨w.heap.size, 0, none⟩ = some (.slice xa0 (dlen B9 N1) xa1) ∧ w'.cell? ⟨w.heap.size, 1, none⟩ = some (.slice xb0 (dlen B9 D1) xb1) ∧ w'.cell? ⟨w.heap.size + 1, 0, none⟩ = some (.slice xc0 (dlen B9 N2) xc1) ∧ w'.cell? ⟨w.heap.size + 1, 1, none⟩ = some (.slice xd0 (dlen B9 D2) xd1))
    (go_keep)
    (first
      | (go_at_call 60; first
          | ((with_reducible refine (l01Product_any (.slice xa0 (dlen B9 N1) xa1) (.slice xc0 (dlen B9 N2) xc1) (N1) (N2) _ (g0.out _ (by (repeat (first | exact Below.refl _ _ | refine Below.drew ?_)))) (g2.out _ (by (repeat (first | exact Below.refl _ _ | refine Below.drew ?_)))) (by omega) (by omega)).mono ?_); rintro e u1 ⟨r1, rfl, pr1, b1⟩; obtain ⟨_, ra1, rc1, rfl⟩ := pr1.len; replace q0 : u1.cell? ⟨w.heap.size, 0, none⟩ = some (.slice xa0 (dlen B9 N1) xa1) := (b1.cell (p := ⟨w.heap.size, 0, none⟩) (block_lt q0)).trans q0; replace q1 : u1.cell? ⟨w.heap.size, 1, none⟩ = some (.slice xb0 (dlen B9 D1) xb1) := (b1.cell (p := ⟨w.heap.size, 1, none⟩) (block_lt q1)).trans q1; replace q2 : u1.cell? ⟨w.heap.size + 1, 0, none⟩ = some (.slice xc0 (dlen B9 N2) xc1) := (b1.cell (p := ⟨w.heap.size + 1, 0, none⟩) (block_lt q2)).trans q2; replace q3 : u1.cell? ⟨w.heap.size + 1, 1, none⟩ = some (.slice xd0 (dlen B9 D2) xd1) := (b1.cell (p := ⟨w.heap.size + 1, 1, none⟩) (block_lt q3)).trans q3)
          | ((with_reducible refine (l01Product_any (.slice xb0 (dlen B9 D1) xb1) (.slice xd0 (dlen B9 D2) xd1) (D1) (D2) _ (g1.out _ (by (repeat (first | exact Below.refl _ _ | refine Below.drew ?_ | refine below_wt ?_ b1)))) (g3.out _ (by (repeat (first | exact Below.refl _ _ | refine Below.drew ?_ | refine below_wt ?_ b1)))) (by omega) (by omega)).mono ?_); rintro e u2 ⟨r2, rfl, pr2, b2⟩; obtain ⟨_, ra2, rc2, rfl⟩ := pr2.len; replace q0 : u2.cell? ⟨w.heap.size, 0, none⟩ = some (.slice xa0 (dlen B9 N1) xa1) := (b2.cell (p := ⟨w.heap.size, 0, none⟩) (block_lt q0)).trans q0; replace q1 : u2.cell? ⟨w.heap.size, 1, none⟩ = some (.slice xb0 (dlen B9 D1) xb1) := (b2.cell (p := ⟨w.heap.size, 1, none⟩) (block_lt q1)).trans q1; replace q2 : u2.cell? ⟨w.heap.size + 1, 0, none⟩ = some (.slice xc0 (dlen B9 N2) xc1) := (b2.cell (p := ⟨w.heap.size + 1, 0, none⟩) (block_lt q2)).trans q2; replace q3 : u2.cell? ⟨w.heap.size + 1, 1, none⟩ = some (.slice xd0 (dlen B9 D2) xd1) := (b2.cell (p := ⟨w.heap.size + 1, 1, none⟩) (block_lt q3)).trans q3))
      | (go_at_call 50; ((with_reducible refine (l01Over_any (.slice ra1 (dlen B9 (N1 * N2)) rc1) (.slice ra2 (dlen B9 (D1 * D2)) rc2) (N1 * N2) (D1 * D2) _ (by (repeat (first | exact pr1 | refine LongS.keep ?_ b2 | refine LongS.keep ?_ (Below.refl _ _).drew))) (by (repeat (first | exact pr2 | refine LongS.keep ?_ (Below.refl _ _).drew))) hpos.out (by omega) (by omega)).mono ?_); rintro e u3 ⟨r3, r3', rfl, pr3, pr3', b3⟩; obtain ⟨_, ra3, rc3, rfl⟩ := pr3.len; obtain ⟨_, ra3', rc3', rfl⟩ := pr3'.len; replace q0 : u3.cell? ⟨w.heap.size, 0, none⟩ = some (.slice xa0 (dlen B9 N1) xa1) := (b3.cell (p := ⟨w.heap.size, 0, none⟩) (block_lt q0)).trans q0; replace q1 : u3.cell? ⟨w.heap.size, 1, none⟩ = some (.slice xb0 (dlen B9 D1) xb1) := (b3.cell (p := ⟨w.heap.size, 1, none⟩) (block_lt q1)).trans q1; replace q2 : u3.cell? ⟨w.heap.size + 1, 0, none⟩ = some (.slice xc0 (dlen B9 N2) xc1) := (b3.cell (p := ⟨w.heap.size + 1, 0, none⟩) (block_lt q2)).trans q2; replace q3 : u3.cell? ⟨w.heap.size + 1, 1, none⟩ = some (.slice xd0 (dlen B9 D2) xd1) := (b3.cell (p := ⟨w.heap.size + 1, 1, none⟩) (block_lt q3)).trans q3; have hZr := hZ'.out.keep (below_wt (below_wt (below_wt (Below.refl _ W).drew b1) b2) b3) hZ'.out.lt; have z0 := hZr.cell 0; have z1 := hZr.cell 1; have f0 := hZr.frozen 0; have f1 := hZr.frozen 1; simp only [List.getElem?_toArray, List.getElem?_cons_zero, List.getElem?_cons_succ] at z0 z1)))
  have hf1 := Lib.hid ((pr3.setBox hZr 0 (.slice ra3 (dlen B9 ((N1 * N2) / Nat.gcd (N1 * N2) (D1 * D2))) rc3)).setBox (hZr.set 0 (.slice ra3 (dlen B9 ((N1 * N2) / Nat.gcd (N1 * N2) (D1 * D2))) rc3)) 1 (.slice ra3' (dlen B9 ((D1 * D2) / Nat.gcd (N1 * N2) (D1 * D2))) rc3'))
  have hf2 := Lib.hid ((pr3'.setBox hZr 0 (.slice ra3 (dlen B9 ((N1 * N2) / Nat.gcd (N1 * N2) (D1 * D2))) rc3)).setBox (hZr.set 0 (.slice ra3 (dlen B9 ((N1 * N2) / Nat.gcd (N1 * N2) (D1 * D2))) rc3)) 1 (.slice ra3' (dlen B9 ((D1 * D2) / Nat.gcd (N1 * N2) (D1 * D2))) rc3'))
  have hfin := Lib.hid (((below_wt (below_wt (below_wt bel.drew b1) b2) b3).setCell (p := ⟨w.heap.size + 1 + 1, 0, none⟩) (by simp only; omega) (.slice ra3 (dlen B9 ((N1 * N2) / Nat.gcd (N1 * N2) (D1 * D2))) rc3)).setCell (p := ⟨w.heap.size + 1 + 1, 1, none⟩) (by simp only; omega) (.slice ra3' (dlen B9 ((D1 * D2) / Nat.gcd (N1 * N2) (D1 * D2))) rc3'))
  go_wp2
  refine bodyPost_ret (v := .agg #[.slice ra3 (dlen B9 ((N1 * N2) / Nat.gcd (N1 * N2) (D1 * D2))) rc3, .slice ra3' (dlen B9 ((D1 * D2) / Nat.gcd (N1 * N2) (D1 * D2))) rc3']) (by simp [results, Tryd.results39, go_sem, z0, z1]) rfl ?_
  exact ⟨_, _, rfl, hf1.out, hf2.out, hfin.out⟩

end Go.Proofs.YtefodgebecacgaaDoor
