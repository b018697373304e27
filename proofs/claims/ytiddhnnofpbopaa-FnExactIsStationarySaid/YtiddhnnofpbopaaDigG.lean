/- DigG: several texts in one (Dbw, Rat, Rat2). Conditions: told in each. -/
import Derived.Test.YtiddhnnofpbopaaWordG
import Derived.Test.YtiddhnnofpbopaaReadG
/- divideByWord of the project, with where its quotient lies. Conditions: the word is not 0; fewer than 10^12 words. -/
namespace Go.Proofs.Ytiddhnnofpbopaa
open Go.RowKit Go.Deep
set_option linter.unusedVariables false

set_option maxRecDepth 100000 in
set_option maxHeartbeats 4000000 in
theorem divideByWord_new (a : Value) (m y : Nat) (w : World) (ha : LongI w a m) (hy : 0 < y) (hyB : y < 4294967296) (sm : dlen W32 m ≤ 1000000000000) :
    Calls Try.prog 100 #[a, .int .u32 (y : Int)] w fun e w' => ∃ l c : Nat, e = .returned (.tuple #[.slice (some ⟨w.heap.size, 0, none⟩) l c, .int .u32 (m % y : Nat)]) ∧ LongI w' (.slice (some ⟨w.heap.size, 0, none⟩) l c) (m / y) ∧ Below w.heap.size w w' := by
  obtain ⟨hm1, a1, cap1, rfl⟩ := ha.len
  unfold maxLen at hm1
  have hA := fun h => ha.at h
  have hrd := Lib.hid (fun k => shortw_round m y k hy hyB)
  have hbm := Lib.hid (fun k => And.intro (dgt_lt w32 m k) (And.intro (Nat.mod_lt (m / W32 ^ k) hy) (And.intro (dgt_lt w32 (m / y) k) (Nat.mod_lt (m / W32 ^ (k + 1)) hy))))
  have hval := Lib.hid (show val W32 (dgs W32 (m / y) (dlen W32 m)) = m / y from val_dgs_small (Nat.lt_of_le_of_lt (Nat.div_le_self m y) (lt_dlen w32 m)))
  have h00 := Lib.hid (show m / W32 ^ dlen W32 m % y = 0 by rw [Nat.div_eq_of_lt (lt_dlen w32 m), Nat.zero_mod])
  have hmk := run_make_row' (P := Try.prog) 71 112 (.int .u32 0) 4 Try.underlying71 word_info rfl .i64 .i64 (dlen W32 m) (by omega) (by omega)
  clear ha
  generalize hL1 : dlen W32 m = L at hm1 hA sm hval hmk h00 ⊢
  replace hL1 := Lib.hid hL1
  have hy0 : ((y : Int) == 0) = false := by simp; omega
  have hy1 : ¬ (y : Int) = 0 := by omega
  go_enter Try.func100, Try.ntmps100
  go_wp2
  go_loopw [7, 8] (fun rv i wr => ∃ k : Nat, k ≤ L ∧ i = .int .i64 ((k : Int) - 1) ∧ rv = .int .u64 (m / W32 ^ k % y : Nat) ∧ Own wr w.heap.size (w.heap.size + 1) 112 (.slice (some ⟨w.heap.size, 0, none⟩) L L) (u32s (shL W32 (m / y) L k)) ∧ Below w.heap.size w wr) (fun _ i _ => (intOf i + 1).toNat)
  case atStart =>
    refine ⟨L, Nat.le_refl _, by go_num, by rw [h00.out]; rfl, ?_, (Below.refl _ _).alloc (Nat.le_refl _) _⟩
    have := Own.made w (.int .u32 0) L 112 (by unfold maxLen; omega)
    rw [shL_full]
    simpa [u32s] using this
  case round =>
    obtain ⟨k, hk, rfl, rfl, hown, bel⟩ := hrel
    have hown' := Lib.hid hown
    rcases Nat.eq_zero_or_pos k with rfl | hpos
    · have hrow : Wd wr (.slice (some ⟨w.heap.size, 0, none⟩) L L) (dgs W32 (m / y) L) := by
        have := hown.row
        rw [shL_zero] at this
        have e : (u32s (dgs W32 (m / y) L)).length = L := by rw [u32s_length, dgs_length]
        exact this
      have hrow2 : Wd wr (.slice (some ⟨w.heap.size, 0, none⟩) (dgs W32 (m / y) L).length L) (dgs W32 (m / y) L) := by rw [dgs_length]; exact hrow
      have hcut := trim_at _ L (dgs W32 (m / y) L) wr hrow2 (dgs_lt w32 _ _)
      rw [dgs_length] at hcut
      rw [hval.out] at hcut
      have hcut' := Lib.hid hcut
      have hm0 : ((m / W32 ^ 0 % y : Nat) : Int) = ((m % y : Nat) : Int) := by simp
      rw [hm0]
      have hmy := Nat.mod_lt m hy
      have hwr : ((m % y : Nat) : Int) % 4294967296 = ((m % y : Nat) : Int) := by omega
      generalize hmr : m % y = r at hwr hmy ⊢
      replace hmr := Lib.hid hmr
      clear hown hcut hm0
      go_wp2_with fail
      refine hcut'.out.mono ?_
      rintro e w' ⟨rfl, hL, j, rfl⟩
      have hL' := Lib.hid hL
      clear hL
      go_wp2
      go_ret2
      exact ⟨_, _, by rw [hmr.out]; rfl, hL'.out.keep (below_drewN (Below.refl _ _) j), below_drewN bel j⟩
    · obtain ⟨k, rfl⟩ : ∃ k', k = k' + 1 := ⟨k - 1, by omega⟩
      have hi : (((k + 1 : Nat) : Int) - 1) = (k : Int) := by omega
      rw [hi]
      obtain ⟨b1, o1, c1, hv1, hl1, hc1⟩ := hA (by omega)
      simp only [Value.slice.injEq] at hv1
      obtain ⟨rfl, -, rfl⟩ := hv1
      have q1 := (bel.cell hl1).trans (hc1 k (by omega))
      obtain ⟨g, cap'', hg, -, -, -, hcg, hfg⟩ := hown.at (by rw [u32s_length, shL_length]; omega)
      simp only [Value.slice.injEq, Option.some.injEq, Addr.mk.injEq, and_true] at hg
      obtain ⟨rfl, -, -⟩ := hg
      have hcg' := hcg k (by rw [u32s_length, shL_length]; omega)
      have hfg' := hfg k
      obtain ⟨G, z0, z1, z2, z3⟩ := hrd.out k
      obtain ⟨w1, w2, w3, w4⟩ := hbm.out k
      have hset := Lib.hid (shL_set W32 (m / y) L k)
      have hsz := bel.size
      simp only [show W32 = 4294967296 from rfl] at w1 w3
      clear hc1 hcg hfg hown hi
      generalize m / W32 ^ (k + 1) % y = r at z0 w4 ⊢
      generalize hr' : m / W32 ^ k % y = r' at z2 w2
      replace hr' := Lib.hid hr'
      generalize dgt W32 m k = x at q1 z0 w1
      generalize dgt W32 (m / y) k = d at z1 w3 hset
      generalize (u32s (shL W32 (m / y) L (k + 1))).getD k undef = old at hcg'
      have y1 : (G : Int) / (y : Int) = (d : Int) := by rw [← z1]; simp
      have y2 : (G : Int) % (y : Int) = (r' : Int) := by rw [← z2]; simp
      have y3 : (G : Int).tdiv (y : Int) = (d : Int) := by rw [Int.tdiv_eq_ediv_of_nonneg (by omega)]; exact y1
      have y4 : (G : Int).tmod (y : Int) = (r' : Int) := by rw [Int.tmod_eq_emod_of_nonneg (by omega)]; exact y2
      have v0 : r < 4294967296 := by omega
      have v1 : r' < 4294967296 := by omega
      clear z1 z2
      go_wp2
      go_roundw
      case rel =>
        refine ⟨k, by omega, by go_num, by rw [hr'.out], ?_, bel.setCell (Nat.le_refl _) _⟩
        have := hown'.out.set k (.int .u32 (d : Int))
        rw [u32s_set, hset.out] at this
        exact this
      case measure => simp [intOf]

end Go.Proofs.Ytiddhnnofpbopaa

/- Sums, differences, products and quotients of the project's fractions. Conditions: told by the code; at most 10^6 words in each part. -/
namespace Go.Proofs.Ytiddhnnofpbopaa
open Go.RowKit Go.Deep
set_option linter.unusedVariables false
set_option linter.unusedSimpArgs false

theorem mul_dlen {B : Nat} (hB : 2 ≤ B) {m n L M : Nat} (h1 : dlen B m ≤ L) (h2 : dlen B n ≤ M) : dlen B (m * n) ≤ L + M :=
  dlen_le hB (by rw [Nat.pow_add]; exact Nat.mul_lt_mul'' (lt_of_dlen hB h1) (lt_of_dlen hB h2))

set_option maxRecDepth 100000 in
set_option maxHeartbeats 4000000 in
theorem ratioPlus (xa xb xc xd : Value) (N1 D1 N2 D2 : Nat) (w : World) (h0 : LongI w xa N1) (h1 : LongI w xb D1) (h2 : LongI w xc N2) (h3 : LongI w xd D2) (s0 : dlen W32 N1 ≤ 1000000) (s1 : dlen W32 D1 ≤ 1000000) (s2 : dlen W32 N2 ≤ 1000000) (s3 : dlen W32 D2 ≤ 1000000) :
    Calls Try.prog 95 #[.agg #[xa, xb], .agg #[xc, xd]] w fun e w' => ∃ p q, e = .returned (.agg #[p, q]) ∧ LongI w' p (N1 * D2 + N2 * D1) ∧ LongI w' q (D1 * D2) ∧ Below w.heap.size w w' := by
  obtain ⟨_, xa0, xa1, rfl⟩ := h0.len
  obtain ⟨_, xb0, xb1, rfl⟩ := h1.len
  obtain ⟨_, xc0, xc1, rfl⟩ := h2.len
  obtain ⟨_, xd0, xd1, rfl⟩ := h3.len
  have bel := below3 w (.cells #[.slice xa0 (dlen W32 N1) xa1, .slice xb0 (dlen W32 D1) xb1] 77) (.cells #[.slice xc0 (dlen W32 N2) xc1, .slice xd0 (dlen W32 D2) xd1] 77) (.cells #[.slice none 0 0, .slice none 0 0] 77)
  have hB0 := ((Blk.new w #[.slice xa0 (dlen W32 N1) xa1, .slice xb0 (dlen W32 D1) xb1] 77).alloc (.cells #[.slice xc0 (dlen W32 N2) xc1, .slice xd0 (dlen W32 D2) xd1] 77)).alloc (.cells #[.slice none 0 0, .slice none 0 0] 77)
  have hB1 := (Blk.new (w.alloc (.cells #[.slice xa0 (dlen W32 N1) xa1, .slice xb0 (dlen W32 D1) xb1] 77)) #[.slice xc0 (dlen W32 N2) xc1, .slice xd0 (dlen W32 D2) xd1] 77).alloc (.cells #[.slice none 0 0, .slice none 0 0] 77)
  have hZ := Blk.new ((w.alloc (.cells #[.slice xa0 (dlen W32 N1) xa1, .slice xb0 (dlen W32 D1) xb1] 77)).alloc (.cells #[.slice xc0 (dlen W32 N2) xc1, .slice xd0 (dlen W32 D2) xd1] 77)) #[.slice none 0 0, .slice none 0 0] 77
  simp only [World.size_alloc] at hB1 hZ
  have g0 := Lib.hid (fun W b => (h0.keep bel).keep (w' := W) b)
  have g1 := Lib.hid (fun W b => (h1.keep bel).keep (w' := W) b)
  have g2 := Lib.hid (fun W b => (h2.keep bel).keep (w' := W) b)
  have g3 := Lib.hid (fun W b => (h3.keep bel).keep (w' := W) b)
  have p1 := mul_dlen w32 s0 s3
  have p2 := mul_dlen w32 s2 s1
  have p3 := mul_dlen w32 s1 s3
  clear h0 h1 h2 h3
  go_enter Try.func95, Try.ntmps95
  go_wp2_with fail
  generalize hW : ((w.alloc _).alloc _).alloc _ = W at *
  clear hW
  have q0 : W.drew.cell? ⟨w.heap.size, 0, none⟩ = some (.slice xa0 (dlen W32 N1) xa1) := hB0.cell 0
  have q1 : W.drew.cell? ⟨w.heap.size, 1, none⟩ = some (.slice xb0 (dlen W32 D1) xb1) := hB0.cell 1
  have q2 : W.drew.cell? ⟨w.heap.size + 1, 0, none⟩ = some (.slice xc0 (dlen W32 N2) xc1) := hB1.cell 0
  have q3 : W.drew.cell? ⟨w.heap.size + 1, 1, none⟩ = some (.slice xd0 (dlen W32 D2) xd1) := hB1.cell 1
  clear hB0 hB1
  have hZ' := Lib.hid hZ
  clear hZ
  have ne1 : w.heap.size + 1 + 1 ≠ w.heap.size := by omega
  have ne2 : w.heap.size ≠ w.heap.size + 1 + 1 := by omega
  go_region_held3 (fun w' => w'.cell? ⟨w.heap.size, 0, none⟩ = some (.slice xa0 (dlen W32 N1) xa1) ∧ w'.cell? ⟨w.heap.size, 1, none⟩ = some (.slice xb0 (dlen W32 D1) xb1) ∧ w'.cell? ⟨w.heap.size + 1, 0, none⟩ = some (.slice xc0 (dlen W32 N2) xc1) ∧ w'.cell? ⟨w.heap.size + 1, 1, none⟩ = some (.slice xd0 (dlen W32 D2) xd1))
    (go_keep)
    (first
      | (go_at_call 60; first
          | ((with_reducible refine (times_any (.slice xa0 (dlen W32 N1) xa1) (.slice xd0 (dlen W32 D2) xd1) (N1) (D2) _ (g0.out _ (by (repeat (first | exact Below.refl _ _ | refine Below.drew ?_)))) (g3.out _ (by (repeat (first | exact Below.refl _ _ | refine Below.drew ?_)))) (by omega) (by omega)).mono ?_); rintro e u1 ⟨r1, rfl, pr1, b1⟩; obtain ⟨_, ra1, rc1, rfl⟩ := pr1.len; replace q0 : u1.cell? ⟨w.heap.size, 0, none⟩ = some (.slice xa0 (dlen W32 N1) xa1) := (b1.cell (p := ⟨w.heap.size, 0, none⟩) (block_lt q0)).trans q0; replace q1 : u1.cell? ⟨w.heap.size, 1, none⟩ = some (.slice xb0 (dlen W32 D1) xb1) := (b1.cell (p := ⟨w.heap.size, 1, none⟩) (block_lt q1)).trans q1; replace q2 : u1.cell? ⟨w.heap.size + 1, 0, none⟩ = some (.slice xc0 (dlen W32 N2) xc1) := (b1.cell (p := ⟨w.heap.size + 1, 0, none⟩) (block_lt q2)).trans q2; replace q3 : u1.cell? ⟨w.heap.size + 1, 1, none⟩ = some (.slice xd0 (dlen W32 D2) xd1) := (b1.cell (p := ⟨w.heap.size + 1, 1, none⟩) (block_lt q3)).trans q3)
          | ((with_reducible refine (times_any (.slice xc0 (dlen W32 N2) xc1) (.slice xb0 (dlen W32 D1) xb1) (N2) (D1) _ (g2.out _ (by (repeat (first | exact Below.refl _ _ | refine Below.drew ?_ | refine below_wt ?_ b1)))) (g1.out _ (by (repeat (first | exact Below.refl _ _ | refine Below.drew ?_ | refine below_wt ?_ b1)))) (by omega) (by omega)).mono ?_); rintro e u2 ⟨r2, rfl, pr2, b2⟩; obtain ⟨_, ra2, rc2, rfl⟩ := pr2.len; replace q0 : u2.cell? ⟨w.heap.size, 0, none⟩ = some (.slice xa0 (dlen W32 N1) xa1) := (b2.cell (p := ⟨w.heap.size, 0, none⟩) (block_lt q0)).trans q0; replace q1 : u2.cell? ⟨w.heap.size, 1, none⟩ = some (.slice xb0 (dlen W32 D1) xb1) := (b2.cell (p := ⟨w.heap.size, 1, none⟩) (block_lt q1)).trans q1; replace q2 : u2.cell? ⟨w.heap.size + 1, 0, none⟩ = some (.slice xc0 (dlen W32 N2) xc1) := (b2.cell (p := ⟨w.heap.size + 1, 0, none⟩) (block_lt q2)).trans q2; replace q3 : u2.cell? ⟨w.heap.size + 1, 1, none⟩ = some (.slice xd0 (dlen W32 D2) xd1) := (b2.cell (p := ⟨w.heap.size + 1, 1, none⟩) (block_lt q3)).trans q3)
          | ((with_reducible refine (times_any (.slice xb0 (dlen W32 D1) xb1) (.slice xd0 (dlen W32 D2) xd1) (D1) (D2) _ (g1.out _ (by (repeat (first | exact Below.refl _ _ | refine Below.drew ?_ | refine below_wt ?_ b3 | refine below_wt ?_ b2 | refine below_wt ?_ b1)))) (g3.out _ (by (repeat (first | exact Below.refl _ _ | refine Below.drew ?_ | refine below_wt ?_ b3 | refine below_wt ?_ b2 | refine below_wt ?_ b1)))) (by omega) (by omega)).mono ?_); rintro e u4 ⟨r4, rfl, pr4, b4⟩; obtain ⟨_, ra4, rc4, rfl⟩ := pr4.len; replace q0 : u4.cell? ⟨w.heap.size, 0, none⟩ = some (.slice xa0 (dlen W32 N1) xa1) := (b4.cell (p := ⟨w.heap.size, 0, none⟩) (block_lt q0)).trans q0; replace q1 : u4.cell? ⟨w.heap.size, 1, none⟩ = some (.slice xb0 (dlen W32 D1) xb1) := (b4.cell (p := ⟨w.heap.size, 1, none⟩) (block_lt q1)).trans q1; replace q2 : u4.cell? ⟨w.heap.size + 1, 0, none⟩ = some (.slice xc0 (dlen W32 N2) xc1) := (b4.cell (p := ⟨w.heap.size + 1, 0, none⟩) (block_lt q2)).trans q2; replace q3 : u4.cell? ⟨w.heap.size + 1, 1, none⟩ = some (.slice xd0 (dlen W32 D2) xd1) := (b4.cell (p := ⟨w.heap.size + 1, 1, none⟩) (block_lt q3)).trans q3; have hZr := hZ'.out.keep (below_wt (below_wt (below_wt (below_wt (Below.refl _ W).drew b1) b2) b3) b4) hZ'.out.lt; have z0 := hZr.cell 0; have z1 := hZr.cell 1; have f0 := hZr.frozen 0; have f1 := hZr.frozen 1; simp only [List.getElem?_toArray, List.getElem?_cons_zero, List.getElem?_cons_succ] at z0 z1))
      | (go_at_call 61; ((with_reducible refine (plus_any (.slice ra1 (dlen W32 (N1 * D2)) rc1) (.slice ra2 (dlen W32 (N2 * D1)) rc2) (N1 * D2) (N2 * D1) _ (by (repeat (first | exact pr1 | refine LongI.keep ?_ b2 | refine LongI.keep ?_ (Below.refl _ _).drew))) (by (repeat (first | exact pr2 | refine LongI.keep ?_ (Below.refl _ _).drew))) (by omega) (by omega)).mono ?_); rintro e u3 ⟨r3, rfl, pr3, b3⟩; obtain ⟨_, ra3, rc3, rfl⟩ := pr3.len; replace q0 : u3.cell? ⟨w.heap.size, 0, none⟩ = some (.slice xa0 (dlen W32 N1) xa1) := (b3.cell (p := ⟨w.heap.size, 0, none⟩) (block_lt q0)).trans q0; replace q1 : u3.cell? ⟨w.heap.size, 1, none⟩ = some (.slice xb0 (dlen W32 D1) xb1) := (b3.cell (p := ⟨w.heap.size, 1, none⟩) (block_lt q1)).trans q1; replace q2 : u3.cell? ⟨w.heap.size + 1, 0, none⟩ = some (.slice xc0 (dlen W32 N2) xc1) := (b3.cell (p := ⟨w.heap.size + 1, 0, none⟩) (block_lt q2)).trans q2; replace q3 : u3.cell? ⟨w.heap.size + 1, 1, none⟩ = some (.slice xd0 (dlen W32 D2) xd1) := (b3.cell (p := ⟨w.heap.size + 1, 1, none⟩) (block_lt q3)).trans q3)))
  have hf1 := Lib.hid (((pr3.keep b4).setBox hZr 0 (.slice ra3 (dlen W32 (N1 * D2 + N2 * D1)) rc3)).setBox (hZr.set 0 (.slice ra3 (dlen W32 (N1 * D2 + N2 * D1)) rc3)) 1 (.slice ra4 (dlen W32 (D1 * D2)) rc4))
  have hf2 := Lib.hid ((pr4.setBox hZr 0 (.slice ra3 (dlen W32 (N1 * D2 + N2 * D1)) rc3)).setBox (hZr.set 0 (.slice ra3 (dlen W32 (N1 * D2 + N2 * D1)) rc3)) 1 (.slice ra4 (dlen W32 (D1 * D2)) rc4))
  have hfin := Lib.hid (((below_wt (below_wt (below_wt (below_wt bel.drew b1) b2) b3) b4).setCell (p := ⟨w.heap.size + 1 + 1, 0, none⟩) (by simp only; omega) (.slice ra3 (dlen W32 (N1 * D2 + N2 * D1)) rc3)).setCell (p := ⟨w.heap.size + 1 + 1, 1, none⟩) (by simp only; omega) (.slice ra4 (dlen W32 (D1 * D2)) rc4))
  go_wp2
  refine bodyPost_ret (v := .agg #[.slice ra3 (dlen W32 (N1 * D2 + N2 * D1)) rc3, .slice ra4 (dlen W32 (D1 * D2)) rc4]) (by simp [results, Try.results95, go_sem, z0, z1]) rfl ?_
  exact ⟨_, _, rfl, hf1.out, hf2.out, hfin.out⟩

end Go.Proofs.Ytiddhnnofpbopaa

/- A fraction of the project in lowest terms. Conditions: told by the code; at most 10^6 words in each part. -/
namespace Go.Proofs.Ytiddhnnofpbopaa
open Go.RowKit Go.Deep
set_option linter.unusedVariables false
set_option linter.unusedSimpArgs false

end Go.Proofs.Ytiddhnnofpbopaa
