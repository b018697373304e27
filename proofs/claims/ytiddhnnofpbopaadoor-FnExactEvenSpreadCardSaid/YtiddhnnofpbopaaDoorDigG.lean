/- DigG: several texts in one (Fmt, Dbw, Rat, Rat2, Dig, Fra). Conditions: told in each. -/
import Derived.Test.YtiddhnnofpbopaaDoorNtxG
import Derived.Test.YtiddhnnofpbopaaDoorShelf
import Derived.Lib.AppendIntMem
import Derived.BigCall
import Derived.BigGuard
import Derived.CellFam
import Derived.Test.YtiddhnnofpbopaaDoorWordG
import Derived.Test.YtiddhnnofpbopaaDoorReadG
import Derived.Test.YtiddhnnofpbopaaDoorWordH
import Derived.Lib.OwnBridge
import Derived.Deep.LoopGhost
/- strconv.FormatUint at base 10. Conditions: strconv's table of powers lies as its text has it. -/
namespace Go.Proofs.YtiddhnnofpbopaaDoor
open Go.RowKit Go.Deep Go.Lib Go.Sort
set_option linter.unusedVariables false

abbrev Tab10 (w : World) : Prop := Lib.TabIs Tryd.prog w "internal/strconv.uint64pow10" .u64 Lib.pow10Tab
theorem Tab10.keep {w w' : World} (h : Tab10 w) (hb : Below w.heap.size w w') : Tab10 w' := Lib.tabBelow_of_tabIs h w' hb
theorem dec_same : ∀ (f n : Nat), n < f → Lib.decDigits n = decW n
  | 0, n, h => absurd h (Nat.not_lt_zero n)
  | f + 1, n, h => by
    by_cases h1 : n < 10
    · rw [Lib.decDigits, dif_pos h1, decW_small h1]
    · rw [Lib.decDigits, dif_neg h1, decW_more h1, dec_same f (n / 10) (by omega)]
theorem dec_eq (n : Nat) : Lib.decDigits n = decW n := dec_same (n + 1) n (Nat.lt_succ_self n)

set_option maxHeartbeats 6400000 in
set_option maxRecDepth 100000 in
theorem FmtUint_any (u : Nat) (w : World) (hu64 : u < 18446744073709551616) (htab : Tab10 w) :
    Calls Tryd.prog 52 #[.int .u64 u, .int .i64 10] w fun e w' => e = .returned (.string (decS u)) ∧ Below w.heap.size w w' := by
  by_cases hs : u < 100
  · have hc := Lib.hid (fun W => Tryd.internal_strconv_small u hs W)
    rw [dec_eq] at hc
    have hw : IntKind.i64.wrap (u : Int) = (u : Int) := by rw [IntKind.wrap_i64]; omega
    have hsI : (u : Int) < 100 := by omega
    have hds : Hid (decS u = ⟨(decW u).toArray⟩) := Lib.hid rfl
    generalize decS u = R at *
    clear htab hs
    go_enter Tryd.func52, Tryd.ntmps52
    go_wp2_with fail
    (with_reducible refine (hc.out _).mono ?_)
    rintro e w1 ⟨rfl, rfl⟩
    go_wp2
    go_ret
    exact ⟨by rw [hds.out]; rfl, Below.refl _ _⟩
  · have hu1 : 1 ≤ u := by omega
    have hnd20 : Lib.nDigits u ≤ 20 := by have := Lib.numDigits_eq u hu1 hu64; split at this <;> omega
    have hal : Tryd.prog.arrayLen 110 = 24 := by kernel_rfl
    have hsl : ∀ W, (Instr.sliceAt 110 (.pointer (some ⟨w.heap.size, 0, none⟩)) none (some (.int .i64 (Lib.nDigits u : Int))) none).run Tryd.prog W = .ok (.slice (some ⟨w.heap.size, 0, none⟩) (Lib.nDigits u) 24) W := fun W => by
      rw [run_sliceAt_array_h W 110 ⟨w.heap.size, 0, none⟩ (by kernel_rfl) .i64 (Lib.nDigits u : Int) (by omega) (by rw [hal]; omega)]
      go_simp
    have hH0 := Lib.holds_zero0 w 110 (Lib.nDigits u) (by omega)
    have hfmt := Tryd.internal_strconv_formatBase10 w.heap.size 0 24 u (Array.replicate (Lib.nDigits u) 0) (w.alloc (.cells Lib.zeros24 110)) hH0 (by rw [Array.size_replicate]; exact Lib.lt_pow_nDigits u) hu64 (by rw [Array.size_replicate]; omega)
    rw [Array.size_replicate] at hfmt
    have HH0 := Lib.hid hH0
    have iu : ¬ (u : Int) < 100 := by omega
    have hnum := Lib.hid (fun W h => Tryd.internal_strconv_numDigits u hu1 hu64 W h)
    have htab' := Lib.hid htab
    have hfmt' := Lib.hid hfmt
    clear hH0 hal htab hfmt
    go_enter Tryd.func52, Tryd.ntmps52
    go_wp2_with fail
    (with_reducible refine (hnum.out _ (Lib.tabIs_alloc htab'.out _)).mono ?_)
    rintro e w1 ⟨rfl, rfl⟩
    go_wp2_with fail
    refine hfmt'.out.mono ?_
    rintro e w' ⟨rfl, k, v', dk, rfl, hF⟩
    have hcv : (convert 56 9 (.slice (some ⟨w.heap.size, 0, none⟩) (Lib.nDigits u) 24)).run Tryd.prog ((putRow (fun (b : UInt8) => Value.int .u8 (b.toNat : Int)) (w.alloc (.cells Lib.zeros24 110)) w.heap.size 0 dk).drewN k) = .ok (.string ⟨(Lib.decDigits u).toArray⟩) ((putRow (fun (b : UInt8) => Value.int .u8 (b.toNat : Int)) (w.alloc (.cells Lib.zeros24 110)) w.heap.size 0 dk).drewN k) := by
      have h := run_convert_bytes_back (P := Tryd.prog) ((putRow (fun (b : UInt8) => Value.int .u8 (b.toNat : Int)) (w.alloc (.cells Lib.zeros24 110)) w.heap.size 0 dk).drewN k) 56 9 5 ⟨w.heap.size, 0, none⟩ 24 (Lib.decDigits u) Tryd.underlying56 Tryd.underlying5 (by kernel_rfl) (fun j hj => by
        rw [Lib.row_is_numeral hF j hj, Lib.add_plain, World.cell?_drewN]
        exact cell?_putRow (fun (b : UInt8) => Value.int .u8 (b.toNat : Int)) _ w.heap.size 0 _ dk HH0.out (by rw [hF.size, Array.size_replicate]) j (by rw [hF.size]; rw [Lib.decDigits_length] at hj; exact hj))
      rw [Lib.decDigits_length] at h
      exact h
    obtain ⟨os, eo⟩ := Lib.fin_at w (.cells Lib.zeros24 110) dk k 0
    have bel := Lib.hid (show Below w.heap.size w ((putRow (fun (b : UInt8) => Value.int .u8 (b.toNat : Int)) (w.alloc (.cells Lib.zeros24 110)) w.heap.size 0 dk).drewN k) by rw [eo]; exact Lib.below_grow _ w (Nat.le_refl _) k os)
    generalize (putRow (fun (b : UInt8) => Value.int .u8 (b.toNat : Int)) (w.alloc (.cells Lib.zeros24 110)) w.heap.size 0 dk).drewN k = W2 at hcv bel ⊢
    clear eo hF HH0 hfmt' hnum
    go_wp2
    go_ret
    exact ⟨by rw [dec_eq]; rfl, bel.out⟩

set_option maxHeartbeats 2000000 in
theorem FormatUint_any (u : Nat) (w : World) (hu64 : u < 18446744073709551616) (htab : Tab10 w) :
    Calls Tryd.prog 39 #[.int .u64 u, .int .i64 10] w fun e w' => e = .returned (.string (decS u)) ∧ Below w.heap.size w w' := by
  have hc := Lib.hid (FmtUint_any u w hu64 htab)
  clear htab hu64
  generalize decS u = R at *
  go_enter Tryd.func39, Tryd.ntmps39
  go_wp2_with fail
  (with_reducible refine hc.out.mono ?_)
  rintro e w1 ⟨rfl, b1⟩
  go_wp2
  go_ret
  exact ⟨rfl, b1⟩
end Go.Proofs.YtiddhnnofpbopaaDoor

/- divideByWord of the project, with where its quotient lies. Conditions: the word is not 0; fewer than 10^12 words. -/
namespace Go.Proofs.YtiddhnnofpbopaaDoor
open Go.RowKit Go.Deep
set_option linter.unusedVariables false

set_option maxRecDepth 100000 in
set_option maxHeartbeats 4000000 in
theorem divideByWord_new (a : Value) (m y : Nat) (w : World) (ha : LongI w a m) (hy : 0 < y) (hyB : y < 4294967296) (sm : dlen W32 m ≤ 1000000000000) :
    Calls Tryd.prog 38 #[a, .int .u32 (y : Int)] w fun e w' => ∃ l c : Nat, e = .returned (.tuple #[.slice (some ⟨w.heap.size, 0, none⟩) l c, .int .u32 (m % y : Nat)]) ∧ LongI w' (.slice (some ⟨w.heap.size, 0, none⟩) l c) (m / y) ∧ Below w.heap.size w w' := by
  obtain ⟨hm1, a1, cap1, rfl⟩ := ha.len
  unfold maxLen at hm1
  have hA := fun h => ha.at h
  have hrd := Lib.hid (fun k => shortw_round m y k hy hyB)
  have hbm := Lib.hid (fun k => And.intro (dgt_lt w32 m k) (And.intro (Nat.mod_lt (m / W32 ^ k) hy) (And.intro (dgt_lt w32 (m / y) k) (Nat.mod_lt (m / W32 ^ (k + 1)) hy))))
  have hval := Lib.hid (show val W32 (dgs W32 (m / y) (dlen W32 m)) = m / y from val_dgs_small (Nat.lt_of_le_of_lt (Nat.div_le_self m y) (lt_dlen w32 m)))
  have h00 := Lib.hid (show m / W32 ^ dlen W32 m % y = 0 by rw [Nat.div_eq_of_lt (lt_dlen w32 m), Nat.zero_mod])
  have hmk := run_make_row' (P := Tryd.prog) 47 61 (.int .u32 0) 4 Tryd.underlying47 word_info rfl .i64 .i64 (dlen W32 m) (by omega) (by omega)
  clear ha
  generalize hL1 : dlen W32 m = L at hm1 hA sm hval hmk h00 ⊢
  replace hL1 := Lib.hid hL1
  have hy0 : ((y : Int) == 0) = false := by simp; omega
  have hy1 : ¬ (y : Int) = 0 := by omega
  go_enter Tryd.func38, Tryd.ntmps38
  go_wp2
  go_loopw [7, 8] (fun rv i wr => ∃ k : Nat, k ≤ L ∧ i = .int .i64 ((k : Int) - 1) ∧ rv = .int .u64 (m / W32 ^ k % y : Nat) ∧ Own wr w.heap.size (w.heap.size + 1) 61 (.slice (some ⟨w.heap.size, 0, none⟩) L L) (u32s (shL W32 (m / y) L k)) ∧ Below w.heap.size w wr) (fun _ i _ => (intOf i + 1).toNat)
  case atStart =>
    refine ⟨L, Nat.le_refl _, by go_num, by rw [h00.out]; rfl, ?_, (Below.refl _ _).alloc (Nat.le_refl _) _⟩
    have := Own.made w (.int .u32 0) L 61 (by unfold maxLen; omega)
    rw [shL_full]
    simpa [u32s] using this
  case round =>
    obtain ⟨k, hk, rfl, rfl, hown, bel⟩ := hrel
    have hown' := Lib.hid hown
    rcases Nat.eq_zero_or_pos k with rfl | hpos
    · have hrow : Wd wr (.slice (some ⟨w.heap.size, 0, none⟩) L L) (dgs W32 (m / y) L) := by
        have := hown.row
        rw [shL_zero] at this
        have e : (u32s (dgs W32 (m / y) L)).length = L := by rw [u32s_length, dgs_length]
        exact this
      have hrow2 : Wd wr (.slice (some ⟨w.heap.size, 0, none⟩) (dgs W32 (m / y) L).length L) (dgs W32 (m / y) L) := by rw [dgs_length]; exact hrow
      have hcut := trim_at _ L (dgs W32 (m / y) L) wr hrow2 (dgs_lt w32 _ _)
      rw [dgs_length] at hcut
      rw [hval.out] at hcut
      have hcut' := Lib.hid hcut
      have hm0 : ((m / W32 ^ 0 % y : Nat) : Int) = ((m % y : Nat) : Int) := by simp
      rw [hm0]
      have hmy := Nat.mod_lt m hy
      have hwr : ((m % y : Nat) : Int) % 4294967296 = ((m % y : Nat) : Int) := by omega
      generalize hmr : m % y = r at hwr hmy ⊢
      replace hmr := Lib.hid hmr
      clear hown hcut hm0
      go_wp2_with fail
      refine hcut'.out.mono ?_
      rintro e w' ⟨rfl, hL, j, rfl⟩
      have hL' := Lib.hid hL
      clear hL
      go_wp2
      go_ret2
      exact ⟨_, _, by rw [hmr.out]; rfl, hL'.out.keep (below_drewN (Below.refl _ _) j), below_drewN bel j⟩
    · obtain ⟨k, rfl⟩ : ∃ k', k = k' + 1 := ⟨k - 1, by omega⟩
      have hi : (((k + 1 : Nat) : Int) - 1) = (k : Int) := by omega
      rw [hi]
      obtain ⟨b1, o1, c1, hv1, hl1, hc1⟩ := hA (by omega)
      simp only [Value.slice.injEq] at hv1
      obtain ⟨rfl, -, rfl⟩ := hv1
      have q1 := (bel.cell hl1).trans (hc1 k (by omega))
      obtain ⟨g, cap'', hg, -, -, -, hcg, hfg⟩ := hown.at (by rw [u32s_length, shL_length]; omega)
      simp only [Value.slice.injEq, Option.some.injEq, Addr.mk.injEq, and_true] at hg
      obtain ⟨rfl, -, -⟩ := hg
      have hcg' := hcg k (by rw [u32s_length, shL_length]; omega)
      have hfg' := hfg k
      obtain ⟨G, z0, z1, z2, z3⟩ := hrd.out k
      obtain ⟨w1, w2, w3, w4⟩ := hbm.out k
      have hset := Lib.hid (shL_set W32 (m / y) L k)
      have hsz := bel.size
      simp only [show W32 = 4294967296 from rfl] at w1 w3
      clear hc1 hcg hfg hown hi
      generalize m / W32 ^ (k + 1) % y = r at z0 w4 ⊢
      generalize hr' : m / W32 ^ k % y = r' at z2 w2
      replace hr' := Lib.hid hr'
      generalize dgt W32 m k = x at q1 z0 w1
      generalize dgt W32 (m / y) k = d at z1 w3 hset
      generalize (u32s (shL W32 (m / y) L (k + 1))).getD k undef = old at hcg'
      have y1 : (G : Int) / (y : Int) = (d : Int) := by rw [← z1]; simp
      have y2 : (G : Int) % (y : Int) = (r' : Int) := by rw [← z2]; simp
      have y3 : (G : Int).tdiv (y : Int) = (d : Int) := by rw [Int.tdiv_eq_ediv_of_nonneg (by omega)]; exact y1
      have y4 : (G : Int).tmod (y : Int) = (r' : Int) := by rw [Int.tmod_eq_emod_of_nonneg (by omega)]; exact y2
      have v0 : r < 4294967296 := by omega
      have v1 : r' < 4294967296 := by omega
      clear z1 z2
      go_wp2
      go_roundw
      case rel =>
        refine ⟨k, by omega, by go_num, by rw [hr'.out], ?_, bel.setCell (Nat.le_refl _) _⟩
        have := hown'.out.set k (.int .u32 (d : Int))
        rw [u32s_set, hset.out] at this
        exact this
      case measure => simp [intOf]

end Go.Proofs.YtiddhnnofpbopaaDoor

/- Sums, differences, products and quotients of the project's fractions. Conditions: told by the code; at most 10^6 words in each part. -/
namespace Go.Proofs.YtiddhnnofpbopaaDoor
open Go.RowKit Go.Deep
set_option linter.unusedVariables false
set_option linter.unusedSimpArgs false

theorem mul_dlen {B : Nat} (hB : 2 ≤ B) {m n L M : Nat} (h1 : dlen B m ≤ L) (h2 : dlen B n ≤ M) : dlen B (m * n) ≤ L + M :=
  dlen_le hB (by rw [Nat.pow_add]; exact Nat.mul_lt_mul'' (lt_of_dlen hB h1) (lt_of_dlen hB h2))

end Go.Proofs.YtiddhnnofpbopaaDoor

/- A fraction of the project in lowest terms. Conditions: told by the code; at most 10^6 words in each part. -/
namespace Go.Proofs.YtiddhnnofpbopaaDoor
open Go.RowKit Go.Deep
set_option linter.unusedVariables false
set_option linter.unusedSimpArgs false

set_option maxRecDepth 100000 in
set_option maxHeartbeats 4000000 in
theorem ratioLowest (xa xb : Value) (N1 D1 : Nat) (w : World) (h0 : LongI w xa N1) (h1 : LongI w xb D1) (s0 : dlen W32 N1 ≤ 1000000) (s1 : dlen W32 D1 ≤ 1000000) (hD : 0 < D1) :
    Calls Tryd.prog 25 #[.agg #[xa, xb]] w fun e w' => ∃ p q, e = .returned (.agg #[p, q]) ∧ LongI w' p (N1 / Nat.gcd N1 D1) ∧ LongI w' q (D1 / Nat.gcd N1 D1) ∧ Below w.heap.size w w' := by
  obtain ⟨_, xa0, xa1, rfl⟩ := h0.len
  obtain ⟨_, xb0, xb1, rfl⟩ := h1.len
  have bel := below2 w (.cells #[.slice xa0 (dlen W32 N1) xa1, .slice xb0 (dlen W32 D1) xb1] 51) (.cells #[.slice none 0 0, .slice none 0 0] 51)
  have hB0 := (Blk.new w #[.slice xa0 (dlen W32 N1) xa1, .slice xb0 (dlen W32 D1) xb1] 51).alloc (.cells #[.slice none 0 0, .slice none 0 0] 51)
  have hZ := Blk.new (w.alloc (.cells #[.slice xa0 (dlen W32 N1) xa1, .slice xb0 (dlen W32 D1) xb1] 51)) #[.slice none 0 0, .slice none 0 0] 51
  simp only [World.size_alloc] at hZ
  have g0 := Lib.hid (fun W b => (h0.keep bel).keep (w' := W) b)
  have g1 := Lib.hid (fun W b => (h1.keep bel).keep (w' := W) b)
  have hgp := Lib.hid (Nat.gcd_pos_of_pos_right N1 hD)
  clear h0 h1
  go_enter Tryd.func25, Tryd.ntmps25
  go_wp2_with fail
  generalize hW : (w.alloc _).alloc _ = W at *
  clear hW
  have q0 : W.drew.cell? ⟨w.heap.size, 0, none⟩ = some (.slice xa0 (dlen W32 N1) xa1) := hB0.cell 0
  have q0 : W.cell? ⟨w.heap.size, 0, none⟩ = some (.slice xa0 (dlen W32 N1) xa1) := q0
  have q1 : W.drew.cell? ⟨w.heap.size, 1, none⟩ = some (.slice xb0 (dlen W32 D1) xb1) := hB0.cell 1
  have q1 : W.cell? ⟨w.heap.size, 1, none⟩ = some (.slice xb0 (dlen W32 D1) xb1) := q1
  clear hB0
  have hZ' := Lib.hid hZ
  clear hZ
  have ne1 : w.heap.size + 1 ≠ w.heap.size := by omega
  have ne2 : w.heap.size ≠ w.heap.size + 1 := by omega
  (with_reducible refine (divisor_any (.slice xa0 (dlen W32 N1) xa1) (.slice xb0 (dlen W32 D1) xb1) (N1) (D1) _ (g0.out _ (by (repeat (first | exact Below.refl _ _ | refine Below.drew ?_)))) (g1.out _ (by (repeat (first | exact Below.refl _ _ | refine Below.drew ?_)))) (by omega) (by omega)).mono ?_)
  rintro e u1 ⟨r1, rfl, pr1, b1⟩
  obtain ⟨_, ra1, rc1, rfl⟩ := pr1.len
  replace q0 : u1.cell? ⟨w.heap.size, 0, none⟩ = some (.slice xa0 (dlen W32 N1) xa1) := (b1.cell (p := ⟨w.heap.size, 0, none⟩) (block_lt q0)).trans q0
  replace q1 : u1.cell? ⟨w.heap.size, 1, none⟩ = some (.slice xb0 (dlen W32 D1) xb1) := (b1.cell (p := ⟨w.heap.size, 1, none⟩) (block_lt q1)).trans q1
  go_wp2_with fail
  have q0 : u1.drew.cell? ⟨w.heap.size, 0, none⟩ = some (.slice xa0 (dlen W32 N1) xa1) := q0
  have q1 : u1.drew.cell? ⟨w.heap.size, 1, none⟩ = some (.slice xb0 (dlen W32 D1) xb1) := q1
  go_region_held3 (fun w' => w'.cell? ⟨w.heap.size, 0, none⟩ = some (.slice xa0 (dlen W32 N1) xa1) ∧ w'.cell? ⟨w.heap.size, 1, none⟩ = some (.slice xb0 (dlen W32 D1) xb1))
    (go_keep)
    (first
      | (go_at_call 36; first
          | ((with_reducible refine (over_any (.slice xa0 (dlen W32 N1) xa1) (.slice ra1 (dlen W32 (Nat.gcd N1 D1)) rc1) (N1) (Nat.gcd N1 D1) _ (g0.out _ (by (repeat (first | exact Below.refl _ _ | refine Below.drew ?_ | refine below_wt ?_ b1)))) (by (repeat (first | exact pr1 | refine LongI.keep ?_ (Below.refl _ _).drew))) hgp.out (by omega)).mono ?_); rintro e u2 ⟨r2, rfl, pr2, b2⟩; obtain ⟨_, ra2, rc2, rfl⟩ := pr2.len; replace q0 : u2.cell? ⟨w.heap.size, 0, none⟩ = some (.slice xa0 (dlen W32 N1) xa1) := (b2.cell (p := ⟨w.heap.size, 0, none⟩) (block_lt q0)).trans q0; replace q1 : u2.cell? ⟨w.heap.size, 1, none⟩ = some (.slice xb0 (dlen W32 D1) xb1) := (b2.cell (p := ⟨w.heap.size, 1, none⟩) (block_lt q1)).trans q1)
          | ((with_reducible refine (over_any (.slice xb0 (dlen W32 D1) xb1) (.slice ra1 (dlen W32 (Nat.gcd N1 D1)) rc1) (D1) (Nat.gcd N1 D1) _ (g1.out _ (by (repeat (first | exact Below.refl _ _ | refine Below.drew ?_ | refine below_wt ?_ b2 | refine below_wt ?_ b1)))) (by (repeat (first | exact pr1 | refine LongI.keep ?_ b2 | refine LongI.keep ?_ (Below.refl _ _).drew))) hgp.out (by omega)).mono ?_); rintro e u3 ⟨r3, rfl, pr3, b3⟩; obtain ⟨_, ra3, rc3, rfl⟩ := pr3.len; replace q0 : u3.cell? ⟨w.heap.size, 0, none⟩ = some (.slice xa0 (dlen W32 N1) xa1) := (b3.cell (p := ⟨w.heap.size, 0, none⟩) (block_lt q0)).trans q0; replace q1 : u3.cell? ⟨w.heap.size, 1, none⟩ = some (.slice xb0 (dlen W32 D1) xb1) := (b3.cell (p := ⟨w.heap.size, 1, none⟩) (block_lt q1)).trans q1; have hZr := hZ'.out.keep (below_wt (below_wt (below_wt (Below.refl W.heap.size W) b1).drew b2) b3) hZ'.out.lt; have z0 := hZr.cell 0; have z1 := hZr.cell 1; have f0 := hZr.frozen 0; have f1 := hZr.frozen 1; simp only [List.getElem?_toArray, List.getElem?_cons_zero, List.getElem?_cons_succ] at z0 z1)))
  have hf1 := Lib.hid (((pr2.keep b3).setBox hZr 0 (.slice ra2 (dlen W32 (N1 / Nat.gcd N1 D1)) rc2)).setBox (hZr.set 0 (.slice ra2 (dlen W32 (N1 / Nat.gcd N1 D1)) rc2)) 1 (.slice ra3 (dlen W32 (D1 / Nat.gcd N1 D1)) rc3))
  have hf2 := Lib.hid ((pr3.setBox hZr 0 (.slice ra2 (dlen W32 (N1 / Nat.gcd N1 D1)) rc2)).setBox (hZr.set 0 (.slice ra2 (dlen W32 (N1 / Nat.gcd N1 D1)) rc2)) 1 (.slice ra3 (dlen W32 (D1 / Nat.gcd N1 D1)) rc3))
  have hfin := Lib.hid (((below_wt (below_wt (below_wt bel b1).drew b2) b3).setCell (p := ⟨w.heap.size + 1, 0, none⟩) (by simp only; omega) (.slice ra2 (dlen W32 (N1 / Nat.gcd N1 D1)) rc2)).setCell (p := ⟨w.heap.size + 1, 1, none⟩) (by simp only; omega) (.slice ra3 (dlen W32 (D1 / Nat.gcd N1 D1)) rc3))
  go_wp2
  refine bodyPost_ret (v := .agg #[.slice ra2 (dlen W32 (N1 / Nat.gcd N1 D1)) rc2, .slice ra3 (dlen W32 (D1 / Nat.gcd N1 D1)) rc3]) (by simp [results, Tryd.results25, go_sem, z0, z1]) rfl ?_
  exact ⟨_, _, rfl, hf1.out, hf2.out, hfin.out⟩
end Go.Proofs.YtiddhnnofpbopaaDoor

/- digits of the project: a long number in decimal. Conditions: strconv's table of powers lies as its text has it; at most 10^6 words. -/
namespace Go.Proofs.YtiddhnnofpbopaaDoor
open Go.RowKit Go.Deep
set_option linter.unusedVariables false

def strs (l : List ByteArray) : List Value := l.map Value.string
theorem strs_length (l : List ByteArray) : (strs l).length = l.length := by simp [strs]
theorem Tryd.infoStr : (Tryd.prog.info? 9).map (fun i => (i.zero, i.size, i.bytes)) = some (some (.string .empty), 1, 16) := by kernel_rfl
theorem str_shape {w : World} {B n : Nat} {e : TypeId} {v : Value} {vs : List Value} (h : w.ownsRow B e 1 v n vs) : ∃ a cap, v = .slice a n cap := by
  rcases h.2 with ⟨rfl, rfl⟩ | ⟨g, cap, cur, rfl, _⟩
  · exact ⟨none, 0, rfl⟩
  · exact ⟨_, cap, rfl⟩
theorem rep_zeros : ∀ c, Lib.repeatL [48] c = List.replicate c 48
  | 0 => rfl
  | c + 1 => by rw [Lib.repeatL, rep_zeros c]; rfl
theorem padB_rep (s : ByteArray) : (⟨(Lib.repeatL [48] (9 - s.size)).toArray⟩ : ByteArray) ++ s = padB s := by
  obtain ⟨⟨l⟩⟩ := s
  rw [rep_zeros, padB, ByteArray.mk_append_mk]
theorem flat_join : ∀ xs : List (List UInt8), Lib.join xs [] = xs.flatten
  | [] => rfl
  | [x] => by simp [Lib.join, List.intercalate]
  | x :: y :: r => by
    have := flat_join (y :: r)
    simp only [Lib.join, List.intercalate] at this ⊢
    simp [List.intersperse, this]
theorem own_keep {w w' : World} {lo n : Nat} {e : TypeId} {v : Value} {vs : List Value} (h : w.ownsRow lo e 1 v n vs) (hb : Below w.heap.size w w') : w'.ownsRow lo e 1 v n vs := by
  have h2 := (Own.of h (Nat.le_refl _)).keep (Nat.le_refl _) hb
  have hl : vs.length = n := by simpa using h.1
  subst hl
  exact h2.1
theorem digs_bound {n L : Nat} (h : dlen W32 n ≤ L) : dlen B9 n ≤ 2 * L := by
  apply dlen_le b9
  rw [Nat.pow_mul]
  exact Nat.lt_of_lt_of_le (lt_of_dlen w32 h) (Nat.pow_le_pow_left (by decide) _)
theorem digs_pos {n : Nat} (h : 0 < n) : 0 < dlen B9 n := by
  rcases Nat.eq_zero_or_pos (dlen B9 n) with h0 | h0
  · have := lt_dlen b9 n
    rw [h0, Nat.pow_zero] at this; omega
  · exact h0
theorem no_words {n : Nat} (h : dlen W32 n = 0) : n = 0 := by
  have := lt_dlen w32 n
  rw [h, Nat.pow_zero] at this; omega
theorem own_cap {w : World} {B n g cap : Nat} {e : TypeId} {vs : List Value} (h : w.ownsRow B e 1 (.slice (some ⟨g, 0, none⟩) n cap) n vs) : n ≤ cap := by
  rcases h.2 with ⟨e0, _⟩ | ⟨g', cap', cur, e0, hb, hg, hn, hm, hs, ht⟩
  · cases e0
  · cases e0; exact hn
theorem own_str {w : World} {B n g cap : Nat} {e : TypeId} {l : List ByteArray} (h : w.ownsRow B e 1 (.slice (some ⟨g, 0, none⟩) n cap) n (strs l)) (j : Nat) (x : ByteArray) (hx : l[j]? = some x) :
    w.cell? ⟨g, j, none⟩ = some (.string x) ∧ w.frozen? ⟨g, j, none⟩ = false := by
  have hj := (List.getElem?_eq_some_iff.1 hx).1
  have hl : n = l.length := by have := h.1; rw [strs_length] at this; omega
  refine ⟨?_, h.frozenAt j⟩
  rw [h.cellAt j (by omega)]
  simp [strs, hx]

theorem LongI.grown {w w' : World} {b l c m : Nat} {row : Option Nat} (h : LongI w (.slice (some ⟨b, 0, none⟩) l c) m) (hg : w.grownBy w' row) (hr : row ≠ some b) : LongI w' (.slice (some ⟨b, 0, none⟩) l c) m := by
  obtain ⟨hm, a, cap, hv, hk, hc⟩ := h
  refine ⟨hm, a, cap, hv, hk, fun i hi => ?_⟩
  obtain ⟨b', off, ha, hcell⟩ := hc i hi
  simp only [Value.slice.injEq] at hv
  obtain ⟨rfl, -, -⟩ := hv
  simp only [Option.some.injEq, Addr.mk.injEq, and_true] at ha
  obtain ⟨rfl, rfl⟩ := ha
  refine ⟨b, 0, rfl, ?_⟩
  rw [World.cell?_of_block (w := w) (hg.block b (block_lt hcell) (fun e => hr e.symm))]
  exact hcell

theorem rev_own (g cap L B : Nat) (l : List ByteArray) (w : World) (h : w.ownsRow B 9 1 (.slice (some ⟨g, 0, none⟩) L cap) L (strs l)) (hL : L ≤ 1000000000) :
    Calls Tryd.prog 40 #[.slice (some ⟨g, 0, none⟩) L cap] w fun e w' => e = .returned (.tuple #[]) ∧ w'.ownsRow B 9 1 (.slice (some ⟨g, 0, none⟩) L cap) L (strs l.reverse) ∧ ∀ w0, Below B w0 w → Below B w0 w' := by
  have hz : w.ownsRow B 9 1 (.slice (some ⟨g, 0, none⟩) L cap) L ((l.map (·.data.toList)).map encStr) := by rw [Lib.map_encStr]; exact h
  obtain ⟨g', cap', hv, hlo, hlt, _, _, hzl, hH⟩ := Lib.holds_of_ownsRow hz (by intro e; cases e)
  simp only [Value.slice.injEq, Option.some.injEq, Addr.mk.injEq, and_true, true_and] at hv
  obtain ⟨rfl, rfl⟩ := hv
  have hc := Tryd.slices_Reverse_string g 0 cap (l.map (·.data.toList)) w hH (by rw [hzl]; omega)
  rw [hzl] at hc
  refine hc.mono ?_
  rintro e w' ⟨rfl, q, rfl⟩
  refine ⟨rfl, ?_, fun w0 b => Lib.below_putRow b hlo⟩
  have := Lib.ownsRow_putRow (q := q) (ys := (l.map (·.data.toList)).reverse) hz (by rw [List.length_reverse]; exact hzl) (Nat.le_refl L)
  rw [List.take_of_length_le (by rw [List.length_reverse, hzl]; exact Nat.le_refl _), ← List.map_reverse, Lib.map_encStr] at this
  rw [← List.map_reverse] 
  exact this

/-- what the second half is about: the texts of the digits, the highest first -/
def DigL (w W : World) (gv : Value) (n k i : Nat) : Prop := ∃ g gc, gv = .slice (some ⟨g, 0, none⟩) (k + 1) gc ∧ w.heap.size ≤ g ∧ W.ownsRow w.heap.size 9 1 (.slice (some ⟨g, 0, none⟩) (k + 1) gc) (k + 1) (strs (mixT (grpT n (k + 1)) i)) ∧ Below w.heap.size w W

set_option maxRecDepth 100000 in
set_option maxHeartbeats 4000000 in
theorem digits_any (a : Value) (n : Nat) (w : World) (ha : LongI w a n) (sm : dlen W32 n ≤ 1000000) (htab : Tab10 w) :
    Calls Tryd.prog 26 #[a] w fun e w' => e = .returned (.string (numT n)) ∧ Below w.heap.size w w' := by
  obtain ⟨hm1, a1, cap1, rfl⟩ := ha.len
  unfold maxLen at hm1
  rcases Nat.eq_zero_or_pos n with rfl | hp
  · have hr := Lib.hid (show numT 0 = ⟨#[48]⟩ by rw [numT, numW_small (by decide), decW_small (by decide)]; rfl)
    rw [dlen_zero]
    clear ha hm1 sm htab
    generalize numT 0 = R at *
    go_enter Tryd.func26, Tryd.ntmps26
    go_wp2
    go_ret
    exact ⟨by rw [hr.out]; rfl, Below.refl _ _⟩
  · have hlp := dlen_pos hp
    obtain ⟨k, hk⟩ : ∃ k, dlen B9 n = k + 1 := ⟨dlen B9 n - 1, by have := digs_pos hp; omega⟩
    have hkb : k ≤ 2000000 := by have := digs_bound sm; omega
    have hdv := Lib.hid (fun (v : Value) (m : Nat) W (h : LongI W v m) (hs : dlen W32 m ≤ 1000000) => (show Calls Tryd.prog 38 #[v, .int .u32 1000000000] W fun e w' => ∃ l c : Nat, e = .returned (.tuple #[.slice (some ⟨W.heap.size, 0, none⟩) l c, .int .u32 (m % 1000000000 : Nat)]) ∧ LongI w' (.slice (some ⟨W.heap.size, 0, none⟩) l c) (m / 1000000000) ∧ Below W.heap.size W w' from divideByWord_new v m 1000000000 W h (by decide) (by decide) (by omega)))
    have hfm := Lib.hid (fun (u : Nat) W (h : u < 1000000000) (ht : Tab10 W) => FormatUint_any u W (by omega) ht)
    have hstep := Lib.hid (fun j => (show n / B9 ^ j / 1000000000 = n / B9 ^ (j + 1) by rw [Nat.div_div_eq_div_mul]; rfl))
    have hlen := Lib.hid (fun j => Nat.le_trans (dlen_mono w32 (Nat.div_le_self n (B9 ^ j))) sm)
    have hmore := Lib.hid (fun j (h : 0 < n / B9 ^ j) => (show j ≤ k by
      rcases Nat.lt_or_ge k j with h1 | h1
      · have := lt_of_dlen b9 (show dlen B9 n ≤ j by omega)
        rw [Nat.div_eq_of_lt this] at h; omega
      · exact h1))
    have hless := Lib.hid (fun j (h : n / B9 ^ j = 0) => (show k + 1 ≤ j by
      rw [← hk]
      apply dlen_le b9
      rcases Nat.lt_or_ge n (B9 ^ j) with h1 | h1
      · exact h1
      · have := Nat.div_pos h1 (pow_pos' b9 j); omega))
    have hrev := Lib.hid (grpT_rev n (k + 1))
    have hk' := Lib.hid hk
    have ha' := Lib.hid ha
    have htab' := Lib.hid htab
    have hx0 := Lib.hid (show n / B9 ^ 0 = n by simp)
    obtain ⟨l0, hl0⟩ : ∃ l, l = dlen W32 n := ⟨_, rfl⟩
    have hl0' := Lib.hid hl0
    rw [← hl0] at hlp sm hm1 ⊢
    rw [← hl0] at ha'
    obtain ⟨i0, hi, hz0, hz1, hz2⟩ := info_parts Tryd.infoStr
    have hi' := Lib.hid hi; have hz0' := Lib.hid hz0; have hz1' := Lib.hid hz1; have hz2' := Lib.hid hz2
    clear ha htab hk hl0 hi hz0 hz1 hz2
    have hp0 : ((l0 : Int) == 0) = false := by simp; omega
    go_enter Tryd.func26, Tryd.ntmps26
    go_wp2
    go_loopg [0, 3] (k + 1) (fun gk xv gv wr => ∃ (j xl xc gl gc : Nat) (xa ga : Option Addr), j + gk = k + 1 ∧ gl = j ∧ xv = .slice xa xl xc ∧ gv = .slice ga gl gc ∧ xl ≤ 1000000 ∧ Hid (xl = dlen W32 (n / B9 ^ j)) ∧ Hid (LongI wr (.slice xa xl xc) (n / B9 ^ j)) ∧
      Hid (wr.ownsRow w.heap.size 9 1 (.slice ga gl gc) gl (strs ((List.range j).map fun i => decS (dgt B9 n i)))) ∧ Hid (Below w.heap.size w wr))
    case atStart => exact ⟨0, l0, cap1, 0, 0, a1, none, by omega, rfl, rfl, rfl, sm, by rw [hx0.out]; exact hl0', by rw [hx0.out]; exact ha', Lib.hid ⟨rfl, Or.inl ⟨rfl, rfl⟩⟩, Lib.hid (Below.refl _ _)⟩
    case round =>
      obtain ⟨j, xl, xc, gl, gc, xa, ga, hjk, rfl, rfl, rfl, hxl, hxd, hx, hown, bel⟩ := hrel
      by_cases h0 : xl = 0
      · have hz := no_words (hxd.out.symm.trans h0)
        have hge := hless.out gl hz
        obtain rfl : gl = k + 1 := by omega
        subst h0
        clear hge hz
        obtain ⟨g, gc', hga⟩ := lg_shape hown.out (by omega)
        simp only [Value.slice.injEq] at hga
        obtain ⟨rfl, -, rfl⟩ := hga
        have hlo := (hown.out.lt g rfl).1
        have hrv := Lib.hid (rev_own g gc (k + 1) w.heap.size _ wr hown.out (by omega))
        rw [hrev.out] at hrv
        have hcap := Lib.hid (own_cap hown.out)
        have hone := Lib.hid (fun W => (show (sizeOf 9).run Tryd.prog W = .ok 1 W by kernel_rfl))
        have bel' := bel
        obtain ⟨ta, hta, hsl⟩ : ∃ ta : Option Addr, (0 < k → ta = some ⟨g, 1, none⟩) ∧ ∀ W, (Instr.sliceAt 76 (.slice (some ⟨g, 0, none⟩) (k + 1) gc) (some (.int .i64 1)) none none).run Tryd.prog W = .ok (.slice ta k (gc - 1)) W := by
          refine ⟨if gc = 1 then some ⟨g, 0, none⟩ else some ⟨g, 1, none⟩, fun h => if_neg (by have := hcap.out; omega), fun W => ?_⟩
          go_simp
          by_cases h1 : gc = 1 <;> simp [h1] <;> (intro hh; omega)
        have hta' := Lib.hid hta
        clear hta
        clear hown hx hxd hxl hdv hfm hstep hlen hmore hless hrev hx0 hl0' ha' hcap hone
        go_wp2_with (go_at_call 37; go_in)
        (with_reducible refine hrv.out.mono ?_)
        rintro e w1 ⟨rfl, hown, hbb⟩
        have B1 := Lib.hid (hbb w bel.out)
        have hO := Lib.hid hown
        clear hown hbb hrv bel bel'
        have hG : ∀ i, i < k → ∃ x, (grpT n (k + 1))[i + 1]? = some x ∧ x.size ≤ 9 := fun i hi => by
          have e := grpT_get n (k + 1) (i + 1) (by omega)
          refine ⟨_, e, ?_⟩
          have h9 := dec9 (dgt_lt b9 n (k + 1 - 1 - (i + 1)))
          simpa [decS, ByteArray.size] using h9
        have hG' := Lib.hid hG
        have hnx := Lib.hid (fun i x h => mixT_next (grpT n (k + 1)) i x h)
        have hgt := Lib.hid (fun i (h : i < k) => mixT_get (grpT n (k + 1)) i (by rw [grpT_length]; omega))
        have hml := Lib.hid (fun i (h : i ≤ k) => mixT_length (grpT n (k + 1)) i (by rw [grpT_length]; omega))
        have hjoin := Lib.hid (join_text hk'.out)
        have hnl := Lib.hid (show (numW n).length ≤ 100000000 by
          have := numT_le (n := n) (L := k + 1) (by rw [hk'.out]; exact Nat.le_refl _)
          rw [numT_size] at this; omega)
        have h0 := Lib.hid (mixT_zero (grpT n (k + 1)))
        rw [← h0.out] at hO
        have hgl := Lib.hid (grpT_length n (k + 1))
        clear hG h0
        generalize grpT n (k + 1) = G at *
        go_wp2_with fail
        go_loopw [30] (fun i wr => ∃ j : Nat, j ≤ k ∧ i = .int .i64 (j : Int) ∧ Hid (wr.ownsRow w.heap.size 9 1 (.slice (some ⟨g, 0, none⟩) (k + 1) gc) (k + 1) (strs (mixT G j))) ∧ Hid (Below w.heap.size w wr)) (fun i _ => k - (intOf i).toNat)
        case atStart => exact ⟨0, Nat.zero_le _, by go_num, hO, B1⟩
        case round =>
          obtain ⟨j, hj, rfl, hown, bel⟩ := hrel
          by_cases hjk : j < k
          · have hta := hta'.out (by omega)
            subst hta
            obtain ⟨x, hx, hx9⟩ := hG'.out j hjk
            have hnx' := Lib.hid (hnx.out j x hx)
            have q1 := (own_str hown.out (j + 1) x ((hgt.out j hjk).trans hx)).1
            rw [Nat.add_comm] at q1
            have hrep := Lib.hid (fun W => (show Calls Tryd.prog 41 #[.string ⟨#[48]⟩, .int .i64 (9 - (x.size : Int))] W fun e w' => e = .returned (.string ⟨(Lib.repeatL [48] (9 - x.size)).toArray⟩) ∧ Below W.heap.size W w' by
              have h := Tryd.strings_Repeat ⟨#[48]⟩ (9 - x.size) W (by omega) (by show 1 * (9 - x.size) ≤ _; omega)
              rw [show ((9 - x.size : Nat) : Int) = 9 - (x.size : Int) by omega] at h
              exact h))
            have hpad := Lib.hid (padB_rep x)
            have hzs : (⟨(Lib.repeatL [48] (9 - x.size)).toArray⟩ : ByteArray).size = 9 - x.size := by
              rw [rep_zeros]
              show ((List.replicate (9 - x.size) (48 : UInt8)).toArray).size = _
              rw [List.size_toArray, List.length_replicate]
            have hx' := Lib.hid ((hgt.out j hjk).trans hx)
            clear hx
            generalize (⟨(Lib.repeatL [48] (9 - x.size)).toArray⟩ : ByteArray) = Z at *
            have hbz : ¬ 9223372036854775807 < Z.size + x.size := by omega
            clear hzs
            go_wp2_with fail
            (with_reducible refine (hrep.out _).mono ?_)
            rintro e w2 ⟨rfl, b2⟩
            have O2 := Lib.hid (own_keep hown.out b2)
            have B2 := Lib.hid (below_wt bel.out b2)
            obtain ⟨q2, f2⟩ := own_str O2.out (j + 1) x hx'.out
            have s2 := B2.out.size
            clear q1 b2
            go_wp2
            go_roundw
            case rel =>
              refine ⟨j + 1, by omega, by go_num, Lib.hid ?_, Lib.hid (B2.out.setCell (p := ⟨g, j + 1, none⟩) (by simpa using hlo) _)⟩
              have h := ((Own.of O2.out (Nat.le_refl _)).set (j + 1) (.string (Z ++ x))).1
              rw [List.length_set, strs_length, hml.out j hj, hgl.out] at h
              rw [← hnx'.out, ← hpad.out]
              have e : strs ((mixT G j).set (j + 1) (Z ++ x)) = (strs (mixT G j)).set (j + 1) (.string (Z ++ x)) := by simp [strs, List.map_set]
              rw [e]
              exact h
            case measure => simp [intOf]; omega
          · obtain rfl : j = k := by omega
            have hgl' : (mixT G j).length = j + 1 := by rw [hml.out j (Nat.le_refl _), hgl.out]
            have hbg : g < wr.heap.size := (hown.out.lt g rfl).2
            have hcap := own_cap hown.out
            have hjn := Lib.hid (by
              have h := Tryd.strings_Join g 0 gc (mixT G j) ⟨#[]⟩ wr (fun i x h => by rw [Nat.zero_add]; exact (own_str hown.out i x h).1) hbg (by omega) (by omega) (by
                show (Lib.join ((mixT G j).map (·.data.toList)) []).length ≤ _
                rw [flat_join, hjoin.out]; have := hnl.out; omega)
              rw [hgl'] at h
              rw [show Lib.join ((mixT G j).map (·.data.toList)) (ByteArray.data ⟨#[]⟩).toList = numW n by show Lib.join _ [] = _; rw [flat_join, hjoin.out]] at h
              exact h)
            clear hgl' hbg hcap
            go_wp2_with fail
            (with_reducible refine hjn.out.mono ?_)
            rintro e w2 ⟨rfl, b2⟩
            have B2 := Lib.hid (below_wt bel.out b2)
            clear b2
            go_wp2
            go_ret
            exact ⟨rfl, B2.out⟩
      · have hpp : 0 < n / B9 ^ gl := by
          rcases Nat.eq_zero_or_pos (n / B9 ^ gl) with h | h
          · exfalso; apply h0; rw [hxd.out, h, dlen_zero]
          · exact h
        have hjl := hmore.out gl hpp
        have hz : ((xl : Int) == 0) = false := by simp; omega
        have hd1 := Lib.hid (hdv.out _ _ wr hx.out (by rw [← hxd.out]; exact hxl))
        have hdl := dgt_lt b9 n gl
        have hdd := Lib.hid (show n / B9 ^ gl % 1000000000 = dgt B9 n gl from rfl)
        rw [hdd.out, hstep.out gl] at hd1
        have hlr := hlen.out (gl + 1)
        have hrow := Lib.hid (show (List.range (gl + 1)).map (fun i => decS (dgt B9 n i)) = (List.range gl).map (fun i => decS (dgt B9 n i)) ++ [decS (dgt B9 n gl)] by rw [List.range_succ, List.map_append]; rfl)
        simp only [show B9 = 1000000000 from rfl] at hdl
        generalize dgt B9 n gl = d at hd1 hdl hrow hdd
        have hf1 := Lib.hid (fun W (h : Tab10 W) => hfm.out d W hdl h)
        have hwd : IntKind.u64.wrap (d : Int) = (d : Int) := by rw [IntKind.wrap_u64]; omega
        clear hpp h0
        go_wp2_with (go_at_call 37; go_in)
        (with_reducible refine hd1.out.mono ?_)
        rintro e w1 ⟨lq, qc, rfl, hq, b1⟩
        have hlq : lq = dlen W32 (n / B9 ^ (gl + 1)) := by
          obtain ⟨_, qa, qc', e⟩ := hq.len
          simp only [Value.slice.injEq] at e
          exact e.2.1
        have B1 := Lib.hid (below_wt bel.out b1)
        have O1 := Lib.hid (own_keep hown.out b1)
        have hq' := Lib.hid hq
        rw [← hlq] at hlr
        have hlq' := Lib.hid hlq
        clear hq b1 hlq
        go_wp2_with fail
        (with_reducible refine (hf1.out _ (htab'.out.keep B1.out)).mono ?_)
        rintro e w2 ⟨rfl, b2⟩
        have B2 := Lib.hid (below_wt B1.out b2)
        have O2 := Lib.hid (own_keep O1.out b2)
        have hq2 := Lib.hid (hq'.out.keep b2)
        have s2 := B2.out.size
        clear b2
        go_wp2_with (at_builtin; (refine wpList_append_own _ rfl _ _ 76 rfl w.heap.size 9 i0 (.string .empty) 1 16 Tryd.underlying76 hi'.out hz0'.out hz1'.out hz2'.out rfl (by decide) _ _ _ rfl (O2.out.alloc _) ⟨w2.heap.size, 0, none⟩ 1 1 [.string (decS d)] rfl rfl (one_new _ _ _) (by simp [Value.oneCell']) (by unfold maxLen; omega) (by omega) (by simp; omega) ?_); intro v' w5 hown5 hgr5 _; obtain ⟨g2, c2, rfl⟩ := lg_shape hown5 (by omega))
        go_wp2
        go_roundg (gk - 1)
        case measure => omega
        case rel =>
          refine ⟨gl + 1, lq, qc, gl + 1, c2, _, _, by omega, rfl, rfl, rfl, hlr, hlq', Lib.hid ((hq2.out.keep (below1 _ _)).grown hgr5 (fun e => by have := (hown.out.lt _ e).2; omega)), ?_, Lib.hid ((B2.out.alloc s2 _).grown hgr5 (by simp; omega) (fun k' hk' => (hown.out.lt k' hk').1))⟩
          rw [hrow.out]
          refine Lib.hid ?_
          rw [strs, List.map_append]
          exact hown5
end Go.Proofs.YtiddhnnofpbopaaDoor

/- fraction of the project: a fraction's two texts, in lowest terms. Conditions: at most 10^6 words; strconv's table of powers lies as its text has it. -/
namespace Go.Proofs.YtiddhnnofpbopaaDoor
open Go.RowKit Go.Deep
set_option linter.unusedVariables false
set_option linter.unusedSimpArgs false

set_option maxRecDepth 100000 in
set_option maxHeartbeats 4000000 in
theorem fraction_any (a b : Value) (N0 D0 : Nat) (w : World) (ha : LongI w a N0) (hb : LongI w b D0) (hD : 0 < D0) (sa : dlen W32 N0 ≤ 1000000) (sb : dlen W32 D0 ≤ 1000000) (htab : Tab10 w) :
    Calls Tryd.prog 19 #[.agg #[a, b]] w fun e w' => e = .returned (.tuple #[.agg #[.string (toldN (N0 / Nat.gcd N0 D0) (D0 / Nat.gcd N0 D0)), .string (toldD (N0 / Nat.gcd N0 D0) (D0 / Nat.gcd N0 D0))], .int .i64 (toldC (N0 / Nat.gcd N0 D0) (D0 / Nat.gcd N0 D0))]) ∧ Below w.heap.size w w' := by
  have B0 := below2 w (.cells #[a, b] 51) (.cells #[.string ⟨#[]⟩, .string ⟨#[]⟩] 35)
  have hB0 := (Blk.new w #[a, b] 51).alloc (.cells #[.string ⟨#[]⟩, .string ⟨#[]⟩] 35)
  have hR0 := Blk.new (w.alloc (.cells #[a, b] 51)) #[.string ⟨#[]⟩, .string ⟨#[]⟩] 35
  simp only [World.size_alloc] at hR0
  have hlo := Lib.hid (ratioLowest a b N0 D0 _ (ha.keep B0) (hb.keep B0) sa sb hD)
  have sN := Nat.le_trans (dlen_mono w32 (Nat.div_le_self N0 (Nat.gcd N0 D0))) sa
  have sD := Nat.le_trans (dlen_mono w32 (Nat.div_le_self D0 (Nat.gcd N0 D0))) sb
  obtain ⟨_, xa0, xa1, rfl⟩ := ha.len
  obtain ⟨_, xb0, xb1, rfl⟩ := hb.len
  have htab' := Lib.hid htab
  obtain ⟨la, hla⟩ : ∃ l, l = dlen W32 N0 := ⟨_, rfl⟩
  obtain ⟨lb, hlb⟩ : ∃ l, l = dlen W32 D0 := ⟨_, rfl⟩
  rw [← hla] at hlo B0 hB0 hR0
  rw [← hlb] at hlo B0 hB0 hR0
  rw [← hla, ← hlb]
  clear ha hb sa sb htab hla hlb
  generalize N0 / Nat.gcd N0 D0 = N at *
  generalize D0 / Nat.gcd N0 D0 = D at *
  go_enter Tryd.func19, Tryd.ntmps19
  go_upto_region 2 with (go_at_call 25; (with_reducible refine hlo.out.mono ?_); rintro e u0 ⟨p, q, rfl, hp, hq, b0⟩; obtain ⟨_, xp0, xp1, rfl⟩ := hp.len; obtain ⟨_, xq0, xq1, rfl⟩ := hq.len; have hX := hB0.keep b0 hB0.lt; have x0 := hX.cell 0; have x1 := hX.cell 1; have y0 := hX.frozen 0; have y1 := hX.frozen 1; simp only [List.getElem?_toArray, List.getElem?_cons_zero, List.getElem?_cons_succ] at x0 x1)
  have hX1 := hX.set 0 (.slice xp0 (dlen W32 N) xp1)
  have hX2 := hX1.set 1 (.slice xq0 (dlen W32 D) xq1)
  have hp2 := (hp.setBox hX 0 (.slice xp0 (dlen W32 N) xp1)).setBox hX1 1 (.slice xq0 (dlen W32 D) xq1)
  have hq2 := (hq.setBox hX 0 (.slice xp0 (dlen W32 N) xp1)).setBox hX1 1 (.slice xq0 (dlen W32 D) xq1)
  have bel := ((below_wt B0 b0).setCell (p := ⟨w.heap.size, 0, none⟩) (Nat.le_refl _) (.slice xp0 (dlen W32 N) xp1)).setCell (p := ⟨w.heap.size, 1, none⟩) (Nat.le_refl _) (.slice xq0 (dlen W32 D) xq1)
  have hR := ((hR0.keep b0 hR0.lt).setOther (a := ⟨w.heap.size, 0, none⟩) (by simp only; omega) (.slice xp0 (dlen W32 N) xp1)).setOther (a := ⟨w.heap.size, 1, none⟩) (by simp only; omega) (.slice xq0 (dlen W32 D) xq1)
  replace hX2 : Blk ((u0.setCell ⟨w.heap.size, 0, none⟩ (.slice xp0 (dlen W32 N) xp1)).setCell ⟨w.heap.size, 1, none⟩ (.slice xq0 (dlen W32 D) xq1)) w.heap.size #[.slice xp0 (dlen W32 N) xp1, .slice xq0 (dlen W32 D) xq1] 51 := by simpa using hX2
  clear hX hX1 x0 x1 y0 y1 hB0 hR0 hlo hp hq B0 b0
  generalize hW : (u0.setCell _ _).setCell _ _ = W at *
  clear hW
  have t0 := Lib.hid (fun W' (b : Below W.heap.size W W') => digits_any _ N W' (hp2.keep b) sN ((htab'.out.keep bel).keep b))
  have t1 := Lib.hid (fun W' (b : Below W.heap.size W W') => digits_any _ D W' (hq2.keep b) sD ((htab'.out.keep bel).keep b))
  clear hp2 hq2
  go_cut [4] (fun s4 wx => TwoT w wx (numT N) (numT D) s4)
  case first =>
    have c0 : W.drew.cell? ⟨w.heap.size, 0, none⟩ = some (.slice xp0 (dlen W32 N) xp1) := hX2.cell 0
    have c1 : W.drew.cell? ⟨w.heap.size, 1, none⟩ = some (.slice xq0 (dlen W32 D) xq1) := hX2.cell 1
    have cW0 : W.cell? ⟨w.heap.size, 0, none⟩ = some (.slice xp0 (dlen W32 N) xp1) := c0
    have cW1 : W.cell? ⟨w.heap.size, 1, none⟩ = some (.slice xq0 (dlen W32 D) xq1) := c1
    have neW : w.heap.size ≠ W.heap.size := Nat.ne_of_lt (block_lt c0)
    have neW' : W.heap.size ≠ w.heap.size := Ne.symm neW
    go_region_held3 (fun w' => w'.cell? ⟨w.heap.size, 0, none⟩ = some (.slice xp0 (dlen W32 N) xp1) ∧ w'.cell? ⟨w.heap.size, 1, none⟩ = some (.slice xq0 (dlen W32 D) xq1))
      (first | go_keep | exact ⟨((below1 W _).cell (block_lt cW0)).trans cW0, ((below1 W _).cell (block_lt cW1)).trans cW1⟩ | exact ⟨((below1 _ _).cell (block_lt c0)).trans c0, ((below1 _ _).cell (block_lt c1)).trans c1⟩)
      (first
        | (go_at_call 26; first
            | ((with_reducible refine (t0.out _ (by (repeat (first | exact Below.refl _ _ | refine Below.drew ?_ | refine below_wt ?_ (below1 _ _))))).mono ?_); rintro e u1 ⟨rfl, b1⟩; (first | (have Z4 := (Blk.new _ #[.string ⟨#[]⟩, .string ⟨#[]⟩] 35).keep b1 (by simp)) | (have Z4 := (Blk.drewN1 (Blk.new W #[.string ⟨#[]⟩, .string ⟨#[]⟩] 35)).keep b1 (by simp)) | skip); replace c0 : u1.cell? ⟨w.heap.size, 0, none⟩ = some (.slice xp0 (dlen W32 N) xp1) := (by first | exact (b1.cell (p := ⟨w.heap.size, 0, none⟩) (block_lt c0)).trans c0 | exact (b1.cell (p := ⟨w.heap.size, 0, none⟩) (block_lt (((below1 _ _).cell (block_lt c0)).trans c0))).trans (((below1 _ _).cell (block_lt c0)).trans c0)); replace c1 : u1.cell? ⟨w.heap.size, 1, none⟩ = some (.slice xq0 (dlen W32 D) xq1) := (by first | exact (b1.cell (p := ⟨w.heap.size, 1, none⟩) (block_lt c1)).trans c1 | exact (b1.cell (p := ⟨w.heap.size, 1, none⟩) (block_lt (((below1 _ _).cell (block_lt c1)).trans c1))).trans (((below1 _ _).cell (block_lt c1)).trans c1)); have ne1 : w.heap.size ≠ u1.heap.size := Nat.ne_of_lt (block_lt c0); have ne1' : u1.heap.size ≠ w.heap.size := Ne.symm ne1)
            | ((with_reducible refine (t1.out _ (by (repeat (first | exact Below.refl _ _ | refine Below.drew ?_ | refine below_wt ?_ b1 | refine below_wt ?_ (below1 _ _))))).mono ?_); rintro e u2 ⟨rfl, b2⟩; (first | (replace Z4 := Z4.keep b2 Z4.lt) | (first | (have Z4 := (Blk.new _ #[.string ⟨#[]⟩, .string ⟨#[]⟩] 35).keep b2 (by simp)) | (have Z4 := (Blk.drewN1 (Blk.new W #[.string ⟨#[]⟩, .string ⟨#[]⟩] 35)).keep b2 (by simp)) | skip)); (try (have zq0 := Z4.cell 0; have zq1 := Z4.cell 1; have fq0 := Z4.frozen 0; have fq1 := Z4.frozen 1; simp only [List.getElem?_toArray, List.getElem?_cons_zero, List.getElem?_cons_succ] at zq0 zq1)); replace c0 : u2.cell? ⟨w.heap.size, 0, none⟩ = some (.slice xp0 (dlen W32 N) xp1) := (by first | exact (b2.cell (p := ⟨w.heap.size, 0, none⟩) (block_lt c0)).trans c0 | exact (b2.cell (p := ⟨w.heap.size, 0, none⟩) (block_lt (((below1 _ _).cell (block_lt c0)).trans c0))).trans (((below1 _ _).cell (block_lt c0)).trans c0)); replace c1 : u2.cell? ⟨w.heap.size, 1, none⟩ = some (.slice xq0 (dlen W32 D) xq1) := (by first | exact (b2.cell (p := ⟨w.heap.size, 1, none⟩) (block_lt c1)).trans c1 | exact (b2.cell (p := ⟨w.heap.size, 1, none⟩) (block_lt (((below1 _ _).cell (block_lt c1)).trans c1))).trans (((below1 _ _).cell (block_lt c1)).trans c1)); have ne2 : w.heap.size ≠ u2.heap.size := Nat.ne_of_lt (block_lt c0); have ne2' : u2.heap.size ≠ w.heap.size := Ne.symm ne2)))
    all_goals (go_wp2_with fail; go_meet)
    · exact TwoT.new (W := W) hR bel (below_wt ((Below.refl _ W).drew.trans b1) b2)
    · exact TwoT.fill (W := W) hR bel (below_wt (below_wt ((Below.refl _ W).drew.trans b1) (below1 u1 _)) b2) Z4 b1.size
    · exact TwoT.fill (W := W) hR bel (below_wt (below_wt ((below1 W _).drew) b1) b2) Z4 (Nat.le_refl _)
  case rest =>
    obtain ⟨B, rfl, hB, hR, bel5, hne⟩ := hcut
    have q0 := hB.cell 0
    have q1 := hB.cell 1
    have z0 := hR.cell 0
    have z1 := hR.cell 1
    have f0 := hR.frozen 0
    have f1 := hR.frozen 1
    simp only [List.getElem?_toArray, List.getElem?_cons_zero, List.getElem?_cons_succ] at q0 q1 z0 z1
    have B5 := Lib.hid bel5
    have hne' : w.heap.size + 1 ≠ B := Ne.symm hne
    clear hB hR bel5
    by_cases h1 : (numT N).size ≤ 300
    · by_cases h2 : (numT D).size ≤ 300
      · have ht := Lib.hid (told_yes h1 h2)
        have hx := Lib.hid (fun x y => ((B5.out.setCell (p := ⟨w.heap.size + 1, 0, none⟩) (by simp only; omega) x).setCell (p := ⟨w.heap.size + 1, 1, none⟩) (by simp only; omega) y))
        generalize numT N = TN at *
        generalize numT D = TD at *
        have n1 : ¬ (300 : Int) < (TN.size : Int) := by omega
        have n2 : ¬ (300 : Int) < (TD.size : Int) := by omega
        go_wp2
        all_goals (refine bodyPost_ret (v := .tuple #[.agg #[.string TN, .string TD], .int .i64 0]) (by simp [results, Tryd.results19, go_sem, z0, z1]) rfl ?_)
        all_goals exact ⟨by rw [ht.out.1, ht.out.2.1, ht.out.2.2], hx.out _ _⟩
      · have ht := Lib.hid (told_no (n := N) (d := D) (by omega))
        have hx := Lib.hid (fun x y => ((B5.out.setCell (p := ⟨w.heap.size + 1, 0, none⟩) (by simp only; omega) x).setCell (p := ⟨w.heap.size + 1, 1, none⟩) (by simp only; omega) y))
        generalize numT N = TN at *
        generalize numT D = TD at *
        have n1 : ¬ (300 : Int) < (TN.size : Int) := by omega
        have n2 : (300 : Int) < (TD.size : Int) := by omega
        go_wp2
        all_goals (refine bodyPost_ret (v := .tuple #[.agg #[.string ⟨#[]⟩, .string ⟨#[]⟩], .int .i64 3]) (by simp [results, Tryd.results19, go_sem, z0, z1]) rfl ?_)
        all_goals exact ⟨by rw [ht.out.1, ht.out.2.1, ht.out.2.2], hx.out _ _⟩
    · have ht := Lib.hid (told_no (n := N) (d := D) (by omega))
      have hx := Lib.hid (fun x y => ((B5.out.setCell (p := ⟨w.heap.size + 1, 0, none⟩) (by simp only; omega) x).setCell (p := ⟨w.heap.size + 1, 1, none⟩) (by simp only; omega) y))
      generalize numT N = TN at *
      generalize numT D = TD at *
      have n1 : (300 : Int) < (TN.size : Int) := by omega
      go_wp2
      all_goals (refine bodyPost_ret (v := .tuple #[.agg #[.string ⟨#[]⟩, .string ⟨#[]⟩], .int .i64 3]) (by simp [results, Tryd.results19, go_sem, z0, z1]) rfl ?_)
      all_goals exact ⟨by rw [ht.out.1, ht.out.2.1, ht.out.2.2], hx.out _ _⟩
end Go.Proofs.YtiddhnnofpbopaaDoor
