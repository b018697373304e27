/- fraction of the project: a fraction's two texts, in lowest terms. Conditions: at most 10^6 words; strconv's table of powers lies as its text has it. -/
import Derived.Test.YtefodgebecacgaaDoorTold
import Derived.Test.YtefodgebecacgaaDoorRat2
namespace Go.Proofs.YtefodgebecacgaaDoor
open Go.RowKit Go.Deep
set_option linter.unusedVariables false
set_option linter.unusedSimpArgs false

set_option maxRecDepth 100000 in
set_option maxHeartbeats 4000000 in
theorem fraction_any (a b : Value) (N0 D0 : Nat) (w : World) (ha : LongI w a N0) (hb : LongI w b D0) (hD : 0 < D0) (sa : dlen W32 N0 ≤ 1000000) (sb : dlen W32 D0 ≤ 1000000) (htab : Tab10 w) :
    Calls Tryd.prog 30 #[.agg #[a, b]] w fun e w' => e = .returned (.tuple #[.agg #[.string (toldN (N0 / Nat.gcd N0 D0) (D0 / Nat.gcd N0 D0)), .string (toldD (N0 / Nat.gcd N0 D0) (D0 / Nat.gcd N0 D0))], .int .i64 (toldC (N0 / Nat.gcd N0 D0) (D0 / Nat.gcd N0 D0))]) ∧ Below w.heap.size w w' := by
  have B0 := below2 w (.cells #[a, b] 49) (.cells #[.string ⟨#[]⟩, .string ⟨#[]⟩] 23)
  have hB0 := (Blk.new w #[a, b] 49).alloc (.cells #[.string ⟨#[]⟩, .string ⟨#[]⟩] 23)
  have hR0 := Blk.new (w.alloc (.cells #[a, b] 49)) #[.string ⟨#[]⟩, .string ⟨#[]⟩] 23
  simp only [World.size_alloc] at hR0
  have hlo := Lib.hid (ratioLowest a b N0 D0 _ (ha.keep B0) (hb.keep B0) sa sb hD)
  have sN := Nat.le_trans (dlen_mono w32 (Nat.div_le_self N0 (Nat.gcd N0 D0))) sa
  have sD := Nat.le_trans (dlen_mono w32 (Nat.div_le_self D0 (Nat.gcd N0 D0))) sb
  obtain ⟨_, xa0, xa1, rfl⟩ := ha.len
  obtain ⟨_, xb0, xb1, rfl⟩ := hb.len
  have htab' := Lib.hid htab
  obtain ⟨la, hla⟩ : ∃ l, l = dlen W32 N0 := ⟨_, rfl⟩
  obtain ⟨lb, hlb⟩ : ∃ l, l = dlen W32 D0 := ⟨_, rfl⟩
  rw [← hla] at hlo B0 hB0 hR0
  rw [← hlb] at hlo B0 hB0 hR0
  rw [← hla, ← hlb]
  clear ha hb sa sb htab hla hlb
  generalize N0 / Nat.gcd N0 D0 = N at *
  generalize D0 / Nat.gcd N0 D0 = D at *
  go_enter Tryd.func30, Tryd.ntmps30
  go_upto_region 2 with (go_at_call 53; (with_reducible refine hlo.out.mono ?_); rintro e u0 ⟨p, q, rfl, hp, hq, b0⟩; obtain ⟨_, xp0, xp1, rfl⟩ := hp.len; obtain ⟨_, xq0, xq1, rfl⟩ := hq.len; have hX := hB0.keep b0 hB0.lt; have x0 := hX.cell 0; have x1 := hX.cell 1; have y0 := hX.frozen 0; have y1 := hX.frozen 1; simp only [List.getElem?_toArray, List.getElem?_cons_zero, List.getElem?_cons_succ] at x0 x1)
  have hX1 := hX.set 0 (.slice xp0 (dlen W32 N) xp1)
  have hX2 := hX1.set 1 (.slice xq0 (dlen W32 D) xq1)
  have hp2 := (hp.setBox hX 0 (.slice xp0 (dlen W32 N) xp1)).setBox hX1 1 (.slice xq0 (dlen W32 D) xq1)
  have hq2 := (hq.setBox hX 0 (.slice xp0 (dlen W32 N) xp1)).setBox hX1 1 (.slice xq0 (dlen W32 D) xq1)
  have bel := ((below_wt B0 b0).setCell (p := ⟨w.heap.size, 0, none⟩) (Nat.le_refl _) (.slice xp0 (dlen W32 N) xp1)).setCell (p := ⟨w.heap.size, 1, none⟩) (Nat.le_refl _) (.slice xq0 (dlen W32 D) xq1)
  have hR := ((hR0.keep b0 hR0.lt).setOther (a := ⟨w.heap.size, 0, none⟩) (by simp only; omega) (.slice xp0 (dlen W32 N) xp1)).setOther (a := ⟨w.heap.size, 1, none⟩) (by simp only; omega) (.slice xq0 (dlen W32 D) xq1)
  replace hX2 : Blk ((u0.setCell ⟨w.heap.size, 0, none⟩ (.slice xp0 (dlen W32 N) xp1)).setCell ⟨w.heap.size, 1, none⟩ (.slice xq0 (dlen W32 D) xq1)) w.heap.size #[.slice xp0 (dlen W32 N) xp1, .slice xq0 (dlen W32 D) xq1] 49 := by simpa using hX2
  clear hX hX1 x0 x1 y0 y1 hB0 hR0 hlo hp hq B0 b0
  generalize hW : (u0.setCell _ _).setCell _ _ = W at *
  clear hW
  have t0 := Lib.hid (fun W' (b : Below W.heap.size W W') => digits_any _ N W' (hp2.keep b) sN ((htab'.out.keep bel).keep b))
  have t1 := Lib.hid (fun W' (b : Below W.heap.size W W') => digits_any _ D W' (hq2.keep b) sD ((htab'.out.keep bel).keep b))
  clear hp2 hq2
  go_cut [4] (fun s4 wx => TwoT w wx (numT N) (numT D) s4)
  case first =>
    have c0 : W.drew.cell? ⟨w.heap.size, 0, none⟩ = some (.slice xp0 (dlen W32 N) xp1) := hX2.cell 0
    have c1 : W.drew.cell? ⟨w.heap.size, 1, none⟩ = some (.slice xq0 (dlen W32 D) xq1) := hX2.cell 1
    have cW0 : W.cell? ⟨w.heap.size, 0, none⟩ = some (.slice xp0 (dlen W32 N) xp1) := c0
    have cW1 : W.cell? ⟨w.heap.size, 1, none⟩ = some (.slice xq0 (dlen W32 D) xq1) := c1
    have neW : w.heap.size ≠ W.heap.size := Nat.ne_of_lt (block_lt c0)
    have neW' : W.heap.size ≠ w.heap.size := Ne.symm neW
    go_region_held3 (fun w' => w'.cell? ⟨w.heap.size, 0, none⟩ = some (.slice xp0 (dlen W32 N) xp1) ∧ w'.cell? ⟨w.heap.size, 1, none⟩ = some (.slice xq0 (dlen W32 D) xq1))
      (first | go_keep | exact ⟨((below1 W _).cell (block_lt cW0)).trans cW0, ((below1 W _).cell (block_lt cW1)).trans cW1⟩ | exact ⟨((below1 _ _).cell (block_lt c0)).trans c0, ((below1 _ _).cell (block_lt c1)).trans c1⟩)
      (first
        | (go_at_call 54; first
            | ((with_reducible refine (t0.out _ (by (repeat (first | exact Below.refl _ _ | refine Below.drew ?_ | refine below_wt ?_ (below1 _ _))))).mono ?_); rintro e u1 ⟨rfl, b1⟩; (first | (have Z4 := (Blk.new _ #[.string ⟨#[]⟩, .string ⟨#[]⟩] 23).keep b1 (by simp)) | (have Z4 := (Blk.drewN1 (Blk.new W #[.string ⟨#[]⟩, .string ⟨#[]⟩] 23)).keep b1 (by simp)) | skip); replace c0 : u1.cell? ⟨w.heap.size, 0, none⟩ = some (.slice xp0 (dlen W32 N) xp1) := (by first | exact (b1.cell (p := ⟨w.heap.size, 0, none⟩) (block_lt c0)).trans c0 | exact (b1.cell (p := ⟨w.heap.size, 0, none⟩) (block_lt (((below1 _ _).cell (block_lt c0)).trans c0))).trans (((below1 _ _).cell (block_lt c0)).trans c0)); replace c1 : u1.cell? ⟨w.heap.size, 1, none⟩ = some (.slice xq0 (dlen W32 D) xq1) := (by first | exact (b1.cell (p := ⟨w.heap.size, 1, none⟩) (block_lt c1)).trans c1 | exact (b1.cell (p := ⟨w.heap.size, 1, none⟩) (block_lt (((below1 _ _).cell (block_lt c1)).trans c1))).trans (((below1 _ _).cell (block_lt c1)).trans c1)); have ne1 : w.heap.size ≠ u1.heap.size := Nat.ne_of_lt (block_lt c0); have ne1' : u1.heap.size ≠ w.heap.size := Ne.symm ne1)
            | ((with_reducible refine (t1.out _ (by (repeat (first | exact Below.refl _ _ | refine Below.drew ?_ | refine below_wt ?_ b1 | refine below_wt ?_ (below1 _ _))))).mono ?_); rintro e u2 ⟨rfl, b2⟩; (first | (replace Z4 := Z4.keep b2 Z4.lt) | (first | (have Z4 := (Blk.new _ #[.string ⟨#[]⟩, .string ⟨#[]⟩] 23).keep b2 (by simp)) | (have Z4 := (Blk.drewN1 (Blk.new W #[.string ⟨#[]⟩, .string ⟨#[]⟩] 23)).keep b2 (by simp)) | skip)); (try (have zq0 := Z4.cell 0; have zq1 := Z4.cell 1; have fq0 := Z4.frozen 0; have fq1 := Z4.frozen 1; simp only [List.getElem?_toArray, List.getElem?_cons_zero, List.getElem?_cons_succ] at zq0 zq1)); replace c0 : u2.cell? ⟨w.heap.size, 0, none⟩ = some (.slice xp0 (dlen W32 N) xp1) := (by first | exact (b2.cell (p := ⟨w.heap.size, 0, none⟩) (block_lt c0)).trans c0 | exact (b2.cell (p := ⟨w.heap.size, 0, none⟩) (block_lt (((below1 _ _).cell (block_lt c0)).trans c0))).trans (((below1 _ _).cell (block_lt c0)).trans c0)); replace c1 : u2.cell? ⟨w.heap.size, 1, none⟩ = some (.slice xq0 (dlen W32 D) xq1) := (by first | exact (b2.cell (p := ⟨w.heap.size, 1, none⟩) (block_lt c1)).trans c1 | exact (b2.cell (p := ⟨w.heap.size, 1, none⟩) (block_lt (((below1 _ _).cell (block_lt c1)).trans c1))).trans (((below1 _ _).cell (block_lt c1)).trans c1)); have ne2 : w.heap.size ≠ u2.heap.size := Nat.ne_of_lt (block_lt c0); have ne2' : u2.heap.size ≠ w.heap.size := Ne.symm ne2)))
    all_goals (go_wp2_with fail; go_meet)
    · exact TwoT.new (W := W) hR bel (below_wt ((Below.refl _ W).drew.trans b1) b2)
    · exact TwoT.fill (W := W) hR bel (below_wt (below_wt ((Below.refl _ W).drew.trans b1) (below1 u1 _)) b2) Z4 b1.size
    · exact TwoT.fill (W := W) hR bel (below_wt (below_wt ((below1 W _).drew) b1) b2) Z4 (Nat.le_refl _)
  case rest =>
    obtain ⟨B, rfl, hB, hR, bel5, hne⟩ := hcut
    have q0 := hB.cell 0
    have q1 := hB.cell 1
    have z0 := hR.cell 0
    have z1 := hR.cell 1
    have f0 := hR.frozen 0
    have f1 := hR.frozen 1
    simp only [List.getElem?_toArray, List.getElem?_cons_zero, List.getElem?_cons_succ] at q0 q1 z0 z1
    have B5 := Lib.hid bel5
    have hne' : w.heap.size + 1 ≠ B := Ne.symm hne
    clear hB hR bel5
    by_cases h1 : (numT N).size ≤ 300
    · by_cases h2 : (numT D).size ≤ 300
      · have ht := Lib.hid (told_yes h1 h2)
        have hx := Lib.hid (fun x y => ((B5.out.setCell (p := ⟨w.heap.size + 1, 0, none⟩) (by simp only; omega) x).setCell (p := ⟨w.heap.size + 1, 1, none⟩) (by simp only; omega) y))
        generalize numT N = TN at *
        generalize numT D = TD at *
        have n1 : ¬ (300 : Int) < (TN.size : Int) := by omega
        have n2 : ¬ (300 : Int) < (TD.size : Int) := by omega
        go_wp2
        all_goals (refine bodyPost_ret (v := .tuple #[.agg #[.string TN, .string TD], .int .i64 0]) (by simp [results, Tryd.results30, go_sem, z0, z1]) rfl ?_)
        all_goals exact ⟨by rw [ht.out.1, ht.out.2.1, ht.out.2.2], hx.out _ _⟩
      · have ht := Lib.hid (told_no (n := N) (d := D) (by omega))
        have hx := Lib.hid (fun x y => ((B5.out.setCell (p := ⟨w.heap.size + 1, 0, none⟩) (by simp only; omega) x).setCell (p := ⟨w.heap.size + 1, 1, none⟩) (by simp only; omega) y))
        generalize numT N = TN at *
        generalize numT D = TD at *
        have n1 : ¬ (300 : Int) < (TN.size : Int) := by omega
        have n2 : (300 : Int) < (TD.size : Int) := by omega
        go_wp2
        all_goals (refine bodyPost_ret (v := .tuple #[.agg #[.string ⟨#[]⟩, .string ⟨#[]⟩], .int .i64 3]) (by simp [results, Tryd.results30, go_sem, z0, z1]) rfl ?_)
        all_goals exact ⟨by rw [ht.out.1, ht.out.2.1, ht.out.2.2], hx.out _ _⟩
    · have ht := Lib.hid (told_no (n := N) (d := D) (by omega))
      have hx := Lib.hid (fun x y => ((B5.out.setCell (p := ⟨w.heap.size + 1, 0, none⟩) (by simp only; omega) x).setCell (p := ⟨w.heap.size + 1, 1, none⟩) (by simp only; omega) y))
      generalize numT N = TN at *
      generalize numT D = TD at *
      have n1 : (300 : Int) < (TN.size : Int) := by omega
      go_wp2
      all_goals (refine bodyPost_ret (v := .tuple #[.agg #[.string ⟨#[]⟩, .string ⟨#[]⟩], .int .i64 3]) (by simp [results, Tryd.results30, go_sem, z0, z1]) rfl ?_)
      all_goals exact ⟨by rw [ht.out.1, ht.out.2.1, ht.out.2.2], hx.out _ _⟩
end Go.Proofs.YtefodgebecacgaaDoor
