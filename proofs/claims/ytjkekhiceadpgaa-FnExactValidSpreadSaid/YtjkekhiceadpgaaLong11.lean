/- l01Over of the specification: a fraction in lowest terms. Conditions: the divisor is not 0; at most 10^9 digits. -/
import Derived.Test.YtjkekhiceadpgaaLong10
namespace Go.Proofs.Ytjkekhiceadpgaa
open Go.RowKit Go.Deep
set_option linter.unusedVariables false

theorem gcd_len {m n : Nat} (hn : 0 < n) : dlen B9 (Nat.gcd m n) ≤ dlen B9 n := dlen_mono b9 (Nat.le_of_dvd hn (Nat.gcd_dvd_right m n))

/-- a store into a box of two lists leaves every long number as it was -/
theorem LongS.setBox {w : World} {v : Value} {n b : Nat} {a1 a2 : Option Addr} {l1 c1 l2 c2 : Nat} {t : TypeId} (h : LongS w v n) (hB : Blk w b #[.slice a1 l1 c1, .slice a2 l2 c2] t) (j : Nat) (u : Value) : LongS (w.setCell ⟨b, j, none⟩ u) v n := by
  obtain ⟨hm, a, cap, rfl, hk, hc⟩ := h
  refine ⟨hm, a, cap, rfl, hk, fun i hi => ?_⟩
  obtain ⟨b', off, ha, hcell⟩ := hc i hi
  refine ⟨b', off, ha, ?_⟩
  have hne : b' ≠ b := by
    rintro rfl
    rw [hB.cell] at hcell
    have hi' : i < (longS n).length := by simpa [ints] using hi
    rw [ints_getD (longS n) i hi'] at hcell
    have : off + i = 0 ∨ off + i = 1 ∨ 2 ≤ off + i := by omega
    rcases this with e | e | e
    · rw [e] at hcell; simp at hcell
    · rw [e] at hcell; simp at hcell
    · rw [Array.getElem?_eq_none (by simpa using e)] at hcell; cases hcell
  rw [World.cell?_of_block (w := w) (Below.heap_setCell w ⟨b, j, none⟩ u b' hne)]
  exact hcell

set_option maxRecDepth 100000 in
set_option maxHeartbeats 4000000 in
theorem l01Over_any (a b : Value) (m n : Nat) (w : World) (ha : LongS w a m) (hb : LongS w b n) (hn : 0 < n) (sm : dlen B9 m ≤ 1000000000) (sn : dlen B9 n ≤ 1000000000) :
    Calls Try.prog 77 #[a, b] w fun e w' => ∃ p q, e = .returned (.agg #[p, q]) ∧ LongS w' p (m / Nat.gcd m n) ∧ LongS w' q (n / Nat.gcd m n) ∧ Below w.heap.size w w' := by
  obtain ⟨_, a1, cap1, rfl⟩ := ha.len
  obtain ⟨_, a2, cap2, rfl⟩ := hb.len
  have B0 := below1 w (.cells #[.slice none 0 0, .slice none 0 0] 83)
  have hZ := Blk.new w #[.slice none 0 0, .slice none 0 0] 83
  have ha0 := ha.keep B0
  have hb0 := hb.keep B0
  have hgp := Lib.hid (Nat.gcd_pos_of_pos_right m hn)
  have hgl := Lib.hid (gcd_len (m := m) hn)
  have hgc := l01Gcd_any _ _ m n _ ha0 hb0 sm sn
  have sm' := Lib.hid sm
  have sn' := Lib.hid sn
  clear ha hb sm sn
  generalize Nat.gcd m n = g at *
  go_enter Try.func77, Try.ntmps77
  go_wp2_with fail
  refine hgc.mono ?_
  rintro e w1 ⟨gv, rfl, hg, b1⟩
  obtain ⟨_, ga, gc, rfl⟩ := hg.len
  have hg' := Lib.hid hg
  have hZ1 := hZ.keep b1 hZ.lt
  have B1 := below_wt B0 b1
  have hd1 := Lib.hid (l01Divide_any _ _ m g w1 (ha0.keep b1) hg hgp.out sm'.out (Nat.le_trans hgl.out sn'.out))
  have hb1' := Lib.hid (hb0.keep b1)
  clear hg hZ hgc ha0 hb0 b1 B0
  go_wp2_with fail
  refine hd1.out.mono ?_
  rintro e w2 ⟨p, r1, rfl, hp, hr1, b2⟩
  obtain ⟨_, pa, pc, rfl⟩ := hp.len
  obtain ⟨_, ra, rc, rfl⟩ := hr1.len
  have hp' := Lib.hid hp
  have hZ2 := hZ1.keep b2 hZ1.lt
  have B2 := below_wt B1 b2
  have hd2 := Lib.hid (l01Divide_any _ _ n g w2 (hb1'.out.keep b2) (hg'.out.keep b2) hgp.out sn'.out (Nat.le_trans hgl.out sn'.out))
  clear hp hr1 hd1 hZ1 B1 b2
  go_wp2_with fail
  refine hd2.out.mono ?_
  rintro e w3 ⟨q, r2, rfl, hq, hr2, b3⟩
  obtain ⟨_, qa, qc, rfl⟩ := hq.len
  obtain ⟨_, ra2, rc2, rfl⟩ := hr2.len
  have hp3 := hp'.out.keep b3
  have hZ3 := hZ2.keep b3 hZ2.lt
  have B3 := below_wt B2 b3
  have hfp := Lib.hid ((hp3.setBox hZ3 0 (.slice pa (dlen B9 (m / g)) pc)).setBox (hZ3.set 0 (.slice pa (dlen B9 (m / g)) pc)) 1 (.slice qa (dlen B9 (n / g)) qc))
  have hfq := Lib.hid ((hq.setBox hZ3 0 (.slice pa (dlen B9 (m / g)) pc)).setBox (hZ3.set 0 (.slice pa (dlen B9 (m / g)) pc)) 1 (.slice qa (dlen B9 (n / g)) qc))
  have hBf := Lib.hid ((B3.setCell (p := ⟨w.heap.size, 0, none⟩) (Nat.le_refl _) (.slice pa (dlen B9 (m / g)) pc)).setCell (p := ⟨w.heap.size, 1, none⟩) (Nat.le_refl _) (.slice qa (dlen B9 (n / g)) qc))
  have z0 : w3.cell? ⟨w.heap.size, 0, none⟩ = some (.slice none 0 0) := hZ3.cell 0
  have z1 : w3.cell? ⟨w.heap.size, 1, none⟩ = some (.slice none 0 0) := hZ3.cell 1
  have f0 := hZ3.frozen 0
  have f1 := hZ3.frozen 1
  clear hp3 hq hr2 hZ3 hZ2 B3 B2 b3 hd2
  go_wp2
  refine bodyPost_ret (v := .agg #[.slice pa (dlen B9 (m / g)) pc, .slice qa (dlen B9 (n / g)) qc]) (by simp [results, Try.results77, go_sem, z0, z1]) rfl ?_
  exact ⟨_, _, rfl, hfp.out, hfq.out, hBf.out⟩
end Go.Proofs.Ytjkekhiceadpgaa
