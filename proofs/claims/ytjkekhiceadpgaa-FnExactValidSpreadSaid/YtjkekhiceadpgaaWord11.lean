/- divide of the project: the quotient of two long numbers, and what is left over. Conditions: the divisor is not 0; at most 10^9 words. -/
import Derived.Test.YtjkekhiceadpgaaWord10
import Derived.Deep.RegionWith
import Derived.Deep.DeepCutAuto
namespace Go.Proofs.Ytjkekhiceadpgaa
open Go.RowKit Go.Deep
set_option linter.unusedVariables false

/-- what divide leaves -/
def DivI (m d : Nat) (w : World) (e : Ending) (w' : World) : Prop := ∃ q r, e = .returned (.tuple #[q, r]) ∧ LongI w' q (m / d) ∧ LongI w' r (m % d) ∧ Below w.heap.size w w'

theorem dlen_pos {d : Nat} (h : 0 < d) : 0 < dlen W32 d := by
  rcases Nat.eq_zero_or_pos (dlen W32 d) with e | e
  · have := lt_dlen w32 d; rw [e, Nat.pow_zero] at this; omega
  · exact e

set_option maxRecDepth 100000 in
set_option maxHeartbeats 4000000 in
theorem divide_less (a b : Value) (m d : Nat) (w : World) (ha : LongI w a m) (hb : LongI w b d) (hlt : m < d) :
    Calls Try.prog 106 #[a, b] w (DivI m d w) := by
  have hcmp := compare_any a b m d w ha hb
  rw [cmpI_lt hlt] at hcmp
  obtain ⟨hm1, a1, cap1, rfl⟩ := ha.len
  obtain ⟨hm2, a2, cap2, rfl⟩ := hb.len
  have h1 := Lib.hid (Nat.div_eq_of_lt hlt)
  have h2 := Lib.hid (Nat.mod_eq_of_lt hlt)
  have ha' := Lib.hid ha
  have hcmp' := Lib.hid hcmp
  unfold DivI
  clear ha hb hlt hcmp
  go_enter Try.func106, Try.ntmps106
  go_wp2_with fail
  (with_reducible refine hcmp'.out.mono ?_)
  rintro e w1 ⟨rfl, j, rfl⟩
  go_wp2
  go_ret2
  exact ⟨_, _, rfl, by rw [h1.out]; exact LongI.nil _, by rw [h2.out]; exact ha'.out.keep (below_drewN (Below.refl _ _) j), below_drewN (Below.refl _ _) j⟩

set_option maxRecDepth 100000 in
set_option maxHeartbeats 4000000 in
theorem divide_one (a b : Value) (m d : Nat) (w : World) (ha : LongI w a m) (hb : LongI w b d) (hge : d ≤ m) (hd : 0 < d) (h1 : dlen W32 d = 1) (sm : dlen W32 m ≤ 1000000000) :
    Calls Try.prog 106 #[a, b] w (DivI m d w) := by
  have hcmp := compare_any a b m d w ha hb
  have hdl : d < 4294967296 := by have := lt_dlen w32 d; rw [h1, Nat.pow_one] at this; exact this
  have hd0 : dgt W32 d 0 = d := by rw [dgt, Nat.pow_zero, Nat.div_one]; exact Nat.mod_eq_of_lt hdl
  obtain ⟨c, hc1, hc2⟩ : ∃ c : Int, cmpI m d = c ∧ ¬ c < 0 := ⟨_, rfl, by unfold cmpI; rw [if_neg (by omega)]; split <;> omega⟩
  rw [hc1] at hcmp
  obtain ⟨hm1, a1, cap1, rfl⟩ := ha.len
  obtain ⟨b2, o2, cap2, rfl, hb2, hcell⟩ := hb.at (by omega)
  have q0 := hcell 0 (by omega)
  rw [hd0, Nat.add_zero] at q0
  have hq := Lib.hid (fun j => divideByWord_any _ m d (w.drewN j) (ha.keep (below_drewN (Below.refl _ _) j)) hd hdl (by omega))
  rw [h1] at hcmp ⊢
  have hcmp' := Lib.hid hcmp
  have hr := Lib.hid (fun (W : World) => longOf_any (m % d) W (by have := Nat.mod_lt m hd; omega))
  have hrl := Nat.mod_lt m hd
  unfold DivI
  clear ha hb hge hcmp hcell hc1 h1 hd0
  generalize hrr : m % d = r at *
  replace hrr := Lib.hid hrr
  have hrw : r < 4294967296 := by omega
  go_enter Try.func106, Try.ntmps106
  go_wp2_with fail
  (with_reducible refine hcmp'.out.mono ?_)
  rintro e w1 ⟨rfl, j, rfl⟩
  go_wp2_with fail
  (with_reducible refine (hq.out j).mono ?_)
  rintro e w2 ⟨v, rfl, hL2, bel2⟩
  have hL2' := Lib.hid hL2
  have bel2' := Lib.hid bel2
  clear hL2 bel2
  go_wp2_with fail
  (with_reducible refine (hr.out w2).mono ?_)
  rintro e w3 ⟨v3, rfl, hL3, bel3⟩
  have hL3' := Lib.hid hL3
  have bel3' := Lib.hid bel3
  clear hL3 bel3
  go_wp2
  go_ret2
  exact ⟨_, _, rfl, hL2'.out.keep bel3'.out, hL3'.out, below_wt (below_wt (below_drewN (Below.refl _ _) j) bel2'.out) bel3'.out⟩

theorem u32s_snoc (l : List Nat) (x : Nat) : u32s (l ++ [x]) = u32s l ++ [.int .u32 (x : Int)] := by simp [u32s]
theorem val_snoc0 (l : List Nat) : val W32 (l ++ [0]) = val W32 l := by rw [val_snoc]; simp
theorem Work.cap {w : World} {lo hi g M cap : Nat} {l : List Nat} (h : Work w lo hi g M cap l) : M ≤ cap ∧ cap ≤ maxLen := by
  obtain ⟨a, c, hv, h1, h2⟩ := h.own.row.caps
  simp only [Value.slice.injEq] at hv
  obtain ⟨-, e2, e3⟩ := hv
  rw [e2, e3]; exact ⟨h1, h2⟩
theorem own_frozen {w : World} {lo hi : Nat} {e : TypeId} {g n cap : Nat} {vs : List Value} (h : Own w lo hi e (.slice (some ⟨g, 0, none⟩) n cap) vs) (hne : 0 < vs.length) (i : Nat) : w.frozen? ⟨g, i, none⟩ = false := by
  obtain ⟨g', c', hv, -, -, -, -, hf⟩ := h.at hne
  simp only [Value.slice.injEq, Option.some.injEq, Addr.mk.injEq, and_true] at hv
  obtain ⟨rfl, -, -⟩ := hv
  exact hf i
theorem div_room {X Y n lx K : Nat} (hX : X < W32 ^ lx) (hY : W32 ^ (n - 1) ≤ Y) (hn : 1 ≤ n) (hK : K + n = lx + 1) : X < Y * W32 ^ K := by
  have h := Nat.mul_le_mul_right (W32 ^ K) hY
  rw [← Nat.pow_add, show n - 1 + K = lx by omega] at h
  omega
theorem below_set_quot {w w' : World} {B b i : Nat} {u : Value} (h : Below B w w') (hb : B ≤ b) : Below B w (w'.setCell ⟨b, i, none⟩ u) := h.setCell hb u

set_option maxRecDepth 100000 in
set_option maxHeartbeats 4000000 in
theorem divide_more (a b : Value) (m d : Nat) (w : World) (ha : LongI w a m) (hb : LongI w b d) (hge : d ≤ m) (hd : 0 < d) (h2 : 2 ≤ dlen W32 d) (sm : dlen W32 m ≤ 1000000000) :
    Calls Try.prog 106 #[a, b] w (DivI m d w) := by
  have hcmp := compare_any a b m d w ha hb
  obtain ⟨c, hc1, hc2⟩ : ∃ c : Int, cmpI m d = c ∧ ¬ c < 0 := ⟨_, rfl, by unfold cmpI; rw [if_neg (by omega)]; split <;> omega⟩
  rw [hc1] at hcmp
  obtain ⟨hm1, a1, cap1, rfl⟩ := ha.len
  obtain ⟨b2, o2, cap2, rfl, hb2, hcell⟩ := hb.at (by omega)
  have sd := dlen_mono w32 hge
  obtain ⟨n1, hn1⟩ : ∃ n1, dlen W32 d = n1 + 1 := ⟨dlen W32 d - 1, by omega⟩
  obtain ⟨n0, hn0⟩ : ∃ n0, n1 = n0 + 1 := ⟨n1 - 1, by omega⟩
  have q0 := hcell n1 (by omega)
  have t0 := dgt_top w32 (show 0 < dlen W32 d by omega)
  have t1 := dgt_lt w32 d (dlen W32 d - 1)
  obtain ⟨-, b4, b5, b6⟩ := lz_bounds (Nat.pos_of_ne_zero t0) t1
  have hlz := Lib.hid (fun W => lz_any (dgt W32 d n1) W (by rw [hn1, Nat.add_sub_cancel] at t0; omega) (dgt_lt w32 d n1))
  obtain ⟨y1, y2⟩ := shift_top hd b5 b6
  rw [hn1, Nat.add_sub_cancel] at y2
  rw [hn1, Nat.add_sub_cancel] at y1 b4 b5 b6
  have hs32 : 32 - Lib.bitLen (dgt W32 d n1) < 32 := by
    have : 1 ≤ Lib.bitLen (dgt W32 d n1) := (lz_bounds (by rw [hn1, Nat.add_sub_cancel] at t0; omega) (dgt_lt w32 d n1)).1
    omega
  generalize hss : 32 - Lib.bitLen (dgt W32 d n1) = s at *
  have hsp := Nat.two_pow_pos s
  have hX1 := lt_dlen w32 (m * 2 ^ s)
  have hXl : dlen W32 (m * 2 ^ s) ≤ dlen W32 m + 1 := dlen_le w32 (scarry_end (lt_dlen w32 m) (show 2 ^ s ≤ W32 by have := pow_lt32 hs32; simp only [W32]; omega) w32).2
  have hXg : n1 + 1 ≤ dlen W32 (m * 2 ^ s) := by rw [← y1]; exact dlen_mono w32 (Nat.mul_le_mul_right _ hge)
  have hYlt := lt_dlen w32 (d * 2 ^ s)
  rw [y1] at hYlt
  have hYge : W32 ^ n1 ≤ d * 2 ^ s := le_of_dlen w32 (by rw [y1]; omega)
  obtain ⟨K, hK⟩ : ∃ K, K + (n1 + 1) = dlen W32 (m * 2 ^ s) + 1 := ⟨dlen W32 (m * 2 ^ s) + 1 - (n1 + 1), by omega⟩
  have hroom := div_room (n := n1 + 1) hX1 (by rw [Nat.add_sub_cancel]; exact hYge) (by omega) hK
  have hYp : 0 < d * 2 ^ s := Nat.mul_pos hd hsp
  have hqd : m * 2 ^ s / (d * 2 ^ s) = m / d := Nat.mul_div_mul_right m d hsp
  have hqm : m * 2 ^ s % (d * 2 ^ s) / 2 ^ s = m % d := by rw [Nat.mul_mod_mul_right, Nat.mul_div_cancel _ hsp]
  have hshx := Lib.hid (fun j => shiftUp_own _ m s (w.drewN j) (ha.keep (below_drewN (Below.refl _ _) j)) hs32 (by omega))
  have hshy := Lib.hid (fun (W : World) (h : Below w.heap.size w W) => shiftUp_own _ d s W (hb.keep h) hs32 (by omega))
  have hst := Lib.hid (fun k => quot_step w32 (X := m * 2 ^ s) (i := k) hYp)
  have hcmp' := Lib.hid hcmp
  obtain ⟨i0, hi, hz0, hz1, hz2⟩ := info_parts word_info
  have hi' := Lib.hid hi; have hz0' := Lib.hid hz0; have hz1' := Lib.hid hz1; have hz2' := Lib.hid hz2
  have hmk := run_make_row' (P := Try.prog) 91 163 (.int .u32 0) 4 Try.underlying91 word_info rfl .i64 .i64 K (by omega) (by omega)
  have htest : (((n1 : Int) + 1) == 1) = false := by simp; omega
  have hn1p : 1 ≤ n1 := by omega
  unfold DivI
  have hm0 : Hid (dlen W32 m ≤ 1000000000) := Lib.hid sm
  rw [hn1] at hcmp' hshy ⊢
  rw [y1] at hshy
  replace hss := Lib.hid hss
  replace hn1 := Lib.hid hn1
  replace hn0 := Lib.hid hn0
  replace y1 := Lib.hid y1
  replace hqd := Lib.hid hqd
  replace hqm := Lib.hid hqm
  replace hroom := Lib.hid hroom
  replace hX1 := Lib.hid hX1
  replace hYlt := Lib.hid hYlt
  replace hYp := Lib.hid hYp
  replace y2 := Lib.hid y2
  clear ha hb hge hd h2 hcmp hcell hc1 t0 t1 b4 b5 b6 hsp hYge hi hz0 hz1 hz2
  generalize dgt W32 d n1 = top at *
  generalize hXX : m * 2 ^ s = X at *
  generalize hYY : d * 2 ^ s = Y at *
  generalize hlx : dlen W32 X = lx at *
  clear hXX hYY
  replace hlx := Lib.hid hlx
  have hKI : (lx : Int) + 1 - ((n1 : Int) + 1) = (K : Int) := by omega
  have hn1i : ((n1 : Int) + 1) - 1 = (n1 : Int) := by omega
  go_enter Try.func106, Try.ntmps106
  go_wp2_with fail
  (with_reducible refine hcmp'.out.mono ?_)
  rintro e w1 ⟨rfl, j, rfl⟩
  go_wp2_with fail
  (with_reducible refine (hlz.out _).mono ?_)
  rintro e w1 ⟨rfl, rfl⟩
  go_wp2_with fail
  (with_reducible refine (hshx.out j).mono ?_)
  rintro e w2 ⟨rfl, hown2, -, bel2⟩
  have hown2' := Lib.hid (show w2.ownsRow w.heap.size 163 1 (.slice (some ⟨w.heap.size, 0, none⟩) lx (dlen W32 m + 1)) lx (u32s (dgs W32 X lx)) by
    have := hown2.1
    rw [u32s_length, dgs_length] at this
    exact this)
  have bel2' : Below w.heap.size w w2 := (below_drewN (Below.refl _ w) j).trans bel2
  clear hown2 bel2
  have hsz2 := bel2'.size
  go_wp2_with (at_builtin; (refine wpList_append_own _ rfl _ _ 91 rfl w.heap.size 163 i0 (.int .u32 0) 1 4 Try.underlying91 hi'.out hz0'.out hz1'.out hz2'.out rfl (by decide) _ _ _ rfl (hown2'.out.alloc _) ⟨w2.heap.size, 0, none⟩ 1 1 [.int .u32 ((0 : Nat) : Int)] rfl rfl (one_new _ _ _) (by simp [Value.oneCell']) (by unfold maxLen; omega) (by omega) (by simp; omega) ?_); intro v' w5 hown5 hgr5 _; obtain ⟨g2, c2, rfl⟩ := lg_shape hown5 (by omega))
  have hg2 := (lg_type hown5 rfl).1
  have hW5 := Lib.hid (show Work w5 w.heap.size w5.heap.size g2 (lx + 1) c2 (dgs W32 X lx ++ [0]) from ⟨by
      have h := Own.of hown5 (Nat.le_refl _)
      rw [← u32s_snoc] at h
      exact h, by rw [List.length_append, dgs_length]; rfl, by
      intro x hx
      rw [List.mem_append] at hx
      rcases hx with hx | hx
      · exact dgs_lt w32 _ _ x hx
      · simp at hx; subst hx; decide⟩)
  have hg5 := (hown5.lt g2 rfl).2
  have bel5 : Below w.heap.size w w5 := (bel2'.alloc hsz2 _).grown hgr5 (by simp; omega) (fun k' hk' => (lg_type hown2'.out hk').1)
  have hw5v := Lib.hid (show val W32 (dgs W32 X lx ++ [0]) = X by rw [val_snoc0]; exact val_dgs_small hX1.out)
  clear hown5 hgr5 hown2' bel2'
  generalize dgs W32 X lx ++ [0] = l0 at hW5 hw5v
  have hcy := hshy.out w5 bel5
  clear hshy hshx
  (with_reducible refine hcy.mono ?_)
  rintro e w6 ⟨rfl, -, hY6, bel6⟩
  have hW6 := Lib.hid (show Work w6 w.heap.size w5.heap.size g2 (lx + 1) c2 l0 from ⟨hW5.out.own.keep (Nat.le_refl _) bel6, hW5.out.len, hW5.out.dig⟩)
  have hsz6 := bel6.size
  have B6 := below_wt bel5 bel6
  have hy6 := Lib.hid (show ∀ j', j' < n1 + 1 → w6.cell? ⟨w5.heap.size, 0 + j', none⟩ = some (.int .u32 (dgt W32 Y j' : Int)) from fun j' hj' => by
    have hlen : dlen W32 Y = n1 + 1 := y1.out
    obtain ⟨b', o', c', hv', -, hc'⟩ := hY6.at (by omega)
    simp only [Value.slice.injEq, Option.some.injEq, Addr.mk.injEq, and_true] at hv'
    obtain ⟨⟨rfl, rfl⟩, -, -⟩ := hv'
    exact hc' j' (by omega))
  have hlt56 : w5.heap.size < w6.heap.size := block_lt (hy6.out 0 (by omega))
  clear hW5 hY6 bel6 bel5 hcy
  go_wp2
  replace hK := Lib.hid hK
  have hKle : K + n1 ≤ lx := by have := hK.out; omega
  have hKle2 : lx ≤ K + n1 := by have := hK.out; omega
  go_loopw [10] (fun iv wr => ∃ (k : Nat) (l2 : List Nat), k ≤ K ∧ iv = .int .i64 ((k : Int) - 1) ∧ Hid (Work wr w.heap.size w5.heap.size g2 (lx + 1) c2 l2) ∧ Hid (val W32 l2 = X % (Y * W32 ^ k)) ∧ Own wr w6.heap.size (w6.heap.size + 1) 163 (.slice (some ⟨w6.heap.size, 0, none⟩) K K) (u32s (shL W32 (X / Y) K k)) ∧ Hid (∀ j', j' < n1 + 1 → wr.cell? ⟨w5.heap.size, 0 + j', none⟩ = some (.int .u32 (dgt W32 Y j' : Int))) ∧ Below w.heap.size w wr) (fun iv _ => (intOf iv + 1).toNat)
  case atStart =>
    refine ⟨K, l0, Nat.le_refl _, by go_num, ⟨(hW6.out.own.alloc _), hW6.out.len, hW6.out.dig⟩, ?_, ?_, fun j' hj' => ?_, B6.alloc (by have := B6.size; omega) _⟩
    · show val W32 l0 = _
      rw [hw5v.out, Nat.mod_eq_of_lt hroom.out]
    · have := Own.made w6 (.int .u32 0) K 163 (by unfold maxLen; omega)
      rw [shL_full]
      simpa [u32s] using this
    · exact ((below1 w6 _).cell (p := ⟨w5.heap.size, 0 + j', none⟩) (block_lt (hy6.out j' hj'))).trans (hy6.out j' hj')
  case round =>
    obtain ⟨k, l2, hk, rfl, hWk, hvk, hown, hyk, bel⟩ := hrel
    have hown' := Lib.hid hown
    rcases Nat.eq_zero_or_pos k with rfl | hpos
    · obtain ⟨cap1', cap2'⟩ := hWk.out.cap
      unfold maxLen at cap2'
      have hvX : val W32 l2 = X % Y := by have := hvk.out; rw [Nat.pow_zero, Nat.mul_one] at this; exact this
      have hvt : val W32 (l2.take (n1 + 1)) = X % Y := by
        have h1 := val_drop (B := W32) l2 (n1 + 1) (by rw [hWk.out.len]; omega)
        have h2 := val_drop_small w32 l2 (n1 + 1) (by rw [hWk.out.len]; omega) (by rw [hvX]; exact Nat.lt_trans (Nat.mod_lt _ hYp.out) hYlt.out)
        rw [h2, Nat.mul_zero, Nat.add_zero, hvX] at h1
        exact h1.symm
      have hxr : Wd wr (.slice (some ⟨g2, 0, none⟩) (n1 + 1) c2) (l2.take (n1 + 1)) := by
        have h1 : Wd wr (.slice (some ⟨g2, 0, none⟩) (lx + 1) c2) l2 := hWk.out.own.row
        exact h1.pre (n1 + 1) (by rw [hWk.out.len]; omega)
      have hqr : Wd wr (.slice (some ⟨w6.heap.size, 0, none⟩) (dgs W32 (X / Y) K).length K) (dgs W32 (X / Y) K) := by
        rw [dgs_length]
        have := hown.row
        rw [shL_zero] at this
        exact this
      have hqv : val W32 (dgs W32 (X / Y) K) = X / Y := val_dgs_small (Nat.div_lt_of_lt_mul hroom.out)
      have hTrim := Lib.hid (fun (W : World) (h : Below wr.heap.size wr W) => trim_at _ _ _ W (hqr.keep h) (dgs_lt w32 _ _))
      rw [hqv, dgs_length] at hTrim
      have hDown := Lib.hid (fun (W : World) (h : Below wr.heap.size wr W) => shiftDown_any _ _ s W (hxr.keep h) (fun x hx => hWk.out.dig x (List.mem_of_mem_take hx)) hs32 (by rw [List.length_take]; have := hm0.out; have := hWk.out.len; omega))
      rw [hvt, hqm.out] at hDown
      rw [hqd.out] at hTrim
      have hc3 : n1 + 1 ≤ c2 := by omega
      clear hown hvX hvt hxr hqr hqv
      go_wp2_with fail
      go_region_with (first
        | (go_at_call 105; ((with_reducible refine (hTrim.out _ (by first | exact (Below.refl _ wr).drew | exact below_drewN (Below.refl _ wr) _ | exact (Below.refl _ wr).drew.trans br)).mono ?_); rintro e u1 ⟨rfl, hq1, jq, rfl⟩))
        | (go_at_call 135; ((with_reducible refine (hDown.out _ (by first | exact (Below.refl _ wr).drew | exact below_drewN (Below.refl _ wr) _ | exact below_drewN (Below.refl _ wr).drew jq)).mono ?_); rintro e u2 ⟨v3, rfl, hr1, br⟩)))
      all_goals go_wp2
      all_goals go_ret2
      all_goals first
        | exact ⟨_, _, rfl, LongI.keep (w := wr) hq1 ((below_drewN (Below.refl _ wr) _).trans br), hr1, below_wt bel ((below_drewN (Below.refl _ wr) _).trans br)⟩
        | exact ⟨_, _, rfl, LongI.keep (w := wr) hq1 ((Below.refl _ wr).drew.trans br), hr1, below_wt bel ((Below.refl _ wr).drew.trans br)⟩
        | exact ⟨_, _, rfl, hq1.keep (below_drewN (Below.refl _ _) _), hr1.keep (below_drewN (Below.refl _ _) _), below_drewN (below_wt bel ((Below.refl _ wr).drew.trans br)) _⟩
    · obtain ⟨k, rfl⟩ : ∃ k', k = k' + 1 := ⟨k - 1, by omega⟩
      have hi : (((k + 1 : Nat) : Int) - 1) = (k : Int) := by omega
      rw [hi]
      obtain ⟨g, cap'', hg, -, -, hgs, hcg, hfg⟩ := hown.at (by rw [u32s_length, shL_length]; omega)
      simp only [Value.slice.injEq, Option.some.injEq, Addr.mk.injEq, and_true] at hg
      obtain ⟨rfl, -, -⟩ := hg
      have hcg' := hcg k (by rw [u32s_length, shL_length]; omega)
      have hfg' := hfg k
      generalize (u32s (shL W32 (X / Y) K (k + 1))).getD k undef = old at hcg'
      obtain ⟨r1, r2, r3⟩ := hst.out k
      obtain ⟨cap1', cap2'⟩ := hWk.out.cap
      unfold maxLen at cap2'
      have hk2 : k + (n1 + 1 + 1) ≤ lx + 1 := by omega
      have hk3 : k + (n1 + 1 + 1) ≤ c2 := by omega
      have hkK := Lib.hid hk
      have hk4 : k < K := by omega
      have hgne : w5.heap.size ≠ g2 := by omega
      have hqne : w6.heap.size ≠ g2 := by omega
      have htk := Lib.hid (takeOut_any g2 k (lx + 1) c2 (c2 - k) w5.heap.size 0 (n1 + 1 + 1) (n1 + 1) n1 n0 Y w.heap.size w5.heap.size l2 wr rfl hn0.out hWk.out hk2 (by have := hm0.out; omega) hyk.out hYlt.out y2.out hgne (by rw [hvk.out]; exact Nat.mod_lt _ (Nat.mul_pos hYp.out (pow_pos' w32 _))))
      rw [hvk.out, r1] at htk
      have hset := Lib.hid (shL_set W32 (X / Y) K k)
      have hdl := dgt_lt w32 (X / Y) k
      simp only [show W32 = 4294967296 from rfl] at hdl
      have r2' := Lib.hid r2
      clear hcg hfg hown hi r1 r2 r3
      generalize dgt W32 (X / Y) k = dq at *
      go_wp2_with fail
      rw [show k + (n1 + 1) + 1 - k = n1 + 1 + 1 by omega]
      (with_reducible refine htk.out.mono ?_)
      rintro e w8 ⟨rfl, l8, hW8, hv8, hU8⟩
      have hcg8 := (hU8.cell (p := ⟨w6.heap.size, k, none⟩) hqne).trans hcg'
      have hfg8 : w8.frozen? ⟨w6.heap.size, k, none⟩ = false := by
        have : SameOn w6.heap.size (w6.heap.size + 1) wr w8 := hU8.same (Or.inl (by omega))
        exact own_frozen (hown'.out.same this) (by rw [u32s_length, shL_length]; omega) k
      have hn8 := Lib.hid (show Work (w8.setCell ⟨w6.heap.size, k, none⟩ (.int .u32 (dq : Int))) w.heap.size w5.heap.size g2 (lx + 1) c2 l8 from ⟨hW8.own.setOther (a := ⟨w6.heap.size, k, none⟩) (by simp [Value.ownBlock]; omega) _, hW8.len, hW8.dig⟩)
      have hv8' := Lib.hid (show val W32 l8 = X % (Y * W32 ^ k) by rw [hv8, hvk.out, r2'.out])
      have ho8 := Lib.hid (show Own (w8.setCell ⟨w6.heap.size, k, none⟩ (.int .u32 (dq : Int))) w6.heap.size (w6.heap.size + 1) 163 (.slice (some ⟨w6.heap.size, 0, none⟩) K K) (u32s (shL W32 (X / Y) K k)) by
        have h1 : SameOn w6.heap.size (w6.heap.size + 1) wr w8 := hU8.same (Or.inl (by omega))
        have h2 := (hown'.out.same h1).set k (.int .u32 (dq : Int))
        rw [u32s_set, hset.out] at h2
        exact h2)
      have hy8 := Lib.hid (show ∀ j', j' < n1 + 1 → (w8.setCell ⟨w6.heap.size, k, none⟩ (.int .u32 (dq : Int))).cell? ⟨w5.heap.size, 0 + j', none⟩ = some (.int .u32 (dgt W32 Y j' : Int)) from fun j' hj' => by
        rw [World.cell?_of_block (w := w8) (Below.heap_setCell w8 ⟨w6.heap.size, k, none⟩ _ w5.heap.size (by simp only; omega))]
        exact (hU8.cell (p := ⟨w5.heap.size, 0 + j', none⟩) hgne).trans (hyk.out j' hj'))
      have hb8 := Lib.hid (show Below w.heap.size w (w8.setCell ⟨w6.heap.size, k, none⟩ (.int .u32 (dq : Int))) from (bel.trans (hU8.below (B := w.heap.size) hg2)).setCell (p := ⟨w6.heap.size, k, none⟩) B6.size _)
      clear hW8 hv8 hU8 htk
      go_wp2
      go_roundw
      case rel => exact ⟨k, l8, by omega, by go_num, hn8.out, hv8'.out, ho8.out, hy8.out, hb8.out⟩
      case measure => simp [intOf]

theorem divide_any (a b : Value) (m d : Nat) (w : World) (ha : LongI w a m) (hb : LongI w b d) (hd : 0 < d) (sm : dlen W32 m ≤ 1000000000) :
    Calls Try.prog 106 #[a, b] w (DivI m d w) := by
  rcases Nat.lt_or_ge m d with h | h
  · exact divide_less a b m d w ha hb h
  · have := dlen_pos hd
    by_cases h1 : dlen W32 d = 1
    · exact divide_one a b m d w ha hb h hd h1 sm
    · exact divide_more a b m d w ha hb h hd (by omega) sm
end Go.Proofs.Ytjkekhiceadpgaa
