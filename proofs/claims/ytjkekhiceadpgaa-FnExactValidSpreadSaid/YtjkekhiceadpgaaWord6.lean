/- shiftUp of the project: a long number times a power of two, in memory of its own. Conditions: fewer than 10^12 words; the shift is less than 32. -/
import Derived.Test.YtjkekhiceadpgaaWord5
namespace Go.Proofs.Ytjkekhiceadpgaa
open Go.RowKit Go.Deep
set_option linter.unusedVariables false

theorem Own.pre {w : World} {lo hi : Nat} {e : TypeId} {g cap len : Nat} {vs : List Value} (h : Own w lo hi e (.slice (some ⟨g, 0, none⟩) len cap) vs) (n : Nat) (hn : n ≤ vs.length) : Own w lo hi e (.slice (some ⟨g, 0, none⟩) n cap) (vs.take n) := by
  obtain ⟨ho, hm, hk⟩ := h
  have hl : (vs.take n).length = n := by simp; omega
  rcases ho.2 with ⟨hv, h0⟩ | ⟨g', cap', cur, hv, hg, hh, hnc, hc, hs, ht⟩
  · cases hv
  · cases hv
    refine ⟨⟨by omega, Or.inr ⟨g, cap, cur, by rw [hl], hg, hh, by omega, hc, hs, ?_⟩⟩, by omega, hk⟩
    rw [hl]
    simp only [Nat.mul_one] at ht ⊢
    rw [← ht, List.take_take, Nat.min_eq_left hn]
theorem two_pow_cast (s : Nat) : ((2 ^ s : Nat) : Int) = (2 : Int) ^ s := by simp
theorem pow_lt32 {s : Nat} (h : s < 32) : 2 ^ s ≤ 2147483648 := by
  have := Nat.pow_le_pow_right (n := 2) (by omega) (show s ≤ 31 by omega)
  simpa using this
theorem shift_round (m s k : Nat) (hs : s < 32) : ∃ G : Nat, bits .or .u64 (scarry W32 m (2 ^ s) k : Int) (IntKind.u64.wrap ((dgt W32 m k : Int) * 2 ^ s)) = (G : Int) ∧ (G : Int) % 4294967296 = (dgt W32 (m * 2 ^ s) k : Int) ∧ (G : Int) / 4294967296 = (scarry W32 m (2 ^ s) (k + 1) : Int) := by
  obtain ⟨h1, h2⟩ := scale_step w32 m (2 ^ s) k
  have h3 := scarry_le w32 m (2 ^ s) k
  have h4 := dgt_lt w32 m k
  have h5 := Nat.two_pow_pos s
  have h6 := pow_lt32 hs
  generalize scarry W32 m (2 ^ s) k = c at *
  generalize dgt W32 m k = x at *
  have e : ((x : Int) * 2 ^ s) = ((x * 2 ^ s : Nat) : Int) := by rw [Int.natCast_mul, two_pow_cast]
  have hx : x * 2 ^ s ≤ 4294967295 * 2147483648 := Nat.mul_le_mul (by simp only [W32] at h4; omega) h6
  have e2 : IntKind.u64.wrap ((x : Int) * 2 ^ s) = ((x * 2 ^ s : Nat) : Int) := by rw [e, IntKind.wrap_u64]; omega
  have e3 := bits_or_u64_nat c (x * 2 ^ s) (by omega) (by omega)
  refine ⟨c + x * 2 ^ s, by rw [e2, e3, or_low' x c s (by omega)], ?_, ?_⟩
  · rw [h1]; simp only [W32]; omega
  · rw [h2]; simp only [W32]; omega

set_option maxRecDepth 100000 in
set_option maxHeartbeats 4000000 in
theorem shiftUp_own (a : Value) (m s : Nat) (w : World) (ha : LongI w a m) (hs : s < 32) (sm : dlen W32 m ≤ 1000000000000) :
    Calls Try.prog 133 #[a, .int .i64 (s : Int)] w fun e w' => e = .returned (.slice (some ⟨w.heap.size, 0, none⟩) (dlen W32 (m * 2 ^ s)) (dlen W32 m + 1)) ∧ Own w' w.heap.size (w.heap.size + 1) 163 (.slice (some ⟨w.heap.size, 0, none⟩) (dlen W32 (m * 2 ^ s)) (dlen W32 m + 1)) (u32s (dgs W32 (m * 2 ^ s) (dlen W32 (m * 2 ^ s)))) ∧ LongI w' (.slice (some ⟨w.heap.size, 0, none⟩) (dlen W32 (m * 2 ^ s)) (dlen W32 m + 1)) (m * 2 ^ s) ∧ Below w.heap.size w w' := by
  obtain ⟨hm1, a1, cap1, rfl⟩ := ha.len
  unfold maxLen at hm1
  have hA := fun h => ha.at h
  have hrd := Lib.hid (fun k => shift_round m s k hs)
  have hbm := Lib.hid (fun k => And.intro (dgt_lt w32 m k) (scarry_le w32 m (2 ^ s) k))
  have hend := Lib.hid (scarry_end (lt_dlen w32 m) (show 2 ^ s ≤ W32 by have := pow_lt32 hs; simp only [W32]; omega) w32)
  have hp := pow_lt32 hs
  have hp0 := Nat.two_pow_pos s
  have hdl := Lib.hid (dlen_le w32 hend.out.2)
  have hmk := run_make_row' (P := Try.prog) 91 163 (.int .u32 0) 4 Try.underlying91 word_info rfl .i64 .i64 (dlen W32 m + 1) (by omega) (by omega)
  rw [Int.natCast_add, Int.natCast_one] at hmk
  clear ha
  generalize hL1 : dlen W32 m = L at hm1 hA sm hmk hend hdl ⊢
  replace hL1 := Lib.hid hL1
  go_enter Try.func133, Try.ntmps133
  go_wp2
  go_loopw [6, 15] (fun cv i wr => ∃ (k : Nat), k ≤ L ∧ i = .int .i64 (k : Int) ∧ cv = .int .u64 (scarry W32 m (2 ^ s) k : Nat) ∧ Own wr w.heap.size (w.heap.size + 1) 163 (.slice (some ⟨w.heap.size, 0, none⟩) (L + 1) (L + 1)) (u32s (dz W32 (m * 2 ^ s) k (L + 1))) ∧ Below w.heap.size w wr) (fun _ i _ => L - (intOf i).toNat)
  case atStart =>
    refine ⟨0, Nat.zero_le _, rfl, by rw [scarry_zero]; rfl, ?_, (Below.refl _ _).alloc (Nat.le_refl _) _⟩
    have := Own.made w (.int .u32 0) (L + 1) 163 (by unfold maxLen; omega)
    rw [dz_zero]
    simpa [u32s] using this
  case round =>
    obtain ⟨k, hk, rfl, rfl, hown, bel⟩ := hrel
    have hown' := Lib.hid hown
    have hsz := bel.size
    obtain ⟨g, cap'', hg, -, -, -, hcg, hfg⟩ := hown.at (by rw [u32s_length, dz_length _ _ _ _ (by omega)]; omega)
    simp only [Value.slice.injEq, Option.some.injEq, Addr.mk.injEq, and_true] at hg
    obtain ⟨rfl, -, -⟩ := hg
    have hcg' := hcg k (by rw [u32s_length, dz_length _ _ _ _ (by omega)]; omega)
    have hfg' := hfg k
    have hset := Lib.hid (dz_set W32 (m * 2 ^ s) k (L + 1) (by omega))
    generalize (u32s (dz W32 (m * 2 ^ s) k (L + 1))).getD k undef = old at hcg'
    clear hcg hfg hown
    by_cases hlt : k < L
    · obtain ⟨b1, o1, c1, hv1, hl1, hc1⟩ := hA (by omega)
      simp only [Value.slice.injEq] at hv1
      obtain ⟨rfl, -, rfl⟩ := hv1
      have q1 := (bel.cell hl1).trans (hc1 k (by omega))
      obtain ⟨G, z0, z1, z2⟩ := hrd.out k
      obtain ⟨w1, w2⟩ := hbm.out k
      simp only [show W32 = 4294967296 from rfl] at w1
      clear hc1
      generalize hcc : scarry W32 m (2 ^ s) (k + 1) = c' at z2
      replace hcc := Lib.hid hcc
      generalize dgt W32 m k = x at q1 z0 w1
      generalize dgt W32 (m * 2 ^ s) k = d at z1 hset
      generalize scarry W32 m (2 ^ s) k = c at z0 w2 ⊢
      have wc : c < 4294967296 := by omega
      clear w2 hp hp0
      go_wp2
      go_roundw
      case rel =>
        refine ⟨k + 1, by omega, by go_num, by rw [hcc.out], ?_, bel.setCell (Nat.le_refl _) _⟩
        have := hown'.out.set k (.int .u32 (d : Int))
        rw [u32s_set, hset.out] at this
        exact this
      case measure => simp [intOf]; omega
    · obtain rfl : k = L := by omega
      obtain ⟨e1, e2⟩ := hend.out
      have w2 := (hbm.out k).2
      rw [← e1] at hset
      have hT := Lib.hid (fun (W : World) (h : Own W w.heap.size (w.heap.size + 1) 163 (.slice (some ⟨w.heap.size, 0, none⟩) (k + 1) (k + 1)) (u32s (dz W32 (m * 2 ^ s) (k + 1) (k + 1)))) => by
        rw [dz_all] at h
        have h2 : Wd W (.slice (some ⟨w.heap.size, 0, none⟩) (dgs W32 (m * 2 ^ s) (k + 1)).length (k + 1)) (dgs W32 (m * 2 ^ s) (k + 1)) := by rw [dgs_length]; exact h.row
        have h3 := trim_at _ _ _ W h2 (dgs_lt w32 _ _)
        rw [val_dgs_small e2, dgs_length] at h3
        have h4 := h.pre (dlen W32 (m * 2 ^ s)) (by rw [u32s_length, dgs_length]; exact hdl.out)
        exact And.intro h3 h4)
      clear e1 e2
      generalize scarry W32 m (2 ^ s) k = c at hset w2 ⊢
      have hwr : ((c : Nat) : Int) % 4294967296 = (c : Int) := by omega
      clear w2 hp hp0
      go_wp2_with fail
      have hown2 := hown'.out.set k (.int .u32 (c : Int))
      rw [u32s_set, hset.out] at hown2
      obtain ⟨hT1, hT2⟩ := hT.out _ hown2
      have hT2' := Lib.hid hT2
      clear hT2
      refine hT1.mono ?_
      rintro e w' ⟨rfl, hL, j, rfl⟩
      have hL' := Lib.hid hL
      clear hL hown2 hT1
      have htk := Lib.hid (show (u32s (dgs W32 (m * 2 ^ s) (k + 1))).take (dlen W32 (m * 2 ^ s)) = u32s (dgs W32 (m * 2 ^ s) (dlen W32 (m * 2 ^ s))) by
        simp only [u32s, ← List.map_take, dgs, List.take_range]
        rw [Nat.min_eq_left hdl.out])
      go_wp2
      go_ret
      exact ⟨rfl, by rw [← htk.out]; exact hT2'.out.keep (B := w.heap.size + 1) (Nat.le_refl _) (below_drewN (Below.refl _ _) j), hL'.out.keep (below_drewN (Below.refl _ _) j), below_drewN (bel.setCell (Nat.le_refl _) _) j⟩
end Go.Proofs.Ytjkekhiceadpgaa
