/- divideByWord of the project: a long number divided by one word. Conditions: the word is not 0; fewer than 10^12 words. -/
import Derived.Test.YtjkekhiceadpgaaWord4
import Derived.Laws.Bits64b
namespace Go.Proofs.Ytjkekhiceadpgaa
open Go.RowKit Go.Deep
set_option linter.unusedVariables false

theorem shortw_round (m y k : Nat) (hy : 0 < y) (hyB : y < W32) : ∃ G : Nat,
    bits .or .u64 (((m / W32 ^ (k + 1) % y : Nat) : Int) * 4294967296) (dgt W32 m k : Int) = (G : Int) ∧ G / y = dgt W32 (m / y) k ∧ G % y = m / W32 ^ k % y ∧ G < 18446744073709551616 := by
  obtain ⟨h1, h2⟩ := short_step w32 m k hy
  have h3 := Nat.mod_lt (m / W32 ^ (k + 1)) hy
  have h4 := dgt_lt w32 m k
  generalize m / W32 ^ (k + 1) % y = r at *
  generalize dgt W32 m k = x at *
  refine ⟨r * W32 + x, ?_, h1, h2, ?_⟩
  · have e := bits_or_u64_nat (r * 4294967296) x (by simp only [W32] at hyB; omega) (by simp only [W32] at h4; omega)
    rw [show ((r : Int) * 4294967296) = ((r * 4294967296 : Nat) : Int) by omega, e, show r * 4294967296 = r * 2 ^ 32 by rfl, or_low r x 32 h4]
  · simp only [W32] at *; omega

set_option maxRecDepth 100000 in
set_option maxHeartbeats 4000000 in
theorem divideByWord_any (a : Value) (m y : Nat) (w : World) (ha : LongI w a m) (hy : 0 < y) (hyB : y < 4294967296) (sm : dlen W32 m ≤ 1000000000000) :
    Calls Try.prog 131 #[a, .int .u32 (y : Int)] w fun e w' => ∃ v, e = .returned (.tuple #[v, .int .u32 (m % y : Nat)]) ∧ LongI w' v (m / y) ∧ Below w.heap.size w w' := by
  obtain ⟨hm1, a1, cap1, rfl⟩ := ha.len
  unfold maxLen at hm1
  have hA := fun h => ha.at h
  have hrd := Lib.hid (fun k => shortw_round m y k hy hyB)
  have hbm := Lib.hid (fun k => And.intro (dgt_lt w32 m k) (And.intro (Nat.mod_lt (m / W32 ^ k) hy) (And.intro (dgt_lt w32 (m / y) k) (Nat.mod_lt (m / W32 ^ (k + 1)) hy))))
  have hval := Lib.hid (show val W32 (dgs W32 (m / y) (dlen W32 m)) = m / y from val_dgs_small (Nat.lt_of_le_of_lt (Nat.div_le_self m y) (lt_dlen w32 m)))
  have h00 := Lib.hid (show m / W32 ^ dlen W32 m % y = 0 by rw [Nat.div_eq_of_lt (lt_dlen w32 m), Nat.zero_mod])
  have hmk := run_make_row' (P := Try.prog) 91 163 (.int .u32 0) 4 Try.underlying91 word_info rfl .i64 .i64 (dlen W32 m) (by omega) (by omega)
  clear ha
  generalize hL1 : dlen W32 m = L at hm1 hA sm hval hmk h00 ⊢
  replace hL1 := Lib.hid hL1
  have hy0 : ((y : Int) == 0) = false := by simp; omega
  have hy1 : ¬ (y : Int) = 0 := by omega
  go_enter Try.func131, Try.ntmps131
  go_wp2
  go_loopw [7, 8] (fun rv i wr => ∃ k : Nat, k ≤ L ∧ i = .int .i64 ((k : Int) - 1) ∧ rv = .int .u64 (m / W32 ^ k % y : Nat) ∧ Own wr w.heap.size (w.heap.size + 1) 163 (.slice (some ⟨w.heap.size, 0, none⟩) L L) (u32s (shL W32 (m / y) L k)) ∧ Below w.heap.size w wr) (fun _ i _ => (intOf i + 1).toNat)
  case atStart =>
    refine ⟨L, Nat.le_refl _, by go_num, by rw [h00.out]; rfl, ?_, (Below.refl _ _).alloc (Nat.le_refl _) _⟩
    have := Own.made w (.int .u32 0) L 163 (by unfold maxLen; omega)
    rw [shL_full]
    simpa [u32s] using this
  case round =>
    obtain ⟨k, hk, rfl, rfl, hown, bel⟩ := hrel
    have hown' := Lib.hid hown
    rcases Nat.eq_zero_or_pos k with rfl | hpos
    · have hrow : Wd wr (.slice (some ⟨w.heap.size, 0, none⟩) L L) (dgs W32 (m / y) L) := by
        have := hown.row
        rw [shL_zero] at this
        have e : (u32s (dgs W32 (m / y) L)).length = L := by rw [u32s_length, dgs_length]
        exact this
      have hcut := trim_any _ _ wr hrow (dgs_lt w32 _ _)
      rw [hval.out] at hcut
      have hcut' := Lib.hid hcut
      have hm0 : ((m / W32 ^ 0 % y : Nat) : Int) = ((m % y : Nat) : Int) := by simp
      rw [hm0]
      have hmy := Nat.mod_lt m hy
      have hwr : ((m % y : Nat) : Int) % 4294967296 = ((m % y : Nat) : Int) := by omega
      generalize hmr : m % y = r at hwr hmy ⊢
      replace hmr := Lib.hid hmr
      clear hown hcut hm0
      go_wp2_with fail
      refine hcut'.out.mono ?_
      rintro e w' ⟨⟨v, rfl, hL⟩, j, rfl⟩
      have hL' := Lib.hid hL
      clear hL
      go_wp2
      go_ret2
      exact ⟨_, by rw [hmr.out]; rfl, hL'.out.keep (below_drewN (Below.refl _ _) j), below_drewN bel j⟩
    · obtain ⟨k, rfl⟩ : ∃ k', k = k' + 1 := ⟨k - 1, by omega⟩
      have hi : (((k + 1 : Nat) : Int) - 1) = (k : Int) := by omega
      rw [hi]
      obtain ⟨b1, o1, c1, hv1, hl1, hc1⟩ := hA (by omega)
      simp only [Value.slice.injEq] at hv1
      obtain ⟨rfl, -, rfl⟩ := hv1
      have q1 := (bel.cell hl1).trans (hc1 k (by omega))
      obtain ⟨g, cap'', hg, -, -, -, hcg, hfg⟩ := hown.at (by rw [u32s_length, shL_length]; omega)
      simp only [Value.slice.injEq, Option.some.injEq, Addr.mk.injEq, and_true] at hg
      obtain ⟨rfl, -, -⟩ := hg
      have hcg' := hcg k (by rw [u32s_length, shL_length]; omega)
      have hfg' := hfg k
      obtain ⟨G, z0, z1, z2, z3⟩ := hrd.out k
      obtain ⟨w1, w2, w3, w4⟩ := hbm.out k
      have hset := Lib.hid (shL_set W32 (m / y) L k)
      have hsz := bel.size
      simp only [show W32 = 4294967296 from rfl] at w1 w3
      clear hc1 hcg hfg hown hi
      generalize m / W32 ^ (k + 1) % y = r at z0 w4 ⊢
      generalize hr' : m / W32 ^ k % y = r' at z2 w2
      replace hr' := Lib.hid hr'
      generalize dgt W32 m k = x at q1 z0 w1
      generalize dgt W32 (m / y) k = d at z1 w3 hset
      generalize (u32s (shL W32 (m / y) L (k + 1))).getD k undef = old at hcg'
      have y1 : (G : Int) / (y : Int) = (d : Int) := by rw [← z1]; simp
      have y2 : (G : Int) % (y : Int) = (r' : Int) := by rw [← z2]; simp
      have y3 : (G : Int).tdiv (y : Int) = (d : Int) := by rw [Int.tdiv_eq_ediv_of_nonneg (by omega)]; exact y1
      have y4 : (G : Int).tmod (y : Int) = (r' : Int) := by rw [Int.tmod_eq_emod_of_nonneg (by omega)]; exact y2
      have v0 : r < 4294967296 := by omega
      have v1 : r' < 4294967296 := by omega
      clear z1 z2
      go_wp2
      go_roundw
      case rel =>
        refine ⟨k, by omega, by go_num, by rw [hr'.out], ?_, bel.setCell (Nat.le_refl _) _⟩
        have := hown'.out.set k (.int .u32 (d : Int))
        rw [u32s_set, hset.out] at this
        exact this
      case measure => simp [intOf]
end Go.Proofs.Ytjkekhiceadpgaa
