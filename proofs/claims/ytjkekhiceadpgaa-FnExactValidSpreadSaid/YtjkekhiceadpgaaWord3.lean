/- minus of the project: the difference of two long numbers, of which the first one is not less. Conditions: fewer than 10^12 words. -/
import Derived.Test.YtjkekhiceadpgaaWord2
namespace Go.Proofs.Ytjkekhiceadpgaa
open Go.RowKit Go.Deep
set_option linter.unusedVariables false

/-- one word of a difference, as the code computes it: the gap in 64 bits -/
theorem minusw_round {m n : Nat} (h : n ≤ m) (k : Nat) : ∃ G : Nat, IntKind.u64.wrap ((dgt W32 m k : Int) - ((borrow W32 m n k : Int) + (dgt W32 n k : Int))) = (G : Int) ∧ (G : Int) % 4294967296 = (dgt W32 (m - n) k : Int) ∧ (G : Int) / 9223372036854775808 = (borrow W32 m n (k + 1) : Int) := by
  obtain ⟨h1, h2⟩ := less_step w32 h k
  have d1 := dgt_lt w32 m k
  have d2 := dgt_lt w32 n k
  have d3 := dgt_lt w32 (m - n) k
  have hb : borrow W32 m n k ≤ 1 := by unfold borrow; split <;> omega
  rcases Nat.lt_or_ge (dgt W32 m k) (dgt W32 n k + borrow W32 m n k) with c | c
  · obtain ⟨e1, e2⟩ := h1 c
    rw [e1]
    generalize dgt W32 m k = x at *
    generalize dgt W32 n k = y at *
    generalize dgt W32 (m - n) k = d at *
    generalize borrow W32 m n k = b at *
    simp only [W32] at *
    refine ⟨x + 18446744073709551616 - (b + y), ?_, ?_, ?_⟩
    · rw [IntKind.wrap_u64]; omega
    · omega
    · omega
  · obtain ⟨e1, e2⟩ := h2 c
    rw [e1]
    generalize dgt W32 m k = x at *
    generalize dgt W32 n k = y at *
    generalize dgt W32 (m - n) k = d at *
    generalize borrow W32 m n k = b at *
    simp only [W32] at *
    refine ⟨x - (b + y), ?_, ?_, ?_⟩
    · rw [IntKind.wrap_u64]; omega
    · omega
    · omega

set_option maxRecDepth 100000 in
set_option maxHeartbeats 4000000 in
theorem minus_any (a b : Value) (m n : Nat) (w : World) (ha : LongI w a m) (hb : LongI w b n) (hle : n ≤ m) (sm : dlen W32 m ≤ 1000000000000) :
    Calls Try.prog 89 #[a, b] w fun e w' => ∃ v, e = .returned v ∧ LongI w' v (m - n) ∧ Below w.heap.size w w' := by
  obtain ⟨hm1, a1, cap1, rfl⟩ := ha.len
  obtain ⟨hm2, a2, cap2, rfl⟩ := hb.len
  unfold maxLen at hm1 hm2
  have hA := fun h => ha.at h
  have hBt := fun h => hb.at h
  have hrd := Lib.hid (fun k => minusw_round hle k)
  have hbm := Lib.hid (fun k => And.intro (dgt_lt w32 m k) (And.intro (dgt_lt w32 n k) (show borrow W32 m n k ≤ 1 by unfold borrow; split <;> omega)))
  have hzn := Lib.hid (fun k (h : dlen W32 n ≤ k) => dgt_big (lt_of_dlen w32 h))
  have hdl := dlen_mono w32 hle
  have hend := Lib.hid (val_dgs_small (Nat.lt_of_le_of_lt (Nat.sub_le m n) (lt_dlen w32 m)))
  have hmk := run_make_row' (P := Try.prog) 91 163 (.int .u32 0) 4 Try.underlying91 word_info rfl .i64 .i64 (dlen W32 m) (by omega) (by omega)
  clear ha hb
  generalize hL1 : dlen W32 m = L1 at hm1 hA sm hmk hend hdl ⊢
  generalize hL2 : dlen W32 n = L2 at hm2 hBt hzn hdl ⊢
  clear hL1 hL2
  go_enter Try.func89, Try.ntmps89
  go_wp2
  go_loopw [6, 16] (fun cv iv wr => ∃ k : Nat, k ≤ L1 ∧ cv = .int .u64 (borrow W32 m n k : Nat) ∧ iv = .int .i64 (k : Int) ∧ Own wr w.heap.size (w.heap.size + 1) 163 (.slice (some ⟨w.heap.size, 0, none⟩) L1 L1) (u32s (dz W32 (m - n) k L1)) ∧ Below w.heap.size w wr) (fun _ iv _ => L1 - (intOf iv).toNat)
  case atStart =>
    refine ⟨0, Nat.zero_le _, by rw [borrow_zero]; rfl, rfl, ?_, (Below.refl _ _).alloc (Nat.le_refl _) _⟩
    have := Own.made w (.int .u32 0) L1 163 (by unfold maxLen; omega)
    rw [dz_zero]
    simpa [u32s] using this
  case round =>
    obtain ⟨k, hk, rfl, rfl, hown, bel⟩ := hrel
    have hown' := Lib.hid hown
    have hsz := bel.size
    by_cases hlt : k < L1
    · obtain ⟨g, cap'', hg, -, -, -, hcg, hfg⟩ := hown.at (by rw [u32s_length, dz_length _ _ _ _ (by omega)]; omega)
      simp only [Value.slice.injEq, Option.some.injEq, Addr.mk.injEq, and_true] at hg
      obtain ⟨rfl, -, -⟩ := hg
      have hcg' := hcg k (by rw [u32s_length, dz_length _ _ _ _ (by omega)]; omega)
      have hfg' := hfg k
      generalize (u32s (dz W32 (m - n) k L1)).getD k undef = old at hcg'
      clear hcg hfg hown
      obtain ⟨w1, w2, w3⟩ := hbm.out k
      obtain ⟨G, z0, z1, z2⟩ := hrd.out k
      have hset := Lib.hid (dz_set W32 (m - n) k L1 (by omega))
      obtain ⟨b1, o1, c1, hv1, hl1, hc1⟩ := hA (by omega)
      simp only [Value.slice.injEq] at hv1
      obtain ⟨rfl, -, rfl⟩ := hv1
      have q1 := (bel.cell hl1).trans (hc1 k hlt)
      simp only [show W32 = 4294967296 from rfl] at w1 w2
      generalize hcc : borrow W32 m n (k + 1) = c' at z2
      replace hcc := Lib.hid hcc
      generalize dgt W32 (m - n) k = d at z1 hset
      clear hc1
      by_cases hlt2 : k < L2
      · obtain ⟨b2, o2, c2, hv2, hl2, hc2⟩ := hBt (by omega)
        simp only [Value.slice.injEq] at hv2
        obtain ⟨rfl, -, rfl⟩ := hv2
        have q2 := (bel.cell hl2).trans (hc2 k hlt2)
        clear hc2
        generalize dgt W32 m k = x at q1 z0 w1
        generalize dgt W32 n k = y at q2 z0 w2
        generalize borrow W32 m n k = c at z0 w3 ⊢
        go_wp2
        go_roundw
        case rel =>
          refine ⟨k + 1, by omega, by rw [hcc.out], by go_num, ?_, bel.setCell (Nat.le_refl _) _⟩
          have := hown'.out.set k (.int .u32 (d : Int))
          rw [u32s_set, hset.out] at this
          exact this
        case measure => simp [intOf]; omega
      · rw [hzn.out k (by omega)] at z0
        simp only [Int.natCast_zero, Int.add_zero] at z0
        generalize dgt W32 m k = x at q1 z0 w1
        generalize borrow W32 m n k = c at z0 w3 ⊢
        go_wp2
        go_roundw
        case rel =>
          refine ⟨k + 1, by omega, by rw [hcc.out], by go_num, ?_, bel.setCell (Nat.le_refl _) _⟩
          have := hown'.out.set k (.int .u32 (d : Int))
          rw [u32s_set, hset.out] at this
          exact this
        case measure => simp [intOf]; omega
    · obtain rfl : k = L1 := by omega
      have hrow : Wd wr (.slice (some ⟨w.heap.size, 0, none⟩) k k) (dgs W32 (m - n) k) := by
        have := hown.row
        rw [dz_all] at this
        exact this
      have hT := trim_any _ _ wr hrow (dgs_lt w32 _ _)
      rw [hend.out] at hT
      have hT' := Lib.hid hT
      clear hT hown hrow
      go_wp2_with fail
      refine hT'.out.mono ?_
      rintro e w' ⟨⟨v, rfl, hL⟩, j, rfl⟩
      have hL' := Lib.hid hL
      clear hL
      go_wp2
      go_ret
      exact ⟨_, rfl, hL'.out.keep (below_drewN (Below.refl _ _) j), below_drewN bel j⟩
end Go.Proofs.Ytjkekhiceadpgaa
