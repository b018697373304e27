/- plus of the project: the sum of two long numbers. Conditions: fewer than 10^12 words. -/
import Derived.Test.YtjkekhiceadpgaaWord
namespace Go.Proofs.Ytjkekhiceadpgaa
open Go.RowKit Go.Deep
set_option linter.unusedVariables false

theorem word_info : (Try.prog.info? 163).map (fun i => (i.zero, i.size, i.bytes)) = some (some (.int .u32 0), 1, 4) := by kernel_rfl
theorem plusw_round (m n k : Nat) : ((carry W32 m n k : Int) + (dgt W32 m k : Int) + (dgt W32 n k : Int)) % 4294967296 = (dgt W32 (m + n) k : Int) ∧
    ((carry W32 m n k : Int) + (dgt W32 m k : Int) + (dgt W32 n k : Int)) / 4294967296 = (carry W32 m n (k + 1) : Int) := by
  obtain ⟨h1, h2⟩ := sum_step w32 m n k
  rw [h1, h2]
  simp only [W32]
  omega
/-- the carry behind the last word is the last word -/
theorem plus_top {m n : Nat} (hle : dlen W32 n ≤ dlen W32 m) : carry W32 m n (dlen W32 m) = dgt W32 (m + n) (dlen W32 m) ∧ m + n < W32 ^ (dlen W32 m + 1) := by
  have h := (sum_step w32 m n (dlen W32 m)).1
  rw [dgt_big (lt_dlen w32 m), dgt_big (lt_of_dlen w32 hle)] at h
  have h1 := carry_le w32 m n (dlen W32 m)
  refine ⟨?_, lt_of_dlen w32 (plus_len w32 (Nat.le_refl _) hle)⟩
  rw [h, Nat.mod_eq_of_lt]
  · simp only [Nat.add_zero]
  · have : (1 : Nat) < W32 := by decide
    omega

set_option maxRecDepth 100000 in
set_option maxHeartbeats 4000000 in
theorem plus_ge (a b : Value) (m n : Nat) (w : World) (ha : LongI w a m) (hb : LongI w b n) (hle : dlen W32 n ≤ dlen W32 m)  (sm : dlen W32 m ≤ 1000000000000) :
    Calls Try.prog 85 #[a, b] w fun e w' => ∃ v, e = .returned v ∧ LongI w' v (m + n) ∧ Below w.heap.size w w' := by
  obtain ⟨hm1, a1, cap1, rfl⟩ := ha.len
  obtain ⟨hm2, a2, cap2, rfl⟩ := hb.len
  unfold maxLen at hm1 hm2
  have hA := fun h => ha.at h
  have hBt := fun h => hb.at h
  have hbm := Lib.hid (fun k => And.intro (dgt_lt w32 m k) (And.intro (dgt_lt w32 n k) (carry_le w32 m n k)))
  have hzn := Lib.hid (fun k (h : dlen W32 n ≤ k) => dgt_big (lt_of_dlen w32 h))
  have hend := Lib.hid (plus_top (m := m) (n := n) hle)
  have hmk := run_make_row' (P := Try.prog) 91 163 (.int .u32 0) 4 Try.underlying91 word_info rfl .i64 .i64 (dlen W32 m + 1) (by omega) (by omega)
  rw [Int.natCast_add, Int.natCast_one] at hmk
  clear ha hb
  generalize hL1 : dlen W32 m = L1 at hm1 hA sm hmk hle hend ⊢
  generalize hL2 : dlen W32 n = L2 at hm2 hBt hzn hle ⊢
  clear hL1 hL2
  have htest : ¬ (L1 : Int) < (L2 : Int) := by omega
  go_enter Try.func85, Try.ntmps85
  go_wp2
  go_loopw [6, 22] (fun cv iv wr => ∃ k : Nat, k ≤ L1 ∧ cv = .int .u64 (carry W32 m n k : Nat) ∧ iv = .int .i64 (k : Int) ∧ Own wr w.heap.size (w.heap.size + 1) 163 (.slice (some ⟨w.heap.size, 0, none⟩) (L1 + 1) (L1 + 1)) (u32s (dz W32 (m + n) k (L1 + 1))) ∧ Below w.heap.size w wr) (fun _ iv _ => L1 - (intOf iv).toNat)
  case atStart =>
    refine ⟨0, Nat.zero_le _, by rw [carry_zero]; rfl, rfl, ?_, (Below.refl _ _).alloc (Nat.le_refl _) _⟩
    have := Own.made w (.int .u32 0) (L1 + 1) 163 (by unfold maxLen; omega)
    rw [dz_zero]
    simpa [u32s] using this
  case round =>
    obtain ⟨k, hk, rfl, rfl, hown, bel⟩ := hrel
    have hown' := Lib.hid hown
    have hsz := bel.size
    obtain ⟨g, cap'', hg, -, -, -, hcg, hfg⟩ := hown.at (by rw [u32s_length, dz_length _ _ _ _ (by omega)]; omega)
    simp only [Value.slice.injEq, Option.some.injEq, Addr.mk.injEq, and_true] at hg
    obtain ⟨rfl, -, -⟩ := hg
    have hcg' := hcg k (by rw [u32s_length, dz_length _ _ _ _ (by omega)]; omega)
    have hfg' := hfg k
    generalize (u32s (dz W32 (m + n) k (L1 + 1))).getD k undef = old at hcg'
    clear hcg hfg hown
    by_cases hlt : k < L1
    · obtain ⟨w1, w2, w3⟩ := hbm.out k
      have w4 := (hbm.out (k + 1)).2.2
      have w5 := dgt_lt w32 (m + n) k
      obtain ⟨z1, z2⟩ := plusw_round m n k
      have hset := Lib.hid (dz_set W32 (m + n) k (L1 + 1) (by omega))
      obtain ⟨b1, o1, c1, hv1, hl1, hc1⟩ := hA (by omega)
      simp only [Value.slice.injEq] at hv1
      obtain ⟨rfl, -, rfl⟩ := hv1
      have q1 := (bel.cell hl1).trans (hc1 k hlt)
      simp only [show W32 = 4294967296 from rfl] at w1 w2 w5
      generalize hcc : carry W32 m n (k + 1) = c' at z2 w4
      replace hcc := Lib.hid hcc
      generalize dgt W32 (m + n) k = d at z1 w5 hset
      clear hc1
      by_cases hlt2 : k < L2
      · obtain ⟨b2, o2, c2, hv2, hl2, hc2⟩ := hBt (by omega)
        simp only [Value.slice.injEq] at hv2
        obtain ⟨rfl, -, rfl⟩ := hv2
        have q2 := (bel.cell hl2).trans (hc2 k hlt2)
        clear hc2
        generalize dgt W32 m k = x at q1 z1 z2 w1
        generalize dgt W32 n k = y at q2 z1 z2 w2
        generalize carry W32 m n k = c at z1 z2 w3 ⊢
        go_wp2
        go_roundw
        case rel =>
          refine ⟨k + 1, by omega, by rw [hcc.out], by go_num, ?_, bel.setCell (Nat.le_refl _) _⟩
          have := hown'.out.set k (.int .u32 (d : Int))
          rw [u32s_set, hset.out] at this
          exact this
        case measure => simp [intOf]; omega
      · rw [hzn.out k (by omega)] at z1 z2
        simp only [Int.natCast_zero, Int.add_zero] at z1 z2
        generalize dgt W32 m k = x at q1 z1 z2 w1
        generalize carry W32 m n k = c at z1 z2 w3 ⊢
        go_wp2
        go_roundw
        case rel =>
          refine ⟨k + 1, by omega, by rw [hcc.out], by go_num, ?_, bel.setCell (Nat.le_refl _) _⟩
          have := hown'.out.set k (.int .u32 (d : Int))
          rw [u32s_set, hset.out] at this
          exact this
        case measure => simp [intOf]; omega
    · obtain rfl : k = L1 := by omega
      have w3 := (hbm.out k).2.2
      obtain ⟨e1, e2⟩ := hend.out
      have hset := Lib.hid (dz_set W32 (m + n) k (k + 1) (by omega))
      rw [← e1] at hset
      have hT := Lib.hid (fun (W : World) (h : Own W w.heap.size (w.heap.size + 1) 163 (.slice (some ⟨w.heap.size, 0, none⟩) (k + 1) (k + 1)) (u32s (dz W32 (m + n) (k + 1) (k + 1)))) => by
        have h2 := h.row
        rw [dz_all] at h2
        have h3 := trim_any _ _ W h2 (dgs_lt w32 _ _)
        rw [val_dgs_small e2] at h3
        exact h3)
      clear e1 e2
      generalize carry W32 m n k = c at hset w3 ⊢
      have hwr : ((c : Nat) : Int) % 4294967296 = (c : Int) := by omega
      go_wp2_with fail
      have hown2 := hown'.out.set k (.int .u32 (c : Int))
      rw [u32s_set, hset.out] at hown2
      refine (hT.out _ hown2).mono ?_
      rintro e w' ⟨⟨v, rfl, hL⟩, j, rfl⟩
      have hL' := Lib.hid hL
      clear hL hown2
      go_wp2
      go_ret
      exact ⟨_, rfl, hL'.out.keep (below_drewN (Below.refl _ _) j), below_drewN (bel.setCell (Nat.le_refl _) _) j⟩

set_option maxRecDepth 100000 in
set_option maxHeartbeats 4000000 in
theorem plus_lt (a b : Value) (m n : Nat) (w : World) (ha : LongI w a m) (hb : LongI w b n) (hle : dlen W32 n ≤ dlen W32 m) (hlt0 : dlen W32 n < dlen W32 m) (sm : dlen W32 m ≤ 1000000000000) :
    Calls Try.prog 85 #[b, a] w fun e w' => ∃ v, e = .returned v ∧ LongI w' v (m + n) ∧ Below w.heap.size w w' := by
  obtain ⟨hm1, a1, cap1, rfl⟩ := ha.len
  obtain ⟨hm2, a2, cap2, rfl⟩ := hb.len
  unfold maxLen at hm1 hm2
  have hA := fun h => ha.at h
  have hBt := fun h => hb.at h
  have hbm := Lib.hid (fun k => And.intro (dgt_lt w32 m k) (And.intro (dgt_lt w32 n k) (carry_le w32 m n k)))
  have hzn := Lib.hid (fun k (h : dlen W32 n ≤ k) => dgt_big (lt_of_dlen w32 h))
  have hend := Lib.hid (plus_top (m := m) (n := n) hle)
  have hmk := run_make_row' (P := Try.prog) 91 163 (.int .u32 0) 4 Try.underlying91 word_info rfl .i64 .i64 (dlen W32 m + 1) (by omega) (by omega)
  rw [Int.natCast_add, Int.natCast_one] at hmk
  clear ha hb
  generalize hL1 : dlen W32 m = L1 at hm1 hA sm hmk hle hend hlt0 ⊢
  generalize hL2 : dlen W32 n = L2 at hm2 hBt hzn hle hlt0 ⊢
  clear hL1 hL2
  have htest : (L2 : Int) < (L1 : Int) := by omega
  clear hlt0
  go_enter Try.func85, Try.ntmps85
  go_wp2
  go_loopw [6, 22] (fun cv iv wr => ∃ k : Nat, k ≤ L1 ∧ cv = .int .u64 (carry W32 m n k : Nat) ∧ iv = .int .i64 (k : Int) ∧ Own wr w.heap.size (w.heap.size + 1) 163 (.slice (some ⟨w.heap.size, 0, none⟩) (L1 + 1) (L1 + 1)) (u32s (dz W32 (m + n) k (L1 + 1))) ∧ Below w.heap.size w wr) (fun _ iv _ => L1 - (intOf iv).toNat)
  case atStart =>
    refine ⟨0, Nat.zero_le _, by rw [carry_zero]; rfl, rfl, ?_, (Below.refl _ _).alloc (Nat.le_refl _) _⟩
    have := Own.made w (.int .u32 0) (L1 + 1) 163 (by unfold maxLen; omega)
    rw [dz_zero]
    simpa [u32s] using this
  case round =>
    obtain ⟨k, hk, rfl, rfl, hown, bel⟩ := hrel
    have hown' := Lib.hid hown
    have hsz := bel.size
    obtain ⟨g, cap'', hg, -, -, -, hcg, hfg⟩ := hown.at (by rw [u32s_length, dz_length _ _ _ _ (by omega)]; omega)
    simp only [Value.slice.injEq, Option.some.injEq, Addr.mk.injEq, and_true] at hg
    obtain ⟨rfl, -, -⟩ := hg
    have hcg' := hcg k (by rw [u32s_length, dz_length _ _ _ _ (by omega)]; omega)
    have hfg' := hfg k
    generalize (u32s (dz W32 (m + n) k (L1 + 1))).getD k undef = old at hcg'
    clear hcg hfg hown
    by_cases hlt : k < L1
    · obtain ⟨w1, w2, w3⟩ := hbm.out k
      have w4 := (hbm.out (k + 1)).2.2
      have w5 := dgt_lt w32 (m + n) k
      obtain ⟨z1, z2⟩ := plusw_round m n k
      have hset := Lib.hid (dz_set W32 (m + n) k (L1 + 1) (by omega))
      obtain ⟨b1, o1, c1, hv1, hl1, hc1⟩ := hA (by omega)
      simp only [Value.slice.injEq] at hv1
      obtain ⟨rfl, -, rfl⟩ := hv1
      have q1 := (bel.cell hl1).trans (hc1 k hlt)
      simp only [show W32 = 4294967296 from rfl] at w1 w2 w5
      generalize hcc : carry W32 m n (k + 1) = c' at z2 w4
      replace hcc := Lib.hid hcc
      generalize dgt W32 (m + n) k = d at z1 w5 hset
      clear hc1
      by_cases hlt2 : k < L2
      · obtain ⟨b2, o2, c2, hv2, hl2, hc2⟩ := hBt (by omega)
        simp only [Value.slice.injEq] at hv2
        obtain ⟨rfl, -, rfl⟩ := hv2
        have q2 := (bel.cell hl2).trans (hc2 k hlt2)
        clear hc2
        generalize dgt W32 m k = x at q1 z1 z2 w1
        generalize dgt W32 n k = y at q2 z1 z2 w2
        generalize carry W32 m n k = c at z1 z2 w3 ⊢
        go_wp2
        go_roundw
        case rel =>
          refine ⟨k + 1, by omega, by rw [hcc.out], by go_num, ?_, bel.setCell (Nat.le_refl _) _⟩
          have := hown'.out.set k (.int .u32 (d : Int))
          rw [u32s_set, hset.out] at this
          exact this
        case measure => simp [intOf]; omega
      · rw [hzn.out k (by omega)] at z1 z2
        simp only [Int.natCast_zero, Int.add_zero] at z1 z2
        generalize dgt W32 m k = x at q1 z1 z2 w1
        generalize carry W32 m n k = c at z1 z2 w3 ⊢
        go_wp2
        go_roundw
        case rel =>
          refine ⟨k + 1, by omega, by rw [hcc.out], by go_num, ?_, bel.setCell (Nat.le_refl _) _⟩
          have := hown'.out.set k (.int .u32 (d : Int))
          rw [u32s_set, hset.out] at this
          exact this
        case measure => simp [intOf]; omega
    · obtain rfl : k = L1 := by omega
      have w3 := (hbm.out k).2.2
      obtain ⟨e1, e2⟩ := hend.out
      have hset := Lib.hid (dz_set W32 (m + n) k (k + 1) (by omega))
      rw [← e1] at hset
      have hT := Lib.hid (fun (W : World) (h : Own W w.heap.size (w.heap.size + 1) 163 (.slice (some ⟨w.heap.size, 0, none⟩) (k + 1) (k + 1)) (u32s (dz W32 (m + n) (k + 1) (k + 1)))) => by
        have h2 := h.row
        rw [dz_all] at h2
        have h3 := trim_any _ _ W h2 (dgs_lt w32 _ _)
        rw [val_dgs_small e2] at h3
        exact h3)
      clear e1 e2
      generalize carry W32 m n k = c at hset w3 ⊢
      have hwr : ((c : Nat) : Int) % 4294967296 = (c : Int) := by omega
      go_wp2_with fail
      have hown2 := hown'.out.set k (.int .u32 (c : Int))
      rw [u32s_set, hset.out] at hown2
      refine (hT.out _ hown2).mono ?_
      rintro e w' ⟨⟨v, rfl, hL⟩, j, rfl⟩
      have hL' := Lib.hid hL
      clear hL hown2
      go_wp2
      go_ret
      exact ⟨_, rfl, hL'.out.keep (below_drewN (Below.refl _ _) j), below_drewN (bel.setCell (Nat.le_refl _) _) j⟩

theorem plus_any (a b : Value) (m n : Nat) (w : World) (ha : LongI w a m) (hb : LongI w b n) (sm : dlen W32 m ≤ 1000000000000) (sn : dlen W32 n ≤ 1000000000000) :
    Calls Try.prog 85 #[a, b] w fun e w' => ∃ v, e = .returned v ∧ LongI w' v (m + n) ∧ Below w.heap.size w w' := by
  by_cases h : dlen W32 n ≤ dlen W32 m
  · exact plus_ge a b m n w ha hb h sm
  · rw [Nat.add_comm]
    exact plus_lt b a n m w hb ha (by omega) (by omega) sn
end Go.Proofs.Ytjkekhiceadpgaa
