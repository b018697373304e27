/- l01Plus of the specification: the sum of two long numbers. Conditions: both have fewer than 10^12 digits. -/
import Derived.Test.YtjkekhiceadpgaaLong
namespace Go.Proofs.Ytjkekhiceadpgaa
open Go.RowKit Go.Deep
set_option linter.unusedVariables false

theorem lg_info : (Try.prog.info? 2).map (fun i => (i.zero, i.size, i.bytes)) = some (some (.int .i64 0), 1, 8) := by kernel_rfl
theorem lg_type {w : World} {lo n size : Nat} {e : TypeId} {v : Value} {vs : List Value} (h : w.ownsRow lo e size v n vs) {k : Nat} (hk : v.ownBlock = some k) : lo ≤ k ∧ ∃ cur, w.heap[k]? = some (.cells cur e (0, 0)) := by
  rcases h.2 with ⟨rfl, _⟩ | ⟨g, cap, cur, rfl, hg, hh, _⟩
  · simp [Value.ownBlock] at hk
  · simp [Value.ownBlock] at hk; subst hk; exact ⟨hg, cur, hh⟩
theorem lg_shape {w : World} {lo n : Nat} {e : TypeId} {v : Value} {vs : List Value} (h : w.ownsRow lo e 1 v n vs) (hn : 0 < n) : ∃ g cap, v = .slice (some ⟨g, 0, none⟩) n cap := by
  rcases h.2 with ⟨_, h0⟩ | ⟨g, cap, cur, rfl, _⟩
  · omega
  · exact ⟨g, cap, rfl⟩
theorem nats_dgs_succ (B s k : Nat) : ints (nats (dgs B s (k + 1))) = ints (nats (dgs B s k)) ++ [.int .i64 (dgt B s k : Int)] := by
  rw [dgs_succ]; simp [ints]
theorem plus_round (m n k : Nat) : ((carry B9 m n k : Int) + (dgt B9 m k : Int) + (dgt B9 n k : Int)).tmod 1000000000 = (dgt B9 (m + n) k : Int) ∧
    ((carry B9 m n k : Int) + (dgt B9 m k : Int) + (dgt B9 n k : Int)).tdiv 1000000000 = (carry B9 m n (k + 1) : Int) := by
  obtain ⟨h1, h2⟩ := sum_step b9 m n k
  rw [h1, h2]
  generalize carry B9 m n k = c
  generalize dgt B9 m k = x
  generalize dgt B9 n k = y
  rw [Int.tmod_eq_emod_of_nonneg (by omega), Int.tdiv_eq_ediv_of_nonneg (by omega)]
  simp only [B9]
  omega
theorem LongS.made {w : World} {lo : Nat} {v : Value} {s : Nat} (h : w.ownsRow lo 2 1 v (dlen B9 s) (ints (nats (dgs B9 s (dlen B9 s))))) (hs : dlen B9 s ≤ maxLen) : LongS w v s := by
  exact (Own.of h (Nat.le_refl _)).row

set_option maxRecDepth 100000 in
set_option maxHeartbeats 4000000 in
theorem l01Plus_any (a b : Value) (m n : Nat) (w : World) (ha : LongS w a m) (hb : LongS w b n) (sm : dlen B9 m ≤ 1000000000000) (sn : dlen B9 n ≤ 1000000000000) :
    Calls Try.prog 79 #[a, b] w fun e w' => ∃ v, e = .returned v ∧ LongS w' v (m + n) ∧ Below w.heap.size w w' := by
  obtain ⟨hm1, a1, cap1, rfl⟩ := ha.len
  obtain ⟨hm2, a2, cap2, rfl⟩ := hb.len
  unfold maxLen at hm1 hm2
  have hA := ha.at
  have hBt := hb.at
  have hdone := Lib.hid (fun k => plus_done b9 (a := m) (b := n) (k := k))
  have hmore := Lib.hid (fun k => plus_more b9 (a := m) (b := n) (k := k))
  have hbm := Lib.hid (fun k => And.intro (dgt_lt b9 m k) (And.intro (dgt_lt b9 n k) (carry_le b9 m n k)))
  have hzm := Lib.hid (fun k (h : dlen B9 m ≤ k) => dgt_big (lt_of_dlen b9 h))
  have hzn := Lib.hid (fun k (h : dlen B9 n ≤ k) => dgt_big (lt_of_dlen b9 h))
  have hs15 := plus_len b9 sm sn
  obtain ⟨i0, hi, hz0, hz1, hz2⟩ := info_parts lg_info
  have hi' := Lib.hid hi; have hz0' := Lib.hid hz0; have hz1' := Lib.hid hz1; have hz2' := Lib.hid hz2
  clear ha hb hi hz0 hz1 hz2
  generalize hL1 : dlen B9 m = L1 at hm1 hA hdone hmore hzm sm ⊢
  generalize hL2 : dlen B9 n = L2 at hm2 hBt hdone hmore hzn sn ⊢
  replace hL1 := Lib.hid hL1
  replace hL2 := Lib.hid hL2
  go_enter Try.func79, Try.ntmps79
  go_wp2
  go_loopw [5, 6, 7] (fun v cv i wr => ∃ (k g gc : Nat), k ≤ dlen B9 (m + n) ∧ i = .int .i64 k ∧ cv = .int .i64 (carry B9 m n k : Nat) ∧ v = .slice (some ⟨g, 0, none⟩) k gc ∧ wr.ownsRow w.heap.size 2 1 (.slice (some ⟨g, 0, none⟩) k gc) k (ints (nats (dgs B9 (m + n) k))) ∧ Below w.heap.size w wr) (fun _ _ i _ => dlen B9 (m + n) - (intOf i).toNat)
  case atStart =>
    exact ⟨0, _, _, Nat.zero_le _, rfl, by rw [carry_zero]; rfl, rfl, by simpa [dgs] using World.ownsRow_made w #[] 0 (Nat.le_refl _) (Nat.zero_le _) (by simp), below1 _ _⟩
  case round =>
    obtain ⟨k, g, gc, hk, rfl, rfl, rfl, hown, bel⟩ := hrel
    have hsz := bel.size
    have hown' := Lib.hid hown
    obtain ⟨w1, w2, w3⟩ := hbm.out k
    have w4 := (hbm.out (k + 1)).2.2
    have w5 := dgt_lt b9 (m + n) k
    obtain ⟨z1, z2⟩ := plus_round m n k
    simp only [show B9 = 1000000000 from rfl] at w1 w2 w5
    clear hown
    have u1 : True := trivial
    by_cases hq1 : k < L1
    · by_cases hq2 : k < L2
      · · have hcc : True := trivial
          have hm' := Lib.hid (hmore.out k (Or.inl hq1))
          have hk1 : k < dlen B9 (m + n) := hm'.out
          obtain ⟨b1, o1, c1, hv1, hl1, hc1⟩ := hA (by omega)
          simp only [Value.slice.injEq] at hv1
          obtain ⟨rfl, _, rfl⟩ := hv1
          have q1 := (bel.cell hl1).trans (hc1 k (by omega))
          clear hc1
          obtain ⟨b2, o2, c2, hv2, hl2, hc2⟩ := hBt (by omega)
          simp only [Value.slice.injEq] at hv2
          obtain ⟨rfl, _, rfl⟩ := hv2
          have q2 := (bel.cell hl2).trans (hc2 k (by omega))
          clear hc2
          generalize dgt B9 m k = x at q1 z1 z2 w1
          generalize dgt B9 n k = y at q2 z1 z2 w2
          generalize carry B9 m n k = c at z1 z2 w3 hcc ⊢
          go_wp2_with (at_builtin; (refine wpList_append_own _ rfl _ _ 46 rfl w.heap.size 2 i0 (.int .i64 0) 1 8 Try.underlying46 hi'.out hz0'.out hz1'.out hz2'.out rfl (by decide) _ _ _ rfl (hown'.out.alloc _) ⟨wr.heap.size, 0, none⟩ 1 1 [.int .i64 (dgt B9 (m + n) k : Nat)] rfl rfl (one_new _ _ _) (by simp [Value.oneCell']) (by unfold maxLen; omega) (by omega) (by simp; omega) ?_); intro v' w5 hown5 hgr5 _; obtain ⟨g2, c2, rfl⟩ := lg_shape hown5 (by omega))
          go_roundw
          case rel =>
            refine ⟨k + 1, g2, c2, hm'.out, by go_num, rfl, rfl, ?_, ?_⟩
            · rw [nats_dgs_succ]; exact hown5
            · exact (bel.alloc hsz _).grown hgr5 (by simp; omega) (fun k' hk' => (lg_type hown'.out hk').1)
          case measure => simp [intOf]; omega
      · · have hcc : True := trivial
          have hm' := Lib.hid (hmore.out k (Or.inl hq1))
          have hk1 : k < dlen B9 (m + n) := hm'.out
          obtain ⟨b1, o1, c1, hv1, hl1, hc1⟩ := hA (by omega)
          simp only [Value.slice.injEq] at hv1
          obtain ⟨rfl, _, rfl⟩ := hv1
          have q1 := (bel.cell hl1).trans (hc1 k (by omega))
          clear hc1
          rw [hzn.out k (by omega)] at z1 z2
          simp only [Int.natCast_zero, Int.add_zero] at z1 z2
          generalize dgt B9 m k = x at q1 z1 z2 w1
          generalize carry B9 m n k = c at z1 z2 w3 hcc ⊢
          go_wp2_with (at_builtin; (refine wpList_append_own _ rfl _ _ 46 rfl w.heap.size 2 i0 (.int .i64 0) 1 8 Try.underlying46 hi'.out hz0'.out hz1'.out hz2'.out rfl (by decide) _ _ _ rfl (hown'.out.alloc _) ⟨wr.heap.size, 0, none⟩ 1 1 [.int .i64 (dgt B9 (m + n) k : Nat)] rfl rfl (one_new _ _ _) (by simp [Value.oneCell']) (by unfold maxLen; omega) (by omega) (by simp; omega) ?_); intro v' w5 hown5 hgr5 _; obtain ⟨g2, c2, rfl⟩ := lg_shape hown5 (by omega))
          go_roundw
          case rel =>
            refine ⟨k + 1, g2, c2, hm'.out, by go_num, rfl, rfl, ?_, ?_⟩
            · rw [nats_dgs_succ]; exact hown5
            · exact (bel.alloc hsz _).grown hgr5 (by simp; omega) (fun k' hk' => (lg_type hown'.out hk').1)
          case measure => simp [intOf]; omega
    · by_cases hq2 : k < L2
      · · have hcc : True := trivial
          have hm' := Lib.hid (hmore.out k (Or.inr (Or.inl hq2)))
          have hk1 : k < dlen B9 (m + n) := hm'.out
          obtain ⟨b2, o2, c2, hv2, hl2, hc2⟩ := hBt (by omega)
          simp only [Value.slice.injEq] at hv2
          obtain ⟨rfl, _, rfl⟩ := hv2
          have q2 := (bel.cell hl2).trans (hc2 k (by omega))
          clear hc2
          rw [hzm.out k (by omega)] at z1 z2
          simp only [Int.natCast_zero, Int.add_zero] at z1 z2
          generalize dgt B9 n k = y at q2 z1 z2 w2
          generalize carry B9 m n k = c at z1 z2 w3 hcc ⊢
          go_wp2_with (at_builtin; (refine wpList_append_own _ rfl _ _ 46 rfl w.heap.size 2 i0 (.int .i64 0) 1 8 Try.underlying46 hi'.out hz0'.out hz1'.out hz2'.out rfl (by decide) _ _ _ rfl (hown'.out.alloc _) ⟨wr.heap.size, 0, none⟩ 1 1 [.int .i64 (dgt B9 (m + n) k : Nat)] rfl rfl (one_new _ _ _) (by simp [Value.oneCell']) (by unfold maxLen; omega) (by omega) (by simp; omega) ?_); intro v' w5 hown5 hgr5 _; obtain ⟨g2, c2, rfl⟩ := lg_shape hown5 (by omega))
          go_roundw
          case rel =>
            refine ⟨k + 1, g2, c2, hm'.out, by go_num, rfl, rfl, ?_, ?_⟩
            · rw [nats_dgs_succ]; exact hown5
            · exact (bel.alloc hsz _).grown hgr5 (by simp; omega) (fun k' hk' => (lg_type hown'.out hk').1)
          case measure => simp [intOf]; omega
      · by_cases hcc : 0 < carry B9 m n k
        · have hm' := Lib.hid (hmore.out k (Or.inr (Or.inr hcc)))
          have hk1 : k < dlen B9 (m + n) := hm'.out
          rw [hzm.out k (by omega)] at z1 z2
          simp only [Int.natCast_zero, Int.add_zero] at z1 z2
          rw [hzn.out k (by omega)] at z1 z2
          simp only [Int.natCast_zero, Int.add_zero] at z1 z2
          generalize carry B9 m n k = c at z1 z2 w3 hcc ⊢
          go_wp2_with (at_builtin; (refine wpList_append_own _ rfl _ _ 46 rfl w.heap.size 2 i0 (.int .i64 0) 1 8 Try.underlying46 hi'.out hz0'.out hz1'.out hz2'.out rfl (by decide) _ _ _ rfl (hown'.out.alloc _) ⟨wr.heap.size, 0, none⟩ 1 1 [.int .i64 (dgt B9 (m + n) k : Nat)] rfl rfl (one_new _ _ _) (by simp [Value.oneCell']) (by unfold maxLen; omega) (by omega) (by simp; omega) ?_); intro v' w5 hown5 hgr5 _; obtain ⟨g2, c2, rfl⟩ := lg_shape hown5 (by omega))
          go_roundw
          case rel =>
            refine ⟨k + 1, g2, c2, hm'.out, by go_num, rfl, rfl, ?_, ?_⟩
            · rw [nats_dgs_succ]; exact hown5
            · exact (bel.alloc hsz _).grown hgr5 (by simp; omega) (fun k' hk' => (lg_type hown'.out hk').1)
          case measure => simp [intOf]; omega
        · have hcz : carry B9 m n k = 0 := by omega
          have he := hdone.out k (by omega) (by omega) hcz
          obtain rfl : k = dlen B9 (m + n) := by omega
          have hL := Lib.hid (LongS.made hown'.out (by unfold maxLen; omega))
          rw [hcz]
          go_wp2
          go_ret
          exact ⟨_, rfl, hL.out, bel⟩
end Go.Proofs.Ytjkekhiceadpgaa
