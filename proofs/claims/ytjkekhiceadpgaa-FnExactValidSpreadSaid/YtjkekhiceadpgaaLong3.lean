/- l01Less of the specification: the difference of two long numbers. Conditions: the second is not above the first; fewer than 10^12 digits. -/
import Derived.Test.YtjkekhiceadpgaaLong2
namespace Go.Proofs.Ytjkekhiceadpgaa
open Go.RowKit Go.Deep
set_option linter.unusedVariables false

theorem borrow_le (B a b i : Nat) : borrow B a b i ≤ 1 := by unfold borrow; split <;> omega

set_option maxRecDepth 100000 in
set_option maxHeartbeats 4000000 in
theorem l01Less_any (a b : Value) (m n : Nat) (w : World) (ha : LongS w a m) (hb : LongS w b n) (hle : n ≤ m) (sm : dlen B9 m ≤ 1000000000000) :
    Calls Try.prog 124 #[a, b] w fun e w' => ∃ v, e = .returned v ∧ LongS w' v (m - n) ∧ Below w.heap.size w w' := by
  obtain ⟨hm1, a1, cap1, rfl⟩ := ha.len
  obtain ⟨hm2, a2, cap2, rfl⟩ := hb.len
  unfold maxLen at hm1 hm2
  have hA := ha.at
  have hBt := hb.at
  have hstep := Lib.hid (fun k => less_step b9 hle k)
  have hbm := Lib.hid (fun k => And.intro (dgt_lt b9 m k) (And.intro (dgt_lt b9 n k) (borrow_le B9 m n k)))
  have hzn := Lib.hid (fun k (h : dlen B9 n ≤ k) => dgt_big (lt_of_dlen b9 h))
  have hval := Lib.hid (show val B9 (dgs B9 (m - n) (dlen B9 m)) = m - n by
    rw [val_dgs]; exact Nat.mod_eq_of_lt (Nat.lt_of_le_of_lt (Nat.sub_le m n) (lt_dlen b9 m)))
  obtain ⟨i0, hi, hz0, hz1, hz2⟩ := info_parts lg_info
  have hi' := Lib.hid hi; have hz0' := Lib.hid hz0; have hz1' := Lib.hid hz1; have hz2' := Lib.hid hz2
  clear ha hb hi hz0 hz1 hz2
  generalize hL1 : dlen B9 m = L1 at hm1 hA sm hval ⊢
  generalize hL2 : dlen B9 n = L2 at hm2 hBt hzn ⊢
  replace hL1 := Lib.hid hL1
  replace hL2 := Lib.hid hL2
  go_enter Try.func124, Try.ntmps124
  go_wp2
  go_loopw [5, 6, 7] (fun v cv i wr => ∃ (k g gc : Nat), k ≤ L1 ∧ i = .int .i64 k ∧ cv = .int .i64 (borrow B9 m n k : Nat) ∧ v = .slice (some ⟨g, 0, none⟩) k gc ∧ wr.ownsRow w.heap.size 2 1 (.slice (some ⟨g, 0, none⟩) k gc) k (ints (nats (dgs B9 (m - n) k))) ∧ Below w.heap.size w wr) (fun _ _ i _ => L1 - (intOf i).toNat)
  case atStart =>
    exact ⟨0, _, _, Nat.zero_le _, rfl, by rw [borrow_zero]; rfl, rfl, by simpa [dgs] using World.ownsRow_made w #[] 0 (Nat.le_refl _) (Nat.zero_le _) (by simp), below1 _ _⟩
  case round =>
    obtain ⟨k, g, gc, hk, rfl, rfl, rfl, hown, bel⟩ := hrel
    have hsz := bel.size
    have hown' := Lib.hid hown
    obtain ⟨w1, w2, w3⟩ := hbm.out k
    have hst := hstep.out k
    simp only [show B9 = 1000000000 from rfl] at w1 w2
    clear hown
    by_cases hq1 : k < L1
    · by_cases hcmp : dgt B9 m k < dgt B9 n k + borrow B9 m n k
      · by_cases hq2 : k < L2
        · skip
          obtain ⟨e1, e2⟩ := hst.1 (by omega)
          have hbw := Lib.hid e1
          obtain ⟨b1, o1, c1, hv1, hl1, hc1⟩ := hA (by omega)
          simp only [Value.slice.injEq] at hv1
          obtain ⟨rfl, _, rfl⟩ := hv1
          have q1 := (bel.cell hl1).trans (hc1 k (by omega))
          clear hc1
          obtain ⟨b2, o2, c2, hv2, hl2, hc2⟩ := hBt (by omega)
          simp only [Value.slice.injEq] at hv2
          obtain ⟨rfl, _, rfl⟩ := hv2
          have q2 := (bel.cell hl2).trans (hc2 k (by omega))
          clear hc2
          clear hst e1
          generalize dgt B9 m k = x at q1 e2 w1 hcmp
          generalize dgt B9 n k = y at q2 e2 w2 hcmp
          generalize borrow B9 m n k = c at e2 w3 hcmp ⊢
          have hE := Lib.hid (show (x : Int) - (c : Int) - (y : Int) + 1000000000 = (dgt B9 (m - n) k : Int) by have hB9 : B9 = 1000000000 := rfl; omega)
          clear e2
          go_wp2_with (at_builtin; (refine wpList_append_own _ rfl _ _ 46 rfl w.heap.size 2 i0 (.int .i64 0) 1 8 Try.underlying46 hi'.out hz0'.out hz1'.out hz2'.out rfl (by decide) _ _ _ rfl (hown'.out.alloc _) ⟨wr.heap.size, 0, none⟩ 1 1 [.int .i64 ((x : Int) - (c : Int) - (y : Int) + 1000000000)] rfl rfl (one_new _ _ _) (by simp [Value.oneCell']) (by unfold maxLen; omega) (by omega) (by simp; omega) ?_); intro v' w5 hown5 hgr5 _; obtain ⟨g2, c2, rfl⟩ := lg_shape hown5 (by omega))
          go_roundw
          case rel =>
            refine ⟨k + 1, g2, c2, by omega, by go_num, by rw [hbw.out]; rfl, rfl, ?_, ?_⟩
            · rw [nats_dgs_succ, ← hE.out]; exact hown5
            · exact (bel.alloc hsz _).grown hgr5 (by simp; omega) (fun k' hk' => (lg_type hown'.out hk').1)
          case measure => simp [intOf]; omega
        · skip
          obtain ⟨e1, e2⟩ := hst.1 (by omega)
          have hbw := Lib.hid e1
          obtain ⟨b1, o1, c1, hv1, hl1, hc1⟩ := hA (by omega)
          simp only [Value.slice.injEq] at hv1
          obtain ⟨rfl, _, rfl⟩ := hv1
          have q1 := (bel.cell hl1).trans (hc1 k (by omega))
          clear hc1
          rw [hzn.out k (by omega)] at e2 hcmp
          clear hst e1
          generalize dgt B9 m k = x at q1 e2 w1 hcmp
          generalize borrow B9 m n k = c at e2 w3 hcmp ⊢
          have hE := Lib.hid (show (x : Int) - (c : Int) + 1000000000 = (dgt B9 (m - n) k : Int) by have hB9 : B9 = 1000000000 := rfl; omega)
          clear e2
          go_wp2_with (at_builtin; (refine wpList_append_own _ rfl _ _ 46 rfl w.heap.size 2 i0 (.int .i64 0) 1 8 Try.underlying46 hi'.out hz0'.out hz1'.out hz2'.out rfl (by decide) _ _ _ rfl (hown'.out.alloc _) ⟨wr.heap.size, 0, none⟩ 1 1 [.int .i64 ((x : Int) - (c : Int) + 1000000000)] rfl rfl (one_new _ _ _) (by simp [Value.oneCell']) (by unfold maxLen; omega) (by omega) (by simp; omega) ?_); intro v' w5 hown5 hgr5 _; obtain ⟨g2, c2, rfl⟩ := lg_shape hown5 (by omega))
          go_roundw
          case rel =>
            refine ⟨k + 1, g2, c2, by omega, by go_num, by rw [hbw.out]; rfl, rfl, ?_, ?_⟩
            · rw [nats_dgs_succ, ← hE.out]; exact hown5
            · exact (bel.alloc hsz _).grown hgr5 (by simp; omega) (fun k' hk' => (lg_type hown'.out hk').1)
          case measure => simp [intOf]; omega
      · by_cases hq2 : k < L2
        · skip
          obtain ⟨e1, e2⟩ := hst.2 (by omega)
          have hbw := Lib.hid e1
          obtain ⟨b1, o1, c1, hv1, hl1, hc1⟩ := hA (by omega)
          simp only [Value.slice.injEq] at hv1
          obtain ⟨rfl, _, rfl⟩ := hv1
          have q1 := (bel.cell hl1).trans (hc1 k (by omega))
          clear hc1
          obtain ⟨b2, o2, c2, hv2, hl2, hc2⟩ := hBt (by omega)
          simp only [Value.slice.injEq] at hv2
          obtain ⟨rfl, _, rfl⟩ := hv2
          have q2 := (bel.cell hl2).trans (hc2 k (by omega))
          clear hc2
          clear hst e1
          generalize dgt B9 m k = x at q1 e2 w1 hcmp
          generalize dgt B9 n k = y at q2 e2 w2 hcmp
          generalize borrow B9 m n k = c at e2 w3 hcmp ⊢
          have hE := Lib.hid (show (x : Int) - (c : Int) - (y : Int) = (dgt B9 (m - n) k : Int) by have hB9 : B9 = 1000000000 := rfl; omega)
          clear e2
          go_wp2_with (at_builtin; (refine wpList_append_own _ rfl _ _ 46 rfl w.heap.size 2 i0 (.int .i64 0) 1 8 Try.underlying46 hi'.out hz0'.out hz1'.out hz2'.out rfl (by decide) _ _ _ rfl (hown'.out.alloc _) ⟨wr.heap.size, 0, none⟩ 1 1 [.int .i64 ((x : Int) - (c : Int) - (y : Int))] rfl rfl (one_new _ _ _) (by simp [Value.oneCell']) (by unfold maxLen; omega) (by omega) (by simp; omega) ?_); intro v' w5 hown5 hgr5 _; obtain ⟨g2, c2, rfl⟩ := lg_shape hown5 (by omega))
          go_roundw
          case rel =>
            refine ⟨k + 1, g2, c2, by omega, by go_num, by rw [hbw.out]; rfl, rfl, ?_, ?_⟩
            · rw [nats_dgs_succ, ← hE.out]; exact hown5
            · exact (bel.alloc hsz _).grown hgr5 (by simp; omega) (fun k' hk' => (lg_type hown'.out hk').1)
          case measure => simp [intOf]; omega
        · skip
          obtain ⟨e1, e2⟩ := hst.2 (by omega)
          have hbw := Lib.hid e1
          obtain ⟨b1, o1, c1, hv1, hl1, hc1⟩ := hA (by omega)
          simp only [Value.slice.injEq] at hv1
          obtain ⟨rfl, _, rfl⟩ := hv1
          have q1 := (bel.cell hl1).trans (hc1 k (by omega))
          clear hc1
          rw [hzn.out k (by omega)] at e2 hcmp
          clear hst e1
          generalize dgt B9 m k = x at q1 e2 w1 hcmp
          generalize borrow B9 m n k = c at e2 w3 hcmp ⊢
          have hE := Lib.hid (show (x : Int) - (c : Int) = (dgt B9 (m - n) k : Int) by have hB9 : B9 = 1000000000 := rfl; omega)
          clear e2
          go_wp2_with (at_builtin; (refine wpList_append_own _ rfl _ _ 46 rfl w.heap.size 2 i0 (.int .i64 0) 1 8 Try.underlying46 hi'.out hz0'.out hz1'.out hz2'.out rfl (by decide) _ _ _ rfl (hown'.out.alloc _) ⟨wr.heap.size, 0, none⟩ 1 1 [.int .i64 ((x : Int) - (c : Int))] rfl rfl (one_new _ _ _) (by simp [Value.oneCell']) (by unfold maxLen; omega) (by omega) (by simp; omega) ?_); intro v' w5 hown5 hgr5 _; obtain ⟨g2, c2, rfl⟩ := lg_shape hown5 (by omega))
          go_roundw
          case rel =>
            refine ⟨k + 1, g2, c2, by omega, by go_num, by rw [hbw.out]; rfl, rfl, ?_, ?_⟩
            · rw [nats_dgs_succ, ← hE.out]; exact hown5
            · exact (bel.alloc hsz _).grown hgr5 (by simp; omega) (fun k' hk' => (lg_type hown'.out hk').1)
          case measure => simp [intOf]; omega
    · obtain rfl : k = L1 := by omega
      have hrow : Ints wr (.slice (some ⟨g, 0, none⟩) k gc) (nats (dgs B9 (m - n) k)) := (Own.of hown'.out (Nat.le_refl _)).row
      have hcut := l01Cut_any _ _ wr hrow (fun x hx => by simp only [dgs, List.mem_map] at hx; obtain ⟨j, _, rfl⟩ := hx; exact dgt_lt b9 _ _)
      rw [hval.out] at hcut
      go_wp2_with fail
      refine hcut.mono ?_
      rintro e w' ⟨⟨v, rfl, hL⟩, j, rfl⟩
      go_wp2
      go_ret
      exact ⟨_, rfl, hL.keep (below_drewN (Below.refl _ _) j), below_drewN bel j⟩
end Go.Proofs.Ytjkekhiceadpgaa
