/- LongG: several texts in one (Long, Long2, Long3, Long4, Long5, Long6). Conditions: told in each. -/
import Derived.Test.YtiddhnnofpbopaaDoorNumG
/- The specification's long numbers: digits in base 10^9, the lowest first, in int64s. Conditions: none. -/
namespace Go.Proofs.YtiddhnnofpbopaaDoor
open Go.RowKit Go.Deep
set_option linter.unusedVariables false

abbrev B9 : Nat := 1000000000
theorem b9 : 2 ≤ B9 := by decide
def longS (n : Nat) : List Int := (dgs B9 n (dlen B9 n)).map Int.ofNat
def LongS (w : World) (v : Value) (n : Nat) : Prop := Ints w v (longS n)
theorem longS_length (n : Nat) : (longS n).length = dlen B9 n := by simp [longS, dgs_length]
theorem dgs_getD (B n L i : Nat) (h : i < L) : (dgs B n L).getD i 0 = dgt B n i := by simp [dgs, List.getD, h]
theorem longS_getD (n i : Nat) (h : i < dlen B9 n) : (longS n).getD i 0 = (dgt B9 n i : Int) := by
  simp [longS, List.getD, dgs, h]
theorem LongS.keep {w w' : World} {v : Value} {n : Nat} (h : LongS w v n) (hb : Below w.heap.size w w') : LongS w' v n := Ints.keep h hb
theorem LongS.len {w : World} {v : Value} {n : Nat} (h : LongS w v n) : dlen B9 n ≤ maxLen ∧ ∃ a cap, v = .slice a (dlen B9 n) cap := by
  have := Ints.len h
  rwa [longS_length] at this
theorem LongS.at {w : World} {v : Value} {n : Nat} (h : LongS w v n) (hne : 0 < dlen B9 n) :
    ∃ b off cap, v = .slice (some ⟨b, off, none⟩) (dlen B9 n) cap ∧ b < w.heap.size ∧ ∀ i, i < dlen B9 n → w.cell? ⟨b, off + i, none⟩ = some (.int .i64 (dgt B9 n i : Int)) := by
  obtain ⟨b, off, cap, hv, hb, hc⟩ := Ints.at h (by rw [longS_length]; exact hne)
  rw [longS_length] at hv hc
  exact ⟨b, off, cap, hv, hb, fun i hi => by rw [hc i hi, longS_getD n i hi]⟩

def cmpI (m n : Nat) : Int := if m < n then -1 else if n < m then 1 else 0
theorem cmpI_lt {m n : Nat} (h : m < n) : cmpI m n = -1 := by simp [cmpI, h]
theorem cmpI_gt {m n : Nat} (h : n < m) : cmpI m n = 1 := by unfold cmpI; rw [if_neg (by omega), if_pos h]
theorem cmpI_eq {m n : Nat} (h : m = n) : cmpI m n = 0 := by subst h; simp [cmpI]

set_option maxHeartbeats 2000000 in
theorem l01Cmp_any (a b : Value) (m n : Nat) (w : World) (ha : LongS w a m) (hb : LongS w b n) :
    Calls Tryd.prog 43 #[a, b] w fun e w' => e = .returned (.int .i64 (cmpI m n)) ∧ ∃ k, w' = w.drewN k := by
  obtain ⟨hm1, a1, cap1, rfl⟩ := ha.len
  obtain ⟨hm2, a2, cap2, rfl⟩ := hb.len
  unfold maxLen at hm1 hm2
  by_cases hl : dlen B9 m = dlen B9 n
  · have hl' := Lib.hid hl
    have hA := ha.at
    have hBt := hb.at
    have hm9 := lt_dlen b9 m
    have hn9 := lt_dlen b9 n
    have h0 : Hid (m / B9 ^ dlen B9 m = n / B9 ^ dlen B9 m) := Lib.hid (by rw [Nat.div_eq_of_lt hm9, Nat.div_eq_of_lt (by rw [hl]; exact hn9)])
    rw [← hl] at hBt ⊢
    clear hl hm9 hn9 ha hb
    generalize dlen B9 m = L at hm1 hA hBt h0 hl' ⊢
    go_enter Tryd.func43, Tryd.ntmps43
    go_wp2
    go_loopw [5] (fun i wr => ∃ k j : Nat, k ≤ L ∧ i = .int .i64 ((k : Int) - 1) ∧ wr = w.drewN j ∧ Hid (m / B9 ^ k = n / B9 ^ k)) (fun i _ => (intOf i + 1).toNat)
    case atStart => exact ⟨L, 0, Nat.le_refl _, by go_num, rfl, h0⟩
    case round =>
      obtain ⟨k, j, hk, rfl, rfl, ht⟩ := hrel
      rcases Nat.eq_zero_or_pos k with rfl | hpos
      · have hq := Lib.hid (cmpI_eq (show m = n by have := ht.out; simpa using this))
        go_wp2
        go_ret
        exact ⟨ret_int hq.out.symm, _, rfl⟩
      · obtain ⟨k, rfl⟩ : ∃ k', k = k' + 1 := ⟨k - 1, by omega⟩
        have hi : (((k + 1 : Nat) : Int) - 1) = (k : Int) := by omega
        rw [hi]
        obtain ⟨b1, o1, c1, hv1, _, hc1⟩ := hA (by omega)
        obtain ⟨b2, o2, c2, hv2, _, hc2⟩ := hBt (by omega)
        simp only [Value.slice.injEq] at hv1 hv2
        obtain ⟨rfl, _, rfl⟩ := hv1
        obtain ⟨rfl, _, rfl⟩ := hv2
        have h1 := hc1 k (by omega)
        have h2 := hc2 k (by omega)
        have hs := cmp_step b9 ht.out
        have hs' := cmp_step b9 ht.out.symm
        clear hc1 hc2 hi
        rcases Nat.lt_trichotomy (dgt B9 m k) (dgt B9 n k) with hd | hd | hd
        · have hq := Lib.hid (cmpI_lt (hs.2 hd))
          clear hs hs'
          generalize dgt B9 m k = x at h1 hd
          generalize dgt B9 n k = y at h2 hd
          go_wp2
          go_quiet (fail)
          go_wp2
          go_quiet (fail)
          go_wp2
          go_ret
          exact ⟨ret_int hq.out.symm, _, by rw [World.drewN_drewN, World.drewN_drewN]⟩
        · have hq := Lib.hid (hs.1 hd)
          clear hs hs'
          rw [← hd] at h2
          generalize dgt B9 m k = x at h1 h2
          go_wp2
          go_quiet (fail)
          go_wp2
          go_roundw
          case rel => exact ⟨k, _, by omega, by go_num, rfl, hq⟩
          case measure => simp [intOf]
        · have hq := Lib.hid (cmpI_gt (hs'.2 hd))
          clear hs hs'
          generalize dgt B9 m k = x at h1 hd
          generalize dgt B9 n k = y at h2 hd
          go_wp2
          go_quiet (fail)
          go_wp2
          go_quiet (fail)
          go_wp2
          go_ret
          exact ⟨ret_int hq.out.symm, _, by rw [World.drewN_drewN, World.drewN_drewN]⟩
  · go_enter Tryd.func43, Tryd.ntmps43
    rcases Nat.lt_or_gt_of_ne hl with hlt | hlt
    · have hq := Lib.hid (cmpI_lt (lt_of_dlen_lt b9 hlt))
      go_wp2
      go_ret
      exact ⟨ret_int hq.out.symm, 0, rfl⟩
    · have hq := Lib.hid (cmpI_gt (lt_of_dlen_lt b9 hlt))
      go_wp2
      go_ret
      exact ⟨ret_int hq.out.symm, 0, rfl⟩

abbrev nats (l : List Nat) : List Int := l.map Int.ofNat
theorem nats_getD (l : List Nat) (i : Nat) (h : i < l.length) : (nats l).getD i 0 = (l.getD i 0 : Int) := by simp [List.getD, h]
theorem LongS.ofCut {w : World} {a : Option Addr} {cap : Nat} {l : List Nat} (h : Ints w (.slice a l.length cap) (nats l)) (hd : ∀ x ∈ l, x < B9) (k : Nat) (hk : k ≤ l.length)
    (hv : val B9 (l.take k) = val B9 l) (ht : k = 0 ∨ l.getD (k - 1) 0 ≠ 0) : LongS w (.slice a k cap) (val B9 l) := by
  obtain ⟨h1, h2⟩ := cut_done b9 l hd k hk hv ht
  have := Ints.pre h k (by simpa using hk)
  rw [← List.map_take, h2] at this
  unfold LongS longS
  rw [h1]; exact this

set_option maxHeartbeats 2000000 in
theorem l01Cut_any (a : Value) (l : List Nat) (w : World) (ha : Ints w a (nats l)) (hd : ∀ x ∈ l, x < B9) :
    Calls Tryd.prog 31 #[a] w fun e w' => (∃ v, e = .returned v ∧ LongS w v (val B9 l)) ∧ ∃ k, w' = w.drewN k := by
  have hm1 := ha.len.1
  obtain ⟨a1, cap1, hva, hk1, hk2⟩ := ha.caps
  rw [show (nats l).length = l.length by simp] at hm1 hva hk1
  subst hva
  unfold maxLen at hm1 hk2
  have hC := Lib.hid (fun k => LongS.ofCut ha hd k)
  have hA : 0 < l.length → _ := fun h => ha.at (show 0 < (nats l).length by simpa using h)
  rw [show (nats l).length = l.length by simp] at hA
  go_enter Tryd.func31, Tryd.ntmps31
  go_wp2
  go_loopw [3] (fun i wr => ∃ k j : Nat, k ≤ l.length ∧ i = .int .i64 k ∧ wr = w.drewN j ∧ Hid (val B9 (l.take k) = val B9 l)) (fun i _ => (intOf i).toNat)
  case atStart => exact ⟨l.length, 0, Nat.le_refl _, rfl, rfl, by rw [List.take_length]; exact rfl⟩
  case round =>
    obtain ⟨k, j, hk, rfl, rfl, ht⟩ := hrel
    rcases Nat.eq_zero_or_pos k with rfl | hpos
    · have hq := hC.out 0 hk ht.out (Or.inl rfl)
      go_wp2
      go_ret
      exact ⟨⟨_, rfl, hq⟩, _, rfl⟩
    · obtain ⟨k, rfl⟩ : ∃ k', k = k' + 1 := ⟨k - 1, by omega⟩
      obtain ⟨b1, o1, c1, hv1, _, hc1⟩ := hA (by omega)
      simp only [Value.slice.injEq] at hv1
      obtain ⟨rfl, _, rfl⟩ := hv1
      have h1 := hc1 k (by omega)
      rw [nats_getD l k (by omega)] at h1
      have hs := take_step (B := B9) l k (by omega)
      by_cases hz : l.getD k 0 = 0
      · have hq : Hid (val B9 (l.take k) = val B9 l) := Lib.hid (by rw [hz] at hs; have := ht.out; omega)
        rw [hz] at h1
        clear hz hs hc1
        go_wp2
        go_roundw
        case rel => exact ⟨k, _, by omega, by go_num, rfl, hq⟩
        case measure => simp [intOf]
      · have hq := hC.out (k + 1) hk ht.out (Or.inr (by simpa using hz))
        have hz' : (l.getD k 0 : Int) ≠ 0 := by omega
        generalize (l.getD k 0 : Int) = x at h1 hz'
        clear hz hs hc1
        have hcap : k + 1 ≤ cap1 := by omega
        go_wp2
        go_ret
        exact ⟨⟨_, rfl, hq⟩, _, rfl⟩
end Go.Proofs.YtiddhnnofpbopaaDoor

/- l01Plus of the specification: the sum of two long numbers. Conditions: both have fewer than 10^12 digits. -/
namespace Go.Proofs.YtiddhnnofpbopaaDoor
open Go.RowKit Go.Deep
set_option linter.unusedVariables false

theorem lg_info : (Tryd.prog.info? 2).map (fun i => (i.zero, i.size, i.bytes)) = some (some (.int .i64 0), 1, 8) := by kernel_rfl
theorem lg_type {w : World} {lo n size : Nat} {e : TypeId} {v : Value} {vs : List Value} (h : w.ownsRow lo e size v n vs) {k : Nat} (hk : v.ownBlock = some k) : lo ≤ k ∧ ∃ cur, w.heap[k]? = some (.cells cur e (0, 0)) := by
  rcases h.2 with ⟨rfl, _⟩ | ⟨g, cap, cur, rfl, hg, hh, _⟩
  · simp [Value.ownBlock] at hk
  · simp [Value.ownBlock] at hk; subst hk; exact ⟨hg, cur, hh⟩
theorem lg_shape {w : World} {lo n : Nat} {e : TypeId} {v : Value} {vs : List Value} (h : w.ownsRow lo e 1 v n vs) (hn : 0 < n) : ∃ g cap, v = .slice (some ⟨g, 0, none⟩) n cap := by
  rcases h.2 with ⟨_, h0⟩ | ⟨g, cap, cur, rfl, _⟩
  · omega
  · exact ⟨g, cap, rfl⟩
theorem nats_dgs_succ (B s k : Nat) : ints (nats (dgs B s (k + 1))) = ints (nats (dgs B s k)) ++ [.int .i64 (dgt B s k : Int)] := by
  rw [dgs_succ]; simp [ints]
theorem plus_round (m n k : Nat) : ((carry B9 m n k : Int) + (dgt B9 m k : Int) + (dgt B9 n k : Int)).tmod 1000000000 = (dgt B9 (m + n) k : Int) ∧
    ((carry B9 m n k : Int) + (dgt B9 m k : Int) + (dgt B9 n k : Int)).tdiv 1000000000 = (carry B9 m n (k + 1) : Int) := by
  obtain ⟨h1, h2⟩ := sum_step b9 m n k
  rw [h1, h2]
  generalize carry B9 m n k = c
  generalize dgt B9 m k = x
  generalize dgt B9 n k = y
  rw [Int.tmod_eq_emod_of_nonneg (by omega), Int.tdiv_eq_ediv_of_nonneg (by omega)]
  simp only [B9]
  omega
theorem LongS.made {w : World} {lo : Nat} {v : Value} {s : Nat} (h : w.ownsRow lo 2 1 v (dlen B9 s) (ints (nats (dgs B9 s (dlen B9 s))))) (hs : dlen B9 s ≤ maxLen) : LongS w v s := by
  exact (Own.of h (Nat.le_refl _)).row

end Go.Proofs.YtiddhnnofpbopaaDoor

/- l01Less of the specification: the difference of two long numbers. Conditions: the second is not above the first; fewer than 10^12 digits. -/
namespace Go.Proofs.YtiddhnnofpbopaaDoor
open Go.RowKit Go.Deep
set_option linter.unusedVariables false

theorem borrow_le (B a b i : Nat) : borrow B a b i ≤ 1 := by unfold borrow; split <;> omega

set_option maxRecDepth 100000 in
set_option maxHeartbeats 4000000 in
theorem l01Less_any (a b : Value) (m n : Nat) (w : World) (ha : LongS w a m) (hb : LongS w b n) (hle : n ≤ m) (sm : dlen B9 m ≤ 1000000000000) :
    Calls Tryd.prog 34 #[a, b] w fun e w' => ∃ v, e = .returned v ∧ LongS w' v (m - n) ∧ Below w.heap.size w w' := by
  obtain ⟨hm1, a1, cap1, rfl⟩ := ha.len
  obtain ⟨hm2, a2, cap2, rfl⟩ := hb.len
  unfold maxLen at hm1 hm2
  have hA := ha.at
  have hBt := hb.at
  have hstep := Lib.hid (fun k => less_step b9 hle k)
  have hbm := Lib.hid (fun k => And.intro (dgt_lt b9 m k) (And.intro (dgt_lt b9 n k) (borrow_le B9 m n k)))
  have hzn := Lib.hid (fun k (h : dlen B9 n ≤ k) => dgt_big (lt_of_dlen b9 h))
  have hval := Lib.hid (show val B9 (dgs B9 (m - n) (dlen B9 m)) = m - n by
    rw [val_dgs]; exact Nat.mod_eq_of_lt (Nat.lt_of_le_of_lt (Nat.sub_le m n) (lt_dlen b9 m)))
  obtain ⟨i0, hi, hz0, hz1, hz2⟩ := info_parts lg_info
  have hi' := Lib.hid hi; have hz0' := Lib.hid hz0; have hz1' := Lib.hid hz1; have hz2' := Lib.hid hz2
  clear ha hb hi hz0 hz1 hz2
  generalize hL1 : dlen B9 m = L1 at hm1 hA sm hval ⊢
  generalize hL2 : dlen B9 n = L2 at hm2 hBt hzn ⊢
  replace hL1 := Lib.hid hL1
  replace hL2 := Lib.hid hL2
  go_enter Tryd.func34, Tryd.ntmps34
  go_wp2
  go_loopw [5, 6, 7] (fun v cv i wr => ∃ (k g gc : Nat), k ≤ L1 ∧ i = .int .i64 k ∧ cv = .int .i64 (borrow B9 m n k : Nat) ∧ v = .slice (some ⟨g, 0, none⟩) k gc ∧ wr.ownsRow w.heap.size 2 1 (.slice (some ⟨g, 0, none⟩) k gc) k (ints (nats (dgs B9 (m - n) k))) ∧ Below w.heap.size w wr) (fun _ _ i _ => L1 - (intOf i).toNat)
  case atStart =>
    exact ⟨0, _, _, Nat.zero_le _, rfl, by rw [borrow_zero]; rfl, rfl, by simpa [dgs] using World.ownsRow_made w #[] 0 (Nat.le_refl _) (Nat.zero_le _) (by simp), below1 _ _⟩
  case round =>
    obtain ⟨k, g, gc, hk, rfl, rfl, rfl, hown, bel⟩ := hrel
    have hsz := bel.size
    have hown' := Lib.hid hown
    obtain ⟨w1, w2, w3⟩ := hbm.out k
    have hst := hstep.out k
    simp only [show B9 = 1000000000 from rfl] at w1 w2
    clear hown
    by_cases hq1 : k < L1
    · by_cases hcmp : dgt B9 m k < dgt B9 n k + borrow B9 m n k
      · by_cases hq2 : k < L2
        · skip
          obtain ⟨e1, e2⟩ := hst.1 (by omega)
          have hbw := Lib.hid e1
          obtain ⟨b1, o1, c1, hv1, hl1, hc1⟩ := hA (by omega)
          simp only [Value.slice.injEq] at hv1
          obtain ⟨rfl, _, rfl⟩ := hv1
          have q1 := (bel.cell hl1).trans (hc1 k (by omega))
          clear hc1
          obtain ⟨b2, o2, c2, hv2, hl2, hc2⟩ := hBt (by omega)
          simp only [Value.slice.injEq] at hv2
          obtain ⟨rfl, _, rfl⟩ := hv2
          have q2 := (bel.cell hl2).trans (hc2 k (by omega))
          clear hc2
          clear hst e1
          generalize dgt B9 m k = x at q1 e2 w1 hcmp
          generalize dgt B9 n k = y at q2 e2 w2 hcmp
          generalize borrow B9 m n k = c at e2 w3 hcmp ⊢
          have hE := Lib.hid (show (x : Int) - (c : Int) - (y : Int) + 1000000000 = (dgt B9 (m - n) k : Int) by have hB9 : B9 = 1000000000 := rfl; omega)
          clear e2
          go_wp2_with (at_builtin; (refine wpList_append_own _ rfl _ _ 29 rfl w.heap.size 2 i0 (.int .i64 0) 1 8 Tryd.underlying29 hi'.out hz0'.out hz1'.out hz2'.out rfl (by decide) _ _ _ rfl (hown'.out.alloc _) ⟨wr.heap.size, 0, none⟩ 1 1 [.int .i64 ((x : Int) - (c : Int) - (y : Int) + 1000000000)] rfl rfl (one_new _ _ _) (by simp [Value.oneCell']) (by unfold maxLen; omega) (by omega) (by simp; omega) ?_); intro v' w5 hown5 hgr5 _; obtain ⟨g2, c2, rfl⟩ := lg_shape hown5 (by omega))
          go_roundw
          case rel =>
            refine ⟨k + 1, g2, c2, by omega, by go_num, by rw [hbw.out]; rfl, rfl, ?_, ?_⟩
            · rw [nats_dgs_succ, ← hE.out]; exact hown5
            · exact (bel.alloc hsz _).grown hgr5 (by simp; omega) (fun k' hk' => (lg_type hown'.out hk').1)
          case measure => simp [intOf]; omega
        · skip
          obtain ⟨e1, e2⟩ := hst.1 (by omega)
          have hbw := Lib.hid e1
          obtain ⟨b1, o1, c1, hv1, hl1, hc1⟩ := hA (by omega)
          simp only [Value.slice.injEq] at hv1
          obtain ⟨rfl, _, rfl⟩ := hv1
          have q1 := (bel.cell hl1).trans (hc1 k (by omega))
          clear hc1
          rw [hzn.out k (by omega)] at e2 hcmp
          clear hst e1
          generalize dgt B9 m k = x at q1 e2 w1 hcmp
          generalize borrow B9 m n k = c at e2 w3 hcmp ⊢
          have hE := Lib.hid (show (x : Int) - (c : Int) + 1000000000 = (dgt B9 (m - n) k : Int) by have hB9 : B9 = 1000000000 := rfl; omega)
          clear e2
          go_wp2_with (at_builtin; (refine wpList_append_own _ rfl _ _ 29 rfl w.heap.size 2 i0 (.int .i64 0) 1 8 Tryd.underlying29 hi'.out hz0'.out hz1'.out hz2'.out rfl (by decide) _ _ _ rfl (hown'.out.alloc _) ⟨wr.heap.size, 0, none⟩ 1 1 [.int .i64 ((x : Int) - (c : Int) + 1000000000)] rfl rfl (one_new _ _ _) (by simp [Value.oneCell']) (by unfold maxLen; omega) (by omega) (by simp; omega) ?_); intro v' w5 hown5 hgr5 _; obtain ⟨g2, c2, rfl⟩ := lg_shape hown5 (by omega))
          go_roundw
          case rel =>
            refine ⟨k + 1, g2, c2, by omega, by go_num, by rw [hbw.out]; rfl, rfl, ?_, ?_⟩
            · rw [nats_dgs_succ, ← hE.out]; exact hown5
            · exact (bel.alloc hsz _).grown hgr5 (by simp; omega) (fun k' hk' => (lg_type hown'.out hk').1)
          case measure => simp [intOf]; omega
      · by_cases hq2 : k < L2
        · skip
          obtain ⟨e1, e2⟩ := hst.2 (by omega)
          have hbw := Lib.hid e1
          obtain ⟨b1, o1, c1, hv1, hl1, hc1⟩ := hA (by omega)
          simp only [Value.slice.injEq] at hv1
          obtain ⟨rfl, _, rfl⟩ := hv1
          have q1 := (bel.cell hl1).trans (hc1 k (by omega))
          clear hc1
          obtain ⟨b2, o2, c2, hv2, hl2, hc2⟩ := hBt (by omega)
          simp only [Value.slice.injEq] at hv2
          obtain ⟨rfl, _, rfl⟩ := hv2
          have q2 := (bel.cell hl2).trans (hc2 k (by omega))
          clear hc2
          clear hst e1
          generalize dgt B9 m k = x at q1 e2 w1 hcmp
          generalize dgt B9 n k = y at q2 e2 w2 hcmp
          generalize borrow B9 m n k = c at e2 w3 hcmp ⊢
          have hE := Lib.hid (show (x : Int) - (c : Int) - (y : Int) = (dgt B9 (m - n) k : Int) by have hB9 : B9 = 1000000000 := rfl; omega)
          clear e2
          go_wp2_with (at_builtin; (refine wpList_append_own _ rfl _ _ 29 rfl w.heap.size 2 i0 (.int .i64 0) 1 8 Tryd.underlying29 hi'.out hz0'.out hz1'.out hz2'.out rfl (by decide) _ _ _ rfl (hown'.out.alloc _) ⟨wr.heap.size, 0, none⟩ 1 1 [.int .i64 ((x : Int) - (c : Int) - (y : Int))] rfl rfl (one_new _ _ _) (by simp [Value.oneCell']) (by unfold maxLen; omega) (by omega) (by simp; omega) ?_); intro v' w5 hown5 hgr5 _; obtain ⟨g2, c2, rfl⟩ := lg_shape hown5 (by omega))
          go_roundw
          case rel =>
            refine ⟨k + 1, g2, c2, by omega, by go_num, by rw [hbw.out]; rfl, rfl, ?_, ?_⟩
            · rw [nats_dgs_succ, ← hE.out]; exact hown5
            · exact (bel.alloc hsz _).grown hgr5 (by simp; omega) (fun k' hk' => (lg_type hown'.out hk').1)
          case measure => simp [intOf]; omega
        · skip
          obtain ⟨e1, e2⟩ := hst.2 (by omega)
          have hbw := Lib.hid e1
          obtain ⟨b1, o1, c1, hv1, hl1, hc1⟩ := hA (by omega)
          simp only [Value.slice.injEq] at hv1
          obtain ⟨rfl, _, rfl⟩ := hv1
          have q1 := (bel.cell hl1).trans (hc1 k (by omega))
          clear hc1
          rw [hzn.out k (by omega)] at e2 hcmp
          clear hst e1
          generalize dgt B9 m k = x at q1 e2 w1 hcmp
          generalize borrow B9 m n k = c at e2 w3 hcmp ⊢
          have hE := Lib.hid (show (x : Int) - (c : Int) = (dgt B9 (m - n) k : Int) by have hB9 : B9 = 1000000000 := rfl; omega)
          clear e2
          go_wp2_with (at_builtin; (refine wpList_append_own _ rfl _ _ 29 rfl w.heap.size 2 i0 (.int .i64 0) 1 8 Tryd.underlying29 hi'.out hz0'.out hz1'.out hz2'.out rfl (by decide) _ _ _ rfl (hown'.out.alloc _) ⟨wr.heap.size, 0, none⟩ 1 1 [.int .i64 ((x : Int) - (c : Int))] rfl rfl (one_new _ _ _) (by simp [Value.oneCell']) (by unfold maxLen; omega) (by omega) (by simp; omega) ?_); intro v' w5 hown5 hgr5 _; obtain ⟨g2, c2, rfl⟩ := lg_shape hown5 (by omega))
          go_roundw
          case rel =>
            refine ⟨k + 1, g2, c2, by omega, by go_num, by rw [hbw.out]; rfl, rfl, ?_, ?_⟩
            · rw [nats_dgs_succ, ← hE.out]; exact hown5
            · exact (bel.alloc hsz _).grown hgr5 (by simp; omega) (fun k' hk' => (lg_type hown'.out hk').1)
          case measure => simp [intOf]; omega
    · obtain rfl : k = L1 := by omega
      have hrow : Ints wr (.slice (some ⟨g, 0, none⟩) k gc) (nats (dgs B9 (m - n) k)) := (Own.of hown'.out (Nat.le_refl _)).row
      have hcut := l01Cut_any _ _ wr hrow (fun x hx => by simp only [dgs, List.mem_map] at hx; obtain ⟨j, _, rfl⟩ := hx; exact dgt_lt b9 _ _)
      rw [hval.out] at hcut
      go_wp2_with fail
      refine hcut.mono ?_
      rintro e w' ⟨⟨v, rfl, hL⟩, j, rfl⟩
      go_wp2
      go_ret
      exact ⟨_, rfl, hL.keep (below_drewN (Below.refl _ _) j), below_drewN bel j⟩
end Go.Proofs.YtiddhnnofpbopaaDoor

/- l01Short of the specification: a long number divided by one digit. Conditions: the digit is not 0; fewer than 10^12 digits. -/
namespace Go.Proofs.YtiddhnnofpbopaaDoor
open Go.RowKit Go.Deep
set_option linter.unusedVariables false

/-- L digits, those of q from place k on, zeros before it -/
def shL (B q L k : Nat) : List Nat := (List.range L).map fun j => if k ≤ j then dgt B q j else 0
theorem shL_length (B q L k : Nat) : (shL B q L k).length = L := by simp [shL]
theorem shL_zero (B q L : Nat) : shL B q L 0 = dgs B q L := by simp [shL, dgs]
theorem shL_full (B q L : Nat) : shL B q L L = List.replicate L 0 := by
  apply List.ext_getElem
  · simp [shL]
  · intro j h1 h2
    simp only [shL, List.getElem_map, List.getElem_range, List.getElem_replicate]
    rw [if_neg (by simp [shL] at h1; omega)]
theorem shL_set (B q L k : Nat) : (shL B q L (k + 1)).set k (dgt B q k) = shL B q L k := by
  apply List.ext_getElem
  · simp [shL]
  · intro j h1 h2
    simp only [List.getElem_set, shL, List.getElem_map, List.getElem_range]
    by_cases e : k = j
    · subst e; simp
    · rw [if_neg e]
      by_cases e2 : k ≤ j
      · rw [if_pos (by omega), if_pos e2]
      · rw [if_neg (by omega), if_neg e2]
theorem short_round (m y k : Nat) (hy : 0 < y) (hyB : y < B9) :
    ((m / B9 ^ (k + 1) % y : Nat) * 1000000000 + (dgt B9 m k : Int)).tdiv (y : Int) = (dgt B9 (m / y) k : Int) ∧
    ((m / B9 ^ (k + 1) % y : Nat) * 1000000000 + (dgt B9 m k : Int)).tmod (y : Int) = (m / B9 ^ k % y : Nat) := by
  obtain ⟨h1, h2⟩ := short_step b9 m k hy
  rw [← h1, ← h2]
  rw [Int.tmod_eq_emod_of_nonneg (by omega), Int.tdiv_eq_ediv_of_nonneg (by omega)]
  constructor <;> simp [B9]

set_option maxRecDepth 100000 in
set_option maxHeartbeats 4000000 in
theorem l01Short_any (a : Value) (m y : Nat) (w : World) (ha : LongS w a m) (hy : 0 < y) (hyB : y < 1000000000) (sm : dlen B9 m ≤ 1000000000000) :
    Calls Tryd.prog 30 #[a, .int .i64 (y : Int)] w fun e w' => ∃ v, e = .returned (.tuple #[v, .int .i64 (m % y : Nat)]) ∧ LongS w' v (m / y) ∧ Below w.heap.size w w' := by
  obtain ⟨hm1, a1, cap1, rfl⟩ := ha.len
  unfold maxLen at hm1
  have hA := ha.at
  have hrd := Lib.hid (fun k => short_round m y k hy hyB)
  have hbm := Lib.hid (fun k => And.intro (dgt_lt b9 m k) (And.intro (Nat.mod_lt (m / B9 ^ k) hy) (And.intro (dgt_lt b9 (m / y) k) (Nat.mod_lt (m / B9 ^ (k + 1)) hy))))
  have hval := Lib.hid (show val B9 (dgs B9 (m / y) (dlen B9 m)) = m / y by
    rw [val_dgs]; exact Nat.mod_eq_of_lt (Nat.lt_of_le_of_lt (Nat.div_le_self m y) (lt_dlen b9 m)))
  have h00 := Lib.hid (show m / B9 ^ dlen B9 m % y = 0 by rw [Nat.div_eq_of_lt (lt_dlen b9 m), Nat.zero_mod])
  have hmk := run_make_row' (P := Tryd.prog) 29 2 (.int .i64 0) 8 Tryd.underlying29 lg_info rfl .i64 .i64 (dlen B9 m) (by omega) (by omega)
  clear ha
  generalize hL1 : dlen B9 m = L at hm1 hA sm hval hmk h00 ⊢
  replace hL1 := Lib.hid hL1
  have hy0 : ((y : Int) == 0) = false := by simp; omega
  have hy1 : ¬ (y : Int) = 0 := by omega
  go_enter Tryd.func30, Tryd.ntmps30
  go_wp2
  go_loopw [7, 8] (fun rv i wr => ∃ k : Nat, k ≤ L ∧ i = .int .i64 ((k : Int) - 1) ∧ rv = .int .i64 (m / B9 ^ k % y : Nat) ∧ Own wr w.heap.size (w.heap.size + 1) 2 (.slice (some ⟨w.heap.size, 0, none⟩) L L) (ints (nats (shL B9 (m / y) L k))) ∧ Below w.heap.size w wr) (fun _ i _ => (intOf i + 1).toNat)
  case atStart =>
    refine ⟨L, Nat.le_refl _, by go_num, by rw [h00.out]; rfl, ?_, (Below.refl _ _).alloc (Nat.le_refl _) _⟩
    have := Own.made w (.int .i64 0) L 2 (by unfold maxLen; omega)
    rw [shL_full]
    simpa [ints] using this
  case round =>
    obtain ⟨k, hk, rfl, rfl, hown, bel⟩ := hrel
    have hown' := Lib.hid hown
    rcases Nat.eq_zero_or_pos k with rfl | hpos
    · have hrow : Ints wr (.slice (some ⟨w.heap.size, 0, none⟩) L L) (nats (dgs B9 (m / y) L)) := by
        have := hown.row
        rw [shL_zero] at this; exact this
      have hcut := l01Cut_any _ _ wr hrow (fun x hx => by simp only [dgs, List.mem_map] at hx; obtain ⟨j, _, rfl⟩ := hx; exact dgt_lt b9 _ _)
      rw [hval.out] at hcut
      have hm0 := Lib.hid (show m / B9 ^ 0 % y = m % y by simp)
      clear hown
      go_wp2_with fail
      refine hcut.mono ?_
      rintro e w' ⟨⟨v, rfl, hL⟩, j, rfl⟩
      go_wp2
      go_ret2
      exact ⟨_, rfl, hL.keep (below_drewN (Below.refl _ _) j), below_drewN bel j⟩
    · obtain ⟨k, rfl⟩ : ∃ k', k = k' + 1 := ⟨k - 1, by omega⟩
      have hi : (((k + 1 : Nat) : Int) - 1) = (k : Int) := by omega
      rw [hi]
      obtain ⟨b1, o1, c1, hv1, hl1, hc1⟩ := hA (by omega)
      simp only [Value.slice.injEq] at hv1
      obtain ⟨rfl, -, rfl⟩ := hv1
      have q1 := (bel.cell hl1).trans (hc1 k (by omega))
      obtain ⟨g, cap'', hg, -, -, -, hcg, hfg⟩ := hown.at (by simp [ints, shL_length]; omega)
      simp only [Value.slice.injEq, Option.some.injEq, Addr.mk.injEq, and_true] at hg
      obtain ⟨rfl, -, -⟩ := hg
      have hcg' := hcg k (by simp [ints, shL_length]; omega)
      have hfg' := hfg k
      obtain ⟨z1, z2⟩ := hrd.out k
      obtain ⟨w1, w2, w3, w4⟩ := hbm.out k
      have hset := Lib.hid (shL_set B9 (m / y) L k)
      have hsz := bel.size
      simp only [show B9 = 1000000000 from rfl] at w1 w3
      clear hc1 hcg hfg hown hi
      generalize m / B9 ^ (k + 1) % y = r at z1 z2 w4 ⊢
      generalize hr' : m / B9 ^ k % y = r' at z2 w2
      replace hr' := Lib.hid hr'
      generalize dgt B9 m k = x at q1 z1 z2 w1
      generalize dgt B9 (m / y) k = d at z1 w3 hset
      generalize (ints (nats (shL B9 (m / y) L (k + 1)))).getD k undef = old at hcg'
      have v0 : r < 1000000000 := by omega
      have v1 : r' < 1000000000 := by omega
      go_wp2
      go_roundw
      case rel =>
        refine ⟨k, by omega, by go_num, by rw [hr'.out], ?_, bel.setCell (Nat.le_refl _) _⟩
        have := hown'.out.set k (.int .i64 (d : Int))
        rw [← hset.out]
        simpa [ints, List.map_set] using this
      case measure => simp [intOf]
end Go.Proofs.YtiddhnnofpbopaaDoor

/- l01Product of the specification: the product of two long numbers. Conditions: fewer than 10^11 digits each. -/
namespace Go.Proofs.YtiddhnnofpbopaaDoor
open Go.RowKit Go.Deep
set_option linter.unusedVariables false

theorem prod_step {B : Nat} {a b i k c x : Nat} (l : List Nat) (hl : i + k < l.length) (hx : x = l.getD (i + k) 0 + c + dgt B a i * dgt B b k)
    (h : val B l + c * B ^ (i + k) = a % B ^ i * b + dgt B a i * (b % B ^ k) * B ^ i) :
    val B (l.set (i + k) (x % B)) + x / B * B ^ (i + (k + 1)) = a % B ^ i * b + dgt B a i * (b % B ^ (k + 1)) * B ^ i := by
  have e1 := val_set (B := B) l (i + k) (x % B) hl
  have e2 : B ^ (i + k) * x = B ^ (i + k) * (x % B) + B ^ (i + k) * (B * (x / B)) := by rw [← Nat.mul_add, Nat.mod_add_div]
  have e3 : B ^ (i + k) * x = B ^ (i + k) * l.getD (i + k) 0 + B ^ (i + k) * c + B ^ (i + k) * (dgt B a i * dgt B b k) := by rw [← Nat.mul_add, ← Nat.mul_add, ← hx]
  have e4 : x / B * B ^ (i + (k + 1)) = B ^ (i + k) * (B * (x / B)) := by rw [← Nat.add_assoc, pow_succ']; ac_rfl
  have e5 : dgt B a i * (b % B ^ (k + 1)) * B ^ i = dgt B a i * (b % B ^ k) * B ^ i + B ^ (i + k) * (dgt B a i * dgt B b k) := by
    rw [mod_step, Nat.mul_add, Nat.add_mul, Nat.pow_add]; congr 1; ac_rfl
  have e6 : c * B ^ (i + k) = B ^ (i + k) * c := Nat.mul_comm _ _
  omega
theorem prod_row {B : Nat} {a b i k L : Nat} (hb : b < B ^ L) (hk : L ≤ k) (hB : 2 ≤ B) :
    a % B ^ i * b + dgt B a i * (b % B ^ k) * B ^ i = a % B ^ (i + 1) * b := by
  rw [Nat.mod_eq_of_lt (Nat.lt_of_lt_of_le hb (Nat.pow_le_pow_right (by omega) hk)), mod_step, Nat.add_mul]
  congr 1; ac_rfl
theorem prod_fit {B : Nat} {a b i k c L : Nat} (hB : 2 ≤ B) (l : List Nat) (hb : b < B ^ L) (hk : L ≤ k) (hc : 0 < c)
    (h : val B l + c * B ^ (i + k) = a % B ^ i * b + dgt B a i * (b % B ^ k) * B ^ i) : k = L := by
  rw [prod_row hb hk hB] at h
  have h1 : a % B ^ (i + 1) * b < B ^ (i + 1) * B ^ L := by
    have p1 := Nat.mod_lt a (pow_pos' hB (i + 1))
    exact Nat.lt_of_le_of_lt (Nat.mul_le_mul_right _ (Nat.le_of_lt p1)) (Nat.mul_lt_mul_of_pos_left hb (pow_pos' hB _))
  rw [← Nat.pow_add] at h1
  by_cases e : k = L
  · exact e
  · have h2 := Nat.pow_le_pow_right (n := B) (by omega) (show i + 1 + L ≤ i + k by omega)
    have h3 : 1 * B ^ (i + k) ≤ c * B ^ (i + k) := Nat.mul_le_mul_right _ hc
    omega

theorem lg_mem {α : Type} {d : α} {l : List α} {i : Nat} (h : i < l.length) : l.getD i d ∈ l := by
  simp only [List.getD, List.getElem?_eq_getElem h, Option.getD_some]; exact List.getElem_mem h
theorem val_zeros (B q : Nat) : val B (List.replicate q 0) = 0 := by
  induction q with
  | zero => rfl
  | succ q ih => rw [List.replicate_succ]; simp only [val]; rw [ih]; simp
theorem prod_round {m n i k c L2 : Nat} (l : List Nat) (hlen : i + k < l.length) (hd : ∀ x ∈ l, x < B9) (hc : c < 1000000000) (hn : n < B9 ^ L2)
    (hv : val B9 l + c * B9 ^ (i + k) = m % B9 ^ i * n + dgt B9 m i * (n % B9 ^ k) * B9 ^ i) :
    ∃ o p r c' : Nat, l.getD (i + k) 0 = o ∧ dgt B9 m i * dgt B9 n k = p ∧ o < 1000000000 ∧ p ≤ 999999998000000001 ∧ ((o : Int) + (c : Int) + (p : Int)).tmod 1000000000 = (r : Int) ∧ ((o : Int) + (c : Int) + (p : Int)).tdiv 1000000000 = (c' : Int) ∧ r < 1000000000 ∧ c' < 1000000000 ∧ (0 < c' → k + 1 ≤ L2) ∧
      Hid ((l.set (i + k) r).length = l.length ∧ (∀ x ∈ l.set (i + k) r, x < B9) ∧ val B9 (l.set (i + k) r) + c' * B9 ^ (i + (k + 1)) = m % B9 ^ i * n + dgt B9 m i * (n % B9 ^ (k + 1)) * B9 ^ i) := by
  have ho : l.getD (i + k) 0 < B9 := hd _ (lg_mem (d := 0) hlen)
  have h1 := dgt_lt b9 m i
  have h2 := dgt_lt b9 n k
  have h3 := Nat.mul_le_mul (show dgt B9 m i ≤ 999999999 by simp only [B9] at h1 ⊢; omega) (show dgt B9 n k ≤ 999999999 by simp only [B9] at h2 ⊢; omega)
  have hs := prod_step l hlen rfl hv
  generalize hp : dgt B9 m i * dgt B9 n k = p at h3 hs
  generalize hoo : l.getD (i + k) 0 = o at ho hs
  have hB9 : B9 = 1000000000 := rfl
  have hr : (o + c + p) % B9 < B9 := Nat.mod_lt _ (by decide)
  refine ⟨o, p, (o + c + p) % B9, (o + c + p) / B9, rfl, rfl, by omega, by omega, ?_, ?_, by omega, ?_, ?_, ⟨by simp, ?_, hs⟩⟩
  · rw [Int.tmod_eq_emod_of_nonneg (by omega), hB9]; omega
  · rw [Int.tdiv_eq_ediv_of_nonneg (by omega), hB9]; omega
  · rw [hB9]; omega
  · intro hc'
    by_cases e : k + 1 ≤ L2
    · exact e
    · exact Nat.le_of_eq (prod_fit b9 _ hn (by omega) hc' hs)
  · intro x hx
    rcases List.mem_or_eq_of_mem_set hx with h | h
    · exact hd x h
    · rw [h]; exact hr
theorem nats_set (l : List Nat) (i r : Nat) : (ints (nats l)).set i (.int .i64 (r : Int)) = ints (nats (l.set i r)) := by simp [ints, List.map_set]
theorem cell_nat (l : List Nat) (i : Nat) (h : i < l.length) : (ints (nats l)).getD i undef = .int .i64 (l.getD i 0 : Int) := by
  rw [ints_getD _ _ (by simpa using h), nats_getD l i h]

set_option maxRecDepth 100000 in
set_option maxHeartbeats 4000000 in
theorem l01Product_any (a b : Value) (m n : Nat) (w : World) (ha : LongS w a m) (hb : LongS w b n) (sm : dlen B9 m ≤ 100000000000) (sn : dlen B9 n ≤ 100000000000) :
    Calls Tryd.prog 32 #[a, b] w fun e w' => ∃ v, e = .returned v ∧ LongS w' v (m * n) ∧ Below w.heap.size w w' := by
  obtain ⟨hm1, a1, cap1, rfl⟩ := ha.len
  obtain ⟨hm2, a2, cap2, rfl⟩ := hb.len
  unfold maxLen at hm1 hm2
  have hA := ha.at
  have hBt := hb.at
  have hmlt := Lib.hid (lt_dlen b9 m)
  have hnlt := Lib.hid (lt_dlen b9 n)
  have hbm := Lib.hid (fun i k => And.intro (dgt_lt b9 m i) (dgt_lt b9 n k))
  have hzn := Lib.hid (fun k (h : dlen B9 n ≤ k) => dgt_big (lt_of_dlen b9 h))
  have hmk := run_make_row' (P := Tryd.prog) 29 2 (.int .i64 0) 8 Tryd.underlying29 lg_info rfl .i64 .i64 (dlen B9 m + dlen B9 n) (by omega) (by omega)
  rw [Int.natCast_add] at hmk
  clear ha hb
  generalize hL1 : dlen B9 m = L1 at hm1 hA sm hmk hmlt ⊢
  generalize hL2 : dlen B9 n = L2 at hm2 hBt sn hmk hzn hnlt ⊢
  clear hL1 hL2
  go_enter Tryd.func32, Tryd.ntmps32
  go_wp2
  go_loopw [6] (fun iv wr => ∃ (i : Nat) (l : List Nat), i ≤ L1 ∧ iv = .int .i64 i ∧ Own wr w.heap.size (w.heap.size + 1) 2 (.slice (some ⟨w.heap.size, 0, none⟩) (L1 + L2) (L1 + L2)) (ints (nats l)) ∧ Below w.heap.size w wr ∧ Hid (l.length = L1 + L2 ∧ (∀ x ∈ l, x < B9) ∧ val B9 l = m % B9 ^ i * n)) (fun iv _ => L1 - (intOf iv).toNat)
  case atStart =>
    refine ⟨0, List.replicate (L1 + L2) 0, Nat.zero_le _, rfl, ?_, (Below.refl _ _).alloc (Nat.le_refl _) _, ⟨by simp, ?_, ?_⟩⟩
    · have := Own.made w (.int .i64 0) (L1 + L2) 2 (by unfold maxLen; omega)
      simpa [ints] using this
    · intro x hx; rw [List.mem_replicate] at hx; rw [hx.2]; simp [B9]
    · rw [Nat.pow_zero, Nat.mod_one, Nat.zero_mul]; exact val_zeros _ _
  case round =>
    obtain ⟨i, l, hi, rfl, hown, bel, hl⟩ := hrel
    have hown' := Lib.hid hown
    by_cases hlt : i < L1
    · obtain ⟨b1, o1, c1, hv1, hl1, hc1⟩ := hA (by omega)
      simp only [Value.slice.injEq] at hv1
      obtain ⟨rfl, -, rfl⟩ := hv1
      have q1 := hc1 i hlt
      clear hc1 hown
      go_wp2
      go_loopw [7, 8] (fun cv kv wr2 => ∃ (k c : Nat) (l2 : List Nat), k ≤ L2 + 1 ∧ kv = .int .i64 k ∧ cv = .int .i64 c ∧ Own wr2 w.heap.size (w.heap.size + 1) 2 (.slice (some ⟨w.heap.size, 0, none⟩) (L1 + L2) (L1 + L2)) (ints (nats l2)) ∧ Below w.heap.size w wr2 ∧ c < 1000000000 ∧ (0 < c → k ≤ L2) ∧ Hid (l2.length = L1 + L2 ∧ (∀ x ∈ l2, x < B9) ∧ val B9 l2 + c * B9 ^ (i + k) = m % B9 ^ i * n + dgt B9 m i * (n % B9 ^ k) * B9 ^ i)) (fun _ kv _ => L2 + 2 - (intOf kv).toNat)
      case atStart => exact ⟨0, 0, l, by omega, rfl, rfl, hown'.out, bel, by omega, by omega, ⟨hl.out.1, hl.out.2.1, by rw [hl.out.2.2, Nat.pow_zero, Nat.mod_one]; simp⟩⟩
      case round =>
        obtain ⟨k, c, l2, hk, rfl, rfl, hown2, bel2, hcc, hcf, hl2⟩ := hrel
        have hsz := bel2.size
        by_cases hq : k < L2
        · skip
          have h2len := hl2.out.1
          obtain ⟨g, cap'', hg, -, -, -, hcg, hfg⟩ := hown2.at (by simp [ints]; omega)
          simp only [Value.slice.injEq, Option.some.injEq, Addr.mk.injEq, and_true] at hg
          obtain ⟨rfl, -, -⟩ := hg
          have hcg' := hcg (i + k) (by simp [ints]; omega)
          have hfg' := hfg (i + k)
          rw [cell_nat l2 (i + k) (by omega)] at hcg'
          obtain ⟨o, p, r, c', ho, hp, o1', p1', z1, z2, r1, c1', hfit, hnew⟩ := prod_round l2 (by omega) hl2.out.2.1 hcc hnlt.out hl2.out.2.2
          rw [ho] at hcg'
          have q1' := (bel2.cell hl1).trans q1
          obtain ⟨b2, o2, c2, hv2, hlb, hc2⟩ := hBt (by omega)
          simp only [Value.slice.injEq] at hv2
          obtain ⟨rfl, -, rfl⟩ := hv2
          have q2 := (bel2.cell hlb).trans (hc2 k (by omega))
          have hpI : (dgt B9 m i : Int) * (dgt B9 n k : Int) = (p : Int) := by rw [← Int.natCast_mul, hp]
          generalize dgt B9 n k = y at q2 hpI
          clear hc2
          have hown2' := Lib.hid hown2
          have hfit' := Lib.hid hfit
          clear hown2 hcg hfg hfit ho h2len hp
          generalize hai : dgt B9 m i = ai at q1' hpI
          replace hai := Lib.hid hai
          go_wp2
          go_quiet (fail)
          go_wp2
          go_roundw
          case rel =>
            refine ⟨k + 1, c', l2.set (i + k) r, by omega, by go_num, rfl, ?_, (below_drewN bel2 _).setCell (Nat.le_refl _) _, c1', hfit'.out, ⟨by rw [hnew.out.1, hl2.out.1], hnew.out.2.1, by rw [← hai.out]; exact hnew.out.2.2⟩⟩
            have := hown2'.out.set (i + k) (.int .i64 (r : Int))
            rw [nats_set] at this; exact this
          case measure => simp [intOf]; omega
        · by_cases hcz : 0 < c
          · have hkL := hcf hcz
            have h2len := hl2.out.1
            obtain ⟨g, cap'', hg, -, -, -, hcg, hfg⟩ := hown2.at (by simp [ints]; omega)
            simp only [Value.slice.injEq, Option.some.injEq, Addr.mk.injEq, and_true] at hg
            obtain ⟨rfl, -, -⟩ := hg
            have hcg' := hcg (i + k) (by simp [ints]; omega)
            have hfg' := hfg (i + k)
            rw [cell_nat l2 (i + k) (by omega)] at hcg'
            obtain ⟨o, p, r, c', ho, hp, o1', p1', z1, z2, r1, c1', hfit, hnew⟩ := prod_round l2 (by omega) hl2.out.2.1 hcc hnlt.out hl2.out.2.2
            rw [ho] at hcg'
            have q1' := (bel2.cell hl1).trans q1
            rw [hzn.out k (by omega), Nat.mul_zero] at hp
            subst hp
            simp only [Int.natCast_zero, Int.add_zero] at z1 z2
            have hown2' := Lib.hid hown2
            have hfit' := Lib.hid hfit
            clear hown2 hcg hfg hfit ho h2len
            generalize hai : dgt B9 m i = ai at q1'
            replace hai := Lib.hid hai
            go_wp2
            go_roundw
            case rel =>
              refine ⟨k + 1, c', l2.set (i + k) r, by omega, by go_num, rfl, ?_, bel2.setCell (Nat.le_refl _) _, c1', hfit'.out, ⟨by rw [hnew.out.1, hl2.out.1], hnew.out.2.1, by rw [← hai.out]; exact hnew.out.2.2⟩⟩
              have := hown2'.out.set (i + k) (.int .i64 (r : Int))
              rw [nats_set] at this; exact this
            case measure => simp [intOf]; omega
          · obtain rfl : c = 0 := by omega
            have hfin : val B9 l2 = m % B9 ^ (i + 1) * n := by
              have := hl2.out.2.2
              rw [prod_row hnlt.out (by omega) b9] at this
              omega
            have hown2' := Lib.hid hown2
            have hfin' := Lib.hid hfin
            clear hown2 hfin
            go_wp2
            go_roundw
            case rel => exact ⟨i + 1, l2, by omega, by go_num, hown2'.out, bel2, ⟨hl2.out.1, hl2.out.2.1, hfin'.out⟩⟩
            case measure => simp [intOf]; omega
    · obtain rfl : i = L1 := by omega
      have hrow : Ints wr (.slice (some ⟨w.heap.size, 0, none⟩) (i + L2) (i + L2)) (nats l) := hown.row
      have hcut := l01Cut_any _ _ wr hrow hl.out.2.1
      rw [hl.out.2.2, Nat.mod_eq_of_lt hmlt.out] at hcut
      clear hown
      go_wp2_with fail
      refine hcut.mono ?_
      rintro e w' ⟨⟨v, rfl, hL⟩, j, rfl⟩
      go_wp2
      go_ret
      exact ⟨_, rfl, hL.keep (below_drewN (Below.refl _ _) j), below_drewN bel j⟩
end Go.Proofs.YtiddhnnofpbopaaDoor

/- l01Digit of the specification: one digit of a quotient. Conditions: 0 < b, a < 10^9 * b; fewer than 10^10 digits. -/
namespace Go.Proofs.YtiddhnnofpbopaaDoor
open Go.RowKit Go.Deep
set_option linter.unusedVariables false

theorem digit_low {m n P : Nat} (hP : 0 < P) (hn : 0 < n) : m / P / (n / P + 1) ≤ m / n := by
  rw [Nat.div_div_eq_div_mul]
  apply Nat.div_le_div_left _ hn
  have h1 := Nat.mod_add_div n P
  have h2 := Nat.mod_lt n hP
  rw [Nat.mul_add]; omega
theorem digit_high {m n P : Nat} (h : 0 < n / P) (hP : 0 < P) : m / n ≤ m / P / (n / P) := by
  rw [Nat.div_div_eq_div_mul]
  exact Nat.div_le_div_left (Nat.mul_div_le n P) (Nat.mul_pos hP h)
theorem top_one {n K : Nat} (h : dlen B9 n = K + 1) : dgt B9 n K = n / B9 ^ K := by
  have h1 := lt_dlen b9 n
  rw [h, pow_succ', Nat.mul_comm] at h1
  exact Nat.mod_eq_of_lt ((Nat.div_lt_iff_lt_mul (pow_pos' b9 K)).2 h1)
theorem top_two {n K : Nat} (h : dlen B9 n = K + 1 + 1) : dgt B9 n (K + 1) * 1000000000 + dgt B9 n K = n / B9 ^ K := by
  have h1 := div_split B9 n K
  rw [top_one h, h1, Nat.mul_comm]; simp only [B9]; omega
theorem one_digit {d : Nat} (h0 : 0 < d) (h1 : d < B9) : longS d = [(d : Int)] := by
  have h : dlen B9 d = 1 := dlen_eq b9 (by simpa using h1) (Or.inr (by simp; omega))
  simp [longS, h, dgs, dgt, Nat.mod_eq_of_lt h1]
theorem one_long (w : World) (d : Nat) (h0 : 0 < d) (h1 : d < B9) : LongS (w.alloc (.cells #[.int .i64 (d : Int)] 2)) (.slice (some ⟨w.heap.size, 0, none⟩) 1 1) d := by
  unfold LongS
  rw [one_digit h0 h1]
  refine ⟨by simp [maxLen], some ⟨w.heap.size, 0, none⟩, 1, rfl, ⟨by simp, by simp [maxLen]⟩, fun i hi => ⟨w.heap.size, 0, rfl, ?_⟩⟩
  have hi0 : i = 0 := by simp at hi; omega
  subst hi0
  simp

theorem l00Min_any (x y : Int) (w : World) : Calls Tryd.prog 44 #[.int .i64 x, .int .i64 y] w fun e w' => e = .returned (.int .i64 (min x y)) ∧ w' = w := by
  go_enter Tryd.func44, Tryd.ntmps44
  by_cases h : x < y
  · have hq := Lib.hid (show min x y = x by omega)
    go_wp2
    go_ret
    exact ⟨ret_int hq.out.symm, rfl⟩
  · have hq := Lib.hid (show min x y = y by omega)
    go_wp2
    go_ret
    exact ⟨ret_int hq.out.symm, rfl⟩

theorem digit_facts {m n : Nat} (hn : 0 < n) (hle : n ≤ m) (hlt : m < n * B9) :
    ∃ K f t : Nat, dlen B9 n = K + 1 ∧ dgt B9 n K = f ∧ 0 < f ∧ f < 1000000000 ∧ t < 1000000000000000000 ∧ t / (f + 1) ≤ m / n ∧ m / n ≤ t / f ∧ m / n ≤ 999999999 ∧
      ((dlen B9 m = K + 1 ∧ dgt B9 m K = t) ∨ (dlen B9 m = K + 1 + 1 ∧ dgt B9 m (K + 1) * 1000000000 + dgt B9 m K = t)) := by
  have hpos : 0 < dlen B9 n := by
    rcases Nat.eq_zero_or_pos (dlen B9 n) with e | e
    · have := lt_dlen b9 n; rw [e] at this; simp at this; omega
    · exact e
  obtain ⟨K, hK⟩ : ∃ K, dlen B9 n = K + 1 := ⟨dlen B9 n - 1, by omega⟩
  have hP := pow_pos' b9 K
  have hf : 0 < n / B9 ^ K := by
    have := le_of_dlen b9 (show K < dlen B9 n by omega)
    exact (Nat.le_div_iff_mul_le hP).2 (by omega)
  have hfd := top_one hK
  have hfl := dgt_lt b9 n K
  have hq : m / n ≤ 999999999 := by
    have := (Nat.div_lt_iff_lt_mul hn).2 (show m < B9 * n by rw [Nat.mul_comm]; exact hlt)
    simp only [B9] at this; omega
  have hlm := dlen_mono b9 hle
  have hlm2 : dlen B9 m ≤ K + 1 + 1 := by
    apply dlen_le b9
    have h1 := lt_dlen b9 n
    rw [hK] at h1
    rw [pow_succ']
    exact Nat.lt_trans hlt (Nat.mul_lt_mul_of_pos_right h1 (by decide))
  have hlow := digit_low (m := m) hP hn
  have hhigh := digit_high (m := m) hf hP
  rw [hfd] at hfl
  refine ⟨K, n / B9 ^ K, m / B9 ^ K, hK, hfd, hf, hfl, ?_, hlow, hhigh, hq, ?_⟩
  · apply (Nat.div_lt_iff_lt_mul hP).2
    have h1 := lt_of_dlen b9 hlm2
    rw [pow_succ', pow_succ'] at h1
    have e : B9 ^ K * B9 * B9 = 1000000000000000000 * B9 ^ K := by rw [Nat.mul_assoc, Nat.mul_comm, show B9 * B9 = 1000000000000000000 from rfl]
    rw [← e]; exact h1
  · by_cases e : dlen B9 m = K + 1
    · exact Or.inl ⟨e, top_one e⟩
    · have e2 : dlen B9 m = K + 1 + 1 := by omega
      exact Or.inr ⟨e2, top_two e2⟩

set_option maxRecDepth 100000 in
set_option maxHeartbeats 4000000 in
theorem l01Digit_any (a b : Value) (m n : Nat) (w : World) (ha : LongS w a m) (hb : LongS w b n) (hn : 0 < n) (hlt : m < n * B9) (sm : dlen B9 m ≤ 10000000000) (sn : dlen B9 n ≤ 10000000000) :
    Calls Tryd.prog 33 #[a, b] w fun e w' => e = .returned (.int .i64 (m / n : Nat)) ∧ Below w.heap.size w w' := by
  have hcmp := l01Cmp_any a b m n w ha hb
  by_cases hle : m < n
  · have hz := Lib.hid (show m / n = 0 from Nat.div_eq_of_lt hle)
    rw [cmpI_lt hle] at hcmp
    go_enter Tryd.func33, Tryd.ntmps33
    go_wp2_with fail
    refine hcmp.mono ?_
    rintro e w1 ⟨rfl, j, rfl⟩
    go_wp2
    go_ret
    exact ⟨by rw [hz.out]; rfl, below_drewN (Below.refl _ _) j⟩
  · have hnm : n ≤ m := by omega
    obtain ⟨K, f, t, hK, hf, f0, f1, t1, hlow, hhigh, hq9, htop⟩ := digit_facts hn hnm hlt
    have hc : cmpI m n = 0 ∨ cmpI m n = 1 := by unfold cmpI; rw [if_neg hle]; split <;> simp
    have hA := ha.at
    have hBt := hb.at
    obtain ⟨hm1, a1, cap1, rfl⟩ := ha.len
    obtain ⟨hm2, a2, cap2, rfl⟩ := hb.len
    unfold maxLen at hm1 hm2
    have hone := Lib.hid (And.intro ha hb)
    have hmul := Lib.hid (fun d => (Nat.le_div_iff_mul_le hn : d ≤ m / n ↔ d * n ≤ m))
    have f2 : ((f : Int) + 1 == 0) = false := by simp; omega
    have f3 : ¬ (f : Int) + 1 = 0 := by omega
    have f4 : ((f : Int) == 0) = false := by simp; omega
    have f5 : ¬ (f : Int) = 0 := by omega
    have y1 : (t : Int).tdiv ((f : Int) + 1) = (t / (f + 1) : Nat) := by rw [Int.tdiv_eq_ediv_of_nonneg (by omega)]; simp
    have y2 : (t : Int).tdiv (f : Int) = (t / f : Nat) := by rw [Int.tdiv_eq_ediv_of_nonneg (by omega)]; simp
    have y3 := Nat.div_le_self t f
    have y4 : min ((t / f : Nat) : Int) 999999999 = ((min (t / f) 999999999 : Nat) : Int) := by omega
    have y5 : m / n ≤ min (t / f) 999999999 := by omega
    have y6 : min (t / f) 999999999 ≤ 999999999 := by omega
    clear hn hlt hnm hle ha hb hhigh
    rw [hK] at hBt hm2 sn ⊢
    generalize hcv : cmpI m n = cv at hcmp hc
    clear hcv
    generalize m / n = q at hlow hq9 y5 hmul ⊢
    generalize t / (f + 1) = lo at hlow y1
    generalize min (t / f) 999999999 = hi at y4 y5 y6
    generalize t / f = tf at y2 y3 y4
    rcases htop with ⟨hL, ht⟩ | ⟨hL, ht⟩
    · rw [hL] at hA hm1 sm hcmp ⊢
      rw [hK] at hcmp
      have hc0 : 0 ≤ cv := by omega
      have ho1 := hone.out.1
      have ho2 := hone.out.2
      rw [hL] at ho1
      rw [hK] at ho2
      have ho1' := Lib.hid ho1
      have ho2' := Lib.hid ho2
      clear hc ho1 ho2 hone
      obtain ⟨b1, o1, c1, hv1, hl1, hc1⟩ := hA (by omega)
      simp only [Value.slice.injEq] at hv1
      obtain ⟨rfl, -, rfl⟩ := hv1
      obtain ⟨b2, o2, c2, hv2, hl2, hc2⟩ := hBt (by omega)
      simp only [Value.slice.injEq] at hv2
      obtain ⟨rfl, -, rfl⟩ := hv2
      have q1 := hc1 K (by omega)
      have q2 := hc2 K (by omega)
      rw [hf] at q2
      rw [ht] at q1
      clear ht
      clear hc1 hc2 hA hBt
      replace hL := Lib.hid hL
      replace hK := Lib.hid hK
      go_enter Tryd.func33, Tryd.ntmps33
      go_wp2_with fail
      refine hcmp.mono ?_
      rintro e w1 ⟨rfl, j, rfl⟩
      have bel1 : Below w.heap.size w (w.drewN j) := below_drewN (Below.refl _ _) j
      replace q1 : (w.drewN j).cell? _ = _ := q1
      replace q2 : (w.drewN j).cell? _ = _ := q2
      go_wp2_with fail
      refine (l00Min_any _ _ _).mono ?_
      rintro e w2 ⟨rfl, rfl⟩
      rw [y4]
      go_wp2
      go_loopw [7, 8] (fun lv hv wr => ∃ lo hi : Nat, lv = .int .i64 lo ∧ hv = .int .i64 hi ∧ lo ≤ q ∧ q ≤ hi ∧ hi ≤ 999999999 ∧ Below w.heap.size w wr) (fun lv hv _ => (intOf hv - intOf lv).toNat)
      case atStart => exact ⟨lo, hi, rfl, rfl, hlow, y5, y6, bel1⟩
      case round =>
        obtain ⟨lo2, hi2, rfl, rfl, k1, k2, k3, bel⟩ := hrel
        by_cases hlh : lo2 < hi2
        · obtain ⟨d, d0, d1, d2⟩ : ∃ d : Nat, ((lo2 : Int) + (hi2 : Int) + 1).tdiv 2 = (d : Int) ∧ lo2 < d ∧ d ≤ hi2 := ⟨(lo2 + hi2 + 1) / 2, by rw [Int.tdiv_eq_ediv_of_nonneg (by omega)]; omega, by omega, by omega⟩
          have hd9 : d < 1000000000 := by omega
          have bel2 := bel.alloc (o := .cells #[.int .i64 (d : Int)] 2) (by have := bel.size; omega)
          have hpr := l01Product_any _ _ n d _ (ho2'.out.keep bel2) (one_long wr d (by omega) hd9) (by have := hK.out; omega) (Nat.le_trans (dlen_le b9 (L := 1) (show d < B9 ^ 1 by rw [Nat.pow_one]; exact hd9)) (by decide))
          go_wp2_with fail
          refine hpr.mono ?_
          rintro e w3 ⟨v, rfl, hv3, b3⟩
          have bel3 := below_wt bel2 b3
          go_wp2_with fail
          refine (l01Cmp_any v _ (n * d) m w3 hv3 (ho1'.out.keep bel3)).mono ?_
          rintro e w4 ⟨rfl, j4, rfl⟩
          by_cases hdq : d ≤ q
          · have hcz : cmpI (n * d) m ≤ 0 := by
              have := (hmul.out d).1 hdq
              rw [Nat.mul_comm] at this
              unfold cmpI; split
              · omega
              · rw [if_neg (by omega)]; omega
            generalize cmpI (n * d) m = cz at hcz ⊢
            go_wp2
            go_roundw
            case rel => exact ⟨d, hi2, rfl, rfl, hdq, k2, k3, below_drewN bel3 _⟩
            case measure => simp [intOf]; omega
          · have hcz : 0 < cmpI (n * d) m := by
              have h9 : ¬ d * n ≤ m := fun h => hdq ((hmul.out d).2 h)
              rw [Nat.mul_comm] at h9
              rw [cmpI_gt (by omega)]; omega
            generalize cmpI (n * d) m = cz at hcz ⊢
            go_wp2
            go_roundw
            case rel => exact ⟨lo2, d - 1, rfl, by go_num, k1, by omega, by omega, below_drewN bel3 _⟩
            case measure => simp [intOf]; omega
        · obtain rfl : lo2 = q := by omega
          go_wp2
          go_ret
          exact ⟨rfl, bel⟩
    · rw [hL] at hA hm1 sm hcmp ⊢
      rw [hK] at hcmp
      have hc0 : 0 ≤ cv := by omega
      have ho1 := hone.out.1
      have ho2 := hone.out.2
      rw [hL] at ho1
      rw [hK] at ho2
      have ho1' := Lib.hid ho1
      have ho2' := Lib.hid ho2
      clear hc ho1 ho2 hone
      obtain ⟨b1, o1, c1, hv1, hl1, hc1⟩ := hA (by omega)
      simp only [Value.slice.injEq] at hv1
      obtain ⟨rfl, -, rfl⟩ := hv1
      obtain ⟨b2, o2, c2, hv2, hl2, hc2⟩ := hBt (by omega)
      simp only [Value.slice.injEq] at hv2
      obtain ⟨rfl, -, rfl⟩ := hv2
      have q1 := hc1 K (by omega)
      have q0 := hc1 (K + 1) (by omega)
      have q2 := hc2 K (by omega)
      rw [hf] at q2
      have hdd := Lib.hid (And.intro (dgt_lt b9 m K) (dgt_lt b9 m (K + 1)))
      have htI : (dgt B9 m (K + 1) : Int) * 1000000000 + (dgt B9 m K : Int) = (t : Int) := by omega
      have g1 : dgt B9 m K < 1000000000 := hdd.out.1
      have g2 : dgt B9 m (K + 1) < 1000000000 := hdd.out.2
      clear hdd ht
      generalize dgt B9 m K = x at q1 htI g1
      generalize dgt B9 m (K + 1) = x1 at q0 htI g2
      clear hc1 hc2 hA hBt
      replace hL := Lib.hid hL
      replace hK := Lib.hid hK
      go_enter Tryd.func33, Tryd.ntmps33
      go_wp2_with fail
      refine hcmp.mono ?_
      rintro e w1 ⟨rfl, j, rfl⟩
      have bel1 : Below w.heap.size w (w.drewN j) := below_drewN (Below.refl _ _) j
      replace q1 : (w.drewN j).cell? _ = _ := q1
      replace q0 : (w.drewN j).cell? _ = _ := q0
      replace q2 : (w.drewN j).cell? _ = _ := q2
      go_wp2_with fail
      refine (l00Min_any _ _ _).mono ?_
      rintro e w2 ⟨rfl, rfl⟩
      rw [y4]
      go_wp2
      go_loopw [7, 8] (fun lv hv wr => ∃ lo hi : Nat, lv = .int .i64 lo ∧ hv = .int .i64 hi ∧ lo ≤ q ∧ q ≤ hi ∧ hi ≤ 999999999 ∧ Below w.heap.size w wr) (fun lv hv _ => (intOf hv - intOf lv).toNat)
      case atStart => exact ⟨lo, hi, rfl, rfl, hlow, y5, y6, bel1⟩
      case round =>
        obtain ⟨lo2, hi2, rfl, rfl, k1, k2, k3, bel⟩ := hrel
        by_cases hlh : lo2 < hi2
        · obtain ⟨d, d0, d1, d2⟩ : ∃ d : Nat, ((lo2 : Int) + (hi2 : Int) + 1).tdiv 2 = (d : Int) ∧ lo2 < d ∧ d ≤ hi2 := ⟨(lo2 + hi2 + 1) / 2, by rw [Int.tdiv_eq_ediv_of_nonneg (by omega)]; omega, by omega, by omega⟩
          have hd9 : d < 1000000000 := by omega
          have bel2 := bel.alloc (o := .cells #[.int .i64 (d : Int)] 2) (by have := bel.size; omega)
          have hpr := l01Product_any _ _ n d _ (ho2'.out.keep bel2) (one_long wr d (by omega) hd9) (by have := hK.out; omega) (Nat.le_trans (dlen_le b9 (L := 1) (show d < B9 ^ 1 by rw [Nat.pow_one]; exact hd9)) (by decide))
          go_wp2_with fail
          refine hpr.mono ?_
          rintro e w3 ⟨v, rfl, hv3, b3⟩
          have bel3 := below_wt bel2 b3
          go_wp2_with fail
          refine (l01Cmp_any v _ (n * d) m w3 hv3 (ho1'.out.keep bel3)).mono ?_
          rintro e w4 ⟨rfl, j4, rfl⟩
          by_cases hdq : d ≤ q
          · have hcz : cmpI (n * d) m ≤ 0 := by
              have := (hmul.out d).1 hdq
              rw [Nat.mul_comm] at this
              unfold cmpI; split
              · omega
              · rw [if_neg (by omega)]; omega
            generalize cmpI (n * d) m = cz at hcz ⊢
            go_wp2
            go_roundw
            case rel => exact ⟨d, hi2, rfl, rfl, hdq, k2, k3, below_drewN bel3 _⟩
            case measure => simp [intOf]; omega
          · have hcz : 0 < cmpI (n * d) m := by
              have h9 : ¬ d * n ≤ m := fun h => hdq ((hmul.out d).2 h)
              rw [Nat.mul_comm] at h9
              rw [cmpI_gt (by omega)]; omega
            generalize cmpI (n * d) m = cz at hcz ⊢
            go_wp2
            go_roundw
            case rel => exact ⟨lo2, d - 1, rfl, by go_num, k1, by omega, by omega, below_drewN bel3 _⟩
            case measure => simp [intOf]; omega
        · obtain rfl : lo2 = q := by omega
          go_wp2
          go_ret
          exact ⟨rfl, bel⟩
end Go.Proofs.YtiddhnnofpbopaaDoor
