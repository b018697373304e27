/- times of the project: the product of two long numbers. Conditions: fewer than 10^11 words each. -/
import Derived.Test.YtjkekhiceadpgaaWord3
import Derived.Test.YtjkekhiceadpgaaNum3
import Derived.Test.YtjkekhiceadpgaaLong5
namespace Go.Proofs.Ytjkekhiceadpgaa
open Go.RowKit Go.Deep
set_option linter.unusedVariables false

theorem prodw_round {m n i k c : Nat} (l : List Nat) (hlen : i + k < l.length) (hd : ∀ x ∈ l, x < W32) (hc : c < 4294967296)
    (hv : val W32 l + c * W32 ^ (i + k) = m % W32 ^ i * n + dgt W32 m i * (n % W32 ^ k) * W32 ^ i) :
    ∃ o p r c' : Nat, l.getD (i + k) 0 = o ∧ dgt W32 m i * dgt W32 n k = p ∧ o < 4294967296 ∧ p ≤ 18446744065119617025 ∧ ((c : Int) + ((o : Int) + (p : Int))) % 4294967296 = (r : Int) ∧ ((c : Int) + ((o : Int) + (p : Int))) / 4294967296 = (c' : Int) ∧ r < 4294967296 ∧ c' < 4294967296 ∧
      Hid ((l.set (i + k) r).length = l.length ∧ (∀ x ∈ l.set (i + k) r, x < W32) ∧ val W32 (l.set (i + k) r) + c' * W32 ^ (i + (k + 1)) = m % W32 ^ i * n + dgt W32 m i * (n % W32 ^ (k + 1)) * W32 ^ i) := by
  have ho : l.getD (i + k) 0 < W32 := hd _ (lg_mem (d := 0) hlen)
  have h1 := dgt_lt w32 m i
  have h2 := dgt_lt w32 n k
  have h3 := Nat.mul_le_mul (show dgt W32 m i ≤ 4294967295 by simp only [W32] at h1 ⊢; omega) (show dgt W32 n k ≤ 4294967295 by simp only [W32] at h2 ⊢; omega)
  have hs := prod_step l hlen rfl hv
  generalize hp : dgt W32 m i * dgt W32 n k = p at h3 hs
  generalize hoo : l.getD (i + k) 0 = o at ho hs
  have hB9 : W32 = 4294967296 := rfl
  have hr : (o + c + p) % W32 < W32 := Nat.mod_lt _ (by decide)
  refine ⟨o, p, (o + c + p) % W32, (o + c + p) / W32, rfl, rfl, by omega, by omega, ?_, ?_, by omega, ?_, ⟨by simp, ?_, hs⟩⟩
  · rw [hB9]; omega
  · rw [hB9]; omega
  · rw [hB9]; omega
  · intro x hx
    rcases List.mem_or_eq_of_mem_set hx with h | h
    · exact hd x h
    · rw [h]; exact hr
/-- the carry is stored behind the row -/
theorem prodw_last {m n i c L2 : Nat} (l : List Nat) (hlen : i + L2 < l.length) (hd : ∀ x ∈ l, x < W32) (hc : c < 4294967296) (hn : n < W32 ^ L2) (h0 : val W32 (l.drop (i + L2)) = 0)
    (hv : val W32 l + c * W32 ^ (i + L2) = m % W32 ^ i * n + dgt W32 m i * (n % W32 ^ L2) * W32 ^ i) :
    (l.set (i + L2) c).length = l.length ∧ (∀ x ∈ l.set (i + L2) c, x < W32) ∧ val W32 (l.set (i + L2) c) = m % W32 ^ (i + 1) * n := by
  refine ⟨by simp, ?_, ?_⟩
  · intro x hx
    rcases List.mem_or_eq_of_mem_set hx with h | h
    · exact hd x h
    · rw [h]; exact hc
  · rw [prod_row hn (Nat.le_refl _) w32] at hv
    have e := val_set (B := W32) l (i + L2) c hlen
    have hz : l.getD (i + L2) 0 = 0 := by
      rw [List.drop_eq_getElem_cons hlen] at h0
      simp only [val] at h0
      simp only [List.getD, List.getElem?_eq_getElem hlen, Option.getD_some]
      omega
    rw [hz, Nat.mul_zero, Nat.add_zero, Nat.mul_comm] at e
    omega
theorem prodw_zero {m n i L2 : Nat} (l : List Nat) (hlen : i + L2 ≤ l.length) (hn : n < W32 ^ L2) (hv : val W32 l = m % W32 ^ i * n) : val W32 (l.drop (i + L2)) = 0 := by
  apply val_drop_small w32 l _ hlen
  rw [hv, Nat.pow_add]
  have p1 := Nat.mod_lt m (pow_pos' w32 i)
  exact Nat.lt_of_le_of_lt (Nat.mul_le_mul_right _ (Nat.le_of_lt p1)) (Nat.mul_lt_mul_of_pos_left hn (pow_pos' w32 _))
theorem cell_u32 (l : List Nat) (i : Nat) (h : i < l.length) : (u32s l).getD i undef = .int .u32 ((l.getD i 0 : Nat) : Int) := u32s_getD l i h

set_option maxRecDepth 100000 in
set_option maxHeartbeats 4000000 in
theorem times_any (a b : Value) (m n : Nat) (w : World) (ha : LongI w a m) (hb : LongI w b n) (sm : dlen W32 m ≤ 100000000000) (sn : dlen W32 n ≤ 100000000000) :
    Calls Try.prog 84 #[a, b] w fun e w' => ∃ v, e = .returned v ∧ LongI w' v (m * n) ∧ Below w.heap.size w w' := by
  obtain ⟨hm1, a1, cap1, rfl⟩ := ha.len
  obtain ⟨hm2, a2, cap2, rfl⟩ := hb.len
  unfold maxLen at hm1 hm2
  have hA := fun h => ha.at h
  have hBt := fun h => hb.at h
  have hmlt := Lib.hid (lt_dlen w32 m)
  have hnlt := Lib.hid (lt_dlen w32 n)
  have hmk := run_make_row' (P := Try.prog) 91 163 (.int .u32 0) 4 Try.underlying91 word_info rfl .i64 .i64 (dlen W32 m + dlen W32 n) (by omega) (by omega)
  rw [Int.natCast_add] at hmk
  have hbm := Lib.hid (fun i => dgt_lt w32 m i)
  have hbn := Lib.hid (fun i => dgt_lt w32 n i)
  clear ha hb
  generalize hL1 : dlen W32 m = L1 at hm1 hA sm hmk hmlt ⊢
  generalize hL2 : dlen W32 n = L2 at hm2 hBt sn hmk hnlt ⊢
  clear hL1 hL2
  go_enter Try.func84, Try.ntmps84
  go_wp2
  go_loopw [19] (fun iv wr => ∃ (i : Nat) (l : List Nat), i ≤ L1 ∧ iv = .int .i64 (i : Int) ∧ Own wr w.heap.size (w.heap.size + 1) 163 (.slice (some ⟨w.heap.size, 0, none⟩) (L1 + L2) (L1 + L2)) (u32s l) ∧ Below w.heap.size w wr ∧ Hid (l.length = L1 + L2 ∧ (∀ x ∈ l, x < W32) ∧ val W32 l = m % W32 ^ i * n)) (fun iv _ => L1 - (intOf iv).toNat)
  case atStart =>
    refine ⟨0, List.replicate (L1 + L2) 0, Nat.zero_le _, rfl, ?_, (Below.refl _ _).alloc (Nat.le_refl _) _, ⟨by simp, ?_, ?_⟩⟩
    · have := Own.made w (.int .u32 0) (L1 + L2) 163 (by unfold maxLen; omega)
      simpa [u32s] using this
    · intro x hx; rw [List.mem_replicate] at hx; rw [hx.2]; simp [W32]
    · rw [Nat.pow_zero, Nat.mod_one, Nat.zero_mul]; exact val_zeros _ _
  case round =>
    obtain ⟨i, l, hi, rfl, hown, bel, hl⟩ := hrel
    have hown' := Lib.hid hown
    by_cases hlt : i < L1
    · obtain ⟨b1, o1, c1, hv1, hl1, hc1⟩ := hA (by omega)
      simp only [Value.slice.injEq] at hv1
      obtain ⟨rfl, -, rfl⟩ := hv1
      have q1 := (bel.cell hl1).trans (hc1 i hlt)
      have wi := hbm.out i
      simp only [show W32 = 4294967296 from rfl] at wi
      have hz0 := Lib.hid (prodw_zero l (show i + L2 ≤ l.length by have := hl.out.1; omega) hnlt.out hl.out.2.2)
      clear hc1 hown
      generalize hai : dgt W32 m i = ai at q1 wi
      replace hai := Lib.hid hai
      go_wp2
      go_loopw [8, 26] (fun cv kv wr2 => ∃ (k c : Nat) (l2 : List Nat), k ≤ L2 ∧ kv = .int .i64 (k : Int) ∧ cv = .int .u64 (c : Int) ∧ Own wr2 w.heap.size (w.heap.size + 1) 163 (.slice (some ⟨w.heap.size, 0, none⟩) (L1 + L2) (L1 + L2)) (u32s l2) ∧ Below w.heap.size w wr2 ∧ c < 4294967296 ∧ Hid (l2.length = L1 + L2 ∧ (∀ x ∈ l2, x < W32) ∧ val W32 (l2.drop (i + L2)) = 0 ∧ val W32 l2 + c * W32 ^ (i + k) = m % W32 ^ i * n + dgt W32 m i * (n % W32 ^ k) * W32 ^ i)) (fun _ kv _ => L2 - (intOf kv).toNat)
      case atStart => exact ⟨0, 0, l, by omega, rfl, rfl, hown'.out, bel, by omega, ⟨hl.out.1, hl.out.2.1, hz0.out, by rw [hl.out.2.2, Nat.pow_zero, Nat.mod_one]; simp⟩⟩
      case round =>
        obtain ⟨k, c, l2, hk, rfl, rfl, hown2, bel2, hcc, hl2⟩ := hrel
        have hsz := bel2.size
        have h2len := hl2.out.1
        obtain ⟨g, cap'', hg, -, -, -, hcg, hfg⟩ := hown2.at (by rw [u32s_length]; omega)
        simp only [Value.slice.injEq, Option.some.injEq, Addr.mk.injEq, and_true] at hg
        obtain ⟨rfl, -, -⟩ := hg
        have hcg' := hcg (i + k) (by rw [u32s_length]; omega)
        have hfg' := hfg (i + k)
        have hown2' := Lib.hid hown2
        by_cases hq : k < L2
        · rw [cell_u32 l2 (i + k) (by omega)] at hcg'
          obtain ⟨o, p, r, c', ho, hp, o1', p1', z1, z2, r1, c1', hnew⟩ := prodw_round l2 (by omega) hl2.out.2.1 hcc hl2.out.2.2.2
          rw [ho] at hcg'
          obtain ⟨b2, o2, c2, hv2, hlb, hc2⟩ := hBt (by omega)
          simp only [Value.slice.injEq] at hv2
          obtain ⟨rfl, -, rfl⟩ := hv2
          have q2 := (bel2.cell hlb).trans (hc2 k (by omega))
          have wk := hbn.out k
          simp only [show W32 = 4294967296 from rfl] at wk
          have hpI : (ai : Int) * (dgt W32 n k : Int) = (p : Int) := by rw [← hai.out, ← Int.natCast_mul, hp]
          have hdr := Lib.hid (show val W32 ((l2.set (i + k) r).drop (i + L2)) = 0 by rw [List.drop_set_of_lt (by omega)]; exact hl2.out.2.2.1)
          generalize dgt W32 n k = y at q2 hpI wk
          clear hc2 hown2 hcg hfg ho h2len hp
          go_wp2
          go_roundw
          case rel =>
            refine ⟨k + 1, c', l2.set (i + k) r, by omega, by go_num, rfl, ?_, bel2.setCell (Nat.le_refl _) _, c1', ⟨by rw [hnew.out.1, hl2.out.1], hnew.out.2.1, hdr.out, hnew.out.2.2⟩⟩
            have := hown2'.out.set (i + k) (.int .u32 (r : Int))
            rw [u32s_set] at this; exact this
          case measure => simp [intOf]; omega
        · obtain rfl : k = L2 := by omega
          have hfin := Lib.hid (prodw_last l2 (by omega) hl2.out.2.1 hcc hnlt.out hl2.out.2.2.1 hl2.out.2.2.2)
          generalize (u32s l2).getD (i + k) undef = old at hcg'
          have hwr : ((c : Nat) : Int) % 4294967296 = (c : Int) := by omega
          clear hown2 hcg hfg h2len
          go_wp2
          go_roundw
          case rel =>
            refine ⟨i + 1, l2.set (i + k) c, by omega, by go_num, ?_, bel2.setCell (Nat.le_refl _) _, ⟨by rw [hfin.out.1, hl2.out.1], hfin.out.2.1, hfin.out.2.2⟩⟩
            have := hown2'.out.set (i + k) (.int .u32 (c : Int))
            rw [u32s_set] at this; exact this
          case measure => simp [intOf]; omega
    · obtain rfl : i = L1 := by omega
      have hrow : Wd wr (.slice (some ⟨w.heap.size, 0, none⟩) (i + L2) (i + L2)) l := hown.row
      have hcut := trim_any _ _ wr hrow hl.out.2.1
      rw [hl.out.2.2, Nat.mod_eq_of_lt hmlt.out] at hcut
      have hcut' := Lib.hid hcut
      clear hown hcut hrow
      go_wp2_with fail
      refine hcut'.out.mono ?_
      rintro e w' ⟨⟨v, rfl, hL⟩, j, rfl⟩
      have hL' := Lib.hid hL
      clear hL
      go_wp2
      go_ret
      exact ⟨_, rfl, hL'.out.keep (below_drewN (Below.refl _ _) j), below_drewN bel j⟩
end Go.Proofs.Ytjkekhiceadpgaa
