/- l01Product of the specification: the product of two long numbers. Conditions: fewer than 10^11 digits each. -/
import Derived.Test.YtjkekhiceadpgaaLong4
namespace Go.Proofs.Ytjkekhiceadpgaa
open Go.RowKit Go.Deep
set_option linter.unusedVariables false

theorem prod_step {B : Nat} {a b i k c x : Nat} (l : List Nat) (hl : i + k < l.length) (hx : x = l.getD (i + k) 0 + c + dgt B a i * dgt B b k)
    (h : val B l + c * B ^ (i + k) = a % B ^ i * b + dgt B a i * (b % B ^ k) * B ^ i) :
    val B (l.set (i + k) (x % B)) + x / B * B ^ (i + (k + 1)) = a % B ^ i * b + dgt B a i * (b % B ^ (k + 1)) * B ^ i := by
  have e1 := val_set (B := B) l (i + k) (x % B) hl
  have e2 : B ^ (i + k) * x = B ^ (i + k) * (x % B) + B ^ (i + k) * (B * (x / B)) := by rw [← Nat.mul_add, Nat.mod_add_div]
  have e3 : B ^ (i + k) * x = B ^ (i + k) * l.getD (i + k) 0 + B ^ (i + k) * c + B ^ (i + k) * (dgt B a i * dgt B b k) := by rw [← Nat.mul_add, ← Nat.mul_add, ← hx]
  have e4 : x / B * B ^ (i + (k + 1)) = B ^ (i + k) * (B * (x / B)) := by rw [← Nat.add_assoc, pow_succ']; ac_rfl
  have e5 : dgt B a i * (b % B ^ (k + 1)) * B ^ i = dgt B a i * (b % B ^ k) * B ^ i + B ^ (i + k) * (dgt B a i * dgt B b k) := by
    rw [mod_step, Nat.mul_add, Nat.add_mul, Nat.pow_add]; congr 1; ac_rfl
  have e6 : c * B ^ (i + k) = B ^ (i + k) * c := Nat.mul_comm _ _
  omega
theorem prod_row {B : Nat} {a b i k L : Nat} (hb : b < B ^ L) (hk : L ≤ k) (hB : 2 ≤ B) :
    a % B ^ i * b + dgt B a i * (b % B ^ k) * B ^ i = a % B ^ (i + 1) * b := by
  rw [Nat.mod_eq_of_lt (Nat.lt_of_lt_of_le hb (Nat.pow_le_pow_right (by omega) hk)), mod_step, Nat.add_mul]
  congr 1; ac_rfl
theorem prod_fit {B : Nat} {a b i k c L : Nat} (hB : 2 ≤ B) (l : List Nat) (hb : b < B ^ L) (hk : L ≤ k) (hc : 0 < c)
    (h : val B l + c * B ^ (i + k) = a % B ^ i * b + dgt B a i * (b % B ^ k) * B ^ i) : k = L := by
  rw [prod_row hb hk hB] at h
  have h1 : a % B ^ (i + 1) * b < B ^ (i + 1) * B ^ L := by
    have p1 := Nat.mod_lt a (pow_pos' hB (i + 1))
    exact Nat.lt_of_le_of_lt (Nat.mul_le_mul_right _ (Nat.le_of_lt p1)) (Nat.mul_lt_mul_of_pos_left hb (pow_pos' hB _))
  rw [← Nat.pow_add] at h1
  by_cases e : k = L
  · exact e
  · have h2 := Nat.pow_le_pow_right (n := B) (by omega) (show i + 1 + L ≤ i + k by omega)
    have h3 : 1 * B ^ (i + k) ≤ c * B ^ (i + k) := Nat.mul_le_mul_right _ hc
    omega

theorem lg_mem {α : Type} {d : α} {l : List α} {i : Nat} (h : i < l.length) : l.getD i d ∈ l := by
  simp only [List.getD, List.getElem?_eq_getElem h, Option.getD_some]; exact List.getElem_mem h
theorem val_zeros (B q : Nat) : val B (List.replicate q 0) = 0 := by
  induction q with
  | zero => rfl
  | succ q ih => rw [List.replicate_succ]; simp only [val]; rw [ih]; simp
theorem prod_round {m n i k c L2 : Nat} (l : List Nat) (hlen : i + k < l.length) (hd : ∀ x ∈ l, x < B9) (hc : c < 1000000000) (hn : n < B9 ^ L2)
    (hv : val B9 l + c * B9 ^ (i + k) = m % B9 ^ i * n + dgt B9 m i * (n % B9 ^ k) * B9 ^ i) :
    ∃ o p r c' : Nat, l.getD (i + k) 0 = o ∧ dgt B9 m i * dgt B9 n k = p ∧ o < 1000000000 ∧ p ≤ 999999998000000001 ∧ ((o : Int) + (c : Int) + (p : Int)).tmod 1000000000 = (r : Int) ∧ ((o : Int) + (c : Int) + (p : Int)).tdiv 1000000000 = (c' : Int) ∧ r < 1000000000 ∧ c' < 1000000000 ∧ (0 < c' → k + 1 ≤ L2) ∧
      Hid ((l.set (i + k) r).length = l.length ∧ (∀ x ∈ l.set (i + k) r, x < B9) ∧ val B9 (l.set (i + k) r) + c' * B9 ^ (i + (k + 1)) = m % B9 ^ i * n + dgt B9 m i * (n % B9 ^ (k + 1)) * B9 ^ i) := by
  have ho : l.getD (i + k) 0 < B9 := hd _ (lg_mem (d := 0) hlen)
  have h1 := dgt_lt b9 m i
  have h2 := dgt_lt b9 n k
  have h3 := Nat.mul_le_mul (show dgt B9 m i ≤ 999999999 by simp only [B9] at h1 ⊢; omega) (show dgt B9 n k ≤ 999999999 by simp only [B9] at h2 ⊢; omega)
  have hs := prod_step l hlen rfl hv
  generalize hp : dgt B9 m i * dgt B9 n k = p at h3 hs
  generalize hoo : l.getD (i + k) 0 = o at ho hs
  have hB9 : B9 = 1000000000 := rfl
  have hr : (o + c + p) % B9 < B9 := Nat.mod_lt _ (by decide)
  refine ⟨o, p, (o + c + p) % B9, (o + c + p) / B9, rfl, rfl, by omega, by omega, ?_, ?_, by omega, ?_, ?_, ⟨by simp, ?_, hs⟩⟩
  · rw [Int.tmod_eq_emod_of_nonneg (by omega), hB9]; omega
  · rw [Int.tdiv_eq_ediv_of_nonneg (by omega), hB9]; omega
  · rw [hB9]; omega
  · intro hc'
    by_cases e : k + 1 ≤ L2
    · exact e
    · exact Nat.le_of_eq (prod_fit b9 _ hn (by omega) hc' hs)
  · intro x hx
    rcases List.mem_or_eq_of_mem_set hx with h | h
    · exact hd x h
    · rw [h]; exact hr
theorem nats_set (l : List Nat) (i r : Nat) : (ints (nats l)).set i (.int .i64 (r : Int)) = ints (nats (l.set i r)) := by simp [ints, List.map_set]
theorem cell_nat (l : List Nat) (i : Nat) (h : i < l.length) : (ints (nats l)).getD i undef = .int .i64 (l.getD i 0 : Int) := by
  rw [ints_getD _ _ (by simpa using h), nats_getD l i h]

set_option maxRecDepth 100000 in
set_option maxHeartbeats 4000000 in
theorem l01Product_any (a b : Value) (m n : Nat) (w : World) (ha : LongS w a m) (hb : LongS w b n) (sm : dlen B9 m ≤ 100000000000) (sn : dlen B9 n ≤ 100000000000) :
    Calls Try.prog 80 #[a, b] w fun e w' => ∃ v, e = .returned v ∧ LongS w' v (m * n) ∧ Below w.heap.size w w' := by
  obtain ⟨hm1, a1, cap1, rfl⟩ := ha.len
  obtain ⟨hm2, a2, cap2, rfl⟩ := hb.len
  unfold maxLen at hm1 hm2
  have hA := ha.at
  have hBt := hb.at
  have hmlt := Lib.hid (lt_dlen b9 m)
  have hnlt := Lib.hid (lt_dlen b9 n)
  have hbm := Lib.hid (fun i k => And.intro (dgt_lt b9 m i) (dgt_lt b9 n k))
  have hzn := Lib.hid (fun k (h : dlen B9 n ≤ k) => dgt_big (lt_of_dlen b9 h))
  have hmk := run_make_row' (P := Try.prog) 46 2 (.int .i64 0) 8 Try.underlying46 lg_info rfl .i64 .i64 (dlen B9 m + dlen B9 n) (by omega) (by omega)
  rw [Int.natCast_add] at hmk
  clear ha hb
  generalize hL1 : dlen B9 m = L1 at hm1 hA sm hmk hmlt ⊢
  generalize hL2 : dlen B9 n = L2 at hm2 hBt sn hmk hzn hnlt ⊢
  clear hL1 hL2
  go_enter Try.func80, Try.ntmps80
  go_wp2
  go_loopw [6] (fun iv wr => ∃ (i : Nat) (l : List Nat), i ≤ L1 ∧ iv = .int .i64 i ∧ Own wr w.heap.size (w.heap.size + 1) 2 (.slice (some ⟨w.heap.size, 0, none⟩) (L1 + L2) (L1 + L2)) (ints (nats l)) ∧ Below w.heap.size w wr ∧ Hid (l.length = L1 + L2 ∧ (∀ x ∈ l, x < B9) ∧ val B9 l = m % B9 ^ i * n)) (fun iv _ => L1 - (intOf iv).toNat)
  case atStart =>
    refine ⟨0, List.replicate (L1 + L2) 0, Nat.zero_le _, rfl, ?_, (Below.refl _ _).alloc (Nat.le_refl _) _, ⟨by simp, ?_, ?_⟩⟩
    · have := Own.made w (.int .i64 0) (L1 + L2) 2 (by unfold maxLen; omega)
      simpa [ints] using this
    · intro x hx; rw [List.mem_replicate] at hx; rw [hx.2]; simp [B9]
    · rw [Nat.pow_zero, Nat.mod_one, Nat.zero_mul]; exact val_zeros _ _
  case round =>
    obtain ⟨i, l, hi, rfl, hown, bel, hl⟩ := hrel
    have hown' := Lib.hid hown
    by_cases hlt : i < L1
    · obtain ⟨b1, o1, c1, hv1, hl1, hc1⟩ := hA (by omega)
      simp only [Value.slice.injEq] at hv1
      obtain ⟨rfl, -, rfl⟩ := hv1
      have q1 := hc1 i hlt
      clear hc1 hown
      go_wp2
      go_loopw [7, 8] (fun cv kv wr2 => ∃ (k c : Nat) (l2 : List Nat), k ≤ L2 + 1 ∧ kv = .int .i64 k ∧ cv = .int .i64 c ∧ Own wr2 w.heap.size (w.heap.size + 1) 2 (.slice (some ⟨w.heap.size, 0, none⟩) (L1 + L2) (L1 + L2)) (ints (nats l2)) ∧ Below w.heap.size w wr2 ∧ c < 1000000000 ∧ (0 < c → k ≤ L2) ∧ Hid (l2.length = L1 + L2 ∧ (∀ x ∈ l2, x < B9) ∧ val B9 l2 + c * B9 ^ (i + k) = m % B9 ^ i * n + dgt B9 m i * (n % B9 ^ k) * B9 ^ i)) (fun _ kv _ => L2 + 2 - (intOf kv).toNat)
      case atStart => exact ⟨0, 0, l, by omega, rfl, rfl, hown'.out, bel, by omega, by omega, ⟨hl.out.1, hl.out.2.1, by rw [hl.out.2.2, Nat.pow_zero, Nat.mod_one]; simp⟩⟩
      case round =>
        obtain ⟨k, c, l2, hk, rfl, rfl, hown2, bel2, hcc, hcf, hl2⟩ := hrel
        have hsz := bel2.size
        by_cases hq : k < L2
        · skip
          have h2len := hl2.out.1
          obtain ⟨g, cap'', hg, -, -, -, hcg, hfg⟩ := hown2.at (by simp [ints]; omega)
          simp only [Value.slice.injEq, Option.some.injEq, Addr.mk.injEq, and_true] at hg
          obtain ⟨rfl, -, -⟩ := hg
          have hcg' := hcg (i + k) (by simp [ints]; omega)
          have hfg' := hfg (i + k)
          rw [cell_nat l2 (i + k) (by omega)] at hcg'
          obtain ⟨o, p, r, c', ho, hp, o1', p1', z1, z2, r1, c1', hfit, hnew⟩ := prod_round l2 (by omega) hl2.out.2.1 hcc hnlt.out hl2.out.2.2
          rw [ho] at hcg'
          have q1' := (bel2.cell hl1).trans q1
          obtain ⟨b2, o2, c2, hv2, hlb, hc2⟩ := hBt (by omega)
          simp only [Value.slice.injEq] at hv2
          obtain ⟨rfl, -, rfl⟩ := hv2
          have q2 := (bel2.cell hlb).trans (hc2 k (by omega))
          have hpI : (dgt B9 m i : Int) * (dgt B9 n k : Int) = (p : Int) := by rw [← Int.natCast_mul, hp]
          generalize dgt B9 n k = y at q2 hpI
          clear hc2
          have hown2' := Lib.hid hown2
          have hfit' := Lib.hid hfit
          clear hown2 hcg hfg hfit ho h2len hp
          generalize hai : dgt B9 m i = ai at q1' hpI
          replace hai := Lib.hid hai
          go_wp2
          go_quiet (fail)
          go_wp2
          go_roundw
          case rel =>
            refine ⟨k + 1, c', l2.set (i + k) r, by omega, by go_num, rfl, ?_, (below_drewN bel2 _).setCell (Nat.le_refl _) _, c1', hfit'.out, ⟨by rw [hnew.out.1, hl2.out.1], hnew.out.2.1, by rw [← hai.out]; exact hnew.out.2.2⟩⟩
            have := hown2'.out.set (i + k) (.int .i64 (r : Int))
            rw [nats_set] at this; exact this
          case measure => simp [intOf]; omega
        · by_cases hcz : 0 < c
          · have hkL := hcf hcz
            have h2len := hl2.out.1
            obtain ⟨g, cap'', hg, -, -, -, hcg, hfg⟩ := hown2.at (by simp [ints]; omega)
            simp only [Value.slice.injEq, Option.some.injEq, Addr.mk.injEq, and_true] at hg
            obtain ⟨rfl, -, -⟩ := hg
            have hcg' := hcg (i + k) (by simp [ints]; omega)
            have hfg' := hfg (i + k)
            rw [cell_nat l2 (i + k) (by omega)] at hcg'
            obtain ⟨o, p, r, c', ho, hp, o1', p1', z1, z2, r1, c1', hfit, hnew⟩ := prod_round l2 (by omega) hl2.out.2.1 hcc hnlt.out hl2.out.2.2
            rw [ho] at hcg'
            have q1' := (bel2.cell hl1).trans q1
            rw [hzn.out k (by omega), Nat.mul_zero] at hp
            subst hp
            simp only [Int.natCast_zero, Int.add_zero] at z1 z2
            have hown2' := Lib.hid hown2
            have hfit' := Lib.hid hfit
            clear hown2 hcg hfg hfit ho h2len
            generalize hai : dgt B9 m i = ai at q1'
            replace hai := Lib.hid hai
            go_wp2
            go_roundw
            case rel =>
              refine ⟨k + 1, c', l2.set (i + k) r, by omega, by go_num, rfl, ?_, bel2.setCell (Nat.le_refl _) _, c1', hfit'.out, ⟨by rw [hnew.out.1, hl2.out.1], hnew.out.2.1, by rw [← hai.out]; exact hnew.out.2.2⟩⟩
              have := hown2'.out.set (i + k) (.int .i64 (r : Int))
              rw [nats_set] at this; exact this
            case measure => simp [intOf]; omega
          · obtain rfl : c = 0 := by omega
            have hfin : val B9 l2 = m % B9 ^ (i + 1) * n := by
              have := hl2.out.2.2
              rw [prod_row hnlt.out (by omega) b9] at this
              omega
            have hown2' := Lib.hid hown2
            have hfin' := Lib.hid hfin
            clear hown2 hfin
            go_wp2
            go_roundw
            case rel => exact ⟨i + 1, l2, by omega, by go_num, hown2'.out, bel2, ⟨hl2.out.1, hl2.out.2.1, hfin'.out⟩⟩
            case measure => simp [intOf]; omega
    · obtain rfl : i = L1 := by omega
      have hrow : Ints wr (.slice (some ⟨w.heap.size, 0, none⟩) (i + L2) (i + L2)) (nats l) := hown.row
      have hcut := l01Cut_any _ _ wr hrow hl.out.2.1
      rw [hl.out.2.2, Nat.mod_eq_of_lt hmlt.out] at hcut
      clear hown
      go_wp2_with fail
      refine hcut.mono ?_
      rintro e w' ⟨⟨v, rfl, hL⟩, j, rfl⟩
      go_wp2
      go_ret
      exact ⟨_, rfl, hL.keep (below_drewN (Below.refl _ _) j), below_drewN bel j⟩
end Go.Proofs.Ytjkekhiceadpgaa
