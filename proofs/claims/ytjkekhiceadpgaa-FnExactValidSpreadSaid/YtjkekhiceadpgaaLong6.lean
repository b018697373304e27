/- l01Digit of the specification: one digit of a quotient. Conditions: 0 < b, a < 10^9 * b; fewer than 10^10 digits. -/
import Derived.Test.YtjkekhiceadpgaaLong5
namespace Go.Proofs.Ytjkekhiceadpgaa
open Go.RowKit Go.Deep
set_option linter.unusedVariables false

theorem digit_low {m n P : Nat} (hP : 0 < P) (hn : 0 < n) : m / P / (n / P + 1) ≤ m / n := by
  rw [Nat.div_div_eq_div_mul]
  apply Nat.div_le_div_left _ hn
  have h1 := Nat.mod_add_div n P
  have h2 := Nat.mod_lt n hP
  rw [Nat.mul_add]; omega
theorem digit_high {m n P : Nat} (h : 0 < n / P) (hP : 0 < P) : m / n ≤ m / P / (n / P) := by
  rw [Nat.div_div_eq_div_mul]
  exact Nat.div_le_div_left (Nat.mul_div_le n P) (Nat.mul_pos hP h)
theorem top_one {n K : Nat} (h : dlen B9 n = K + 1) : dgt B9 n K = n / B9 ^ K := by
  have h1 := lt_dlen b9 n
  rw [h, pow_succ', Nat.mul_comm] at h1
  exact Nat.mod_eq_of_lt ((Nat.div_lt_iff_lt_mul (pow_pos' b9 K)).2 h1)
theorem top_two {n K : Nat} (h : dlen B9 n = K + 1 + 1) : dgt B9 n (K + 1) * 1000000000 + dgt B9 n K = n / B9 ^ K := by
  have h1 := div_split B9 n K
  rw [top_one h, h1, Nat.mul_comm]; simp only [B9]; omega
theorem one_digit {d : Nat} (h0 : 0 < d) (h1 : d < B9) : longS d = [(d : Int)] := by
  have h : dlen B9 d = 1 := dlen_eq b9 (by simpa using h1) (Or.inr (by simp; omega))
  simp [longS, h, dgs, dgt, Nat.mod_eq_of_lt h1]
theorem one_long (w : World) (d : Nat) (h0 : 0 < d) (h1 : d < B9) : LongS (w.alloc (.cells #[.int .i64 (d : Int)] 2)) (.slice (some ⟨w.heap.size, 0, none⟩) 1 1) d := by
  unfold LongS
  rw [one_digit h0 h1]
  refine ⟨by simp [maxLen], some ⟨w.heap.size, 0, none⟩, 1, rfl, ⟨by simp, by simp [maxLen]⟩, fun i hi => ⟨w.heap.size, 0, rfl, ?_⟩⟩
  have hi0 : i = 0 := by simp at hi; omega
  subst hi0
  simp

theorem l00Min_any (x y : Int) (w : World) : Calls Try.prog 140 #[.int .i64 x, .int .i64 y] w fun e w' => e = .returned (.int .i64 (min x y)) ∧ w' = w := by
  go_enter Try.func140, Try.ntmps140
  by_cases h : x < y
  · have hq := Lib.hid (show min x y = x by omega)
    go_wp2
    go_ret
    exact ⟨ret_int hq.out.symm, rfl⟩
  · have hq := Lib.hid (show min x y = y by omega)
    go_wp2
    go_ret
    exact ⟨ret_int hq.out.symm, rfl⟩

theorem digit_facts {m n : Nat} (hn : 0 < n) (hle : n ≤ m) (hlt : m < n * B9) :
    ∃ K f t : Nat, dlen B9 n = K + 1 ∧ dgt B9 n K = f ∧ 0 < f ∧ f < 1000000000 ∧ t < 1000000000000000000 ∧ t / (f + 1) ≤ m / n ∧ m / n ≤ t / f ∧ m / n ≤ 999999999 ∧
      ((dlen B9 m = K + 1 ∧ dgt B9 m K = t) ∨ (dlen B9 m = K + 1 + 1 ∧ dgt B9 m (K + 1) * 1000000000 + dgt B9 m K = t)) := by
  have hpos : 0 < dlen B9 n := by
    rcases Nat.eq_zero_or_pos (dlen B9 n) with e | e
    · have := lt_dlen b9 n; rw [e] at this; simp at this; omega
    · exact e
  obtain ⟨K, hK⟩ : ∃ K, dlen B9 n = K + 1 := ⟨dlen B9 n - 1, by omega⟩
  have hP := pow_pos' b9 K
  have hf : 0 < n / B9 ^ K := by
    have := le_of_dlen b9 (show K < dlen B9 n by omega)
    exact (Nat.le_div_iff_mul_le hP).2 (by omega)
  have hfd := top_one hK
  have hfl := dgt_lt b9 n K
  have hq : m / n ≤ 999999999 := by
    have := (Nat.div_lt_iff_lt_mul hn).2 (show m < B9 * n by rw [Nat.mul_comm]; exact hlt)
    simp only [B9] at this; omega
  have hlm := dlen_mono b9 hle
  have hlm2 : dlen B9 m ≤ K + 1 + 1 := by
    apply dlen_le b9
    have h1 := lt_dlen b9 n
    rw [hK] at h1
    rw [pow_succ']
    exact Nat.lt_trans hlt (Nat.mul_lt_mul_of_pos_right h1 (by decide))
  have hlow := digit_low (m := m) hP hn
  have hhigh := digit_high (m := m) hf hP
  rw [hfd] at hfl
  refine ⟨K, n / B9 ^ K, m / B9 ^ K, hK, hfd, hf, hfl, ?_, hlow, hhigh, hq, ?_⟩
  · apply (Nat.div_lt_iff_lt_mul hP).2
    have h1 := lt_of_dlen b9 hlm2
    rw [pow_succ', pow_succ'] at h1
    have e : B9 ^ K * B9 * B9 = 1000000000000000000 * B9 ^ K := by rw [Nat.mul_assoc, Nat.mul_comm, show B9 * B9 = 1000000000000000000 from rfl]
    rw [← e]; exact h1
  · by_cases e : dlen B9 m = K + 1
    · exact Or.inl ⟨e, top_one e⟩
    · have e2 : dlen B9 m = K + 1 + 1 := by omega
      exact Or.inr ⟨e2, top_two e2⟩

set_option maxRecDepth 100000 in
set_option maxHeartbeats 4000000 in
theorem l01Digit_any (a b : Value) (m n : Nat) (w : World) (ha : LongS w a m) (hb : LongS w b n) (hn : 0 < n) (hlt : m < n * B9) (sm : dlen B9 m ≤ 10000000000) (sn : dlen B9 n ≤ 10000000000) :
    Calls Try.prog 123 #[a, b] w fun e w' => e = .returned (.int .i64 (m / n : Nat)) ∧ Below w.heap.size w w' := by
  have hcmp := l01Cmp_any a b m n w ha hb
  by_cases hle : m < n
  · have hz := Lib.hid (show m / n = 0 from Nat.div_eq_of_lt hle)
    rw [cmpI_lt hle] at hcmp
    go_enter Try.func123, Try.ntmps123
    go_wp2_with fail
    refine hcmp.mono ?_
    rintro e w1 ⟨rfl, j, rfl⟩
    go_wp2
    go_ret
    exact ⟨by rw [hz.out]; rfl, below_drewN (Below.refl _ _) j⟩
  · have hnm : n ≤ m := by omega
    obtain ⟨K, f, t, hK, hf, f0, f1, t1, hlow, hhigh, hq9, htop⟩ := digit_facts hn hnm hlt
    have hc : cmpI m n = 0 ∨ cmpI m n = 1 := by unfold cmpI; rw [if_neg hle]; split <;> simp
    have hA := ha.at
    have hBt := hb.at
    obtain ⟨hm1, a1, cap1, rfl⟩ := ha.len
    obtain ⟨hm2, a2, cap2, rfl⟩ := hb.len
    unfold maxLen at hm1 hm2
    have hone := Lib.hid (And.intro ha hb)
    have hmul := Lib.hid (fun d => (Nat.le_div_iff_mul_le hn : d ≤ m / n ↔ d * n ≤ m))
    have f2 : ((f : Int) + 1 == 0) = false := by simp; omega
    have f3 : ¬ (f : Int) + 1 = 0 := by omega
    have f4 : ((f : Int) == 0) = false := by simp; omega
    have f5 : ¬ (f : Int) = 0 := by omega
    have y1 : (t : Int).tdiv ((f : Int) + 1) = (t / (f + 1) : Nat) := by rw [Int.tdiv_eq_ediv_of_nonneg (by omega)]; simp
    have y2 : (t : Int).tdiv (f : Int) = (t / f : Nat) := by rw [Int.tdiv_eq_ediv_of_nonneg (by omega)]; simp
    have y3 := Nat.div_le_self t f
    have y4 : min ((t / f : Nat) : Int) 999999999 = ((min (t / f) 999999999 : Nat) : Int) := by omega
    have y5 : m / n ≤ min (t / f) 999999999 := by omega
    have y6 : min (t / f) 999999999 ≤ 999999999 := by omega
    clear hn hlt hnm hle ha hb hhigh
    rw [hK] at hBt hm2 sn ⊢
    generalize hcv : cmpI m n = cv at hcmp hc
    clear hcv
    generalize m / n = q at hlow hq9 y5 hmul ⊢
    generalize t / (f + 1) = lo at hlow y1
    generalize min (t / f) 999999999 = hi at y4 y5 y6
    generalize t / f = tf at y2 y3 y4
    rcases htop with ⟨hL, ht⟩ | ⟨hL, ht⟩
    · rw [hL] at hA hm1 sm hcmp ⊢
      rw [hK] at hcmp
      have hc0 : 0 ≤ cv := by omega
      have ho1 := hone.out.1
      have ho2 := hone.out.2
      rw [hL] at ho1
      rw [hK] at ho2
      have ho1' := Lib.hid ho1
      have ho2' := Lib.hid ho2
      clear hc ho1 ho2 hone
      obtain ⟨b1, o1, c1, hv1, hl1, hc1⟩ := hA (by omega)
      simp only [Value.slice.injEq] at hv1
      obtain ⟨rfl, -, rfl⟩ := hv1
      obtain ⟨b2, o2, c2, hv2, hl2, hc2⟩ := hBt (by omega)
      simp only [Value.slice.injEq] at hv2
      obtain ⟨rfl, -, rfl⟩ := hv2
      have q1 := hc1 K (by omega)
      have q2 := hc2 K (by omega)
      rw [hf] at q2
      rw [ht] at q1
      clear ht
      clear hc1 hc2 hA hBt
      replace hL := Lib.hid hL
      replace hK := Lib.hid hK
      go_enter Try.func123, Try.ntmps123
      go_wp2_with fail
      refine hcmp.mono ?_
      rintro e w1 ⟨rfl, j, rfl⟩
      have bel1 : Below w.heap.size w (w.drewN j) := below_drewN (Below.refl _ _) j
      replace q1 : (w.drewN j).cell? _ = _ := q1
      replace q2 : (w.drewN j).cell? _ = _ := q2
      go_wp2_with fail
      refine (l00Min_any _ _ _).mono ?_
      rintro e w2 ⟨rfl, rfl⟩
      rw [y4]
      go_wp2
      go_loopw [7, 8] (fun lv hv wr => ∃ lo hi : Nat, lv = .int .i64 lo ∧ hv = .int .i64 hi ∧ lo ≤ q ∧ q ≤ hi ∧ hi ≤ 999999999 ∧ Below w.heap.size w wr) (fun lv hv _ => (intOf hv - intOf lv).toNat)
      case atStart => exact ⟨lo, hi, rfl, rfl, hlow, y5, y6, bel1⟩
      case round =>
        obtain ⟨lo2, hi2, rfl, rfl, k1, k2, k3, bel⟩ := hrel
        by_cases hlh : lo2 < hi2
        · obtain ⟨d, d0, d1, d2⟩ : ∃ d : Nat, ((lo2 : Int) + (hi2 : Int) + 1).tdiv 2 = (d : Int) ∧ lo2 < d ∧ d ≤ hi2 := ⟨(lo2 + hi2 + 1) / 2, by rw [Int.tdiv_eq_ediv_of_nonneg (by omega)]; omega, by omega, by omega⟩
          have hd9 : d < 1000000000 := by omega
          have bel2 := bel.alloc (o := .cells #[.int .i64 (d : Int)] 2) (by have := bel.size; omega)
          have hpr := l01Product_any _ _ n d _ (ho2'.out.keep bel2) (one_long wr d (by omega) hd9) (by have := hK.out; omega) (Nat.le_trans (dlen_le b9 (L := 1) (show d < B9 ^ 1 by rw [Nat.pow_one]; exact hd9)) (by decide))
          go_wp2_with fail
          refine hpr.mono ?_
          rintro e w3 ⟨v, rfl, hv3, b3⟩
          have bel3 := below_wt bel2 b3
          go_wp2_with fail
          refine (l01Cmp_any v _ (n * d) m w3 hv3 (ho1'.out.keep bel3)).mono ?_
          rintro e w4 ⟨rfl, j4, rfl⟩
          by_cases hdq : d ≤ q
          · have hcz : cmpI (n * d) m ≤ 0 := by
              have := (hmul.out d).1 hdq
              rw [Nat.mul_comm] at this
              unfold cmpI; split
              · omega
              · rw [if_neg (by omega)]; omega
            generalize cmpI (n * d) m = cz at hcz ⊢
            go_wp2
            go_roundw
            case rel => exact ⟨d, hi2, rfl, rfl, hdq, k2, k3, below_drewN bel3 _⟩
            case measure => simp [intOf]; omega
          · have hcz : 0 < cmpI (n * d) m := by
              have h9 : ¬ d * n ≤ m := fun h => hdq ((hmul.out d).2 h)
              rw [Nat.mul_comm] at h9
              rw [cmpI_gt (by omega)]; omega
            generalize cmpI (n * d) m = cz at hcz ⊢
            go_wp2
            go_roundw
            case rel => exact ⟨lo2, d - 1, rfl, by go_num, k1, by omega, by omega, below_drewN bel3 _⟩
            case measure => simp [intOf]; omega
        · obtain rfl : lo2 = q := by omega
          go_wp2
          go_ret
          exact ⟨rfl, bel⟩
    · rw [hL] at hA hm1 sm hcmp ⊢
      rw [hK] at hcmp
      have hc0 : 0 ≤ cv := by omega
      have ho1 := hone.out.1
      have ho2 := hone.out.2
      rw [hL] at ho1
      rw [hK] at ho2
      have ho1' := Lib.hid ho1
      have ho2' := Lib.hid ho2
      clear hc ho1 ho2 hone
      obtain ⟨b1, o1, c1, hv1, hl1, hc1⟩ := hA (by omega)
      simp only [Value.slice.injEq] at hv1
      obtain ⟨rfl, -, rfl⟩ := hv1
      obtain ⟨b2, o2, c2, hv2, hl2, hc2⟩ := hBt (by omega)
      simp only [Value.slice.injEq] at hv2
      obtain ⟨rfl, -, rfl⟩ := hv2
      have q1 := hc1 K (by omega)
      have q0 := hc1 (K + 1) (by omega)
      have q2 := hc2 K (by omega)
      rw [hf] at q2
      have hdd := Lib.hid (And.intro (dgt_lt b9 m K) (dgt_lt b9 m (K + 1)))
      have htI : (dgt B9 m (K + 1) : Int) * 1000000000 + (dgt B9 m K : Int) = (t : Int) := by omega
      have g1 : dgt B9 m K < 1000000000 := hdd.out.1
      have g2 : dgt B9 m (K + 1) < 1000000000 := hdd.out.2
      clear hdd ht
      generalize dgt B9 m K = x at q1 htI g1
      generalize dgt B9 m (K + 1) = x1 at q0 htI g2
      clear hc1 hc2 hA hBt
      replace hL := Lib.hid hL
      replace hK := Lib.hid hK
      go_enter Try.func123, Try.ntmps123
      go_wp2_with fail
      refine hcmp.mono ?_
      rintro e w1 ⟨rfl, j, rfl⟩
      have bel1 : Below w.heap.size w (w.drewN j) := below_drewN (Below.refl _ _) j
      replace q1 : (w.drewN j).cell? _ = _ := q1
      replace q0 : (w.drewN j).cell? _ = _ := q0
      replace q2 : (w.drewN j).cell? _ = _ := q2
      go_wp2_with fail
      refine (l00Min_any _ _ _).mono ?_
      rintro e w2 ⟨rfl, rfl⟩
      rw [y4]
      go_wp2
      go_loopw [7, 8] (fun lv hv wr => ∃ lo hi : Nat, lv = .int .i64 lo ∧ hv = .int .i64 hi ∧ lo ≤ q ∧ q ≤ hi ∧ hi ≤ 999999999 ∧ Below w.heap.size w wr) (fun lv hv _ => (intOf hv - intOf lv).toNat)
      case atStart => exact ⟨lo, hi, rfl, rfl, hlow, y5, y6, bel1⟩
      case round =>
        obtain ⟨lo2, hi2, rfl, rfl, k1, k2, k3, bel⟩ := hrel
        by_cases hlh : lo2 < hi2
        · obtain ⟨d, d0, d1, d2⟩ : ∃ d : Nat, ((lo2 : Int) + (hi2 : Int) + 1).tdiv 2 = (d : Int) ∧ lo2 < d ∧ d ≤ hi2 := ⟨(lo2 + hi2 + 1) / 2, by rw [Int.tdiv_eq_ediv_of_nonneg (by omega)]; omega, by omega, by omega⟩
          have hd9 : d < 1000000000 := by omega
          have bel2 := bel.alloc (o := .cells #[.int .i64 (d : Int)] 2) (by have := bel.size; omega)
          have hpr := l01Product_any _ _ n d _ (ho2'.out.keep bel2) (one_long wr d (by omega) hd9) (by have := hK.out; omega) (Nat.le_trans (dlen_le b9 (L := 1) (show d < B9 ^ 1 by rw [Nat.pow_one]; exact hd9)) (by decide))
          go_wp2_with fail
          refine hpr.mono ?_
          rintro e w3 ⟨v, rfl, hv3, b3⟩
          have bel3 := below_wt bel2 b3
          go_wp2_with fail
          refine (l01Cmp_any v _ (n * d) m w3 hv3 (ho1'.out.keep bel3)).mono ?_
          rintro e w4 ⟨rfl, j4, rfl⟩
          by_cases hdq : d ≤ q
          · have hcz : cmpI (n * d) m ≤ 0 := by
              have := (hmul.out d).1 hdq
              rw [Nat.mul_comm] at this
              unfold cmpI; split
              · omega
              · rw [if_neg (by omega)]; omega
            generalize cmpI (n * d) m = cz at hcz ⊢
            go_wp2
            go_roundw
            case rel => exact ⟨d, hi2, rfl, rfl, hdq, k2, k3, below_drewN bel3 _⟩
            case measure => simp [intOf]; omega
          · have hcz : 0 < cmpI (n * d) m := by
              have h9 : ¬ d * n ≤ m := fun h => hdq ((hmul.out d).2 h)
              rw [Nat.mul_comm] at h9
              rw [cmpI_gt (by omega)]; omega
            generalize cmpI (n * d) m = cz at hcz ⊢
            go_wp2
            go_roundw
            case rel => exact ⟨lo2, d - 1, rfl, by go_num, k1, by omega, by omega, below_drewN bel3 _⟩
            case measure => simp [intOf]; omega
        · obtain rfl : lo2 = q := by omega
          go_wp2
          go_ret
          exact ⟨rfl, bel⟩
end Go.Proofs.Ytjkekhiceadpgaa
