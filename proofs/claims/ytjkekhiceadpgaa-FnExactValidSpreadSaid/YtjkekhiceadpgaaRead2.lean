/- isNumeral and longOfDigits of the project. Conditions: for longOfDigits the text is a numeral. -/
import Derived.Test.YtjkekhiceadpgaaRead
import Derived.Test.YtjkekhiceadpgaaWord14
namespace Go.Proofs.Ytjkekhiceadpgaa
open Go.RowKit Go.Deep
set_option linter.unusedVariables false

set_option maxRecDepth 100000 in
set_option maxHeartbeats 4000000 in
theorem isNumeral_any (s : ByteArray) (w : World) : Calls Try.prog 125 #[.string s] w fun e w' => e = .returned (.bool (numB s)) ∧ w' = w := by
  obtain ⟨L, hL⟩ : ∃ L, s.size = L := ⟨_, rfl⟩
  by_cases h1 : 1 ≤ L ∧ L ≤ 300 ∧ ¬ (byteAt s 0 = 48 ∧ 1 < L)
  · obtain ⟨l1, l2, l3⟩ := h1
    have hfin := Lib.hid (show numB s = (List.range L).all fun i => digB (byteAt s i) by simp [numB, hL, l1, l2]; intro; omega)
    have hget := Lib.hid (fun i (h : i < s.size) => byteAt_get s i h)
    have z0 := byteAt_get s 0 (by omega)
    have n1 : ¬ (L : Int) < 1 := by omega
    have n2 : ¬ (300 : Int) < (L : Int) := by omega
    have n3 : (0 : Int) < (L : Int) := by omega
    generalize hx0 : byteAt s 0 = x0 at z0 l3
    have hb : (((x0 : Int) == 48) = false) ∨ (((x0 : Int) == 48) = true ∧ ¬ (1 : Int) < (L : Int)) := by
      by_cases e : x0 = 48
      · exact Or.inr ⟨by simp [e], by omega⟩
      · exact Or.inl (by simp; omega)
    have hL' := Lib.hid hL
    clear l3 hx0
    rcases hb with hb | ⟨hb, hb2⟩
    all_goals
      go_enter Try.func125, Try.ntmps125
      go_wp2
      go_loopw [24] (fun i wr => ∃ k : Nat, k ≤ L ∧ i = .int .i64 (k : Int) ∧ Hid (wr = w) ∧ Hid ((List.range k).all (fun i => digB (byteAt s i)) = true)) (fun i _ => L - (intOf i).toNat)
      case atStart => exact ⟨0, Nat.zero_le _, rfl, Lib.hid rfl, Lib.hid rfl⟩
      case round =>
        obtain ⟨k, hk, rfl, hww, hall⟩ := hrel
        by_cases hlt : k < L
        · have hkI : (k : Int) < (L : Int) := by omega
          have zk := hget.out k (by have := hL'.out; omega)
          have hdk := Lib.hid (show digB (byteAt s k) = decide (48 ≤ byteAt s k ∧ byteAt s k ≤ 57) from rfl)
          generalize hx : byteAt s k = x at zk hdk
          have hx' := Lib.hid hx
          by_cases hd : 48 ≤ x ∧ x ≤ 57
          · obtain ⟨d1, d2⟩ := hd
            have d3 : ¬ (x : Int) < 48 := by omega
            have d4 : ¬ (57 : Int) < (x : Int) := by omega
            have hn := Lib.hid (show (List.range (k + 1)).all (fun i => digB (byteAt s i)) = true by rw [all_next, hall.out, hx'.out, hdk.out]; simp [d1, d2])
            clear hx d1 d2
            go_wp2
            go_roundw
            case rel => exact ⟨k + 1, by omega, by go_num, hww, hn⟩
            case measure => simp [intOf]; omega
          · have hn := Lib.hid (show numB s = false by rw [hfin.out]; exact all_not hlt (by rw [hx'.out, hdk.out]; simpa using hd))
            clear hx
            by_cases hd1 : x < 48
            · have d3 : (x : Int) < 48 := by omega
              clear hd hd1
              go_wp2
              go_ret
              exact ⟨by rw [hn.out]; rfl, hww.out⟩
            · have d3 : ¬ (x : Int) < 48 := by omega
              have d4 : (57 : Int) < (x : Int) := by omega
              clear hd hd1
              go_wp2
              go_ret
              exact ⟨by rw [hn.out]; rfl, hww.out⟩
        · obtain rfl : k = L := by omega
          have hn := Lib.hid (show numB s = true by rw [hfin.out]; exact hall.out)
          have hlt' : ¬ (k : Int) < (k : Int) := by omega
          clear hlt
          go_wp2
          go_ret
          exact ⟨by rw [hn.out]; rfl, hww.out⟩
  · have hn := Lib.hid (show numB s = false by simp only [numB, hL, decide_eq_false h1, Bool.false_and])
    by_cases l1 : L < 1
    · have n1 : (L : Int) < 1 := by omega
      clear h1 l1
      go_enter Try.func125, Try.ntmps125
      go_wp2
      go_ret
      exact ⟨by rw [hn.out]; rfl, rfl⟩
    · have n1 : ¬ (L : Int) < 1 := by omega
      by_cases l2 : 300 < L
      · have n2 : (300 : Int) < (L : Int) := by omega
        clear h1 l1 l2
        go_enter Try.func125, Try.ntmps125
        go_wp2
        go_ret
        exact ⟨by rw [hn.out]; rfl, rfl⟩
      · have n2 : ¬ (300 : Int) < (L : Int) := by omega
        have h3 : byteAt s 0 = 48 ∧ 1 < L := by
          rcases Classical.em (byteAt s 0 = 48 ∧ 1 < L) with h | h
          · exact h
          · exact absurd ⟨by omega, by omega, h⟩ h1
        have z0 := byteAt_get s 0 (by omega)
        obtain ⟨h5, h4⟩ := h3
        have zz : 0 < s.size := by omega
        have z1 : s[0].toNat = 48 := z0.trans h5
        clear z0 h5
        have n3 : (0 : Int) < (L : Int) := by omega
        have n4 : (1 : Int) < (L : Int) := by omega
        clear h4
        clear h1 l1 l2
        go_enter Try.func125, Try.ntmps125
        go_wp2
        go_ret
        exact ⟨by rw [hn.out]; rfl, rfl⟩

/-- the number of j digits from place f on -/
def grp (s : ByteArray) (f : Nat) : Nat → Nat
  | 0 => 0
  | j + 1 => grp s f j * 10 + (byteAt s (f + j) - 48)
theorem decV_grp (s : ByteArray) (f : Nat) : ∀ j, decV s (f + j) = decV s f * 10 ^ j + grp s f j
  | 0 => by simp [grp]
  | j + 1 => by
    rw [show f + (j + 1) = (f + j) + 1 by omega, decV, decV_grp s f j, grp, Nat.pow_succ]
    rw [Nat.add_mul, Nat.mul_assoc, Nat.add_assoc]
theorem grp_lt {s : ByteArray} (h : numB s = true) (f : Nat) : ∀ j, f + j ≤ s.size → grp s f j < 10 ^ j
  | 0, _ => by simp [grp]
  | j + 1, hk => by
    have h1 := grp_lt h f j (by omega)
    have h2 := numB_digit h (show f + j < s.size by omega)
    rw [grp, Nat.pow_succ]; omega
theorem decV_len32 {s : ByteArray} (h : numB s = true) {k : Nat} (hk : k ≤ s.size) : dlen W32 (decV s k) ≤ k :=
  dlen_le w32 (Nat.lt_of_lt_of_le (decV_lt h k hk) (Nat.pow_le_pow_left (by decide) k))
theorem zero_longI (W : World) (a : Option Addr) (c : Nat) (hc : c ≤ maxLen) : LongI W (.slice a (dlen W32 0) c) 0 := by
  refine ⟨by unfold maxLen; simp [dlen_zero, dgs], a, c, by simp [dlen_zero, dgs], ⟨by simp [dlen_zero, dgs], hc⟩, fun i hi => ?_⟩
  simp [dlen_zero, dgs] at hi

set_option maxRecDepth 100000 in
set_option maxHeartbeats 4000000 in
theorem longOfDigits_any (s : ByteArray) (w : World) (h : numB s = true) :
    Calls Try.prog 126 #[.string s] w fun e w' => ∃ v, e = .returned v ∧ LongI w' v (decV s s.size) ∧ Below w.heap.size w w' := by
  obtain ⟨hs1, hs2⟩ := numB_size h
  obtain ⟨L, hL⟩ : ∃ L, s.size = L := ⟨_, rfl⟩
  have hdig := Lib.hid (fun k (hk : k < s.size) => numB_digit h hk)
  have hget := Lib.hid (fun i (hi : i < s.size) => byteAt_get s i hi)
  have hlen := Lib.hid (fun k (hk : k ≤ s.size) => decV_len32 h hk)
  have hgl := Lib.hid (fun f j hj => grp_lt h f j hj)
  rw [hL] at hs1 hs2
  have hL' := Lib.hid hL
  have hh1 : (L : Int).tmod 9 = ((L % 9 : Nat) : Int) := by rw [Int.tmod_eq_emod_of_nonneg (by omega)]; rfl
  have hh2 : (L : Int) % 9 = ((L % 9 : Nat) : Int) := rfl
  obtain ⟨hd, hhd⟩ : ∃ hd, L % 9 = hd := ⟨_, rfl⟩
  obtain ⟨Q, hQ⟩ : ∃ Q, hd + 9 * Q = L := ⟨L / 9, by omega⟩
  have hd9 : hd < 9 := by omega
  rw [hhd] at hh1 hh2
  have hQ' := Lib.hid hQ
  clear h hhd hQ
  go_enter Try.func126, Try.ntmps126
  go_wp2
  go_loopw [3, 5, 6] (fun xv fv tv wr => ∃ (f q : Nat) (a : Option Addr) (c : Nat), fv = .int .i64 (f : Int) ∧ tv = .int .i64 ((hd + 9 * q : Nat) : Int) ∧ f ≤ L ∧ q ≤ Q + 1 ∧ Hid ((q = 0 ∧ f = 0) ∨ (1 ≤ q ∧ f + 9 = hd + 9 * q)) ∧ xv = .slice a (dlen W32 (decV s f)) c ∧ Hid (LongI wr (.slice a (dlen W32 (decV s f)) c) (decV s f)) ∧ Below w.heap.size w wr) (fun _ _ tv _ => L + 10 - (intOf tv).toNat)
  case atStart => exact ⟨0, 0, _, _, rfl, by go_num, by omega, by omega, Lib.hid (Or.inl ⟨rfl, rfl⟩), rfl, zero_longI _ _ _ (by unfold maxLen; omega), below1 _ _⟩
  case round =>
    obtain ⟨f, q, a, c, rfl, rfl, hfL, hqQ, hfq, rfl, hx, bel⟩ := hrel
    obtain ⟨t, ht⟩ : ∃ t, hd + 9 * q = t := ⟨_, rfl⟩
    rw [ht]
    by_cases hlt : t ≤ L
    · have hft : f ≤ t ∧ t ≤ f + 9 := by rcases hfq.out with ⟨h1, h2⟩ | ⟨h1, h2⟩ <;> omega
      obtain ⟨n, hn⟩ : ∃ n, f + n = t := ⟨t - f, by omega⟩
      have hn' := Lib.hid hn
      have hn9 : n ≤ 9 := by omega
      have hkk := Lib.hid (show n = 9 ∨ f = 0 by rcases hfq.out with ⟨h1, h2⟩ | ⟨h1, h2⟩ <;> omega)
      have ht' := Lib.hid ht
      obtain ⟨ft1, ft2⟩ := hft
      have hX := Lib.hid (fun (W : World) (b : Below wr.heap.size wr W) => hx.out.keep b)
      obtain ⟨wo, hwo⟩ : ∃ wo, wo = wr := ⟨_, rfl⟩
      subst hwo
      clear ht hn
      go_wp2
      go_loopw [7, 8] (fun gv iv wr2 => ∃ j : Nat, j ≤ n ∧ gv = .int .u64 (grp s f j : Nat) ∧ iv = .int .i64 ((f + j : Nat) : Int) ∧ Hid (wr2 = wo)) (fun _ iv _ => t - (intOf iv).toNat)
      case atStart => exact ⟨0, Nat.zero_le _, rfl, by go_num, Lib.hid rfl⟩
      case round =>
        obtain ⟨j, hj, rfl, rfl, hww⟩ := hrel
        by_cases hjn : j < n
        · obtain ⟨i, hi⟩ : ∃ i, f + j = i := ⟨_, rfl⟩
          have hks : i < s.size := by have := hn'.out; rw [hL'.out]; omega
          have zk := hget.out i hks
          obtain ⟨d1, d2⟩ := hdig.out i hks
          have hgl1 := hgl.out f j (by omega)
          have hgl2 : grp s f j < 1000000000 := Nat.lt_of_lt_of_le hgl1 (Nat.pow_le_pow_right (n := 10) (by omega) (show j ≤ 9 by omega))
          have hnext := Lib.hid (show grp s f (j + 1) = grp s f j * 10 + (byteAt s i - 48) by rw [← hi]; rfl)
          have hij : (i : Int) < (t : Int) := by have := hn'.out; omega
          have hiL : (i : Int) < (L : Int) := by have := hn'.out; omega
          rw [hi]
          have hi' := Lib.hid hi
          generalize hdd : byteAt s i = x at *
          have hw1 : IntKind.u8.wrap ((x : Int) - 48) = ((x - 48 : Nat) : Int) := by rw [IntWalk.u8_in _ (by omega)]; omega
          have hd99 : x - 48 ≤ 9 := by omega
          generalize x - 48 = dg at *
          generalize grp s f j = G at *
          clear d1 d2 hdd hgl1 hi
          go_wp2
          go_roundw
          case rel => exact ⟨j + 1, by omega, by rw [hnext.out]; go_num, by rw [← hi'.out]; go_num, hww⟩
          case measure => simp [intOf]; omega
        · obtain rfl : j = n := by omega
          have hjt : ¬ f + j < t := by have := hn'.out; omega
          have hij : ¬ ((f + j : Nat) : Int) < (t : Int) := by omega
          have hgl1 := hgl.out f j (by have := hn'.out; have := hL'.out; omega)
          have hgl2 : grp s f j < 1000000000 := Nat.lt_of_lt_of_le hgl1 (Nat.pow_le_pow_right (n := 10) (by omega) hn9)
          have hgl3 : grp s f j < 18446744073709551616 := by omega
          have hval := Lib.hid (show decV s f * 1000000000 + grp s f j = decV s t by
            have h1 := decV_grp s f j
            rw [hn'.out] at h1
            rcases hkk.out with h2 | h2
            · rw [h1, h2]
            · rw [h1, h2]; simp [decV])
          have hl1 := hlen.out f (by rw [hL'.out]; exact hfL)
          have hl2 : dlen W32 (grp s f j) ≤ 2 := small_len hgl3
          have hlo1 : Hid (∀ W, Calls Try.prog 81 #[.int .u64 1000000000] W fun e w' => ∃ v, e = .returned v ∧ LongI w' v 1000000000 ∧ Below W.heap.size W w') := fun W => longOf_any 1000000000 W (by omega)
          have hlo2 := Lib.hid (fun W => longOf_any (grp s f j) W hgl3)
          have htl : dlen W32 (decV s f * 1000000000) ≤ 1000 := Nat.le_trans (times_len' (L := 300) (by omega) (by omega)) (by omega)
          have hl9 : dlen W32 1000000000 ≤ 2 := small_len (by omega)
          have hwe := hww.out
          subst hwe
          have ftj := Lib.hid (show f + j = t from hn'.out)
          generalize grp s f j = G at *
          generalize decV s f = X at *
          rw [ftj.out] at hij hjt ⊢
          clear hjt hgl1 hgl2 hww
          go_wp2_with fail
          (with_reducible refine (hlo1.out _).mono ?_)
          rintro e u1 ⟨v1, rfl, p1, b1⟩
          have hx1 := Lib.hid (hX.out _ b1)
          have p1' := Lib.hid p1
          clear p1
          go_wp2_with fail
          (with_reducible refine (times_any _ _ X 1000000000 _ hx1.out p1'.out (by omega) (by omega)).mono ?_)
          rintro e u2 ⟨v2, rfl, p2, b2⟩
          have p2' := Lib.hid p2
          clear p2
          go_wp2_with fail
          (with_reducible refine (hlo2.out _).mono ?_)
          rintro e u3 ⟨v3, rfl, p3, b3⟩
          have p2k := Lib.hid (p2'.out.keep b3)
          have p3' := Lib.hid p3
          clear p3
          go_wp2_with fail
          (with_reducible refine (plus_any _ _ (X * 1000000000) G _ p2k.out p3'.out (by omega) (by omega)).mono ?_)
          rintro e u4 ⟨v4, rfl, p4, b4⟩
          rw [hval.out] at p4
          obtain ⟨_, sa, sc, rfl⟩ := p4.len
          have p4' := Lib.hid p4
          have B4 := Lib.hid (below_wt (below_wt (below_wt (below_wt bel b1) b2) b3) b4)
          have hq1 := Lib.hid (show q + 1 ≤ Q + 1 by have := hQ'.out; have := ht'.out; omega)
          clear p4 b1 b2 b3 b4
          go_wp2
          go_roundw
          case rel => exact ⟨t, q + 1, sa, sc, rfl, by have := ht'.out; go_num, hlt, hq1.out, Lib.hid (Or.inr ⟨by omega, by have := ht'.out; omega⟩), rfl, p4', B4.out⟩
          case measure => simp [intOf]; omega
    · have hfin : f = L := by
        have := hQ'.out
        rcases hfq.out with ⟨h1, h2⟩ | ⟨h1, h2⟩ <;> omega
      have hr := Lib.hid (show LongI wr (.slice a (dlen W32 (decV s f)) c) (decV s s.size) by rw [hL'.out, ← hfin]; exact hx.out)
      have htL : ¬ (t : Int) ≤ (L : Int) := by omega
      clear hfin
      go_wp2
      go_ret
      exact ⟨_, rfl, by first | exact hr.out | (have := hr.out; rw [hL'.out] at this; exact this), bel⟩
end Go.Proofs.Ytjkekhiceadpgaa
