/- ReadG: several texts in one (Read2, Read3, Read4, Frac, FracC). Conditions: told in each. -/
import Derived.Test.YtiddhnnofpbopaaLongH
import Derived.Test.YtiddhnnofpbopaaWordH
import Derived.Laws.Strings
import Derived.Lib.SmallJoins
/- isNumeral and longOfDigits of the project. Conditions: for longOfDigits the text is a numeral. -/
namespace Go.Proofs.Ytiddhnnofpbopaa
open Go.RowKit Go.Deep
set_option linter.unusedVariables false

set_option maxRecDepth 100000 in
set_option maxHeartbeats 4000000 in
theorem isNumeral_any (s : ByteArray) (w : World) : Calls Try.prog 108 #[.string s] w fun e w' => e = .returned (.bool (numB s)) ∧ w' = w := by
  obtain ⟨L, hL⟩ : ∃ L, s.size = L := ⟨_, rfl⟩
  by_cases h1 : 1 ≤ L ∧ L ≤ 300 ∧ ¬ (byteAt s 0 = 48 ∧ 1 < L)
  · obtain ⟨l1, l2, l3⟩ := h1
    have hfin := Lib.hid (show numB s = (List.range L).all fun i => digB (byteAt s i) by simp [numB, hL, l1, l2]; intro; omega)
    have hget := Lib.hid (fun i (h : i < s.size) => byteAt_get s i h)
    have z0 := byteAt_get s 0 (by omega)
    have n1 : ¬ (L : Int) < 1 := by omega
    have n2 : ¬ (300 : Int) < (L : Int) := by omega
    have n3 : (0 : Int) < (L : Int) := by omega
    generalize hx0 : byteAt s 0 = x0 at z0 l3
    have hb : (((x0 : Int) == 48) = false) ∨ (((x0 : Int) == 48) = true ∧ ¬ (1 : Int) < (L : Int)) := by
      by_cases e : x0 = 48
      · exact Or.inr ⟨by simp [e], by omega⟩
      · exact Or.inl (by simp; omega)
    have hL' := Lib.hid hL
    clear l3 hx0
    rcases hb with hb | ⟨hb, hb2⟩
    all_goals
      go_enter Try.func108, Try.ntmps108
      go_wp2
      go_loopw [24] (fun i wr => ∃ k : Nat, k ≤ L ∧ i = .int .i64 (k : Int) ∧ Hid (wr = w) ∧ Hid ((List.range k).all (fun i => digB (byteAt s i)) = true)) (fun i _ => L - (intOf i).toNat)
      case atStart => exact ⟨0, Nat.zero_le _, rfl, Lib.hid rfl, Lib.hid rfl⟩
      case round =>
        obtain ⟨k, hk, rfl, hww, hall⟩ := hrel
        by_cases hlt : k < L
        · have hkI : (k : Int) < (L : Int) := by omega
          have zk := hget.out k (by have := hL'.out; omega)
          have hdk := Lib.hid (show digB (byteAt s k) = decide (48 ≤ byteAt s k ∧ byteAt s k ≤ 57) from rfl)
          generalize hx : byteAt s k = x at zk hdk
          have hx' := Lib.hid hx
          by_cases hd : 48 ≤ x ∧ x ≤ 57
          · obtain ⟨d1, d2⟩ := hd
            have d3 : ¬ (x : Int) < 48 := by omega
            have d4 : ¬ (57 : Int) < (x : Int) := by omega
            have hn := Lib.hid (show (List.range (k + 1)).all (fun i => digB (byteAt s i)) = true by rw [all_next, hall.out, hx'.out, hdk.out]; simp [d1, d2])
            clear hx d1 d2
            go_wp2
            go_roundw
            case rel => exact ⟨k + 1, by omega, by go_num, hww, hn⟩
            case measure => simp [intOf]; omega
          · have hn := Lib.hid (show numB s = false by rw [hfin.out]; exact all_not hlt (by rw [hx'.out, hdk.out]; simpa using hd))
            clear hx
            by_cases hd1 : x < 48
            · have d3 : (x : Int) < 48 := by omega
              clear hd hd1
              go_wp2
              go_ret
              exact ⟨by rw [hn.out]; rfl, hww.out⟩
            · have d3 : ¬ (x : Int) < 48 := by omega
              have d4 : (57 : Int) < (x : Int) := by omega
              clear hd hd1
              go_wp2
              go_ret
              exact ⟨by rw [hn.out]; rfl, hww.out⟩
        · obtain rfl : k = L := by omega
          have hn := Lib.hid (show numB s = true by rw [hfin.out]; exact hall.out)
          have hlt' : ¬ (k : Int) < (k : Int) := by omega
          clear hlt
          go_wp2
          go_ret
          exact ⟨by rw [hn.out]; rfl, hww.out⟩
  · have hn := Lib.hid (show numB s = false by simp only [numB, hL, decide_eq_false h1, Bool.false_and])
    by_cases l1 : L < 1
    · have n1 : (L : Int) < 1 := by omega
      clear h1 l1
      go_enter Try.func108, Try.ntmps108
      go_wp2
      go_ret
      exact ⟨by rw [hn.out]; rfl, rfl⟩
    · have n1 : ¬ (L : Int) < 1 := by omega
      by_cases l2 : 300 < L
      · have n2 : (300 : Int) < (L : Int) := by omega
        clear h1 l1 l2
        go_enter Try.func108, Try.ntmps108
        go_wp2
        go_ret
        exact ⟨by rw [hn.out]; rfl, rfl⟩
      · have n2 : ¬ (300 : Int) < (L : Int) := by omega
        have h3 : byteAt s 0 = 48 ∧ 1 < L := by
          rcases Classical.em (byteAt s 0 = 48 ∧ 1 < L) with h | h
          · exact h
          · exact absurd ⟨by omega, by omega, h⟩ h1
        have z0 := byteAt_get s 0 (by omega)
        obtain ⟨h5, h4⟩ := h3
        have zz : 0 < s.size := by omega
        have z1 : s[0].toNat = 48 := z0.trans h5
        clear z0 h5
        have n3 : (0 : Int) < (L : Int) := by omega
        have n4 : (1 : Int) < (L : Int) := by omega
        clear h4
        clear h1 l1 l2
        go_enter Try.func108, Try.ntmps108
        go_wp2
        go_ret
        exact ⟨by rw [hn.out]; rfl, rfl⟩

/-- the number of j digits from place f on -/
def grp (s : ByteArray) (f : Nat) : Nat → Nat
  | 0 => 0
  | j + 1 => grp s f j * 10 + (byteAt s (f + j) - 48)
theorem decV_grp (s : ByteArray) (f : Nat) : ∀ j, decV s (f + j) = decV s f * 10 ^ j + grp s f j
  | 0 => by simp [grp]
  | j + 1 => by
    rw [show f + (j + 1) = (f + j) + 1 by omega, decV, decV_grp s f j, grp, Nat.pow_succ]
    rw [Nat.add_mul, Nat.mul_assoc, Nat.add_assoc]
theorem grp_lt {s : ByteArray} (h : numB s = true) (f : Nat) : ∀ j, f + j ≤ s.size → grp s f j < 10 ^ j
  | 0, _ => by simp [grp]
  | j + 1, hk => by
    have h1 := grp_lt h f j (by omega)
    have h2 := numB_digit h (show f + j < s.size by omega)
    rw [grp, Nat.pow_succ]; omega
theorem decV_len32 {s : ByteArray} (h : numB s = true) {k : Nat} (hk : k ≤ s.size) : dlen W32 (decV s k) ≤ k :=
  dlen_le w32 (Nat.lt_of_lt_of_le (decV_lt h k hk) (Nat.pow_le_pow_left (by decide) k))
theorem zero_longI (W : World) (a : Option Addr) (c : Nat) (hc : c ≤ maxLen) : LongI W (.slice a (dlen W32 0) c) 0 := by
  refine ⟨by unfold maxLen; simp [dlen_zero, dgs], a, c, by simp [dlen_zero, dgs], ⟨by simp [dlen_zero, dgs], hc⟩, fun i hi => ?_⟩
  simp [dlen_zero, dgs] at hi

set_option maxRecDepth 100000 in
set_option maxHeartbeats 4000000 in
theorem longOfDigits_any (s : ByteArray) (w : World) (h : numB s = true) :
    Calls Try.prog 109 #[.string s] w fun e w' => ∃ v, e = .returned v ∧ LongI w' v (decV s s.size) ∧ Below w.heap.size w w' := by
  obtain ⟨hs1, hs2⟩ := numB_size h
  obtain ⟨L, hL⟩ : ∃ L, s.size = L := ⟨_, rfl⟩
  have hdig := Lib.hid (fun k (hk : k < s.size) => numB_digit h hk)
  have hget := Lib.hid (fun i (hi : i < s.size) => byteAt_get s i hi)
  have hlen := Lib.hid (fun k (hk : k ≤ s.size) => decV_len32 h hk)
  have hgl := Lib.hid (fun f j hj => grp_lt h f j hj)
  rw [hL] at hs1 hs2
  have hL' := Lib.hid hL
  have hh1 : (L : Int).tmod 9 = ((L % 9 : Nat) : Int) := by rw [Int.tmod_eq_emod_of_nonneg (by omega)]; rfl
  have hh2 : (L : Int) % 9 = ((L % 9 : Nat) : Int) := rfl
  obtain ⟨hd, hhd⟩ : ∃ hd, L % 9 = hd := ⟨_, rfl⟩
  obtain ⟨Q, hQ⟩ : ∃ Q, hd + 9 * Q = L := ⟨L / 9, by omega⟩
  have hd9 : hd < 9 := by omega
  rw [hhd] at hh1 hh2
  have hQ' := Lib.hid hQ
  clear h hhd hQ
  go_enter Try.func109, Try.ntmps109
  go_wp2
  go_loopw [3, 5, 6] (fun xv fv tv wr => ∃ (f q : Nat) (a : Option Addr) (c : Nat), fv = .int .i64 (f : Int) ∧ tv = .int .i64 ((hd + 9 * q : Nat) : Int) ∧ f ≤ L ∧ q ≤ Q + 1 ∧ Hid ((q = 0 ∧ f = 0) ∨ (1 ≤ q ∧ f + 9 = hd + 9 * q)) ∧ xv = .slice a (dlen W32 (decV s f)) c ∧ Hid (LongI wr (.slice a (dlen W32 (decV s f)) c) (decV s f)) ∧ Below w.heap.size w wr) (fun _ _ tv _ => L + 10 - (intOf tv).toNat)
  case atStart => exact ⟨0, 0, _, _, rfl, by go_num, by omega, by omega, Lib.hid (Or.inl ⟨rfl, rfl⟩), rfl, zero_longI _ _ _ (by unfold maxLen; omega), below1 _ _⟩
  case round =>
    obtain ⟨f, q, a, c, rfl, rfl, hfL, hqQ, hfq, rfl, hx, bel⟩ := hrel
    obtain ⟨t, ht⟩ : ∃ t, hd + 9 * q = t := ⟨_, rfl⟩
    rw [ht]
    by_cases hlt : t ≤ L
    · have hft : f ≤ t ∧ t ≤ f + 9 := by rcases hfq.out with ⟨h1, h2⟩ | ⟨h1, h2⟩ <;> omega
      obtain ⟨n, hn⟩ : ∃ n, f + n = t := ⟨t - f, by omega⟩
      have hn' := Lib.hid hn
      have hn9 : n ≤ 9 := by omega
      have hkk := Lib.hid (show n = 9 ∨ f = 0 by rcases hfq.out with ⟨h1, h2⟩ | ⟨h1, h2⟩ <;> omega)
      have ht' := Lib.hid ht
      obtain ⟨ft1, ft2⟩ := hft
      have hX := Lib.hid (fun (W : World) (b : Below wr.heap.size wr W) => hx.out.keep b)
      obtain ⟨wo, hwo⟩ : ∃ wo, wo = wr := ⟨_, rfl⟩
      subst hwo
      clear ht hn
      go_wp2
      go_loopw [7, 8] (fun gv iv wr2 => ∃ j : Nat, j ≤ n ∧ gv = .int .u64 (grp s f j : Nat) ∧ iv = .int .i64 ((f + j : Nat) : Int) ∧ Hid (wr2 = wo)) (fun _ iv _ => t - (intOf iv).toNat)
      case atStart => exact ⟨0, Nat.zero_le _, rfl, by go_num, Lib.hid rfl⟩
      case round =>
        obtain ⟨j, hj, rfl, rfl, hww⟩ := hrel
        by_cases hjn : j < n
        · obtain ⟨i, hi⟩ : ∃ i, f + j = i := ⟨_, rfl⟩
          have hks : i < s.size := by have := hn'.out; rw [hL'.out]; omega
          have zk := hget.out i hks
          obtain ⟨d1, d2⟩ := hdig.out i hks
          have hgl1 := hgl.out f j (by omega)
          have hgl2 : grp s f j < 1000000000 := Nat.lt_of_lt_of_le hgl1 (Nat.pow_le_pow_right (n := 10) (by omega) (show j ≤ 9 by omega))
          have hnext := Lib.hid (show grp s f (j + 1) = grp s f j * 10 + (byteAt s i - 48) by rw [← hi]; rfl)
          have hij : (i : Int) < (t : Int) := by have := hn'.out; omega
          have hiL : (i : Int) < (L : Int) := by have := hn'.out; omega
          rw [hi]
          have hi' := Lib.hid hi
          generalize hdd : byteAt s i = x at *
          have hw1 : IntKind.u8.wrap ((x : Int) - 48) = ((x - 48 : Nat) : Int) := by rw [IntWalk.u8_in _ (by omega)]; omega
          have hd99 : x - 48 ≤ 9 := by omega
          generalize x - 48 = dg at *
          generalize grp s f j = G at *
          clear d1 d2 hdd hgl1 hi
          go_wp2
          go_roundw
          case rel => exact ⟨j + 1, by omega, by rw [hnext.out]; go_num, by rw [← hi'.out]; go_num, hww⟩
          case measure => simp [intOf]; omega
        · obtain rfl : j = n := by omega
          have hjt : ¬ f + j < t := by have := hn'.out; omega
          have hij : ¬ ((f + j : Nat) : Int) < (t : Int) := by omega
          have hgl1 := hgl.out f j (by have := hn'.out; have := hL'.out; omega)
          have hgl2 : grp s f j < 1000000000 := Nat.lt_of_lt_of_le hgl1 (Nat.pow_le_pow_right (n := 10) (by omega) hn9)
          have hgl3 : grp s f j < 18446744073709551616 := by omega
          have hval := Lib.hid (show decV s f * 1000000000 + grp s f j = decV s t by
            have h1 := decV_grp s f j
            rw [hn'.out] at h1
            rcases hkk.out with h2 | h2
            · rw [h1, h2]
            · rw [h1, h2]; simp [decV])
          have hl1 := hlen.out f (by rw [hL'.out]; exact hfL)
          have hl2 : dlen W32 (grp s f j) ≤ 2 := small_len hgl3
          have hlo1 : Hid (∀ W, Calls Try.prog 57 #[.int .u64 1000000000] W fun e w' => ∃ v, e = .returned v ∧ LongI w' v 1000000000 ∧ Below W.heap.size W w') := fun W => longOf_any 1000000000 W (by omega)
          have hlo2 := Lib.hid (fun W => longOf_any (grp s f j) W hgl3)
          have htl : dlen W32 (decV s f * 1000000000) ≤ 1000 := Nat.le_trans (times_len' (L := 300) (by omega) (by omega)) (by omega)
          have hl9 : dlen W32 1000000000 ≤ 2 := small_len (by omega)
          have hwe := hww.out
          subst hwe
          have ftj := Lib.hid (show f + j = t from hn'.out)
          generalize grp s f j = G at *
          generalize decV s f = X at *
          rw [ftj.out] at hij hjt ⊢
          clear hjt hgl1 hgl2 hww
          go_wp2_with fail
          (with_reducible refine (hlo1.out _).mono ?_)
          rintro e u1 ⟨v1, rfl, p1, b1⟩
          have hx1 := Lib.hid (hX.out _ b1)
          have p1' := Lib.hid p1
          clear p1
          go_wp2_with fail
          (with_reducible refine (times_any _ _ X 1000000000 _ hx1.out p1'.out (by omega) (by omega)).mono ?_)
          rintro e u2 ⟨v2, rfl, p2, b2⟩
          have p2' := Lib.hid p2
          clear p2
          go_wp2_with fail
          (with_reducible refine (hlo2.out _).mono ?_)
          rintro e u3 ⟨v3, rfl, p3, b3⟩
          have p2k := Lib.hid (p2'.out.keep b3)
          have p3' := Lib.hid p3
          clear p3
          go_wp2_with fail
          (with_reducible refine (plus_any _ _ (X * 1000000000) G _ p2k.out p3'.out (by omega) (by omega)).mono ?_)
          rintro e u4 ⟨v4, rfl, p4, b4⟩
          rw [hval.out] at p4
          obtain ⟨_, sa, sc, rfl⟩ := p4.len
          have p4' := Lib.hid p4
          have B4 := Lib.hid (below_wt (below_wt (below_wt (below_wt bel b1) b2) b3) b4)
          have hq1 := Lib.hid (show q + 1 ≤ Q + 1 by have := hQ'.out; have := ht'.out; omega)
          clear p4 b1 b2 b3 b4
          go_wp2
          go_roundw
          case rel => exact ⟨t, q + 1, sa, sc, rfl, by have := ht'.out; go_num, hlt, hq1.out, Lib.hid (Or.inr ⟨by omega, by have := ht'.out; omega⟩), rfl, p4', B4.out⟩
          case measure => simp [intOf]; omega
    · have hfin : f = L := by
        have := hQ'.out
        rcases hfq.out with ⟨h1, h2⟩ | ⟨h1, h2⟩ <;> omega
      have hr := Lib.hid (show LongI wr (.slice a (dlen W32 (decV s f)) c) (decV s s.size) by rw [hL'.out, ← hfin]; exact hx.out)
      have htL : ¬ (t : Int) ≤ (L : Int) := by omega
      clear hfin
      go_wp2
      go_ret
      exact ⟨_, rfl, by first | exact hr.out | (have := hr.out; rw [hL'.out] at this; exact this), bel⟩
end Go.Proofs.Ytiddhnnofpbopaa

/- readFraction of the project. Conditions: none. -/
namespace Go.Proofs.Ytiddhnnofpbopaa
open Go.RowKit Go.Deep
set_option linter.unusedVariables false

/-- the number that a text tells -/
def numV (s : ByteArray) : Nat := decV s s.size
/-- a fraction that is valid -/
def frOk (n d : ByteArray) : Bool := numB n && (numB d && (decide (0 < numV d) && decide (Nat.gcd (numV n) (numV d) = 1)))
theorem numV_len {s : ByteArray} (h : numB s = true) : dlen W32 (numV s) ≤ 300 := Nat.le_trans (decV_len32 h (Nat.le_refl _)) (numB_size h).2

/-- a store into a box of two lists leaves every long number as it was -/
theorem LongI.setBox {w : World} {v : Value} {n b : Nat} {a1 a2 : Option Addr} {l1 c1 l2 c2 : Nat} {t : TypeId} (h : LongI w v n) (hB : Blk w b #[.slice a1 l1 c1, .slice a2 l2 c2] t) (j : Nat) (u : Value) : LongI (w.setCell ⟨b, j, none⟩ u) v n := by
  obtain ⟨hm, a, cap, rfl, hk, hc⟩ := h
  refine ⟨hm, a, cap, rfl, hk, fun i hi => ?_⟩
  obtain ⟨b', off, ha, hcell⟩ := hc i hi
  refine ⟨b', off, ha, ?_⟩
  have hne : b' ≠ b := by
    rintro rfl
    rw [hB.cell] at hcell
    have hi' : i < (dgs W32 n (dlen W32 n)).length := by rw [u32s_length] at hi; exact hi
    rw [u32s_getD _ i hi'] at hcell
    have : off + i = 0 ∨ off + i = 1 ∨ 2 ≤ off + i := by omega
    rcases this with e | e | e
    · rw [e] at hcell; simp at hcell
    · rw [e] at hcell; simp at hcell
    · rw [Array.getElem?_eq_none (by simpa using e)] at hcell; cases hcell
  rw [World.cell?_of_block (w := w) (Below.heap_setCell w ⟨b, j, none⟩ u b' hne)]
  exact hcell

/-- what readFraction returns -/
def RdI (n d : ByteArray) (w : World) (e : Ending) (w' : World) : Prop :=
  (frOk n d = true → ∃ nv dv, e = .returned (.tuple #[.agg #[nv, dv], .bool true]) ∧ LongI w' nv (numV n) ∧ LongI w' dv (numV d) ∧ Below w.heap.size w w') ∧
  (frOk n d = false → e = .returned (.tuple #[.agg #[.slice none 0 0, .slice none 0 0], .bool false]) ∧ Below w.heap.size w w')
theorem RdI.no {n d : ByteArray} {w w' : World} {e : Ending} (h : frOk n d = false) (he : e = .returned (.tuple #[.agg #[.slice none 0 0, .slice none 0 0], .bool false])) (hb : Below w.heap.size w w') : RdI n d w e w' :=
  ⟨fun h2 => (by rw [h] at h2; cases h2), fun _ => ⟨he, hb⟩⟩

set_option maxRecDepth 100000 in
set_option maxHeartbeats 4000000 in
theorem readFraction_no (n d : ByteArray) (w : World) (h : numB n = false ∨ (numB n = true ∧ numB d = false)) :
    Calls Try.prog 93 #[.agg #[.string n, .string d]] w (RdI n d w) := by
  have hno := Lib.hid (show frOk n d = false by unfold frOk; rcases h with h | ⟨h1, h2⟩ <;> simp_all)
  have hn := isNumeral_any n
  have hd := isNumeral_any d
  have hZ := Blk.new (w.alloc (.cells #[.string n, .string d] 49)) #[.slice none 0 0, .slice none 0 0] 77
  rw [World.size_alloc] at hZ
  have z0 := hZ.cell 0
  have z1 := hZ.cell 1
  have f0 := hZ.frozen 0
  have f1 := hZ.frozen 1
  simp only [List.getElem?_toArray, List.getElem?_cons_zero, List.getElem?_cons_succ] at z0 z1
  clear hZ
  rcases h with h | ⟨h1, h2⟩
  · rw [h] at hn
    have hn' := Lib.hid hn
    clear hn hd h
    go_enter Try.func93, Try.ntmps93
    go_wp2_with fail
    (with_reducible refine (hn'.out _).mono ?_)
    rintro e w1 ⟨rfl, rfl⟩
    go_wp2
    refine bodyPost_ret (v := .tuple #[.agg #[.slice none 0 0, .slice none 0 0], .bool false]) (by simp [results, Try.results93, go_sem, z0, z1]) rfl ?_
    exact RdI.no hno.out rfl (below2 w _ _)
  · rw [h1] at hn
    rw [h2] at hd
    have hn' := Lib.hid hn
    have hd' := Lib.hid hd
    clear hn hd h1 h2
    go_enter Try.func93, Try.ntmps93
    go_wp2_with fail
    (with_reducible refine (hn'.out _).mono ?_)
    rintro e w1 ⟨rfl, rfl⟩
    go_wp2_with fail
    (with_reducible refine (hd'.out _).mono ?_)
    rintro e w1 ⟨rfl, rfl⟩
    go_wp2
    refine bodyPost_ret (v := .tuple #[.agg #[.slice none 0 0, .slice none 0 0], .bool false]) (by simp [results, Try.results93, go_sem, z0, z1]) rfl ?_
    exact RdI.no hno.out rfl (below2 w _ _)

theorem Blk.drewN1 {w : World} {b : Nat} {c : Array Value} {t : TypeId} (h : Blk w b c t) : Blk w.drew b c t := h
/-- what stands behind the reading of both parts -/
def ReadTwo (w wx : World) (N D : Nat) (s4 : Value) : Prop := ∃ (B : Nat) (p1 p2 : Option Addr) (k1 k2 : Nat), s4 = .pointer (some ⟨B, 0, none⟩) ∧ Blk wx B #[.slice p1 (dlen W32 N) k1, .slice p2 (dlen W32 D) k2] 77 ∧
  LongI wx (.slice p1 (dlen W32 N) k1) N ∧ LongI wx (.slice p2 (dlen W32 D) k2) D ∧ Blk wx (w.heap.size + 1) #[.slice none 0 0, .slice none 0 0] 77 ∧ Below w.heap.size w wx ∧ B ≠ w.heap.size + 1

theorem ReadTwo.new {w W u2 : World} {N D : Nat} {pa1 pa2 : Option Addr} {pk1 pk2 : Nat} (hB1 : Blk W (w.heap.size + 1) #[.slice none 0 0, .slice none 0 0] 77) (bel : Below w.heap.size w W) (bW : Below W.heap.size W u2)
    (p1 : LongI u2 (.slice pa1 (dlen W32 N) pk1) N) (p2 : LongI u2 (.slice pa2 (dlen W32 D) pk2) D) :
    ReadTwo w (u2.alloc (.cells #[.slice pa1 (dlen W32 N) pk1, .slice pa2 (dlen W32 D) pk2] 77)) N D (.pointer (some ⟨u2.heap.size, 0, none⟩)) := by
  have h1 := hB1.lt
  have h2 := bW.size
  exact ⟨_, pa1, pa2, pk1, pk2, rfl, Blk.new _ _ _, p1.keep (below1 _ _), p2.keep (below1 _ _), (hB1.keep bW h1).keep (below1 u2 _) (by omega), below_wt (below_wt bel bW) (below1 _ _), by omega⟩
theorem ReadTwo.fill {w W u2 : World} {N D B : Nat} {pa1 pa2 : Option Addr} {pk1 pk2 : Nat} (hB1 : Blk W (w.heap.size + 1) #[.slice none 0 0, .slice none 0 0] 77) (bel : Below w.heap.size w W) (bW : Below W.heap.size W u2)
    (p1 : LongI u2 (.slice pa1 (dlen W32 N) pk1) N) (p2 : LongI u2 (.slice pa2 (dlen W32 D) pk2) D) (Z4 : Blk u2 B #[.slice none 0 0, .slice none 0 0] 77) (hB : W.heap.size ≤ B) :
    ReadTwo w ((u2.setCell ⟨B, 0, none⟩ (.slice pa1 (dlen W32 N) pk1)).setCell ⟨B, 1, none⟩ (.slice pa2 (dlen W32 D) pk2)) N D (.pointer (some ⟨B, 0, none⟩)) := by
  have h1 := hB1.lt
  have h2 := bW.size
  have Z5 := Z4.set 0 (.slice pa1 (dlen W32 N) pk1)
  refine ⟨B, pa1, pa2, pk1, pk2, rfl, ?_, (p1.setBox Z4 0 _).setBox Z5 1 _, (p2.setBox Z4 0 _).setBox Z5 1 _, ((hB1.keep bW h1).setOther (a := ⟨B, 0, none⟩) (by simp only; omega) _).setOther (a := ⟨B, 1, none⟩) (by simp only; omega) _, ?_, by omega⟩
  · have := Z5.set 1 (.slice pa2 (dlen W32 D) pk2)
    simpa using this
  · have b := below_wt bel bW
    exact (b.setCell (p := ⟨B, 0, none⟩) (by have := bel.size; simp only; omega) _).setCell (p := ⟨B, 1, none⟩) (by have := bel.size; simp only; omega) _

set_option maxRecDepth 100000 in
set_option maxHeartbeats 4000000 in
theorem readFraction_two (n d : ByteArray) (w : World) (hn : numB n = true) (hd : numB d = true) :
    Calls Try.prog 93 #[.agg #[.string n, .string d]] w (RdI n d w) := by
  have hnn := isNumeral_any n
  have hnd := isNumeral_any d
  rw [hn] at hnn
  rw [hd] at hnd
  have hln := Lib.hid (fun W => longOfDigits_any n W hn)
  have hld := Lib.hid (fun W => longOfDigits_any d W hd)
  have sN := numV_len hn
  have sD := numV_len hd
  have hok := Lib.hid (show frOk n d = (decide (0 < numV d) && decide (Nat.gcd (numV n) (numV d) = 1)) by unfold frOk; rw [hn, hd]; rfl)
  have hB0 := (Blk.new w #[.string n, .string d] 49).alloc (.cells #[.slice none 0 0, .slice none 0 0] 77)
  have hB1 := Blk.new (w.alloc (.cells #[.string n, .string d] 49)) #[.slice none 0 0, .slice none 0 0] 77
  have bel := below2 w (.cells #[.string n, .string d] 49) (.cells #[.slice none 0 0, .slice none 0 0] 77)
  simp only [World.size_alloc] at hB1
  have hn' := Lib.hid hnn
  have hd' := Lib.hid hnd
  change Hid (∀ W, Calls _ _ _ W fun e w' => ∃ v, e = .returned v ∧ LongI w' v (numV n) ∧ Below W.heap.size W w') at hln
  change Hid (∀ W, Calls _ _ _ W fun e w' => ∃ v, e = .returned v ∧ LongI w' v (numV d) ∧ Below W.heap.size W w') at hld
  unfold RdI
  generalize numV n = N at *
  generalize numV d = D at *
  clear hnn hnd hn hd
  go_enter Try.func93, Try.ntmps93
  go_upto_region 3 with (first
    | (go_at_call 108; first | ((with_reducible refine (hn'.out _).mono ?_); rintro e w1 ⟨rfl, rfl⟩) | ((with_reducible refine (hd'.out _).mono ?_); rintro e w1 ⟨rfl, rfl⟩)))
  generalize hW : (w.alloc _).alloc _ = W at *
  clear hW
  go_cut [4] (fun s4 wx => ReadTwo w wx N D s4)
  case first =>
    have c0 : W.drew.cell? ⟨w.heap.size, 0, none⟩ = some (.string n) := hB0.cell 0
    have c1 : W.drew.cell? ⟨w.heap.size, 1, none⟩ = some (.string d) := hB0.cell 1
    have cW0 : W.cell? ⟨w.heap.size, 0, none⟩ = some (.string n) := c0
    have cW1 : W.cell? ⟨w.heap.size, 1, none⟩ = some (.string d) := c1
    have Z1 : Blk W.drew (w.heap.size + 1) #[.slice none 0 0, .slice none 0 0] 77 := hB1
    have B2 := bel.drew
    have neW : w.heap.size ≠ W.heap.size := Nat.ne_of_lt (block_lt c0)
    have neW' : W.heap.size ≠ w.heap.size := Ne.symm neW
    go_region_held3 (fun w' => w'.cell? ⟨w.heap.size, 0, none⟩ = some (.string n) ∧ w'.cell? ⟨w.heap.size, 1, none⟩ = some (.string d))
      (first | go_keep | exact ⟨((below1 W _).cell (block_lt cW0)).trans cW0, ((below1 W _).cell (block_lt cW1)).trans cW1⟩ | exact ⟨((below1 _ _).cell (block_lt c0)).trans c0, ((below1 _ _).cell (block_lt c1)).trans c1⟩)
      (first
        | (go_at_call 109; first
            | ((with_reducible refine (hln.out _).mono ?_); rintro e u1 ⟨v1, rfl, p1, b1⟩; obtain ⟨_, pa1, pk1, rfl⟩ := p1.len; (first | (have Z4 := (Blk.new _ #[.slice none 0 0, .slice none 0 0] 77).keep b1 (by simp)) | (have Z4 := (Blk.drewN1 (Blk.new W #[.slice none 0 0, .slice none 0 0] 77)).keep b1 (by simp)) | skip); replace c0 : u1.cell? ⟨w.heap.size, 0, none⟩ = some (.string n) := (by first | exact (b1.cell (p := ⟨w.heap.size, 0, none⟩) (block_lt c0)).trans c0 | exact (b1.cell (p := ⟨w.heap.size, 0, none⟩) (block_lt (((below1 _ _).cell (block_lt c0)).trans c0))).trans (((below1 _ _).cell (block_lt c0)).trans c0)); replace c1 : u1.cell? ⟨w.heap.size, 1, none⟩ = some (.string d) := (by first | exact (b1.cell (p := ⟨w.heap.size, 1, none⟩) (block_lt c1)).trans c1 | exact (b1.cell (p := ⟨w.heap.size, 1, none⟩) (block_lt (((below1 _ _).cell (block_lt c1)).trans c1))).trans (((below1 _ _).cell (block_lt c1)).trans c1)); have ne1 : w.heap.size ≠ u1.heap.size := Nat.ne_of_lt (block_lt c0); have ne1' : u1.heap.size ≠ w.heap.size := Ne.symm ne1)
            | ((with_reducible refine (hld.out _).mono ?_); rintro e u2 ⟨v2, rfl, p2, b2⟩; obtain ⟨_, pa2, pk2, rfl⟩ := p2.len; (first | (replace Z4 := Z4.keep b2 Z4.lt) | (first | (have Z4 := (Blk.new _ #[.slice none 0 0, .slice none 0 0] 77).keep b2 (by simp)) | (have Z4 := (Blk.drewN1 (Blk.new W #[.slice none 0 0, .slice none 0 0] 77)).keep b2 (by simp)) | skip)); (try (have zq0 := Z4.cell 0; have zq1 := Z4.cell 1; have fq0 := Z4.frozen 0; have fq1 := Z4.frozen 1; simp only [List.getElem?_toArray, List.getElem?_cons_zero, List.getElem?_cons_succ] at zq0 zq1)); replace c0 : u2.cell? ⟨w.heap.size, 0, none⟩ = some (.string n) := (by first | exact (b2.cell (p := ⟨w.heap.size, 0, none⟩) (block_lt c0)).trans c0 | exact (b2.cell (p := ⟨w.heap.size, 0, none⟩) (block_lt (((below1 _ _).cell (block_lt c0)).trans c0))).trans (((below1 _ _).cell (block_lt c0)).trans c0)); replace c1 : u2.cell? ⟨w.heap.size, 1, none⟩ = some (.string d) := (by first | exact (b2.cell (p := ⟨w.heap.size, 1, none⟩) (block_lt c1)).trans c1 | exact (b2.cell (p := ⟨w.heap.size, 1, none⟩) (block_lt (((below1 _ _).cell (block_lt c1)).trans c1))).trans (((below1 _ _).cell (block_lt c1)).trans c1)); have ne2 : w.heap.size ≠ u2.heap.size := Nat.ne_of_lt (block_lt c0); have ne2' : u2.heap.size ≠ w.heap.size := Ne.symm ne2)))
    all_goals (go_wp2_with fail; go_meet)
    · exact ReadTwo.new (W := W) hB1 bel (below_wt ((Below.refl _ W).drew.trans b1) b2) (p1.keep b2) p2
    · exact ReadTwo.fill (W := W) hB1 bel (below_wt (below_wt ((Below.refl _ W).drew.trans b1) (below1 u1 _)) b2) (p1.keep (below_wt (below1 u1 _) b2)) p2 Z4 b1.size
    · exact ReadTwo.fill (W := W) hB1 bel (below_wt (below_wt ((below1 W _).drew) b1) b2) (p1.keep b2) p2 Z4 (Nat.le_refl _)
  case rest =>
    obtain ⟨B, p1, p2, k1, k2, rfl, hB, hN, hD, hR, bel5, hne⟩ := hcut
    have q0 := hB.cell 0
    have q1 := hB.cell 1
    have z0 := hR.cell 0
    have z1 := hR.cell 1
    have f0 := hR.frozen 0
    have f1 := hR.frozen 1
    simp only [List.getElem?_toArray, List.getElem?_cons_zero, List.getElem?_cons_succ] at q0 q1 z0 z1
    rcases Nat.eq_zero_or_pos D with rfl | hDp
    · have hf := hok.out
      rw [show decide (0 < 0) = false by decide, Bool.false_and] at hf
      have hf' := Lib.hid hf
      clear hf
      rw [dlen_zero] at q1
      go_wp2
      refine bodyPost_ret (v := .tuple #[.agg #[.slice none 0 0, .slice none 0 0], .bool false]) (by simp [results, Try.results93, go_sem, z0, z1]) rfl ?_
      exact ⟨fun h => (by rw [hf'.out] at h; cases h), fun _ => ⟨rfl, (bel5.setCell (p := ⟨w.heap.size + 1, 0, none⟩) (by simp only; omega) _).setCell (p := ⟨w.heap.size + 1, 1, none⟩) (by simp only; omega) _⟩⟩
    · have hf := hok.out
      rw [show decide (0 < D) = true from decide_eq_true hDp, Bool.true_and] at hf
      have hdz : ((dlen W32 D : Nat) : Int) ≠ 0 := by have := dlen_pos hDp; omega
      have hdz' : (((dlen W32 D : Nat) : Int) == 0) = false := by simp; exact fun h => hdz (by omega)
      have hgc := Lib.hid (divisor_any _ _ N D wc hN hD (by omega) (by omega))
      have hlo : Hid (∀ W, Calls Try.prog 57 #[.int .u64 1] W fun e w' => ∃ v, e = .returned v ∧ LongI w' v 1 ∧ Below W.heap.size W w') := fun W => longOf_any 1 W (by omega)
      have hN' := Lib.hid hN
      have hD' := Lib.hid hD
      by_cases hg : Nat.gcd N D = 1
      · rw [decide_eq_true hg] at hf
        have hf' := Lib.hid hf
        have hc0 : cmpI (Nat.gcd N D) 1 = 0 := cmpI_eq hg
        clear hok
        generalize Nat.gcd N D = g at hgc hg hc0
        clear hf hg hN hD hdz
        go_wp2_with (go_at_call 81; go_in)
        (with_reducible refine hgc.out.mono ?_)
        rintro e w2 ⟨gv, rfl, hgv, b2⟩
        go_wp2_with fail
        (with_reducible refine (hlo.out _).mono ?_)
        rintro e w3 ⟨v3, rfl, h3, b3⟩
        have hcm := Lib.hid (compare_any _ _ _ _ w3 (hgv.keep b3) h3)
        rw [hc0] at hcm
        have B3 := below_wt b2 b3
        have hB3 := hB.keep B3 hB.lt
        have hR3 := hR.keep B3 hR.lt
        have hN3 := Lib.hid (hN'.out.keep B3)
        have hD3 := Lib.hid (hD'.out.keep B3)
        have bel3 := Lib.hid (below_wt bel5 B3)
        have hR3' := Lib.hid hR3
        clear hgv h3 b2 b3 B3 hgc q0 q1 z0 z1 f0 f1
        go_wp2_with fail
        (with_reducible refine hcm.out.mono ?_)
        rintro e w4 ⟨rfl, j, rfl⟩
        have q0 : (w3.drewN j).cell? ⟨B, 0, none⟩ = some (.slice p1 (dlen W32 N) k1) := hB3.cell 0
        have q1 : (w3.drewN j).cell? ⟨B, 1, none⟩ = some (.slice p2 (dlen W32 D) k2) := hB3.cell 1
        have z0 : (w3.drewN j).cell? ⟨w.heap.size + 1, 0, none⟩ = some (.slice none 0 0) := hR3.cell 0
        have z1 : (w3.drewN j).cell? ⟨w.heap.size + 1, 1, none⟩ = some (.slice none 0 0) := hR3.cell 1
        have f0 : (w3.drewN j).frozen? ⟨w.heap.size + 1, 0, none⟩ = false := hR3.frozen 0
        have f1 : (w3.drewN j).frozen? ⟨w.heap.size + 1, 1, none⟩ = false := hR3.frozen 1
        clear hB3 hR3 hB hR
        go_wp2
        refine bodyPost_ret (v := .tuple #[.agg #[.slice p1 (dlen W32 N) k1, .slice p2 (dlen W32 D) k2], .bool true]) (by simp [results, Try.results93, go_sem, z0, z1]) rfl ?_
        have hRj : Blk (w3.drewN j) (w.heap.size + 1) #[.slice none 0 0, .slice none 0 0] 77 := hR3'.out
        refine ⟨fun _ => ⟨_, _, rfl, ?_, ?_, ?_⟩, fun h => (by rw [hf'.out] at h; cases h)⟩
        · exact ((hN3.out.keep (below_drewN (Below.refl _ _) j)).setBox hRj 0 _).setBox (hRj.set 0 (.slice p1 (dlen W32 N) k1)) 1 _
        · exact ((hD3.out.keep (below_drewN (Below.refl _ _) j)).setBox hRj 0 _).setBox (hRj.set 0 (.slice p1 (dlen W32 N) k1)) 1 _
        · exact ((below_drewN bel3.out j).setCell (p := ⟨w.heap.size + 1, 0, none⟩) (by simp only; omega) _).setCell (p := ⟨w.heap.size + 1, 1, none⟩) (by simp only; omega) _
      · rw [decide_eq_false hg] at hf
        have hf' := Lib.hid hf
        obtain ⟨c, hc0, hcn⟩ : ∃ c : Int, cmpI (Nat.gcd N D) 1 = c ∧ (c != 0) = true := ⟨_, rfl, by unfold cmpI; split <;> (try split) <;> (first | decide | omega)⟩
        clear hok
        generalize Nat.gcd N D = g at hgc hg hc0
        clear hf hg hN hD hdz
        go_wp2_with (go_at_call 81; go_in)
        (with_reducible refine hgc.out.mono ?_)
        rintro e w2 ⟨gv, rfl, hgv, b2⟩
        go_wp2_with fail
        (with_reducible refine (hlo.out _).mono ?_)
        rintro e w3 ⟨v3, rfl, h3, b3⟩
        have hcm := Lib.hid (compare_any _ _ _ _ w3 (hgv.keep b3) h3)
        rw [hc0] at hcm
        have B3 := below_wt b2 b3
        have hR3 := hR.keep B3 hR.lt
        have bel3 := Lib.hid (below_wt bel5 B3)
        clear hgv h3 b2 b3 B3 hgc q0 q1 z0 z1 f0 f1 hc0
        go_wp2_with fail
        (with_reducible refine hcm.out.mono ?_)
        rintro e w4 ⟨rfl, j, rfl⟩
        have z0 : (w3.drewN j).cell? ⟨w.heap.size + 1, 0, none⟩ = some (.slice none 0 0) := hR3.cell 0
        have z1 : (w3.drewN j).cell? ⟨w.heap.size + 1, 1, none⟩ = some (.slice none 0 0) := hR3.cell 1
        have f0 : (w3.drewN j).frozen? ⟨w.heap.size + 1, 0, none⟩ = false := hR3.frozen 0
        have f1 : (w3.drewN j).frozen? ⟨w.heap.size + 1, 1, none⟩ = false := hR3.frozen 1
        clear hR3 hB hR
        go_wp2
        refine bodyPost_ret (v := .tuple #[.agg #[.slice none 0 0, .slice none 0 0], .bool false]) (by simp [results, Try.results93, go_sem, z0, z1]) rfl ?_
        exact ⟨fun h => (by rw [hf'.out] at h; cases h), fun _ => ⟨rfl, ((below_drewN bel3.out j).setCell (p := ⟨w.heap.size + 1, 0, none⟩) (by simp only; omega) _).setCell (p := ⟨w.heap.size + 1, 1, none⟩) (by simp only; omega) _⟩⟩

theorem readFraction_any (n d : ByteArray) (w : World) : Calls Try.prog 93 #[.agg #[.string n, .string d]] w (RdI n d w) := by
  rcases hn : numB n with _ | _
  · exact readFraction_no n d w (Or.inl hn)
  · rcases hd : numB d with _ | _
    · exact readFraction_no n d w (Or.inr ⟨hn, hd⟩)
    · exact readFraction_two n d w hn hd
end Go.Proofs.Ytiddhnnofpbopaa

/- l01Parse of the specification. Conditions: none. -/
namespace Go.Proofs.Ytiddhnnofpbopaa
open Go.RowKit Go.Deep
set_option linter.unusedVariables false

theorem numV_len9 {s : ByteArray} (h : numB s = true) : dlen B9 (numV s) ≤ 300 := Nat.le_trans (decV_len9 h (Nat.le_refl _)) (numB_size h).2
theorem decV_mono (s : ByteArray) : ∀ k, decV s 1 ≤ decV s (k + 1)
  | 0 => Nat.le_refl _
  | k + 1 => by
    have := decV_mono s k
    rw [show decV s (k + 1 + 1) = decV s (k + 1) * 10 + (byteAt s (k + 1) - 48) from rfl]
    omega
theorem zero_text {s : ByteArray} (h : numB s = true) : numV s = 0 ↔ s = ⟨#[48]⟩ := by
  constructor
  · intro h0
    have h1 := numB_size h
    have h2 : ¬ (byteAt s 0 = 48 ∧ 1 < s.size) := by
      unfold numB at h
      rw [Bool.and_eq_true] at h
      exact (of_decide_eq_true h.1).2.2
    have h3 := numB_digit h (show 0 < s.size by omega)
    have h4 : decV s 1 = byteAt s 0 - 48 := by simp [decV]
    have h5 := decV_mono s (s.size - 1)
    rw [show s.size - 1 + 1 = s.size by omega, show decV s s.size = 0 from h0] at h5
    have h6 : byteAt s 0 = 48 := by omega
    have h7 : s.size = 1 := by
      by_cases c : 1 < s.size
      · exact absurd ⟨h6, c⟩ h2
      · omega
    obtain ⟨⟨l⟩⟩ := s
    have h8 : l.length = 1 := h7
    obtain ⟨x, rfl⟩ : ∃ x, l = [x] := by
      match l, h8 with
      | [x], _ => exact ⟨x, rfl⟩
    have h9 : x.toNat = 48 := h6
    have : x = 48 := UInt8.toNat_inj.1 (by rw [h9]; rfl)
    rw [this]
  · rintro rfl
    rfl
theorem text_ne {d : ByteArray} (h : ¬ d = (⟨#[48]⟩ : ByteArray)) : (d.toList == [48]) = false := by
  rw [Bool.eq_false_iff]; intro e
  have e2 := eq_of_beq e
  apply h
  rw [ByteArray.toList_eq] at e2
  obtain ⟨⟨l⟩⟩ := d
  have e3 : l = [48] := e2
  rw [e3]
theorem text_zero : ((⟨#[48]⟩ : ByteArray).toList == [48]) = true := by rw [ByteArray.toList_eq]; decide
theorem Blk.drewN2 {w : World} {b : Nat} {c : Array Value} {t : TypeId} (h : Blk w b c t) : Blk w.drew b c t := h
/-- l01Cmp with what it leaves said in another way -/
theorem l01Cmp_bel (a b : Value) (m n : Nat) (w : World) (ha : LongS w a m) (hb : LongS w b n) :
    Calls Try.prog 53 #[a, b] w fun e w' => e = .returned (.int .i64 (cmpI m n)) ∧ Below w.heap.size w w' :=
  (l01Cmp_any a b m n w ha hb).mono fun _ _ ⟨h1, k, h2⟩ => ⟨h1, by rw [h2]; exact below_drewN (Below.refl _ _) k⟩
theorem one_long1 (W : World) : LongS (W.alloc (.cells #[.int .i64 1] 2)) (.slice (some ⟨W.heap.size, 0, none⟩) 1 1) 1 := one_ints W 1

theorem one_long1' (W : World) (o : Obj) : LongS ((W.alloc o).alloc (.cells #[.int .i64 1] 2)) (.slice (some ⟨W.heap.size + 1, 0, none⟩) 1 1) 1 := by
  have := one_long1 (W.alloc o)
  simpa only [World.size_alloc] using this
/-- what l01Parse returns -/
def RdS (n d : ByteArray) (w : World) (e : Ending) (w' : World) : Prop :=
  (frOk n d = true → ∃ nv dv, e = .returned (.tuple #[.agg #[nv, dv], .bool true]) ∧ LongS w' nv (numV n) ∧ LongS w' dv (numV d) ∧ Below w.heap.size w w') ∧
  (frOk n d = false → ∃ (a1 a2 : Option Addr) (l1 l2 c1 c2 : Nat), e = .returned (.tuple #[.agg #[.slice a1 l1 c1, .slice a2 l2 c2], .bool false]) ∧ Below w.heap.size w w')

set_option maxRecDepth 100000 in
set_option maxHeartbeats 4000000 in
theorem l01Parse_no (n d : ByteArray) (w : World) (h : numB n = false ∨ (numB n = true ∧ numB d = false)) :
    Calls Try.prog 70 #[.agg #[.string n, .string d]] w (RdS n d w) := by
  have hno := Lib.hid (show frOk n d = false by unfold frOk; rcases h with h | ⟨h1, h2⟩ <;> simp_all)
  have hn := l01Numeral_any n
  have hd := l01Numeral_any d
  have hZ := Blk.new (w.alloc (.cells #[.string n, .string d] 49)) #[.slice none 0 0, .slice none 0 0] 60
  rw [World.size_alloc] at hZ
  have z0 := hZ.cell 0
  have z1 := hZ.cell 1
  have f0 := hZ.frozen 0
  have f1 := hZ.frozen 1
  simp only [List.getElem?_toArray, List.getElem?_cons_zero, List.getElem?_cons_succ] at z0 z1
  clear hZ
  rcases h with h | ⟨h1, h2⟩
  · rw [h] at hn
    have hn' := Lib.hid hn
    clear hn hd h
    go_enter Try.func70, Try.ntmps70
    go_wp2_with fail
    (with_reducible refine (hn'.out _).mono ?_)
    rintro e w1 ⟨rfl, rfl⟩
    go_wp2
    refine bodyPost_ret (v := .tuple #[.agg #[.slice none 0 0, .slice none 0 0], .bool false]) (by simp [results, Try.results70, go_sem, z0, z1]) rfl ?_
    exact ⟨fun h => (by rw [hno.out] at h; cases h), fun _ => ⟨_, _, _, _, _, _, rfl, below2 w _ _⟩⟩
  · rw [h1] at hn
    rw [h2] at hd
    have hn' := Lib.hid hn
    have hd' := Lib.hid hd
    clear hn hd h1 h2
    go_enter Try.func70, Try.ntmps70
    go_wp2_with fail
    (with_reducible refine (hn'.out _).mono ?_)
    rintro e w1 ⟨rfl, rfl⟩
    go_wp2_with fail
    (with_reducible refine (hd'.out _).mono ?_)
    rintro e w1 ⟨rfl, rfl⟩
    go_wp2
    refine bodyPost_ret (v := .tuple #[.agg #[.slice none 0 0, .slice none 0 0], .bool false]) (by simp [results, Try.results70, go_sem, z0, z1]) rfl ?_
    exact ⟨fun h => (by rw [hno.out] at h; cases h), fun _ => ⟨_, _, _, _, _, _, rfl, below2 w _ _⟩⟩

/-- what stands behind the reading of both parts -/
def ReadTwoS (w wx : World) (N D : Nat) (s4 : Value) : Prop := ∃ (B : Nat) (p1 p2 : Option Addr) (k1 k2 : Nat), s4 = .pointer (some ⟨B, 0, none⟩) ∧ Blk wx B #[.slice p1 (dlen B9 N) k1, .slice p2 (dlen B9 D) k2] 60 ∧
  LongS wx (.slice p1 (dlen B9 N) k1) N ∧ LongS wx (.slice p2 (dlen B9 D) k2) D ∧ Blk wx (w.heap.size + 1) #[.slice none 0 0, .slice none 0 0] 60 ∧ Below w.heap.size w wx ∧ B ≠ w.heap.size + 1

theorem ReadTwoS.new {w W u2 : World} {N D : Nat} {pa1 pa2 : Option Addr} {pk1 pk2 : Nat} (hB1 : Blk W (w.heap.size + 1) #[.slice none 0 0, .slice none 0 0] 60) (bel : Below w.heap.size w W) (bW : Below W.heap.size W u2)
    (p1 : LongS u2 (.slice pa1 (dlen B9 N) pk1) N) (p2 : LongS u2 (.slice pa2 (dlen B9 D) pk2) D) :
    ReadTwoS w (u2.alloc (.cells #[.slice pa1 (dlen B9 N) pk1, .slice pa2 (dlen B9 D) pk2] 60)) N D (.pointer (some ⟨u2.heap.size, 0, none⟩)) := by
  have h1 := hB1.lt
  have h2 := bW.size
  exact ⟨_, pa1, pa2, pk1, pk2, rfl, Blk.new _ _ _, p1.keep (below1 _ _), p2.keep (below1 _ _), (hB1.keep bW h1).keep (below1 u2 _) (by omega), below_wt (below_wt bel bW) (below1 _ _), by omega⟩
theorem ReadTwoS.fill {w W u2 : World} {N D B : Nat} {pa1 pa2 : Option Addr} {pk1 pk2 : Nat} (hB1 : Blk W (w.heap.size + 1) #[.slice none 0 0, .slice none 0 0] 60) (bel : Below w.heap.size w W) (bW : Below W.heap.size W u2)
    (p1 : LongS u2 (.slice pa1 (dlen B9 N) pk1) N) (p2 : LongS u2 (.slice pa2 (dlen B9 D) pk2) D) (Z4 : Blk u2 B #[.slice none 0 0, .slice none 0 0] 60) (hB : W.heap.size ≤ B) :
    ReadTwoS w ((u2.setCell ⟨B, 0, none⟩ (.slice pa1 (dlen B9 N) pk1)).setCell ⟨B, 1, none⟩ (.slice pa2 (dlen B9 D) pk2)) N D (.pointer (some ⟨B, 0, none⟩)) := by
  have h1 := hB1.lt
  have h2 := bW.size
  have Z5 := Z4.set 0 (.slice pa1 (dlen B9 N) pk1)
  refine ⟨B, pa1, pa2, pk1, pk2, rfl, ?_, (p1.setBox Z4 0 _).setBox Z5 1 _, (p2.setBox Z4 0 _).setBox Z5 1 _, ((hB1.keep bW h1).setOther (a := ⟨B, 0, none⟩) (by simp only; omega) _).setOther (a := ⟨B, 1, none⟩) (by simp only; omega) _, ?_, by omega⟩
  · have := Z5.set 1 (.slice pa2 (dlen B9 D) pk2)
    simpa using this
  · have b := below_wt bel bW
    exact (b.setCell (p := ⟨B, 0, none⟩) (by have := bel.size; simp only; omega) _).setCell (p := ⟨B, 1, none⟩) (by have := bel.size; simp only; omega) _

set_option maxRecDepth 100000 in
set_option maxHeartbeats 4000000 in
theorem l01Parse_two (n d : ByteArray) (w : World) (hn : numB n = true) (hd : numB d = true) (hD0 : 0 < numV d) :
    Calls Try.prog 70 #[.agg #[.string n, .string d]] w (RdS n d w) := by
  have hne : ¬ d = (⟨#[48]⟩ : ByteArray) := fun e => by have := (zero_text hd).2 e; omega
  have htl := text_ne hne
  have hnn := l01Numeral_any n
  have hnd := l01Numeral_any d
  rw [hn] at hnn
  rw [hd] at hnd
  have hln := Lib.hid (fun W => l01Read_any n W hn)
  have hld := Lib.hid (fun W => l01Read_any d W hd)
  have sN := numV_len9 hn
  have sD := numV_len9 hd
  have hok := Lib.hid (show frOk n d = (decide (0 < numV d) && decide (Nat.gcd (numV n) (numV d) = 1)) by unfold frOk; rw [hn, hd]; rfl)
  have hB0 := (Blk.new w #[.string n, .string d] 49).alloc (.cells #[.slice none 0 0, .slice none 0 0] 60)
  have hB1 := Blk.new (w.alloc (.cells #[.string n, .string d] 49)) #[.slice none 0 0, .slice none 0 0] 60
  have bel := below2 w (.cells #[.string n, .string d] 49) (.cells #[.slice none 0 0, .slice none 0 0] 60)
  simp only [World.size_alloc] at hB1
  have hn' := Lib.hid hnn
  have hd' := Lib.hid hnd
  change Hid (∀ W, Calls _ _ _ W fun e w' => ∃ v, e = .returned v ∧ LongS w' v (numV n) ∧ Below W.heap.size W w') at hln
  change Hid (∀ W, Calls _ _ _ W fun e w' => ∃ v, e = .returned v ∧ LongS w' v (numV d) ∧ Below W.heap.size W w') at hld
  unfold RdS
  generalize numV n = N at *
  generalize numV d = D at *
  clear hnn hnd hn hd hne
  go_enter Try.func70, Try.ntmps70
  go_upto_region 3 with (first
    | (go_at_call 91; first | ((with_reducible refine (hn'.out _).mono ?_); rintro e w1 ⟨rfl, rfl⟩) | ((with_reducible refine (hd'.out _).mono ?_); rintro e w1 ⟨rfl, rfl⟩)))
  generalize hW : (w.alloc _).alloc _ = W at *
  clear hW
  go_cut [4] (fun s4 wx => ReadTwoS w wx N D s4)
  case first =>
    have c0 : W.drew.cell? ⟨w.heap.size, 0, none⟩ = some (.string n) := hB0.cell 0
    have c1 : W.drew.cell? ⟨w.heap.size, 1, none⟩ = some (.string d) := hB0.cell 1
    have cW0 : W.cell? ⟨w.heap.size, 0, none⟩ = some (.string n) := c0
    have cW1 : W.cell? ⟨w.heap.size, 1, none⟩ = some (.string d) := c1
    have Z1 : Blk W.drew (w.heap.size + 1) #[.slice none 0 0, .slice none 0 0] 60 := hB1
    have B2 := bel.drew
    have neW : w.heap.size ≠ W.heap.size := Nat.ne_of_lt (block_lt c0)
    have neW' : W.heap.size ≠ w.heap.size := Ne.symm neW
    go_region_held3 (fun w' => w'.cell? ⟨w.heap.size, 0, none⟩ = some (.string n) ∧ w'.cell? ⟨w.heap.size, 1, none⟩ = some (.string d))
      (first | go_keep | exact ⟨((below1 W _).cell (block_lt cW0)).trans cW0, ((below1 W _).cell (block_lt cW1)).trans cW1⟩ | exact ⟨((below1 _ _).cell (block_lt c0)).trans c0, ((below1 _ _).cell (block_lt c1)).trans c1⟩)
      (first
        | (go_at_call 92; first
            | ((with_reducible refine (hln.out _).mono ?_); rintro e u1 ⟨v1, rfl, p1, b1⟩; obtain ⟨_, pa1, pk1, rfl⟩ := p1.len; (first | (have Z4 := (Blk.new _ #[.slice none 0 0, .slice none 0 0] 60).keep b1 (by simp)) | (have Z4 := (Blk.drewN1 (Blk.new W #[.slice none 0 0, .slice none 0 0] 60)).keep b1 (by simp)) | skip); replace c0 : u1.cell? ⟨w.heap.size, 0, none⟩ = some (.string n) := (by first | exact (b1.cell (p := ⟨w.heap.size, 0, none⟩) (block_lt c0)).trans c0 | exact (b1.cell (p := ⟨w.heap.size, 0, none⟩) (block_lt (((below1 _ _).cell (block_lt c0)).trans c0))).trans (((below1 _ _).cell (block_lt c0)).trans c0)); replace c1 : u1.cell? ⟨w.heap.size, 1, none⟩ = some (.string d) := (by first | exact (b1.cell (p := ⟨w.heap.size, 1, none⟩) (block_lt c1)).trans c1 | exact (b1.cell (p := ⟨w.heap.size, 1, none⟩) (block_lt (((below1 _ _).cell (block_lt c1)).trans c1))).trans (((below1 _ _).cell (block_lt c1)).trans c1)); have ne1 : w.heap.size ≠ u1.heap.size := Nat.ne_of_lt (block_lt c0); have ne1' : u1.heap.size ≠ w.heap.size := Ne.symm ne1)
            | ((with_reducible refine (hld.out _).mono ?_); rintro e u2 ⟨v2, rfl, p2, b2⟩; obtain ⟨_, pa2, pk2, rfl⟩ := p2.len; (first | (replace Z4 := Z4.keep b2 Z4.lt) | (first | (have Z4 := (Blk.new _ #[.slice none 0 0, .slice none 0 0] 60).keep b2 (by simp)) | (have Z4 := (Blk.drewN1 (Blk.new W #[.slice none 0 0, .slice none 0 0] 60)).keep b2 (by simp)) | skip)); (try (have zq0 := Z4.cell 0; have zq1 := Z4.cell 1; have fq0 := Z4.frozen 0; have fq1 := Z4.frozen 1; simp only [List.getElem?_toArray, List.getElem?_cons_zero, List.getElem?_cons_succ] at zq0 zq1)); replace c0 : u2.cell? ⟨w.heap.size, 0, none⟩ = some (.string n) := (by first | exact (b2.cell (p := ⟨w.heap.size, 0, none⟩) (block_lt c0)).trans c0 | exact (b2.cell (p := ⟨w.heap.size, 0, none⟩) (block_lt (((below1 _ _).cell (block_lt c0)).trans c0))).trans (((below1 _ _).cell (block_lt c0)).trans c0)); replace c1 : u2.cell? ⟨w.heap.size, 1, none⟩ = some (.string d) := (by first | exact (b2.cell (p := ⟨w.heap.size, 1, none⟩) (block_lt c1)).trans c1 | exact (b2.cell (p := ⟨w.heap.size, 1, none⟩) (block_lt (((below1 _ _).cell (block_lt c1)).trans c1))).trans (((below1 _ _).cell (block_lt c1)).trans c1)); have ne2 : w.heap.size ≠ u2.heap.size := Nat.ne_of_lt (block_lt c0); have ne2' : u2.heap.size ≠ w.heap.size := Ne.symm ne2)))
    all_goals (go_wp2_with fail; go_meet)
    · exact ReadTwoS.new (W := W) hB1 bel (below_wt ((Below.refl _ W).drew.trans b1) b2) (p1.keep b2) p2
    · exact ReadTwoS.fill (W := W) hB1 bel (below_wt (below_wt ((Below.refl _ W).drew.trans b1) (below1 u1 _)) b2) (p1.keep (below_wt (below1 u1 _) b2)) p2 Z4 b1.size
    · exact ReadTwoS.fill (W := W) hB1 bel (below_wt (below_wt ((below1 W _).drew) b1) b2) (p1.keep b2) p2 Z4 (Nat.le_refl _)
  case rest =>
    obtain ⟨B, p1, p2, k1, k2, rfl, hB, hN, hD, hR, bel5, hne⟩ := hcut
    have q0 := hB.cell 0
    have q1 := hB.cell 1
    have z0 := hR.cell 0
    have z1 := hR.cell 1
    have f0 := hR.frozen 0
    have f1 := hR.frozen 1
    simp only [List.getElem?_toArray, List.getElem?_cons_zero, List.getElem?_cons_succ] at q0 q1 z0 z1
    have hgc := Lib.hid (fun (W : World) (b : Below wc.heap.size wc W) => l01Gcd_any _ _ N D W (hN.keep b) (hD.keep b) (by omega) (by omega))
    have hf := hok.out
    rw [show decide (0 < D) = true from decide_eq_true hD0, Bool.true_and] at hf
    have hf' := Lib.hid hf
    have hN' := Lib.hid hN
    have hD' := Lib.hid hD
    have hcv : (cmpI (Nat.gcd N D) 1 == 0) = decide (Nat.gcd N D = 1) := by
      unfold cmpI
      by_cases h1 : Nat.gcd N D < 1
      · rw [if_pos h1, decide_eq_false (by omega)]; rfl
      · rw [if_neg h1]
        by_cases h2 : 1 < Nat.gcd N D
        · rw [if_pos h2, decide_eq_false (by omega)]; rfl
        · rw [if_neg h2, decide_eq_true (by omega)]; rfl
    rw [← hcv] at hf'
    have sg : dlen B9 (Nat.gcd N D) ≤ 300 := Nat.le_trans (gcd_len hD0) sD
    clear hf hcv hok hN hD htl
    generalize Nat.gcd N D = g at hgc hf' sg
    replace q0 : wc.drew.cell? ⟨B, 0, none⟩ = some (.slice p1 (dlen B9 N) k1) := q0
    replace q1 : wc.drew.cell? ⟨B, 1, none⟩ = some (.slice p2 (dlen B9 D) k2) := q1
    have qW0 : wc.cell? ⟨B, 0, none⟩ = some (.slice p1 (dlen B9 N) k1) := q0
    have qW1 : wc.cell? ⟨B, 1, none⟩ = some (.slice p2 (dlen B9 D) k2) := q1
    have hne' : w.heap.size + 1 ≠ B := Ne.symm hne
    clear z0 z1 f0 f1
    go_wp2_with fail
    go_region_held3 (fun w' => w'.cell? ⟨B, 0, none⟩ = some (.slice p1 (dlen B9 N) k1) ∧ w'.cell? ⟨B, 1, none⟩ = some (.slice p2 (dlen B9 D) k2))
      (first | go_keep | exact ⟨((below1 wc _).cell (block_lt qW0)).trans qW0, ((below1 wc _).cell (block_lt qW1)).trans qW1⟩ | exact ⟨((below1 _ _).cell (block_lt q0)).trans q0, ((below1 _ _).cell (block_lt q1)).trans q1⟩)
      (first
        | (go_at_call 65; ((with_reducible refine (hgc.out _ (by (repeat (first | exact Below.refl _ _ | refine Below.drew ?_ | refine below_wt ?_ (below1 _ _))))).mono ?_); rintro e u1 ⟨gv, rfl, hg, b1⟩; have B1 : Below wc.heap.size wc u1 := (by (repeat (first | exact Below.refl _ _ | refine Below.drew ?_ | refine below_wt ?_ b1 | refine below_wt ?_ (below1 _ _)))); replace q0 : u1.cell? ⟨B, 0, none⟩ = some (.slice p1 (dlen B9 N) k1) := (by first | exact (b1.cell (p := ⟨B, 0, none⟩) (block_lt q0)).trans q0 | exact (b1.cell (p := ⟨B, 0, none⟩) (block_lt (((below1 _ _).cell (block_lt q0)).trans q0))).trans (((below1 _ _).cell (block_lt q0)).trans q0)); replace q1 : u1.cell? ⟨B, 1, none⟩ = some (.slice p2 (dlen B9 D) k2) := (by first | exact (b1.cell (p := ⟨B, 1, none⟩) (block_lt q1)).trans q1 | exact (b1.cell (p := ⟨B, 1, none⟩) (block_lt (((below1 _ _).cell (block_lt q1)).trans q1))).trans (((below1 _ _).cell (block_lt q1)).trans q1))))
        | (go_at_call 53; ((with_reducible refine (l01Cmp_bel _ _ g 1 _ (by first | exact hg | exact hg.keep (below1 _ _)) (by (repeat (first | exact one_long1 _ | exact one_long1' _ _ | refine LongS.keep ?_ (below1 _ _) | refine LongS.keep ?_ (Below.refl _ _).drew | refine LongS.keep ?_ b1)))).mono ?_); rintro e u2 ⟨rfl, b2⟩; have B2 : Below wc.heap.size wc u2 := below_wt (by (repeat (first | exact Below.refl _ _ | exact B1 | refine Below.drew ?_ | refine below_wt ?_ b1 | refine below_wt ?_ (below1 _ _)))) b2; have hZr := hR.keep B2 hR.lt; have z0 := hZr.cell 0; have z1 := hZr.cell 1; have f0 := hZr.frozen 0; have f1 := hZr.frozen 1; simp only [List.getElem?_toArray, List.getElem?_cons_zero, List.getElem?_cons_succ] at z0 z1; replace q0 : u2.cell? ⟨B, 0, none⟩ = some (.slice p1 (dlen B9 N) k1) := (by first | exact (b2.cell (p := ⟨B, 0, none⟩) (block_lt q0)).trans q0 | exact (b2.cell (p := ⟨B, 0, none⟩) (block_lt (((below1 _ _).cell (block_lt q0)).trans q0))).trans (((below1 _ _).cell (block_lt q0)).trans q0)); replace q1 : u2.cell? ⟨B, 1, none⟩ = some (.slice p2 (dlen B9 D) k2) := (by first | exact (b2.cell (p := ⟨B, 1, none⟩) (block_lt q1)).trans q1 | exact (b2.cell (p := ⟨B, 1, none⟩) (block_lt (((below1 _ _).cell (block_lt q1)).trans q1))).trans (((below1 _ _).cell (block_lt q1)).trans q1)))))
    all_goals
      have hN2 := Lib.hid (((hN'.out.keep B2).setBox hZr 0 (.slice p1 (dlen B9 N) k1)).setBox (hZr.set 0 (.slice p1 (dlen B9 N) k1)) 1 (.slice p2 (dlen B9 D) k2))
      have hD2 := Lib.hid (((hD'.out.keep B2).setBox hZr 0 (.slice p1 (dlen B9 N) k1)).setBox (hZr.set 0 (.slice p1 (dlen B9 N) k1)) 1 (.slice p2 (dlen B9 D) k2))
      have hfin := Lib.hid (((below_wt bel5 B2).setCell (p := ⟨w.heap.size + 1, 0, none⟩) (by simp only; omega) (.slice p1 (dlen B9 N) k1)).setCell (p := ⟨w.heap.size + 1, 1, none⟩) (by simp only; omega) (.slice p2 (dlen B9 D) k2))
      clear b1 b2 B2 hg
      go_wp2
      refine bodyPost_ret (v := .tuple #[.agg #[.slice p1 (dlen B9 N) k1, .slice p2 (dlen B9 D) k2], .bool (cmpI g 1 == 0)]) (by simp [results, Try.results70, go_sem, z0, z1]) rfl ?_
      exact ⟨fun h => ⟨_, _, by rw [hf'.out] at h; rw [h], hN2.out, hD2.out, hfin.out⟩, fun h => ⟨_, _, _, _, _, _, by rw [hf'.out] at h; rw [h], hfin.out⟩⟩

set_option maxRecDepth 100000 in
set_option maxHeartbeats 4000000 in
theorem l01Parse_zero (n : ByteArray) (w : World) (hn : numB n = true) :
    Calls Try.prog 70 #[.agg #[.string n, .string ⟨#[48]⟩]] w (RdS n ⟨#[48]⟩ w) := by
  have hd : numB ⟨#[48]⟩ = true := by decide
  have hno := Lib.hid (show frOk n ⟨#[48]⟩ = false by
    have h0 : numV ⟨#[48]⟩ = 0 := (zero_text hd).2 rfl
    unfold frOk
    rw [hn, hd, h0]; rfl)
  have hnn := l01Numeral_any n
  have hnd := l01Numeral_any ⟨#[48]⟩
  rw [hn] at hnn
  rw [hd] at hnd
  have htl := text_zero
  generalize (⟨#[48]⟩ : ByteArray) = d at *
  have hZ := Blk.new (w.alloc (.cells #[.string n, .string d] 49)) #[.slice none 0 0, .slice none 0 0] 60
  rw [World.size_alloc] at hZ
  have z0 := hZ.cell 0
  have z1 := hZ.cell 1
  have f0 := hZ.frozen 0
  have f1 := hZ.frozen 1
  simp only [List.getElem?_toArray, List.getElem?_cons_zero, List.getElem?_cons_succ] at z0 z1
  have hn' := Lib.hid hnn
  have hd' := Lib.hid hnd
  clear hZ hnn hnd hn hd
  go_enter Try.func70, Try.ntmps70
  go_wp2_with fail
  (with_reducible refine (hn'.out _).mono ?_)
  rintro e w1 ⟨rfl, rfl⟩
  go_wp2_with fail
  (with_reducible refine (hd'.out _).mono ?_)
  rintro e w1 ⟨rfl, rfl⟩
  go_wp2
  refine bodyPost_ret (v := .tuple #[.agg #[.slice none 0 0, .slice none 0 0], .bool false]) (by simp [results, Try.results70, go_sem, z0, z1]) rfl ?_
  exact ⟨fun h => (by rw [hno.out] at h; cases h), fun _ => ⟨_, _, _, _, _, _, rfl, below2 w _ _⟩⟩

theorem l01Parse_any (n d : ByteArray) (w : World) : Calls Try.prog 70 #[.agg #[.string n, .string d]] w (RdS n d w) := by
  rcases hn : numB n with _ | _
  · exact l01Parse_no n d w (Or.inl hn)
  · rcases hd : numB d with _ | _
    · exact l01Parse_no n d w (Or.inr ⟨hn, hd⟩)
    · rcases Nat.eq_zero_or_pos (numV d) with h0 | h0
      · obtain rfl := (zero_text hd).1 h0
        exact l01Parse_zero n w hn
      · exact l01Parse_two n d w hn hd h0
end Go.Proofs.Ytiddhnnofpbopaa

/- ValidFraction and FractionText of both sides; what the laws do with fractions. Conditions: none. -/
namespace Go.Proofs.Ytiddhnnofpbopaa
open Go.ChangeShapes Go.WideShapes Go.ChangeAt Go.RowKit Go.Deep Go.Joins
set_option linter.unusedVariables false

/-- the value v reads as a fraction's two texts -/
def FrR (w : World) (v : Value) (c : ByteArray × ByteArray) : Prop := v = .agg #[.string c.1, .string c.2] ∧ c.1.size ≤ maxLen ∧ c.2.size ≤ maxLen

set_option maxRecDepth 100000 in
theorem open_frac {H : Type} {enc : TypeId × Value → H} {W : World} {base b0 : Nat} {held : Bool} {v : Value} {d : DataW H} {p : List MemPlace}
    (hv : Value.okWide Try.prog W .any base 54 v) (h : DataW.Trod enc Try.prog W b0 (fun _ => true) held 54 v d p) : ∃ c, FrR W v c := by
  obtain ⟨c0, c1, y0, y1, m, rfl, _, _, h0, h1⟩ := open_agg2 Try.underlying54 (by kernel_rfl) (by kernel_rfl) hv h
  obtain ⟨a, e0, _, wa⟩ := DataW.trod_string Try.underlying9 h0
  obtain ⟨b, e1, _, wb⟩ := DataW.trod_string Try.underlying9 h1
  simp at e0 e1
  subst e0 e1
  exact ⟨(a, b), rfl, wa, wb⟩

set_option maxHeartbeats 2000000 in
theorem toFraction_any (n d : ByteArray) (w : World) : Calls Try.prog 33 #[.agg #[.string n, .string d]] w fun e w' => e = .returned (.agg #[.string n, .string d]) ∧ Below w.heap.size w w' := by
  go_enter Try.func33, Try.ntmps33
  go_wp2
  refine bodyPost_ret (v := .agg #[.string n, .string d]) (by simp [results, Try.results33, go_sem]) rfl ?_
  exact ⟨rfl, below3 _ _ _ _⟩

/-- what is left of a size -/
def frLeft (left : Int) (k : Nat) : Int := if left < (k : Int) then -1 else left - (k : Int)
theorem frLeft_no {left : Int} {k : Nat} (h : left < (k : Int)) : frLeft left k = -1 := if_pos h
theorem frLeft_yes {left : Int} {k : Nat} (h : ¬ left < (k : Int)) : frLeft left k = left - (k : Int) := if_neg h
set_option maxHeartbeats 2000000 in
theorem szFraction_any (n d : ByteArray) (left : Int) (w : World) (h0 : 0 ≤ left) (h1 : left ≤ 1048576) (s1 : n.size ≤ maxLen) (s2 : d.size ≤ maxLen) :
    Calls Try.prog 25 #[.agg #[.string n, .string d], .int .i64 left] w fun e w' => e = .returned (.int .i64 (frLeft left (n.size + d.size))) ∧ Below w.heap.size w w' := by
  unfold maxLen at s1 s2
  by_cases c1 : left < (n.size : Int)
  · have e1 := Lib.hid (frLeft_no (left := left) (k := n.size + d.size) (by omega))
    have c1' : left - (n.size : Int) < 0 := by omega
    go_enter Try.func25, Try.ntmps25
    go_wp2
    go_ret
    exact ⟨by rw [e1.out]; rfl, below1 _ _⟩
  · by_cases c2 : left - (n.size : Int) < (d.size : Int)
    · have e1 := Lib.hid (frLeft_no (left := left) (k := n.size + d.size) (by omega))
      have c1' : ¬ left - (n.size : Int) < 0 := by omega
      have c2' : left - (n.size : Int) - (d.size : Int) < 0 := by omega
      go_enter Try.func25, Try.ntmps25
      go_wp2
      go_ret
      exact ⟨by rw [e1.out]; rfl, below1 _ _⟩
    · have e1 := Lib.hid (frLeft_yes (left := left) (k := n.size + d.size) (by omega))
      have c1' : ¬ left - (n.size : Int) < 0 := by omega
      have c2' : ¬ left - (n.size : Int) - (d.size : Int) < 0 := by omega
      have e2 := Lib.hid (show left - (n.size : Int) - (d.size : Int) = left - ((n.size + d.size : Nat) : Int) by omega)
      go_enter Try.func25, Try.ntmps25
      go_wp2
      go_ret
      exact ⟨by rw [e1.out, ← e2.out]; rfl, below1 _ _⟩
end Go.Proofs.Ytiddhnnofpbopaa

/- The comparison of two fractions, both sides. Conditions: at most 300 digits in each part. -/
namespace Go.Proofs.Ytiddhnnofpbopaa
open Go.RowKit Go.Deep
set_option linter.unusedVariables false

theorem compare_bel (a b : Value) (m n : Nat) (w : World) (ha : LongI w a m) (hb : LongI w b n) :
    Calls Try.prog 62 #[a, b] w fun e w' => e = .returned (.int .i64 (cmpI m n)) ∧ Below w.heap.size w w' :=
  (compare_any a b m n w ha hb).mono fun _ _ ⟨h1, k, h2⟩ => ⟨h1, by rw [h2]; exact below_drewN (Below.refl _ _) k⟩

set_option maxRecDepth 100000 in
set_option maxHeartbeats 4000000 in
theorem cmp_spec (a0 a1 c0 c1 : Option Addr) (k0 k1 l0 l1 N1 D1 N2 D2 : Nat) (w : World) (h0 : LongS w (.slice a0 (dlen B9 N1) k0) N1) (h1 : LongS w (.slice a1 (dlen B9 D1) k1) D1) (h2 : LongS w (.slice c0 (dlen B9 N2) l0) N2) (h3 : LongS w (.slice c1 (dlen B9 D2) l1) D2)
    (s0 : dlen B9 N1 ≤ 300) (s1 : dlen B9 D1 ≤ 300) (s2 : dlen B9 N2 ≤ 300) (s3 : dlen B9 D2 ≤ 300) :
    Calls Try.prog 31 #[.agg #[.slice a0 (dlen B9 N1) k0, .slice a1 (dlen B9 D1) k1], .agg #[.slice c0 (dlen B9 N2) l0, .slice c1 (dlen B9 D2) l1]] w fun e w' => e = .returned (.int .i64 (cmpI (N1 * D2) (N2 * D1))) ∧ Below w.heap.size w w' := by
  have bel := below2 w (.cells #[.slice a0 (dlen B9 N1) k0, .slice a1 (dlen B9 D1) k1] 60) (.cells #[.slice c0 (dlen B9 N2) l0, .slice c1 (dlen B9 D2) l1] 60)
  have hB0 := (Blk.new w #[.slice a0 (dlen B9 N1) k0, .slice a1 (dlen B9 D1) k1] 60).alloc (.cells #[.slice c0 (dlen B9 N2) l0, .slice c1 (dlen B9 D2) l1] 60)
  have hB1 := Blk.new (w.alloc (.cells #[.slice a0 (dlen B9 N1) k0, .slice a1 (dlen B9 D1) k1] 60)) #[.slice c0 (dlen B9 N2) l0, .slice c1 (dlen B9 D2) l1] 60
  simp only [World.size_alloc] at hB1
  have g0 := Lib.hid (fun W b => (h0.keep bel).keep (w' := W) b)
  have g1 := Lib.hid (fun W b => (h1.keep bel).keep (w' := W) b)
  have g2 := Lib.hid (fun W b => (h2.keep bel).keep (w' := W) b)
  have g3 := Lib.hid (fun W b => (h3.keep bel).keep (w' := W) b)
  clear h0 h1 h2 h3
  go_enter Try.func31, Try.ntmps31
  go_wp2
  generalize hW : (w.alloc _).alloc _ = W at *
  clear hW
  have q0 : W.drew.cell? ⟨w.heap.size, 0, none⟩ = some (.slice a0 (dlen B9 N1) k0) := hB0.cell 0
  have q1 : W.drew.cell? ⟨w.heap.size, 1, none⟩ = some (.slice a1 (dlen B9 D1) k1) := hB0.cell 1
  have q2 : W.drew.cell? ⟨w.heap.size + 1, 0, none⟩ = some (.slice c0 (dlen B9 N2) l0) := hB1.cell 0
  have q3 : W.drew.cell? ⟨w.heap.size + 1, 1, none⟩ = some (.slice c1 (dlen B9 D2) l1) := hB1.cell 1
  clear hB0 hB1
  go_region_held3 (fun w' => w'.cell? ⟨w.heap.size, 0, none⟩ = some (.slice a0 (dlen B9 N1) k0) ∧ w'.cell? ⟨w.heap.size, 1, none⟩ = some (.slice a1 (dlen B9 D1) k1) ∧ w'.cell? ⟨w.heap.size + 1, 0, none⟩ = some (.slice c0 (dlen B9 N2) l0) ∧ w'.cell? ⟨w.heap.size + 1, 1, none⟩ = some (.slice c1 (dlen B9 D2) l1))
    (go_keep)
    (first
      | (go_at_call 52; first
          | ((with_reducible refine (l01Product_any (.slice a0 (dlen B9 N1) k0) (.slice c1 (dlen B9 D2) l1) N1 D2 _ (g0.out _ (by (repeat (first | exact Below.refl _ _ | refine Below.drew ?_ | refine below_wt ?_ b1)))) (g3.out _ (by (repeat (first | exact Below.refl _ _ | refine Below.drew ?_ | refine below_wt ?_ b1)))) (by omega) (by omega)).mono ?_); rintro e u1 ⟨r1, rfl, pr1, b1⟩; replace q0 : u1.cell? ⟨w.heap.size, 0, none⟩ = some (.slice a0 (dlen B9 N1) k0) := (b1.cell (p := ⟨w.heap.size, 0, none⟩) (block_lt q0)).trans q0; replace q1 : u1.cell? ⟨w.heap.size, 1, none⟩ = some (.slice a1 (dlen B9 D1) k1) := (b1.cell (p := ⟨w.heap.size, 1, none⟩) (block_lt q1)).trans q1; replace q2 : u1.cell? ⟨w.heap.size + 1, 0, none⟩ = some (.slice c0 (dlen B9 N2) l0) := (b1.cell (p := ⟨w.heap.size + 1, 0, none⟩) (block_lt q2)).trans q2; replace q3 : u1.cell? ⟨w.heap.size + 1, 1, none⟩ = some (.slice c1 (dlen B9 D2) l1) := (b1.cell (p := ⟨w.heap.size + 1, 1, none⟩) (block_lt q3)).trans q3)
          | ((with_reducible refine (l01Product_any (.slice c0 (dlen B9 N2) l0) (.slice a1 (dlen B9 D1) k1) N2 D1 _ (g2.out _ (by (repeat (first | exact Below.refl _ _ | refine Below.drew ?_ | refine below_wt ?_ b1)))) (g1.out _ (by (repeat (first | exact Below.refl _ _ | refine Below.drew ?_ | refine below_wt ?_ b1)))) (by omega) (by omega)).mono ?_); rintro e u2 ⟨r2, rfl, pr2, b2⟩; replace q0 : u2.cell? ⟨w.heap.size, 0, none⟩ = some (.slice a0 (dlen B9 N1) k0) := (b2.cell (p := ⟨w.heap.size, 0, none⟩) (block_lt q0)).trans q0; replace q1 : u2.cell? ⟨w.heap.size, 1, none⟩ = some (.slice a1 (dlen B9 D1) k1) := (b2.cell (p := ⟨w.heap.size, 1, none⟩) (block_lt q1)).trans q1; replace q2 : u2.cell? ⟨w.heap.size + 1, 0, none⟩ = some (.slice c0 (dlen B9 N2) l0) := (b2.cell (p := ⟨w.heap.size + 1, 0, none⟩) (block_lt q2)).trans q2; replace q3 : u2.cell? ⟨w.heap.size + 1, 1, none⟩ = some (.slice c1 (dlen B9 D2) l1) := (b2.cell (p := ⟨w.heap.size + 1, 1, none⟩) (block_lt q3)).trans q3))
      | (go_at_call 53; ((with_reducible refine (l01Cmp_bel _ _ (N1 * D2) (N2 * D1) _ (pr1.keep b2) pr2).mono ?_); rintro e u3 ⟨rfl, b3⟩; replace q0 : u3.cell? ⟨w.heap.size, 0, none⟩ = some (.slice a0 (dlen B9 N1) k0) := (b3.cell (p := ⟨w.heap.size, 0, none⟩) (block_lt q0)).trans q0; replace q1 : u3.cell? ⟨w.heap.size, 1, none⟩ = some (.slice a1 (dlen B9 D1) k1) := (b3.cell (p := ⟨w.heap.size, 1, none⟩) (block_lt q1)).trans q1; replace q2 : u3.cell? ⟨w.heap.size + 1, 0, none⟩ = some (.slice c0 (dlen B9 N2) l0) := (b3.cell (p := ⟨w.heap.size + 1, 0, none⟩) (block_lt q2)).trans q2; replace q3 : u3.cell? ⟨w.heap.size + 1, 1, none⟩ = some (.slice c1 (dlen B9 D2) l1) := (b3.cell (p := ⟨w.heap.size + 1, 1, none⟩) (block_lt q3)).trans q3)))
  go_wp2
  go_ret
  exact ⟨rfl, below_wt (below_wt (below_wt bel.drew b1) b2) b3⟩

set_option maxRecDepth 100000 in
set_option maxHeartbeats 4000000 in
theorem cmp_impl (a0 a1 c0 c1 : Option Addr) (k0 k1 l0 l1 N1 D1 N2 D2 : Nat) (w : World) (h0 : LongI w (.slice a0 (dlen W32 N1) k0) N1) (h1 : LongI w (.slice a1 (dlen W32 D1) k1) D1) (h2 : LongI w (.slice c0 (dlen W32 N2) l0) N2) (h3 : LongI w (.slice c1 (dlen W32 D2) l1) D2)
    (s0 : dlen W32 N1 ≤ 300) (s1 : dlen W32 D1 ≤ 300) (s2 : dlen W32 N2 ≤ 300) (s3 : dlen W32 D2 ≤ 300) :
    Calls Try.prog 37 #[.agg #[.slice a0 (dlen W32 N1) k0, .slice a1 (dlen W32 D1) k1], .agg #[.slice c0 (dlen W32 N2) l0, .slice c1 (dlen W32 D2) l1]] w fun e w' => e = .returned (.int .i64 (cmpI (N1 * D2) (N2 * D1))) ∧ Below w.heap.size w w' := by
  have bel := below2 w (.cells #[.slice a0 (dlen W32 N1) k0, .slice a1 (dlen W32 D1) k1] 77) (.cells #[.slice c0 (dlen W32 N2) l0, .slice c1 (dlen W32 D2) l1] 77)
  have hB0 := (Blk.new w #[.slice a0 (dlen W32 N1) k0, .slice a1 (dlen W32 D1) k1] 77).alloc (.cells #[.slice c0 (dlen W32 N2) l0, .slice c1 (dlen W32 D2) l1] 77)
  have hB1 := Blk.new (w.alloc (.cells #[.slice a0 (dlen W32 N1) k0, .slice a1 (dlen W32 D1) k1] 77)) #[.slice c0 (dlen W32 N2) l0, .slice c1 (dlen W32 D2) l1] 77
  simp only [World.size_alloc] at hB1
  have g0 := Lib.hid (fun W b => (h0.keep bel).keep (w' := W) b)
  have g1 := Lib.hid (fun W b => (h1.keep bel).keep (w' := W) b)
  have g2 := Lib.hid (fun W b => (h2.keep bel).keep (w' := W) b)
  have g3 := Lib.hid (fun W b => (h3.keep bel).keep (w' := W) b)
  clear h0 h1 h2 h3
  go_enter Try.func37, Try.ntmps37
  go_wp2
  generalize hW : (w.alloc _).alloc _ = W at *
  clear hW
  have q0 : W.drew.cell? ⟨w.heap.size, 0, none⟩ = some (.slice a0 (dlen W32 N1) k0) := hB0.cell 0
  have q1 : W.drew.cell? ⟨w.heap.size, 1, none⟩ = some (.slice a1 (dlen W32 D1) k1) := hB0.cell 1
  have q2 : W.drew.cell? ⟨w.heap.size + 1, 0, none⟩ = some (.slice c0 (dlen W32 N2) l0) := hB1.cell 0
  have q3 : W.drew.cell? ⟨w.heap.size + 1, 1, none⟩ = some (.slice c1 (dlen W32 D2) l1) := hB1.cell 1
  clear hB0 hB1
  go_region_held3 (fun w' => w'.cell? ⟨w.heap.size, 0, none⟩ = some (.slice a0 (dlen W32 N1) k0) ∧ w'.cell? ⟨w.heap.size, 1, none⟩ = some (.slice a1 (dlen W32 D1) k1) ∧ w'.cell? ⟨w.heap.size + 1, 0, none⟩ = some (.slice c0 (dlen W32 N2) l0) ∧ w'.cell? ⟨w.heap.size + 1, 1, none⟩ = some (.slice c1 (dlen W32 D2) l1))
    (go_keep)
    (first
      | (go_at_call 60; first
          | ((with_reducible refine (times_any (.slice a0 (dlen W32 N1) k0) (.slice c1 (dlen W32 D2) l1) N1 D2 _ (g0.out _ (by (repeat (first | exact Below.refl _ _ | refine Below.drew ?_ | refine below_wt ?_ b1)))) (g3.out _ (by (repeat (first | exact Below.refl _ _ | refine Below.drew ?_ | refine below_wt ?_ b1)))) (by omega) (by omega)).mono ?_); rintro e u1 ⟨r1, rfl, pr1, b1⟩; replace q0 : u1.cell? ⟨w.heap.size, 0, none⟩ = some (.slice a0 (dlen W32 N1) k0) := (b1.cell (p := ⟨w.heap.size, 0, none⟩) (block_lt q0)).trans q0; replace q1 : u1.cell? ⟨w.heap.size, 1, none⟩ = some (.slice a1 (dlen W32 D1) k1) := (b1.cell (p := ⟨w.heap.size, 1, none⟩) (block_lt q1)).trans q1; replace q2 : u1.cell? ⟨w.heap.size + 1, 0, none⟩ = some (.slice c0 (dlen W32 N2) l0) := (b1.cell (p := ⟨w.heap.size + 1, 0, none⟩) (block_lt q2)).trans q2; replace q3 : u1.cell? ⟨w.heap.size + 1, 1, none⟩ = some (.slice c1 (dlen W32 D2) l1) := (b1.cell (p := ⟨w.heap.size + 1, 1, none⟩) (block_lt q3)).trans q3)
          | ((with_reducible refine (times_any (.slice c0 (dlen W32 N2) l0) (.slice a1 (dlen W32 D1) k1) N2 D1 _ (g2.out _ (by (repeat (first | exact Below.refl _ _ | refine Below.drew ?_ | refine below_wt ?_ b1)))) (g1.out _ (by (repeat (first | exact Below.refl _ _ | refine Below.drew ?_ | refine below_wt ?_ b1)))) (by omega) (by omega)).mono ?_); rintro e u2 ⟨r2, rfl, pr2, b2⟩; replace q0 : u2.cell? ⟨w.heap.size, 0, none⟩ = some (.slice a0 (dlen W32 N1) k0) := (b2.cell (p := ⟨w.heap.size, 0, none⟩) (block_lt q0)).trans q0; replace q1 : u2.cell? ⟨w.heap.size, 1, none⟩ = some (.slice a1 (dlen W32 D1) k1) := (b2.cell (p := ⟨w.heap.size, 1, none⟩) (block_lt q1)).trans q1; replace q2 : u2.cell? ⟨w.heap.size + 1, 0, none⟩ = some (.slice c0 (dlen W32 N2) l0) := (b2.cell (p := ⟨w.heap.size + 1, 0, none⟩) (block_lt q2)).trans q2; replace q3 : u2.cell? ⟨w.heap.size + 1, 1, none⟩ = some (.slice c1 (dlen W32 D2) l1) := (b2.cell (p := ⟨w.heap.size + 1, 1, none⟩) (block_lt q3)).trans q3))
      | (go_at_call 62; ((with_reducible refine (compare_bel _ _ (N1 * D2) (N2 * D1) _ (pr1.keep b2) pr2).mono ?_); rintro e u3 ⟨rfl, b3⟩; replace q0 : u3.cell? ⟨w.heap.size, 0, none⟩ = some (.slice a0 (dlen W32 N1) k0) := (b3.cell (p := ⟨w.heap.size, 0, none⟩) (block_lt q0)).trans q0; replace q1 : u3.cell? ⟨w.heap.size, 1, none⟩ = some (.slice a1 (dlen W32 D1) k1) := (b3.cell (p := ⟨w.heap.size, 1, none⟩) (block_lt q1)).trans q1; replace q2 : u3.cell? ⟨w.heap.size + 1, 0, none⟩ = some (.slice c0 (dlen W32 N2) l0) := (b3.cell (p := ⟨w.heap.size + 1, 0, none⟩) (block_lt q2)).trans q2; replace q3 : u3.cell? ⟨w.heap.size + 1, 1, none⟩ = some (.slice c1 (dlen W32 D2) l1) := (b3.cell (p := ⟨w.heap.size + 1, 1, none⟩) (block_lt q3)).trans q3)))
  go_wp2
  go_ret
  exact ⟨rfl, below_wt (below_wt (below_wt bel.drew b1) b2) b3⟩
/-- both answers of CompareFraction -/
def cmpV (n1 d1 n2 d2 : ByteArray) : Int := if (frOk n1 d1 && frOk n2 d2) = true then cmpI (numV n1 * numV d2) (numV n2 * numV d1) else 0
def cmpC (n1 d1 n2 d2 : ByteArray) : Int := if (frOk n1 d1 && frOk n2 d2) = true then 0 else 1
theorem frOk_num {n d : ByteArray} (h : frOk n d = true) : numB n = true ∧ numB d = true := by
  unfold frOk at h
  simp only [Bool.and_eq_true] at h
  exact ⟨h.1, h.2.1⟩

theorem parse_form (n d : ByteArray) (w : World) : Calls Try.prog 70 #[.agg #[.string n, .string d]] w fun e w' => ∃ (a0 a1 : Option Addr) (x0 x1 k0 k1 : Nat), e = .returned (.tuple #[.agg #[.slice a0 x0 k0, .slice a1 x1 k1], .bool (frOk n d)]) ∧ Below w.heap.size w w' ∧
    (frOk n d = true → x0 = dlen B9 (numV n) ∧ x1 = dlen B9 (numV d) ∧ LongS w' (.slice a0 x0 k0) (numV n) ∧ LongS w' (.slice a1 x1 k1) (numV d)) := by
  refine (l01Parse_any n d w).mono ?_
  rintro e w' ⟨h1, h2⟩
  rcases hok : frOk n d with _ | _
  · obtain ⟨a0, a1, x0, x1, k0, k1, rfl, hb⟩ := h2 hok
    exact ⟨a0, a1, x0, x1, k0, k1, rfl, hb, fun h => (by cases h)⟩
  · obtain ⟨nv, dv, rfl, ln, ld, hb⟩ := h1 hok
    obtain ⟨_, a0, k0, rfl⟩ := ln.len
    obtain ⟨_, a1, k1, rfl⟩ := ld.len
    exact ⟨a0, a1, _, _, k0, k1, rfl, hb, fun _ => ⟨rfl, rfl, ln, ld⟩⟩

theorem read_form (n d : ByteArray) (w : World) : Calls Try.prog 93 #[.agg #[.string n, .string d]] w fun e w' => ∃ (a0 a1 : Option Addr) (x0 x1 k0 k1 : Nat), e = .returned (.tuple #[.agg #[.slice a0 x0 k0, .slice a1 x1 k1], .bool (frOk n d)]) ∧ Below w.heap.size w w' ∧
    (frOk n d = true → x0 = dlen W32 (numV n) ∧ x1 = dlen W32 (numV d) ∧ LongI w' (.slice a0 x0 k0) (numV n) ∧ LongI w' (.slice a1 x1 k1) (numV d)) := by
  refine (readFraction_any n d w).mono ?_
  rintro e w' ⟨h1, h2⟩
  rcases hok : frOk n d with _ | _
  · obtain ⟨rfl, hb⟩ := h2 hok
    exact ⟨none, none, 0, 0, 0, 0, rfl, hb, fun h => (by cases h)⟩
  · obtain ⟨nv, dv, rfl, ln, ld, hb⟩ := h1 hok
    obtain ⟨_, a0, k0, rfl⟩ := ln.len
    obtain ⟨_, a1, k1, rfl⟩ := ld.len
    exact ⟨a0, a1, _, _, k0, k1, rfl, hb, fun _ => ⟨rfl, rfl, ln, ld⟩⟩

theorem LongI.setBox' {w : World} {v : Value} {n b : Nat} {t : TypeId} {a1 a2 : Option Addr} {l1 c1 l2 c2 : Nat} (h : LongI w v n) (hB : Blk w b #[.slice a1 l1 c1, .slice a2 l2 c2] t) (e1 e2 : Option Addr) (x1 y1 x2 y2 : Nat) :
    LongI ((w.setCell ⟨b, 0, none⟩ (.slice e1 x1 y1)).setCell ⟨b, 1, none⟩ (.slice e2 x2 y2)) v n := (h.setBox hB 0 _).setBox (hB.set 0 (.slice e1 x1 y1)) 1 _

end Go.Proofs.Ytiddhnnofpbopaa
