/- The specification's long numbers: digits in base 10^9, the lowest first, in int64s. Conditions: none. -/
import Derived.Test.YtjkekhiceadpgaaMem
import Derived.Test.YtjkekhiceadpgaaNum
namespace Go.Proofs.Ytjkekhiceadpgaa
open Go.RowKit Go.Deep
set_option linter.unusedVariables false

abbrev B9 : Nat := 1000000000
theorem b9 : 2 ≤ B9 := by decide
def longS (n : Nat) : List Int := (dgs B9 n (dlen B9 n)).map Int.ofNat
def LongS (w : World) (v : Value) (n : Nat) : Prop := Ints w v (longS n)
theorem longS_length (n : Nat) : (longS n).length = dlen B9 n := by simp [longS, dgs_length]
theorem dgs_getD (B n L i : Nat) (h : i < L) : (dgs B n L).getD i 0 = dgt B n i := by simp [dgs, List.getD, h]
theorem longS_getD (n i : Nat) (h : i < dlen B9 n) : (longS n).getD i 0 = (dgt B9 n i : Int) := by
  simp [longS, List.getD, dgs, h]
theorem LongS.keep {w w' : World} {v : Value} {n : Nat} (h : LongS w v n) (hb : Below w.heap.size w w') : LongS w' v n := Ints.keep h hb
theorem LongS.len {w : World} {v : Value} {n : Nat} (h : LongS w v n) : dlen B9 n ≤ maxLen ∧ ∃ a cap, v = .slice a (dlen B9 n) cap := by
  have := Ints.len h
  rwa [longS_length] at this
theorem LongS.at {w : World} {v : Value} {n : Nat} (h : LongS w v n) (hne : 0 < dlen B9 n) :
    ∃ b off cap, v = .slice (some ⟨b, off, none⟩) (dlen B9 n) cap ∧ b < w.heap.size ∧ ∀ i, i < dlen B9 n → w.cell? ⟨b, off + i, none⟩ = some (.int .i64 (dgt B9 n i : Int)) := by
  obtain ⟨b, off, cap, hv, hb, hc⟩ := Ints.at h (by rw [longS_length]; exact hne)
  rw [longS_length] at hv hc
  exact ⟨b, off, cap, hv, hb, fun i hi => by rw [hc i hi, longS_getD n i hi]⟩

def cmpI (m n : Nat) : Int := if m < n then -1 else if n < m then 1 else 0
theorem cmpI_lt {m n : Nat} (h : m < n) : cmpI m n = -1 := by simp [cmpI, h]
theorem cmpI_gt {m n : Nat} (h : n < m) : cmpI m n = 1 := by unfold cmpI; rw [if_neg (by omega), if_pos h]
theorem cmpI_eq {m n : Nat} (h : m = n) : cmpI m n = 0 := by subst h; simp [cmpI]

set_option maxHeartbeats 2000000 in
theorem l01Cmp_any (a b : Value) (m n : Nat) (w : World) (ha : LongS w a m) (hb : LongS w b n) :
    Calls Try.prog 53 #[a, b] w fun e w' => e = .returned (.int .i64 (cmpI m n)) ∧ ∃ k, w' = w.drewN k := by
  obtain ⟨hm1, a1, cap1, rfl⟩ := ha.len
  obtain ⟨hm2, a2, cap2, rfl⟩ := hb.len
  unfold maxLen at hm1 hm2
  by_cases hl : dlen B9 m = dlen B9 n
  · have hl' := Lib.hid hl
    have hA := ha.at
    have hBt := hb.at
    have hm9 := lt_dlen b9 m
    have hn9 := lt_dlen b9 n
    have h0 : Hid (m / B9 ^ dlen B9 m = n / B9 ^ dlen B9 m) := Lib.hid (by rw [Nat.div_eq_of_lt hm9, Nat.div_eq_of_lt (by rw [hl]; exact hn9)])
    rw [← hl] at hBt ⊢
    clear hl hm9 hn9 ha hb
    generalize dlen B9 m = L at hm1 hA hBt h0 hl' ⊢
    go_enter Try.func53, Try.ntmps53
    go_wp2
    go_loopw [5] (fun i wr => ∃ k j : Nat, k ≤ L ∧ i = .int .i64 ((k : Int) - 1) ∧ wr = w.drewN j ∧ Hid (m / B9 ^ k = n / B9 ^ k)) (fun i _ => (intOf i + 1).toNat)
    case atStart => exact ⟨L, 0, Nat.le_refl _, by go_num, rfl, h0⟩
    case round =>
      obtain ⟨k, j, hk, rfl, rfl, ht⟩ := hrel
      rcases Nat.eq_zero_or_pos k with rfl | hpos
      · have hq := Lib.hid (cmpI_eq (show m = n by have := ht.out; simpa using this))
        go_wp2
        go_ret
        exact ⟨ret_int hq.out.symm, _, rfl⟩
      · obtain ⟨k, rfl⟩ : ∃ k', k = k' + 1 := ⟨k - 1, by omega⟩
        have hi : (((k + 1 : Nat) : Int) - 1) = (k : Int) := by omega
        rw [hi]
        obtain ⟨b1, o1, c1, hv1, _, hc1⟩ := hA (by omega)
        obtain ⟨b2, o2, c2, hv2, _, hc2⟩ := hBt (by omega)
        simp only [Value.slice.injEq] at hv1 hv2
        obtain ⟨rfl, _, rfl⟩ := hv1
        obtain ⟨rfl, _, rfl⟩ := hv2
        have h1 := hc1 k (by omega)
        have h2 := hc2 k (by omega)
        have hs := cmp_step b9 ht.out
        have hs' := cmp_step b9 ht.out.symm
        clear hc1 hc2 hi
        rcases Nat.lt_trichotomy (dgt B9 m k) (dgt B9 n k) with hd | hd | hd
        · have hq := Lib.hid (cmpI_lt (hs.2 hd))
          clear hs hs'
          generalize dgt B9 m k = x at h1 hd
          generalize dgt B9 n k = y at h2 hd
          go_wp2
          go_quiet (fail)
          go_wp2
          go_quiet (fail)
          go_wp2
          go_ret
          exact ⟨ret_int hq.out.symm, _, by rw [World.drewN_drewN, World.drewN_drewN]⟩
        · have hq := Lib.hid (hs.1 hd)
          clear hs hs'
          rw [← hd] at h2
          generalize dgt B9 m k = x at h1 h2
          go_wp2
          go_quiet (fail)
          go_wp2
          go_roundw
          case rel => exact ⟨k, _, by omega, by go_num, rfl, hq⟩
          case measure => simp [intOf]
        · have hq := Lib.hid (cmpI_gt (hs'.2 hd))
          clear hs hs'
          generalize dgt B9 m k = x at h1 hd
          generalize dgt B9 n k = y at h2 hd
          go_wp2
          go_quiet (fail)
          go_wp2
          go_quiet (fail)
          go_wp2
          go_ret
          exact ⟨ret_int hq.out.symm, _, by rw [World.drewN_drewN, World.drewN_drewN]⟩
  · go_enter Try.func53, Try.ntmps53
    rcases Nat.lt_or_gt_of_ne hl with hlt | hlt
    · have hq := Lib.hid (cmpI_lt (lt_of_dlen_lt b9 hlt))
      go_wp2
      go_ret
      exact ⟨ret_int hq.out.symm, 0, rfl⟩
    · have hq := Lib.hid (cmpI_gt (lt_of_dlen_lt b9 hlt))
      go_wp2
      go_ret
      exact ⟨ret_int hq.out.symm, 0, rfl⟩

abbrev nats (l : List Nat) : List Int := l.map Int.ofNat
theorem nats_getD (l : List Nat) (i : Nat) (h : i < l.length) : (nats l).getD i 0 = (l.getD i 0 : Int) := by simp [List.getD, h]
theorem LongS.ofCut {w : World} {a : Option Addr} {cap : Nat} {l : List Nat} (h : Ints w (.slice a l.length cap) (nats l)) (hd : ∀ x ∈ l, x < B9) (k : Nat) (hk : k ≤ l.length)
    (hv : val B9 (l.take k) = val B9 l) (ht : k = 0 ∨ l.getD (k - 1) 0 ≠ 0) : LongS w (.slice a k cap) (val B9 l) := by
  obtain ⟨h1, h2⟩ := cut_done b9 l hd k hk hv ht
  have := Ints.pre h k (by simpa using hk)
  rw [← List.map_take, h2] at this
  unfold LongS longS
  rw [h1]; exact this

set_option maxHeartbeats 2000000 in
theorem l01Cut_any (a : Value) (l : List Nat) (w : World) (ha : Ints w a (nats l)) (hd : ∀ x ∈ l, x < B9) :
    Calls Try.prog 98 #[a] w fun e w' => (∃ v, e = .returned v ∧ LongS w v (val B9 l)) ∧ ∃ k, w' = w.drewN k := by
  have hm1 := ha.len.1
  obtain ⟨a1, cap1, hva, hk1, hk2⟩ := ha.caps
  rw [show (nats l).length = l.length by simp] at hm1 hva hk1
  subst hva
  unfold maxLen at hm1 hk2
  have hC := Lib.hid (fun k => LongS.ofCut ha hd k)
  have hA : 0 < l.length → _ := fun h => ha.at (show 0 < (nats l).length by simpa using h)
  rw [show (nats l).length = l.length by simp] at hA
  go_enter Try.func98, Try.ntmps98
  go_wp2
  go_loopw [3] (fun i wr => ∃ k j : Nat, k ≤ l.length ∧ i = .int .i64 k ∧ wr = w.drewN j ∧ Hid (val B9 (l.take k) = val B9 l)) (fun i _ => (intOf i).toNat)
  case atStart => exact ⟨l.length, 0, Nat.le_refl _, rfl, rfl, by rw [List.take_length]; exact rfl⟩
  case round =>
    obtain ⟨k, j, hk, rfl, rfl, ht⟩ := hrel
    rcases Nat.eq_zero_or_pos k with rfl | hpos
    · have hq := hC.out 0 hk ht.out (Or.inl rfl)
      go_wp2
      go_ret
      exact ⟨⟨_, rfl, hq⟩, _, rfl⟩
    · obtain ⟨k, rfl⟩ : ∃ k', k = k' + 1 := ⟨k - 1, by omega⟩
      obtain ⟨b1, o1, c1, hv1, _, hc1⟩ := hA (by omega)
      simp only [Value.slice.injEq] at hv1
      obtain ⟨rfl, _, rfl⟩ := hv1
      have h1 := hc1 k (by omega)
      rw [nats_getD l k (by omega)] at h1
      have hs := take_step (B := B9) l k (by omega)
      by_cases hz : l.getD k 0 = 0
      · have hq : Hid (val B9 (l.take k) = val B9 l) := Lib.hid (by rw [hz] at hs; have := ht.out; omega)
        rw [hz] at h1
        clear hz hs hc1
        go_wp2
        go_roundw
        case rel => exact ⟨k, _, by omega, by go_num, rfl, hq⟩
        case measure => simp [intOf]
      · have hq := hC.out (k + 1) hk ht.out (Or.inr (by simpa using hz))
        have hz' : (l.getD k 0 : Int) ≠ 0 := by omega
        generalize (l.getD k 0 : Int) = x at h1 hz'
        clear hz hs hc1
        have hcap : k + 1 ≤ cap1 := by omega
        go_wp2
        go_ret
        exact ⟨⟨_, rfl, hq⟩, _, rfl⟩
end Go.Proofs.Ytjkekhiceadpgaa
