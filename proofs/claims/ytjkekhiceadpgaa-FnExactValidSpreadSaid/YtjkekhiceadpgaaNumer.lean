/- l01Numeral of the specification. Conditions: none. -/
import Derived.Test.YtjkekhiceadpgaaMem
import Derived.Lib.Hide
namespace Go.Proofs.Ytjkekhiceadpgaa
open Go.RowKit Go.Deep
set_option linter.unusedVariables false

def digB (x : Nat) : Bool := decide (48 ≤ x ∧ x ≤ 57)
def byteAt (s : ByteArray) (i : Nat) : Nat := ((s.data.toList.map UInt8.toNat).getD i 0)
def numB (s : ByteArray) : Bool := decide (1 ≤ s.size ∧ s.size ≤ 300 ∧ ¬ (byteAt s 0 = 48 ∧ 1 < s.size)) && (List.range s.size).all fun i => digB (byteAt s i)

theorem byteAt_get (s : ByteArray) (i : Nat) (h : i < s.size) : s[i].toNat = byteAt s i := by
  have h' : i < s.data.size := h
  unfold byteAt
  rw [List.getD, List.getElem?_map, List.getElem?_eq_getElem (by simpa using h')]
  simp
  rfl
theorem all_next {p : Nat → Bool} (k : Nat) : (List.range (k + 1)).all p = ((List.range k).all p && p k) := by
  rw [List.range_succ, List.all_append]; simp
theorem all_not {p : Nat → Bool} {k n : Nat} (hk : k < n) (h : p k = false) : (List.range n).all p = false := by
  rw [Bool.eq_false_iff]; intro hc
  rw [List.all_eq_true] at hc
  have := hc k (by simpa using hk)
  rw [h] at this; cases this

set_option maxRecDepth 100000 in
set_option maxHeartbeats 4000000 in
theorem l01Numeral_any (s : ByteArray) (w : World) : Calls Try.prog 120 #[.string s] w fun e w' => e = .returned (.bool (numB s)) ∧ w' = w := by
  obtain ⟨L, hL⟩ : ∃ L, s.size = L := ⟨_, rfl⟩
  by_cases h1 : 1 ≤ L ∧ L ≤ 300 ∧ ¬ (byteAt s 0 = 48 ∧ 1 < L)
  · obtain ⟨l1, l2, l3⟩ := h1
    have hfin := Lib.hid (show numB s = (List.range L).all fun i => digB (byteAt s i) by simp [numB, hL, l1, l2]; intro; omega)
    have hget := Lib.hid (fun i (h : i < s.size) => byteAt_get s i h)
    have z0 := byteAt_get s 0 (by omega)
    have n1 : ¬ (L : Int) < 1 := by omega
    have n2 : ¬ (300 : Int) < (L : Int) := by omega
    have n3 : (0 : Int) < (L : Int) := by omega
    generalize hx0 : byteAt s 0 = x0 at z0 l3
    have hb : (((x0 : Int) == 48) = false) ∨ (((x0 : Int) == 48) = true ∧ ¬ (1 : Int) < (L : Int)) := by
      by_cases e : x0 = 48
      · exact Or.inr ⟨by simp [e], by omega⟩
      · exact Or.inl (by simp; omega)
    have hL' := Lib.hid hL
    clear l3 hx0
    rcases hb with hb | ⟨hb, hb2⟩
    all_goals
      go_enter Try.func120, Try.ntmps120
      go_wp2
      go_loopw [3] (fun i wr => ∃ k : Nat, k ≤ L ∧ i = .int .i64 (k : Int) ∧ Hid (wr = w) ∧ Hid ((List.range k).all (fun i => digB (byteAt s i)) = true)) (fun i _ => L - (intOf i).toNat)
      case atStart => exact ⟨0, Nat.zero_le _, rfl, Lib.hid rfl, Lib.hid rfl⟩
      case round =>
        obtain ⟨k, hk, rfl, hww, hall⟩ := hrel
        by_cases hlt : k < L
        · have hkI : (k : Int) < (L : Int) := by omega
          have zk := hget.out k (by have := hL'.out; omega)
          have hdk := Lib.hid (show digB (byteAt s k) = decide (48 ≤ byteAt s k ∧ byteAt s k ≤ 57) from rfl)
          generalize hx : byteAt s k = x at zk hdk
          have hx' := Lib.hid hx
          by_cases hd : 48 ≤ x ∧ x ≤ 57
          · obtain ⟨d1, d2⟩ := hd
            have d3 : ¬ (x : Int) < 48 := by omega
            have d4 : ¬ (57 : Int) < (x : Int) := by omega
            have hn := Lib.hid (show (List.range (k + 1)).all (fun i => digB (byteAt s i)) = true by rw [all_next, hall.out, hx'.out, hdk.out]; simp [d1, d2])
            clear hx d1 d2
            go_wp2
            go_roundw
            case rel => exact ⟨k + 1, by omega, by go_num, hww, hn⟩
            case measure => simp [intOf]; omega
          · have hn := Lib.hid (show numB s = false by rw [hfin.out]; exact all_not hlt (by rw [hx'.out, hdk.out]; simpa using hd))
            clear hx
            by_cases hd1 : x < 48
            · have d3 : (x : Int) < 48 := by omega
              clear hd hd1
              go_wp2
              go_ret
              exact ⟨by rw [hn.out]; rfl, hww.out⟩
            · have d3 : ¬ (x : Int) < 48 := by omega
              have d4 : (57 : Int) < (x : Int) := by omega
              clear hd hd1
              go_wp2
              go_ret
              exact ⟨by rw [hn.out]; rfl, hww.out⟩
        · obtain rfl : k = L := by omega
          have hn := Lib.hid (show numB s = true by rw [hfin.out]; exact hall.out)
          have hlt' : ¬ (k : Int) < (k : Int) := by omega
          clear hlt
          go_wp2
          go_ret
          exact ⟨by rw [hn.out]; rfl, hww.out⟩
  · have hn := Lib.hid (show numB s = false by simp only [numB, hL, decide_eq_false h1, Bool.false_and])
    by_cases l1 : L < 1
    · have n1 : (L : Int) < 1 := by omega
      clear h1 l1
      go_enter Try.func120, Try.ntmps120
      go_wp2
      go_ret
      exact ⟨by rw [hn.out]; rfl, rfl⟩
    · have n1 : ¬ (L : Int) < 1 := by omega
      by_cases l2 : 300 < L
      · have n2 : (300 : Int) < (L : Int) := by omega
        clear h1 l1 l2
        go_enter Try.func120, Try.ntmps120
        go_wp2
        go_ret
        exact ⟨by rw [hn.out]; rfl, rfl⟩
      · have n2 : ¬ (300 : Int) < (L : Int) := by omega
        have h3 : byteAt s 0 = 48 ∧ 1 < L := by
          rcases Classical.em (byteAt s 0 = 48 ∧ 1 < L) with h | h
          · exact h
          · exact absurd ⟨by omega, by omega, h⟩ h1
        have z0 := byteAt_get s 0 (by omega)
        obtain ⟨h5, h4⟩ := h3
        have zz : 0 < s.size := by omega
        have z1 : s[0].toNat = 48 := z0.trans h5
        clear z0 h5
        have n3 : (0 : Int) < (L : Int) := by omega
        have n4 : (1 : Int) < (L : Int) := by omega
        clear h4
        clear h1 l1 l2
        go_enter Try.func120, Try.ntmps120
        go_wp2
        go_ret
        exact ⟨by rw [hn.out]; rfl, rfl⟩
end Go.Proofs.Ytjkekhiceadpgaa
