/- The laws' size checks over numbers, rows and chains: what they return. Conditions: what is left lies between 0 and 2^20. -/
import Derived.Test.YtgaadcinhaphpaaDoorMem
namespace Go.Proofs.YtgaadcinhaphpaaDoor
open Go.RowKit Go.Deep

/-- what is left when so many are taken: -1 where they are more -/
def szLeft (left : Int) (n : Nat) : Int := if left < n then -1 else left - n
theorem szLeft_no {left : Int} {n : Nat} (h : left < n) : szLeft left n = -1 := by simp [szLeft, h]
theorem szLeft_yes {left : Int} {n : Nat} (h : (n : Int) ≤ left) : szLeft left n = left - n := by simp [szLeft]; omega

set_option maxHeartbeats 1000000 in
theorem szInt64S_any (v : Value) (xs : List Int) (left : Int) (w : World) (hv : Ints w v xs) (h0 : 0 ≤ left) (h1 : left ≤ 1048576) :
    Calls Tryd.prog 57 #[v, .int .i64 left] w fun e w' => e = .returned (.int .i64 (szLeft left xs.length)) ∧ w = w' := by
  obtain ⟨hm, a, cap, rfl⟩ := hv.len
  unfold maxLen at hm
  by_cases h : left < xs.length
  · have hs := Lib.hid (szLeft_no h)
    have h' : left - (xs.length : Int) < 0 := by omega
    go_enter Tryd.func57, Tryd.ntmps57
    go_wp2
    go_ret
    exact ⟨ret_int hs.out.symm, rfl⟩
  · have hs := Lib.hid (szLeft_yes (show (xs.length : Int) ≤ left by omega))
    have h' : 0 ≤ left - (xs.length : Int) := by omega
    go_enter Tryd.func57, Tryd.ntmps57
    go_wp2
    go_ret
    exact ⟨ret_int hs.out.symm, rfl⟩

set_option maxHeartbeats 2000000 in
theorem szInt64SS_any (v : Value) (xss : List (List Int)) (left : Int) (w : World) (hv : Rows2 w v xss) (h0 : 0 ≤ left) (h1 : left ≤ 1048576) :
    Calls Tryd.prog 32 #[v, .int .i64 left] w fun e w' => e = .returned (.int .i64 (szLeft left (xss.length + total xss))) ∧ w = w' := by
  obtain ⟨hm, a, cap, rfl⟩ := hv.len
  unfold maxLen at hm
  by_cases h : left < xss.length
  · have hs := Lib.hid (szLeft_no (show left < ((xss.length + total xss : Nat) : Int) by omega))
    have h' : left - (xss.length : Int) < 0 := by omega
    go_enter Tryd.func32, Tryd.ntmps32
    go_wp2
    go_ret
    exact ⟨ret_int hs.out.symm, rfl⟩
  · have h' : 0 ≤ left - (xss.length : Int) := by omega
    go_enter Tryd.func32, Tryd.ntmps32
    go_wp2
    go_loop [1, 5] (fun l i => ∃ (k : Nat) (L : Int), k ≤ xss.length ∧ Hid (L = left - (xss.length + total (xss.take k) : Nat)) ∧ 0 ≤ L ∧ L ≤ 1048576 ∧ i = .int .i64 k ∧ l = .int .i64 L) (fun _ i => xss.length - (intOf i).toNat)
    case atStart => exact ⟨0, _, Nat.zero_le _, show _ = _ by simp [total], h', by omega, rfl, rfl⟩
    case round =>
      obtain ⟨k, L, hk, hL, hL0, hL1, rfl, rfl⟩ := hrel
      by_cases hlt : k < xss.length
      · obtain ⟨b, off, cap', rv, hvv, hb, hc⟩ := hv.at (by omega)
        cases hvv
        obtain ⟨hcell, hrow⟩ := hc k hlt
        clear hc
        have hts := Lib.hid (total_take_succ xss k hlt)
        have htl := total_take_le xss (k + 1)
        generalize xss.getD k [] = row at hrow hts
        generalize rv k = rk at hrow hcell
        by_cases hq : L < row.length
        · have hs := Lib.hid (szLeft_no hq)
          have hneg : szLeft L row.length < 0 := by rw [hs.out]; decide
          have hfin := Lib.hid (szLeft_no (left := left) (n := xss.length + total xss) (by have := hts.out; have := hL.out; omega))
          go_wp2_with (go_at_call 57; refine (szInt64S_any _ row _ _ hrow (by omega) (by omega)).mono ?_; rintro e w' ⟨rfl, rfl⟩)
          go_ret
          exact ⟨ret_int hfin.out.symm, rfl⟩
        · have hs := Lib.hid (szLeft_yes (show ((row.length : Nat) : Int) ≤ L by omega))
          have hneg : 0 ≤ szLeft L row.length := by rw [hs.out]; omega
          go_wp2_with (go_at_call 57; refine (szInt64S_any _ row _ _ hrow (by omega) (by omega)).mono ?_; rintro e w' ⟨rfl, rfl⟩)
          go_round
          case rel => exact ⟨k + 1, _, by omega, show _ = _ by rw [hs.out]; have := hts.out; have := hL.out; omega, hneg, by rw [hs.out]; omega, by go_num, rfl⟩
          case measure => simp [intOf]; omega
      · obtain rfl : k = xss.length := by omega
        have hfin := Lib.hid (szLeft_yes (left := left) (n := xss.length + total xss) (by have := hL.out; rw [total_take_all] at this; omega))
        go_wp2
        go_ret
        exact ⟨ret_int (by rw [hfin.out, hL.out, total_take_all]), rfl⟩

end Go.Proofs.YtgaadcinhaphpaaDoor
