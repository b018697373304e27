/- The laws' comparisons of numbers, rows and chains: they answer whether both read alike. Conditions: none. -/
import Derived.Test.YtgaadcinhaphpaaDoorMem
namespace Go.Proofs.YtgaadcinhaphpaaDoor
open Go.RowKit Go.Deep

theorem take_eq_succ {α : Type} {xs ys : List α} {k : Nat} {d : α} (hx : k < xs.length) (hy : k < ys.length) (h : xs.take k = ys.take k) (e : xs.getD k d = ys.getD k d) : xs.take (k + 1) = ys.take (k + 1) := by
  rw [List.take_succ_eq_append_getElem hx, List.take_succ_eq_append_getElem hy, h]
  simp [List.getD, hx, hy] at e
  rw [e]
theorem ne_of_getD {α : Type} {xs ys : List α} {k : Nat} {d : α} (e : xs.getD k d ≠ ys.getD k d) : xs ≠ ys := fun h => e (by rw [h])

set_option maxHeartbeats 2000000 in
theorem eqInt64S_any (a b : Value) (xs ys : List Int) (w : World) (ha : Ints w a xs) (hb : Ints w b ys) :
    Calls Tryd.prog 64 #[a, b] w fun e w' => e = .returned (.bool (decide (xs = ys))) ∧ ∃ n, w' = w.drewN n := by
  obtain ⟨hm1, a1, cap1, rfl⟩ := ha.len
  obtain ⟨hm2, a2, cap2, rfl⟩ := hb.len
  unfold maxLen at hm1 hm2
  by_cases hl : xs.length = ys.length
  · have hl' := Lib.hid hl
    rw [← hl]
    rw [← hl] at hb
    clear hl
    go_enter Tryd.func64, Tryd.ntmps64
    go_wp2
    go_loopw [5] (fun i wr => ∃ k m : Nat, k ≤ xs.length ∧ i = .int .i64 k ∧ wr = w.drewN m ∧ Hid (xs.take k = ys.take k)) (fun i _ => xs.length - (intOf i).toNat)
    case atStart => exact ⟨0, 0, Nat.zero_le _, rfl, rfl, show _ = _ by simp⟩
    case round =>
      obtain ⟨k, m, hk, rfl, rfl, ht⟩ := hrel
      by_cases hlt : k < xs.length
      · have hlt2 : k < ys.length := by rw [← hl'.out]; exact hlt
        obtain ⟨b1, o1, c1, hv1, _, hc1⟩ := ha.at (by omega)
        obtain ⟨b2, o2, c2, hv2, _, hc2⟩ := hb.at (by omega)
        simp only [Value.slice.injEq] at hv1 hv2
        obtain ⟨rfl, _, rfl⟩ := hv1
        obtain ⟨rfl, _, rfl⟩ := hv2
        have h1 := hc1 k hlt
        have h2 := hc2 k hlt2
        clear hc1 hc2
        by_cases hq : xs.getD k 0 = ys.getD k 0
        · have hn := Lib.hid (take_eq_succ hlt hlt2 ht.out hq)
          rw [← hq] at h2
          clear hq
          generalize xs.getD k 0 = x at h1 h2
          go_wp2
          go_quiet (fail)
          go_wp2
          go_roundw
          case rel => exact ⟨k + 1, _, by omega, by go_num, rfl, hn⟩
          case measure => simp [intOf]; omega
        · have hd := Lib.hid (decide_eq_false (ne_of_getD hq))
          generalize xs.getD k 0 = x at h1 hq
          generalize ys.getD k 0 = y at h2 hq
          have hq1 : (x != y) = true := by simpa using hq
          clear hq
          go_wp2
          go_quiet (fail)
          go_wp2
          go_ret
          exact ⟨ret_bool hd.out.symm, _, World.drewN_drewN ..⟩
      · obtain rfl : k = xs.length := by omega
        have he : xs = ys := by
          have := ht.out
          rw [List.take_length, hl'.out, List.take_length] at this
          exact this
        have hd := Lib.hid (decide_eq_true he)
        clear he
        go_wp2
        go_ret
        exact ⟨ret_bool hd.out.symm, _, rfl⟩
  · have hne : xs ≠ ys := fun h => hl (by rw [h])
    have hd := Lib.hid (decide_eq_false hne)
    clear hne
    go_enter Tryd.func64, Tryd.ntmps64
    go_wp2
    go_ret
    exact ⟨ret_bool hd.out.symm, 0, rfl⟩

set_option maxHeartbeats 4000000 in
theorem eqInt64SS_any (a b : Value) (xs ys : List (List Int)) (w : World) (ha : Rows2 w a xs) (hb : Rows2 w b ys) :
    Calls Tryd.prog 38 #[a, b] w fun e w' => e = .returned (.bool (decide (xs = ys))) ∧ ∃ n, w' = w.drewN n := by
  obtain ⟨hm1, a1, cap1, rfl⟩ := ha.len
  obtain ⟨hm2, a2, cap2, rfl⟩ := hb.len
  unfold maxLen at hm1 hm2
  by_cases hl : xs.length = ys.length
  · have hl' := Lib.hid hl
    rw [← hl]
    rw [← hl] at hb
    clear hl
    go_enter Tryd.func38, Tryd.ntmps38
    go_wp2
    go_loopw [5] (fun i wr => ∃ k : Nat, k ≤ xs.length ∧ i = .int .i64 k ∧ Hid (∃ m, wr = w.drewN m) ∧ Hid (xs.take k = ys.take k)) (fun i _ => xs.length - (intOf i).toNat)
    case atStart => exact ⟨0, Nat.zero_le _, rfl, ⟨0, rfl⟩, show _ = _ by simp⟩
    case round =>
      obtain ⟨k, hk, rfl, hw, ht⟩ := hrel
      by_cases hlt : k < xs.length
      · have hlt2 : k < ys.length := by rw [← hl'.out]; exact hlt
        obtain ⟨b1, o1, c1, rv1, hv1, _, hc1⟩ := ha.at (by omega)
        obtain ⟨b2, o2, c2, rv2, hv2, _, hc2⟩ := hb.at (by omega)
        simp only [Value.slice.injEq] at hv1 hv2
        obtain ⟨rfl, _, rfl⟩ := hv1
        obtain ⟨rfl, _, rfl⟩ := hv2
        obtain ⟨h1, r1⟩ := hc1 k hlt
        obtain ⟨h2, r2⟩ := hc2 k hlt2
        clear hc1 hc2
        generalize rv1 k = x1 at h1 r1
        generalize rv2 k = x2 at h2 r2
        replace h1 : wr.cell? ⟨b1, o1 + k, none⟩ = some x1 := by obtain ⟨m, rfl⟩ := hw.out; exact h1
        replace h2 : wr.cell? ⟨b2, o2 + k, none⟩ = some x2 := by obtain ⟨m, rfl⟩ := hw.out; exact h2
        replace r1 : Ints wr x1 (xs.getD k []) := by obtain ⟨m, rfl⟩ := hw.out; exact r1.keep (below_drewN (Below.refl _ _) m)
        replace r2 : Ints wr x2 (ys.getD k []) := by obtain ⟨m, rfl⟩ := hw.out; exact r2.keep (below_drewN (Below.refl _ _) m)
        by_cases hq : xs.getD k [] = ys.getD k []
        · have hn := Lib.hid (take_eq_succ hlt hlt2 ht.out hq)
          rw [← hq] at r2
          clear hq
          generalize xs.getD k [] = row at r1 r2
          have hcall : ∀ n, Calls Tryd.prog 64 #[x1, x2] (wr.drewN n) fun e w' => e = .returned (.bool true) ∧ ∃ m, w' = (wr.drewN n).drewN m := fun n => by
            have := eqInt64S_any x1 x2 row row (wr.drewN n) (r1.keep (below_drewN (Below.refl _ _) n)) (r2.keep (below_drewN (Below.refl _ _) n))
            simpa using this
          go_wp2
          go_quiet ((go_at_call 64; exact Calls.quiet_of (hcall _)))
          go_wp2
          go_roundw
          case rel => exact ⟨k + 1, by omega, by go_num, by obtain ⟨m, rfl⟩ := hw.out; exact ⟨_, World.drewN_drewN ..⟩, hn⟩
          case measure => simp [intOf]; omega
        · have hd := Lib.hid (decide_eq_false (ne_of_getD hq))
          generalize xs.getD k [] = row1 at r1 hq
          generalize ys.getD k [] = row2 at r2 hq
          have hcall : ∀ n, Calls Tryd.prog 64 #[x1, x2] (wr.drewN n) fun e w' => e = .returned (.bool false) ∧ ∃ m, w' = (wr.drewN n).drewN m := fun n => by
            have := eqInt64S_any x1 x2 row1 row2 (wr.drewN n) (r1.keep (below_drewN (Below.refl _ _) n)) (r2.keep (below_drewN (Below.refl _ _) n))
            rw [decide_eq_false hq] at this
            exact this
          clear hq
          go_wp2
          go_quiet ((go_at_call 64; exact Calls.quiet_of (hcall _)))
          go_wp2
          go_ret
          exact ⟨ret_bool hd.out.symm, by obtain ⟨m, rfl⟩ := hw.out; exact ⟨_, World.drewN_drewN ..⟩⟩
      · obtain rfl : k = xs.length := by omega
        have he : xs = ys := by
          have := ht.out
          rw [List.take_length, hl'.out, List.take_length] at this
          exact this
        have hd := Lib.hid (decide_eq_true he)
        clear he
        go_wp2
        go_ret
        exact ⟨ret_bool hd.out.symm, hw.out⟩
  · have hne : xs ≠ ys := fun h => hl (by rw [h])
    have hd := Lib.hid (decide_eq_false hne)
    clear hne
    go_enter Tryd.func38, Tryd.ntmps38
    go_wp2
    go_ret
    exact ⟨ret_bool hd.out.symm, 0, rfl⟩

def chEq (c d : Ch) : Bool := decide (c.n = d.n) && (decide (c.t = d.t) && decide (c.w = d.w))
theorem chEq_self (c : Ch) : chEq c c = true := by simp [chEq]
theorem eq_of_chEq {c d : Ch} (h : chEq c d = true) : c = d := by
  cases c; cases d; simp [chEq] at h; simp [h]

end Go.Proofs.YtgaadcinhaphpaaDoor
