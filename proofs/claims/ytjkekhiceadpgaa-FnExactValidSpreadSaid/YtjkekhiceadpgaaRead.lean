/- l01Read of the specification: the number that a numeral tells. Conditions: the text is a numeral (at most 300 digits). -/
import Derived.Deep.RegionHeld3
import Derived.Test.YtjkekhiceadpgaaNumer
import Derived.Test.YtjkekhiceadpgaaLong11
import Derived.IntWalk
namespace Go.Proofs.Ytjkekhiceadpgaa
open Go.RowKit Go.Deep
set_option linter.unusedVariables false

/-- the number of the first k digits -/
def decV (s : ByteArray) : Nat → Nat
  | 0 => 0
  | k + 1 => decV s k * 10 + (byteAt s k - 48)
theorem numB_digit {s : ByteArray} (h : numB s = true) {k : Nat} (hk : k < s.size) : 48 ≤ byteAt s k ∧ byteAt s k ≤ 57 := by
  unfold numB at h
  rw [Bool.and_eq_true] at h
  have h2 := List.all_eq_true.1 h.2 k (by simpa using hk)
  simpa [digB] using h2
theorem numB_size {s : ByteArray} (h : numB s = true) : 1 ≤ s.size ∧ s.size ≤ 300 := by
  unfold numB at h
  rw [Bool.and_eq_true] at h
  have := of_decide_eq_true h.1
  exact ⟨this.1, this.2.1⟩
theorem decV_lt {s : ByteArray} (h : numB s = true) : ∀ k, k ≤ s.size → decV s k < 10 ^ k
  | 0, _ => by simp [decV]
  | k + 1, hk => by
    have h1 := decV_lt h k (by omega)
    have h2 := numB_digit h (show k < s.size by omega)
    rw [decV, Nat.pow_succ]; omega
theorem decV_len9 {s : ByteArray} (h : numB s = true) {k : Nat} (hk : k ≤ s.size) : dlen B9 (decV s k) ≤ k :=
  dlen_le b9 (Nat.lt_of_lt_of_le (decV_lt h k hk) (Nat.pow_le_pow_left (by decide) k))

theorem one_ints (W : World) (x : Nat) : Ints (W.alloc (.cells #[.int .i64 (x : Int)] 2)) (.slice (some ⟨W.heap.size, 0, none⟩) 1 1) (nats [x]) := by
  have hB := Blk.new W #[.int .i64 (x : Int)] 2
  refine ⟨by unfold maxLen; simp, _, 1, rfl, ⟨by simp, by unfold maxLen; omega⟩, fun i hi => ⟨_, 0, rfl, ?_⟩⟩
  simp at hi
  subst hi
  exact hB.cell 0
theorem ten_long (W : World) : LongS (W.alloc (.cells #[.int .i64 10] 2)) (.slice (some ⟨W.heap.size, 0, none⟩) 1 1) 10 := one_ints W 10
theorem ten_long' (W : World) (o : Obj) : LongS ((W.alloc o).alloc (.cells #[.int .i64 10] 2)) (.slice (some ⟨W.heap.size + 1, 0, none⟩) 1 1) 10 := by
  have := ten_long (W.alloc o)
  simpa only [World.size_alloc] using this
theorem one_ints' (W : World) (x : Nat) (o : Obj) : Ints ((W.alloc o).alloc (.cells #[.int .i64 (x : Int)] 2)) (.slice (some ⟨W.heap.size + 1, 0, none⟩) 1 1) (nats [x]) := by
  have := one_ints (W.alloc o) x
  simpa only [World.size_alloc] using this
theorem zero_long (W : World) (a : Option Addr) (c : Nat) (hc : c ≤ maxLen) : LongS W (.slice a (dlen B9 0) c) 0 := by
  have e : longS 0 = [] := by simp [longS, dlen_zero, dgs]
  unfold LongS
  rw [e, dlen_zero]
  exact ⟨by unfold maxLen; simp [ints], a, c, rfl, ⟨by simp [ints], hc⟩, fun i hi => absurd hi (by simp [ints])⟩
theorem val_one (x : Nat) : val B9 [x] = x := by simp [val]

set_option maxRecDepth 100000 in
set_option maxHeartbeats 4000000 in
theorem l01Read_any (s : ByteArray) (w : World) (h : numB s = true) :
    Calls Try.prog 121 #[.string s] w fun e w' => ∃ v, e = .returned v ∧ LongS w' v (decV s s.size) ∧ Below w.heap.size w w' := by
  obtain ⟨hs1, hs2⟩ := numB_size h
  obtain ⟨L, hL⟩ : ∃ L, s.size = L := ⟨_, rfl⟩
  have hdig := Lib.hid (fun k (hk : k < s.size) => numB_digit h hk)
  have hget := Lib.hid (fun i (hi : i < s.size) => byteAt_get s i hi)
  have hlen := Lib.hid (fun k (hk : k ≤ s.size) => decV_len9 h hk)
  rw [hL] at hs1 hs2
  have hL' := Lib.hid hL
  clear h
  go_enter Try.func121, Try.ntmps121
  go_wp2
  go_loopw [3, 4] (fun ov iv wr => ∃ (k : Nat) (a : Option Addr) (c : Nat), k ≤ L ∧ iv = .int .i64 (k : Int) ∧ ov = .slice a (dlen B9 (decV s k)) c ∧ Hid (LongS wr (.slice a (dlen B9 (decV s k)) c) (decV s k)) ∧ Below w.heap.size w wr) (fun _ iv _ => L - (intOf iv).toNat)
  case atStart => exact ⟨0, _, _, Nat.zero_le _, rfl, rfl, zero_long _ _ _ (by unfold maxLen; omega), below1 _ _⟩
  case round =>
    obtain ⟨k, a, c, hk, rfl, rfl, ho, bel⟩ := hrel
    by_cases hlt : k < L
    · have hks : k < s.size := by rw [hL'.out]; exact hlt
      have zk := hget.out k hks
      obtain ⟨d1, d2⟩ := hdig.out k hks
      have hl1 := hlen.out k (by omega)
      have hnext := Lib.hid (show decV s k * 10 + (byteAt s k - 48) = decV s (k + 1) from rfl)
      generalize hdd : byteAt s k = x at *
      have hw1 : IntKind.u8.wrap ((x : Int) - 48) = ((x - 48 : Nat) : Int) := by rw [IntWalk.u8_in _ (by omega)]; omega
      have hd9 : x - 48 < B9 := by simp only [B9]; omega
      have hd99 : x - 48 ≤ 9 := by omega
      generalize x - 48 = dg at *
      have hw2 : IntKind.i64.wrap (dg : Int) = (dg : Int) := IntWalk.i64_in _ (by omega)
      have hcut := Lib.hid (fun (W : World) (v : Value) (hv : Ints W v (nats [dg])) => l01Cut_any v [dg] W hv (by intro y hy; simp at hy; rw [hy]; exact hd9))
      rw [val_one] at hcut
      have hdl : dlen B9 dg ≤ 1 := dlen_le b9 (by rw [Nat.pow_one]; exact hd9)
      have hX := Lib.hid (fun (W : World) (b : Below wr.heap.size wr W) => ho.out.keep b)
      have hpl : dlen B9 (decV s k * 10) ≤ 100000 := Nat.le_trans (dlen_le b9 (L := dlen B9 (decV s k) + 1) (by rw [pow_succ']; exact Nat.mul_lt_mul_of_lt_of_le (lt_dlen b9 _) (by decide) (by decide))) (by omega)
      generalize hlx : dlen B9 (decV s k) = lx at *
      replace hlx := Lib.hid hlx
      generalize decV s k = X at *
      have hdl10 : dlen B9 10 ≤ 1 := dlen_le b9 (by decide)
      clear d1 d2 hdd hd9
      go_wp2_with fail
      go_region_held3 (fun _ => True)
        (trivial)
        (first
          | (go_at_call 98; ((with_reducible refine (hcut.out _ _ (by (repeat (first | exact one_ints _ dg | exact one_ints' _ dg _ | refine Ints.keep ?_ (below1 _ _) | refine Ints.keep ?_ (Below.refl _ _).drew | refine Ints.keep ?_ b1)))).mono ?_); rintro e u2 ⟨⟨cv, rfl, hc⟩, jc, rfl⟩))
          | (go_at_call 79; ((with_reducible refine (l01Plus_any _ _ (X * 10) dg _ (by (repeat (first | exact hp | refine LongS.keep ?_ (below_drewN (Below.refl _ _) _) | refine LongS.keep ?_ (below1 _ _)))) (hc.keep (below_drewN (Below.refl _ _) _)) (by omega) (by omega)).mono ?_); rintro e u3 ⟨sv, rfl, hs, b3⟩))
          | (go_at_call 80; ((with_reducible refine (l01Product_any _ _ X 10 _ (hX.out _ (by (repeat (first | exact Below.refl _ _ | refine Below.drew ?_ | refine Below.alloc ?_ (by simp <;> omega) _)))) (by (repeat (first | exact ten_long _ | exact ten_long' _ _ | refine LongS.keep ?_ (below1 _ _) | refine LongS.keep ?_ (Below.refl _ _).drew))) (by rw [hlx.out]; omega) (by omega)).mono ?_); rintro e u1 ⟨pv, rfl, hp, b1⟩)))
      all_goals
        rw [hnext.out] at hs
        obtain ⟨_, sa, sc, rfl⟩ := hs.len
        have hs' := Lib.hid hs
        have B3 := Lib.hid (show Below w.heap.size w u3 by (repeat (first | exact bel | refine Below.drew ?_ | refine below_drewN ?_ _ | refine below_wt ?_ b3 | refine below_wt ?_ b1 | refine below_wt ?_ (below1 _ _))))
        clear hs b1 b3 hp hc
        go_wp2
        go_roundw
      all_goals first
        | exact ⟨k + 1, sa, sc, by omega, by go_num, rfl, hs', B3.out⟩
        | (simp [intOf]; omega)
    · obtain rfl : k = L := by omega
      have hf := Lib.hid (show LongS wr (.slice a (dlen B9 (decV s k)) c) (decV s s.size) by rw [hL'.out]; exact ho.out)
      go_wp2
      go_ret
      exact ⟨_, rfl, hf.out, bel⟩
end Go.Proofs.Ytjkekhiceadpgaa
