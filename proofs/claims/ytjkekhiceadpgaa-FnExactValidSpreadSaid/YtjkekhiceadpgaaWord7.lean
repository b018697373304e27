/- window and shiftDown of the project: 64 bits of a long number from any bit on; a long number divided by a power of two. Conditions: the place of the bit is below 2^40; the shift is less than 32. -/
import Derived.Test.YtjkekhiceadpgaaWord6
import Derived.Deep.QuietTactic
namespace Go.Proofs.Ytjkekhiceadpgaa
open Go.RowKit Go.Deep
set_option linter.unusedVariables false

theorem dgt_val (l : List Nat) (hd : ∀ x ∈ l, x < W32) (j : Nat) : dgt W32 (val W32 l) j = l.getD j 0 := by
  have h1 := val_lt w32 l hd
  rcases Nat.lt_or_ge j l.length with h | h
  · have h2 := congrArg (fun z : List Nat => z.getD j 0) (eq_dgs w32 l hd)
    rw [dgs_getD _ _ _ _ h] at h2
    exact h2.symm
  · rw [dgt_big (Nat.lt_of_lt_of_le h1 (Nat.pow_le_pow_right (by decide) h))]
    simp [List.getD, List.getElem?_eq_none h]

theorem window_or {lo x s t R : Nat} (l1 : lo < 18446744073709551616) (hs : s < 32) (e2 : lo / 2 ^ s < 2 ^ (64 - s)) (e3 : x * 2 ^ (64 - s) % 18446744073709551616 = t * 2 ^ (64 - s)) (e1 : lo / 2 ^ s + x * 2 ^ (64 - s) % 18446744073709551616 = R) :
    bits .or .u64 ((lo : Int) / 2 ^ s) (IntKind.u64.wrap ((x : Int) * 2 ^ (64 - s))) = (R : Int) := by
  have h1 : (lo : Int) / 2 ^ s = ((lo / 2 ^ s : Nat) : Int) := by simp
  have h2 : IntKind.u64.wrap ((x : Int) * 2 ^ (64 - s)) = ((x * 2 ^ (64 - s) % 18446744073709551616 : Nat) : Int) := by
    rw [show ((x : Int) * 2 ^ (64 - s)) = ((x * 2 ^ (64 - s) : Nat) : Int) by simp, IntKind.wrap_u64]
    omega
  have h3 := Nat.div_le_self lo (2 ^ s)
  have h4 := bits_or_u64_nat (lo / 2 ^ s) (x * 2 ^ (64 - s) % 18446744073709551616) (by omega) (Nat.mod_lt _ (by omega))
  rw [h1, h2, h4, e3, or_low' _ _ _ e2, ← e3, e1]
theorem window_or0 {lo s R : Nat} (l1 : lo < 18446744073709551616) (hs : s < 32) (e1 : lo / 2 ^ s + 0 * 2 ^ (64 - s) % 18446744073709551616 = R) :
    bits .or .u64 ((lo : Int) / 2 ^ s) 0 = (R : Int) := by
  have h1 : (lo : Int) / 2 ^ s = ((lo / 2 ^ s : Nat) : Int) := by simp
  have h3 := Nat.div_le_self lo (2 ^ s)
  have h4 := bits_or_u64_nat (lo / 2 ^ s) 0 (by omega) (by omega)
  rw [h1, show (0 : Int) = ((0 : Nat) : Int) from rfl, h4, Nat.or_zero, ← e1]
  simp

set_option maxRecDepth 100000 in
set_option maxHeartbeats 4000000 in
theorem window_any (v : Value) (l : List Nat) (f s : Nat) (w : World) (hv : Wd w v l) (hd : ∀ x ∈ l, x < W32) (hs : s < 32) (hf : f < 1099511627776) :
    Calls Try.prog 109 #[v, .int .i64 (((32 * f + s : Nat)) : Int)] w fun e w' => e = .returned (.int .u64 (val W32 l / 2 ^ (32 * f + s) % 18446744073709551616 : Nat)) ∧ ∃ k, w' = w.drewN k := by
  obtain ⟨hm1, a1, cap1, rfl⟩ := hv.len
  unfold maxLen at hm1
  have hA := fun h => hv.at h
  have g0 := dgt_val l hd f
  have g1 := dgt_val l hd (f + 1)
  have g2 := dgt_val l hd (f + 2)
  have l0 := dgt_lt w32 (val W32 l) f
  have l1 := dgt_lt w32 (val W32 l) (f + 1)
  have l2 := dgt_lt w32 (val W32 l) (f + 2)
  obtain ⟨e1, e2, t, e3⟩ := window_eq (val W32 l) f s hs
  rw [g0] at l0 e1 e2
  rw [g1] at l1 e1 e2
  rw [g2] at l2 e1 e3
  have hq : (((32 * f + s : Nat)) : Int).tdiv 32 = (f : Int) := by rw [Int.tdiv_eq_ediv_of_nonneg (by omega)]; omega
  have hr : (((32 * f + s : Nat)) : Int).tmod 32 = (s : Int) := by rw [Int.tmod_eq_emod_of_nonneg (by omega)]; omega
  generalize hF : 32 * f + s = F at e1 hq hr ⊢
  have hF2 : F < 1099511627776 * 33 := by omega
  simp only [show W32 = 4294967296 from rfl] at l0 l1 l2 e2 e1
  generalize val W32 l / 2 ^ F % 18446744073709551616 = R at e1 ⊢
  replace e1 := Lib.hid e1
  clear hv hF g0 g1 g2
  go_enter Try.func109, Try.ntmps109
  rcases Nat.lt_or_ge f l.length with h0 | h0
  · obtain ⟨b1, o1, c1, hv1, hl1, hc1⟩ := hA (by omega)
    simp only [Value.slice.injEq] at hv1
    obtain ⟨rfl, -, rfl⟩ := hv1
    have q0 := hc1 f h0
    generalize l.getD f 0 = x0 at *
    rcases Nat.lt_or_ge (f + 1) l.length with h1 | h1
    · have q1 := hc1 (f + 1) h1
      generalize l.getD (f + 1) 0 = x1 at *
      have hor : bits .or .u64 (x0 : Int) ((x1 : Int) * 4294967296) = ((x0 + 4294967296 * x1 : Nat) : Int) := by
        have e := bits_or_u64_nat x0 (x1 * 4294967296) (by omega) (by omega)
        rw [show ((x1 : Int) * 4294967296) = ((x1 * 4294967296 : Nat) : Int) by omega, e, show x1 * 4294967296 = x1 * 2 ^ 32 by rfl, or_low' x1 x0 32 (by simpa using l0)]
        omega
      have llo : x0 + 4294967296 * x1 < 18446744073709551616 := by omega
      generalize x0 + 4294967296 * x1 = lo at *
      rcases Nat.lt_or_ge (f + 2) l.length with h2 | h2
      · have q2 := hc1 (f + 2) h2
        generalize l.getD (f + 2) 0 = x2 at *
        have hz := window_or llo hs e2 e3 e1.out
        clear hc1 hA e2 e3 llo
        generalize l.length = L at *
        go_wp2
        go_quiet (fail)
        go_wp2
        go_ret
        exact ⟨rfl, _, rfl⟩
      · have hx2 : l.getD (f + 2) 0 = 0 := by simp [List.getD, List.getElem?_eq_none h2]
        rw [hx2] at e1
        have hz := window_or0 llo hs e1.out
        clear hc1 hA e2 e3 llo hx2
        generalize l.length = L at *
        go_wp2
        go_quiet (fail)
        go_wp2
        go_ret
        exact ⟨rfl, _, rfl⟩
    · have hx1 : l.getD (f + 1) 0 = 0 := by simp [List.getD, List.getElem?_eq_none h1]
      have hx2 : l.getD (f + 2) 0 = 0 := by simp [List.getD, List.getElem?_eq_none (show l.length ≤ f + 2 by omega)]
      rw [hx2, hx1, Nat.mul_zero, Nat.add_zero] at e1
      have hz := window_or0 (show x0 < 18446744073709551616 by omega) hs e1.out
      have h2 : l.length ≤ f + 2 := by omega
      clear hc1 hA e2 e3 hx1 hx2
      generalize l.length = L at *
      go_wp2
      go_quiet (fail)
      go_wp2
      go_ret
      exact ⟨rfl, _, rfl⟩
  · have hx0 : l.getD f 0 = 0 := by simp [List.getD, List.getElem?_eq_none h0]
    have hx1 : l.getD (f + 1) 0 = 0 := by simp [List.getD, List.getElem?_eq_none (show l.length ≤ f + 1 by omega)]
    have hx2 : l.getD (f + 2) 0 = 0 := by simp [List.getD, List.getElem?_eq_none (show l.length ≤ f + 2 by omega)]
    rw [hx2, hx1, hx0] at e1
    have hR : R = 0 := by have := e1.out; simpa using this.symm
    subst hR
    have h1 : l.length ≤ f + 1 := by omega
    have h2 : l.length ≤ f + 2 := by omega
    clear hA e2 e3 hx1 hx2 hx0
    generalize l.length = L at *
    go_wp2
    go_quiet (fail)
    go_wp2
    go_ret
    exact ⟨rfl, _, rfl⟩

/-- a list of words divided by a power of two, word by word -/
theorem down_word (V s j : Nat) : V / 2 ^ (32 * j + s) % 18446744073709551616 % 4294967296 = dgt W32 (V / 2 ^ s) j := by
  have e0 : W32 ^ j = 2 ^ (32 * j) := by rw [show W32 = 2 ^ 32 by rfl, ← Nat.pow_mul]
  rw [dgt, e0, Nat.div_div_eq_div_mul, Nat.add_comm, Nat.pow_add]
  exact Nat.mod_mod_of_dvd _ (by decide)

set_option maxRecDepth 100000 in
set_option maxHeartbeats 4000000 in
theorem shiftDown_any (v : Value) (l : List Nat) (s : Nat) (w : World) (hv : Wd w v l) (hd : ∀ x ∈ l, x < W32) (hs : s < 32) (sm : l.length ≤ 10000000000) :
    Calls Try.prog 135 #[v, .int .i64 (s : Int)] w fun e w' => ∃ v', e = .returned v' ∧ LongI w' v' (val W32 l / 2 ^ s) ∧ Below w.heap.size w w' := by
  obtain ⟨hm1, a1, cap1, rfl⟩ := hv.len
  unfold maxLen at hm1
  have hdw := Lib.hid (down_word (val W32 l) s)
  have hbm := Lib.hid (dgt_lt w32 (val W32 l / 2 ^ s))
  have hend := Lib.hid (val_dgs_small (Nat.lt_of_le_of_lt (Nat.div_le_self (val W32 l) (2 ^ s)) (val_lt w32 l hd)))
  have hwin := Lib.hid (fun (f : Nat) (W : World) (h : Below w.heap.size w W) (hf : f < 1099511627776) => window_any _ l f s W (hv.keep h) hd hs hf)
  have hmk := run_make_row' (P := Try.prog) 91 163 (.int .u32 0) 4 Try.underlying91 word_info rfl .i64 .i64 l.length (by omega) (by omega)
  clear hv
  generalize hL1 : l.length = L at hm1 sm hmk hend hwin ⊢
  clear hL1
  generalize val W32 l = V at *
  go_enter Try.func135, Try.ntmps135
  go_wp2
  go_loopw [12] (fun i wr => ∃ (k : Nat), k ≤ L ∧ i = .int .i64 (k : Int) ∧ Own wr w.heap.size (w.heap.size + 1) 163 (.slice (some ⟨w.heap.size, 0, none⟩) L L) (u32s (dz W32 (V / 2 ^ s) k L)) ∧ Below w.heap.size w wr) (fun i _ => L - (intOf i).toNat)
  case atStart =>
    refine ⟨0, Nat.zero_le _, rfl, ?_, (Below.refl _ _).alloc (Nat.le_refl _) _⟩
    have := Own.made w (.int .u32 0) L 163 (by unfold maxLen; omega)
    rw [dz_zero]
    simpa [u32s] using this
  case round =>
    obtain ⟨k, hk, rfl, hown, bel⟩ := hrel
    have hown' := Lib.hid hown
    have hsz := bel.size
    by_cases hlt : k < L
    · obtain ⟨g, cap'', hg, -, -, hgs, hcg, hfg⟩ := hown.at (by rw [u32s_length, dz_length _ _ _ _ (by omega)]; omega)
      simp only [Value.slice.injEq, Option.some.injEq, Addr.mk.injEq, and_true] at hg
      obtain ⟨rfl, -, -⟩ := hg
      have hcg' := hcg k (by rw [u32s_length, dz_length _ _ _ _ (by omega)]; omega)
      have hfg' := hfg k
      have hset := Lib.hid (dz_set W32 (V / 2 ^ s) k L (by omega))
      generalize (u32s (dz W32 (V / 2 ^ s) k L)).getD k undef = old at hcg'
      clear hcg hfg hown
      have hcall := hwin.out k wr bel (by omega)
      have hd1 : ((V / 2 ^ (32 * k + s) % 18446744073709551616 : Nat) : Int) % 4294967296 = ((dgt W32 (V / 2 ^ s) k : Nat) : Int) := by rw [← hdw.out k]; omega
      have hR : V / 2 ^ (32 * k + s) % 18446744073709551616 < 18446744073709551616 := Nat.mod_lt _ (by omega)
      have ha : ((k : Int) * 32 + (s : Int)) = ((32 * k + s : Nat) : Int) := by omega
      generalize V / 2 ^ (32 * k + s) % 18446744073709551616 = R at *
      generalize hdd : dgt W32 (V / 2 ^ s) k = d at *
      generalize 32 * k + s = F at *
      clear hdd
      have hcall' := Lib.hid hcall
      clear hcall
      go_wp2_with fail
      refine hcall'.out.mono ?_
      rintro e w' ⟨rfl, j, rfl⟩
      go_wp2
      go_roundw
      case rel =>
        refine ⟨k + 1, by omega, by go_num, ?_, (below_drewN bel j).setCell (Nat.le_refl _) _⟩
        have := (hown'.out.keep (B := w.heap.size + 1) (Nat.le_refl _) (below_drewN (Below.refl _ wr) j)).set k (.int .u32 (d : Int))
        rw [u32s_set, hset.out] at this
        exact this
      case measure => simp [intOf]; omega
    · obtain rfl : k = L := by omega
      have hrow : Wd wr (.slice (some ⟨w.heap.size, 0, none⟩) k k) (dgs W32 (V / 2 ^ s) k) := by
        have := hown.row
        rw [dz_all] at this
        exact this
      have hT := trim_any _ _ wr hrow (dgs_lt w32 _ _)
      rw [hend.out] at hT
      have hT' := Lib.hid hT
      clear hT hown hrow
      go_wp2_with fail
      refine hT'.out.mono ?_
      rintro e w' ⟨⟨v, rfl, hL⟩, j, rfl⟩
      have hL' := Lib.hid hL
      clear hL
      go_wp2
      go_ret
      exact ⟨_, rfl, hL'.out.keep (below_drewN (Below.refl _ _) j), below_drewN bel j⟩
end Go.Proofs.Ytjkekhiceadpgaa
