/- The sum of a vector and l01Spread of the specification; ValidSpread. Conditions: told by the code. -/
import Derived.Test.YtjkekhiceadpgaaRs2
namespace Go.Proofs.Ytjkekhiceadpgaa
open Go.RowKit Go.Deep
set_option linter.unusedVariables false
set_option linter.unusedSimpArgs false

def sumL (l : List Nat) : Nat := l.foldl (· + ·) 0
theorem sumL_take (l : List Nat) (k : Nat) (h : k < l.length) : sumL (l.take (k + 1)) = sumL (l.take k) + l.getD k 0 := by
  unfold sumL
  rw [List.take_add_one, List.getElem?_eq_getElem h, List.foldl_append]
  simp [List.getD, h]
theorem sumL_len (l : List Nat) (S : Nat) (hs : ∀ i, i < l.length → dlen B9 (l.getD i 0) ≤ S) : ∀ k, k ≤ l.length → dlen B9 (sumL (l.take k)) ≤ S + k
  | 0, _ => by simp only [List.take_zero, sumL, List.foldl_nil]; rw [dlen_zero]; omega
  | k + 1, h => by
    have i1 := sumL_len l S hs k (by omega)
    rw [sumL_take l k (by omega)]
    have := plus_len b9 i1 (Nat.le_trans (hs k (by omega)) (Nat.le_add_right S k))
    omega
theorem zero_long0 (w : World) : LongS (w.alloc (.cells #[] 2)) (.slice (some ⟨w.heap.size, 0, none⟩) 0 0) 0 := by
  refine ⟨by simp [longS, dlen_zero, dgs, ints], some ⟨w.heap.size, 0, none⟩, 0, by simp [longS, dlen_zero, dgs, ints], by simp [longS, dlen_zero, dgs, ints, maxLen], fun i hi => ?_⟩
  simp [longS, dlen_zero, dgs, ints] at hi
theorem cut_long (a : Value) (n : Nat) (w : World) (ha : LongS w a n) :
    Calls Try.prog 98 #[a] w fun e w' => ∃ v, e = .returned v ∧ LongS w' v n ∧ Below w.heap.size w w' := by
  have h := l01Cut_any a (dgs B9 n (dlen B9 n)) w ha (dgs_lt b9 _ _)
  rw [val_dgs_small (lt_dlen b9 n)] at h
  refine h.mono ?_
  rintro e w' ⟨⟨v, he, hl⟩, k, rfl⟩
  exact ⟨v, he, hl.keep (below_drewN (Below.refl _ _) k), below_drewN (Below.refl _ _) k⟩

set_option maxRecDepth 100000 in
set_option maxHeartbeats 4000000 in
theorem sum_any (B : Nat) (na da : Option Addr) (n nc dl dc S : Nat) (l : List Nat) (w : World) (hB : Blk w B #[.slice na n nc, .slice da dl dc] 59) (hnl : n = l.length) (hv : RowL LongS w (.slice na n nc) l)
    (hs : ∀ i, i < l.length → dlen B9 (l.getD i 0) ≤ S) (hb : S + l.length ≤ 1000000) :
    Calls Try.prog 63 #[.pointer (some ⟨B, 0, none⟩)] w fun e w' => ∃ v, e = .returned v ∧ LongS w' v (sumL l) ∧ Below w.heap.size w w' := by
  have hln := Lib.hid (fun k (h : k ≤ l.length) => (show dlen B9 (sumL (l.take k)) ≤ 1000000 by have := sumL_len l S hs k h; omega))
  have hnx := Lib.hid (fun k h => sumL_take l k h)
  have hall := Lib.hid (show l.take l.length = l from List.take_length)
  have hsz := Lib.hid hs
  have hv' := Lib.hid hv
  have hB' := Lib.hid hB
  have hS : S ≤ 1000000 := by omega
  have h0 := Lib.hid (show LongS _ _ (sumL (l.take 0)) from zero_long0 w)
  have B1 := Lib.hid (below1 w (.cells #[] 2))
  rw [← hnl] at hln hnx hall hsz hb
  have hnl' := Lib.hid hnl
  clear hs hv hB hnl
  go_enter Try.func63, Try.ntmps63
  go_wp2_with fail
  go_loopw [3, 4] (fun s i wr => ∃ (k sl sc : Nat) (sa : Option Addr), k ≤ n ∧ i = .int .i64 (k : Int) ∧ s = .slice sa sl sc ∧ Hid (LongS wr (.slice sa sl sc) (sumL (l.take k))) ∧ Hid (Below w.heap.size w wr)) (fun _ i _ => n - (intOf i).toNat)
  case atStart => exact ⟨0, _, _, _, Nat.zero_le _, rfl, rfl, h0, B1⟩
  case round =>
    obtain ⟨k, sl, sc, sa, hk, rfl, rfl, hsum, bel⟩ := hrel
    have hBk := hB'.out.keep bel.out hB'.out.lt
    have z0 := hBk.cell 0
    simp only [List.getElem?_toArray, List.getElem?_cons_zero] at z0
    clear hBk
    by_cases hlt : k < n
    · obtain ⟨b, off, x, rfl, q0, hx⟩ := (hv'.out.keep likeS bel.out).at k (by rw [← hnl'.out]; exact hlt)
      obtain ⟨xa, xl, xc, rfl⟩ := likeS.shape hx
      have s1 := hln.out k hk
      have s2 := hsz.out k hlt
      have hpl := Lib.hid (l01Plus_any (.slice sa sl sc) (.slice xa xl xc) _ _ wr hsum.out hx (by omega) (by omega))
      have hnx1 := Lib.hid (hnx.out k (by first | exact hlt | (rw [← hnl'.out]; exact hlt)))
      have hlt' := Lib.hid hlt
      clear hx s1 s2
      go_wp2_with fail
      (with_reducible refine hpl.out.mono ?_)
      rintro e w1 ⟨v, rfl, hL, b1⟩
      obtain ⟨_, pa, pc, rfl⟩ := hL.len
      have hN := Lib.hid (show LongS w1 _ (sumL (l.take (k + 1))) by rw [hnx1.out]; exact hL)
      have B2 := Lib.hid (below_wt bel.out b1)
      clear hL b1 q0 z0
      go_wp2
      go_roundw
      case rel => exact ⟨k + 1, _, pc, pa, by have := hlt'.out; omega, by go_num, rfl, hN, B2⟩
      case measure => have := hlt'.out; simp [intOf]; omega
    · obtain rfl : n = k := by omega
      have hlt' : ¬ (n : Int) < (n : Int) := by omega
      have hc := Lib.hid (cut_long _ _ wr hsum.out)
      clear hlt
      go_wp2_with fail
      (with_reducible refine hc.out.mono ?_)
      rintro e w1 ⟨v, rfl, hL, b1⟩
      rw [hall.out] at hL
      obtain ⟨_, pa, pc, rfl⟩ := hL.len
      have hN := Lib.hid hL
      have B2 := Lib.hid (below_wt bel.out b1)
      clear hL b1
      go_wp2
      go_ret
      exact ⟨_, rfl, hN.out, B2.out⟩

/-! ### both ways to add up agree -/
theorem comD_pos (l : List (Nat × Nat)) (hd : ∀ i, i < l.length → 0 < (l.getD i (0, 0)).2) : ∀ k, k ≤ l.length → 0 < comD (l.take k)
  | 0, _ => by simp [comD]
  | k + 1, h => by
    rw [comD_take l k (by omega)]
    have hy := hd k (by omega)
    exact Nat.mul_pos (comD_pos l hd k (by omega)) (Nat.div_pos (Nat.le_of_dvd hy (Nat.gcd_dvd_right _ _)) (Nat.gcd_pos_of_pos_right _ hy))
theorem comD_dvd (l : List (Nat × Nat)) (k : Nat) : ∀ j, k + j ≤ l.length → comD (l.take k) ∣ comD (l.take (k + j))
  | 0, _ => Nat.dvd_refl _
  | j + 1, h => by
    rw [← Nat.add_assoc, comD_take l (k + j) (by omega)]
    exact Nat.dvd_trans (comD_dvd l k j (by omega)) (Nat.dvd_mul_right _ _)
theorem den_dvd (l : List (Nat × Nat)) (k : Nat) (h : k < l.length) : (l.getD k (0, 0)).2 ∣ comD l := by
  have h1 := comD_dvd l (k + 1) (l.length - (k + 1)) (by omega)
  rw [show k + 1 + (l.length - (k + 1)) = l.length by omega, List.take_length] at h1
  refine Nat.dvd_trans ?_ h1
  rw [comD_take l k h]
  obtain ⟨c, hc⟩ := Nat.gcd_dvd_left (comD (l.take k)) (l.getD k (0, 0)).2
  have h2 := Nat.div_mul_cancel (Nat.gcd_dvd_right (comD (l.take k)) (l.getD k (0, 0)).2)
  generalize Nat.gcd (comD (l.take k)) (l.getD k (0, 0)).2 = g at *
  generalize (l.getD k (0, 0)).2 / g = q at *
  refine ⟨c, ?_⟩
  rw [← h2, hc, Nat.mul_comm q g, Nat.mul_assoc, Nat.mul_assoc, Nat.mul_comm c q]
theorem sumR_pos (l : List (Nat × Nat)) (hd : ∀ i, i < l.length → 0 < (l.getD i (0, 0)).2) : ∀ k, k ≤ l.length → 0 < (sumR (l.take k)).2
  | 0, _ => by simp [sumR]
  | k + 1, h => by rw [sumR_take l k (by omega)]; exact Nat.mul_pos (sumR_pos l hd k (by omega)) (hd k (by omega))
theorem sums_same (l : List (Nat × Nat)) : ∀ k, k ≤ l.length → (sumR (l.take k)).1 * comD l = (sumR (l.take k)).2 * sumL (comN (comD l) (l.take k))
  | 0, _ => by simp [sumR, sumL, comN]
  | k + 1, h => by
    have ih := sums_same l k (by omega)
    have hdv := Nat.mul_div_cancel' (den_dvd l k (by omega))
    rw [sumR_take l k (by omega), comN_take (comD l) l k (by omega)]
    have e : sumL (comN (comD l) (l.take k) ++ [(l.getD k (0, 0)).1 * (comD l / (l.getD k (0, 0)).2)]) = sumL (comN (comD l) (l.take k)) + (l.getD k (0, 0)).1 * (comD l / (l.getD k (0, 0)).2) := by simp [sumL, List.foldl_append]
    rw [e]
    simp only
    generalize comD l / (l.getD k (0, 0)).2 = r at *
    generalize sumL (comN (comD l) (l.take k)) = A at *
    generalize (l.getD k (0, 0)).2 = d at *
    generalize (l.getD k (0, 0)).1 = n at *
    generalize (sumR (l.take k)).1 = s at *
    generalize (sumR (l.take k)).2 = t at *
    generalize comD l = D at *
    subst hdv
    grind
theorem spread_same (l : List (Nat × Nat)) (hd : ∀ i, i < l.length → 0 < (l.getD i (0, 0)).2) : (sumL (comN (comD l) l) = comD l) ↔ ((sumR l).1 = (sumR l).2) := by
  have h1 := sums_same l l.length (Nat.le_refl _)
  have h2 := sumR_pos l hd l.length (Nat.le_refl _)
  have h3 := comD_pos l hd l.length (Nat.le_refl _)
  rw [List.take_length] at h1 h2 h3
  generalize sumL (comN (comD l) l) = A at *
  generalize comD l = D at *
  generalize (sumR l).1 = s at *
  generalize (sumR l).2 = t at *
  constructor
  · rintro rfl
    exact Nat.eq_of_mul_eq_mul_right h3 h1
  · rintro rfl
    exact (Nat.eq_of_mul_eq_mul_left h2 h1).symm
end Go.Proofs.Ytjkekhiceadpgaa
