/- l01Text and l01Told of the specification. Conditions: at most 10^9 digits in base 10^9. -/
import Derived.Test.YtefodgebecacgaaDoorNtx
namespace Go.Proofs.YtefodgebecacgaaDoor
open Go.RowKit Go.Deep
set_option linter.unusedVariables false

/-- digits with zeros ahead -/
def padJ (j g : Nat) : ByteArray := ⟨(List.replicate j 48 ++ decW g).toArray⟩
theorem padJ_zero (g : Nat) : padJ 0 g = decS g := by simp [padJ, decS]
theorem padJ_size (j g : Nat) : (padJ j g).size = j + (decW g).length := by simp [padJ, ByteArray.size]
theorem padJ_more (j g : Nat) : (⟨#[48]⟩ : ByteArray) ++ padJ j g = padJ (j + 1) g := by
  simp only [padJ, ByteArray.mk_append_mk, List.replicate_succ, List.cons_append]
  congr 1
theorem padJ_full (g : Nat) : padJ (9 - (decW g).length) g = ⟨(pad9 g).toArray⟩ := rfl
theorem numT_down {n i : Nat} (h : i + 1 < dlen B9 n) : numT (n / B9 ^ (i + 1)) ++ (⟨(pad9 (dgt B9 n i)).toArray⟩ : ByteArray) = numT (n / B9 ^ i) := by
  simp only [numT, ByteArray.mk_append_mk, numW_down h]
theorem numT_top {n k : Nat} (h : dlen B9 n = k + 1) : numT (n / B9 ^ k) = decS (dgt B9 n k) := by
  rw [numT, (numW_top h).2]; rfl
theorem numT_some {n L : Nat} (i : Nat) (h : dlen B9 n ≤ L) : (numT (n / B9 ^ i)).size ≤ 9 * L + 9 := numT_le (Nat.le_trans (dlen_mono b9 (Nat.div_le_self _ _)) h)

set_option maxRecDepth 100000 in
set_option maxHeartbeats 4000000 in
theorem l01Text_any (a : Value) (n : Nat) (w : World) (ha : LongS w a n) (sm : dlen B9 n ≤ 1000000000) :
    Calls Tryd.prog 49 #[a] w fun e w' => e = .returned (.string (numT n)) ∧ Below w.heap.size w w' := by
  obtain ⟨hm1, a1, cap1, rfl⟩ := ha.len
  unfold maxLen at hm1
  rcases Nat.eq_zero_or_pos (dlen B9 n) with h0 | hp
  · have hn0 : n = 0 := by
      have := lt_dlen b9 n
      rw [h0, Nat.pow_zero] at this; omega
    subst hn0
    have hr := Lib.hid (show numT 0 = ⟨#[48]⟩ by rw [numT, numW_small (by decide), decW_small (by decide)]; rfl)
    rw [dlen_zero]
    clear ha hm1 sm h0
    generalize numT 0 = R at *
    go_enter Tryd.func49, Tryd.ntmps49
    go_wp2
    go_ret
    exact ⟨by rw [hr.out]; rfl, Below.refl _ _⟩
  · obtain ⟨k, hk⟩ : ∃ k, dlen B9 n = k + 1 := ⟨dlen B9 n - 1, by omega⟩
    obtain ⟨b1, o1, c1, hv1, hb1, hc1⟩ := ha.at hp
    rw [hk] at hv1 hc1 ⊢
    simp only [Value.slice.injEq] at hv1
    obtain ⟨rfl, -, rfl⟩ := hv1
    have hk9 : k ≤ 1000000000 := by omega
    have hcell := Lib.hid hc1
    have htop := Lib.hid (numT_top hk)
    have hdown := Lib.hid (fun i (h : i < k) => numT_down (n := n) (i := i) (by omega))
    have hsize := Lib.hid (fun i => numT_some (n := n) (L := 1000000000) i sm)
    have hlt := Lib.hid (fun i => dgt_lt b9 n i)
    have hdec := Lib.hid (fun i W => Dec_all (dgt B9 n i) W (Nat.lt_trans (dgt_lt b9 n i) (by decide)))
    have hlen := Lib.hid (fun i => dec9 (dgt_lt b9 n i))
    have hpos := Lib.hid (fun i => decW_pos (dgt B9 n i))
    have hfin := Lib.hid (show numT (n / B9 ^ 0) = numT n by simp)
    have q0 := hc1 k (by omega)
    clear ha hm1 sm hk hp hc1
    generalize hx : dgt B9 n k = x at q0
    have hd0 := hdec.out k
    rw [hx] at hd0
    have hd0' := Lib.hid hd0
    have hx' := Lib.hid hx
    clear hx hd0
    go_enter Tryd.func49, Tryd.ntmps49
    go_wp2_with fail
    (with_reducible refine (hd0'.out _).mono ?_)
    rintro e w1 ⟨rfl, bb⟩
    have B1 := Lib.hid bb
    clear bb q0
    go_wp2
    go_loopw [3, 4] (fun s i wr => ∃ j : Nat, j ≤ k ∧ i = .int .i64 ((j : Int) - 1) ∧ s = .string (numT (n / B9 ^ j)) ∧ Hid (Below w.heap.size w wr)) (fun _ i _ => (intOf i + 1).toNat)
    case atStart => exact ⟨k, Nat.le_refl _, by go_num, by rw [htop.out, hx'.out], B1⟩
    case round =>
      obtain ⟨j, hj, rfl, rfl, bel⟩ := hrel
      rcases Nat.eq_zero_or_pos j with rfl | hpos0
      · go_wp2
        go_ret
        exact ⟨by rw [hfin.out]; rfl, bel.out⟩
      · obtain ⟨j, rfl⟩ : ∃ j', j = j' + 1 := ⟨j - 1, by omega⟩
        have hi : (((j + 1 : Nat) : Int) - 1) = (j : Int) := by omega
        rw [hi]
        have q1 := (bel.out.cell hb1).trans (hcell.out j (by omega))
        have hdj := Lib.hid (hdec.out j)
        have hlj := hlen.out j
        have hpj := hpos.out j
        have hnx := Lib.hid (hdown.out j (by omega))
        have hs1 := hsize.out (j + 1)
        clear hi
        generalize dgt B9 n j = g at q1 hdj hlj hpj hnx
        generalize numT (n / B9 ^ (j + 1)) = A at hnx hs1 ⊢
        go_wp2_with fail
        (with_reducible refine (hdj.out _).mono ?_)
        rintro e w2 ⟨rfl, bb⟩
        have B2 := Lib.hid (below_wt bel.out bb)
        clear bb q1
        go_wp2
        go_loopw [5] (fun s wr => ∃ c : Nat, c + (decW g).length ≤ 9 ∧ s = .string (padJ c g) ∧ wr = w2) (fun s _ => 9 - (match s with | .string b => b.size | _ => 0))
        case atStart => exact ⟨0, by omega, by rw [padJ_zero], by trivial⟩
        case round =>
          obtain ⟨c, hc, rfl, rfl⟩ := hrel
          have hsz := padJ_size c g
          by_cases h9 : c + (decW g).length < 9
          · have hm := Lib.hid (padJ_more c g)
            have hms := Lib.hid (padJ_size (c + 1) g)
            have hb : ¬ 9223372036854775807 < (⟨#[48]⟩ : ByteArray).size + (padJ c g).size := by rw [hsz]; show ¬ _ < 1 + _; omega
            have hl9 : ((padJ c g).size : Int) < 9 := by omega
            generalize padJ c g = S at *
            go_wp2
            go_roundw
            case rel => exact ⟨c + 1, by omega, by rw [hm.out], by trivial⟩
            case measure => rw [hm.out]; simp only [hms.out, hsz]; omega
          · have hf := Lib.hid (show padJ c g = ⟨(pad9 g).toArray⟩ by rw [← padJ_full, show 9 - (decW g).length = c by omega])
            have hl9 : ¬ ((padJ c g).size : Int) < 9 := by omega
            have hb : ¬ 9223372036854775807 < A.size + (padJ c g).size := by rw [hsz]; omega
            have hnx' := Lib.hid (show A ++ padJ c g = numT (n / B9 ^ j) by rw [hf.out]; exact hnx.out)
            generalize padJ c g = S at *
            go_wp2
            go_roundw
            case rel => exact ⟨j, by omega, by go_num, by rw [hnx'.out], B2⟩
            case measure => simp [intOf]
end Go.Proofs.YtefodgebecacgaaDoor
