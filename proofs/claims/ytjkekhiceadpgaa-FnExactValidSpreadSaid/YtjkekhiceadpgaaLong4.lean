/- l01Short of the specification: a long number divided by one digit. Conditions: the digit is not 0; fewer than 10^12 digits. -/
import Derived.Test.YtjkekhiceadpgaaLong3
namespace Go.Proofs.Ytjkekhiceadpgaa
open Go.RowKit Go.Deep
set_option linter.unusedVariables false

/-- L digits, those of q from place k on, zeros before it -/
def shL (B q L k : Nat) : List Nat := (List.range L).map fun j => if k ≤ j then dgt B q j else 0
theorem shL_length (B q L k : Nat) : (shL B q L k).length = L := by simp [shL]
theorem shL_zero (B q L : Nat) : shL B q L 0 = dgs B q L := by simp [shL, dgs]
theorem shL_full (B q L : Nat) : shL B q L L = List.replicate L 0 := by
  apply List.ext_getElem
  · simp [shL]
  · intro j h1 h2
    simp only [shL, List.getElem_map, List.getElem_range, List.getElem_replicate]
    rw [if_neg (by simp [shL] at h1; omega)]
theorem shL_set (B q L k : Nat) : (shL B q L (k + 1)).set k (dgt B q k) = shL B q L k := by
  apply List.ext_getElem
  · simp [shL]
  · intro j h1 h2
    simp only [List.getElem_set, shL, List.getElem_map, List.getElem_range]
    by_cases e : k = j
    · subst e; simp
    · rw [if_neg e]
      by_cases e2 : k ≤ j
      · rw [if_pos (by omega), if_pos e2]
      · rw [if_neg (by omega), if_neg e2]
theorem short_round (m y k : Nat) (hy : 0 < y) (hyB : y < B9) :
    ((m / B9 ^ (k + 1) % y : Nat) * 1000000000 + (dgt B9 m k : Int)).tdiv (y : Int) = (dgt B9 (m / y) k : Int) ∧
    ((m / B9 ^ (k + 1) % y : Nat) * 1000000000 + (dgt B9 m k : Int)).tmod (y : Int) = (m / B9 ^ k % y : Nat) := by
  obtain ⟨h1, h2⟩ := short_step b9 m k hy
  rw [← h1, ← h2]
  rw [Int.tmod_eq_emod_of_nonneg (by omega), Int.tdiv_eq_ediv_of_nonneg (by omega)]
  constructor <;> simp [B9]

set_option maxRecDepth 100000 in
set_option maxHeartbeats 4000000 in
theorem l01Short_any (a : Value) (m y : Nat) (w : World) (ha : LongS w a m) (hy : 0 < y) (hyB : y < 1000000000) (sm : dlen B9 m ≤ 1000000000000) :
    Calls Try.prog 122 #[a, .int .i64 (y : Int)] w fun e w' => ∃ v, e = .returned (.tuple #[v, .int .i64 (m % y : Nat)]) ∧ LongS w' v (m / y) ∧ Below w.heap.size w w' := by
  obtain ⟨hm1, a1, cap1, rfl⟩ := ha.len
  unfold maxLen at hm1
  have hA := ha.at
  have hrd := Lib.hid (fun k => short_round m y k hy hyB)
  have hbm := Lib.hid (fun k => And.intro (dgt_lt b9 m k) (And.intro (Nat.mod_lt (m / B9 ^ k) hy) (And.intro (dgt_lt b9 (m / y) k) (Nat.mod_lt (m / B9 ^ (k + 1)) hy))))
  have hval := Lib.hid (show val B9 (dgs B9 (m / y) (dlen B9 m)) = m / y by
    rw [val_dgs]; exact Nat.mod_eq_of_lt (Nat.lt_of_le_of_lt (Nat.div_le_self m y) (lt_dlen b9 m)))
  have h00 := Lib.hid (show m / B9 ^ dlen B9 m % y = 0 by rw [Nat.div_eq_of_lt (lt_dlen b9 m), Nat.zero_mod])
  have hmk := run_make_row' (P := Try.prog) 46 2 (.int .i64 0) 8 Try.underlying46 lg_info rfl .i64 .i64 (dlen B9 m) (by omega) (by omega)
  clear ha
  generalize hL1 : dlen B9 m = L at hm1 hA sm hval hmk h00 ⊢
  replace hL1 := Lib.hid hL1
  have hy0 : ((y : Int) == 0) = false := by simp; omega
  have hy1 : ¬ (y : Int) = 0 := by omega
  go_enter Try.func122, Try.ntmps122
  go_wp2
  go_loopw [7, 8] (fun rv i wr => ∃ k : Nat, k ≤ L ∧ i = .int .i64 ((k : Int) - 1) ∧ rv = .int .i64 (m / B9 ^ k % y : Nat) ∧ Own wr w.heap.size (w.heap.size + 1) 2 (.slice (some ⟨w.heap.size, 0, none⟩) L L) (ints (nats (shL B9 (m / y) L k))) ∧ Below w.heap.size w wr) (fun _ i _ => (intOf i + 1).toNat)
  case atStart =>
    refine ⟨L, Nat.le_refl _, by go_num, by rw [h00.out]; rfl, ?_, (Below.refl _ _).alloc (Nat.le_refl _) _⟩
    have := Own.made w (.int .i64 0) L 2 (by unfold maxLen; omega)
    rw [shL_full]
    simpa [ints] using this
  case round =>
    obtain ⟨k, hk, rfl, rfl, hown, bel⟩ := hrel
    have hown' := Lib.hid hown
    rcases Nat.eq_zero_or_pos k with rfl | hpos
    · have hrow : Ints wr (.slice (some ⟨w.heap.size, 0, none⟩) L L) (nats (dgs B9 (m / y) L)) := by
        have := hown.row
        rw [shL_zero] at this; exact this
      have hcut := l01Cut_any _ _ wr hrow (fun x hx => by simp only [dgs, List.mem_map] at hx; obtain ⟨j, _, rfl⟩ := hx; exact dgt_lt b9 _ _)
      rw [hval.out] at hcut
      have hm0 := Lib.hid (show m / B9 ^ 0 % y = m % y by simp)
      clear hown
      go_wp2_with fail
      refine hcut.mono ?_
      rintro e w' ⟨⟨v, rfl, hL⟩, j, rfl⟩
      go_wp2
      go_ret2
      exact ⟨_, rfl, hL.keep (below_drewN (Below.refl _ _) j), below_drewN bel j⟩
    · obtain ⟨k, rfl⟩ : ∃ k', k = k' + 1 := ⟨k - 1, by omega⟩
      have hi : (((k + 1 : Nat) : Int) - 1) = (k : Int) := by omega
      rw [hi]
      obtain ⟨b1, o1, c1, hv1, hl1, hc1⟩ := hA (by omega)
      simp only [Value.slice.injEq] at hv1
      obtain ⟨rfl, -, rfl⟩ := hv1
      have q1 := (bel.cell hl1).trans (hc1 k (by omega))
      obtain ⟨g, cap'', hg, -, -, -, hcg, hfg⟩ := hown.at (by simp [ints, shL_length]; omega)
      simp only [Value.slice.injEq, Option.some.injEq, Addr.mk.injEq, and_true] at hg
      obtain ⟨rfl, -, -⟩ := hg
      have hcg' := hcg k (by simp [ints, shL_length]; omega)
      have hfg' := hfg k
      obtain ⟨z1, z2⟩ := hrd.out k
      obtain ⟨w1, w2, w3, w4⟩ := hbm.out k
      have hset := Lib.hid (shL_set B9 (m / y) L k)
      have hsz := bel.size
      simp only [show B9 = 1000000000 from rfl] at w1 w3
      clear hc1 hcg hfg hown hi
      generalize m / B9 ^ (k + 1) % y = r at z1 z2 w4 ⊢
      generalize hr' : m / B9 ^ k % y = r' at z2 w2
      replace hr' := Lib.hid hr'
      generalize dgt B9 m k = x at q1 z1 z2 w1
      generalize dgt B9 (m / y) k = d at z1 w3 hset
      generalize (ints (nats (shL B9 (m / y) L (k + 1)))).getD k undef = old at hcg'
      have v0 : r < 1000000000 := by omega
      have v1 : r' < 1000000000 := by omega
      go_wp2
      go_roundw
      case rel =>
        refine ⟨k, by omega, by go_num, by rw [hr'.out], ?_, bel.setCell (Nat.le_refl _) _⟩
        have := hown'.out.set k (.int .i64 (d : Int))
        rw [← hset.out]
        simpa [ints, List.map_set] using this
      case measure => simp [intOf]
end Go.Proofs.Ytjkekhiceadpgaa
