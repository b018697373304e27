/- readSpread of the project, and ValidSpread. Conditions: none. -/
import Derived.Test.YtjkekhiceadpgaaRl3
namespace Go.Proofs.Ytjkekhiceadpgaa
open Go.RowKit Go.Deep
set_option linter.unusedVariables false
set_option linter.unusedSimpArgs false

set_option maxRecDepth 100000 in
set_option maxHeartbeats 4000000 in
theorem cmp_implW (a0 a1 c0 c1 : Option Addr) (k0 k1 l0 l1 N1 D1 N2 D2 : Nat) (w : World) (h0 : LongI w (.slice a0 (dlen W32 N1) k0) N1) (h1 : LongI w (.slice a1 (dlen W32 D1) k1) D1) (h2 : LongI w (.slice c0 (dlen W32 N2) l0) N2) (h3 : LongI w (.slice c1 (dlen W32 D2) l1) D2)
    (s0 : dlen W32 N1 ≤ 1000000) (s1 : dlen W32 D1 ≤ 1000000) (s2 : dlen W32 N2 ≤ 1000000) (s3 : dlen W32 D2 ≤ 1000000) :
    Calls Try.prog 50 #[.agg #[.slice a0 (dlen W32 N1) k0, .slice a1 (dlen W32 D1) k1], .agg #[.slice c0 (dlen W32 N2) l0, .slice c1 (dlen W32 D2) l1]] w fun e w' => e = .returned (.int .i64 (cmpI (N1 * D2) (N2 * D1))) ∧ Below w.heap.size w w' := by
  have bel := below2 w (.cells #[.slice a0 (dlen W32 N1) k0, .slice a1 (dlen W32 D1) k1] 97) (.cells #[.slice c0 (dlen W32 N2) l0, .slice c1 (dlen W32 D2) l1] 97)
  have hB0 := (Blk.new w #[.slice a0 (dlen W32 N1) k0, .slice a1 (dlen W32 D1) k1] 97).alloc (.cells #[.slice c0 (dlen W32 N2) l0, .slice c1 (dlen W32 D2) l1] 97)
  have hB1 := Blk.new (w.alloc (.cells #[.slice a0 (dlen W32 N1) k0, .slice a1 (dlen W32 D1) k1] 97)) #[.slice c0 (dlen W32 N2) l0, .slice c1 (dlen W32 D2) l1] 97
  simp only [World.size_alloc] at hB1
  have g0 := Lib.hid (fun W b => (h0.keep bel).keep (w' := W) b)
  have g1 := Lib.hid (fun W b => (h1.keep bel).keep (w' := W) b)
  have g2 := Lib.hid (fun W b => (h2.keep bel).keep (w' := W) b)
  have g3 := Lib.hid (fun W b => (h3.keep bel).keep (w' := W) b)
  clear h0 h1 h2 h3
  go_enter Try.func50, Try.ntmps50
  go_wp2
  generalize hW : (w.alloc _).alloc _ = W at *
  clear hW
  have q0 : W.drew.cell? ⟨w.heap.size, 0, none⟩ = some (.slice a0 (dlen W32 N1) k0) := hB0.cell 0
  have q1 : W.drew.cell? ⟨w.heap.size, 1, none⟩ = some (.slice a1 (dlen W32 D1) k1) := hB0.cell 1
  have q2 : W.drew.cell? ⟨w.heap.size + 1, 0, none⟩ = some (.slice c0 (dlen W32 N2) l0) := hB1.cell 0
  have q3 : W.drew.cell? ⟨w.heap.size + 1, 1, none⟩ = some (.slice c1 (dlen W32 D2) l1) := hB1.cell 1
  clear hB0 hB1
  go_region_held3 (fun w' => w'.cell? ⟨w.heap.size, 0, none⟩ = some (.slice a0 (dlen W32 N1) k0) ∧ w'.cell? ⟨w.heap.size, 1, none⟩ = some (.slice a1 (dlen W32 D1) k1) ∧ w'.cell? ⟨w.heap.size + 1, 0, none⟩ = some (.slice c0 (dlen W32 N2) l0) ∧ w'.cell? ⟨w.heap.size + 1, 1, none⟩ = some (.slice c1 (dlen W32 D2) l1))
    (go_keep)
    (first
      | (go_at_call 84; first
          | ((with_reducible refine (times_any (.slice a0 (dlen W32 N1) k0) (.slice c1 (dlen W32 D2) l1) N1 D2 _ (g0.out _ (by (repeat (first | exact Below.refl _ _ | refine Below.drew ?_ | refine below_wt ?_ b1)))) (g3.out _ (by (repeat (first | exact Below.refl _ _ | refine Below.drew ?_ | refine below_wt ?_ b1)))) (by omega) (by omega)).mono ?_); rintro e u1 ⟨r1, rfl, pr1, b1⟩; replace q0 : u1.cell? ⟨w.heap.size, 0, none⟩ = some (.slice a0 (dlen W32 N1) k0) := (b1.cell (p := ⟨w.heap.size, 0, none⟩) (block_lt q0)).trans q0; replace q1 : u1.cell? ⟨w.heap.size, 1, none⟩ = some (.slice a1 (dlen W32 D1) k1) := (b1.cell (p := ⟨w.heap.size, 1, none⟩) (block_lt q1)).trans q1; replace q2 : u1.cell? ⟨w.heap.size + 1, 0, none⟩ = some (.slice c0 (dlen W32 N2) l0) := (b1.cell (p := ⟨w.heap.size + 1, 0, none⟩) (block_lt q2)).trans q2; replace q3 : u1.cell? ⟨w.heap.size + 1, 1, none⟩ = some (.slice c1 (dlen W32 D2) l1) := (b1.cell (p := ⟨w.heap.size + 1, 1, none⟩) (block_lt q3)).trans q3)
          | ((with_reducible refine (times_any (.slice c0 (dlen W32 N2) l0) (.slice a1 (dlen W32 D1) k1) N2 D1 _ (g2.out _ (by (repeat (first | exact Below.refl _ _ | refine Below.drew ?_ | refine below_wt ?_ b1)))) (g1.out _ (by (repeat (first | exact Below.refl _ _ | refine Below.drew ?_ | refine below_wt ?_ b1)))) (by omega) (by omega)).mono ?_); rintro e u2 ⟨r2, rfl, pr2, b2⟩; replace q0 : u2.cell? ⟨w.heap.size, 0, none⟩ = some (.slice a0 (dlen W32 N1) k0) := (b2.cell (p := ⟨w.heap.size, 0, none⟩) (block_lt q0)).trans q0; replace q1 : u2.cell? ⟨w.heap.size, 1, none⟩ = some (.slice a1 (dlen W32 D1) k1) := (b2.cell (p := ⟨w.heap.size, 1, none⟩) (block_lt q1)).trans q1; replace q2 : u2.cell? ⟨w.heap.size + 1, 0, none⟩ = some (.slice c0 (dlen W32 N2) l0) := (b2.cell (p := ⟨w.heap.size + 1, 0, none⟩) (block_lt q2)).trans q2; replace q3 : u2.cell? ⟨w.heap.size + 1, 1, none⟩ = some (.slice c1 (dlen W32 D2) l1) := (b2.cell (p := ⟨w.heap.size + 1, 1, none⟩) (block_lt q3)).trans q3))
      | (go_at_call 86; ((with_reducible refine (compare_bel _ _ (N1 * D2) (N2 * D1) _ (pr1.keep b2) pr2).mono ?_); rintro e u3 ⟨rfl, b3⟩; replace q0 : u3.cell? ⟨w.heap.size, 0, none⟩ = some (.slice a0 (dlen W32 N1) k0) := (b3.cell (p := ⟨w.heap.size, 0, none⟩) (block_lt q0)).trans q0; replace q1 : u3.cell? ⟨w.heap.size, 1, none⟩ = some (.slice a1 (dlen W32 D1) k1) := (b3.cell (p := ⟨w.heap.size, 1, none⟩) (block_lt q1)).trans q1; replace q2 : u3.cell? ⟨w.heap.size + 1, 0, none⟩ = some (.slice c0 (dlen W32 N2) l0) := (b3.cell (p := ⟨w.heap.size + 1, 0, none⟩) (block_lt q2)).trans q2; replace q3 : u3.cell? ⟨w.heap.size + 1, 1, none⟩ = some (.slice c1 (dlen W32 D2) l1) := (b3.cell (p := ⟨w.heap.size + 1, 1, none⟩) (block_lt q3)).trans q3)))
  go_wp2
  go_ret
  exact ⟨rfl, below_wt (below_wt (below_wt bel.drew b1) b2) b3⟩

set_option maxRecDepth 100000 in
set_option maxHeartbeats 4000000 in
theorem cmp_specW (a0 a1 c0 c1 : Option Addr) (k0 k1 l0 l1 N1 D1 N2 D2 : Nat) (w : World) (h0 : LongS w (.slice a0 (dlen B9 N1) k0) N1) (h1 : LongS w (.slice a1 (dlen B9 D1) k1) D1) (h2 : LongS w (.slice c0 (dlen B9 N2) l0) N2) (h3 : LongS w (.slice c1 (dlen B9 D2) l1) D2)
    (s0 : dlen B9 N1 ≤ 1000000) (s1 : dlen B9 D1 ≤ 1000000) (s2 : dlen B9 N2 ≤ 1000000) (s3 : dlen B9 D2 ≤ 1000000) :
    Calls Try.prog 46 #[.agg #[.slice a0 (dlen B9 N1) k0, .slice a1 (dlen B9 D1) k1], .agg #[.slice c0 (dlen B9 N2) l0, .slice c1 (dlen B9 D2) l1]] w fun e w' => e = .returned (.int .i64 (cmpI (N1 * D2) (N2 * D1))) ∧ Below w.heap.size w w' := by
  have bel := below2 w (.cells #[.slice a0 (dlen B9 N1) k0, .slice a1 (dlen B9 D1) k1] 83) (.cells #[.slice c0 (dlen B9 N2) l0, .slice c1 (dlen B9 D2) l1] 83)
  have hB0 := (Blk.new w #[.slice a0 (dlen B9 N1) k0, .slice a1 (dlen B9 D1) k1] 83).alloc (.cells #[.slice c0 (dlen B9 N2) l0, .slice c1 (dlen B9 D2) l1] 83)
  have hB1 := Blk.new (w.alloc (.cells #[.slice a0 (dlen B9 N1) k0, .slice a1 (dlen B9 D1) k1] 83)) #[.slice c0 (dlen B9 N2) l0, .slice c1 (dlen B9 D2) l1] 83
  simp only [World.size_alloc] at hB1
  have g0 := Lib.hid (fun W b => (h0.keep bel).keep (w' := W) b)
  have g1 := Lib.hid (fun W b => (h1.keep bel).keep (w' := W) b)
  have g2 := Lib.hid (fun W b => (h2.keep bel).keep (w' := W) b)
  have g3 := Lib.hid (fun W b => (h3.keep bel).keep (w' := W) b)
  clear h0 h1 h2 h3
  go_enter Try.func46, Try.ntmps46
  go_wp2
  generalize hW : (w.alloc _).alloc _ = W at *
  clear hW
  have q0 : W.drew.cell? ⟨w.heap.size, 0, none⟩ = some (.slice a0 (dlen B9 N1) k0) := hB0.cell 0
  have q1 : W.drew.cell? ⟨w.heap.size, 1, none⟩ = some (.slice a1 (dlen B9 D1) k1) := hB0.cell 1
  have q2 : W.drew.cell? ⟨w.heap.size + 1, 0, none⟩ = some (.slice c0 (dlen B9 N2) l0) := hB1.cell 0
  have q3 : W.drew.cell? ⟨w.heap.size + 1, 1, none⟩ = some (.slice c1 (dlen B9 D2) l1) := hB1.cell 1
  clear hB0 hB1
  go_region_held3 (fun w' => w'.cell? ⟨w.heap.size, 0, none⟩ = some (.slice a0 (dlen B9 N1) k0) ∧ w'.cell? ⟨w.heap.size, 1, none⟩ = some (.slice a1 (dlen B9 D1) k1) ∧ w'.cell? ⟨w.heap.size + 1, 0, none⟩ = some (.slice c0 (dlen B9 N2) l0) ∧ w'.cell? ⟨w.heap.size + 1, 1, none⟩ = some (.slice c1 (dlen B9 D2) l1))
    (go_keep)
    (first
      | (go_at_call 80; first
          | ((with_reducible refine (l01Product_any (.slice a0 (dlen B9 N1) k0) (.slice c1 (dlen B9 D2) l1) N1 D2 _ (g0.out _ (by (repeat (first | exact Below.refl _ _ | refine Below.drew ?_ | refine below_wt ?_ b1)))) (g3.out _ (by (repeat (first | exact Below.refl _ _ | refine Below.drew ?_ | refine below_wt ?_ b1)))) (by omega) (by omega)).mono ?_); rintro e u1 ⟨r1, rfl, pr1, b1⟩; replace q0 : u1.cell? ⟨w.heap.size, 0, none⟩ = some (.slice a0 (dlen B9 N1) k0) := (b1.cell (p := ⟨w.heap.size, 0, none⟩) (block_lt q0)).trans q0; replace q1 : u1.cell? ⟨w.heap.size, 1, none⟩ = some (.slice a1 (dlen B9 D1) k1) := (b1.cell (p := ⟨w.heap.size, 1, none⟩) (block_lt q1)).trans q1; replace q2 : u1.cell? ⟨w.heap.size + 1, 0, none⟩ = some (.slice c0 (dlen B9 N2) l0) := (b1.cell (p := ⟨w.heap.size + 1, 0, none⟩) (block_lt q2)).trans q2; replace q3 : u1.cell? ⟨w.heap.size + 1, 1, none⟩ = some (.slice c1 (dlen B9 D2) l1) := (b1.cell (p := ⟨w.heap.size + 1, 1, none⟩) (block_lt q3)).trans q3)
          | ((with_reducible refine (l01Product_any (.slice c0 (dlen B9 N2) l0) (.slice a1 (dlen B9 D1) k1) N2 D1 _ (g2.out _ (by (repeat (first | exact Below.refl _ _ | refine Below.drew ?_ | refine below_wt ?_ b1)))) (g1.out _ (by (repeat (first | exact Below.refl _ _ | refine Below.drew ?_ | refine below_wt ?_ b1)))) (by omega) (by omega)).mono ?_); rintro e u2 ⟨r2, rfl, pr2, b2⟩; replace q0 : u2.cell? ⟨w.heap.size, 0, none⟩ = some (.slice a0 (dlen B9 N1) k0) := (b2.cell (p := ⟨w.heap.size, 0, none⟩) (block_lt q0)).trans q0; replace q1 : u2.cell? ⟨w.heap.size, 1, none⟩ = some (.slice a1 (dlen B9 D1) k1) := (b2.cell (p := ⟨w.heap.size, 1, none⟩) (block_lt q1)).trans q1; replace q2 : u2.cell? ⟨w.heap.size + 1, 0, none⟩ = some (.slice c0 (dlen B9 N2) l0) := (b2.cell (p := ⟨w.heap.size + 1, 0, none⟩) (block_lt q2)).trans q2; replace q3 : u2.cell? ⟨w.heap.size + 1, 1, none⟩ = some (.slice c1 (dlen B9 D2) l1) := (b2.cell (p := ⟨w.heap.size + 1, 1, none⟩) (block_lt q3)).trans q3))
      | (go_at_call 53; ((with_reducible refine (l01Cmp_bel _ _ (N1 * D2) (N2 * D1) _ (pr1.keep b2) pr2).mono ?_); rintro e u3 ⟨rfl, b3⟩; replace q0 : u3.cell? ⟨w.heap.size, 0, none⟩ = some (.slice a0 (dlen B9 N1) k0) := (b3.cell (p := ⟨w.heap.size, 0, none⟩) (block_lt q0)).trans q0; replace q1 : u3.cell? ⟨w.heap.size, 1, none⟩ = some (.slice a1 (dlen B9 D1) k1) := (b3.cell (p := ⟨w.heap.size, 1, none⟩) (block_lt q1)).trans q1; replace q2 : u3.cell? ⟨w.heap.size + 1, 0, none⟩ = some (.slice c0 (dlen B9 N2) l0) := (b3.cell (p := ⟨w.heap.size + 1, 0, none⟩) (block_lt q2)).trans q2; replace q3 : u3.cell? ⟨w.heap.size + 1, 1, none⟩ = some (.slice c1 (dlen B9 D2) l1) := (b3.cell (p := ⟨w.heap.size + 1, 1, none⟩) (block_lt q3)).trans q3)))
  go_wp2
  go_ret
  exact ⟨rfl, below_wt (below_wt (below_wt bel.drew b1) b2) b3⟩

/-- whether texts are a spread -/
def spreadB (l : List (ByteArray × ByteArray)) : Bool := decide (1 ≤ l.length ∧ l.length ≤ 6) && (frsOk l && decide ((sumR (numP l)).1 = (sumR (numP l)).2))
theorem numP_get (l : List (ByteArray × ByteArray)) (i : Nat) (h : i < l.length) : (numP l).getD i (0, 0) = (numV (l.getD i (⟨#[]⟩, ⟨#[]⟩)).1, numV (l.getD i (⟨#[]⟩, ⟨#[]⟩)).2) := by
  simp [numP, List.getD, h]
theorem numP_ok {l : List (ByteArray × ByteArray)} (h : frsOk l = true) (i : Nat) (hi : i < l.length) : frOk (l.getD i (⟨#[]⟩, ⟨#[]⟩)).1 (l.getD i (⟨#[]⟩, ⟨#[]⟩)).2 = true := by
  have e : l.getD i (⟨#[]⟩, ⟨#[]⟩) = l[i] := by simp [List.getD, hi]
  rw [e]
  exact frsOk_at h _ (List.getElem_mem hi)
theorem numP_len {l : List (ByteArray × ByteArray)} (h : frsOk l = true) : ∀ i, i < (numP l).length → dlen W32 ((numP l).getD i (0, 0)).1 ≤ 300 ∧ dlen W32 ((numP l).getD i (0, 0)).2 ≤ 300 := by
  intro i hi
  rw [numP_length] at hi
  rw [numP_get l i hi]
  have := frOk_num (numP_ok h i hi)
  exact ⟨numV_len this.1, numV_len this.2⟩
theorem one_dlen : dlen W32 1 ≤ 300 := Nat.le_trans (dlen_le w32 (L := 1) (by simp only [W32]; omega)) (by decide)
theorem cmp_ne (a b : Nat) : (cmpI (a * 1) (1 * b) == 0) = decide (a = b) := by
  rw [Nat.mul_one, Nat.one_mul]
  unfold cmpI
  by_cases h1 : a < b
  · rw [if_pos h1, decide_eq_false (by omega)]; rfl
  · rw [if_neg h1]
    by_cases h2 : b < a
    · rw [if_pos h2, decide_eq_false (by omega)]; rfl
    · rw [if_neg h2, decide_eq_true (by omega)]; rfl

set_option maxRecDepth 100000 in
set_option maxHeartbeats 4000000 in
theorem readSpread_any (v : Value) (l : List (ByteArray × ByteArray)) (w : World) (hv : FrL w v l) :
    Calls Try.prog 34 #[v] w fun e w' => ∃ a n cap, e = .returned (.tuple #[.slice a n cap, .bool (spreadB l)]) ∧ Below w.heap.size w w' ∧ (spreadB l = true → n = l.length ∧ PairL LongI w' (.slice a n cap) (numP l)) := by
  obtain ⟨hm, va, vc, rfl, _⟩ := id hv
  unfold maxLen at hm
  by_cases hr : 1 ≤ l.length ∧ l.length ≤ 6
  · have hrd := Lib.hid (readFractions_any (.slice va l.length vc) l w hv (by omega))
    have hlen := Lib.hid (fun h => numP_len (l := l) h)
    have hone := Lib.hid (fun W => oneRatio_any W)
    have hsp := Lib.hid (show spreadB l = (frsOk l && decide ((sumR (numP l)).1 = (sumR (numP l)).2)) by unfold spreadB; rw [decide_eq_true hr, Bool.true_and])
    have hnl := Lib.hid (numP_length l)
    obtain ⟨hr1, hr2⟩ := hr
    obtain ⟨L, hL⟩ : ∃ L, L = l.length := ⟨_, rfl⟩
    rw [← hL] at hr1 hr2 hrd hnl hm ⊢
    have i1 : (1 : Int) ≤ (L : Int) := by omega
    have i2 : (L : Int) ≤ 6 := by omega
    clear hv hL
    go_enter Try.func34, Try.ntmps34
    go_wp2_with (go_at_call 64; go_in)
    (with_reducible refine hrd.out.mono ?_)
    rintro e w1 ⟨a, n, cap, rfl, b1, hval⟩
    have hval' := Lib.hid hval
    have B1 := Lib.hid b1
    clear hval b1
    rcases hok : frsOk l with _ | _
    · have hf := Lib.hid (show spreadB l = false by rw [hsp.out, hok]; rfl)
      replace hok := Lib.hid hok
      go_wp2
      go_ret2
      exact ⟨none, 0, 0, by rw [hf.out]; rfl, B1.out, fun h => by rw [hf.out] at h; cases h⟩
    · obtain ⟨rfl, hP⟩ := hval'.out hok
      have hsum := Lib.hid (sumOfRatios_any (.slice a n cap) (numP l) 300 w1 hP (hlen.out hok) (by rw [hnl.out]; omega) (by decide) (by rw [hnl.out]; omega))
      have hsl := Lib.hid (sumR_len (numP l) 300 (hlen.out hok) n (by rw [hnl.out]; exact Nat.le_refl _))
      have htk := Lib.hid (show (numP l).take n = numP l by rw [← hnl.out]; exact List.take_length)
      have hsp2 := Lib.hid (show spreadB l = decide ((sumR (numP l)).1 = (sumR (numP l)).2) by rw [hsp.out, hok, Bool.true_and])
      replace hok := Lib.hid hok
      have hP' := Lib.hid hP
      clear hP hval'
      go_wp2_with fail
      (with_reducible refine hsum.out.mono ?_)
      rintro e w2 ⟨p, q, rfl, hp, hq, b2⟩
      obtain ⟨_, pa, pc, rfl⟩ := hp.len
      obtain ⟨_, qa, qc, rfl⟩ := hq.len
      have hp' := Lib.hid hp
      have hq' := Lib.hid hq
      have B2 := Lib.hid (below_wt B1.out b2)
      have hP2 := Lib.hid (hP'.out.keep likeI b2)
      have hl1 := Lib.hid (show dlen W32 (sumR (numP l)).1 ≤ 10000 ∧ dlen W32 (sumR (numP l)).2 ≤ 10000 by have := hsl.out; rw [htk.out] at this; omega)
      clear hp hq b2
      go_wp2_with fail
      (with_reducible refine (hone.out _).mono ?_)
      rintro e w3 ⟨p1, q1, rfl, hp1, hq1, b3⟩
      obtain ⟨_, p1a, p1c, rfl⟩ := hp1.len
      obtain ⟨_, q1a, q1c, rfl⟩ := hq1.len
      have hcm := Lib.hid (cmp_implW pa qa p1a q1a pc qc p1c q1c _ _ 1 1 w3 (hp'.out.keep b3) (hq'.out.keep b3) hp1 hq1 (Nat.le_trans hl1.out.1 (by decide)) (Nat.le_trans hl1.out.2 (by decide)) (Nat.le_trans one_dlen (by decide)) (Nat.le_trans one_dlen (by decide)))
      have B3 := Lib.hid (below_wt B2.out b3)
      have hP3 := Lib.hid (hP2.out.keep likeI b3)
      have hcn := cmp_ne (sumR (numP l)).1 (sumR (numP l)).2
      clear hp1 hq1 b3
      generalize decide ((sumR (numP l)).1 = (sumR (numP l)).2) = dd at *
      generalize cmpI ((sumR (numP l)).1 * 1) (1 * (sumR (numP l)).2) = cv at *
      go_wp2_with fail
      (with_reducible refine hcm.out.mono ?_)
      rintro e w4 ⟨rfl, b4⟩
      have B4 := Lib.hid (below_wt B3.out b4)
      have hP4 := Lib.hid (hP3.out.keep likeI b4)
      clear b4
      rcases dd with _ | _
      · go_wp2
        go_ret2
        exact ⟨none, 0, 0, by rw [hsp2.out]; rfl, B4.out, fun h => by rw [hsp2.out] at h; cases h⟩
      · go_wp2
        go_ret2
        exact ⟨a, n, cap, by rw [hsp2.out]; rfl, B4.out, fun _ => ⟨rfl, hP4.out⟩⟩
  · have hf := Lib.hid (show spreadB l = false by unfold spreadB; rw [decide_eq_false hr, Bool.false_and])
    obtain ⟨L, hL⟩ : ∃ L, L = l.length := ⟨_, rfl⟩
    rw [← hL] at hr hm ⊢
    clear hL hv
    by_cases h1 : 1 ≤ L
    · have h2 : ¬ (L : Int) ≤ 6 := by omega
      have h1' : (1 : Int) ≤ (L : Int) := by omega
      clear hr h1
      go_enter Try.func34, Try.ntmps34
      go_wp2_with (go_at_call 64; go_in)
      go_ret2
      exact ⟨none, 0, 0, by rw [hf.out]; rfl, Below.refl _ _, fun h => by rw [hf.out] at h; cases h⟩
    · have h1' : ¬ (1 : Int) ≤ (L : Int) := by omega
      clear hr h1
      go_enter Try.func34, Try.ntmps34
      go_wp2_with (go_at_call 64; go_in)
      go_ret2
      exact ⟨none, 0, 0, by rw [hf.out]; rfl, Below.refl _ _, fun h => by rw [hf.out] at h; cases h⟩

set_option maxRecDepth 100000 in
set_option maxHeartbeats 2000000 in
theorem ValidSpread_impl (v : Value) (l : List (ByteArray × ByteArray)) (w : World) (hv : FrL w v l) :
    Calls Try.prog 11 #[v] w fun e w' => e = .returned (.bool (spreadB l)) ∧ Below w.heap.size w w' := by
  have hr := Lib.hid (readSpread_any v l w hv)
  obtain ⟨hm, va, vc, rfl, _⟩ := hv
  generalize l.length = L at *
  go_enter Try.func11, Try.ntmps11
  go_wp2_with fail
  (with_reducible refine hr.out.mono ?_)
  rintro e w1 ⟨a, n, cap, rfl, b1, hval⟩
  clear hval
  go_wp2
  go_ret
  exact ⟨rfl, b1⟩
end Go.Proofs.Ytjkekhiceadpgaa
