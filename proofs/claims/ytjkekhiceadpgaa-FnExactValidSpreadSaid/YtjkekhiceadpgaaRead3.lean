/- readFraction of the project. Conditions: none. -/
import Derived.Test.YtjkekhiceadpgaaRead2
namespace Go.Proofs.Ytjkekhiceadpgaa
open Go.RowKit Go.Deep
set_option linter.unusedVariables false

/-- the number that a text tells -/
def numV (s : ByteArray) : Nat := decV s s.size
/-- a fraction that is valid -/
def frOk (n d : ByteArray) : Bool := numB n && (numB d && (decide (0 < numV d) && decide (Nat.gcd (numV n) (numV d) = 1)))
theorem numV_len {s : ByteArray} (h : numB s = true) : dlen W32 (numV s) ≤ 300 := Nat.le_trans (decV_len32 h (Nat.le_refl _)) (numB_size h).2

/-- a store into a box of two lists leaves every long number as it was -/
theorem LongI.setBox {w : World} {v : Value} {n b : Nat} {a1 a2 : Option Addr} {l1 c1 l2 c2 : Nat} {t : TypeId} (h : LongI w v n) (hB : Blk w b #[.slice a1 l1 c1, .slice a2 l2 c2] t) (j : Nat) (u : Value) : LongI (w.setCell ⟨b, j, none⟩ u) v n := by
  obtain ⟨hm, a, cap, rfl, hk, hc⟩ := h
  refine ⟨hm, a, cap, rfl, hk, fun i hi => ?_⟩
  obtain ⟨b', off, ha, hcell⟩ := hc i hi
  refine ⟨b', off, ha, ?_⟩
  have hne : b' ≠ b := by
    rintro rfl
    rw [hB.cell] at hcell
    have hi' : i < (dgs W32 n (dlen W32 n)).length := by rw [u32s_length] at hi; exact hi
    rw [u32s_getD _ i hi'] at hcell
    have : off + i = 0 ∨ off + i = 1 ∨ 2 ≤ off + i := by omega
    rcases this with e | e | e
    · rw [e] at hcell; simp at hcell
    · rw [e] at hcell; simp at hcell
    · rw [Array.getElem?_eq_none (by simpa using e)] at hcell; cases hcell
  rw [World.cell?_of_block (w := w) (Below.heap_setCell w ⟨b, j, none⟩ u b' hne)]
  exact hcell

/-- what readFraction returns -/
def RdI (n d : ByteArray) (w : World) (e : Ending) (w' : World) : Prop :=
  (frOk n d = true → ∃ nv dv, e = .returned (.tuple #[.agg #[nv, dv], .bool true]) ∧ LongI w' nv (numV n) ∧ LongI w' dv (numV d) ∧ Below w.heap.size w w') ∧
  (frOk n d = false → e = .returned (.tuple #[.agg #[.slice none 0 0, .slice none 0 0], .bool false]) ∧ Below w.heap.size w w')
theorem RdI.no {n d : ByteArray} {w w' : World} {e : Ending} (h : frOk n d = false) (he : e = .returned (.tuple #[.agg #[.slice none 0 0, .slice none 0 0], .bool false])) (hb : Below w.heap.size w w') : RdI n d w e w' :=
  ⟨fun h2 => (by rw [h] at h2; cases h2), fun _ => ⟨he, hb⟩⟩

set_option maxRecDepth 100000 in
set_option maxHeartbeats 4000000 in
theorem readFraction_no (n d : ByteArray) (w : World) (h : numB n = false ∨ (numB n = true ∧ numB d = false)) :
    Calls Try.prog 99 #[.agg #[.string n, .string d]] w (RdI n d w) := by
  have hno := Lib.hid (show frOk n d = false by unfold frOk; rcases h with h | ⟨h1, h2⟩ <;> simp_all)
  have hn := isNumeral_any n
  have hd := isNumeral_any d
  have hZ := Blk.new (w.alloc (.cells #[.string n, .string d] 62)) #[.slice none 0 0, .slice none 0 0] 97
  rw [World.size_alloc] at hZ
  have z0 := hZ.cell 0
  have z1 := hZ.cell 1
  have f0 := hZ.frozen 0
  have f1 := hZ.frozen 1
  simp only [List.getElem?_toArray, List.getElem?_cons_zero, List.getElem?_cons_succ] at z0 z1
  clear hZ
  rcases h with h | ⟨h1, h2⟩
  · rw [h] at hn
    have hn' := Lib.hid hn
    clear hn hd h
    go_enter Try.func99, Try.ntmps99
    go_wp2_with fail
    (with_reducible refine (hn'.out _).mono ?_)
    rintro e w1 ⟨rfl, rfl⟩
    go_wp2
    refine bodyPost_ret (v := .tuple #[.agg #[.slice none 0 0, .slice none 0 0], .bool false]) (by simp [results, Try.results99, go_sem, z0, z1]) rfl ?_
    exact RdI.no hno.out rfl (below2 w _ _)
  · rw [h1] at hn
    rw [h2] at hd
    have hn' := Lib.hid hn
    have hd' := Lib.hid hd
    clear hn hd h1 h2
    go_enter Try.func99, Try.ntmps99
    go_wp2_with fail
    (with_reducible refine (hn'.out _).mono ?_)
    rintro e w1 ⟨rfl, rfl⟩
    go_wp2_with fail
    (with_reducible refine (hd'.out _).mono ?_)
    rintro e w1 ⟨rfl, rfl⟩
    go_wp2
    refine bodyPost_ret (v := .tuple #[.agg #[.slice none 0 0, .slice none 0 0], .bool false]) (by simp [results, Try.results99, go_sem, z0, z1]) rfl ?_
    exact RdI.no hno.out rfl (below2 w _ _)

theorem Blk.drewN1 {w : World} {b : Nat} {c : Array Value} {t : TypeId} (h : Blk w b c t) : Blk w.drew b c t := h
/-- what stands behind the reading of both parts -/
def ReadTwo (w wx : World) (N D : Nat) (s4 : Value) : Prop := ∃ (B : Nat) (p1 p2 : Option Addr) (k1 k2 : Nat), s4 = .pointer (some ⟨B, 0, none⟩) ∧ Blk wx B #[.slice p1 (dlen W32 N) k1, .slice p2 (dlen W32 D) k2] 97 ∧
  LongI wx (.slice p1 (dlen W32 N) k1) N ∧ LongI wx (.slice p2 (dlen W32 D) k2) D ∧ Blk wx (w.heap.size + 1) #[.slice none 0 0, .slice none 0 0] 97 ∧ Below w.heap.size w wx ∧ B ≠ w.heap.size + 1

theorem ReadTwo.new {w W u2 : World} {N D : Nat} {pa1 pa2 : Option Addr} {pk1 pk2 : Nat} (hB1 : Blk W (w.heap.size + 1) #[.slice none 0 0, .slice none 0 0] 97) (bel : Below w.heap.size w W) (bW : Below W.heap.size W u2)
    (p1 : LongI u2 (.slice pa1 (dlen W32 N) pk1) N) (p2 : LongI u2 (.slice pa2 (dlen W32 D) pk2) D) :
    ReadTwo w (u2.alloc (.cells #[.slice pa1 (dlen W32 N) pk1, .slice pa2 (dlen W32 D) pk2] 97)) N D (.pointer (some ⟨u2.heap.size, 0, none⟩)) := by
  have h1 := hB1.lt
  have h2 := bW.size
  exact ⟨_, pa1, pa2, pk1, pk2, rfl, Blk.new _ _ _, p1.keep (below1 _ _), p2.keep (below1 _ _), (hB1.keep bW h1).keep (below1 u2 _) (by omega), below_wt (below_wt bel bW) (below1 _ _), by omega⟩
theorem ReadTwo.fill {w W u2 : World} {N D B : Nat} {pa1 pa2 : Option Addr} {pk1 pk2 : Nat} (hB1 : Blk W (w.heap.size + 1) #[.slice none 0 0, .slice none 0 0] 97) (bel : Below w.heap.size w W) (bW : Below W.heap.size W u2)
    (p1 : LongI u2 (.slice pa1 (dlen W32 N) pk1) N) (p2 : LongI u2 (.slice pa2 (dlen W32 D) pk2) D) (Z4 : Blk u2 B #[.slice none 0 0, .slice none 0 0] 97) (hB : W.heap.size ≤ B) :
    ReadTwo w ((u2.setCell ⟨B, 0, none⟩ (.slice pa1 (dlen W32 N) pk1)).setCell ⟨B, 1, none⟩ (.slice pa2 (dlen W32 D) pk2)) N D (.pointer (some ⟨B, 0, none⟩)) := by
  have h1 := hB1.lt
  have h2 := bW.size
  have Z5 := Z4.set 0 (.slice pa1 (dlen W32 N) pk1)
  refine ⟨B, pa1, pa2, pk1, pk2, rfl, ?_, (p1.setBox Z4 0 _).setBox Z5 1 _, (p2.setBox Z4 0 _).setBox Z5 1 _, ((hB1.keep bW h1).setOther (a := ⟨B, 0, none⟩) (by simp only; omega) _).setOther (a := ⟨B, 1, none⟩) (by simp only; omega) _, ?_, by omega⟩
  · have := Z5.set 1 (.slice pa2 (dlen W32 D) pk2)
    simpa using this
  · have b := below_wt bel bW
    exact (b.setCell (p := ⟨B, 0, none⟩) (by have := bel.size; simp only; omega) _).setCell (p := ⟨B, 1, none⟩) (by have := bel.size; simp only; omega) _

set_option maxRecDepth 100000 in
set_option maxHeartbeats 4000000 in
theorem readFraction_two (n d : ByteArray) (w : World) (hn : numB n = true) (hd : numB d = true) :
    Calls Try.prog 99 #[.agg #[.string n, .string d]] w (RdI n d w) := by
  have hnn := isNumeral_any n
  have hnd := isNumeral_any d
  rw [hn] at hnn
  rw [hd] at hnd
  have hln := Lib.hid (fun W => longOfDigits_any n W hn)
  have hld := Lib.hid (fun W => longOfDigits_any d W hd)
  have sN := numV_len hn
  have sD := numV_len hd
  have hok := Lib.hid (show frOk n d = (decide (0 < numV d) && decide (Nat.gcd (numV n) (numV d) = 1)) by unfold frOk; rw [hn, hd]; rfl)
  have hB0 := (Blk.new w #[.string n, .string d] 62).alloc (.cells #[.slice none 0 0, .slice none 0 0] 97)
  have hB1 := Blk.new (w.alloc (.cells #[.string n, .string d] 62)) #[.slice none 0 0, .slice none 0 0] 97
  have bel := below2 w (.cells #[.string n, .string d] 62) (.cells #[.slice none 0 0, .slice none 0 0] 97)
  simp only [World.size_alloc] at hB1
  have hn' := Lib.hid hnn
  have hd' := Lib.hid hnd
  change Hid (∀ W, Calls _ _ _ W fun e w' => ∃ v, e = .returned v ∧ LongI w' v (numV n) ∧ Below W.heap.size W w') at hln
  change Hid (∀ W, Calls _ _ _ W fun e w' => ∃ v, e = .returned v ∧ LongI w' v (numV d) ∧ Below W.heap.size W w') at hld
  unfold RdI
  generalize numV n = N at *
  generalize numV d = D at *
  clear hnn hnd hn hd
  go_enter Try.func99, Try.ntmps99
  go_upto_region 3 with (first
    | (go_at_call 125; first | ((with_reducible refine (hn'.out _).mono ?_); rintro e w1 ⟨rfl, rfl⟩) | ((with_reducible refine (hd'.out _).mono ?_); rintro e w1 ⟨rfl, rfl⟩)))
  generalize hW : (w.alloc _).alloc _ = W at *
  clear hW
  go_cut [4] (fun s4 wx => ReadTwo w wx N D s4)
  case first =>
    have c0 : W.drew.cell? ⟨w.heap.size, 0, none⟩ = some (.string n) := hB0.cell 0
    have c1 : W.drew.cell? ⟨w.heap.size, 1, none⟩ = some (.string d) := hB0.cell 1
    have cW0 : W.cell? ⟨w.heap.size, 0, none⟩ = some (.string n) := c0
    have cW1 : W.cell? ⟨w.heap.size, 1, none⟩ = some (.string d) := c1
    have Z1 : Blk W.drew (w.heap.size + 1) #[.slice none 0 0, .slice none 0 0] 97 := hB1
    have B2 := bel.drew
    have neW : w.heap.size ≠ W.heap.size := Nat.ne_of_lt (block_lt c0)
    have neW' : W.heap.size ≠ w.heap.size := Ne.symm neW
    go_region_held3 (fun w' => w'.cell? ⟨w.heap.size, 0, none⟩ = some (.string n) ∧ w'.cell? ⟨w.heap.size, 1, none⟩ = some (.string d))
      (first | go_keep | exact ⟨((below1 W _).cell (block_lt cW0)).trans cW0, ((below1 W _).cell (block_lt cW1)).trans cW1⟩ | exact ⟨((below1 _ _).cell (block_lt c0)).trans c0, ((below1 _ _).cell (block_lt c1)).trans c1⟩)
      (first
        | (go_at_call 126; first
            | ((with_reducible refine (hln.out _).mono ?_); rintro e u1 ⟨v1, rfl, p1, b1⟩; obtain ⟨_, pa1, pk1, rfl⟩ := p1.len; (first | (have Z4 := (Blk.new _ #[.slice none 0 0, .slice none 0 0] 97).keep b1 (by simp)) | (have Z4 := (Blk.drewN1 (Blk.new W #[.slice none 0 0, .slice none 0 0] 97)).keep b1 (by simp)) | skip); replace c0 : u1.cell? ⟨w.heap.size, 0, none⟩ = some (.string n) := (by first | exact (b1.cell (p := ⟨w.heap.size, 0, none⟩) (block_lt c0)).trans c0 | exact (b1.cell (p := ⟨w.heap.size, 0, none⟩) (block_lt (((below1 _ _).cell (block_lt c0)).trans c0))).trans (((below1 _ _).cell (block_lt c0)).trans c0)); replace c1 : u1.cell? ⟨w.heap.size, 1, none⟩ = some (.string d) := (by first | exact (b1.cell (p := ⟨w.heap.size, 1, none⟩) (block_lt c1)).trans c1 | exact (b1.cell (p := ⟨w.heap.size, 1, none⟩) (block_lt (((below1 _ _).cell (block_lt c1)).trans c1))).trans (((below1 _ _).cell (block_lt c1)).trans c1)); have ne1 : w.heap.size ≠ u1.heap.size := Nat.ne_of_lt (block_lt c0); have ne1' : u1.heap.size ≠ w.heap.size := Ne.symm ne1)
            | ((with_reducible refine (hld.out _).mono ?_); rintro e u2 ⟨v2, rfl, p2, b2⟩; obtain ⟨_, pa2, pk2, rfl⟩ := p2.len; (first | (replace Z4 := Z4.keep b2 Z4.lt) | (first | (have Z4 := (Blk.new _ #[.slice none 0 0, .slice none 0 0] 97).keep b2 (by simp)) | (have Z4 := (Blk.drewN1 (Blk.new W #[.slice none 0 0, .slice none 0 0] 97)).keep b2 (by simp)) | skip)); (try (have zq0 := Z4.cell 0; have zq1 := Z4.cell 1; have fq0 := Z4.frozen 0; have fq1 := Z4.frozen 1; simp only [List.getElem?_toArray, List.getElem?_cons_zero, List.getElem?_cons_succ] at zq0 zq1)); replace c0 : u2.cell? ⟨w.heap.size, 0, none⟩ = some (.string n) := (by first | exact (b2.cell (p := ⟨w.heap.size, 0, none⟩) (block_lt c0)).trans c0 | exact (b2.cell (p := ⟨w.heap.size, 0, none⟩) (block_lt (((below1 _ _).cell (block_lt c0)).trans c0))).trans (((below1 _ _).cell (block_lt c0)).trans c0)); replace c1 : u2.cell? ⟨w.heap.size, 1, none⟩ = some (.string d) := (by first | exact (b2.cell (p := ⟨w.heap.size, 1, none⟩) (block_lt c1)).trans c1 | exact (b2.cell (p := ⟨w.heap.size, 1, none⟩) (block_lt (((below1 _ _).cell (block_lt c1)).trans c1))).trans (((below1 _ _).cell (block_lt c1)).trans c1)); have ne2 : w.heap.size ≠ u2.heap.size := Nat.ne_of_lt (block_lt c0); have ne2' : u2.heap.size ≠ w.heap.size := Ne.symm ne2)))
    all_goals (go_wp2_with fail; go_meet)
    · exact ReadTwo.new (W := W) hB1 bel (below_wt ((Below.refl _ W).drew.trans b1) b2) (p1.keep b2) p2
    · exact ReadTwo.fill (W := W) hB1 bel (below_wt (below_wt ((Below.refl _ W).drew.trans b1) (below1 u1 _)) b2) (p1.keep (below_wt (below1 u1 _) b2)) p2 Z4 b1.size
    · exact ReadTwo.fill (W := W) hB1 bel (below_wt (below_wt ((below1 W _).drew) b1) b2) (p1.keep b2) p2 Z4 (Nat.le_refl _)
  case rest =>
    obtain ⟨B, p1, p2, k1, k2, rfl, hB, hN, hD, hR, bel5, hne⟩ := hcut
    have q0 := hB.cell 0
    have q1 := hB.cell 1
    have z0 := hR.cell 0
    have z1 := hR.cell 1
    have f0 := hR.frozen 0
    have f1 := hR.frozen 1
    simp only [List.getElem?_toArray, List.getElem?_cons_zero, List.getElem?_cons_succ] at q0 q1 z0 z1
    rcases Nat.eq_zero_or_pos D with rfl | hDp
    · have hf := hok.out
      rw [show decide (0 < 0) = false by decide, Bool.false_and] at hf
      have hf' := Lib.hid hf
      clear hf
      rw [dlen_zero] at q1
      go_wp2
      refine bodyPost_ret (v := .tuple #[.agg #[.slice none 0 0, .slice none 0 0], .bool false]) (by simp [results, Try.results99, go_sem, z0, z1]) rfl ?_
      exact ⟨fun h => (by rw [hf'.out] at h; cases h), fun _ => ⟨rfl, (bel5.setCell (p := ⟨w.heap.size + 1, 0, none⟩) (by simp only; omega) _).setCell (p := ⟨w.heap.size + 1, 1, none⟩) (by simp only; omega) _⟩⟩
    · have hf := hok.out
      rw [show decide (0 < D) = true from decide_eq_true hDp, Bool.true_and] at hf
      have hdz : ((dlen W32 D : Nat) : Int) ≠ 0 := by have := dlen_pos hDp; omega
      have hdz' : (((dlen W32 D : Nat) : Int) == 0) = false := by simp; exact fun h => hdz (by omega)
      have hgc := Lib.hid (divisor_any _ _ N D wc hN hD (by omega) (by omega))
      have hlo : Hid (∀ W, Calls Try.prog 81 #[.int .u64 1] W fun e w' => ∃ v, e = .returned v ∧ LongI w' v 1 ∧ Below W.heap.size W w') := fun W => longOf_any 1 W (by omega)
      have hN' := Lib.hid hN
      have hD' := Lib.hid hD
      by_cases hg : Nat.gcd N D = 1
      · rw [decide_eq_true hg] at hf
        have hf' := Lib.hid hf
        have hc0 : cmpI (Nat.gcd N D) 1 = 0 := cmpI_eq hg
        clear hok
        generalize Nat.gcd N D = g at hgc hg hc0
        clear hf hg hN hD hdz
        go_wp2_with (go_at_call 56; go_in)
        (with_reducible refine hgc.out.mono ?_)
        rintro e w2 ⟨gv, rfl, hgv, b2⟩
        go_wp2_with fail
        (with_reducible refine (hlo.out _).mono ?_)
        rintro e w3 ⟨v3, rfl, h3, b3⟩
        have hcm := Lib.hid (compare_any _ _ _ _ w3 (hgv.keep b3) h3)
        rw [hc0] at hcm
        have B3 := below_wt b2 b3
        have hB3 := hB.keep B3 hB.lt
        have hR3 := hR.keep B3 hR.lt
        have hN3 := Lib.hid (hN'.out.keep B3)
        have hD3 := Lib.hid (hD'.out.keep B3)
        have bel3 := Lib.hid (below_wt bel5 B3)
        have hR3' := Lib.hid hR3
        clear hgv h3 b2 b3 B3 hgc q0 q1 z0 z1 f0 f1
        go_wp2_with fail
        (with_reducible refine hcm.out.mono ?_)
        rintro e w4 ⟨rfl, j, rfl⟩
        have q0 : (w3.drewN j).cell? ⟨B, 0, none⟩ = some (.slice p1 (dlen W32 N) k1) := hB3.cell 0
        have q1 : (w3.drewN j).cell? ⟨B, 1, none⟩ = some (.slice p2 (dlen W32 D) k2) := hB3.cell 1
        have z0 : (w3.drewN j).cell? ⟨w.heap.size + 1, 0, none⟩ = some (.slice none 0 0) := hR3.cell 0
        have z1 : (w3.drewN j).cell? ⟨w.heap.size + 1, 1, none⟩ = some (.slice none 0 0) := hR3.cell 1
        have f0 : (w3.drewN j).frozen? ⟨w.heap.size + 1, 0, none⟩ = false := hR3.frozen 0
        have f1 : (w3.drewN j).frozen? ⟨w.heap.size + 1, 1, none⟩ = false := hR3.frozen 1
        clear hB3 hR3 hB hR
        go_wp2
        refine bodyPost_ret (v := .tuple #[.agg #[.slice p1 (dlen W32 N) k1, .slice p2 (dlen W32 D) k2], .bool true]) (by simp [results, Try.results99, go_sem, z0, z1]) rfl ?_
        have hRj : Blk (w3.drewN j) (w.heap.size + 1) #[.slice none 0 0, .slice none 0 0] 97 := hR3'.out
        refine ⟨fun _ => ⟨_, _, rfl, ?_, ?_, ?_⟩, fun h => (by rw [hf'.out] at h; cases h)⟩
        · exact ((hN3.out.keep (below_drewN (Below.refl _ _) j)).setBox hRj 0 _).setBox (hRj.set 0 (.slice p1 (dlen W32 N) k1)) 1 _
        · exact ((hD3.out.keep (below_drewN (Below.refl _ _) j)).setBox hRj 0 _).setBox (hRj.set 0 (.slice p1 (dlen W32 N) k1)) 1 _
        · exact ((below_drewN bel3.out j).setCell (p := ⟨w.heap.size + 1, 0, none⟩) (by simp only; omega) _).setCell (p := ⟨w.heap.size + 1, 1, none⟩) (by simp only; omega) _
      · rw [decide_eq_false hg] at hf
        have hf' := Lib.hid hf
        obtain ⟨c, hc0, hcn⟩ : ∃ c : Int, cmpI (Nat.gcd N D) 1 = c ∧ (c != 0) = true := ⟨_, rfl, by unfold cmpI; split <;> (try split) <;> (first | decide | omega)⟩
        clear hok
        generalize Nat.gcd N D = g at hgc hg hc0
        clear hf hg hN hD hdz
        go_wp2_with (go_at_call 56; go_in)
        (with_reducible refine hgc.out.mono ?_)
        rintro e w2 ⟨gv, rfl, hgv, b2⟩
        go_wp2_with fail
        (with_reducible refine (hlo.out _).mono ?_)
        rintro e w3 ⟨v3, rfl, h3, b3⟩
        have hcm := Lib.hid (compare_any _ _ _ _ w3 (hgv.keep b3) h3)
        rw [hc0] at hcm
        have B3 := below_wt b2 b3
        have hR3 := hR.keep B3 hR.lt
        have bel3 := Lib.hid (below_wt bel5 B3)
        clear hgv h3 b2 b3 B3 hgc q0 q1 z0 z1 f0 f1 hc0
        go_wp2_with fail
        (with_reducible refine hcm.out.mono ?_)
        rintro e w4 ⟨rfl, j, rfl⟩
        have z0 : (w3.drewN j).cell? ⟨w.heap.size + 1, 0, none⟩ = some (.slice none 0 0) := hR3.cell 0
        have z1 : (w3.drewN j).cell? ⟨w.heap.size + 1, 1, none⟩ = some (.slice none 0 0) := hR3.cell 1
        have f0 : (w3.drewN j).frozen? ⟨w.heap.size + 1, 0, none⟩ = false := hR3.frozen 0
        have f1 : (w3.drewN j).frozen? ⟨w.heap.size + 1, 1, none⟩ = false := hR3.frozen 1
        clear hR3 hB hR
        go_wp2
        refine bodyPost_ret (v := .tuple #[.agg #[.slice none 0 0, .slice none 0 0], .bool false]) (by simp [results, Try.results99, go_sem, z0, z1]) rfl ?_
        exact ⟨fun h => (by rw [hf'.out] at h; cases h), fun _ => ⟨rfl, ((below_drewN bel3.out j).setCell (p := ⟨w.heap.size + 1, 0, none⟩) (by simp only; omega) _).setCell (p := ⟨w.heap.size + 1, 1, none⟩) (by simp only; omega) _⟩⟩

theorem readFraction_any (n d : ByteArray) (w : World) : Calls Try.prog 99 #[.agg #[.string n, .string d]] w (RdI n d w) := by
  rcases hn : numB n with _ | _
  · exact readFraction_no n d w (Or.inl hn)
  · rcases hd : numB d with _ | _
    · exact readFraction_no n d w (Or.inr ⟨hn, hd⟩)
    · exact readFraction_two n d w hn hd
end Go.Proofs.Ytjkekhiceadpgaa
