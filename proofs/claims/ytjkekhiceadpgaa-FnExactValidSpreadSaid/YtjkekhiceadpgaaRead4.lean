/- l01Parse of the specification. Conditions: none. -/
import Derived.Laws.Strings
import Derived.Test.YtjkekhiceadpgaaRead3
namespace Go.Proofs.Ytjkekhiceadpgaa
open Go.RowKit Go.Deep
set_option linter.unusedVariables false

theorem numV_len9 {s : ByteArray} (h : numB s = true) : dlen B9 (numV s) ≤ 300 := Nat.le_trans (decV_len9 h (Nat.le_refl _)) (numB_size h).2
theorem decV_mono (s : ByteArray) : ∀ k, decV s 1 ≤ decV s (k + 1)
  | 0 => Nat.le_refl _
  | k + 1 => by
    have := decV_mono s k
    rw [show decV s (k + 1 + 1) = decV s (k + 1) * 10 + (byteAt s (k + 1) - 48) from rfl]
    omega
theorem zero_text {s : ByteArray} (h : numB s = true) : numV s = 0 ↔ s = ⟨#[48]⟩ := by
  constructor
  · intro h0
    have h1 := numB_size h
    have h2 : ¬ (byteAt s 0 = 48 ∧ 1 < s.size) := by
      unfold numB at h
      rw [Bool.and_eq_true] at h
      exact (of_decide_eq_true h.1).2.2
    have h3 := numB_digit h (show 0 < s.size by omega)
    have h4 : decV s 1 = byteAt s 0 - 48 := by simp [decV]
    have h5 := decV_mono s (s.size - 1)
    rw [show s.size - 1 + 1 = s.size by omega, show decV s s.size = 0 from h0] at h5
    have h6 : byteAt s 0 = 48 := by omega
    have h7 : s.size = 1 := by
      by_cases c : 1 < s.size
      · exact absurd ⟨h6, c⟩ h2
      · omega
    obtain ⟨⟨l⟩⟩ := s
    have h8 : l.length = 1 := h7
    obtain ⟨x, rfl⟩ : ∃ x, l = [x] := by
      match l, h8 with
      | [x], _ => exact ⟨x, rfl⟩
    have h9 : x.toNat = 48 := h6
    have : x = 48 := UInt8.toNat_inj.1 (by rw [h9]; rfl)
    rw [this]
  · rintro rfl
    rfl
theorem text_ne {d : ByteArray} (h : ¬ d = (⟨#[48]⟩ : ByteArray)) : (d.toList == [48]) = false := by
  rw [Bool.eq_false_iff]; intro e
  have e2 := eq_of_beq e
  apply h
  rw [ByteArray.toList_eq] at e2
  obtain ⟨⟨l⟩⟩ := d
  have e3 : l = [48] := e2
  rw [e3]
theorem text_zero : ((⟨#[48]⟩ : ByteArray).toList == [48]) = true := by rw [ByteArray.toList_eq]; decide
theorem Blk.drewN2 {w : World} {b : Nat} {c : Array Value} {t : TypeId} (h : Blk w b c t) : Blk w.drew b c t := h
/-- l01Cmp with what it leaves said in another way -/
theorem l01Cmp_bel (a b : Value) (m n : Nat) (w : World) (ha : LongS w a m) (hb : LongS w b n) :
    Calls Try.prog 53 #[a, b] w fun e w' => e = .returned (.int .i64 (cmpI m n)) ∧ Below w.heap.size w w' :=
  (l01Cmp_any a b m n w ha hb).mono fun _ _ ⟨h1, k, h2⟩ => ⟨h1, by rw [h2]; exact below_drewN (Below.refl _ _) k⟩
theorem one_long1 (W : World) : LongS (W.alloc (.cells #[.int .i64 1] 2)) (.slice (some ⟨W.heap.size, 0, none⟩) 1 1) 1 := one_ints W 1

theorem one_long1' (W : World) (o : Obj) : LongS ((W.alloc o).alloc (.cells #[.int .i64 1] 2)) (.slice (some ⟨W.heap.size + 1, 0, none⟩) 1 1) 1 := by
  have := one_long1 (W.alloc o)
  simpa only [World.size_alloc] using this
/-- what l01Parse returns -/
def RdS (n d : ByteArray) (w : World) (e : Ending) (w' : World) : Prop :=
  (frOk n d = true → ∃ nv dv, e = .returned (.tuple #[.agg #[nv, dv], .bool true]) ∧ LongS w' nv (numV n) ∧ LongS w' dv (numV d) ∧ Below w.heap.size w w') ∧
  (frOk n d = false → ∃ (a1 a2 : Option Addr) (l1 l2 c1 c2 : Nat), e = .returned (.tuple #[.agg #[.slice a1 l1 c1, .slice a2 l2 c2], .bool false]) ∧ Below w.heap.size w w')

set_option maxRecDepth 100000 in
set_option maxHeartbeats 4000000 in
theorem l01Parse_no (n d : ByteArray) (w : World) (h : numB n = false ∨ (numB n = true ∧ numB d = false)) :
    Calls Try.prog 95 #[.agg #[.string n, .string d]] w (RdS n d w) := by
  have hno := Lib.hid (show frOk n d = false by unfold frOk; rcases h with h | ⟨h1, h2⟩ <;> simp_all)
  have hn := l01Numeral_any n
  have hd := l01Numeral_any d
  have hZ := Blk.new (w.alloc (.cells #[.string n, .string d] 62)) #[.slice none 0 0, .slice none 0 0] 83
  rw [World.size_alloc] at hZ
  have z0 := hZ.cell 0
  have z1 := hZ.cell 1
  have f0 := hZ.frozen 0
  have f1 := hZ.frozen 1
  simp only [List.getElem?_toArray, List.getElem?_cons_zero, List.getElem?_cons_succ] at z0 z1
  clear hZ
  rcases h with h | ⟨h1, h2⟩
  · rw [h] at hn
    have hn' := Lib.hid hn
    clear hn hd h
    go_enter Try.func95, Try.ntmps95
    go_wp2_with fail
    (with_reducible refine (hn'.out _).mono ?_)
    rintro e w1 ⟨rfl, rfl⟩
    go_wp2
    refine bodyPost_ret (v := .tuple #[.agg #[.slice none 0 0, .slice none 0 0], .bool false]) (by simp [results, Try.results95, go_sem, z0, z1]) rfl ?_
    exact ⟨fun h => (by rw [hno.out] at h; cases h), fun _ => ⟨_, _, _, _, _, _, rfl, below2 w _ _⟩⟩
  · rw [h1] at hn
    rw [h2] at hd
    have hn' := Lib.hid hn
    have hd' := Lib.hid hd
    clear hn hd h1 h2
    go_enter Try.func95, Try.ntmps95
    go_wp2_with fail
    (with_reducible refine (hn'.out _).mono ?_)
    rintro e w1 ⟨rfl, rfl⟩
    go_wp2_with fail
    (with_reducible refine (hd'.out _).mono ?_)
    rintro e w1 ⟨rfl, rfl⟩
    go_wp2
    refine bodyPost_ret (v := .tuple #[.agg #[.slice none 0 0, .slice none 0 0], .bool false]) (by simp [results, Try.results95, go_sem, z0, z1]) rfl ?_
    exact ⟨fun h => (by rw [hno.out] at h; cases h), fun _ => ⟨_, _, _, _, _, _, rfl, below2 w _ _⟩⟩

/-- what stands behind the reading of both parts -/
def ReadTwoS (w wx : World) (N D : Nat) (s4 : Value) : Prop := ∃ (B : Nat) (p1 p2 : Option Addr) (k1 k2 : Nat), s4 = .pointer (some ⟨B, 0, none⟩) ∧ Blk wx B #[.slice p1 (dlen B9 N) k1, .slice p2 (dlen B9 D) k2] 83 ∧
  LongS wx (.slice p1 (dlen B9 N) k1) N ∧ LongS wx (.slice p2 (dlen B9 D) k2) D ∧ Blk wx (w.heap.size + 1) #[.slice none 0 0, .slice none 0 0] 83 ∧ Below w.heap.size w wx ∧ B ≠ w.heap.size + 1

theorem ReadTwoS.new {w W u2 : World} {N D : Nat} {pa1 pa2 : Option Addr} {pk1 pk2 : Nat} (hB1 : Blk W (w.heap.size + 1) #[.slice none 0 0, .slice none 0 0] 83) (bel : Below w.heap.size w W) (bW : Below W.heap.size W u2)
    (p1 : LongS u2 (.slice pa1 (dlen B9 N) pk1) N) (p2 : LongS u2 (.slice pa2 (dlen B9 D) pk2) D) :
    ReadTwoS w (u2.alloc (.cells #[.slice pa1 (dlen B9 N) pk1, .slice pa2 (dlen B9 D) pk2] 83)) N D (.pointer (some ⟨u2.heap.size, 0, none⟩)) := by
  have h1 := hB1.lt
  have h2 := bW.size
  exact ⟨_, pa1, pa2, pk1, pk2, rfl, Blk.new _ _ _, p1.keep (below1 _ _), p2.keep (below1 _ _), (hB1.keep bW h1).keep (below1 u2 _) (by omega), below_wt (below_wt bel bW) (below1 _ _), by omega⟩
theorem ReadTwoS.fill {w W u2 : World} {N D B : Nat} {pa1 pa2 : Option Addr} {pk1 pk2 : Nat} (hB1 : Blk W (w.heap.size + 1) #[.slice none 0 0, .slice none 0 0] 83) (bel : Below w.heap.size w W) (bW : Below W.heap.size W u2)
    (p1 : LongS u2 (.slice pa1 (dlen B9 N) pk1) N) (p2 : LongS u2 (.slice pa2 (dlen B9 D) pk2) D) (Z4 : Blk u2 B #[.slice none 0 0, .slice none 0 0] 83) (hB : W.heap.size ≤ B) :
    ReadTwoS w ((u2.setCell ⟨B, 0, none⟩ (.slice pa1 (dlen B9 N) pk1)).setCell ⟨B, 1, none⟩ (.slice pa2 (dlen B9 D) pk2)) N D (.pointer (some ⟨B, 0, none⟩)) := by
  have h1 := hB1.lt
  have h2 := bW.size
  have Z5 := Z4.set 0 (.slice pa1 (dlen B9 N) pk1)
  refine ⟨B, pa1, pa2, pk1, pk2, rfl, ?_, (p1.setBox Z4 0 _).setBox Z5 1 _, (p2.setBox Z4 0 _).setBox Z5 1 _, ((hB1.keep bW h1).setOther (a := ⟨B, 0, none⟩) (by simp only; omega) _).setOther (a := ⟨B, 1, none⟩) (by simp only; omega) _, ?_, by omega⟩
  · have := Z5.set 1 (.slice pa2 (dlen B9 D) pk2)
    simpa using this
  · have b := below_wt bel bW
    exact (b.setCell (p := ⟨B, 0, none⟩) (by have := bel.size; simp only; omega) _).setCell (p := ⟨B, 1, none⟩) (by have := bel.size; simp only; omega) _

set_option maxRecDepth 100000 in
set_option maxHeartbeats 4000000 in
theorem l01Parse_two (n d : ByteArray) (w : World) (hn : numB n = true) (hd : numB d = true) (hD0 : 0 < numV d) :
    Calls Try.prog 95 #[.agg #[.string n, .string d]] w (RdS n d w) := by
  have hne : ¬ d = (⟨#[48]⟩ : ByteArray) := fun e => by have := (zero_text hd).2 e; omega
  have htl := text_ne hne
  have hnn := l01Numeral_any n
  have hnd := l01Numeral_any d
  rw [hn] at hnn
  rw [hd] at hnd
  have hln := Lib.hid (fun W => l01Read_any n W hn)
  have hld := Lib.hid (fun W => l01Read_any d W hd)
  have sN := numV_len9 hn
  have sD := numV_len9 hd
  have hok := Lib.hid (show frOk n d = (decide (0 < numV d) && decide (Nat.gcd (numV n) (numV d) = 1)) by unfold frOk; rw [hn, hd]; rfl)
  have hB0 := (Blk.new w #[.string n, .string d] 62).alloc (.cells #[.slice none 0 0, .slice none 0 0] 83)
  have hB1 := Blk.new (w.alloc (.cells #[.string n, .string d] 62)) #[.slice none 0 0, .slice none 0 0] 83
  have bel := below2 w (.cells #[.string n, .string d] 62) (.cells #[.slice none 0 0, .slice none 0 0] 83)
  simp only [World.size_alloc] at hB1
  have hn' := Lib.hid hnn
  have hd' := Lib.hid hnd
  change Hid (∀ W, Calls _ _ _ W fun e w' => ∃ v, e = .returned v ∧ LongS w' v (numV n) ∧ Below W.heap.size W w') at hln
  change Hid (∀ W, Calls _ _ _ W fun e w' => ∃ v, e = .returned v ∧ LongS w' v (numV d) ∧ Below W.heap.size W w') at hld
  unfold RdS
  generalize numV n = N at *
  generalize numV d = D at *
  clear hnn hnd hn hd hne
  go_enter Try.func95, Try.ntmps95
  go_upto_region 3 with (first
    | (go_at_call 120; first | ((with_reducible refine (hn'.out _).mono ?_); rintro e w1 ⟨rfl, rfl⟩) | ((with_reducible refine (hd'.out _).mono ?_); rintro e w1 ⟨rfl, rfl⟩)))
  generalize hW : (w.alloc _).alloc _ = W at *
  clear hW
  go_cut [4] (fun s4 wx => ReadTwoS w wx N D s4)
  case first =>
    have c0 : W.drew.cell? ⟨w.heap.size, 0, none⟩ = some (.string n) := hB0.cell 0
    have c1 : W.drew.cell? ⟨w.heap.size, 1, none⟩ = some (.string d) := hB0.cell 1
    have cW0 : W.cell? ⟨w.heap.size, 0, none⟩ = some (.string n) := c0
    have cW1 : W.cell? ⟨w.heap.size, 1, none⟩ = some (.string d) := c1
    have Z1 : Blk W.drew (w.heap.size + 1) #[.slice none 0 0, .slice none 0 0] 83 := hB1
    have B2 := bel.drew
    have neW : w.heap.size ≠ W.heap.size := Nat.ne_of_lt (block_lt c0)
    have neW' : W.heap.size ≠ w.heap.size := Ne.symm neW
    go_region_held3 (fun w' => w'.cell? ⟨w.heap.size, 0, none⟩ = some (.string n) ∧ w'.cell? ⟨w.heap.size, 1, none⟩ = some (.string d))
      (first | go_keep | exact ⟨((below1 W _).cell (block_lt cW0)).trans cW0, ((below1 W _).cell (block_lt cW1)).trans cW1⟩ | exact ⟨((below1 _ _).cell (block_lt c0)).trans c0, ((below1 _ _).cell (block_lt c1)).trans c1⟩)
      (first
        | (go_at_call 121; first
            | ((with_reducible refine (hln.out _).mono ?_); rintro e u1 ⟨v1, rfl, p1, b1⟩; obtain ⟨_, pa1, pk1, rfl⟩ := p1.len; (first | (have Z4 := (Blk.new _ #[.slice none 0 0, .slice none 0 0] 83).keep b1 (by simp)) | (have Z4 := (Blk.drewN1 (Blk.new W #[.slice none 0 0, .slice none 0 0] 83)).keep b1 (by simp)) | skip); replace c0 : u1.cell? ⟨w.heap.size, 0, none⟩ = some (.string n) := (by first | exact (b1.cell (p := ⟨w.heap.size, 0, none⟩) (block_lt c0)).trans c0 | exact (b1.cell (p := ⟨w.heap.size, 0, none⟩) (block_lt (((below1 _ _).cell (block_lt c0)).trans c0))).trans (((below1 _ _).cell (block_lt c0)).trans c0)); replace c1 : u1.cell? ⟨w.heap.size, 1, none⟩ = some (.string d) := (by first | exact (b1.cell (p := ⟨w.heap.size, 1, none⟩) (block_lt c1)).trans c1 | exact (b1.cell (p := ⟨w.heap.size, 1, none⟩) (block_lt (((below1 _ _).cell (block_lt c1)).trans c1))).trans (((below1 _ _).cell (block_lt c1)).trans c1)); have ne1 : w.heap.size ≠ u1.heap.size := Nat.ne_of_lt (block_lt c0); have ne1' : u1.heap.size ≠ w.heap.size := Ne.symm ne1)
            | ((with_reducible refine (hld.out _).mono ?_); rintro e u2 ⟨v2, rfl, p2, b2⟩; obtain ⟨_, pa2, pk2, rfl⟩ := p2.len; (first | (replace Z4 := Z4.keep b2 Z4.lt) | (first | (have Z4 := (Blk.new _ #[.slice none 0 0, .slice none 0 0] 83).keep b2 (by simp)) | (have Z4 := (Blk.drewN1 (Blk.new W #[.slice none 0 0, .slice none 0 0] 83)).keep b2 (by simp)) | skip)); (try (have zq0 := Z4.cell 0; have zq1 := Z4.cell 1; have fq0 := Z4.frozen 0; have fq1 := Z4.frozen 1; simp only [List.getElem?_toArray, List.getElem?_cons_zero, List.getElem?_cons_succ] at zq0 zq1)); replace c0 : u2.cell? ⟨w.heap.size, 0, none⟩ = some (.string n) := (by first | exact (b2.cell (p := ⟨w.heap.size, 0, none⟩) (block_lt c0)).trans c0 | exact (b2.cell (p := ⟨w.heap.size, 0, none⟩) (block_lt (((below1 _ _).cell (block_lt c0)).trans c0))).trans (((below1 _ _).cell (block_lt c0)).trans c0)); replace c1 : u2.cell? ⟨w.heap.size, 1, none⟩ = some (.string d) := (by first | exact (b2.cell (p := ⟨w.heap.size, 1, none⟩) (block_lt c1)).trans c1 | exact (b2.cell (p := ⟨w.heap.size, 1, none⟩) (block_lt (((below1 _ _).cell (block_lt c1)).trans c1))).trans (((below1 _ _).cell (block_lt c1)).trans c1)); have ne2 : w.heap.size ≠ u2.heap.size := Nat.ne_of_lt (block_lt c0); have ne2' : u2.heap.size ≠ w.heap.size := Ne.symm ne2)))
    all_goals (go_wp2_with fail; go_meet)
    · exact ReadTwoS.new (W := W) hB1 bel (below_wt ((Below.refl _ W).drew.trans b1) b2) (p1.keep b2) p2
    · exact ReadTwoS.fill (W := W) hB1 bel (below_wt (below_wt ((Below.refl _ W).drew.trans b1) (below1 u1 _)) b2) (p1.keep (below_wt (below1 u1 _) b2)) p2 Z4 b1.size
    · exact ReadTwoS.fill (W := W) hB1 bel (below_wt (below_wt ((below1 W _).drew) b1) b2) (p1.keep b2) p2 Z4 (Nat.le_refl _)
  case rest =>
    obtain ⟨B, p1, p2, k1, k2, rfl, hB, hN, hD, hR, bel5, hne⟩ := hcut
    have q0 := hB.cell 0
    have q1 := hB.cell 1
    have z0 := hR.cell 0
    have z1 := hR.cell 1
    have f0 := hR.frozen 0
    have f1 := hR.frozen 1
    simp only [List.getElem?_toArray, List.getElem?_cons_zero, List.getElem?_cons_succ] at q0 q1 z0 z1
    have hgc := Lib.hid (fun (W : World) (b : Below wc.heap.size wc W) => l01Gcd_any _ _ N D W (hN.keep b) (hD.keep b) (by omega) (by omega))
    have hf := hok.out
    rw [show decide (0 < D) = true from decide_eq_true hD0, Bool.true_and] at hf
    have hf' := Lib.hid hf
    have hN' := Lib.hid hN
    have hD' := Lib.hid hD
    have hcv : (cmpI (Nat.gcd N D) 1 == 0) = decide (Nat.gcd N D = 1) := by
      unfold cmpI
      by_cases h1 : Nat.gcd N D < 1
      · rw [if_pos h1, decide_eq_false (by omega)]; rfl
      · rw [if_neg h1]
        by_cases h2 : 1 < Nat.gcd N D
        · rw [if_pos h2, decide_eq_false (by omega)]; rfl
        · rw [if_neg h2, decide_eq_true (by omega)]; rfl
    rw [← hcv] at hf'
    have sg : dlen B9 (Nat.gcd N D) ≤ 300 := Nat.le_trans (gcd_len hD0) sD
    clear hf hcv hok hN hD htl
    generalize Nat.gcd N D = g at hgc hf' sg
    replace q0 : wc.drew.cell? ⟨B, 0, none⟩ = some (.slice p1 (dlen B9 N) k1) := q0
    replace q1 : wc.drew.cell? ⟨B, 1, none⟩ = some (.slice p2 (dlen B9 D) k2) := q1
    have qW0 : wc.cell? ⟨B, 0, none⟩ = some (.slice p1 (dlen B9 N) k1) := q0
    have qW1 : wc.cell? ⟨B, 1, none⟩ = some (.slice p2 (dlen B9 D) k2) := q1
    have hne' : w.heap.size + 1 ≠ B := Ne.symm hne
    clear z0 z1 f0 f1
    go_wp2_with fail
    go_region_held3 (fun w' => w'.cell? ⟨B, 0, none⟩ = some (.slice p1 (dlen B9 N) k1) ∧ w'.cell? ⟨B, 1, none⟩ = some (.slice p2 (dlen B9 D) k2))
      (first | go_keep | exact ⟨((below1 wc _).cell (block_lt qW0)).trans qW0, ((below1 wc _).cell (block_lt qW1)).trans qW1⟩ | exact ⟨((below1 _ _).cell (block_lt q0)).trans q0, ((below1 _ _).cell (block_lt q1)).trans q1⟩)
      (first
        | (go_at_call 97; ((with_reducible refine (hgc.out _ (by (repeat (first | exact Below.refl _ _ | refine Below.drew ?_ | refine below_wt ?_ (below1 _ _))))).mono ?_); rintro e u1 ⟨gv, rfl, hg, b1⟩; have B1 : Below wc.heap.size wc u1 := (by (repeat (first | exact Below.refl _ _ | refine Below.drew ?_ | refine below_wt ?_ b1 | refine below_wt ?_ (below1 _ _)))); replace q0 : u1.cell? ⟨B, 0, none⟩ = some (.slice p1 (dlen B9 N) k1) := (by first | exact (b1.cell (p := ⟨B, 0, none⟩) (block_lt q0)).trans q0 | exact (b1.cell (p := ⟨B, 0, none⟩) (block_lt (((below1 _ _).cell (block_lt q0)).trans q0))).trans (((below1 _ _).cell (block_lt q0)).trans q0)); replace q1 : u1.cell? ⟨B, 1, none⟩ = some (.slice p2 (dlen B9 D) k2) := (by first | exact (b1.cell (p := ⟨B, 1, none⟩) (block_lt q1)).trans q1 | exact (b1.cell (p := ⟨B, 1, none⟩) (block_lt (((below1 _ _).cell (block_lt q1)).trans q1))).trans (((below1 _ _).cell (block_lt q1)).trans q1))))
        | (go_at_call 53; ((with_reducible refine (l01Cmp_bel _ _ g 1 _ (by first | exact hg | exact hg.keep (below1 _ _)) (by (repeat (first | exact one_long1 _ | exact one_long1' _ _ | refine LongS.keep ?_ (below1 _ _) | refine LongS.keep ?_ (Below.refl _ _).drew | refine LongS.keep ?_ b1)))).mono ?_); rintro e u2 ⟨rfl, b2⟩; have B2 : Below wc.heap.size wc u2 := below_wt (by (repeat (first | exact Below.refl _ _ | exact B1 | refine Below.drew ?_ | refine below_wt ?_ b1 | refine below_wt ?_ (below1 _ _)))) b2; have hZr := hR.keep B2 hR.lt; have z0 := hZr.cell 0; have z1 := hZr.cell 1; have f0 := hZr.frozen 0; have f1 := hZr.frozen 1; simp only [List.getElem?_toArray, List.getElem?_cons_zero, List.getElem?_cons_succ] at z0 z1; replace q0 : u2.cell? ⟨B, 0, none⟩ = some (.slice p1 (dlen B9 N) k1) := (by first | exact (b2.cell (p := ⟨B, 0, none⟩) (block_lt q0)).trans q0 | exact (b2.cell (p := ⟨B, 0, none⟩) (block_lt (((below1 _ _).cell (block_lt q0)).trans q0))).trans (((below1 _ _).cell (block_lt q0)).trans q0)); replace q1 : u2.cell? ⟨B, 1, none⟩ = some (.slice p2 (dlen B9 D) k2) := (by first | exact (b2.cell (p := ⟨B, 1, none⟩) (block_lt q1)).trans q1 | exact (b2.cell (p := ⟨B, 1, none⟩) (block_lt (((below1 _ _).cell (block_lt q1)).trans q1))).trans (((below1 _ _).cell (block_lt q1)).trans q1)))))
    all_goals
      have hN2 := Lib.hid (((hN'.out.keep B2).setBox hZr 0 (.slice p1 (dlen B9 N) k1)).setBox (hZr.set 0 (.slice p1 (dlen B9 N) k1)) 1 (.slice p2 (dlen B9 D) k2))
      have hD2 := Lib.hid (((hD'.out.keep B2).setBox hZr 0 (.slice p1 (dlen B9 N) k1)).setBox (hZr.set 0 (.slice p1 (dlen B9 N) k1)) 1 (.slice p2 (dlen B9 D) k2))
      have hfin := Lib.hid (((below_wt bel5 B2).setCell (p := ⟨w.heap.size + 1, 0, none⟩) (by simp only; omega) (.slice p1 (dlen B9 N) k1)).setCell (p := ⟨w.heap.size + 1, 1, none⟩) (by simp only; omega) (.slice p2 (dlen B9 D) k2))
      clear b1 b2 B2 hg
      go_wp2
      refine bodyPost_ret (v := .tuple #[.agg #[.slice p1 (dlen B9 N) k1, .slice p2 (dlen B9 D) k2], .bool (cmpI g 1 == 0)]) (by simp [results, Try.results95, go_sem, z0, z1]) rfl ?_
      exact ⟨fun h => ⟨_, _, by rw [hf'.out] at h; rw [h], hN2.out, hD2.out, hfin.out⟩, fun h => ⟨_, _, _, _, _, _, by rw [hf'.out] at h; rw [h], hfin.out⟩⟩

set_option maxRecDepth 100000 in
set_option maxHeartbeats 4000000 in
theorem l01Parse_zero (n : ByteArray) (w : World) (hn : numB n = true) :
    Calls Try.prog 95 #[.agg #[.string n, .string ⟨#[48]⟩]] w (RdS n ⟨#[48]⟩ w) := by
  have hd : numB ⟨#[48]⟩ = true := by decide
  have hno := Lib.hid (show frOk n ⟨#[48]⟩ = false by
    have h0 : numV ⟨#[48]⟩ = 0 := (zero_text hd).2 rfl
    unfold frOk
    rw [hn, hd, h0]; rfl)
  have hnn := l01Numeral_any n
  have hnd := l01Numeral_any ⟨#[48]⟩
  rw [hn] at hnn
  rw [hd] at hnd
  have htl := text_zero
  generalize (⟨#[48]⟩ : ByteArray) = d at *
  have hZ := Blk.new (w.alloc (.cells #[.string n, .string d] 62)) #[.slice none 0 0, .slice none 0 0] 83
  rw [World.size_alloc] at hZ
  have z0 := hZ.cell 0
  have z1 := hZ.cell 1
  have f0 := hZ.frozen 0
  have f1 := hZ.frozen 1
  simp only [List.getElem?_toArray, List.getElem?_cons_zero, List.getElem?_cons_succ] at z0 z1
  have hn' := Lib.hid hnn
  have hd' := Lib.hid hnd
  clear hZ hnn hnd hn hd
  go_enter Try.func95, Try.ntmps95
  go_wp2_with fail
  (with_reducible refine (hn'.out _).mono ?_)
  rintro e w1 ⟨rfl, rfl⟩
  go_wp2_with fail
  (with_reducible refine (hd'.out _).mono ?_)
  rintro e w1 ⟨rfl, rfl⟩
  go_wp2
  refine bodyPost_ret (v := .tuple #[.agg #[.slice none 0 0, .slice none 0 0], .bool false]) (by simp [results, Try.results95, go_sem, z0, z1]) rfl ?_
  exact ⟨fun h => (by rw [hno.out] at h; cases h), fun _ => ⟨_, _, _, _, _, _, rfl, below2 w _ _⟩⟩

theorem l01Parse_any (n d : ByteArray) (w : World) : Calls Try.prog 95 #[.agg #[.string n, .string d]] w (RdS n d w) := by
  rcases hn : numB n with _ | _
  · exact l01Parse_no n d w (Or.inl hn)
  · rcases hd : numB d with _ | _
    · exact l01Parse_no n d w (Or.inr ⟨hn, hd⟩)
    · rcases Nat.eq_zero_or_pos (numV d) with h0 | h0
      · obtain rfl := (zero_text hd).1 h0
        exact l01Parse_zero n w hn
      · exact l01Parse_two n d w hn hd h0
end Go.Proofs.Ytjkekhiceadpgaa
