/- ReadG: several texts in one (Read2, Read3, Read4, Frac, FracC). Conditions: told in each. -/
import Derived.Test.YtiddhnnofpbopaaDoorLongH
import Derived.Test.YtiddhnnofpbopaaDoorWordH
import Derived.Laws.Strings
import Derived.Lib.SmallJoins
/- isNumeral and longOfDigits of the project. Conditions: for longOfDigits the text is a numeral. -/
namespace Go.Proofs.YtiddhnnofpbopaaDoor
open Go.RowKit Go.Deep
set_option linter.unusedVariables false

/-- the number of j digits from place f on -/
def grp (s : ByteArray) (f : Nat) : Nat → Nat
  | 0 => 0
  | j + 1 => grp s f j * 10 + (byteAt s (f + j) - 48)
theorem decV_grp (s : ByteArray) (f : Nat) : ∀ j, decV s (f + j) = decV s f * 10 ^ j + grp s f j
  | 0 => by simp [grp]
  | j + 1 => by
    rw [show f + (j + 1) = (f + j) + 1 by omega, decV, decV_grp s f j, grp, Nat.pow_succ]
    rw [Nat.add_mul, Nat.mul_assoc, Nat.add_assoc]
theorem grp_lt {s : ByteArray} (h : numB s = true) (f : Nat) : ∀ j, f + j ≤ s.size → grp s f j < 10 ^ j
  | 0, _ => by simp [grp]
  | j + 1, hk => by
    have h1 := grp_lt h f j (by omega)
    have h2 := numB_digit h (show f + j < s.size by omega)
    rw [grp, Nat.pow_succ]; omega
theorem decV_len32 {s : ByteArray} (h : numB s = true) {k : Nat} (hk : k ≤ s.size) : dlen W32 (decV s k) ≤ k :=
  dlen_le w32 (Nat.lt_of_lt_of_le (decV_lt h k hk) (Nat.pow_le_pow_left (by decide) k))
theorem zero_longI (W : World) (a : Option Addr) (c : Nat) (hc : c ≤ maxLen) : LongI W (.slice a (dlen W32 0) c) 0 := by
  refine ⟨by unfold maxLen; simp [dlen_zero, dgs], a, c, by simp [dlen_zero, dgs], ⟨by simp [dlen_zero, dgs], hc⟩, fun i hi => ?_⟩
  simp [dlen_zero, dgs] at hi

end Go.Proofs.YtiddhnnofpbopaaDoor

/- readFraction of the project. Conditions: none. -/
namespace Go.Proofs.YtiddhnnofpbopaaDoor
open Go.RowKit Go.Deep
set_option linter.unusedVariables false

/-- the number that a text tells -/
def numV (s : ByteArray) : Nat := decV s s.size
/-- a fraction that is valid -/
def frOk (n d : ByteArray) : Bool := numB n && (numB d && (decide (0 < numV d) && decide (Nat.gcd (numV n) (numV d) = 1)))
theorem numV_len {s : ByteArray} (h : numB s = true) : dlen W32 (numV s) ≤ 300 := Nat.le_trans (decV_len32 h (Nat.le_refl _)) (numB_size h).2

/-- a store into a box of two lists leaves every long number as it was -/
theorem LongI.setBox {w : World} {v : Value} {n b : Nat} {a1 a2 : Option Addr} {l1 c1 l2 c2 : Nat} {t : TypeId} (h : LongI w v n) (hB : Blk w b #[.slice a1 l1 c1, .slice a2 l2 c2] t) (j : Nat) (u : Value) : LongI (w.setCell ⟨b, j, none⟩ u) v n := by
  obtain ⟨hm, a, cap, rfl, hk, hc⟩ := h
  refine ⟨hm, a, cap, rfl, hk, fun i hi => ?_⟩
  obtain ⟨b', off, ha, hcell⟩ := hc i hi
  refine ⟨b', off, ha, ?_⟩
  have hne : b' ≠ b := by
    rintro rfl
    rw [hB.cell] at hcell
    have hi' : i < (dgs W32 n (dlen W32 n)).length := by rw [u32s_length] at hi; exact hi
    rw [u32s_getD _ i hi'] at hcell
    have : off + i = 0 ∨ off + i = 1 ∨ 2 ≤ off + i := by omega
    rcases this with e | e | e
    · rw [e] at hcell; simp at hcell
    · rw [e] at hcell; simp at hcell
    · rw [Array.getElem?_eq_none (by simpa using e)] at hcell; cases hcell
  rw [World.cell?_of_block (w := w) (Below.heap_setCell w ⟨b, j, none⟩ u b' hne)]
  exact hcell

/-- what readFraction returns -/
def RdI (n d : ByteArray) (w : World) (e : Ending) (w' : World) : Prop :=
  (frOk n d = true → ∃ nv dv, e = .returned (.tuple #[.agg #[nv, dv], .bool true]) ∧ LongI w' nv (numV n) ∧ LongI w' dv (numV d) ∧ Below w.heap.size w w') ∧
  (frOk n d = false → e = .returned (.tuple #[.agg #[.slice none 0 0, .slice none 0 0], .bool false]) ∧ Below w.heap.size w w')
theorem RdI.no {n d : ByteArray} {w w' : World} {e : Ending} (h : frOk n d = false) (he : e = .returned (.tuple #[.agg #[.slice none 0 0, .slice none 0 0], .bool false])) (hb : Below w.heap.size w w') : RdI n d w e w' :=
  ⟨fun h2 => (by rw [h] at h2; cases h2), fun _ => ⟨he, hb⟩⟩

theorem Blk.drewN1 {w : World} {b : Nat} {c : Array Value} {t : TypeId} (h : Blk w b c t) : Blk w.drew b c t := h
/-- what stands behind the reading of both parts -/
def ReadTwo (w wx : World) (N D : Nat) (s4 : Value) : Prop := ∃ (B : Nat) (p1 p2 : Option Addr) (k1 k2 : Nat), s4 = .pointer (some ⟨B, 0, none⟩) ∧ Blk wx B #[.slice p1 (dlen W32 N) k1, .slice p2 (dlen W32 D) k2] 51 ∧
  LongI wx (.slice p1 (dlen W32 N) k1) N ∧ LongI wx (.slice p2 (dlen W32 D) k2) D ∧ Blk wx (w.heap.size + 1) #[.slice none 0 0, .slice none 0 0] 51 ∧ Below w.heap.size w wx ∧ B ≠ w.heap.size + 1

theorem ReadTwo.new {w W u2 : World} {N D : Nat} {pa1 pa2 : Option Addr} {pk1 pk2 : Nat} (hB1 : Blk W (w.heap.size + 1) #[.slice none 0 0, .slice none 0 0] 51) (bel : Below w.heap.size w W) (bW : Below W.heap.size W u2)
    (p1 : LongI u2 (.slice pa1 (dlen W32 N) pk1) N) (p2 : LongI u2 (.slice pa2 (dlen W32 D) pk2) D) :
    ReadTwo w (u2.alloc (.cells #[.slice pa1 (dlen W32 N) pk1, .slice pa2 (dlen W32 D) pk2] 51)) N D (.pointer (some ⟨u2.heap.size, 0, none⟩)) := by
  have h1 := hB1.lt
  have h2 := bW.size
  exact ⟨_, pa1, pa2, pk1, pk2, rfl, Blk.new _ _ _, p1.keep (below1 _ _), p2.keep (below1 _ _), (hB1.keep bW h1).keep (below1 u2 _) (by omega), below_wt (below_wt bel bW) (below1 _ _), by omega⟩
theorem ReadTwo.fill {w W u2 : World} {N D B : Nat} {pa1 pa2 : Option Addr} {pk1 pk2 : Nat} (hB1 : Blk W (w.heap.size + 1) #[.slice none 0 0, .slice none 0 0] 51) (bel : Below w.heap.size w W) (bW : Below W.heap.size W u2)
    (p1 : LongI u2 (.slice pa1 (dlen W32 N) pk1) N) (p2 : LongI u2 (.slice pa2 (dlen W32 D) pk2) D) (Z4 : Blk u2 B #[.slice none 0 0, .slice none 0 0] 51) (hB : W.heap.size ≤ B) :
    ReadTwo w ((u2.setCell ⟨B, 0, none⟩ (.slice pa1 (dlen W32 N) pk1)).setCell ⟨B, 1, none⟩ (.slice pa2 (dlen W32 D) pk2)) N D (.pointer (some ⟨B, 0, none⟩)) := by
  have h1 := hB1.lt
  have h2 := bW.size
  have Z5 := Z4.set 0 (.slice pa1 (dlen W32 N) pk1)
  refine ⟨B, pa1, pa2, pk1, pk2, rfl, ?_, (p1.setBox Z4 0 _).setBox Z5 1 _, (p2.setBox Z4 0 _).setBox Z5 1 _, ((hB1.keep bW h1).setOther (a := ⟨B, 0, none⟩) (by simp only; omega) _).setOther (a := ⟨B, 1, none⟩) (by simp only; omega) _, ?_, by omega⟩
  · have := Z5.set 1 (.slice pa2 (dlen W32 D) pk2)
    simpa using this
  · have b := below_wt bel bW
    exact (b.setCell (p := ⟨B, 0, none⟩) (by have := bel.size; simp only; omega) _).setCell (p := ⟨B, 1, none⟩) (by have := bel.size; simp only; omega) _

end Go.Proofs.YtiddhnnofpbopaaDoor

/- l01Parse of the specification. Conditions: none. -/
namespace Go.Proofs.YtiddhnnofpbopaaDoor
open Go.RowKit Go.Deep
set_option linter.unusedVariables false

theorem numV_len9 {s : ByteArray} (h : numB s = true) : dlen B9 (numV s) ≤ 300 := Nat.le_trans (decV_len9 h (Nat.le_refl _)) (numB_size h).2
theorem decV_mono (s : ByteArray) : ∀ k, decV s 1 ≤ decV s (k + 1)
  | 0 => Nat.le_refl _
  | k + 1 => by
    have := decV_mono s k
    rw [show decV s (k + 1 + 1) = decV s (k + 1) * 10 + (byteAt s (k + 1) - 48) from rfl]
    omega
theorem zero_text {s : ByteArray} (h : numB s = true) : numV s = 0 ↔ s = ⟨#[48]⟩ := by
  constructor
  · intro h0
    have h1 := numB_size h
    have h2 : ¬ (byteAt s 0 = 48 ∧ 1 < s.size) := by
      unfold numB at h
      rw [Bool.and_eq_true] at h
      exact (of_decide_eq_true h.1).2.2
    have h3 := numB_digit h (show 0 < s.size by omega)
    have h4 : decV s 1 = byteAt s 0 - 48 := by simp [decV]
    have h5 := decV_mono s (s.size - 1)
    rw [show s.size - 1 + 1 = s.size by omega, show decV s s.size = 0 from h0] at h5
    have h6 : byteAt s 0 = 48 := by omega
    have h7 : s.size = 1 := by
      by_cases c : 1 < s.size
      · exact absurd ⟨h6, c⟩ h2
      · omega
    obtain ⟨⟨l⟩⟩ := s
    have h8 : l.length = 1 := h7
    obtain ⟨x, rfl⟩ : ∃ x, l = [x] := by
      match l, h8 with
      | [x], _ => exact ⟨x, rfl⟩
    have h9 : x.toNat = 48 := h6
    have : x = 48 := UInt8.toNat_inj.1 (by rw [h9]; rfl)
    rw [this]
  · rintro rfl
    rfl
theorem text_ne {d : ByteArray} (h : ¬ d = (⟨#[48]⟩ : ByteArray)) : (d.toList == [48]) = false := by
  rw [Bool.eq_false_iff]; intro e
  have e2 := eq_of_beq e
  apply h
  rw [ByteArray.toList_eq] at e2
  obtain ⟨⟨l⟩⟩ := d
  have e3 : l = [48] := e2
  rw [e3]
theorem text_zero : ((⟨#[48]⟩ : ByteArray).toList == [48]) = true := by rw [ByteArray.toList_eq]; decide
theorem Blk.drewN2 {w : World} {b : Nat} {c : Array Value} {t : TypeId} (h : Blk w b c t) : Blk w.drew b c t := h
/-- l01Cmp with what it leaves said in another way -/
theorem l01Cmp_bel (a b : Value) (m n : Nat) (w : World) (ha : LongS w a m) (hb : LongS w b n) :
    Calls Tryd.prog 43 #[a, b] w fun e w' => e = .returned (.int .i64 (cmpI m n)) ∧ Below w.heap.size w w' :=
  (l01Cmp_any a b m n w ha hb).mono fun _ _ ⟨h1, k, h2⟩ => ⟨h1, by rw [h2]; exact below_drewN (Below.refl _ _) k⟩
theorem one_long1 (W : World) : LongS (W.alloc (.cells #[.int .i64 1] 2)) (.slice (some ⟨W.heap.size, 0, none⟩) 1 1) 1 := one_ints W 1

theorem one_long1' (W : World) (o : Obj) : LongS ((W.alloc o).alloc (.cells #[.int .i64 1] 2)) (.slice (some ⟨W.heap.size + 1, 0, none⟩) 1 1) 1 := by
  have := one_long1 (W.alloc o)
  simpa only [World.size_alloc] using this
/-- what l01Parse returns -/
def RdS (n d : ByteArray) (w : World) (e : Ending) (w' : World) : Prop :=
  (frOk n d = true → ∃ nv dv, e = .returned (.tuple #[.agg #[nv, dv], .bool true]) ∧ LongS w' nv (numV n) ∧ LongS w' dv (numV d) ∧ Below w.heap.size w w') ∧
  (frOk n d = false → ∃ (a1 a2 : Option Addr) (l1 l2 c1 c2 : Nat), e = .returned (.tuple #[.agg #[.slice a1 l1 c1, .slice a2 l2 c2], .bool false]) ∧ Below w.heap.size w w')

/-- what stands behind the reading of both parts -/
def ReadTwoS (w wx : World) (N D : Nat) (s4 : Value) : Prop := ∃ (B : Nat) (p1 p2 : Option Addr) (k1 k2 : Nat), s4 = .pointer (some ⟨B, 0, none⟩) ∧ Blk wx B #[.slice p1 (dlen B9 N) k1, .slice p2 (dlen B9 D) k2] 44 ∧
  LongS wx (.slice p1 (dlen B9 N) k1) N ∧ LongS wx (.slice p2 (dlen B9 D) k2) D ∧ Blk wx (w.heap.size + 1) #[.slice none 0 0, .slice none 0 0] 44 ∧ Below w.heap.size w wx ∧ B ≠ w.heap.size + 1

theorem ReadTwoS.new {w W u2 : World} {N D : Nat} {pa1 pa2 : Option Addr} {pk1 pk2 : Nat} (hB1 : Blk W (w.heap.size + 1) #[.slice none 0 0, .slice none 0 0] 44) (bel : Below w.heap.size w W) (bW : Below W.heap.size W u2)
    (p1 : LongS u2 (.slice pa1 (dlen B9 N) pk1) N) (p2 : LongS u2 (.slice pa2 (dlen B9 D) pk2) D) :
    ReadTwoS w (u2.alloc (.cells #[.slice pa1 (dlen B9 N) pk1, .slice pa2 (dlen B9 D) pk2] 44)) N D (.pointer (some ⟨u2.heap.size, 0, none⟩)) := by
  have h1 := hB1.lt
  have h2 := bW.size
  exact ⟨_, pa1, pa2, pk1, pk2, rfl, Blk.new _ _ _, p1.keep (below1 _ _), p2.keep (below1 _ _), (hB1.keep bW h1).keep (below1 u2 _) (by omega), below_wt (below_wt bel bW) (below1 _ _), by omega⟩
theorem ReadTwoS.fill {w W u2 : World} {N D B : Nat} {pa1 pa2 : Option Addr} {pk1 pk2 : Nat} (hB1 : Blk W (w.heap.size + 1) #[.slice none 0 0, .slice none 0 0] 44) (bel : Below w.heap.size w W) (bW : Below W.heap.size W u2)
    (p1 : LongS u2 (.slice pa1 (dlen B9 N) pk1) N) (p2 : LongS u2 (.slice pa2 (dlen B9 D) pk2) D) (Z4 : Blk u2 B #[.slice none 0 0, .slice none 0 0] 44) (hB : W.heap.size ≤ B) :
    ReadTwoS w ((u2.setCell ⟨B, 0, none⟩ (.slice pa1 (dlen B9 N) pk1)).setCell ⟨B, 1, none⟩ (.slice pa2 (dlen B9 D) pk2)) N D (.pointer (some ⟨B, 0, none⟩)) := by
  have h1 := hB1.lt
  have h2 := bW.size
  have Z5 := Z4.set 0 (.slice pa1 (dlen B9 N) pk1)
  refine ⟨B, pa1, pa2, pk1, pk2, rfl, ?_, (p1.setBox Z4 0 _).setBox Z5 1 _, (p2.setBox Z4 0 _).setBox Z5 1 _, ((hB1.keep bW h1).setOther (a := ⟨B, 0, none⟩) (by simp only; omega) _).setOther (a := ⟨B, 1, none⟩) (by simp only; omega) _, ?_, by omega⟩
  · have := Z5.set 1 (.slice pa2 (dlen B9 D) pk2)
    simpa using this
  · have b := below_wt bel bW
    exact (b.setCell (p := ⟨B, 0, none⟩) (by have := bel.size; simp only; omega) _).setCell (p := ⟨B, 1, none⟩) (by have := bel.size; simp only; omega) _

end Go.Proofs.YtiddhnnofpbopaaDoor

/- ValidFraction and FractionText of both sides; what the laws do with fractions. Conditions: none. -/
namespace Go.Proofs.YtiddhnnofpbopaaDoor
open Go.ChangeShapes Go.WideShapes Go.ChangeAt Go.RowKit Go.Deep Go.Joins
set_option linter.unusedVariables false

/-- the value v reads as a fraction's two texts -/
def FrR (w : World) (v : Value) (c : ByteArray × ByteArray) : Prop := v = .agg #[.string c.1, .string c.2] ∧ c.1.size ≤ maxLen ∧ c.2.size ≤ maxLen

/-- what is left of a size -/
def frLeft (left : Int) (k : Nat) : Int := if left < (k : Int) then -1 else left - (k : Int)
theorem frLeft_no {left : Int} {k : Nat} (h : left < (k : Int)) : frLeft left k = -1 := if_pos h
theorem frLeft_yes {left : Int} {k : Nat} (h : ¬ left < (k : Int)) : frLeft left k = left - (k : Int) := if_neg h
end Go.Proofs.YtiddhnnofpbopaaDoor

/- The comparison of two fractions, both sides. Conditions: at most 300 digits in each part. -/
namespace Go.Proofs.YtiddhnnofpbopaaDoor
open Go.RowKit Go.Deep
set_option linter.unusedVariables false

theorem compare_bel (a b : Value) (m n : Nat) (w : World) (ha : LongI w a m) (hb : LongI w b n) :
    Calls Tryd.prog 45 #[a, b] w fun e w' => e = .returned (.int .i64 (cmpI m n)) ∧ Below w.heap.size w w' :=
  (compare_any a b m n w ha hb).mono fun _ _ ⟨h1, k, h2⟩ => ⟨h1, by rw [h2]; exact below_drewN (Below.refl _ _) k⟩

/-- both answers of CompareFraction -/
def cmpV (n1 d1 n2 d2 : ByteArray) : Int := if (frOk n1 d1 && frOk n2 d2) = true then cmpI (numV n1 * numV d2) (numV n2 * numV d1) else 0
def cmpC (n1 d1 n2 d2 : ByteArray) : Int := if (frOk n1 d1 && frOk n2 d2) = true then 0 else 1
theorem frOk_num {n d : ByteArray} (h : frOk n d = true) : numB n = true ∧ numB d = true := by
  unfold frOk at h
  simp only [Bool.and_eq_true] at h
  exact ⟨h.1, h.2.1⟩

theorem LongI.setBox' {w : World} {v : Value} {n b : Nat} {t : TypeId} {a1 a2 : Option Addr} {l1 c1 l2 c2 : Nat} (h : LongI w v n) (hB : Blk w b #[.slice a1 l1 c1, .slice a2 l2 c2] t) (e1 e2 : Option Addr) (x1 y1 x2 y2 : Nat) :
    LongI ((w.setCell ⟨b, 0, none⟩ (.slice e1 x1 y1)).setCell ⟨b, 1, none⟩ (.slice e2 x2 y2)) v n := (h.setBox hB 0 _).setBox (hB.set 0 (.slice e1 x1 y1)) 1 _

end Go.Proofs.YtiddhnnofpbopaaDoor
