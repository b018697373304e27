/- The comparison of two fractions, both sides. Conditions: at most 300 digits in each part. -/
import Derived.Test.YtjkekhiceadpgaaFrac
namespace Go.Proofs.Ytjkekhiceadpgaa
open Go.RowKit Go.Deep
set_option linter.unusedVariables false

theorem compare_bel (a b : Value) (m n : Nat) (w : World) (ha : LongI w a m) (hb : LongI w b n) :
    Calls Try.prog 86 #[a, b] w fun e w' => e = .returned (.int .i64 (cmpI m n)) ∧ Below w.heap.size w w' :=
  (compare_any a b m n w ha hb).mono fun _ _ ⟨h1, k, h2⟩ => ⟨h1, by rw [h2]; exact below_drewN (Below.refl _ _) k⟩

set_option maxRecDepth 100000 in
set_option maxHeartbeats 4000000 in
theorem cmp_spec (a0 a1 c0 c1 : Option Addr) (k0 k1 l0 l1 N1 D1 N2 D2 : Nat) (w : World) (h0 : LongS w (.slice a0 (dlen B9 N1) k0) N1) (h1 : LongS w (.slice a1 (dlen B9 D1) k1) D1) (h2 : LongS w (.slice c0 (dlen B9 N2) l0) N2) (h3 : LongS w (.slice c1 (dlen B9 D2) l1) D2)
    (s0 : dlen B9 N1 ≤ 300) (s1 : dlen B9 D1 ≤ 300) (s2 : dlen B9 N2 ≤ 300) (s3 : dlen B9 D2 ≤ 300) :
    Calls Try.prog 46 #[.agg #[.slice a0 (dlen B9 N1) k0, .slice a1 (dlen B9 D1) k1], .agg #[.slice c0 (dlen B9 N2) l0, .slice c1 (dlen B9 D2) l1]] w fun e w' => e = .returned (.int .i64 (cmpI (N1 * D2) (N2 * D1))) ∧ Below w.heap.size w w' := by
  have bel := below2 w (.cells #[.slice a0 (dlen B9 N1) k0, .slice a1 (dlen B9 D1) k1] 83) (.cells #[.slice c0 (dlen B9 N2) l0, .slice c1 (dlen B9 D2) l1] 83)
  have hB0 := (Blk.new w #[.slice a0 (dlen B9 N1) k0, .slice a1 (dlen B9 D1) k1] 83).alloc (.cells #[.slice c0 (dlen B9 N2) l0, .slice c1 (dlen B9 D2) l1] 83)
  have hB1 := Blk.new (w.alloc (.cells #[.slice a0 (dlen B9 N1) k0, .slice a1 (dlen B9 D1) k1] 83)) #[.slice c0 (dlen B9 N2) l0, .slice c1 (dlen B9 D2) l1] 83
  simp only [World.size_alloc] at hB1
  have g0 := Lib.hid (fun W b => (h0.keep bel).keep (w' := W) b)
  have g1 := Lib.hid (fun W b => (h1.keep bel).keep (w' := W) b)
  have g2 := Lib.hid (fun W b => (h2.keep bel).keep (w' := W) b)
  have g3 := Lib.hid (fun W b => (h3.keep bel).keep (w' := W) b)
  clear h0 h1 h2 h3
  go_enter Try.func46, Try.ntmps46
  go_wp2
  generalize hW : (w.alloc _).alloc _ = W at *
  clear hW
  have q0 : W.drew.cell? ⟨w.heap.size, 0, none⟩ = some (.slice a0 (dlen B9 N1) k0) := hB0.cell 0
  have q1 : W.drew.cell? ⟨w.heap.size, 1, none⟩ = some (.slice a1 (dlen B9 D1) k1) := hB0.cell 1
  have q2 : W.drew.cell? ⟨w.heap.size + 1, 0, none⟩ = some (.slice c0 (dlen B9 N2) l0) := hB1.cell 0
  have q3 : W.drew.cell? ⟨w.heap.size + 1, 1, none⟩ = some (.slice c1 (dlen B9 D2) l1) := hB1.cell 1
  clear hB0 hB1
  go_region_held3 (fun w' => w'.cell? ⟨w.heap.size, 0, none⟩ = some (.slice a0 (dlen B9 N1) k0) ∧ w'.cell? ⟨w.heap.size, 1, none⟩ = some (.slice a1 (dlen B9 D1) k1) ∧ w'.cell? ⟨w.heap.size + 1, 0, none⟩ = some (.slice c0 (dlen B9 N2) l0) ∧ w'.cell? ⟨w.heap.size + 1, 1, none⟩ = some (.slice c1 (dlen B9 D2) l1))
    (go_keep)
    (first
      | (go_at_call 80; first
          | ((with_reducible refine (l01Product_any (.slice a0 (dlen B9 N1) k0) (.slice c1 (dlen B9 D2) l1) N1 D2 _ (g0.out _ (by (repeat (first | exact Below.refl _ _ | refine Below.drew ?_ | refine below_wt ?_ b1)))) (g3.out _ (by (repeat (first | exact Below.refl _ _ | refine Below.drew ?_ | refine below_wt ?_ b1)))) (by omega) (by omega)).mono ?_); rintro e u1 ⟨r1, rfl, pr1, b1⟩; replace q0 : u1.cell? ⟨w.heap.size, 0, none⟩ = some (.slice a0 (dlen B9 N1) k0) := (b1.cell (p := ⟨w.heap.size, 0, none⟩) (block_lt q0)).trans q0; replace q1 : u1.cell? ⟨w.heap.size, 1, none⟩ = some (.slice a1 (dlen B9 D1) k1) := (b1.cell (p := ⟨w.heap.size, 1, none⟩) (block_lt q1)).trans q1; replace q2 : u1.cell? ⟨w.heap.size + 1, 0, none⟩ = some (.slice c0 (dlen B9 N2) l0) := (b1.cell (p := ⟨w.heap.size + 1, 0, none⟩) (block_lt q2)).trans q2; replace q3 : u1.cell? ⟨w.heap.size + 1, 1, none⟩ = some (.slice c1 (dlen B9 D2) l1) := (b1.cell (p := ⟨w.heap.size + 1, 1, none⟩) (block_lt q3)).trans q3)
          | ((with_reducible refine (l01Product_any (.slice c0 (dlen B9 N2) l0) (.slice a1 (dlen B9 D1) k1) N2 D1 _ (g2.out _ (by (repeat (first | exact Below.refl _ _ | refine Below.drew ?_ | refine below_wt ?_ b1)))) (g1.out _ (by (repeat (first | exact Below.refl _ _ | refine Below.drew ?_ | refine below_wt ?_ b1)))) (by omega) (by omega)).mono ?_); rintro e u2 ⟨r2, rfl, pr2, b2⟩; replace q0 : u2.cell? ⟨w.heap.size, 0, none⟩ = some (.slice a0 (dlen B9 N1) k0) := (b2.cell (p := ⟨w.heap.size, 0, none⟩) (block_lt q0)).trans q0; replace q1 : u2.cell? ⟨w.heap.size, 1, none⟩ = some (.slice a1 (dlen B9 D1) k1) := (b2.cell (p := ⟨w.heap.size, 1, none⟩) (block_lt q1)).trans q1; replace q2 : u2.cell? ⟨w.heap.size + 1, 0, none⟩ = some (.slice c0 (dlen B9 N2) l0) := (b2.cell (p := ⟨w.heap.size + 1, 0, none⟩) (block_lt q2)).trans q2; replace q3 : u2.cell? ⟨w.heap.size + 1, 1, none⟩ = some (.slice c1 (dlen B9 D2) l1) := (b2.cell (p := ⟨w.heap.size + 1, 1, none⟩) (block_lt q3)).trans q3))
      | (go_at_call 53; ((with_reducible refine (l01Cmp_bel _ _ (N1 * D2) (N2 * D1) _ (pr1.keep b2) pr2).mono ?_); rintro e u3 ⟨rfl, b3⟩; replace q0 : u3.cell? ⟨w.heap.size, 0, none⟩ = some (.slice a0 (dlen B9 N1) k0) := (b3.cell (p := ⟨w.heap.size, 0, none⟩) (block_lt q0)).trans q0; replace q1 : u3.cell? ⟨w.heap.size, 1, none⟩ = some (.slice a1 (dlen B9 D1) k1) := (b3.cell (p := ⟨w.heap.size, 1, none⟩) (block_lt q1)).trans q1; replace q2 : u3.cell? ⟨w.heap.size + 1, 0, none⟩ = some (.slice c0 (dlen B9 N2) l0) := (b3.cell (p := ⟨w.heap.size + 1, 0, none⟩) (block_lt q2)).trans q2; replace q3 : u3.cell? ⟨w.heap.size + 1, 1, none⟩ = some (.slice c1 (dlen B9 D2) l1) := (b3.cell (p := ⟨w.heap.size + 1, 1, none⟩) (block_lt q3)).trans q3)))
  go_wp2
  go_ret
  exact ⟨rfl, below_wt (below_wt (below_wt bel.drew b1) b2) b3⟩

set_option maxRecDepth 100000 in
set_option maxHeartbeats 4000000 in
theorem cmp_impl (a0 a1 c0 c1 : Option Addr) (k0 k1 l0 l1 N1 D1 N2 D2 : Nat) (w : World) (h0 : LongI w (.slice a0 (dlen W32 N1) k0) N1) (h1 : LongI w (.slice a1 (dlen W32 D1) k1) D1) (h2 : LongI w (.slice c0 (dlen W32 N2) l0) N2) (h3 : LongI w (.slice c1 (dlen W32 D2) l1) D2)
    (s0 : dlen W32 N1 ≤ 300) (s1 : dlen W32 D1 ≤ 300) (s2 : dlen W32 N2 ≤ 300) (s3 : dlen W32 D2 ≤ 300) :
    Calls Try.prog 50 #[.agg #[.slice a0 (dlen W32 N1) k0, .slice a1 (dlen W32 D1) k1], .agg #[.slice c0 (dlen W32 N2) l0, .slice c1 (dlen W32 D2) l1]] w fun e w' => e = .returned (.int .i64 (cmpI (N1 * D2) (N2 * D1))) ∧ Below w.heap.size w w' := by
  have bel := below2 w (.cells #[.slice a0 (dlen W32 N1) k0, .slice a1 (dlen W32 D1) k1] 97) (.cells #[.slice c0 (dlen W32 N2) l0, .slice c1 (dlen W32 D2) l1] 97)
  have hB0 := (Blk.new w #[.slice a0 (dlen W32 N1) k0, .slice a1 (dlen W32 D1) k1] 97).alloc (.cells #[.slice c0 (dlen W32 N2) l0, .slice c1 (dlen W32 D2) l1] 97)
  have hB1 := Blk.new (w.alloc (.cells #[.slice a0 (dlen W32 N1) k0, .slice a1 (dlen W32 D1) k1] 97)) #[.slice c0 (dlen W32 N2) l0, .slice c1 (dlen W32 D2) l1] 97
  simp only [World.size_alloc] at hB1
  have g0 := Lib.hid (fun W b => (h0.keep bel).keep (w' := W) b)
  have g1 := Lib.hid (fun W b => (h1.keep bel).keep (w' := W) b)
  have g2 := Lib.hid (fun W b => (h2.keep bel).keep (w' := W) b)
  have g3 := Lib.hid (fun W b => (h3.keep bel).keep (w' := W) b)
  clear h0 h1 h2 h3
  go_enter Try.func50, Try.ntmps50
  go_wp2
  generalize hW : (w.alloc _).alloc _ = W at *
  clear hW
  have q0 : W.drew.cell? ⟨w.heap.size, 0, none⟩ = some (.slice a0 (dlen W32 N1) k0) := hB0.cell 0
  have q1 : W.drew.cell? ⟨w.heap.size, 1, none⟩ = some (.slice a1 (dlen W32 D1) k1) := hB0.cell 1
  have q2 : W.drew.cell? ⟨w.heap.size + 1, 0, none⟩ = some (.slice c0 (dlen W32 N2) l0) := hB1.cell 0
  have q3 : W.drew.cell? ⟨w.heap.size + 1, 1, none⟩ = some (.slice c1 (dlen W32 D2) l1) := hB1.cell 1
  clear hB0 hB1
  go_region_held3 (fun w' => w'.cell? ⟨w.heap.size, 0, none⟩ = some (.slice a0 (dlen W32 N1) k0) ∧ w'.cell? ⟨w.heap.size, 1, none⟩ = some (.slice a1 (dlen W32 D1) k1) ∧ w'.cell? ⟨w.heap.size + 1, 0, none⟩ = some (.slice c0 (dlen W32 N2) l0) ∧ w'.cell? ⟨w.heap.size + 1, 1, none⟩ = some (.slice c1 (dlen W32 D2) l1))
    (go_keep)
    (first
      | (go_at_call 84; first
          | ((with_reducible refine (times_any (.slice a0 (dlen W32 N1) k0) (.slice c1 (dlen W32 D2) l1) N1 D2 _ (g0.out _ (by (repeat (first | exact Below.refl _ _ | refine Below.drew ?_ | refine below_wt ?_ b1)))) (g3.out _ (by (repeat (first | exact Below.refl _ _ | refine Below.drew ?_ | refine below_wt ?_ b1)))) (by omega) (by omega)).mono ?_); rintro e u1 ⟨r1, rfl, pr1, b1⟩; replace q0 : u1.cell? ⟨w.heap.size, 0, none⟩ = some (.slice a0 (dlen W32 N1) k0) := (b1.cell (p := ⟨w.heap.size, 0, none⟩) (block_lt q0)).trans q0; replace q1 : u1.cell? ⟨w.heap.size, 1, none⟩ = some (.slice a1 (dlen W32 D1) k1) := (b1.cell (p := ⟨w.heap.size, 1, none⟩) (block_lt q1)).trans q1; replace q2 : u1.cell? ⟨w.heap.size + 1, 0, none⟩ = some (.slice c0 (dlen W32 N2) l0) := (b1.cell (p := ⟨w.heap.size + 1, 0, none⟩) (block_lt q2)).trans q2; replace q3 : u1.cell? ⟨w.heap.size + 1, 1, none⟩ = some (.slice c1 (dlen W32 D2) l1) := (b1.cell (p := ⟨w.heap.size + 1, 1, none⟩) (block_lt q3)).trans q3)
          | ((with_reducible refine (times_any (.slice c0 (dlen W32 N2) l0) (.slice a1 (dlen W32 D1) k1) N2 D1 _ (g2.out _ (by (repeat (first | exact Below.refl _ _ | refine Below.drew ?_ | refine below_wt ?_ b1)))) (g1.out _ (by (repeat (first | exact Below.refl _ _ | refine Below.drew ?_ | refine below_wt ?_ b1)))) (by omega) (by omega)).mono ?_); rintro e u2 ⟨r2, rfl, pr2, b2⟩; replace q0 : u2.cell? ⟨w.heap.size, 0, none⟩ = some (.slice a0 (dlen W32 N1) k0) := (b2.cell (p := ⟨w.heap.size, 0, none⟩) (block_lt q0)).trans q0; replace q1 : u2.cell? ⟨w.heap.size, 1, none⟩ = some (.slice a1 (dlen W32 D1) k1) := (b2.cell (p := ⟨w.heap.size, 1, none⟩) (block_lt q1)).trans q1; replace q2 : u2.cell? ⟨w.heap.size + 1, 0, none⟩ = some (.slice c0 (dlen W32 N2) l0) := (b2.cell (p := ⟨w.heap.size + 1, 0, none⟩) (block_lt q2)).trans q2; replace q3 : u2.cell? ⟨w.heap.size + 1, 1, none⟩ = some (.slice c1 (dlen W32 D2) l1) := (b2.cell (p := ⟨w.heap.size + 1, 1, none⟩) (block_lt q3)).trans q3))
      | (go_at_call 86; ((with_reducible refine (compare_bel _ _ (N1 * D2) (N2 * D1) _ (pr1.keep b2) pr2).mono ?_); rintro e u3 ⟨rfl, b3⟩; replace q0 : u3.cell? ⟨w.heap.size, 0, none⟩ = some (.slice a0 (dlen W32 N1) k0) := (b3.cell (p := ⟨w.heap.size, 0, none⟩) (block_lt q0)).trans q0; replace q1 : u3.cell? ⟨w.heap.size, 1, none⟩ = some (.slice a1 (dlen W32 D1) k1) := (b3.cell (p := ⟨w.heap.size, 1, none⟩) (block_lt q1)).trans q1; replace q2 : u3.cell? ⟨w.heap.size + 1, 0, none⟩ = some (.slice c0 (dlen W32 N2) l0) := (b3.cell (p := ⟨w.heap.size + 1, 0, none⟩) (block_lt q2)).trans q2; replace q3 : u3.cell? ⟨w.heap.size + 1, 1, none⟩ = some (.slice c1 (dlen W32 D2) l1) := (b3.cell (p := ⟨w.heap.size + 1, 1, none⟩) (block_lt q3)).trans q3)))
  go_wp2
  go_ret
  exact ⟨rfl, below_wt (below_wt (below_wt bel.drew b1) b2) b3⟩
/-- both answers of CompareFraction -/
def cmpV (n1 d1 n2 d2 : ByteArray) : Int := if (frOk n1 d1 && frOk n2 d2) = true then cmpI (numV n1 * numV d2) (numV n2 * numV d1) else 0
def cmpC (n1 d1 n2 d2 : ByteArray) : Int := if (frOk n1 d1 && frOk n2 d2) = true then 0 else 1
theorem frOk_num {n d : ByteArray} (h : frOk n d = true) : numB n = true ∧ numB d = true := by
  unfold frOk at h
  simp only [Bool.and_eq_true] at h
  exact ⟨h.1, h.2.1⟩

theorem parse_form (n d : ByteArray) (w : World) : Calls Try.prog 95 #[.agg #[.string n, .string d]] w fun e w' => ∃ (a0 a1 : Option Addr) (x0 x1 k0 k1 : Nat), e = .returned (.tuple #[.agg #[.slice a0 x0 k0, .slice a1 x1 k1], .bool (frOk n d)]) ∧ Below w.heap.size w w' ∧
    (frOk n d = true → x0 = dlen B9 (numV n) ∧ x1 = dlen B9 (numV d) ∧ LongS w' (.slice a0 x0 k0) (numV n) ∧ LongS w' (.slice a1 x1 k1) (numV d)) := by
  refine (l01Parse_any n d w).mono ?_
  rintro e w' ⟨h1, h2⟩
  rcases hok : frOk n d with _ | _
  · obtain ⟨a0, a1, x0, x1, k0, k1, rfl, hb⟩ := h2 hok
    exact ⟨a0, a1, x0, x1, k0, k1, rfl, hb, fun h => (by cases h)⟩
  · obtain ⟨nv, dv, rfl, ln, ld, hb⟩ := h1 hok
    obtain ⟨_, a0, k0, rfl⟩ := ln.len
    obtain ⟨_, a1, k1, rfl⟩ := ld.len
    exact ⟨a0, a1, _, _, k0, k1, rfl, hb, fun _ => ⟨rfl, rfl, ln, ld⟩⟩

theorem read_form (n d : ByteArray) (w : World) : Calls Try.prog 99 #[.agg #[.string n, .string d]] w fun e w' => ∃ (a0 a1 : Option Addr) (x0 x1 k0 k1 : Nat), e = .returned (.tuple #[.agg #[.slice a0 x0 k0, .slice a1 x1 k1], .bool (frOk n d)]) ∧ Below w.heap.size w w' ∧
    (frOk n d = true → x0 = dlen W32 (numV n) ∧ x1 = dlen W32 (numV d) ∧ LongI w' (.slice a0 x0 k0) (numV n) ∧ LongI w' (.slice a1 x1 k1) (numV d)) := by
  refine (readFraction_any n d w).mono ?_
  rintro e w' ⟨h1, h2⟩
  rcases hok : frOk n d with _ | _
  · obtain ⟨rfl, hb⟩ := h2 hok
    exact ⟨none, none, 0, 0, 0, 0, rfl, hb, fun h => (by cases h)⟩
  · obtain ⟨nv, dv, rfl, ln, ld, hb⟩ := h1 hok
    obtain ⟨_, a0, k0, rfl⟩ := ln.len
    obtain ⟨_, a1, k1, rfl⟩ := ld.len
    exact ⟨a0, a1, _, _, k0, k1, rfl, hb, fun _ => ⟨rfl, rfl, ln, ld⟩⟩

theorem LongI.setBox' {w : World} {v : Value} {n b : Nat} {t : TypeId} {a1 a2 : Option Addr} {l1 c1 l2 c2 : Nat} (h : LongI w v n) (hB : Blk w b #[.slice a1 l1 c1, .slice a2 l2 c2] t) (e1 e2 : Option Addr) (x1 y1 x2 y2 : Nat) :
    LongI ((w.setCell ⟨b, 0, none⟩ (.slice e1 x1 y1)).setCell ⟨b, 1, none⟩ (.slice e2 x2 y2)) v n := (h.setBox hB 0 _).setBox (hB.set 0 (.slice e1 x1 y1)) 1 _

end Go.Proofs.Ytjkekhiceadpgaa
