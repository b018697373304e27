/- Words for the laws' walks: lists of numbers and rows, in old memory or made by a call, told like chains; the conversions, comparisons and marks of all kinds in one form. Conditions: told in each. -/
import Derived.Test.YtgaadcinhaphpaaDoorTouch
import Derived.Test.YtgaadcinhaphpaaDoorEq
import Derived.Test.YtgaadcinhaphpaaDoorSz
import Derived.ChangeSlices
import Derived.Deep.DeepCutAuto
namespace Go.Proofs.YtgaadcinhaphpaaDoor
open Go.ChangeShapes Go.WideShapes Go.ChangeAt Go.RowKit Go.Deep Go.Joins
set_option linter.unusedVariables false

theorem Blk.store3 {w : World} {b B : Nat} {c : Array Value} {t : TypeId} (h : Blk w b c t) (ne : b ≠ B) (x y z : Value) : Blk (((w.setCell ⟨B, 0, none⟩ x).setCell ⟨B, 1, none⟩ y).setCell ⟨B, 2, none⟩ z) b c t :=
  ((h.setOther (a := ⟨B, 0, none⟩) ne x).setOther (a := ⟨B, 1, none⟩) ne y).setOther (a := ⟨B, 2, none⟩) ne z
theorem Blk.alloc_drew {w : World} {b : Nat} {c : Array Value} {t : TypeId} (h : Blk w.drew b c t) (o : Obj) : Blk (w.alloc o).drew b c t := Blk.alloc (w := w) h o
theorem three2 {w : World} {b b' : Nat} {x y z x' y' z' : Value} {t t' : TypeId} (h : Blk w b #[x, y, z] t) (k : Blk w b' #[x', y', z'] t') :
    w.cell? ⟨b, 0, none⟩ = some x ∧ w.cell? ⟨b, 1, none⟩ = some y ∧ w.cell? ⟨b, 2, none⟩ = some z ∧ w.cell? ⟨b', 0, none⟩ = some x' ∧ w.cell? ⟨b', 1, none⟩ = some y' ∧ w.cell? ⟨b', 2, none⟩ = some z' :=
  ⟨h.cell 0, h.cell 1, h.cell 2, k.cell 0, k.cell 1, k.cell 2⟩
/-- a block of three cells that has been filled anew -/
theorem Blk.filled {w : World} {b : Nat} {x y z : Value} {t : TypeId} (h : Blk w b #[x, y, z] t) (x' y' z' : Value) : Blk (((w.setCell ⟨b, 0, none⟩ x').setCell ⟨b, 1, none⟩ y').setCell ⟨b, 2, none⟩ z') b #[x', y', z'] t := by
  have := ((h.set 0 x').set 1 y').set 2 z'
  simpa using this
theorem Below.filled {B b : Nat} {w w' : World} (h : Below B w w') (hb : B ≤ b) (x y z : Value) : Below B w (((w'.setCell ⟨b, 0, none⟩ x).setCell ⟨b, 1, none⟩ y).setCell ⟨b, 2, none⟩ z) :=
  ((h.setCell (p := ⟨b, 0, none⟩) hb x).setCell (p := ⟨b, 1, none⟩) hb y).setCell (p := ⟨b, 2, none⟩) hb z
theorem ChMine.filled {e2 e1 : TypeId} {w : World} {lo hi b : Nat} {cv : Value} {c : Ch} (h : ChMine e2 e1 w lo hi cv c) (hb : b < lo ∨ hi ≤ b) (x y z : Value) : ChMine e2 e1 (((w.setCell ⟨b, 0, none⟩ x).setCell ⟨b, 1, none⟩ y).setCell ⟨b, 2, none⟩ z) lo hi cv c :=
  ⟨h.own.same ((((SameOn.refl _ _ _).set (a := ⟨b, 0, none⟩) hb x).set (a := ⟨b, 1, none⟩) hb y).set (a := ⟨b, 2, none⟩) hb z), by have := h.le; simpa [World.setCell] using this⟩

structure IntsUnder (w : World) (B : Nat) (v : Value) (xs : List Int) : Prop where
  all : ∀ w', Below B w w' → Ints w' v xs
  le : B ≤ w.heap.size
theorem IntsUnder.of {w : World} {v : Value} {xs : List Int} (h : Ints w v xs) : IntsUnder w w.heap.size v xs := ⟨fun _ hb => h.keep hb, Nat.le_refl _⟩
theorem IntsUnder.now {w : World} {B : Nat} {v : Value} {xs : List Int} (h : IntsUnder w B v xs) : Ints w v xs := h.all w (Below.refl _ _)
theorem IntsUnder.step {w w' : World} {B : Nat} {v : Value} {xs : List Int} (h : IntsUnder w B v xs) (hb : Below w.heap.size w w') : IntsUnder w' B v xs :=
  ⟨fun w2 h2 => h.all w2 ((hb.mono h.le).trans h2), Nat.le_trans h.le hb.size⟩
theorem IntsUnder.touch {w w' : World} {B a b : Nat} {v : Value} {xs : List Int} (h : IntsUnder w B v xs) (ht : Touched a b w w') (hd : B ≤ a) : IntsUnder w' B v xs :=
  ⟨fun w2 h2 => h.all w2 ((ht.below' B hd h.le).trans h2), Nat.le_trans h.le ht.size⟩

structure IntsMine (e1 : TypeId) (w : World) (lo hi : Nat) (v : Value) (xs : List Int) : Prop where
  own : Own w lo hi e1 v (ints xs)
  le : hi ≤ w.heap.size
theorem IntsMine.step {e1 : TypeId} {w w' : World} {lo hi : Nat} {v : Value} {xs : List Int} (h : IntsMine e1 w lo hi v xs) (hb : Below w.heap.size w w') : IntsMine e1 w' lo hi v xs := ⟨h.own.keep h.le hb, Nat.le_trans h.le hb.size⟩
theorem IntsMine.touch {e1 : TypeId} {w w' : World} {lo hi a b : Nat} {v : Value} {xs : List Int} (h : IntsMine e1 w lo hi v xs) (ht : Touched a b w w') (hd : hi ≤ a ∨ b ≤ lo) : IntsMine e1 w' lo hi v xs :=
  ⟨h.own.same fun k h1 h2 => ht.block k (by have := h.le; omega) (by omega), Nat.le_trans h.le ht.size⟩
theorem IntsMine.ch {e1 : TypeId} {w : World} {lo hi : Nat} {v : Value} {xs : List Int} (h : IntsMine e1 w lo hi v xs) : Ints w v xs := h.own.row
theorem IntsMine.shape {e1 : TypeId} {w : World} {lo hi : Nat} {v : Value} {xs : List Int} (h : IntsMine e1 w lo hi v xs) : ∃ a cap, v = .slice a xs.length cap := by
  obtain ⟨_, a, cap, h⟩ := h.ch.len; exact ⟨a, cap, h⟩
theorem Own.minei {e1 : TypeId} {w : World} {lo : Nat} {v : Value} {xs : List Int} (h : Own w lo w.heap.size e1 v (ints xs)) : IntsMine e1 w lo w.heap.size v xs := ⟨h, Nat.le_refl _⟩
theorem Ints.shape {w : World} {v : Value} {xs : List Int} (h : Ints w v xs) : ∃ a cap, v = .slice a xs.length cap := by
  obtain ⟨_, a, cap, h⟩ := h.len; exact ⟨a, cap, h⟩

structure RowsMine (e2 e1 : TypeId) (w : World) (lo hi : Nat) (v : Value) (xss : List (List Int)) : Prop where
  own : OwnRows e2 e1 w lo hi v xss
  le : hi ≤ w.heap.size
theorem RowsMine.step {e2 e1 : TypeId} {w w' : World} {lo hi : Nat} {v : Value} {xs : List (List Int)} (h : RowsMine e2 e1 w lo hi v xs) (hb : Below w.heap.size w w') : RowsMine e2 e1 w' lo hi v xs := ⟨h.own.keep h.le hb, Nat.le_trans h.le hb.size⟩
theorem RowsMine.touch {e2 e1 : TypeId} {w w' : World} {lo hi a b : Nat} {v : Value} {xs : List (List Int)} (h : RowsMine e2 e1 w lo hi v xs) (ht : Touched a b w w') (hd : hi ≤ a ∨ b ≤ lo) : RowsMine e2 e1 w' lo hi v xs :=
  ⟨h.own.same fun k h1 h2 => ht.block k (by have := h.le; omega) (by omega), Nat.le_trans h.le ht.size⟩
theorem RowsMine.ch {e2 e1 : TypeId} {w : World} {lo hi : Nat} {v : Value} {xs : List (List Int)} (h : RowsMine e2 e1 w lo hi v xs) : Rows2 w v xs := h.own.rows
theorem RowsMine.shape {e2 e1 : TypeId} {w : World} {lo hi : Nat} {v : Value} {xs : List (List Int)} (h : RowsMine e2 e1 w lo hi v xs) : ∃ a cap, v = .slice a xs.length cap := by
  obtain ⟨_, a, cap, h⟩ := h.ch.len; exact ⟨a, cap, h⟩

/-! ### one form for all kinds -/
theorem to_ints (v : Value) (xs : List Int) (w : World) (hv : Ints w v xs) (h1 : xs.length ≤ 2097152) :
    Calls Tryd.prog 60 #[v] w fun e w' => ∃ v', e = .returned v' ∧ IntsMine 2 w' w.heap.size w'.heap.size v' xs ∧ Below w.heap.size w w' :=
  (toInt64S_any v xs w hv h1).mono fun _ _ ⟨h1, h2, h3, h4⟩ => ⟨_, h1, ⟨by rw [h4]; exact h2, Nat.le_refl _⟩, h3⟩
theorem eq_ints (a b : Value) (xs : List Int) (w : World) (ha : Ints w a xs) (hb : Ints w b xs) :
    Calls Tryd.prog 64 #[a, b] w fun e w' => e = .returned (.bool true) ∧ Below w.heap.size w w' :=
  (eqInt64S_any a b xs xs w ha hb).mono fun _ _ ⟨h1, n, h2⟩ => ⟨by rw [h1]; simp, by rw [h2]; exact below_drewN (Below.refl _ _) n⟩
theorem eq_rows (a b : Value) (xs : List (List Int)) (w : World) (ha : Rows2 w a xs) (hb : Rows2 w b xs) :
    Calls Tryd.prog 38 #[a, b] w fun e w' => e = .returned (.bool true) ∧ Below w.heap.size w w' :=
  (eqInt64SS_any a b xs xs w ha hb).mono fun _ _ ⟨h1, n, h2⟩ => ⟨by rw [h1]; simp, by rw [h2]; exact below_drewN (Below.refl _ _) n⟩
set_option maxRecDepth 100000 in
theorem open_list {H : Type} {enc : TypeId × Value → H} {W : World} {base b0 : Nat} {held : Bool} {v : Value} {d : DataW H} {p : List MemPlace}
    (hv : Value.okWide Tryd.prog W .any base 55 v) (h : DataW.Trod enc Tryd.prog W b0 (fun _ => true) held 55 v d p) : ∃ xs, Ints W v xs := by
  obtain ⟨sa, sl, sc, rfl⟩ := okWide_slice Tryd.underlying55 hv
  obtain ⟨m, h⟩ := h
  rcases open_ints Tryd.underlying55 Tryd.underlying2 (by kernel_rfl) h with ⟨hcs, _⟩ | ⟨a, len, cap, zs, hcs, _, hl, hm, hz, _, hc, _⟩
  · simp [Value.cells] at hcs
    obtain ⟨rfl, rfl, rfl⟩ := hcs
    exact ⟨[], by simp [ints], none, 0, by simp [ints], ⟨by simp [ints], by unfold maxLen; omega⟩, fun i hi => by simp [ints] at hi⟩
  · simp [Value.cells] at hcs
    obtain ⟨rfl, rfl, rfl⟩ := hcs
    simp only [if_true] at hz
    have hr := row_of_cells (w := W) (a := a) (len := sl) (cap := sc) (V := fun i => .int .i64 (zs.getD i 0)) (by omega) (fun i hi => hc i (by omega)) hl hm
    refine ⟨(List.range sl).map fun i => zs.getD i 0, ?_⟩
    have e : ints ((List.range sl).map fun i => zs.getD i 0) = (List.range sl).map fun i => Value.int .i64 (zs.getD i 0) := by simp [ints]
    unfold Ints
    rw [e]
    exact hr
end Go.Proofs.YtgaadcinhaphpaaDoor
