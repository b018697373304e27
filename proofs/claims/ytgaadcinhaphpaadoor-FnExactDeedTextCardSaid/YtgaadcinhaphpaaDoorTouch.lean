/- How what a law holds fares when a chain is marked: words for the laws' walks. Conditions: none: plain lemmas. -/
import Derived.Test.YtgaadcinhaphpaaDoorOpen
import Derived.Test.YtgaadcinhaphpaaDoorMark
namespace Go.Proofs.YtgaadcinhaphpaaDoor
open Go.RowKit Go.Deep

theorem Touched.below' {a b : Nat} {w w' : World} (h : Touched a b w w') : ∀ B, B ≤ a → B ≤ w.heap.size → Below B w w' := fun B h1 h2 => ⟨h.os, h.tape, h.output, h.size, fun k hk => h.block k (by omega) (Or.inl (by omega))⟩
theorem Blk.touch {w w' : World} {b lo hi : Nat} {c : Array Value} {t : TypeId} (h : Blk w b c t) (ht : Touched lo hi w w') (hd : b < lo ∨ hi ≤ b) : Blk w' b c t := (ht.block b h.lt hd).trans h
theorem ChMine.touch {e2 e1 : TypeId} {w w' : World} {lo hi a b : Nat} {cv : Value} {c : Ch} (h : ChMine e2 e1 w lo hi cv c) (ht : Touched a b w w') (hd : hi ≤ a ∨ b ≤ lo) : ChMine e2 e1 w' lo hi cv c :=
  ⟨h.own.same fun k h1 h2 => ht.block k (by have := h.le; omega) (by omega), Nat.le_trans h.le ht.size⟩
/-- a chain in memory below block B: it reads so as long as nothing below B turns -/
structure ChUnder (w : World) (B : Nat) (cv : Value) (c : Ch) : Prop where
  all : ∀ w', Below B w w' → ChR w' cv c
  le : B ≤ w.heap.size
theorem ChUnder.of {w : World} {cv : Value} {c : Ch} (h : ChR w cv c) : ChUnder w w.heap.size cv c := ⟨fun _ hb => h.keep hb, Nat.le_refl _⟩
theorem ChUnder.now {w : World} {B : Nat} {cv : Value} {c : Ch} (h : ChUnder w B cv c) : ChR w cv c := h.all w (Below.refl _ _)
theorem ChUnder.step {w w' : World} {B : Nat} {cv : Value} {c : Ch} (h : ChUnder w B cv c) (hb : Below w.heap.size w w') : ChUnder w' B cv c :=
  ⟨fun w2 h2 => h.all w2 ((hb.mono h.le).trans h2), Nat.le_trans h.le hb.size⟩
theorem ChUnder.touch {w w' : World} {B a b : Nat} {cv : Value} {c : Ch} (h : ChUnder w B cv c) (ht : Touched a b w w') (hd : B ≤ a) : ChUnder w' B cv c :=
  ⟨fun w2 h2 => h.all w2 ((ht.below' B hd h.le).trans h2), Nat.le_trans h.le ht.size⟩
/-- all since the beginning: nothing below block B has turned -/
structure Since (B : Nat) (w0 w : World) : Prop where
  bel : Below B w0 w
  le : B ≤ w.heap.size
theorem Since.step {B : Nat} {w0 w w' : World} (h : Since B w0 w) (hb : Below w.heap.size w w') : Since B w0 w' := ⟨h.bel.trans (hb.mono h.le), Nat.le_trans h.le hb.size⟩
theorem Since.touch {B a b : Nat} {w0 w w' : World} (h : Since B w0 w) (ht : Touched a b w w') (hd : B ≤ a) : Since B w0 w' := ⟨h.bel.trans (ht.below' B hd h.le), Nat.le_trans h.le ht.size⟩
end Go.Proofs.YtgaadcinhaphpaaDoor
