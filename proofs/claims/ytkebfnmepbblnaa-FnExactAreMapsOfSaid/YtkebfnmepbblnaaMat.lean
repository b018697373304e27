/- Rows of one-cell values, each in a block of its own, and the slice of them: made row by row, and written in place. Conditions: none: plain lemmas. -/
import Derived.Test.YtkebfnmepbblnaaMark
import Derived.Test.YtkebfnmepbblnaaMake
import Derived.Test.YtkebfnmepbblnaaTouch
namespace Go.Proofs.Ytkebfnmepbblnaa
open Go.RowKit Go.Deep
set_option linter.unusedVariables false

structure MadeV (e2 e1 : TypeId) (w : World) (lo hi : Nat) (v : Value) (rvs : List Value) (yss : List (List Value)) : Prop where
  own : Own w lo hi e2 v rvs
  len : rvs.length = yss.length
  rows : ∀ i, i < yss.length → Own w lo hi e1 (rvs.getD i undef) (yss.getD i [])
  apart : ∀ i, i < yss.length → ∀ k, (rvs.getD i undef).ownBlock = some k → v.ownBlock ≠ some k
  far : ∀ i j, i < yss.length → j < yss.length → i ≠ j → ∀ k, (rvs.getD i undef).ownBlock = some k → (rvs.getD j undef).ownBlock ≠ some k
  size : hi ≤ w.heap.size

theorem MadeV.keep {e2 e1 : TypeId} {w w' : World} {lo hi : Nat} {v : Value} {rvs : List Value} {yss : List (List Value)} (h : MadeV e2 e1 w lo hi v rvs yss) (hb : Below w.heap.size w w') : MadeV e2 e1 w' lo hi v rvs yss :=
  ⟨h.own.keep h.size hb, h.len, fun i hi => (h.rows i hi).keep h.size hb, h.apart, h.far, Nat.le_trans h.size hb.size⟩
theorem MadeV.wide {e2 e1 : TypeId} {w : World} {lo hi lo' hi' : Nat} {v : Value} {rvs : List Value} {yss : List (List Value)} (h : MadeV e2 e1 w lo hi v rvs yss) (h1 : lo' ≤ lo) (h2 : hi ≤ hi') (h3 : hi' ≤ w.heap.size) : MadeV e2 e1 w lo' hi' v rvs yss :=
  ⟨h.own.wide h1 h2, h.len, fun i hi => (h.rows i hi).wide h1 h2, h.apart, h.far, h3⟩
/-- the walk's form: where a row lies, and a cell of it -/
theorem MadeV.at {e2 e1 : TypeId} {w : World} {lo hi : Nat} {v : Value} {rvs : List Value} {yss : List (List Value)} (h : MadeV e2 e1 w lo hi v rvs yss) (i : Nat) (hi' : i < yss.length) (hne : 0 < (yss.getD i []).length) :
    ∃ g cap r rc, v = .slice (some ⟨g, 0, none⟩) yss.length cap ∧ lo ≤ g ∧ g < hi ∧ w.cell? ⟨g, i, none⟩ = some (.slice (some ⟨r, 0, none⟩) (yss.getD i []).length rc) ∧ rvs.getD i undef = .slice (some ⟨r, 0, none⟩) (yss.getD i []).length rc ∧
      lo ≤ r ∧ r < hi ∧ (∀ j, j < (yss.getD i []).length → w.cell? ⟨r, j, none⟩ = some ((yss.getD i []).getD j undef)) ∧ ∀ j, w.frozen? ⟨r, j, none⟩ = false := by
  have hl := h.len
  obtain ⟨g, cap, hv, a1, a2, a3, a4, _⟩ := h.own.at (by omega)
  obtain ⟨r, rc, hr, b1, b2, b3, b4, b5⟩ := (h.rows i hi').at hne
  exact ⟨g, cap, r, rc, by rw [← hl]; exact hv, a1, a2, by rw [a4 i (by omega), hr], hr, b1, b2, b4, b5⟩
/-- a cell of a row is written -/
theorem MadeV.set {e2 e1 : TypeId} {w : World} {lo hi : Nat} {v : Value} {rvs : List Value} {yss : List (List Value)} (h : MadeV e2 e1 w lo hi v rvs yss) (i : Nat) (hi' : i < yss.length) (r n rc : Nat) (hr : rvs.getD i undef = .slice (some ⟨r, 0, none⟩) n rc) (j : Nat) (u : Value) :
    MadeV e2 e1 (w.setCell ⟨r, j, none⟩ u) lo hi v rvs (yss.set i ((yss.getD i []).set j u)) := by
  have hb : (rvs.getD i undef).ownBlock = some r := by rw [hr]; rfl
  refine ⟨h.own.setOther (a := ⟨r, j, none⟩) (h.apart i hi' r hb) u, by rw [List.length_set]; exact h.len, fun k hk => ?_, by simpa using h.apart, by simpa using h.far, by simpa [World.setCell] using h.size⟩
  rw [List.length_set] at hk
  by_cases e : k = i
  · subst e
    have h1 := h.rows k hk
    rw [hr] at h1 ⊢
    have := h1.set j u
    simpa [List.getD, hk] using this
  · have : (yss.set i ((yss.getD i []).set j u)).getD k [] = yss.getD k [] := by simp [List.getD, List.getElem?_set_ne (Ne.symm e)]
    rw [this]
    exact (h.rows k hk).setOther (a := ⟨r, j, none⟩) (fun hc => h.far i k hi' hk (Ne.symm e) r hb hc) u
theorem MadeV.start (e2 e1 : TypeId) (w : World) (cap : Nat) (z : Value) (hc : cap ≤ maxLen) : MadeV e2 e1 (w.alloc (.cells (madeCells #[z] cap) e2)) w.heap.size (w.heap.size + 1) (.slice (some ⟨w.heap.size, 0, none⟩) 0 cap) [] [] :=
  ⟨Own.of (World.ownsRow_made w _ cap (Nat.le_refl _) hc (by rw [size_madeCells]; simp)) (by simp), rfl, fun i hi => by simp at hi, fun i hi => by simp at hi, fun i j hi => by simp at hi, by simp⟩
/-- one row more: the row was made behind w, the slice of rows has grown -/
theorem MadeV.step {e2 e1 : TypeId} (he : e2 ≠ e1) {w w1 w2 : World} {lo hi : Nat} {v v' rv : Value} {rvs : List Value} {yss : List (List Value)} {y : List Value} (h : MadeV e2 e1 w lo hi v rvs yss) (hb : Below w.heap.size w w1)
    (hrow : Own w1 w.heap.size w1.heap.size e1 rv y) (hlo : lo ≤ w.heap.size) (o : Obj) (hown : w2.ownsRow lo e2 1 v' (yss.length + 1) (rvs ++ [rv])) (hg : (w1.alloc o).grownBy w2 v.ownBlock) :
    MadeV e2 e1 w2 lo w2.heap.size v' (rvs ++ [rv]) (yss ++ [y]) := by
  have hl := h.len
  have hs2 : w1.heap.size + 1 ≤ w2.heap.size := by have := hg.size; simpa using this
  have keep : ∀ (lo' hi' : Nat) (x : Value) (xs : List Value), lo ≤ lo' → hi' ≤ w1.heap.size → Own w1 lo' hi' e1 x xs → Own w2 lo' hi' e1 x xs := by
    intro lo' hi' x xs h1 h2 hx
    have hv1 := h.own.keep h.size hb
    refine hx.sameBlk fun k hk hxk => ?_
    have hne : v.ownBlock ≠ some k := fun hv => types_apart hv1.1 hx.1 he hv hxk
    rw [hg.block k (by simp; omega) (fun e => hne e.symm), Below.heap_alloc _ _ _ hk]
  have hn : (rvs ++ [rv]).getD yss.length undef = rv := by simp [List.getD, ← hl]
  have ho : ∀ i, i < yss.length → (rvs ++ [rv]).getD i undef = rvs.getD i undef := fun i hi => by simp only [List.getD]; rw [List.getElem?_append_left (by omega)]
  have hyn : (yss ++ [y]).getD yss.length [] = y := by simp [List.getD]
  have hyo : ∀ i, i < yss.length → (yss ++ [y]).getD i [] = yss.getD i [] := fun i hi => by simp only [List.getD]; rw [List.getElem?_append_left (by omega)]
  have old : ∀ i, i < yss.length → Own w1 lo hi e1 (rvs.getD i undef) (yss.getD i []) := fun i hi => (h.rows i hi).keep h.size hb
  have apart : ∀ i, i < yss.length → ∀ k, (rvs.getD i undef).ownBlock = some k → k < w.heap.size := fun i hi k hk => by have := (h.rows i hi).2.2 k hk; have := h.size; omega
  have fresh : ∀ k, rv.ownBlock = some k → w.heap.size ≤ k := fun k hk => (hrow.1.lt k hk).1
  have rows2 : ∀ i, i < (yss ++ [y]).length → Own w2 lo w2.heap.size e1 ((rvs ++ [rv]).getD i undef) ((yss ++ [y]).getD i []) := by
    intro i hii
    rw [List.length_append] at hii
    simp only [List.length_cons, List.length_nil] at hii
    by_cases e : i < yss.length
    · rw [ho i e, hyo i e]
      exact (keep lo hi _ _ (Nat.le_refl _) (by have := h.size; have := hb.size; omega) (old i e)).wide (Nat.le_refl _) (by have := h.size; have := hb.size; omega)
    · obtain rfl : i = yss.length := by omega
      rw [hn, hyn]
      exact (keep _ _ _ _ hlo (Nat.le_refl _) hrow).wide hlo (by omega)
  refine ⟨Own.of hown (Nat.le_refl _), by simp [hl], rows2, fun i hi k hk hv => types_apart hown (rows2 i hi).1 he hv hk, fun i j hii hj hne k hk => ?_, Nat.le_refl _⟩
  rw [List.length_append] at hii hj
  simp only [List.length_cons, List.length_nil] at hii hj
  by_cases e : i < yss.length
  · rw [ho i e] at hk
    by_cases e' : j < yss.length
    · rw [ho j e']; exact h.far i j e e' hne k hk
    · obtain rfl : j = yss.length := by omega
      rw [hn]; intro hc; have := fresh k hc; have := apart i e k hk; omega
  · obtain rfl : i = yss.length := by omega
    rw [hn] at hk
    by_cases e' : j < yss.length
    · rw [ho j e']; intro hc; have := fresh k hk; have := apart j e' k hc; omega
    · omega
/-- the outer slice's own row in a later world -/
theorem MadeV.outer {e2 e1 : TypeId} {w w1 : World} {lo hi : Nat} {v : Value} {rvs : List Value} {yss : List (List Value)} (h : MadeV e2 e1 w lo hi v rvs yss) (hb : Below w.heap.size w w1) : w1.ownsRow lo e2 1 v yss.length rvs := by
  have := (h.own.keep h.size hb).1
  rw [h.len] at this; exact this
theorem MadeV.shape {e2 e1 : TypeId} {w : World} {lo hi : Nat} {v : Value} {rvs : List Value} {yss : List (List Value)} (h : MadeV e2 e1 w lo hi v rvs yss) (hne : 0 < yss.length) : ∃ g cap, v = .slice (some ⟨g, 0, none⟩) yss.length cap ∧ lo ≤ g ∧ g < hi := by
  have hl := h.len
  obtain ⟨g, cap, hv, a1, a2, _⟩ := h.own.at (by omega)
  exact ⟨g, cap, by rw [← hl]; exact hv, a1, a2⟩

/-- a table of values -/
def tabV (n m : Nat) (f : Nat → Nat → Value) : List (List Value) := (List.range n).map fun a => (List.range m).map fun b => f a b
theorem tabV_len (n m : Nat) (f : Nat → Nat → Value) : (tabV n m f).length = n := by simp [tabV]
theorem tabV_row (n m : Nat) (f : Nat → Nat → Value) (a : Nat) (h : a < n) : (tabV n m f).getD a [] = (List.range m).map fun b => f a b := by simp [tabV, List.getD, h]
theorem tabV_rowlen (n m : Nat) (f : Nat → Nat → Value) (a : Nat) (h : a < n) : ((tabV n m f).getD a []).length = m := by rw [tabV_row n m f a h]; simp
theorem tabV_at (n m : Nat) (f : Nat → Nat → Value) (a b : Nat) (h : a < n) (hb : b < m) : ((tabV n m f).getD a []).getD b undef = f a b := by rw [tabV_row n m f a h]; simp [List.getD, hb]
theorem tabV_set (n m : Nat) (f : Nat → Nat → Value) (a b : Nat) (u : Value) (h : a < n) : (tabV n m f).set a (((tabV n m f).getD a []).set b u) = tabV n m fun x y => if x = a ∧ y = b then u else f x y := by
  rw [tabV_row n m f a h]
  apply List.ext_getElem
  · simp [tabV]
  · intro i h1 h2
    simp only [List.getElem_set, tabV, List.getElem_map, List.getElem_range]
    by_cases e : a = i
    · subst e
      rw [if_pos rfl]
      apply List.ext_getElem
      · simp
      · intro j k1 k2
        simp only [List.getElem_set, List.getElem_map, List.getElem_range]
        by_cases e2 : b = j
        · subst e2; simp
        · rw [if_neg e2, if_neg (by intro hc; exact e2 hc.2.symm)]
    · rw [if_neg e]
      apply List.ext_getElem
      · simp
      · intro j k1 k2
        simp only [List.getElem_map, List.getElem_range]
        rw [if_neg (by intro hc; exact e hc.1.symm)]
theorem tabV_congr {n m : Nat} {f g : Nat → Nat → Value} (h : ∀ a b, a < n → b < m → f a b = g a b) : tabV n m f = tabV n m g := by
  unfold tabV
  apply List.map_congr_left
  intro a ha
  apply List.map_congr_left
  intro b hb
  exact h a b (by simpa using ha) (by simpa using hb)
end Go.Proofs.Ytkebfnmepbblnaa
