/- makeChain of the project: it returns the chain with the weights that a function tells, or ErrLimit. Conditions: told in 'makeChain_any'. -/
import Derived.Test.YtgaadcinhaphpaaDoorEven
import Derived.Test.YtgaadcinhaphpaaDoorMark
namespace Go.Proofs.YtgaadcinhaphpaaDoor
open Go.RowKit Go.Deep

theorem ownsRow_type {w : World} {lo n size : Nat} {e : TypeId} {v : Value} {vs : List Value} (h : w.ownsRow lo e size v n vs) {k : Nat} (hk : v.ownBlock = some k) : lo ≤ k ∧ ∃ cur, w.heap[k]? = some (.cells cur e (0, 0)) := by
  rcases h.2 with ⟨rfl, _⟩ | ⟨g, cap, cur, rfl, hg, hh, _⟩
  · simp [Value.ownBlock] at hk
  · simp [Value.ownBlock] at hk; subst hk; exact ⟨hg, cur, hh⟩
theorem types_apart {w : World} {lo lo' n n' size size' : Nat} {e e' : TypeId} {v v' : Value} {vs vs' : List Value} (h : w.ownsRow lo e size v n vs) (h' : w.ownsRow lo' e' size' v' n' vs') (he : e ≠ e') {k : Nat} (hk : v.ownBlock = some k) : v'.ownBlock ≠ some k := by
  intro hk'
  obtain ⟨_, c, hc⟩ := ownsRow_type h hk
  obtain ⟨_, c', hc'⟩ := ownsRow_type h' hk'
  rw [hc] at hc'
  simp only [Option.some.injEq, Obj.cells.injEq] at hc'
  exact he hc'.2.1

/-- rows made so far: an outer slice of the call's own, and the rows in blocks of their own, all from lo up to hi -/
structure MadeTo (w : World) (lo hi : Nat) (v : Value) (rvs : List Value) (yss : List (List Int)) : Prop where
  own : w.ownsRow lo 55 1 v yss.length rvs
  rows : ∀ i, i < yss.length → Own w lo hi 2 (rvs.getD i undef) (ints (yss.getD i []))
  far : ∀ i j, i < yss.length → j < yss.length → i ≠ j → ∀ k, (rvs.getD i undef).ownBlock = some k → (rvs.getD j undef).ownBlock ≠ some k
  size : hi ≤ w.heap.size
theorem MadeTo.len {w : World} {lo hi : Nat} {v : Value} {rvs : List Value} {yss : List (List Int)} (h : MadeTo w lo hi v rvs yss) : rvs.length = yss.length := by simpa using h.own.1
theorem MadeTo.start (w : World) (lo : Nat) : MadeTo w lo w.heap.size (.slice none 0 0) [] [] :=
  ⟨World.ownsRow_nil w lo _ _, fun i hi => by simp at hi, fun i j hi => by simp at hi, Nat.le_refl _⟩
theorem MadeTo.done {w : World} {lo hi : Nat} {v : Value} {rvs : List Value} {yss : List (List Int)} (h : MadeTo w lo hi v rvs yss) : OwnRows 55 2 w lo w.heap.size v yss := by
  refine ⟨rvs, Own.of h.own (Nat.le_refl _), h.len, fun i hi => (h.rows i hi).wide (Nat.le_refl _) h.size, fun i hi k hk hv => ?_, h.far⟩
  exact types_apart h.own (h.rows i hi).1 (by decide) hv hk

theorem MadeTo.step {w w1 w2 : World} {lo hi : Nat} {v v' rv : Value} {rvs : List Value} {yss : List (List Int)} {y : List Int} {a : Addr} (h : MadeTo w lo hi v rvs yss) (hb : Below w.heap.size w w1)
    (hrow : Own w1 w.heap.size w1.heap.size 2 rv (ints y)) (hlo : lo ≤ w.heap.size) (o : Obj) (hown : w2.ownsRow lo 55 1 v' (yss.length + 1) (rvs ++ [rv])) (hg : (w1.alloc o).grownBy w2 v.ownBlock) (ha : a.block < lo) (u : Value) :
    MadeTo (w2.setCell a u) lo (w2.setCell a u).heap.size v' (rvs ++ [rv]) (yss ++ [y]) := by
  have hl := h.len
  have hs2 : w1.heap.size + 1 ≤ w2.heap.size := by have := hg.size; simpa using this
  have hs3 : (w2.setCell a u).heap.size = w2.heap.size := by simp [World.setCell]
  -- a row that lay there, or the new one, is as it was
  have keep : ∀ (lo' hi' : Nat) (x : Value) (xs : List Value), lo ≤ lo' → hi' ≤ w1.heap.size → Own w1 lo' hi' 2 x xs → Own (w2.setCell a u) lo' hi' 2 x xs := by
    intro lo' hi' x xs h1 h2 hx
    have hv1 : w1.ownsRow lo 55 1 v yss.length rvs := by
      refine ⟨h.own.1, ?_⟩
      rcases h.own.2 with hn | ⟨g, cap, cur, rfl, hgg, hh, r⟩
      · exact Or.inl hn
      · exact Or.inr ⟨g, cap, cur, rfl, hgg, by rw [hb.block g (Array.getElem?_eq_some_iff.1 hh).1]; exact hh, r⟩
    refine hx.sameBlk fun k hk hxk => ?_
    have hne : v.ownBlock ≠ some k := fun hv => types_apart hv1 hx.1 (by decide) hv hxk
    have hlk : lo ≤ k := by have := (hx.1.lt k hxk).1; omega
    rw [Below.heap_setCell _ _ _ _ (by omega), hg.block k (by simp; omega) (fun e => hne e.symm), Below.heap_alloc _ _ _ hk]
  have hn : (rvs ++ [rv]).getD yss.length undef = rv := by simp [List.getD, ← hl]
  have ho : ∀ i, i < yss.length → (rvs ++ [rv]).getD i undef = rvs.getD i undef := fun i hi => by simp only [List.getD]; rw [List.getElem?_append_left (by omega)]
  have hyn : (yss ++ [y]).getD yss.length [] = y := by simp [List.getD]
  have hyo : ∀ i, i < yss.length → (yss ++ [y]).getD i [] = yss.getD i [] := fun i hi => by simp only [List.getD]; rw [List.getElem?_append_left (by omega)]
  have old : ∀ i, i < yss.length → Own w1 lo hi 2 (rvs.getD i undef) (ints (yss.getD i [])) := fun i hi => (h.rows i hi).keep h.size hb
  have apart : ∀ i, i < yss.length → ∀ k, (rvs.getD i undef).ownBlock = some k → k < w.heap.size := fun i hi k hk => by have := (h.rows i hi).2.2 k hk; have := h.size; omega
  have fresh : ∀ k, rv.ownBlock = some k → w.heap.size ≤ k := fun k hk => (hrow.1.lt k hk).1
  refine ⟨?_, fun i _ => ?_, fun i j _ hj hne k hk => ?_, Nat.le_refl _⟩
  · rw [List.length_append]
    exact ownsRow_setCell_below hown ha u
  · rename_i hii
    rw [List.length_append] at hii
    simp only [List.length_cons, List.length_nil] at hii
    by_cases e : i < yss.length
    · rw [ho i e, hyo i e]
      exact (keep lo hi _ _ (Nat.le_refl _) (by have := h.size; have := hb.size; omega) (old i e)).wide (Nat.le_refl _) (by have := h.size; have := hb.size; omega)
    · obtain rfl : i = yss.length := by omega
      rw [hn, hyn]
      exact (keep _ _ _ _ hlo (Nat.le_refl _) hrow).wide hlo (by omega)
  · rename_i hii
    rw [List.length_append] at hii hj
    simp only [List.length_cons, List.length_nil] at hii hj
    by_cases e : i < yss.length
    · rw [ho i e] at hk
      by_cases e' : j < yss.length
      · rw [ho j e']; exact h.far i j e e' hne k hk
      · obtain rfl : j = yss.length := by omega
        rw [hn]; intro hc; have := fresh k hc; have := apart i e k hk; omega
    · obtain rfl : i = yss.length := by omega
      rw [hn] at hk
      by_cases e' : j < yss.length
      · rw [ho j e']; intro hc; have := fresh k hk; have := apart j e' k hc; omega
      · omega
theorem ownsRow_shape {w : World} {lo n : Nat} {e : TypeId} {v : Value} {vs : List Value} (h : w.ownsRow lo e 1 v n vs) (hn : 0 < n) : ∃ g cap, v = .slice (some ⟨g, 0, none⟩) n cap := by
  rcases h.2 with ⟨_, h0⟩ | ⟨g, cap, cur, rfl, _⟩
  · omega
  · exact ⟨g, cap, rfl⟩

/-- the weights in rows -/
def rowsOf (n : Nat) (f : Nat → Nat → Int) : List (List Int) := (List.range n).map fun s => (List.range n).map fun t => f s t
/-- what makeChain returns -/
def madeCh (n t : Int) (f : Nat → Nat → Int) : Ch × Int := if 6 < n ∨ 60 < t then (⟨0, 0, []⟩, 3) else (⟨n, t, rowsOf n.toNat f⟩, 0)
theorem range_map_succ {α : Type} (g : Nat → α) (k : Nat) : (List.range (k + 1)).map g = (List.range k).map g ++ [g k] := by rw [List.range_succ, List.map_append]; rfl

end Go.Proofs.YtgaadcinhaphpaaDoor
