/- Lists of maps that a call makes by appending. Conditions: none: plain lemmas. -/
import Derived.Test.YtacnafjmcfcalaaMapsM
import Derived.Test.YtacnafjmcfcalaaMake
namespace Go.Proofs.Ytacnafjmcfcalaa
open Go.RowKit Go.Deep
set_option linter.unusedVariables false

theorem two_new (w : World) (x y : Value) (t : TypeId) : ∀ j u, [x, y][j]? = some u → (w.alloc (.cells #[x, y] t)).cell? ((⟨w.heap.size, 0, none⟩ : Addr).add j) = some u := by
  intro j u hu
  match j with
  | 0 => simp at hu; subst hu; simp only [Addr.add, if_true]; rw [World.cell?_alloc_at _ _ _ _ rfl]; rfl
  | 1 => simp at hu; subst hu; rw [add_plain, World.cell?_alloc_at _ _ _ _ rfl]; rfl
  | j + 2 => simp at hu

/-- maps made so far -/
structure MadeMs (w : World) (lo hi : Nat) (v : Value) (ps : List (Int × Value)) (l : List Mp) : Prop where
  own : w.ownsRow lo 117 2 v l.length (fl ps)
  len : ps.length = l.length
  rows : ∀ i, i < l.length → (ps.getD i (0, undef)).1 = (l.getD i mp0).1 ∧ Own w lo hi 2 (ps.getD i (0, undef)).2 (ints (l.getD i mp0).2)
  far : ∀ i j, i < l.length → j < l.length → i ≠ j → ∀ k, (ps.getD i (0, undef)).2.ownBlock = some k → (ps.getD j (0, undef)).2.ownBlock ≠ some k
  size : hi ≤ w.heap.size
theorem MadeMs.start (w : World) (lo : Nat) : MadeMs w lo w.heap.size (.slice none 0 0) [] [] :=
  ⟨World.ownsRow_nil w lo _ _, rfl, fun i hi => by simp at hi, fun i j hi => by simp at hi, Nat.le_refl _⟩
theorem MadeMs.done {w : World} {lo hi : Nat} {v : Value} {ps : List (Int × Value)} {l : List Mp} (h : MadeMs w lo hi v ps l) : OwnMaps 117 2 w lo w.heap.size v l := by
  refine ⟨ps, Own2.of h.own (Nat.le_refl _), h.len, fun i hi => ⟨(h.rows i hi).1, (h.rows i hi).2.wide (Nat.le_refl _) h.size⟩, fun i hi k hk hv => ?_, h.far⟩
  exact types_apart h.own (h.rows i hi).2.1 (by decide) hv hk
theorem ownsRow_belowK {w w' : World} {lo n size B : Nat} {e : TypeId} {v : Value} {vs : List Value} (h : w.ownsRow lo e size v n vs) (hb : Below w.heap.size w w') : w'.ownsRow lo e size v n vs := by
  refine ⟨h.1, ?_⟩
  rcases h.2 with h0 | ⟨g, cap, cur, hv, hg, hh, r⟩
  · exact Or.inl h0
  · exact Or.inr ⟨g, cap, cur, hv, hg, by rw [hb.block g (Array.getElem?_eq_some_iff.1 hh).1]; exact hh, r⟩

theorem MadeMs.step {w w1 w2 : World} {lo hi : Nat} {v v' rv : Value} {x : Int} {ps : List (Int × Value)} {l : List Mp} {y : List Int} {a : Addr} (h : MadeMs w lo hi v ps l) (hb : Below w.heap.size w w1)
    (hrow : Own w1 w.heap.size w1.heap.size 2 rv (ints y)) (hlo : lo ≤ w.heap.size) (o : Obj) (hown : w2.ownsRow lo 117 2 v' (l.length + 1) (fl ps ++ [.int .i64 x, rv])) (hg : (w1.alloc o).grownBy w2 v.ownBlock) (ha : a.block < lo) (u : Value) :
    MadeMs (w2.setCell a u) lo (w2.setCell a u).heap.size v' (ps ++ [(x, rv)]) (l ++ [(x, y)]) := by
  have hl := h.len
  have hs2 : w1.heap.size + 1 ≤ w2.heap.size := by have := hg.size; simpa using this
  have hs3 : (w2.setCell a u).heap.size = w2.heap.size := by simp [World.setCell]
  have keep : ∀ (lo' hi' : Nat) (x : Value) (xs : List Value), lo ≤ lo' → hi' ≤ w1.heap.size → Own w1 lo' hi' 2 x xs → Own (w2.setCell a u) lo' hi' 2 x xs := by
    intro lo' hi' x xs h1 h2 hx
    have hv1 : w1.ownsRow lo 117 2 v l.length (fl ps) := ownsRow_belowK (B := 0) h.own hb
    refine hx.sameBlk fun k hk hxk => ?_
    have hne : v.ownBlock ≠ some k := fun hv => types_apart hv1 hx.1 (by decide) hv hxk
    have hlk : lo ≤ k := by have := (hx.1.lt k hxk).1; omega
    rw [Below.heap_setCell _ _ _ _ (by omega), hg.block k (by simp; omega) (fun e => hne e.symm), Below.heap_alloc _ _ _ hk]
  have hn : (ps ++ [(x, rv)]).getD l.length (0, undef) = (x, rv) := by simp [List.getD, ← hl]
  have ho : ∀ i, i < l.length → (ps ++ [(x, rv)]).getD i (0, undef) = ps.getD i (0, undef) := fun i hi => by simp only [List.getD]; rw [List.getElem?_append_left (by omega)]
  have hyn : (l ++ [(x, y)]).getD l.length mp0 = (x, y) := by simp [List.getD]
  have hyo : ∀ i, i < l.length → (l ++ [(x, y)]).getD i mp0 = l.getD i mp0 := fun i hi => by simp only [List.getD]; rw [List.getElem?_append_left (by omega)]
  have old : ∀ i, i < l.length → Own w1 lo hi 2 (ps.getD i (0, undef)).2 (ints (l.getD i mp0).2) := fun i hi => (h.rows i hi).2.keep h.size hb
  have apart : ∀ i, i < l.length → ∀ k, (ps.getD i (0, undef)).2.ownBlock = some k → k < w.heap.size := fun i hi k hk => by have := (h.rows i hi).2.2.2 k hk; have := h.size; omega
  have fresh : ∀ k, rv.ownBlock = some k → w.heap.size ≤ k := fun k hk => (hrow.1.lt k hk).1
  have hsz := h.size
  have hbz := hb.size
  refine ⟨?_, by simp [hl], fun i hi' => ?_, fun i j hi' hj' hne k hk => ?_, Nat.le_refl _⟩
  · rw [List.length_append, fl_append]
    exact ownsRow_setCell_below hown ha u
  · simp only [List.length_append, List.length_singleton] at hi'
    by_cases e : i = l.length
    · subst e
      rw [hn, hyn]
      exact ⟨rfl, (keep w.heap.size w1.heap.size rv _ hlo (Nat.le_refl _) hrow).wide hlo (by omega)⟩
    · rw [ho i (by omega), hyo i (by omega)]
      exact ⟨(h.rows i (by omega)).1, (keep lo hi _ _ (Nat.le_refl _) (by omega) (old i (by omega))).wide (Nat.le_refl _) (by omega)⟩
  · simp only [List.length_append, List.length_singleton] at hi' hj'
    by_cases ei : i = l.length
    · subst ei
      rw [hn] at hk
      rw [ho j (by omega)]
      intro hk2
      have := apart j (by omega) k hk2
      have := fresh k hk
      omega
    · rw [ho i (by omega)] at hk
      by_cases ej : j = l.length
      · subst ej
        rw [hn]
        intro hk2
        have := apart i (by omega) k hk
        have := fresh k hk2
        omega
      · rw [ho j (by omega)]
        exact h.far i j (by omega) (by omega) hne k hk
theorem nil_ms (w : World) (lo hi : Nat) (h : hi ≤ w.heap.size) : MsMine 117 2 w lo hi (.agg #[.int .i64 0, .int .i64 0, .slice none 0 0]) ⟨0, 0, []⟩ :=
  ⟨⟨_, rfl, [], ⟨⟨by simp [fl], Or.inl ⟨rfl, rfl⟩⟩, by simp, fun k hk => by simp [Value.ownBlock] at hk⟩, rfl, fun i hi => by simp at hi, fun i hi => by simp at hi, fun i j hi => by simp at hi⟩, h⟩
end Go.Proofs.Ytacnafjmcfcalaa
