/- The laws' marks: numbers, rows and chains that a call made are filled with k, k + 1, .., and found so again; what lies outside of their blocks is left. Conditions: few numbers (at most 2^40 in all, k at most 2^40). -/
import Derived.Test.YtgaadcinhaphpaaDoorTo
namespace Go.Proofs.YtgaadcinhaphpaaDoor
open Go.RowKit Go.Deep

/-- only the blocks from lo up to hi may have changed; nothing is new but what is behind -/
structure Touched (lo hi : Nat) (w w' : World) : Prop where
  os : w'.os = w.os
  tape : w'.tape = w.tape
  output : w'.output = w.output
  size : w.heap.size ≤ w'.heap.size
  block : ∀ k, k < w.heap.size → (k < lo ∨ hi ≤ k) → w'.heap[k]? = w.heap[k]?
theorem Touched.refl (lo hi : Nat) (w : World) : Touched lo hi w w := ⟨rfl, rfl, rfl, Nat.le_refl _, fun _ _ _ => rfl⟩
theorem Touched.trans {lo hi : Nat} {a b c : World} (h : Touched lo hi a b) (k : Touched lo hi b c) : Touched lo hi a c :=
  ⟨k.os.trans h.os, k.tape.trans h.tape, k.output.trans h.output, Nat.le_trans h.size k.size, fun i h1 h2 => (k.block i (Nat.lt_of_lt_of_le h1 h.size) h2).trans (h.block i h1 h2)⟩
theorem Touched.set {lo hi : Nat} {w w' : World} (h : Touched lo hi w w') {a : Addr} (h1 : lo ≤ a.block) (h2 : a.block < hi) (u : Value) : Touched lo hi w (w'.setCell a u) :=
  h.trans ⟨rfl, rfl, rfl, by simp [World.setCell], fun k _ hk => Below.heap_setCell _ _ _ _ (by omega)⟩
theorem Touched.of {lo hi : Nat} {w w' : World} (h : Below w.heap.size w w') : Touched lo hi w w' := ⟨h.os, h.tape, h.output, h.size, fun k h1 _ => h.block k h1⟩
theorem Touched.wide {lo hi lo' hi' : Nat} {w w' : World} (h : Touched lo hi w w') (h1 : lo' ≤ lo) (h2 : hi ≤ hi') : Touched lo' hi' w w' :=
  ⟨h.os, h.tape, h.output, h.size, fun k a b => h.block k a (by omega)⟩
theorem Touched.below {lo hi : Nat} {w w' : World} (h : Touched lo hi w w') (hl : lo ≤ w.heap.size) : Below lo w w' := ⟨h.os, h.tape, h.output, h.size, fun k hk => h.block k (by omega) (Or.inl hk)⟩
theorem Touched.same {lo hi : Nat} {w w' : World} (h : Touched lo hi w w') {B : Nat} (hB : B ≤ w.heap.size) : SameOn hi B w w' := fun k h1 h2 => h.block k (by omega) (Or.inr h1)
theorem Touched.under {lo hi : Nat} {w w' : World} (h : Touched lo hi w w') (hl : lo ≤ w.heap.size) (b : Nat) : SameOn b lo w w' := fun k _ h2 => h.block k (by omega) (Or.inl h2)

/-- k, k + 1, .. -/
def marks (k : Int) : Nat → List Int
  | 0 => []
  | n + 1 => k :: marks (k + 1) n
theorem marks_length (k : Int) (n : Nat) : (marks k n).length = n := by induction n generalizing k with | zero => rfl | succ n ih => simp [marks, ih]
theorem marks_getD (k : Int) (n i : Nat) (h : i < n) : (marks k n).getD i 0 = k + i := by
  induction n generalizing k i with
  | zero => omega
  | succ n ih =>
    cases i with
    | zero => simp [marks, List.getD]
    | succ i =>
      have := ih (k + 1) i (by omega)
      simp only [marks, List.getD_cons_succ, this]; omega
/-- the first j marked, the rest as it was -/
def marked (k : Int) (xs : List Int) (j : Nat) : List Int := marks k j ++ xs.drop j
theorem marked_zero (k : Int) (xs : List Int) : marked k xs 0 = xs := by simp [marked, marks]
theorem marked_all (k : Int) (xs : List Int) : marked k xs xs.length = marks k xs.length := by simp [marked]
theorem marked_length (k : Int) (xs : List Int) (j : Nat) (h : j ≤ xs.length) : (marked k xs j).length = xs.length := by simp [marked, marks_length]; omega
theorem marks_snoc (k : Int) (n : Nat) : marks k (n + 1) = marks k n ++ [k + n] := by
  induction n generalizing k with
  | zero => simp [marks]
  | succ n ih =>
    rw [marks, ih (k + 1), marks]
    simp; omega
theorem marked_set (k : Int) (xs : List Int) (j : Nat) (h : j < xs.length) : (marked k xs j).set j (k + j) = marked k xs (j + 1) := by
  unfold marked
  rw [List.set_append_right _ _ (by rw [marks_length]; exact Nat.le_refl _), marks_length, Nat.sub_self, marks_snoc, List.drop_eq_getElem_cons h, List.set_cons_zero, List.append_assoc]
  rfl
theorem ints_set (xs : List Int) (j : Nat) (x : Int) : (ints xs).set j (.int .i64 x) = ints (xs.set j x) := by simp [ints, List.map_set]

/-! ### rows -/
theorem Own.sameBlk {w w' : World} {lo hi : Nat} {e : TypeId} {v : Value} {vs : List Value} (h : Own w lo hi e v vs) (hs : ∀ k, k < w.heap.size → v.ownBlock = some k → w'.heap[k]? = w.heap[k]?) : Own w' lo hi e v vs := by
  obtain ⟨ho, hm, hk⟩ := h
  have ho' := ho
  refine ⟨⟨ho.1, ?_⟩, hm, hk⟩
  rcases ho.2 with hn | ⟨g, cap, cur, rfl, hg, hh, r⟩
  · exact Or.inl hn
  · exact Or.inr ⟨g, cap, cur, rfl, hg, by rw [hs g (ho'.lt g rfl).2 rfl]; exact hh, r⟩
/-- its very block as the bounds -/
theorem Own.tight {w : World} {lo hi : Nat} {e : TypeId} {v : Value} {vs : List Value} (h : Own w lo hi e v vs) :
    ∃ g g', Own w g g' e v vs ∧ (∀ k, g ≤ k → k < g' → v.ownBlock = some k) ∧ (∀ k, g ≤ k → k < g' → lo ≤ k ∧ k < hi) := by
  obtain ⟨ho, hm, hk⟩ := h
  rcases ho.2 with hn | ⟨g, cap, cur, rfl, hg, r⟩
  · refine ⟨0, 0, ⟨⟨ho.1, Or.inl hn⟩, hm, fun k hk' => ?_⟩, fun k _ h2 => by omega, fun k _ h2 => by omega⟩
    rw [hn.1] at hk'; simp [Value.ownBlock] at hk'
  · have := hk g rfl
    refine ⟨g, g + 1, ⟨⟨ho.1, Or.inr ⟨g, cap, cur, rfl, Nat.le_refl _, r⟩⟩, hm, fun k hk' => ?_⟩, fun k h1 h2 => ?_, fun k h1 h2 => by omega⟩
    · simp [Value.ownBlock] at hk'; omega
    · simp [Value.ownBlock]; omega
theorem Own.loose {w : World} {g g' lo hi : Nat} {e : TypeId} {v : Value} {vs : List Value} (h : Own w g g' e v vs) (hw : ∀ k, g ≤ k → k < g' → lo ≤ k ∧ k < hi) : Own w lo hi e v vs := by
  obtain ⟨ho, hm, hk⟩ := h
  refine ⟨⟨ho.1, ?_⟩, hm, fun k hk' => (hw k (ho.lt k hk').1 (hk k hk')).2⟩
  rcases ho.2 with hn | ⟨b, cap, cur, rfl, hg, r⟩
  · exact Or.inl hn
  · exact Or.inr ⟨b, cap, cur, rfl, (hw b hg (hk b rfl)).1, r⟩
theorem Touched.loose {g g' lo hi : Nat} {w w' : World} (h : Touched g g' w w') (hw : ∀ k, g ≤ k → k < g' → lo ≤ k ∧ k < hi) : Touched lo hi w w' :=
  ⟨h.os, h.tape, h.output, h.size, fun k a b => h.block k a (by
    by_cases h1 : g ≤ k
    · by_cases h2 : k < g'
      · have := hw k h1 h2; omega
      · omega
    · omega)⟩

def markRows (k : Int) : List (List Int) → List (List Int)
  | [] => []
  | r :: rs => marks k r.length :: markRows (k + r.length) rs
theorem markRows_length (k : Int) (xss : List (List Int)) : (markRows k xss).length = xss.length := by induction xss generalizing k with | nil => rfl | cons r rs ih => simp [markRows, ih]
theorem markRows_getD (k : Int) (xss : List (List Int)) (i : Nat) (h : i < xss.length) : (markRows k xss).getD i [] = marks (k + total (xss.take i)) (xss.getD i []).length := by
  induction xss generalizing k i with
  | nil => simp at h
  | cons r rs ih =>
    cases i with
    | zero => simp [markRows, List.getD, total]
    | succ i =>
      have := ih (k + r.length) i (by simpa using h)
      simp only [markRows, List.getD_cons_succ, this, List.take_succ_cons, total]
      congr 1; omega
theorem markRows_lens (k : Int) (xss : List (List Int)) : total (markRows k xss) = total xss := by
  induction xss generalizing k with
  | nil => rfl
  | cons r rs ih => simp [markRows, total, ih, marks_length]
/-- the first j rows marked -/
def markedRows (k : Int) (xss : List (List Int)) (j : Nat) : List (List Int) := (markRows k xss).take j ++ xss.drop j
theorem markedRows_length (k : Int) (xss : List (List Int)) (j : Nat) (h : j ≤ xss.length) : (markedRows k xss j).length = xss.length := by simp [markedRows, markRows_length]; omega
theorem markedRows_zero (k : Int) (xss : List (List Int)) : markedRows k xss 0 = xss := by simp [markedRows]
theorem markedRows_all (k : Int) (xss : List (List Int)) : markedRows k xss xss.length = markRows k xss := by
  unfold markedRows
  rw [List.drop_length, List.append_nil, ← markRows_length k xss, List.take_length]
theorem markedRows_lo (k : Int) (xss : List (List Int)) (j i : Nat) (h : i < j) (hj : j ≤ xss.length) : (markedRows k xss j).getD i [] = (markRows k xss).getD i [] := by
  unfold markedRows
  simp only [List.getD]
  rw [List.getElem?_append_left (by simp [markRows_length]; omega), List.getElem?_take_of_lt h]
theorem markedRows_hi (k : Int) (xss : List (List Int)) (j i : Nat) (h : j ≤ i) (hj : j ≤ xss.length) : (markedRows k xss j).getD i [] = xss.getD i [] := by
  unfold markedRows
  have hl : ((markRows k xss).take j).length = j := by simp [markRows_length]; omega
  simp only [List.getD]
  rw [List.getElem?_append_right (by omega), hl, List.getElem?_drop]
  congr 2; omega

/-- one row of rows is written anew by a callee that touches its block alone -/
theorem OwnRows.row {e2 e1 : TypeId} {w w' : World} {lo hi : Nat} {v : Value} {rvs : List Value} {xss yss : List (List Int)} {j g g' : Nat}
    (ho : Own w lo hi e2 v rvs) (hl : rvs.length = xss.length) (hr : ∀ i, i < xss.length → Own w lo hi e1 (rvs.getD i undef) (ints (xss.getD i [])))
    (hd : ∀ i, i < xss.length → ∀ k, (rvs.getD i undef).ownBlock = some k → v.ownBlock ≠ some k)
    (he : ∀ i j, i < xss.length → j < xss.length → i ≠ j → ∀ k, (rvs.getD i undef).ownBlock = some k → (rvs.getD j undef).ownBlock ≠ some k)
    (hj : j < xss.length) (hb : ∀ k, g ≤ k → k < g' → (rvs.getD j undef).ownBlock = some k) (ht : Touched g g' w w')
    (hn : Own w' lo hi e1 (rvs.getD j undef) (ints (yss.getD j []))) (hly : yss.length = xss.length) (ho' : ∀ i, i < xss.length → i ≠ j → yss.getD i [] = xss.getD i []) :
    Own w' lo hi e2 v rvs ∧ rvs.length = yss.length ∧ (∀ i, i < yss.length → Own w' lo hi e1 (rvs.getD i undef) (ints (yss.getD i []))) := by
  refine ⟨ho.sameBlk fun k hk hv => ht.block k hk ?_, by omega, fun i hi => ?_⟩
  · by_cases h1 : g ≤ k
    · by_cases h2 : k < g'
      · exact absurd hv (hd j hj k (hb k h1 h2))
      · omega
    · omega
  · by_cases e : i = j
    · subst e; exact hn
    · rw [ho' i (by omega) e]
      refine (hr i (by omega)).sameBlk fun k hk hv => ht.block k hk ?_
      by_cases h1 : g ≤ k
      · by_cases h2 : k < g'
        · exact absurd hv (he j i hj (by omega) (Ne.symm e) k (hb k h1 h2))
        · omega
      · omega

/-- the rows of the loop: which slices they are stays, j of them are marked -/
def MarkTo (w : World) (lo hi : Nat) (v : Value) (rvs : List Value) (yss : List (List Int)) : Prop :=
  Own w lo hi 55 v rvs ∧ rvs.length = yss.length ∧ ∀ i, i < yss.length → Own w lo hi 2 (rvs.getD i undef) (ints (yss.getD i []))

theorem total_take_lt (xss : List (List Int)) (j : Nat) (h : j < xss.length) : total (xss.take j) + (xss.getD j []).length ≤ total xss := by
  have h1 := total_take_succ xss j h
  have h2 := total_take_le xss (j + 1)
  omega

/-! ### found again -/
end Go.Proofs.YtgaadcinhaphpaaDoor
