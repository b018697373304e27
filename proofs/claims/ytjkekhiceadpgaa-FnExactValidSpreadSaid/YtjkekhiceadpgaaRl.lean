/- Lists of fractions as both sides hold them: pairs of long numbers. Conditions: told by the code. -/
import Derived.Test.YtjkekhiceadpgaaSl
import Derived.Test.YtjkekhiceadpgaaFracC
namespace Go.Proofs.Ytjkekhiceadpgaa
open Go.RowKit Go.Deep
set_option linter.unusedVariables false

/-- what is asked of a way to read a long number -/
structure LongLike (L : World → Value → Nat → Prop) : Prop where
  keep : ∀ {w w' : World} {v : Value} {n : Nat}, L w v n → Below w.heap.size w w' → L w' v n
  grown : ∀ {w w' : World} {v r : Value} {n : Nat}, L w v n → AllSl w r → w.grownBy w' r.ownBlock → L w' v n
  shape : ∀ {w : World} {v : Value} {n : Nat}, L w v n → IsSl v
theorem likeI : LongLike LongI := ⟨fun h b => h.keep b, fun h a g => h.grownSl a g, fun h => by obtain ⟨_, a, c, rfl⟩ := h.len; exact ⟨_, _, _, rfl⟩⟩
theorem likeS : LongLike LongS := ⟨fun h b => h.keep b, fun h a g => h.grownSl a g, fun h => by obtain ⟨_, a, c, rfl⟩ := h.len; exact ⟨_, _, _, rfl⟩⟩

/-- the slice v reads as the pairs l -/
def PairL (L : World → Value → Nat → Prop) (w : World) (v : Value) (l : List (Nat × Nat)) : Prop :=
  ∃ a cap, v = .slice a l.length cap ∧ ∀ i, i < l.length → ∃ b off x y, a = some ⟨b, off, none⟩ ∧ w.cell? ⟨b, off + i * 2, none⟩ = some x ∧ w.cell? ⟨b, off + i * 2 + 1, none⟩ = some y ∧ L w x (l.getD i (0, 0)).1 ∧ L w y (l.getD i (0, 0)).2
theorem PairL.keep {L : World → Value → Nat → Prop} (hL : LongLike L) {w w' : World} {v : Value} {l : List (Nat × Nat)} (h : PairL L w v l) (hb : Below w.heap.size w w') : PairL L w' v l := by
  obtain ⟨a, cap, hv, hc⟩ := h
  refine ⟨a, cap, hv, fun i hi => ?_⟩
  obtain ⟨b, off, x, y, ha, hx, hy, h1, h2⟩ := hc i hi
  exact ⟨b, off, x, y, ha, by rw [hb.cell (block_lt hx)]; exact hx, by rw [hb.cell (block_lt hy)]; exact hy, hL.keep h1 hb, hL.keep h2 hb⟩
theorem PairL.at {L : World → Value → Nat → Prop} {w : World} {a : Option Addr} {n cap : Nat} {l : List (Nat × Nat)} (h : PairL L w (.slice a n cap) l) (i : Nat) (hi : i < l.length) :
    ∃ b off x y, a = some ⟨b, off, none⟩ ∧ w.cell? ⟨b, off + i * 2, none⟩ = some x ∧ w.cell? ⟨b, off + i * 2 + 1, none⟩ = some y ∧ L w x (l.getD i (0, 0)).1 ∧ L w y (l.getD i (0, 0)).2 := by
  obtain ⟨a', cap', hv, hc⟩ := h
  simp only [Value.slice.injEq] at hv
  obtain ⟨rfl, -, -⟩ := hv
  exact hc i hi

/-- such a list while a call makes it -/
def MadeP (L : World → Value → Nat → Prop) (e : TypeId) (w : World) (B : Nat) (v : Value) (l : List (Nat × Nat)) : Prop :=
  ∃ xs, w.ownsRow B e 2 v l.length xs ∧ AllSl w v ∧ ∀ i, i < l.length → ∃ x y, xs[i * 2]? = some x ∧ xs[i * 2 + 1]? = some y ∧ L w x (l.getD i (0, 0)).1 ∧ L w y (l.getD i (0, 0)).2
theorem MadeP.start {L : World → Value → Nat → Prop} (e : TypeId) (w : World) (B : Nat) {v : Value} (h : w.ownsRow B e 2 v 0 []) (ha : AllSl w v) : MadeP L e w B v [] := ⟨[], h, ha, fun i hi => by simp at hi⟩
theorem MadeP.keep {L : World → Value → Nat → Prop} (hL : LongLike L) {e : TypeId} {w w' : World} {B : Nat} {v : Value} {l : List (Nat × Nat)} (h : MadeP L e w B v l) (hb : Below w.heap.size w w') : MadeP L e w' B v l := by
  obtain ⟨xs, ho, ha, hc⟩ := h
  refine ⟨xs, ?_, ha.keep hb, fun i hi => ?_⟩
  · refine ⟨ho.1, ?_⟩
    rcases ho.2 with h0 | ⟨g, cap, cur, hv, hg, hh, r⟩
    · exact Or.inl h0
    · exact Or.inr ⟨g, cap, cur, hv, hg, by rw [hb.block g (Array.getElem?_eq_some_iff.1 hh).1]; exact hh, r⟩
  · obtain ⟨x, y, h1, h2, h3, h4⟩ := hc i hi
    exact ⟨x, y, h1, h2, hL.keep h3 hb, hL.keep h4 hb⟩
theorem MadeP.shape {L : World → Value → Nat → Prop} {e : TypeId} {w : World} {B : Nat} {v : Value} {l : List (Nat × Nat)} (h : MadeP L e w B v l) : ∃ a cap, v = .slice a l.length cap := by
  obtain ⟨xs, ho, _⟩ := h
  rcases ho.2 with ⟨rfl, h0⟩ | ⟨g, cap, cur, rfl, _⟩
  · exact ⟨none, 0, by rw [h0]⟩
  · exact ⟨_, cap, rfl⟩
theorem MadeP.done {L : World → Value → Nat → Prop} {e : TypeId} {w : World} {B : Nat} {v : Value} {l : List (Nat × Nat)} (h : MadeP L e w B v l) : PairL L w v l := by
  obtain ⟨xs, ho, ha, hc⟩ := h
  have ho' := ho
  rcases ho.2 with ⟨rfl, h0⟩ | ⟨g, cap, cur, rfl, _⟩
  · exact ⟨none, 0, by rw [h0], fun i hi => by omega⟩
  · refine ⟨_, cap, rfl, fun i hi => ?_⟩
    obtain ⟨x, y, h1, h2, h3, h4⟩ := hc i hi
    refine ⟨g, 0, x, y, rfl, ?_, ?_, h3, h4⟩
    · rw [Nat.zero_add, ho'.cellAt (i * 2) (by omega), h1]
    · rw [Nat.zero_add, ho'.cellAt (i * 2 + 1) (by omega), h2]
/-- one pair more -/
theorem MadeP.step {L : World → Value → Nat → Prop} (hL : LongLike L) {e : TypeId} {w w2 : World} {B : Nat} {v v' x y : Value} {l : List (Nat × Nat)} {n d : Nat} {xs : List Value}
    (hc : ∀ i, i < l.length → ∃ x y, xs[i * 2]? = some x ∧ xs[i * 2 + 1]? = some y ∧ L w x (l.getD i (0, 0)).1 ∧ L w y (l.getD i (0, 0)).2) (hlen : xs.length = l.length * 2) (ha : AllSl w v)
    (hx : L w x n) (hy : L w y d) (hown : w2.ownsRow B e 2 v' (l.length + 1) (xs ++ [x, y])) (hg : w.grownBy w2 v.ownBlock) (ha2 : AllSl w2 v') : MadeP L e w2 B v' (l ++ [(n, d)]) := by
  refine ⟨xs ++ [x, y], by rw [List.length_append]; exact hown, ha2, fun i hi => ?_⟩
  rw [List.length_append] at hi
  by_cases h : i < l.length
  · obtain ⟨p, q, h1, h2, h3, h4⟩ := hc i h
    have e : (l ++ [(n, d)]).getD i (0, 0) = l.getD i (0, 0) := by simp [List.getD, List.getElem?_append_left h]
    rw [e]
    exact ⟨p, q, by rw [List.getElem?_append_left (by omega)]; exact h1, by rw [List.getElem?_append_left (by omega)]; exact h2, hL.grown h3 ha hg, hL.grown h4 ha hg⟩
  · have hi' : i = l.length := by simp at hi; omega
    subst hi'
    have e : (l ++ [(n, d)]).getD l.length (0, 0) = (n, d) := by simp [List.getD]
    rw [e]
    refine ⟨x, y, ?_, ?_, hL.grown hx ha hg, hL.grown hy ha hg⟩
    · rw [List.getElem?_append_right (by omega), hlen, Nat.sub_self]; rfl
    · rw [List.getElem?_append_right (by omega), hlen, show l.length * 2 + 1 - l.length * 2 = 1 by omega]; rfl

/-- the slice v reads as fractions in texts -/
def FrL (w : World) (v : Value) (l : List (ByteArray × ByteArray)) : Prop :=
  l.length ≤ maxLen ∧ ∃ a cap, v = .slice a l.length cap ∧ ∀ i, i < l.length → ∃ b off, a = some ⟨b, off, none⟩ ∧ w.cell? ⟨b, off + i * 2, none⟩ = some (.string (l.getD i (⟨#[]⟩, ⟨#[]⟩)).1) ∧ w.cell? ⟨b, off + i * 2 + 1, none⟩ = some (.string (l.getD i (⟨#[]⟩, ⟨#[]⟩)).2)
theorem FrL.keep {w w' : World} {v : Value} {l : List (ByteArray × ByteArray)} (h : FrL w v l) (hb : Below w.heap.size w w') : FrL w' v l := by
  obtain ⟨hm, a, cap, hv, hc⟩ := h
  refine ⟨hm, a, cap, hv, fun i hi => ?_⟩
  obtain ⟨b, off, ha, hx, hy⟩ := hc i hi
  exact ⟨b, off, ha, by rw [hb.cell (block_lt hx)]; exact hx, by rw [hb.cell (block_lt hy)]; exact hy⟩
theorem FrL.at {w : World} {a : Option Addr} {n cap : Nat} {l : List (ByteArray × ByteArray)} (h : FrL w (.slice a n cap) l) (i : Nat) (hi : i < l.length) :
    ∃ b off, a = some ⟨b, off, none⟩ ∧ w.cell? ⟨b, off + i * 2, none⟩ = some (.string (l.getD i (⟨#[]⟩, ⟨#[]⟩)).1) ∧ w.cell? ⟨b, off + i * 2 + 1, none⟩ = some (.string (l.getD i (⟨#[]⟩, ⟨#[]⟩)).2) := by
  obtain ⟨_, a', cap', hv, hc⟩ := h
  simp only [Value.slice.injEq] at hv
  obtain ⟨rfl, -, -⟩ := hv
  exact hc i hi
def frsOk (l : List (ByteArray × ByteArray)) : Bool := l.all fun c => frOk c.1 c.2
def numP (l : List (ByteArray × ByteArray)) : List (Nat × Nat) := l.map fun c => (numV c.1, numV c.2)
theorem numP_length (l : List (ByteArray × ByteArray)) : (numP l).length = l.length := by simp [numP]
theorem numP_take (l : List (ByteArray × ByteArray)) (k : Nat) (h : k < l.length) : numP (l.take (k + 1)) = numP (l.take k) ++ [(numV (l.getD k (⟨#[]⟩, ⟨#[]⟩)).1, numV (l.getD k (⟨#[]⟩, ⟨#[]⟩)).2)] := by
  unfold numP
  rw [List.take_add_one, List.getElem?_eq_getElem h, List.map_append]
  congr 1
  simp [List.getD, h]
theorem frsOk_no {l : List (ByteArray × ByteArray)} {k : Nat} (h : k < l.length) (hk : frOk (l.getD k (⟨#[]⟩, ⟨#[]⟩)).1 (l.getD k (⟨#[]⟩, ⟨#[]⟩)).2 = false) : frsOk l = false := by
  rw [Bool.eq_false_iff]; intro hc
  have := List.all_eq_true.1 hc (l.getD k (⟨#[]⟩, ⟨#[]⟩)) (by simp [List.getD, h])
  rw [hk] at this; cases this
theorem frsOk_next {l : List (ByteArray × ByteArray)} {k : Nat} (h : k < l.length) (h1 : frsOk (l.take k) = true) (hk : frOk (l.getD k (⟨#[]⟩, ⟨#[]⟩)).1 (l.getD k (⟨#[]⟩, ⟨#[]⟩)).2 = true) : frsOk (l.take (k + 1)) = true := by
  unfold frsOk at *
  rw [List.take_add_one, List.getElem?_eq_getElem h, List.all_append, h1]
  simpa [List.getD, h] using hk
/-- every fraction of a good list is good -/
theorem frsOk_at {l : List (ByteArray × ByteArray)} (h : frsOk l = true) (c : ByteArray × ByteArray) (hc : c ∈ l) : frOk c.1 c.2 = true := List.all_eq_true.1 h c hc
end Go.Proofs.Ytjkekhiceadpgaa
