/- Lists of long numbers; an append of slices at a step of a drawn region. Conditions: told by the code. -/
import Derived.Test.YtjkekhiceadpgaaRl4
import Derived.Deep.AppendLies
namespace Go.Proofs.Ytjkekhiceadpgaa
open Go.RowKit Go.Deep
set_option linter.unusedVariables false

section
variable {P : Program} (w : World)
theorem step_append_sl {ops : Array Oper} {o : Oper} {a : Act} {K : Act → World → Prop} {Q : Exit → Act → World → Prop} {E : Prop} (hgd : o.guard = none) (s x : Operand) (t : TypeId)
    (ho : o.op = .call { callee := .builtin .append, args := #[s, x], argTypes := #[t, t] })
    (base : Nat) (e : TypeId) (i : TypeInfo) (z : Value) (size bytes : Nat) (ht : P.underlying t = some (.slice e)) (hi : P.info? e = some i) (hz : i.zero = some z)
    (hsize : i.size = size) (hby : i.bytes = bytes) (hzs : z.cells.size = size) (hsz : 0 < size)
    (v : Value) (n : Nat) (xs : List Value) (hs : a.eval s = v) (hown : w.ownsRow base e size v n xs)
    (ad : Addr) (m c : Nat) (news : List Value) (hx : a.eval x = .slice (some ad) m c) (hl : news.length = m * size) (hnews : ∀ j u, news[j]? = some u → w.cell? (ad.add j) = some u) (h1 : ∀ u ∈ news, u.oneCell' = true)
    (hm : 0 < m) (h63 : n + m ≤ maxLen) (hbytes : (n + m) * bytes ≤ 140737488355328) (hbase : base ≤ w.heap.size)
    (hzS : ∀ x ∈ z.cells.toList, IsSl x) (hnS : ∀ x ∈ news, IsSl x) (hall : AllSl w v)
    (h : ∀ g cap w', w'.ownsRow base e size (.slice (some ⟨g, 0, none⟩) (n + m) cap) (n + m) (xs ++ news) → w.grownBy w' v.ownBlock → AllSl w' (.slice (some ⟨g, 0, none⟩) (n + m) cap) → K (a.put o.dst (.slice (some ⟨g, 0, none⟩) (n + m) cap)) w') :
    if Region.wanted o (yielded ops a.tmps) = true then Oper.wp P o a w K Q else E := by
  have hw : Region.wanted o (yielded ops a.tmps) = true := by simp [Region.wanted, hgd]
  rw [if_pos hw]
  obtain ⟨v', w', hr, h2, h3, h4, h5⟩ := run_append_sl (P := P) w base t o.type e i z size bytes ht hi hz hsize hby hzs hsz v n xs hown ad m c news hl hnews h1 h63 hbytes hbase hzS hnS hall
  obtain ⟨g, cap, rfl, _, hlt⟩ := h2.form (by omega)
  unfold Oper.wp execOp
  simp only [ho, resolve, invoke, builtin, Sem.run_bind, Sem.run_pure, Result.andThen_ok, List.map_toArray, List.map_cons, List.map_nil, hs, hx, hr]
  exact h g cap w' h2 h3 h5
end

/-- the slice v reads as the long numbers l -/
def RowL (L : World → Value → Nat → Prop) (w : World) (v : Value) (l : List Nat) : Prop :=
  ∃ a cap, v = .slice a l.length cap ∧ ∀ i, i < l.length → ∃ b off x, a = some ⟨b, off, none⟩ ∧ w.cell? ⟨b, off + i, none⟩ = some x ∧ L w x (l.getD i 0)
theorem RowL.keep {L : World → Value → Nat → Prop} (hL : LongLike L) {w w' : World} {v : Value} {l : List Nat} (h : RowL L w v l) (hb : Below w.heap.size w w') : RowL L w' v l := by
  obtain ⟨a, cap, hv, hc⟩ := h
  refine ⟨a, cap, hv, fun i hi => ?_⟩
  obtain ⟨b, off, x, ha, hx, h1⟩ := hc i hi
  exact ⟨b, off, x, ha, by rw [hb.cell (block_lt hx)]; exact hx, hL.keep h1 hb⟩
theorem RowL.at {L : World → Value → Nat → Prop} {w : World} {a : Option Addr} {n cap : Nat} {l : List Nat} (h : RowL L w (.slice a n cap) l) (i : Nat) (hi : i < l.length) :
    ∃ b off x, a = some ⟨b, off, none⟩ ∧ w.cell? ⟨b, off + i, none⟩ = some x ∧ L w x (l.getD i 0) := by
  obtain ⟨a', cap', hv, hc⟩ := h
  simp only [Value.slice.injEq] at hv
  obtain ⟨rfl, -, -⟩ := hv
  exact hc i hi
/-- such a list while a call makes it -/
def MadeL (L : World → Value → Nat → Prop) (e : TypeId) (w : World) (B : Nat) (v : Value) (l : List Nat) : Prop :=
  ∃ xs, w.ownsRow B e 1 v l.length xs ∧ AllSl w v ∧ ∀ i, i < l.length → ∃ x, xs[i]? = some x ∧ L w x (l.getD i 0)
theorem MadeL.nil {L : World → Value → Nat → Prop} (e : TypeId) (w : World) (B : Nat) : MadeL L e w B (.slice none 0 0) [] := ⟨[], World.ownsRow_nil w B e 1, AllSl.nil w, fun i hi => by simp at hi⟩
theorem MadeL.keep {L : World → Value → Nat → Prop} (hL : LongLike L) {e : TypeId} {w w' : World} {B : Nat} {v : Value} {l : List Nat} (h : MadeL L e w B v l) (hb : Below w.heap.size w w') : MadeL L e w' B v l := by
  obtain ⟨xs, ho, ha, hc⟩ := h
  refine ⟨xs, ?_, ha.keep hb, fun i hi => ?_⟩
  · refine ⟨ho.1, ?_⟩
    rcases ho.2 with h0 | ⟨g, cap, cur, hv, hg, hh, r⟩
    · exact Or.inl h0
    · exact Or.inr ⟨g, cap, cur, hv, hg, by rw [hb.block g (Array.getElem?_eq_some_iff.1 hh).1]; exact hh, r⟩
  · obtain ⟨x, h1, h3⟩ := hc i hi
    exact ⟨x, h1, hL.keep h3 hb⟩
theorem MadeL.shape {L : World → Value → Nat → Prop} {e : TypeId} {w : World} {B : Nat} {v : Value} {l : List Nat} (h : MadeL L e w B v l) : ∃ a cap, v = .slice a l.length cap := by
  obtain ⟨xs, ho, _⟩ := h
  rcases ho.2 with ⟨rfl, h0⟩ | ⟨g, cap, cur, rfl, _⟩
  · exact ⟨none, 0, by rw [h0]⟩
  · exact ⟨_, cap, rfl⟩
theorem MadeL.done {L : World → Value → Nat → Prop} {e : TypeId} {w : World} {B : Nat} {v : Value} {l : List Nat} (h : MadeL L e w B v l) : RowL L w v l := by
  obtain ⟨xs, ho, ha, hc⟩ := h
  have ho' := ho
  rcases ho.2 with ⟨rfl, h0⟩ | ⟨g, cap, cur, rfl, _⟩
  · exact ⟨none, 0, by rw [h0], fun i hi => by omega⟩
  · refine ⟨_, cap, rfl, fun i hi => ?_⟩
    obtain ⟨x, h1, h3⟩ := hc i hi
    exact ⟨g, 0, x, rfl, by rw [Nat.zero_add, ho'.cellAt i (by omega), h1], h3⟩
/-- one number more -/
theorem MadeL.step {L : World → Value → Nat → Prop} (hL : LongLike L) {e : TypeId} {w w2 : World} {B : Nat} {v v' x : Value} {l : List Nat} {n : Nat} {xs : List Value}
    (hc : ∀ i, i < l.length → ∃ x, xs[i]? = some x ∧ L w x (l.getD i 0)) (hlen : xs.length = l.length) (ha : AllSl w v)
    (hx : L w x n) (hown : w2.ownsRow B e 1 v' (l.length + 1) (xs ++ [x])) (hg : w.grownBy w2 v.ownBlock) (ha2 : AllSl w2 v') : MadeL L e w2 B v' (l ++ [n]) := by
  refine ⟨xs ++ [x], by rw [List.length_append]; exact hown, ha2, fun i hi => ?_⟩
  rw [List.length_append] at hi
  by_cases h : i < l.length
  · obtain ⟨p, h1, h3⟩ := hc i h
    have e : (l ++ [n]).getD i 0 = l.getD i 0 := by simp [List.getD, List.getElem?_append_left h]
    rw [e]
    exact ⟨p, by rw [List.getElem?_append_left (by omega)]; exact h1, hL.grown h3 ha hg⟩
  · have hi' : i = l.length := by simp at hi; omega
    subst hi'
    have e : (l ++ [n]).getD l.length 0 = n := by simp [List.getD]
    rw [e]
    exact ⟨x, by rw [List.getElem?_append_right (by omega), hlen, Nat.sub_self]; rfl, hL.grown hx ha hg⟩
/-- a store into a box of two slices leaves it as it was -/
theorem MadeL.setBox {L : World → Value → Nat → Prop} (hS : ∀ {w : World} {v : Value} {n b : Nat} {a1 a2 : Option Addr} {l1 c1 l2 c2 : Nat} {t : TypeId}, L w v n → Blk w b #[.slice a1 l1 c1, .slice a2 l2 c2] t → ∀ (j : Nat) (u : Value), L (w.setCell ⟨b, j, none⟩ u) v n)
    {e t : TypeId} {w : World} {B b : Nat} {v : Value} {l : List Nat} {a1 a2 : Option Addr} {l1 c1 l2 c2 : Nat} (h : MadeL L e w B v l) (hB : Blk w b #[.slice a1 l1 c1, .slice a2 l2 c2] t) (hb : v.ownBlock ≠ some b) (j : Nat) (u : Value) : MadeL L e (w.setCell ⟨b, j, none⟩ u) B v l := by
  obtain ⟨xs, ho, ha, hc⟩ := h
  refine ⟨xs, ⟨ho.1, ?_⟩, ?_, fun i hi => ?_⟩
  · rcases ho.2 with h0 | ⟨g, cap, cur, hv, hg, hh, r⟩
    · exact Or.inl h0
    · refine Or.inr ⟨g, cap, cur, hv, hg, ?_, r⟩
      rw [Below.heap_setCell _ _ _ _ (by intro e; apply hb; simp [hv, Value.ownBlock, e])]
      exact hh
  · intro g hg
    obtain ⟨cur, e', hh, hx⟩ := ha g hg
    refine ⟨cur, e', ?_, hx⟩
    rw [Below.heap_setCell _ _ _ _ (by intro e; apply hb; rw [hg, e])]
    exact hh
  · obtain ⟨x, h1, h3⟩ := hc i hi
    exact ⟨x, h1, hS h3 hB j u⟩
end Go.Proofs.Ytjkekhiceadpgaa
