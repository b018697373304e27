/- ListG: several texts in one (Sl, Rl, Rl2, Rw, Rl3, Rl4). Conditions: told in each. -/
import Derived.Test.YtiddhnnofpbopaaWordH
import Derived.Test.YtiddhnnofpbopaaLongH
import Derived.Test.YtiddhnnofpbopaaReadG
import Derived.Test.YtiddhnnofpbopaaDigG
import Derived.Deep.AppendLies
/- Lists of slices that a call makes by appending: every cell of their block is a slice, so no long number lies in it. Conditions: told by the code. -/
namespace Go.Proofs.Ytiddhnnofpbopaa
open Go.RowKit Go.Deep
set_option linter.unusedVariables false

def IsSl (x : Value) : Prop := ∃ a l c, x = .slice a l c
/-- every cell of the slice's block is a slice -/
def AllSl (w : World) (v : Value) : Prop := ∀ g, v.ownBlock = some g → ∃ cur e, w.heap[g]? = some (.cells cur e (0, 0)) ∧ ∀ x ∈ cur.toList, IsSl x
theorem AllSl.nil (w : World) : AllSl w (.slice none 0 0) := fun g h => by simp [Value.ownBlock] at h
theorem AllSl.cell {w : World} {v : Value} (h : AllSl w v) {g : Nat} (hg : v.ownBlock = some g) {j : Nat} {x : Value} (hx : w.cell? ⟨g, j, none⟩ = some x) : IsSl x := by
  obtain ⟨cur, e, hh, ha⟩ := h g hg
  simp only [World.cell?, hh] at hx
  simp at hx
  exact ha x (by simpa using Array.mem_of_getElem? hx)
theorem AllSl.keep {w w' : World} {v : Value} (h : AllSl w v) (hb : Below w.heap.size w w') : AllSl w' v := fun g hg => by
  obtain ⟨cur, e, hh, ha⟩ := h g hg
  have hlt : g < w.heap.size := by
    rcases Nat.lt_or_ge g w.heap.size with h1 | h1
    · exact h1
    · rw [Array.getElem?_eq_none h1] at hh; cases hh
  exact ⟨cur, e, by rw [hb.block g hlt]; exact hh, ha⟩
theorem mem_zeroCells {z : Array Value} {n : Nat} {x : Value} (h : x ∈ (Builtin.zeroCells z n).toList) : x ∈ z.toList := by
  simp only [Builtin.zeroCells] at h
  simp at h
  obtain ⟨k, hk, rfl⟩ := h
  have hz : 0 < z.size := by
    rcases Nat.eq_zero_or_pos z.size with h0 | h0
    · rw [h0] at hk; omega
    · exact h0
  rw [getElem!_pos z _ (Nat.mod_lt k hz)]
  exact Array.getElem_mem_toList _

section
variable {P : Program} (w : World)
theorem run_append_sl (base : Nat) (t ty e : TypeId) (i : TypeInfo) (z : Value) (size bytes : Nat) (ht : P.underlying t = some (.slice e)) (hi : P.info? e = some i) (hz : i.zero = some z)
    (hsize : i.size = size) (hby : i.bytes = bytes) (hzs : z.cells.size = size) (hsz : 0 < size)
    (v : Value) (n : Nat) (xs : List Value) (hown : w.ownsRow base e size v n xs)
    (a : Addr) (m c : Nat) (news : List Value) (hl : news.length = m * size) (hnews : ∀ j u, news[j]? = some u → w.cell? (a.add j) = some u) (h1 : ∀ u ∈ news, u.oneCell' = true)
    (h63 : n + m ≤ maxLen) (hbytes : (n + m) * bytes ≤ 140737488355328) (hbase : base ≤ w.heap.size)
    (hzS : ∀ x ∈ z.cells.toList, IsSl x) (hnS : ∀ x ∈ news, IsSl x) (hall : AllSl w v) :
    ∃ v' w', (Builtin.append_ #[t, t] ty #[v, .slice (some a) m c]).run P w = .ok v' w' ∧ w'.ownsRow base e size v' (n + m) (xs ++ news) ∧ w.grownBy w' v.ownBlock ∧
      (v' = .slice none 0 0 ↔ v = .slice none 0 0 ∧ m = 0) ∧ AllSl w' v' := by
  subst hsize
  subst hby
  have hsmall : n + m ≤ 9223372036854775807 := by simp only [maxLen] at h63; omega
  have hlen : (xs ++ news).length = (n + m) * i.size := by rw [List.length_append, hown.1, hl, Nat.add_mul]
  have grown : ∀ (old : Nat), old < n + m → ∀ (row : Option Nat), (∀ x ∈ xs, IsSl x) →
      (w.drew.alloc (.cells (xs.toArray ++ news.toArray ++ Builtin.zeroCells z.cells (grownCap w (n + m) old e - (n + m))) e)).ownsRow base e i.size
        (.slice (some ⟨w.heap.size, 0, none⟩) (n + m) (grownCap w (n + m) old e)) (n + m) (xs ++ news) ∧
      w.grownBy (w.drew.alloc (.cells (xs.toArray ++ news.toArray ++ Builtin.zeroCells z.cells (grownCap w (n + m) old e - (n + m))) e)) row ∧
      AllSl (w.drew.alloc (.cells (xs.toArray ++ news.toArray ++ Builtin.zeroCells z.cells (grownCap w (n + m) old e - (n + m))) e)) (.slice (some ⟨w.heap.size, 0, none⟩) (n + m) (grownCap w (n + m) old e)) := by
    intro old ho row hxs
    have hge := grownCap_ge w (n + m) old e
    have hcm : grownCap w (n + m) old e ≤ maxLen := grownCap_le_maxLen w (n + m) old e h63
    refine ⟨⟨hlen, .inr ⟨w.heap.size, _, _, rfl, hbase, heap_alloc_new w.drew _, hge, hcm, ?_, ?_⟩⟩, ⟨rfl, rfl, rfl, by simp, fun k hk _ => Go.RowKit.Below.heap_alloc w.drew _ k hk⟩, ?_⟩
    · simp only [Array.size_append, List.size_toArray, size_zeroCells, hzs, hown.1, hl, ← Nat.add_mul]
      congr 1
      omega
    · simp only [Array.toList_append, List.append_assoc]
      rw [← List.append_assoc, ← hlen]
      exact List.take_left
    · intro g hg
      simp only [Value.ownBlock, Option.some.injEq] at hg
      subst hg
      refine ⟨_, _, heap_alloc_new w.drew _, fun x hx => ?_⟩
      simp only [Array.toList_append, List.mem_append] at hx
      rcases hx with (hx | hx) | hx
      · exact hxs x hx
      · exact hnS x hx
      · exact hzS x (mem_zeroCells hx)
  rcases hown.2 with ⟨rfl, rfl⟩ | ⟨g, cap, cur, rfl, hbg, hg, hnc, hcm, hcs, htake⟩
  · have hx : xs = [] := List.eq_nil_of_length_eq_zero (by simpa using hown.1)
    subst hx
    by_cases hm : m = 0
    · subst hm
      have hn : news = [] := List.eq_nil_of_length_eq_zero (by simpa using hl)
      subst hn
      refine ⟨.slice none 0 0, w, ?_, World.ownsRow_nil w base e i.size, ⟨rfl, rfl, rfl, Nat.le_refl _, fun _ _ _ => rfl⟩, by simp, AllSl.nil w⟩
      simp [Builtin.append_, run_underlying ht, sizeOf, typeInfo, hi, Builtin.lenOf, Builtin.firstCells, loadCells, loadCellsFrom]
    · have hr := run_append_nil (P := P) w t ty e i z ht hi hz a m c news hl hnews (by omega) (by omega) (by have hb := hbytes; simp only [Nat.zero_add] at hb; omega)
      have hgr := grown 0 (by omega) (Value.ownBlock (.slice none 0 0)) (fun x hx => by cases hx)
      simp only [Nat.zero_add, List.nil_append, Array.empty_append] at hgr ⊢
      exact ⟨_, _, hr, hgr.1, hgr.2.1, by simp [hm], hgr.2.2⟩
  · obtain ⟨cur', e', hg', hcur⟩ := hall g rfl
    rw [hg] at hg'
    simp only [Option.some.injEq, Obj.cells.injEq] at hg'
    obtain ⟨rfl, rfl, -⟩ := hg'
    have hxs : ∀ x ∈ xs, IsSl x := fun x hx => hcur x (by rw [← htake] at hx; exact List.mem_of_mem_take hx)
    by_cases hroom : n + m ≤ cap
    · have hfit : n * i.size + news.length ≤ cur.size := by rw [hl, hcs, ← Nat.add_mul]; exact Nat.mul_le_mul_right _ hroom
      have hr := run_append_room (P := P) w t ty e i ht hi g n cap cur hg a m c news hl hnews h1 hroom hfit
      refine ⟨_, _, hr, ⟨hlen, .inr ⟨g, cap, _, rfl, hbg, setRow_heap w g cur _ e _ hg, hroom, hcm, ?_, ?_⟩⟩, ⟨rfl, rfl, rfl, by simp, fun k _ hk => setRow_other w g k _ (fun e => hk (by simp [Value.ownBlock, e]))⟩, by simp, ?_⟩
      · simp only [List.size_toArray, List.length_append, List.length_take, List.length_drop, Array.length_toList]
        omega
      · rw [htake, ← hlen]
        exact List.take_left
      · intro g' hg'
        simp only [Value.ownBlock, Option.some.injEq] at hg'
        subst hg'
        refine ⟨_, _, setRow_heap w g cur _ e _ hg, fun x hx => ?_⟩
        simp only [List.mem_append] at hx
        rcases hx with (hx | hx) | hx
        · exact hcur x (List.mem_of_mem_take hx)
        · exact hnS x hx
        · exact hcur x (List.mem_of_mem_drop hx)
    · have holds : ∀ j u, xs[j]? = some u → w.cell? ((⟨g, 0, none⟩ : Addr).add j) = some u := hown.cells (g := g) rfl
      have hr := run_append_grow (P := P) w t ty e i z ht hi hz ⟨g, 0, none⟩ n cap xs hown.1 holds a m c news hl hnews (by omega) (by omega) (growslice_fits (by omega) hbytes)
      have hgr := grown cap (by omega) (Value.ownBlock (.slice (some ⟨g, 0, none⟩) n cap)) hxs
      exact ⟨_, _, hr, hgr.1, hgr.2.1, by simp, hgr.2.2⟩

theorem wpList_append_sl {ops : Array Oper} {rest : List Oper} {o : Oper} {a : Act} {Q : Exit → Act → World → Prop} (hgd : o.guard = none) (s x : Operand) (t : TypeId)
    (ho : o.op = .call { callee := .builtin .append, args := #[s, x], argTypes := #[t, t] })
    (base : Nat) (e : TypeId) (i : TypeInfo) (z : Value) (size bytes : Nat) (ht : P.underlying t = some (.slice e)) (hi : P.info? e = some i) (hz : i.zero = some z)
    (hsize : i.size = size) (hby : i.bytes = bytes) (hzs : z.cells.size = size) (hsz : 0 < size)
    (v : Value) (n : Nat) (xs : List Value) (hs : a.eval s = v) (hown : w.ownsRow base e size v n xs)
    (ad : Addr) (m c : Nat) (news : List Value) (hx : a.eval x = .slice (some ad) m c) (hl : news.length = m * size) (hnews : ∀ j u, news[j]? = some u → w.cell? (ad.add j) = some u) (h1 : ∀ u ∈ news, u.oneCell' = true)
    (h63 : n + m ≤ maxLen) (hbytes : (n + m) * bytes ≤ 140737488355328) (hbase : base ≤ w.heap.size)
    (hzS : ∀ x ∈ z.cells.toList, IsSl x) (hnS : ∀ x ∈ news, IsSl x) (hall : AllSl w v)
    (h : ∀ v' w', w'.ownsRow base e size v' (n + m) (xs ++ news) → w.grownBy w' v.ownBlock → AllSl w' v' → wpList P ops Q rest (a.put o.dst v') w') : wpList P ops Q (o :: rest) a w :=
  wpList_plain hgd fun _ hK => by
    obtain ⟨v', w', hr, h2, h3, h4, h5⟩ := run_append_sl (P := P) w base t o.type e i z size bytes ht hi hz hsize hby hzs hsz v n xs hown ad m c news hl hnews h1 h63 hbytes hbase hzS hnS hall
    have hk := h v' w' h2 h3 h5
    unfold Oper.wp execOp
    simp only [ho, resolve, invoke, builtin, Sem.run_bind, Sem.run_pure, Result.andThen_ok, List.map_toArray, List.map_cons, List.map_nil, hs, hx, hr]
    exact hK _ _ hk
end

/-- a long number is no part of such a list -/
theorem LongI.apart {w : World} {v r : Value} {m : Nat} (h : LongI w v m) (hr : AllSl w r) (i b off : Nat) (hi : i < dlen W32 m) (ha : ∃ l c, v = .slice (some ⟨b, off, none⟩) l c) : r.ownBlock ≠ some b := by
  intro hb
  obtain ⟨b', off', c', hv, _, hc⟩ := h.at (by omega)
  obtain ⟨l, c, rfl⟩ := ha
  simp only [Value.slice.injEq, Option.some.injEq, Addr.mk.injEq, and_true] at hv
  obtain ⟨⟨rfl, rfl⟩, -, -⟩ := hv
  obtain ⟨a, l2, c2, e⟩ := hr.cell hb (hc i hi)
  cases e
theorem LongS.apart {w : World} {v r : Value} {m : Nat} (h : LongS w v m) (hr : AllSl w r) (i b off : Nat) (hi : i < dlen B9 m) (ha : ∃ l c, v = .slice (some ⟨b, off, none⟩) l c) : r.ownBlock ≠ some b := by
  intro hb
  obtain ⟨b', off', c', hv, _, hc⟩ := h.at (by omega)
  obtain ⟨l, c, rfl⟩ := ha
  simp only [Value.slice.injEq, Option.some.injEq, Addr.mk.injEq, and_true] at hv
  obtain ⟨⟨rfl, rfl⟩, -, -⟩ := hv
  obtain ⟨a, l2, c2, e⟩ := hr.cell hb (hc i hi)
  cases e
theorem LongI.grownSl {w w' : World} {v r : Value} {m : Nat} (h : LongI w v m) (hr : AllSl w r) (hg : w.grownBy w' r.ownBlock) : LongI w' v m := by
  have h0 := h
  obtain ⟨hm, a, cap, hv, hk, hc⟩ := h
  refine ⟨hm, a, cap, hv, hk, fun i hi => ?_⟩
  obtain ⟨b, off, ha, hcell⟩ := hc i hi
  refine ⟨b, off, ha, ?_⟩
  have hi' : i < dlen W32 m := by rw [u32s_length, dgs_length] at hi; exact hi
  rw [World.cell?_of_block (w := w) (hg.block b (block_lt hcell) (fun e => h0.apart hr i b off hi' ⟨_, _, by rw [hv, ha]⟩ e.symm))]
  exact hcell
theorem LongS.grownSl {w w' : World} {v r : Value} {m : Nat} (h : LongS w v m) (hr : AllSl w r) (hg : w.grownBy w' r.ownBlock) : LongS w' v m := by
  have h0 := h
  obtain ⟨hm, a, cap, hv, hk, hc⟩ := h
  refine ⟨hm, a, cap, hv, hk, fun i hi => ?_⟩
  obtain ⟨b, off, ha, hcell⟩ := hc i hi
  refine ⟨b, off, ha, ?_⟩
  have hi' : i < dlen B9 m := by
    have : (ints (longS m)).length = dlen B9 m := by simp [ints, longS_length]
    rw [this] at hi; exact hi
  rw [World.cell?_of_block (w := w) (hg.block b (block_lt hcell) (fun e => h0.apart hr i b off hi' ⟨_, _, by rw [hv, ha]⟩ e.symm))]
  exact hcell
end Go.Proofs.Ytiddhnnofpbopaa

/- Lists of fractions as both sides hold them: pairs of long numbers. Conditions: told by the code. -/
namespace Go.Proofs.Ytiddhnnofpbopaa
open Go.RowKit Go.Deep
set_option linter.unusedVariables false

/-- what is asked of a way to read a long number -/
structure LongLike (L : World → Value → Nat → Prop) : Prop where
  keep : ∀ {w w' : World} {v : Value} {n : Nat}, L w v n → Below w.heap.size w w' → L w' v n
  grown : ∀ {w w' : World} {v r : Value} {n : Nat}, L w v n → AllSl w r → w.grownBy w' r.ownBlock → L w' v n
  shape : ∀ {w : World} {v : Value} {n : Nat}, L w v n → IsSl v
theorem likeI : LongLike LongI := ⟨fun h b => h.keep b, fun h a g => h.grownSl a g, fun h => by obtain ⟨_, a, c, rfl⟩ := h.len; exact ⟨_, _, _, rfl⟩⟩
theorem likeS : LongLike LongS := ⟨fun h b => h.keep b, fun h a g => h.grownSl a g, fun h => by obtain ⟨_, a, c, rfl⟩ := h.len; exact ⟨_, _, _, rfl⟩⟩

/-- the slice v reads as the pairs l -/
def PairL (L : World → Value → Nat → Prop) (w : World) (v : Value) (l : List (Nat × Nat)) : Prop :=
  ∃ a cap, v = .slice a l.length cap ∧ ∀ i, i < l.length → ∃ b off x y, a = some ⟨b, off, none⟩ ∧ w.cell? ⟨b, off + i * 2, none⟩ = some x ∧ w.cell? ⟨b, off + i * 2 + 1, none⟩ = some y ∧ L w x (l.getD i (0, 0)).1 ∧ L w y (l.getD i (0, 0)).2
theorem PairL.keep {L : World → Value → Nat → Prop} (hL : LongLike L) {w w' : World} {v : Value} {l : List (Nat × Nat)} (h : PairL L w v l) (hb : Below w.heap.size w w') : PairL L w' v l := by
  obtain ⟨a, cap, hv, hc⟩ := h
  refine ⟨a, cap, hv, fun i hi => ?_⟩
  obtain ⟨b, off, x, y, ha, hx, hy, h1, h2⟩ := hc i hi
  exact ⟨b, off, x, y, ha, by rw [hb.cell (block_lt hx)]; exact hx, by rw [hb.cell (block_lt hy)]; exact hy, hL.keep h1 hb, hL.keep h2 hb⟩
theorem PairL.at {L : World → Value → Nat → Prop} {w : World} {a : Option Addr} {n cap : Nat} {l : List (Nat × Nat)} (h : PairL L w (.slice a n cap) l) (i : Nat) (hi : i < l.length) :
    ∃ b off x y, a = some ⟨b, off, none⟩ ∧ w.cell? ⟨b, off + i * 2, none⟩ = some x ∧ w.cell? ⟨b, off + i * 2 + 1, none⟩ = some y ∧ L w x (l.getD i (0, 0)).1 ∧ L w y (l.getD i (0, 0)).2 := by
  obtain ⟨a', cap', hv, hc⟩ := h
  simp only [Value.slice.injEq] at hv
  obtain ⟨rfl, -, -⟩ := hv
  exact hc i hi

/-- such a list while a call makes it -/
def MadeP (L : World → Value → Nat → Prop) (e : TypeId) (w : World) (B : Nat) (v : Value) (l : List (Nat × Nat)) : Prop :=
  ∃ xs, w.ownsRow B e 2 v l.length xs ∧ AllSl w v ∧ ∀ i, i < l.length → ∃ x y, xs[i * 2]? = some x ∧ xs[i * 2 + 1]? = some y ∧ L w x (l.getD i (0, 0)).1 ∧ L w y (l.getD i (0, 0)).2
theorem MadeP.start {L : World → Value → Nat → Prop} (e : TypeId) (w : World) (B : Nat) {v : Value} (h : w.ownsRow B e 2 v 0 []) (ha : AllSl w v) : MadeP L e w B v [] := ⟨[], h, ha, fun i hi => by simp at hi⟩
theorem MadeP.keep {L : World → Value → Nat → Prop} (hL : LongLike L) {e : TypeId} {w w' : World} {B : Nat} {v : Value} {l : List (Nat × Nat)} (h : MadeP L e w B v l) (hb : Below w.heap.size w w') : MadeP L e w' B v l := by
  obtain ⟨xs, ho, ha, hc⟩ := h
  refine ⟨xs, ?_, ha.keep hb, fun i hi => ?_⟩
  · refine ⟨ho.1, ?_⟩
    rcases ho.2 with h0 | ⟨g, cap, cur, hv, hg, hh, r⟩
    · exact Or.inl h0
    · exact Or.inr ⟨g, cap, cur, hv, hg, by rw [hb.block g (Array.getElem?_eq_some_iff.1 hh).1]; exact hh, r⟩
  · obtain ⟨x, y, h1, h2, h3, h4⟩ := hc i hi
    exact ⟨x, y, h1, h2, hL.keep h3 hb, hL.keep h4 hb⟩
theorem MadeP.shape {L : World → Value → Nat → Prop} {e : TypeId} {w : World} {B : Nat} {v : Value} {l : List (Nat × Nat)} (h : MadeP L e w B v l) : ∃ a cap, v = .slice a l.length cap := by
  obtain ⟨xs, ho, _⟩ := h
  rcases ho.2 with ⟨rfl, h0⟩ | ⟨g, cap, cur, rfl, _⟩
  · exact ⟨none, 0, by rw [h0]⟩
  · exact ⟨_, cap, rfl⟩
theorem MadeP.done {L : World → Value → Nat → Prop} {e : TypeId} {w : World} {B : Nat} {v : Value} {l : List (Nat × Nat)} (h : MadeP L e w B v l) : PairL L w v l := by
  obtain ⟨xs, ho, ha, hc⟩ := h
  have ho' := ho
  rcases ho.2 with ⟨rfl, h0⟩ | ⟨g, cap, cur, rfl, _⟩
  · exact ⟨none, 0, by rw [h0], fun i hi => by omega⟩
  · refine ⟨_, cap, rfl, fun i hi => ?_⟩
    obtain ⟨x, y, h1, h2, h3, h4⟩ := hc i hi
    refine ⟨g, 0, x, y, rfl, ?_, ?_, h3, h4⟩
    · rw [Nat.zero_add, ho'.cellAt (i * 2) (by omega), h1]
    · rw [Nat.zero_add, ho'.cellAt (i * 2 + 1) (by omega), h2]
/-- one pair more -/
theorem MadeP.step {L : World → Value → Nat → Prop} (hL : LongLike L) {e : TypeId} {w w2 : World} {B : Nat} {v v' x y : Value} {l : List (Nat × Nat)} {n d : Nat} {xs : List Value}
    (hc : ∀ i, i < l.length → ∃ x y, xs[i * 2]? = some x ∧ xs[i * 2 + 1]? = some y ∧ L w x (l.getD i (0, 0)).1 ∧ L w y (l.getD i (0, 0)).2) (hlen : xs.length = l.length * 2) (ha : AllSl w v)
    (hx : L w x n) (hy : L w y d) (hown : w2.ownsRow B e 2 v' (l.length + 1) (xs ++ [x, y])) (hg : w.grownBy w2 v.ownBlock) (ha2 : AllSl w2 v') : MadeP L e w2 B v' (l ++ [(n, d)]) := by
  refine ⟨xs ++ [x, y], by rw [List.length_append]; exact hown, ha2, fun i hi => ?_⟩
  rw [List.length_append] at hi
  by_cases h : i < l.length
  · obtain ⟨p, q, h1, h2, h3, h4⟩ := hc i h
    have e : (l ++ [(n, d)]).getD i (0, 0) = l.getD i (0, 0) := by simp [List.getD, List.getElem?_append_left h]
    rw [e]
    exact ⟨p, q, by rw [List.getElem?_append_left (by omega)]; exact h1, by rw [List.getElem?_append_left (by omega)]; exact h2, hL.grown h3 ha hg, hL.grown h4 ha hg⟩
  · have hi' : i = l.length := by simp at hi; omega
    subst hi'
    have e : (l ++ [(n, d)]).getD l.length (0, 0) = (n, d) := by simp [List.getD]
    rw [e]
    refine ⟨x, y, ?_, ?_, hL.grown hx ha hg, hL.grown hy ha hg⟩
    · rw [List.getElem?_append_right (by omega), hlen, Nat.sub_self]; rfl
    · rw [List.getElem?_append_right (by omega), hlen, show l.length * 2 + 1 - l.length * 2 = 1 by omega]; rfl

/-- the slice v reads as fractions in texts -/
def FrL (w : World) (v : Value) (l : List (ByteArray × ByteArray)) : Prop :=
  l.length ≤ maxLen ∧ ∃ a cap, v = .slice a l.length cap ∧ ∀ i, i < l.length → ∃ b off, a = some ⟨b, off, none⟩ ∧ w.cell? ⟨b, off + i * 2, none⟩ = some (.string (l.getD i (⟨#[]⟩, ⟨#[]⟩)).1) ∧ w.cell? ⟨b, off + i * 2 + 1, none⟩ = some (.string (l.getD i (⟨#[]⟩, ⟨#[]⟩)).2)
theorem FrL.keep {w w' : World} {v : Value} {l : List (ByteArray × ByteArray)} (h : FrL w v l) (hb : Below w.heap.size w w') : FrL w' v l := by
  obtain ⟨hm, a, cap, hv, hc⟩ := h
  refine ⟨hm, a, cap, hv, fun i hi => ?_⟩
  obtain ⟨b, off, ha, hx, hy⟩ := hc i hi
  exact ⟨b, off, ha, by rw [hb.cell (block_lt hx)]; exact hx, by rw [hb.cell (block_lt hy)]; exact hy⟩
theorem FrL.at {w : World} {a : Option Addr} {n cap : Nat} {l : List (ByteArray × ByteArray)} (h : FrL w (.slice a n cap) l) (i : Nat) (hi : i < l.length) :
    ∃ b off, a = some ⟨b, off, none⟩ ∧ w.cell? ⟨b, off + i * 2, none⟩ = some (.string (l.getD i (⟨#[]⟩, ⟨#[]⟩)).1) ∧ w.cell? ⟨b, off + i * 2 + 1, none⟩ = some (.string (l.getD i (⟨#[]⟩, ⟨#[]⟩)).2) := by
  obtain ⟨_, a', cap', hv, hc⟩ := h
  simp only [Value.slice.injEq] at hv
  obtain ⟨rfl, -, -⟩ := hv
  exact hc i hi
def frsOk (l : List (ByteArray × ByteArray)) : Bool := l.all fun c => frOk c.1 c.2
def numP (l : List (ByteArray × ByteArray)) : List (Nat × Nat) := l.map fun c => (numV c.1, numV c.2)
theorem numP_length (l : List (ByteArray × ByteArray)) : (numP l).length = l.length := by simp [numP]
theorem numP_take (l : List (ByteArray × ByteArray)) (k : Nat) (h : k < l.length) : numP (l.take (k + 1)) = numP (l.take k) ++ [(numV (l.getD k (⟨#[]⟩, ⟨#[]⟩)).1, numV (l.getD k (⟨#[]⟩, ⟨#[]⟩)).2)] := by
  unfold numP
  rw [List.take_add_one, List.getElem?_eq_getElem h, List.map_append]
  congr 1
  simp [List.getD, h]
theorem frsOk_no {l : List (ByteArray × ByteArray)} {k : Nat} (h : k < l.length) (hk : frOk (l.getD k (⟨#[]⟩, ⟨#[]⟩)).1 (l.getD k (⟨#[]⟩, ⟨#[]⟩)).2 = false) : frsOk l = false := by
  rw [Bool.eq_false_iff]; intro hc
  have := List.all_eq_true.1 hc (l.getD k (⟨#[]⟩, ⟨#[]⟩)) (by simp [List.getD, h])
  rw [hk] at this; cases this
theorem frsOk_next {l : List (ByteArray × ByteArray)} {k : Nat} (h : k < l.length) (h1 : frsOk (l.take k) = true) (hk : frOk (l.getD k (⟨#[]⟩, ⟨#[]⟩)).1 (l.getD k (⟨#[]⟩, ⟨#[]⟩)).2 = true) : frsOk (l.take (k + 1)) = true := by
  unfold frsOk at *
  rw [List.take_add_one, List.getElem?_eq_getElem h, List.all_append, h1]
  simpa [List.getD, h] using hk
/-- every fraction of a good list is good -/
theorem frsOk_at {l : List (ByteArray × ByteArray)} (h : frsOk l = true) (c : ByteArray × ByteArray) (hc : c ∈ l) : frOk c.1 c.2 = true := List.all_eq_true.1 h c hc
end Go.Proofs.Ytiddhnnofpbopaa

/- readFractions of the project. Conditions: at most 10^6 fractions. -/
namespace Go.Proofs.Ytiddhnnofpbopaa
open Go.RowKit Go.Deep
set_option linter.unusedVariables false
set_option linter.unusedSimpArgs false

theorem Try.infoRat : (Try.prog.info? 77).map (fun i => (i.zero, i.size, i.bytes)) = some (some (.agg #[.slice none 0 0, .slice none 0 0]), 2, 48) := by kernel_rfl
theorem mem_made2 {z : Array Value} {n : Nat} {x : Value} (h : x ∈ (madeCells z n).toList) (hz : 0 < z.size) : x ∈ z.toList := by
  simp only [madeCells] at h
  simp at h
  obtain ⟨k, hk, rfl⟩ := h
  rw [getElem!_pos z _ (Nat.mod_lt k hz)]
  exact Array.getElem_mem_toList _
theorem make_rats (n : Nat) (hb : n ≤ 2000000) (w : World) :
    (Instr.makeSlice 66 (.int .i64 0) (.int .i64 (n : Int))).run Try.prog w = .ok (.slice (some ⟨w.heap.size, 0, none⟩) 0 n) (w.alloc (.cells (madeCells #[.slice none 0 0, .slice none 0 0] (n * 2)) 77)) := by
  obtain ⟨i0, hi, hz0, hz1, hz2⟩ := info_parts Try.infoRat
  have := run_make (P := Try.prog) w 66 77 i0 (.agg #[.slice none 0 0, .slice none 0 0]) Try.underlying66 hi hz0 .i64 .i64 0 (n : Int) (Int.le_refl _) (by omega) (by rw [hz2]; omega) (by omega)
  rw [this, hz1, Int.toNat_natCast]
  rfl
theorem made_rats (n : Nat) (hb : n ≤ 2000000) (w : World) : MadeP LongI 77 (w.alloc (.cells (madeCells #[.slice none 0 0, .slice none 0 0] (n * 2)) 77)) w.heap.size (.slice (some ⟨w.heap.size, 0, none⟩) 0 n) [] := by
  refine MadeP.start _ _ _ ?_ ?_
  · exact World.ownsRow_made w _ n (Nat.le_refl _) (by unfold maxLen; omega) (by simp [madeCells])
  · intro g hg
    simp only [Value.ownBlock, Option.some.injEq] at hg
    subst hg
    refine ⟨_, _, heap_alloc_new w _, fun x hx => ?_⟩
    have := mem_made2 hx (by decide)
    simp at this
    subst this
    exact ⟨_, _, _, rfl⟩

theorem two_new (w : World) (x y : Value) (t : TypeId) : ∀ j u, [x, y][j]? = some u → (w.alloc (.cells #[x, y] t)).cell? ((⟨w.heap.size, 0, none⟩ : Addr).add j) = some u := by
  intro j u hu
  have e : (⟨w.heap.size, 0, none⟩ : Addr).add j = ⟨w.heap.size, j, none⟩ := by
    unfold Addr.add
    split
    · rename_i h; subst h; rfl
    · simp
  rw [e, World.cell?_alloc_at _ _ _ _ rfl]
  simpa using hu
theorem shape2 {w : World} {B n : Nat} {e : TypeId} {v : Value} {vs : List Value} (h : w.ownsRow B e 2 v n vs) : ∃ a cap, v = .slice a n cap := by
  rcases h.2 with ⟨rfl, h0⟩ | ⟨g, cap, cur, rfl, _⟩
  · exact ⟨none, 0, by rw [h0]⟩
  · exact ⟨_, cap, rfl⟩
theorem two_sl (a b : Option Addr) (l1 c1 l2 c2 : Nat) : ∀ x ∈ [Value.slice a l1 c1, Value.slice b l2 c2], IsSl x := by
  intro x hx
  simp at hx
  rcases hx with rfl | rfl <;> exact ⟨_, _, _, rfl⟩
theorem zero_sl : ∀ x ∈ (Value.agg #[.slice none 0 0, .slice none 0 0]).cells.toList, IsSl x := by
  intro x hx
  simp [Value.cells] at hx
  subst hx
  exact ⟨_, _, _, rfl⟩

set_option maxRecDepth 100000 in
set_option maxHeartbeats 4000000 in
theorem readFractions_any (v : Value) (l : List (ByteArray × ByteArray)) (w : World) (hv : FrL w v l) (hb : l.length ≤ 2000000) :
    Calls Try.prog 71 #[v] w fun e w' => ∃ a n cap, e = .returned (.tuple #[.slice a n cap, .bool (frsOk l)]) ∧ Below w.heap.size w w' ∧ (frsOk l = true → n = l.length ∧ PairL LongI w' (.slice a n cap) (numP l)) := by
  obtain ⟨hm, va, vc, rfl, _⟩ := id hv
  have hv' := Lib.hid hv
  have hrd := Lib.hid (fun c W => read_form (l.getD c (⟨#[]⟩, ⟨#[]⟩)).1 (l.getD c (⟨#[]⟩, ⟨#[]⟩)).2 W)
  have hmk := fun W => make_rats l.length hb W
  have hst := Lib.hid (made_rats l.length hb w)
  have hno := Lib.hid (fun k h h2 => frsOk_no (l := l) (k := k) h h2)
  have hnx := Lib.hid (fun k h h1 h2 => frsOk_next (l := l) (k := k) h h1 h2)
  have hnp := Lib.hid (fun k h => numP_take l k h)
  have hall := Lib.hid (show l.take l.length = l from List.take_length)
  have hnl := Lib.hid (fun k (h : k ≤ l.length) => (show (numP (l.take k)).length = k by rw [numP_length, List.length_take]; omega))
  have h0 := Lib.hid (show frsOk (l.take 0) = true by rfl)
  have B1 := Lib.hid (below1 w (.cells (madeCells #[.slice none 0 0, .slice none 0 0] (l.length * 2)) 77))
  obtain ⟨i0, hi, hz0, hz1, hz2⟩ := info_parts Try.infoRat
  have hi' := Lib.hid hi; have hz0' := Lib.hid hz0; have hz1' := Lib.hid hz1; have hz2' := Lib.hid hz2
  obtain ⟨L, hL⟩ : ∃ L, L = l.length := ⟨_, rfl⟩
  rw [← hL] at hmk hst hno hnx hall hnl hb hm B1 ⊢
  unfold maxLen at hm
  have hv2 := Lib.hid (show FrL w (.slice va L vc) l by rw [hL]; exact hv'.out)
  replace hL := Lib.hid hL
  clear hv hv' hi hz0 hz1 hz2
  go_enter Try.func71, Try.ntmps71
  go_wp2_with fail
  go_loopw [4, 14] (fun s i wr => ∃ (k : Nat) (a : Option Addr) (c : Nat), k ≤ L ∧ i = .int .i64 (k : Int) ∧ s = .slice a k c ∧ Hid (frsOk (l.take k) = true) ∧ Hid (MadeP LongI 77 wr w.heap.size (.slice a k c) (numP (l.take k))) ∧ Hid (Below w.heap.size w wr)) (fun _ i _ => L - (intOf i).toNat)
  case atStart => exact ⟨0, _, _, Nat.zero_le _, rfl, rfl, h0, hst, B1⟩
  case round =>
    obtain ⟨k, a, c, hk, rfl, rfl, hok, hmade, bel⟩ := hrel
    by_cases hlt : k < L
    · obtain ⟨b, off, rfl, q0, q1⟩ := (hv2.out.keep bel.out).at k (by rw [← hL.out]; exact hlt)
      have hr1 := Lib.hid (hrd.out k)
      have hno1 := Lib.hid (hno.out k hlt)
      have hnx1 := Lib.hid (hnx.out k hlt hok.out)
      have hnp1 := Lib.hid (hnp.out k (by rw [← hL.out]; exact hlt))
      generalize (l.getD k (⟨#[]⟩, ⟨#[]⟩)).1 = fn at *
      generalize (l.getD k (⟨#[]⟩, ⟨#[]⟩)).2 = fd at *
      have hlt' := Lib.hid hlt
      go_wp2_with fail
      (with_reducible refine (hr1.out _).mono ?_)
      rintro e w1 ⟨a0, a1, x0, x1, k0, k1, rfl, b1, hval⟩
      have b2 := below_wt (below1 wr (.cells #[.string fn, .string fd] 49)) b1
      have hval' := Lib.hid hval
      have B2 := Lib.hid (below_wt bel.out b2)
      have hm2 := Lib.hid (hmade.out.keep likeI b2)
      have s2 := B2.out.size
      clear hval b1 b2 q0 q1
      rcases hfo : frOk fn fd with _ | _
      · have hf := Lib.hid (hno1.out hfo)
        replace hfo := Lib.hid hfo
        have B3 := Lib.hid (below_wt B2.out (below1 w1 (.cells #[.slice a0 x0 k0, .slice a1 x1 k1] 77)))
        go_wp2
        go_ret2
        exact ⟨none, 0, 0, by rw [hf.out]; rfl, B3.out, fun h => by rw [hf.out] at h; cases h⟩
      · obtain ⟨e0, e1, m0, m1⟩ := hval'.out hfo
        have hok1 := Lib.hid (hnx1.out hfo)
        replace hfo := Lib.hid hfo
        have b3 := below2 w1 (.cells #[.slice a0 x0 k0, .slice a1 x1 k1] 77) (.cells #[.slice a0 x0 k0, .slice a1 x1 k1] 77)
        have hm3 := hm2.out.keep likeI b3
        have M0 := Lib.hid (m0.keep b3)
        have M1 := Lib.hid (m1.keep b3)
        have B3 := Lib.hid (below_wt B2.out b3)
        obtain ⟨xs, ho, ha, hc⟩ := hm3
        have hnk := hnl.out k hk
        have ho' := Lib.hid (show World.ownsRow _ w.heap.size 77 2 (.slice a k c) k xs by rw [hnk] at ho; exact ho)
        have hxl := Lib.hid (show xs.length = k * 2 from ho'.out.1)
        have ha' := Lib.hid ha
        have hc' := Lib.hid hc
        clear m0 m1 hval' e0 e1 ho ha hc hnk b3
        go_wp2_with (at_builtin; (refine wpList_append_sl _ rfl _ _ 66 rfl w.heap.size 77 i0 (.agg #[.slice none 0 0, .slice none 0 0]) 2 48 Try.underlying66 hi'.out hz0'.out hz1'.out hz2'.out rfl (by decide) _ _ _ rfl ho'.out ⟨w1.heap.size + 1, 0, none⟩ 1 1 [.slice a0 x0 k0, .slice a1 x1 k1] rfl rfl (by have := two_new (w1.alloc (.cells #[.slice a0 x0 k0, .slice a1 x1 k1] 77)) (.slice a0 x0 k0) (.slice a1 x1 k1) 77; simpa only [World.size_alloc] using this) (by simp [Value.oneCell']) (by unfold maxLen; omega) (by omega) (by simp; omega) zero_sl (two_sl _ _ _ _ _ _) ha'.out ?_); intro v' w5 hown5 hgr5 hal5)
        obtain ⟨a2, c2, rfl⟩ := shape2 hown5
        go_wp2
        go_roundw
        case rel =>
          refine ⟨k + 1, a2, c2, by have := hlt'.out; omega, by go_num, rfl, hok1, Lib.hid ?_, Lib.hid (B3.out.grown hgr5 (by simp; omega) (fun k' hk' => (ho'.out.lt k' hk').1))⟩
          have hnk := hnl.out k hk
          rw [hnp1.out]
          exact MadeP.step likeI (l := numP (l.take k)) hc'.out (by rw [hnk]; exact hxl.out) ha'.out M0.out M1.out (by rw [hnk]; exact hown5) hgr5 hal5
        case measure => have := hlt'.out; simp [intOf]; omega
    · obtain rfl : k = L := by omega
      have hf := Lib.hid (show frsOk l = true by have := hok.out; rwa [hall.out] at this)
      have hd := Lib.hid (show PairL LongI wr (.slice a k c) (numP l) by have := hmade.out.done; rwa [hall.out] at this)
      have hlt' : ¬ (k : Int) < (k : Int) := by omega
      clear hlt
      go_wp2
      go_ret2
      exact ⟨a, k, c, by rw [hf.out]; rfl, bel.out, fun _ => ⟨rfl, hd.out⟩⟩
end Go.Proofs.Ytiddhnnofpbopaa

/- Lists of long numbers; an append of slices at a step of a drawn region. Conditions: told by the code. -/
namespace Go.Proofs.Ytiddhnnofpbopaa
open Go.RowKit Go.Deep
set_option linter.unusedVariables false

section
variable {P : Program} (w : World)
theorem step_append_sl {ops : Array Oper} {o : Oper} {a : Act} {K : Act → World → Prop} {Q : Exit → Act → World → Prop} {E : Prop} (hgd : o.guard = none) (s x : Operand) (t : TypeId)
    (ho : o.op = .call { callee := .builtin .append, args := #[s, x], argTypes := #[t, t] })
    (base : Nat) (e : TypeId) (i : TypeInfo) (z : Value) (size bytes : Nat) (ht : P.underlying t = some (.slice e)) (hi : P.info? e = some i) (hz : i.zero = some z)
    (hsize : i.size = size) (hby : i.bytes = bytes) (hzs : z.cells.size = size) (hsz : 0 < size)
    (v : Value) (n : Nat) (xs : List Value) (hs : a.eval s = v) (hown : w.ownsRow base e size v n xs)
    (ad : Addr) (m c : Nat) (news : List Value) (hx : a.eval x = .slice (some ad) m c) (hl : news.length = m * size) (hnews : ∀ j u, news[j]? = some u → w.cell? (ad.add j) = some u) (h1 : ∀ u ∈ news, u.oneCell' = true)
    (hm : 0 < m) (h63 : n + m ≤ maxLen) (hbytes : (n + m) * bytes ≤ 140737488355328) (hbase : base ≤ w.heap.size)
    (hzS : ∀ x ∈ z.cells.toList, IsSl x) (hnS : ∀ x ∈ news, IsSl x) (hall : AllSl w v)
    (h : ∀ g cap w', w'.ownsRow base e size (.slice (some ⟨g, 0, none⟩) (n + m) cap) (n + m) (xs ++ news) → w.grownBy w' v.ownBlock → AllSl w' (.slice (some ⟨g, 0, none⟩) (n + m) cap) → K (a.put o.dst (.slice (some ⟨g, 0, none⟩) (n + m) cap)) w') :
    if Region.wanted o (yielded ops a.tmps) = true then Oper.wp P o a w K Q else E := by
  have hw : Region.wanted o (yielded ops a.tmps) = true := by simp [Region.wanted, hgd]
  rw [if_pos hw]
  obtain ⟨v', w', hr, h2, h3, h4, h5⟩ := run_append_sl (P := P) w base t o.type e i z size bytes ht hi hz hsize hby hzs hsz v n xs hown ad m c news hl hnews h1 h63 hbytes hbase hzS hnS hall
  obtain ⟨g, cap, rfl, _, hlt⟩ := h2.form (by omega)
  unfold Oper.wp execOp
  simp only [ho, resolve, invoke, builtin, Sem.run_bind, Sem.run_pure, Result.andThen_ok, List.map_toArray, List.map_cons, List.map_nil, hs, hx, hr]
  exact h g cap w' h2 h3 h5
end

/-- the slice v reads as the long numbers l -/
def RowL (L : World → Value → Nat → Prop) (w : World) (v : Value) (l : List Nat) : Prop :=
  ∃ a cap, v = .slice a l.length cap ∧ ∀ i, i < l.length → ∃ b off x, a = some ⟨b, off, none⟩ ∧ w.cell? ⟨b, off + i, none⟩ = some x ∧ L w x (l.getD i 0)
theorem RowL.keep {L : World → Value → Nat → Prop} (hL : LongLike L) {w w' : World} {v : Value} {l : List Nat} (h : RowL L w v l) (hb : Below w.heap.size w w') : RowL L w' v l := by
  obtain ⟨a, cap, hv, hc⟩ := h
  refine ⟨a, cap, hv, fun i hi => ?_⟩
  obtain ⟨b, off, x, ha, hx, h1⟩ := hc i hi
  exact ⟨b, off, x, ha, by rw [hb.cell (block_lt hx)]; exact hx, hL.keep h1 hb⟩
theorem RowL.at {L : World → Value → Nat → Prop} {w : World} {a : Option Addr} {n cap : Nat} {l : List Nat} (h : RowL L w (.slice a n cap) l) (i : Nat) (hi : i < l.length) :
    ∃ b off x, a = some ⟨b, off, none⟩ ∧ w.cell? ⟨b, off + i, none⟩ = some x ∧ L w x (l.getD i 0) := by
  obtain ⟨a', cap', hv, hc⟩ := h
  simp only [Value.slice.injEq] at hv
  obtain ⟨rfl, -, -⟩ := hv
  exact hc i hi
/-- such a list while a call makes it -/
def MadeL (L : World → Value → Nat → Prop) (e : TypeId) (w : World) (B : Nat) (v : Value) (l : List Nat) : Prop :=
  ∃ xs, w.ownsRow B e 1 v l.length xs ∧ AllSl w v ∧ ∀ i, i < l.length → ∃ x, xs[i]? = some x ∧ L w x (l.getD i 0)
theorem MadeL.nil {L : World → Value → Nat → Prop} (e : TypeId) (w : World) (B : Nat) : MadeL L e w B (.slice none 0 0) [] := ⟨[], World.ownsRow_nil w B e 1, AllSl.nil w, fun i hi => by simp at hi⟩
theorem MadeL.keep {L : World → Value → Nat → Prop} (hL : LongLike L) {e : TypeId} {w w' : World} {B : Nat} {v : Value} {l : List Nat} (h : MadeL L e w B v l) (hb : Below w.heap.size w w') : MadeL L e w' B v l := by
  obtain ⟨xs, ho, ha, hc⟩ := h
  refine ⟨xs, ?_, ha.keep hb, fun i hi => ?_⟩
  · refine ⟨ho.1, ?_⟩
    rcases ho.2 with h0 | ⟨g, cap, cur, hv, hg, hh, r⟩
    · exact Or.inl h0
    · exact Or.inr ⟨g, cap, cur, hv, hg, by rw [hb.block g (Array.getElem?_eq_some_iff.1 hh).1]; exact hh, r⟩
  · obtain ⟨x, h1, h3⟩ := hc i hi
    exact ⟨x, h1, hL.keep h3 hb⟩
theorem MadeL.shape {L : World → Value → Nat → Prop} {e : TypeId} {w : World} {B : Nat} {v : Value} {l : List Nat} (h : MadeL L e w B v l) : ∃ a cap, v = .slice a l.length cap := by
  obtain ⟨xs, ho, _⟩ := h
  rcases ho.2 with ⟨rfl, h0⟩ | ⟨g, cap, cur, rfl, _⟩
  · exact ⟨none, 0, by rw [h0]⟩
  · exact ⟨_, cap, rfl⟩
theorem MadeL.done {L : World → Value → Nat → Prop} {e : TypeId} {w : World} {B : Nat} {v : Value} {l : List Nat} (h : MadeL L e w B v l) : RowL L w v l := by
  obtain ⟨xs, ho, ha, hc⟩ := h
  have ho' := ho
  rcases ho.2 with ⟨rfl, h0⟩ | ⟨g, cap, cur, rfl, _⟩
  · exact ⟨none, 0, by rw [h0], fun i hi => by omega⟩
  · refine ⟨_, cap, rfl, fun i hi => ?_⟩
    obtain ⟨x, h1, h3⟩ := hc i hi
    exact ⟨g, 0, x, rfl, by rw [Nat.zero_add, ho'.cellAt i (by omega), h1], h3⟩
/-- one number more -/
theorem MadeL.step {L : World → Value → Nat → Prop} (hL : LongLike L) {e : TypeId} {w w2 : World} {B : Nat} {v v' x : Value} {l : List Nat} {n : Nat} {xs : List Value}
    (hc : ∀ i, i < l.length → ∃ x, xs[i]? = some x ∧ L w x (l.getD i 0)) (hlen : xs.length = l.length) (ha : AllSl w v)
    (hx : L w x n) (hown : w2.ownsRow B e 1 v' (l.length + 1) (xs ++ [x])) (hg : w.grownBy w2 v.ownBlock) (ha2 : AllSl w2 v') : MadeL L e w2 B v' (l ++ [n]) := by
  refine ⟨xs ++ [x], by rw [List.length_append]; exact hown, ha2, fun i hi => ?_⟩
  rw [List.length_append] at hi
  by_cases h : i < l.length
  · obtain ⟨p, h1, h3⟩ := hc i h
    have e : (l ++ [n]).getD i 0 = l.getD i 0 := by simp [List.getD, List.getElem?_append_left h]
    rw [e]
    exact ⟨p, by rw [List.getElem?_append_left (by omega)]; exact h1, hL.grown h3 ha hg⟩
  · have hi' : i = l.length := by simp at hi; omega
    subst hi'
    have e : (l ++ [n]).getD l.length 0 = n := by simp [List.getD]
    rw [e]
    exact ⟨x, by rw [List.getElem?_append_right (by omega), hlen, Nat.sub_self]; rfl, hL.grown hx ha hg⟩
/-- a store into a box of two slices leaves it as it was -/
theorem MadeL.setBox {L : World → Value → Nat → Prop} (hS : ∀ {w : World} {v : Value} {n b : Nat} {a1 a2 : Option Addr} {l1 c1 l2 c2 : Nat} {t : TypeId}, L w v n → Blk w b #[.slice a1 l1 c1, .slice a2 l2 c2] t → ∀ (j : Nat) (u : Value), L (w.setCell ⟨b, j, none⟩ u) v n)
    {e t : TypeId} {w : World} {B b : Nat} {v : Value} {l : List Nat} {a1 a2 : Option Addr} {l1 c1 l2 c2 : Nat} (h : MadeL L e w B v l) (hB : Blk w b #[.slice a1 l1 c1, .slice a2 l2 c2] t) (hb : v.ownBlock ≠ some b) (j : Nat) (u : Value) : MadeL L e (w.setCell ⟨b, j, none⟩ u) B v l := by
  obtain ⟨xs, ho, ha, hc⟩ := h
  refine ⟨xs, ⟨ho.1, ?_⟩, ?_, fun i hi => ?_⟩
  · rcases ho.2 with h0 | ⟨g, cap, cur, hv, hg, hh, r⟩
    · exact Or.inl h0
    · refine Or.inr ⟨g, cap, cur, hv, hg, ?_, r⟩
      rw [Below.heap_setCell _ _ _ _ (by intro e; apply hb; simp [hv, Value.ownBlock, e])]
      exact hh
  · intro g hg
    obtain ⟨cur, e', hh, hx⟩ := ha g hg
    refine ⟨cur, e', ?_, hx⟩
    rw [Below.heap_setCell _ _ _ _ (by intro e; apply hb; rw [hg, e])]
    exact hh
  · obtain ⟨x, h1, h3⟩ := hc i hi
    exact ⟨x, h1, hS h3 hB j u⟩
end Go.Proofs.Ytiddhnnofpbopaa

/- zeroRatio, oneRatio and sumOfRatios of the project. Conditions: told by the code. -/
namespace Go.Proofs.Ytiddhnnofpbopaa
open Go.RowKit Go.Deep
set_option linter.unusedVariables false
set_option linter.unusedSimpArgs false

set_option maxRecDepth 100000 in
set_option maxHeartbeats 2000000 in
theorem zeroRatio_any (w : World) : Calls Try.prog 94 #[] w fun e w' => ∃ p q, e = .returned (.agg #[p, q]) ∧ LongI w' p 0 ∧ LongI w' q 1 ∧ Below w.heap.size w w' := by
  have h0 := Lib.hid (fun W => longOf_any 0 W (by omega))
  have h1 := Lib.hid (fun W => longOf_any 1 W (by omega))
  have hZ := Blk.new w #[.slice none 0 0, .slice none 0 0] 77
  have bel := below1 w (.cells #[.slice none 0 0, .slice none 0 0] 77)
  go_enter Try.func94, Try.ntmps94
  go_wp2_with fail
  generalize hW : w.alloc _ = W at *
  clear hW
  refine (h0.out _).mono ?_
  rintro e u1 ⟨p, rfl, hp, b1⟩
  obtain ⟨_, pa, pc, rfl⟩ := hp.len
  have hp' := Lib.hid hp
  clear hp
  go_wp2_with fail
  refine (h1.out _).mono ?_
  rintro e u2 ⟨q, rfl, hq, b2⟩
  obtain ⟨_, qa, qc, rfl⟩ := hq.len
  have b12 := below_wt b1 b2
  have hZ2 := hZ.keep b12 hZ.lt
  have z0 := hZ2.cell 0
  have z1 := hZ2.cell 1
  have f0 := hZ2.frozen 0
  have f1 := hZ2.frozen 1
  simp only [List.getElem?_toArray, List.getElem?_cons_zero, List.getElem?_cons_succ] at z0 z1
  have hf1 := Lib.hid (((hp'.out.keep b2).setBox hZ2 0 (.slice pa (dlen W32 0) pc)).setBox (hZ2.set 0 (.slice pa (dlen W32 0) pc)) 1 (.slice qa (dlen W32 1) qc))
  have hf2 := Lib.hid ((hq.setBox hZ2 0 (.slice pa (dlen W32 0) pc)).setBox (hZ2.set 0 (.slice pa (dlen W32 0) pc)) 1 (.slice qa (dlen W32 1) qc))
  have hB := Lib.hid (((below_wt bel b12).setCell (p := ⟨w.heap.size, 0, none⟩) (Nat.le_refl _) (.slice pa (dlen W32 0) pc)).setCell (p := ⟨w.heap.size, 1, none⟩) (Nat.le_refl _) (.slice qa (dlen W32 1) qc))
  clear hq hZ hZ2 b1 b2 b12 bel
  generalize dlen W32 0 = l0 at *
  generalize dlen W32 1 = l1 at *
  go_wp2
  refine bodyPost_ret (v := .agg #[.slice pa l0 pc, .slice qa l1 qc]) (by simp [results, Try.results94, go_sem, z0, z1]) rfl ?_
  exact ⟨_, _, rfl, hf1.out, hf2.out, hB.out⟩

set_option maxRecDepth 100000 in
set_option maxHeartbeats 2000000 in
theorem oneRatio_any (w : World) : Calls Try.prog 73 #[] w fun e w' => ∃ p q, e = .returned (.agg #[p, q]) ∧ LongI w' p 1 ∧ LongI w' q 1 ∧ Below w.heap.size w w' := by
  have h1 := Lib.hid (fun W => longOf_any 1 W (by omega))
  have hZ := Blk.new w #[.slice none 0 0, .slice none 0 0] 77
  have bel := below1 w (.cells #[.slice none 0 0, .slice none 0 0] 77)
  go_enter Try.func73, Try.ntmps73
  go_wp2_with fail
  generalize hW : w.alloc _ = W at *
  clear hW
  refine (h1.out _).mono ?_
  rintro e u1 ⟨p, rfl, hp, b1⟩
  obtain ⟨_, pa, pc, rfl⟩ := hp.len
  have hp' := Lib.hid hp
  clear hp
  go_wp2_with fail
  refine (h1.out _).mono ?_
  rintro e u2 ⟨q, rfl, hq, b2⟩
  obtain ⟨_, qa, qc, rfl⟩ := hq.len
  have b12 := below_wt b1 b2
  have hZ2 := hZ.keep b12 hZ.lt
  have z0 := hZ2.cell 0
  have z1 := hZ2.cell 1
  have f0 := hZ2.frozen 0
  have f1 := hZ2.frozen 1
  simp only [List.getElem?_toArray, List.getElem?_cons_zero, List.getElem?_cons_succ] at z0 z1
  have hf1 := Lib.hid (((hp'.out.keep b2).setBox hZ2 0 (.slice pa (dlen W32 1) pc)).setBox (hZ2.set 0 (.slice pa (dlen W32 1) pc)) 1 (.slice qa (dlen W32 1) qc))
  have hf2 := Lib.hid ((hq.setBox hZ2 0 (.slice pa (dlen W32 1) pc)).setBox (hZ2.set 0 (.slice pa (dlen W32 1) pc)) 1 (.slice qa (dlen W32 1) qc))
  have hB := Lib.hid (((below_wt bel b12).setCell (p := ⟨w.heap.size, 0, none⟩) (Nat.le_refl _) (.slice pa (dlen W32 1) pc)).setCell (p := ⟨w.heap.size, 1, none⟩) (Nat.le_refl _) (.slice qa (dlen W32 1) qc))
  clear hq hZ hZ2 b1 b2 b12 bel
  generalize dlen W32 1 = l1 at *
  go_wp2
  refine bodyPost_ret (v := .agg #[.slice pa l1 pc, .slice qa l1 qc]) (by simp [results, Try.results73, go_sem, z0, z1]) rfl ?_
  exact ⟨_, _, rfl, hf1.out, hf2.out, hB.out⟩

/-- the sum of fractions, not in lowest terms -/
def sumR (l : List (Nat × Nat)) : Nat × Nat := l.foldl (fun a c => (a.1 * c.2 + c.1 * a.2, a.2 * c.2)) (0, 1)
theorem sumR_take (l : List (Nat × Nat)) (k : Nat) (h : k < l.length) :
    sumR (l.take (k + 1)) = ((sumR (l.take k)).1 * (l.getD k (0, 0)).2 + (l.getD k (0, 0)).1 * (sumR (l.take k)).2, (sumR (l.take k)).2 * (l.getD k (0, 0)).2) := by
  unfold sumR
  rw [List.take_add_one, List.getElem?_eq_getElem h, List.foldl_append]
  simp [List.getD, h]
theorem sumR_len (l : List (Nat × Nat)) (S : Nat) (hs : ∀ i, i < l.length → dlen W32 (l.getD i (0, 0)).1 ≤ S ∧ dlen W32 (l.getD i (0, 0)).2 ≤ S) : ∀ k, k ≤ l.length → dlen W32 (sumR (l.take k)).1 ≤ (S + 1) * k + 1 ∧ dlen W32 (sumR (l.take k)).2 ≤ S * k + 1
  | 0, _ => by simp only [List.take_zero, sumR, List.foldl_nil]; exact ⟨by rw [dlen_zero]; omega, Nat.le_trans (dlen_le w32 (L := 1) (by simp only [W32]; omega)) (by omega)⟩
  | k + 1, h => by
    obtain ⟨i1, i2⟩ := sumR_len l S hs k (by omega)
    obtain ⟨h1, h2⟩ := hs k (by omega)
    rw [sumR_take l k (by omega)]
    have e1 := mul_dlen w32 i1 h2
    have e2 := mul_dlen w32 h1 i2
    have e3 := mul_dlen w32 i2 h2
    have m1 : (S + 1) * k + 1 + S ≤ (S + 1) * k + S + 1 := by omega
    have m2 : S + (S * k + 1) ≤ (S + 1) * k + S + 1 := by have : (S + 1) * k = S * k + k := Nat.succ_mul S k; omega
    have e4 := plus_len w32 (Nat.le_trans e1 m1) (Nat.le_trans e2 m2)
    have m3 : (S + 1) * (k + 1) + 1 = (S + 1) * k + S + 1 + 1 := by rw [Nat.mul_succ]; omega
    have m4 : S * (k + 1) + 1 = S * k + 1 + S := by rw [Nat.mul_succ]; omega
    exact ⟨by rw [m3]; exact e4, by rw [m4]; exact e3⟩

set_option maxRecDepth 100000 in
set_option maxHeartbeats 4000000 in
theorem sumOfRatios_any (v : Value) (l : List (Nat × Nat)) (S : Nat) (w : World) (hv : PairL LongI w v l) (hs : ∀ i, i < l.length → dlen W32 (l.getD i (0, 0)).1 ≤ S ∧ dlen W32 (l.getD i (0, 0)).2 ≤ S) (hb : (S + 1) * l.length + 1 ≤ 1000000) (hS : S ≤ 1000000) (hn : l.length ≤ 1000000) :
    Calls Try.prog 72 #[v] w fun e w' => ∃ p q, e = .returned (.agg #[p, q]) ∧ LongI w' p (sumR l).1 ∧ LongI w' q (sumR l).2 ∧ Below w.heap.size w w' := by
  have hv0 := hv
  obtain ⟨va, vc, rfl, _⟩ := hv
  have hvv := Lib.hid hv0
  have hz := Lib.hid (fun W => zeroRatio_any W)
  have hZ := Blk.new w #[.slice none 0 0, .slice none 0 0] 77
  have bel := below1 w (.cells #[.slice none 0 0, .slice none 0 0] 77)
  have hsz := Lib.hid hs
  have hln := Lib.hid (fun k (h : k ≤ l.length) => (show dlen W32 (sumR (l.take k)).1 ≤ 1000000 ∧ dlen W32 (sumR (l.take k)).2 ≤ 1000000 by
    obtain ⟨i1, i2⟩ := sumR_len l S hs k h
    have m1 : (S + 1) * k ≤ (S + 1) * l.length := Nat.mul_le_mul_left _ h
    have m2 : S * k ≤ (S + 1) * k := Nat.mul_le_mul_right _ (Nat.le_succ S)
    omega))
  have hnx := Lib.hid (fun k h => sumR_take l k h)
  have hall := Lib.hid (show l.take l.length = l from List.take_length)
  have h00 := Lib.hid (show sumR (l.take 0) = (0, 1) by rfl)
  have hpl := Lib.hid (fun a b c d N1 D1 N2 D2 W h0 h1 h2 h3 s0 s1 s2 s3 => ratioPlus a b c d N1 D1 N2 D2 W h0 h1 h2 h3 s0 s1 s2 s3)
  obtain ⟨L, hL⟩ : ∃ L, L = l.length := ⟨_, rfl⟩
  have hvL := Lib.hid (show PairL LongI w (.slice va L vc) l by rw [hL]; exact hv0)
  rw [← hL] at hall hln hnx hsz hn ⊢
  replace hL := Lib.hid hL
  clear hv0 hvv hs hb
  go_enter Try.func72, Try.ntmps72
  go_wp2_with fail
  generalize hW : w.alloc _ = W at *
  clear hW
  (with_reducible refine (hz.out _).mono ?_)
  rintro e u1 ⟨p, q, rfl, hp, hq, b1⟩
  obtain ⟨_, pa, pc, rfl⟩ := hp.len
  obtain ⟨_, qa, qc, rfl⟩ := hq.len
  have b2 := below1 u1 (.cells #[.slice pa (dlen W32 0) pc, .slice qa (dlen W32 1) qc] 77)
  have hP := Lib.hid (show LongI _ _ (sumR (l.take 0)).1 from hp.keep b2)
  have hQ := Lib.hid (show LongI _ _ (sumR (l.take 0)).2 from hq.keep b2)
  have hS0 := Lib.hid (Blk.new u1 #[.slice pa (dlen W32 0) pc, .slice qa (dlen W32 1) qc] 77)
  have hZ2 := Lib.hid (hZ.keep (below_wt b1 b2) hZ.lt)
  have B2 := Lib.hid (below_wt (below_wt bel b1) b2)
  have hsB : w.heap.size < u1.heap.size := by have := hZ.lt; have := b1.size; omega
  clear hp hq hZ b1 b2 bel
  go_wp2_with fail
  go_loopw [9] (fun i wr => ∃ (k pl qc ql pc : Nat) (pa qa : Option Addr), k ≤ L ∧ i = .int .i64 (k : Int) ∧ Hid (Blk wr u1.heap.size #[.slice pa pl pc, .slice qa ql qc] 77) ∧ Hid (LongI wr (.slice pa pl pc) (sumR (l.take k)).1) ∧ Hid (LongI wr (.slice qa ql qc) (sumR (l.take k)).2) ∧ Hid (Blk wr w.heap.size #[.slice none 0 0, .slice none 0 0] 77) ∧ Hid (Below w.heap.size w wr)) (fun i _ => L - (intOf i).toNat)
  case atStart => exact ⟨0, _, _, _, _, _, _, Nat.zero_le _, rfl, hS0, hP, hQ, hZ2, B2⟩
  case round =>
    obtain ⟨k, pl, qc, ql, pc, pa, qa, hk, rfl, hSB, hP, hQ, hZB, bel⟩ := hrel
    by_cases hlt : k < L
    · obtain ⟨b, off, x, y, rfl, q0, q1, hx, hy⟩ := (hvL.out.keep likeI bel.out).at k (by rw [← hL.out]; exact hlt)
      obtain ⟨xa, xl, xc, rfl⟩ := likeI.shape hx
      obtain ⟨ya, yl, yc, rfl⟩ := likeI.shape hy
      have hSBa := hSB.out.alloc (.cells #[.slice xa xl xc, .slice ya yl yc] 77)
      have z0 := hSBa.cell 0
      have z1 := hSBa.cell 1
      simp only [List.getElem?_toArray, List.getElem?_cons_zero, List.getElem?_cons_succ] at z0 z1
      obtain ⟨s1, s2⟩ := hln.out k hk
      obtain ⟨s3, s4⟩ := hsz.out k hlt
      have b3 := below1 wr (.cells #[.slice xa xl xc, .slice ya yl yc] 77)
      have hop := Lib.hid (hpl.out _ _ _ _ _ _ _ _ _ (hP.out.keep b3) (hQ.out.keep b3) (hx.keep b3) (hy.keep b3) s1 s2 (by omega) (by omega))
      have hnx1 := Lib.hid (hnx.out k hlt)
      have hSB3 := Lib.hid (hSB.out.keep b3 hSB.out.lt)
      have hZB3 := Lib.hid (hZB.out.keep b3 hZB.out.lt)
      have B3 := Lib.hid (below_wt bel.out b3)
      have hlt' := Lib.hid hlt
      clear hx hy b3 s1 s2 s3 s4 hSBa
      go_wp2_with fail
      (with_reducible refine hop.out.mono ?_)
      rintro e u2 ⟨p2, q2, rfl, hp2, hq2, b4⟩
      obtain ⟨_, p2a, p2c, rfl⟩ := hp2.len
      obtain ⟨_, q2a, q2c, rfl⟩ := hq2.len
      have hSB4 := hSB3.out.keep b4 hSB3.out.lt
      have hZB4 := hZB3.out.keep b4 hZB3.out.lt
      have y0 := hSB4.cell 0
      have y1 := hSB4.cell 1
      have f0 := hSB4.frozen 0
      have f1 := hSB4.frozen 1
      simp only [List.getElem?_toArray, List.getElem?_cons_zero, List.getElem?_cons_succ] at y0 y1
      have n1 := congrArg Prod.fst hnx1.out
      have n2 := congrArg Prod.snd hnx1.out
      simp only at n1 n2
      rw [← n1] at hp2 ⊢
      rw [← n2] at hq2 ⊢
      generalize hl1 : dlen W32 (sumR (l.take (k + 1))).1 = d1 at *
      generalize hl2 : dlen W32 (sumR (l.take (k + 1))).2 = d2 at *
      have hf1 := Lib.hid ((hp2.setBox hSB4 0 (.slice p2a d1 p2c)).setBox (hSB4.set 0 (.slice p2a d1 p2c)) 1 (.slice q2a d2 q2c))
      have hf2 := Lib.hid ((hq2.setBox hSB4 0 (.slice p2a d1 p2c)).setBox (hSB4.set 0 (.slice p2a d1 p2c)) 1 (.slice q2a d2 q2c))
      have hSB5 := Lib.hid ((hSB4.set 0 (.slice p2a d1 p2c)).set 1 (.slice q2a d2 q2c))
      have hZB5 := Lib.hid ((hZB4.setOther (a := ⟨u1.heap.size, 0, none⟩) (by simp only; omega) (.slice p2a d1 p2c)).setOther (a := ⟨u1.heap.size, 1, none⟩) (by simp only; omega) (.slice q2a d2 q2c))
      have B5 := Lib.hid (((below_wt B3.out b4).setCell (p := ⟨u1.heap.size, 0, none⟩) (by simp only; omega) (.slice p2a d1 p2c)).setCell (p := ⟨u1.heap.size, 1, none⟩) (by simp only; omega) (.slice q2a d2 q2c))
      clear hp2 hq2 b4 hSB4 hZB4 n1 n2 hl1 hl2 q0 q1 z0 z1
      go_wp2
      go_roundw
      case rel => exact ⟨k + 1, d1, q2c, d2, p2c, p2a, q2a, by have := hlt'.out; omega, by go_num, Lib.hid (by simpa using hSB5.out), hf1, hf2, hZB5, B5⟩
      case measure => have := hlt'.out; simp [intOf]; omega
    · obtain rfl : k = L := by omega
      have hlt' : ¬ (k : Int) < (k : Int) := by omega
      have z0 := hSB.out.cell 0
      have z1 := hSB.out.cell 1
      have y0 := hZB.out.cell 0
      have y1 := hZB.out.cell 1
      have f0 := hZB.out.frozen 0
      have f1 := hZB.out.frozen 1
      simp only [List.getElem?_toArray, List.getElem?_cons_zero, List.getElem?_cons_succ] at z0 z1 y0 y1
      have hf1 := Lib.hid (show LongI _ _ (sumR l).1 by have := (hP.out.setBox hZB.out 0 (.slice pa pl pc)).setBox (hZB.out.set 0 (.slice pa pl pc)) 1 (.slice qa ql qc); rwa [hall.out] at this)
      have hf2 := Lib.hid (show LongI _ _ (sumR l).2 by have := (hQ.out.setBox hZB.out 0 (.slice pa pl pc)).setBox (hZB.out.set 0 (.slice pa pl pc)) 1 (.slice qa ql qc); rwa [hall.out] at this)
      have B5 := Lib.hid ((bel.out.setCell (p := ⟨w.heap.size, 0, none⟩) (Nat.le_refl _) (.slice pa pl pc)).setCell (p := ⟨w.heap.size, 1, none⟩) (Nat.le_refl _) (.slice qa ql qc))
      clear hlt
      go_wp2
      refine bodyPost_ret (v := .agg #[.slice pa pl pc, .slice qa ql qc]) (by simp [results, Try.results72, go_sem, y0, y1]) rfl ?_
      exact ⟨_, _, rfl, hf1.out, hf2.out, B5.out⟩
end Go.Proofs.Ytiddhnnofpbopaa

/- readSpread of the project, and ValidSpread. Conditions: none. -/
namespace Go.Proofs.Ytiddhnnofpbopaa
open Go.RowKit Go.Deep
set_option linter.unusedVariables false
set_option linter.unusedSimpArgs false

set_option maxRecDepth 100000 in
set_option maxHeartbeats 4000000 in
theorem cmp_implW (a0 a1 c0 c1 : Option Addr) (k0 k1 l0 l1 N1 D1 N2 D2 : Nat) (w : World) (h0 : LongI w (.slice a0 (dlen W32 N1) k0) N1) (h1 : LongI w (.slice a1 (dlen W32 D1) k1) D1) (h2 : LongI w (.slice c0 (dlen W32 N2) l0) N2) (h3 : LongI w (.slice c1 (dlen W32 D2) l1) D2)
    (s0 : dlen W32 N1 ≤ 1000000) (s1 : dlen W32 D1 ≤ 1000000) (s2 : dlen W32 N2 ≤ 1000000) (s3 : dlen W32 D2 ≤ 1000000) :
    Calls Try.prog 37 #[.agg #[.slice a0 (dlen W32 N1) k0, .slice a1 (dlen W32 D1) k1], .agg #[.slice c0 (dlen W32 N2) l0, .slice c1 (dlen W32 D2) l1]] w fun e w' => e = .returned (.int .i64 (cmpI (N1 * D2) (N2 * D1))) ∧ Below w.heap.size w w' := by
  have bel := below2 w (.cells #[.slice a0 (dlen W32 N1) k0, .slice a1 (dlen W32 D1) k1] 77) (.cells #[.slice c0 (dlen W32 N2) l0, .slice c1 (dlen W32 D2) l1] 77)
  have hB0 := (Blk.new w #[.slice a0 (dlen W32 N1) k0, .slice a1 (dlen W32 D1) k1] 77).alloc (.cells #[.slice c0 (dlen W32 N2) l0, .slice c1 (dlen W32 D2) l1] 77)
  have hB1 := Blk.new (w.alloc (.cells #[.slice a0 (dlen W32 N1) k0, .slice a1 (dlen W32 D1) k1] 77)) #[.slice c0 (dlen W32 N2) l0, .slice c1 (dlen W32 D2) l1] 77
  simp only [World.size_alloc] at hB1
  have g0 := Lib.hid (fun W b => (h0.keep bel).keep (w' := W) b)
  have g1 := Lib.hid (fun W b => (h1.keep bel).keep (w' := W) b)
  have g2 := Lib.hid (fun W b => (h2.keep bel).keep (w' := W) b)
  have g3 := Lib.hid (fun W b => (h3.keep bel).keep (w' := W) b)
  clear h0 h1 h2 h3
  go_enter Try.func37, Try.ntmps37
  go_wp2
  generalize hW : (w.alloc _).alloc _ = W at *
  clear hW
  have q0 : W.drew.cell? ⟨w.heap.size, 0, none⟩ = some (.slice a0 (dlen W32 N1) k0) := hB0.cell 0
  have q1 : W.drew.cell? ⟨w.heap.size, 1, none⟩ = some (.slice a1 (dlen W32 D1) k1) := hB0.cell 1
  have q2 : W.drew.cell? ⟨w.heap.size + 1, 0, none⟩ = some (.slice c0 (dlen W32 N2) l0) := hB1.cell 0
  have q3 : W.drew.cell? ⟨w.heap.size + 1, 1, none⟩ = some (.slice c1 (dlen W32 D2) l1) := hB1.cell 1
  clear hB0 hB1
  go_region_held3 (fun w' => w'.cell? ⟨w.heap.size, 0, none⟩ = some (.slice a0 (dlen W32 N1) k0) ∧ w'.cell? ⟨w.heap.size, 1, none⟩ = some (.slice a1 (dlen W32 D1) k1) ∧ w'.cell? ⟨w.heap.size + 1, 0, none⟩ = some (.slice c0 (dlen W32 N2) l0) ∧ w'.cell? ⟨w.heap.size + 1, 1, none⟩ = some (.slice c1 (dlen W32 D2) l1))
    (go_keep)
    (first
      | (go_at_call 60; first
          | ((with_reducible refine (times_any (.slice a0 (dlen W32 N1) k0) (.slice c1 (dlen W32 D2) l1) N1 D2 _ (g0.out _ (by (repeat (first | exact Below.refl _ _ | refine Below.drew ?_ | refine below_wt ?_ b1)))) (g3.out _ (by (repeat (first | exact Below.refl _ _ | refine Below.drew ?_ | refine below_wt ?_ b1)))) (by omega) (by omega)).mono ?_); rintro e u1 ⟨r1, rfl, pr1, b1⟩; replace q0 : u1.cell? ⟨w.heap.size, 0, none⟩ = some (.slice a0 (dlen W32 N1) k0) := (b1.cell (p := ⟨w.heap.size, 0, none⟩) (block_lt q0)).trans q0; replace q1 : u1.cell? ⟨w.heap.size, 1, none⟩ = some (.slice a1 (dlen W32 D1) k1) := (b1.cell (p := ⟨w.heap.size, 1, none⟩) (block_lt q1)).trans q1; replace q2 : u1.cell? ⟨w.heap.size + 1, 0, none⟩ = some (.slice c0 (dlen W32 N2) l0) := (b1.cell (p := ⟨w.heap.size + 1, 0, none⟩) (block_lt q2)).trans q2; replace q3 : u1.cell? ⟨w.heap.size + 1, 1, none⟩ = some (.slice c1 (dlen W32 D2) l1) := (b1.cell (p := ⟨w.heap.size + 1, 1, none⟩) (block_lt q3)).trans q3)
          | ((with_reducible refine (times_any (.slice c0 (dlen W32 N2) l0) (.slice a1 (dlen W32 D1) k1) N2 D1 _ (g2.out _ (by (repeat (first | exact Below.refl _ _ | refine Below.drew ?_ | refine below_wt ?_ b1)))) (g1.out _ (by (repeat (first | exact Below.refl _ _ | refine Below.drew ?_ | refine below_wt ?_ b1)))) (by omega) (by omega)).mono ?_); rintro e u2 ⟨r2, rfl, pr2, b2⟩; replace q0 : u2.cell? ⟨w.heap.size, 0, none⟩ = some (.slice a0 (dlen W32 N1) k0) := (b2.cell (p := ⟨w.heap.size, 0, none⟩) (block_lt q0)).trans q0; replace q1 : u2.cell? ⟨w.heap.size, 1, none⟩ = some (.slice a1 (dlen W32 D1) k1) := (b2.cell (p := ⟨w.heap.size, 1, none⟩) (block_lt q1)).trans q1; replace q2 : u2.cell? ⟨w.heap.size + 1, 0, none⟩ = some (.slice c0 (dlen W32 N2) l0) := (b2.cell (p := ⟨w.heap.size + 1, 0, none⟩) (block_lt q2)).trans q2; replace q3 : u2.cell? ⟨w.heap.size + 1, 1, none⟩ = some (.slice c1 (dlen W32 D2) l1) := (b2.cell (p := ⟨w.heap.size + 1, 1, none⟩) (block_lt q3)).trans q3))
      | (go_at_call 62; ((with_reducible refine (compare_bel _ _ (N1 * D2) (N2 * D1) _ (pr1.keep b2) pr2).mono ?_); rintro e u3 ⟨rfl, b3⟩; replace q0 : u3.cell? ⟨w.heap.size, 0, none⟩ = some (.slice a0 (dlen W32 N1) k0) := (b3.cell (p := ⟨w.heap.size, 0, none⟩) (block_lt q0)).trans q0; replace q1 : u3.cell? ⟨w.heap.size, 1, none⟩ = some (.slice a1 (dlen W32 D1) k1) := (b3.cell (p := ⟨w.heap.size, 1, none⟩) (block_lt q1)).trans q1; replace q2 : u3.cell? ⟨w.heap.size + 1, 0, none⟩ = some (.slice c0 (dlen W32 N2) l0) := (b3.cell (p := ⟨w.heap.size + 1, 0, none⟩) (block_lt q2)).trans q2; replace q3 : u3.cell? ⟨w.heap.size + 1, 1, none⟩ = some (.slice c1 (dlen W32 D2) l1) := (b3.cell (p := ⟨w.heap.size + 1, 1, none⟩) (block_lt q3)).trans q3)))
  go_wp2
  go_ret
  exact ⟨rfl, below_wt (below_wt (below_wt bel.drew b1) b2) b3⟩

set_option maxRecDepth 100000 in
set_option maxHeartbeats 4000000 in
theorem cmp_specW (a0 a1 c0 c1 : Option Addr) (k0 k1 l0 l1 N1 D1 N2 D2 : Nat) (w : World) (h0 : LongS w (.slice a0 (dlen B9 N1) k0) N1) (h1 : LongS w (.slice a1 (dlen B9 D1) k1) D1) (h2 : LongS w (.slice c0 (dlen B9 N2) l0) N2) (h3 : LongS w (.slice c1 (dlen B9 D2) l1) D2)
    (s0 : dlen B9 N1 ≤ 1000000) (s1 : dlen B9 D1 ≤ 1000000) (s2 : dlen B9 N2 ≤ 1000000) (s3 : dlen B9 D2 ≤ 1000000) :
    Calls Try.prog 31 #[.agg #[.slice a0 (dlen B9 N1) k0, .slice a1 (dlen B9 D1) k1], .agg #[.slice c0 (dlen B9 N2) l0, .slice c1 (dlen B9 D2) l1]] w fun e w' => e = .returned (.int .i64 (cmpI (N1 * D2) (N2 * D1))) ∧ Below w.heap.size w w' := by
  have bel := below2 w (.cells #[.slice a0 (dlen B9 N1) k0, .slice a1 (dlen B9 D1) k1] 60) (.cells #[.slice c0 (dlen B9 N2) l0, .slice c1 (dlen B9 D2) l1] 60)
  have hB0 := (Blk.new w #[.slice a0 (dlen B9 N1) k0, .slice a1 (dlen B9 D1) k1] 60).alloc (.cells #[.slice c0 (dlen B9 N2) l0, .slice c1 (dlen B9 D2) l1] 60)
  have hB1 := Blk.new (w.alloc (.cells #[.slice a0 (dlen B9 N1) k0, .slice a1 (dlen B9 D1) k1] 60)) #[.slice c0 (dlen B9 N2) l0, .slice c1 (dlen B9 D2) l1] 60
  simp only [World.size_alloc] at hB1
  have g0 := Lib.hid (fun W b => (h0.keep bel).keep (w' := W) b)
  have g1 := Lib.hid (fun W b => (h1.keep bel).keep (w' := W) b)
  have g2 := Lib.hid (fun W b => (h2.keep bel).keep (w' := W) b)
  have g3 := Lib.hid (fun W b => (h3.keep bel).keep (w' := W) b)
  clear h0 h1 h2 h3
  go_enter Try.func31, Try.ntmps31
  go_wp2
  generalize hW : (w.alloc _).alloc _ = W at *
  clear hW
  have q0 : W.drew.cell? ⟨w.heap.size, 0, none⟩ = some (.slice a0 (dlen B9 N1) k0) := hB0.cell 0
  have q1 : W.drew.cell? ⟨w.heap.size, 1, none⟩ = some (.slice a1 (dlen B9 D1) k1) := hB0.cell 1
  have q2 : W.drew.cell? ⟨w.heap.size + 1, 0, none⟩ = some (.slice c0 (dlen B9 N2) l0) := hB1.cell 0
  have q3 : W.drew.cell? ⟨w.heap.size + 1, 1, none⟩ = some (.slice c1 (dlen B9 D2) l1) := hB1.cell 1
  clear hB0 hB1
  go_region_held3 (fun w' => w'.cell? ⟨w.heap.size, 0, none⟩ = some (.slice a0 (dlen B9 N1) k0) ∧ w'.cell? ⟨w.heap.size, 1, none⟩ = some (.slice a1 (dlen B9 D1) k1) ∧ w'.cell? ⟨w.heap.size + 1, 0, none⟩ = some (.slice c0 (dlen B9 N2) l0) ∧ w'.cell? ⟨w.heap.size + 1, 1, none⟩ = some (.slice c1 (dlen B9 D2) l1))
    (go_keep)
    (first
      | (go_at_call 52; first
          | ((with_reducible refine (l01Product_any (.slice a0 (dlen B9 N1) k0) (.slice c1 (dlen B9 D2) l1) N1 D2 _ (g0.out _ (by (repeat (first | exact Below.refl _ _ | refine Below.drew ?_ | refine below_wt ?_ b1)))) (g3.out _ (by (repeat (first | exact Below.refl _ _ | refine Below.drew ?_ | refine below_wt ?_ b1)))) (by omega) (by omega)).mono ?_); rintro e u1 ⟨r1, rfl, pr1, b1⟩; replace q0 : u1.cell? ⟨w.heap.size, 0, none⟩ = some (.slice a0 (dlen B9 N1) k0) := (b1.cell (p := ⟨w.heap.size, 0, none⟩) (block_lt q0)).trans q0; replace q1 : u1.cell? ⟨w.heap.size, 1, none⟩ = some (.slice a1 (dlen B9 D1) k1) := (b1.cell (p := ⟨w.heap.size, 1, none⟩) (block_lt q1)).trans q1; replace q2 : u1.cell? ⟨w.heap.size + 1, 0, none⟩ = some (.slice c0 (dlen B9 N2) l0) := (b1.cell (p := ⟨w.heap.size + 1, 0, none⟩) (block_lt q2)).trans q2; replace q3 : u1.cell? ⟨w.heap.size + 1, 1, none⟩ = some (.slice c1 (dlen B9 D2) l1) := (b1.cell (p := ⟨w.heap.size + 1, 1, none⟩) (block_lt q3)).trans q3)
          | ((with_reducible refine (l01Product_any (.slice c0 (dlen B9 N2) l0) (.slice a1 (dlen B9 D1) k1) N2 D1 _ (g2.out _ (by (repeat (first | exact Below.refl _ _ | refine Below.drew ?_ | refine below_wt ?_ b1)))) (g1.out _ (by (repeat (first | exact Below.refl _ _ | refine Below.drew ?_ | refine below_wt ?_ b1)))) (by omega) (by omega)).mono ?_); rintro e u2 ⟨r2, rfl, pr2, b2⟩; replace q0 : u2.cell? ⟨w.heap.size, 0, none⟩ = some (.slice a0 (dlen B9 N1) k0) := (b2.cell (p := ⟨w.heap.size, 0, none⟩) (block_lt q0)).trans q0; replace q1 : u2.cell? ⟨w.heap.size, 1, none⟩ = some (.slice a1 (dlen B9 D1) k1) := (b2.cell (p := ⟨w.heap.size, 1, none⟩) (block_lt q1)).trans q1; replace q2 : u2.cell? ⟨w.heap.size + 1, 0, none⟩ = some (.slice c0 (dlen B9 N2) l0) := (b2.cell (p := ⟨w.heap.size + 1, 0, none⟩) (block_lt q2)).trans q2; replace q3 : u2.cell? ⟨w.heap.size + 1, 1, none⟩ = some (.slice c1 (dlen B9 D2) l1) := (b2.cell (p := ⟨w.heap.size + 1, 1, none⟩) (block_lt q3)).trans q3))
      | (go_at_call 53; ((with_reducible refine (l01Cmp_bel _ _ (N1 * D2) (N2 * D1) _ (pr1.keep b2) pr2).mono ?_); rintro e u3 ⟨rfl, b3⟩; replace q0 : u3.cell? ⟨w.heap.size, 0, none⟩ = some (.slice a0 (dlen B9 N1) k0) := (b3.cell (p := ⟨w.heap.size, 0, none⟩) (block_lt q0)).trans q0; replace q1 : u3.cell? ⟨w.heap.size, 1, none⟩ = some (.slice a1 (dlen B9 D1) k1) := (b3.cell (p := ⟨w.heap.size, 1, none⟩) (block_lt q1)).trans q1; replace q2 : u3.cell? ⟨w.heap.size + 1, 0, none⟩ = some (.slice c0 (dlen B9 N2) l0) := (b3.cell (p := ⟨w.heap.size + 1, 0, none⟩) (block_lt q2)).trans q2; replace q3 : u3.cell? ⟨w.heap.size + 1, 1, none⟩ = some (.slice c1 (dlen B9 D2) l1) := (b3.cell (p := ⟨w.heap.size + 1, 1, none⟩) (block_lt q3)).trans q3)))
  go_wp2
  go_ret
  exact ⟨rfl, below_wt (below_wt (below_wt bel.drew b1) b2) b3⟩

/-- whether texts are a spread -/
def spreadB (l : List (ByteArray × ByteArray)) : Bool := decide (1 ≤ l.length ∧ l.length ≤ 6) && (frsOk l && decide ((sumR (numP l)).1 = (sumR (numP l)).2))
theorem numP_get (l : List (ByteArray × ByteArray)) (i : Nat) (h : i < l.length) : (numP l).getD i (0, 0) = (numV (l.getD i (⟨#[]⟩, ⟨#[]⟩)).1, numV (l.getD i (⟨#[]⟩, ⟨#[]⟩)).2) := by
  simp [numP, List.getD, h]
theorem numP_ok {l : List (ByteArray × ByteArray)} (h : frsOk l = true) (i : Nat) (hi : i < l.length) : frOk (l.getD i (⟨#[]⟩, ⟨#[]⟩)).1 (l.getD i (⟨#[]⟩, ⟨#[]⟩)).2 = true := by
  have e : l.getD i (⟨#[]⟩, ⟨#[]⟩) = l[i] := by simp [List.getD, hi]
  rw [e]
  exact frsOk_at h _ (List.getElem_mem hi)
theorem numP_len {l : List (ByteArray × ByteArray)} (h : frsOk l = true) : ∀ i, i < (numP l).length → dlen W32 ((numP l).getD i (0, 0)).1 ≤ 300 ∧ dlen W32 ((numP l).getD i (0, 0)).2 ≤ 300 := by
  intro i hi
  rw [numP_length] at hi
  rw [numP_get l i hi]
  have := frOk_num (numP_ok h i hi)
  exact ⟨numV_len this.1, numV_len this.2⟩
theorem one_dlen : dlen W32 1 ≤ 300 := Nat.le_trans (dlen_le w32 (L := 1) (by simp only [W32]; omega)) (by decide)
theorem cmp_ne (a b : Nat) : (cmpI (a * 1) (1 * b) == 0) = decide (a = b) := by
  rw [Nat.mul_one, Nat.one_mul]
  unfold cmpI
  by_cases h1 : a < b
  · rw [if_pos h1, decide_eq_false (by omega)]; rfl
  · rw [if_neg h1]
    by_cases h2 : b < a
    · rw [if_pos h2, decide_eq_false (by omega)]; rfl
    · rw [if_neg h2, decide_eq_true (by omega)]; rfl

set_option maxRecDepth 100000 in
set_option maxHeartbeats 4000000 in
theorem readSpread_any (v : Value) (l : List (ByteArray × ByteArray)) (w : World) (hv : FrL w v l) :
    Calls Try.prog 55 #[v] w fun e w' => ∃ a n cap, e = .returned (.tuple #[.slice a n cap, .bool (spreadB l)]) ∧ Below w.heap.size w w' ∧ (spreadB l = true → n = l.length ∧ PairL LongI w' (.slice a n cap) (numP l)) := by
  obtain ⟨hm, va, vc, rfl, _⟩ := id hv
  unfold maxLen at hm
  by_cases hr : 1 ≤ l.length ∧ l.length ≤ 6
  · have hrd := Lib.hid (readFractions_any (.slice va l.length vc) l w hv (by omega))
    have hlen := Lib.hid (fun h => numP_len (l := l) h)
    have hone := Lib.hid (fun W => oneRatio_any W)
    have hsp := Lib.hid (show spreadB l = (frsOk l && decide ((sumR (numP l)).1 = (sumR (numP l)).2)) by unfold spreadB; rw [decide_eq_true hr, Bool.true_and])
    have hnl := Lib.hid (numP_length l)
    obtain ⟨hr1, hr2⟩ := hr
    obtain ⟨L, hL⟩ : ∃ L, L = l.length := ⟨_, rfl⟩
    rw [← hL] at hr1 hr2 hrd hnl hm ⊢
    have i1 : (1 : Int) ≤ (L : Int) := by omega
    have i2 : (L : Int) ≤ 6 := by omega
    clear hv hL
    go_enter Try.func55, Try.ntmps55
    go_wp2_with (go_at_call 20; go_in)
    (with_reducible refine hrd.out.mono ?_)
    rintro e w1 ⟨a, n, cap, rfl, b1, hval⟩
    have hval' := Lib.hid hval
    have B1 := Lib.hid b1
    clear hval b1
    rcases hok : frsOk l with _ | _
    · have hf := Lib.hid (show spreadB l = false by rw [hsp.out, hok]; rfl)
      replace hok := Lib.hid hok
      go_wp2
      go_ret2
      exact ⟨none, 0, 0, by rw [hf.out]; rfl, B1.out, fun h => by rw [hf.out] at h; cases h⟩
    · obtain ⟨rfl, hP⟩ := hval'.out hok
      have hsum := Lib.hid (sumOfRatios_any (.slice a n cap) (numP l) 300 w1 hP (hlen.out hok) (by rw [hnl.out]; omega) (by decide) (by rw [hnl.out]; omega))
      have hsl := Lib.hid (sumR_len (numP l) 300 (hlen.out hok) n (by rw [hnl.out]; exact Nat.le_refl _))
      have htk := Lib.hid (show (numP l).take n = numP l by rw [← hnl.out]; exact List.take_length)
      have hsp2 := Lib.hid (show spreadB l = decide ((sumR (numP l)).1 = (sumR (numP l)).2) by rw [hsp.out, hok, Bool.true_and])
      replace hok := Lib.hid hok
      have hP' := Lib.hid hP
      clear hP hval'
      go_wp2_with fail
      (with_reducible refine hsum.out.mono ?_)
      rintro e w2 ⟨p, q, rfl, hp, hq, b2⟩
      obtain ⟨_, pa, pc, rfl⟩ := hp.len
      obtain ⟨_, qa, qc, rfl⟩ := hq.len
      have hp' := Lib.hid hp
      have hq' := Lib.hid hq
      have B2 := Lib.hid (below_wt B1.out b2)
      have hP2 := Lib.hid (hP'.out.keep likeI b2)
      have hl1 := Lib.hid (show dlen W32 (sumR (numP l)).1 ≤ 10000 ∧ dlen W32 (sumR (numP l)).2 ≤ 10000 by have := hsl.out; rw [htk.out] at this; omega)
      clear hp hq b2
      go_wp2_with fail
      (with_reducible refine (hone.out _).mono ?_)
      rintro e w3 ⟨p1, q1, rfl, hp1, hq1, b3⟩
      obtain ⟨_, p1a, p1c, rfl⟩ := hp1.len
      obtain ⟨_, q1a, q1c, rfl⟩ := hq1.len
      have hcm := Lib.hid (cmp_implW pa qa p1a q1a pc qc p1c q1c _ _ 1 1 w3 (hp'.out.keep b3) (hq'.out.keep b3) hp1 hq1 (Nat.le_trans hl1.out.1 (by decide)) (Nat.le_trans hl1.out.2 (by decide)) (Nat.le_trans one_dlen (by decide)) (Nat.le_trans one_dlen (by decide)))
      have B3 := Lib.hid (below_wt B2.out b3)
      have hP3 := Lib.hid (hP2.out.keep likeI b3)
      have hcn := cmp_ne (sumR (numP l)).1 (sumR (numP l)).2
      clear hp1 hq1 b3
      generalize decide ((sumR (numP l)).1 = (sumR (numP l)).2) = dd at *
      generalize cmpI ((sumR (numP l)).1 * 1) (1 * (sumR (numP l)).2) = cv at *
      go_wp2_with fail
      (with_reducible refine hcm.out.mono ?_)
      rintro e w4 ⟨rfl, b4⟩
      have B4 := Lib.hid (below_wt B3.out b4)
      have hP4 := Lib.hid (hP3.out.keep likeI b4)
      clear b4
      rcases dd with _ | _
      · go_wp2
        go_ret2
        exact ⟨none, 0, 0, by rw [hsp2.out]; rfl, B4.out, fun h => by rw [hsp2.out] at h; cases h⟩
      · go_wp2
        go_ret2
        exact ⟨a, n, cap, by rw [hsp2.out]; rfl, B4.out, fun _ => ⟨rfl, hP4.out⟩⟩
  · have hf := Lib.hid (show spreadB l = false by unfold spreadB; rw [decide_eq_false hr, Bool.false_and])
    obtain ⟨L, hL⟩ : ∃ L, L = l.length := ⟨_, rfl⟩
    rw [← hL] at hr hm ⊢
    clear hL hv
    by_cases h1 : 1 ≤ L
    · have h2 : ¬ (L : Int) ≤ 6 := by omega
      have h1' : (1 : Int) ≤ (L : Int) := by omega
      clear hr h1
      go_enter Try.func55, Try.ntmps55
      go_wp2_with (go_at_call 20; go_in)
      go_ret2
      exact ⟨none, 0, 0, by rw [hf.out]; rfl, Below.refl _ _, fun h => by rw [hf.out] at h; cases h⟩
    · have h1' : ¬ (1 : Int) ≤ (L : Int) := by omega
      clear hr h1
      go_enter Try.func55, Try.ntmps55
      go_wp2_with (go_at_call 20; go_in)
      go_ret2
      exact ⟨none, 0, 0, by rw [hf.out]; rfl, Below.refl _ _, fun h => by rw [hf.out] at h; cases h⟩

end Go.Proofs.Ytiddhnnofpbopaa
