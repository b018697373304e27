/- ListG: several texts in one (Sl, Rl, Rl2, Rw). Conditions: told in each. -/
import Derived.Test.YtiddhnnofpbopaaDoorWordH
import Derived.Test.YtiddhnnofpbopaaDoorLongH
import Derived.Test.YtiddhnnofpbopaaDoorReadG
import Derived.Test.YtiddhnnofpbopaaDoorDigG
import Derived.Deep.AppendLies
/- Lists of slices that a call makes by appending: every cell of their block is a slice, so no long number lies in it. Conditions: told by the code. -/
namespace Go.Proofs.YtiddhnnofpbopaaDoor
open Go.RowKit Go.Deep
set_option linter.unusedVariables false

def IsSl (x : Value) : Prop := ∃ a l c, x = .slice a l c
/-- every cell of the slice's block is a slice -/
def AllSl (w : World) (v : Value) : Prop := ∀ g, v.ownBlock = some g → ∃ cur e, w.heap[g]? = some (.cells cur e (0, 0)) ∧ ∀ x ∈ cur.toList, IsSl x
theorem AllSl.nil (w : World) : AllSl w (.slice none 0 0) := fun g h => by simp [Value.ownBlock] at h
theorem AllSl.cell {w : World} {v : Value} (h : AllSl w v) {g : Nat} (hg : v.ownBlock = some g) {j : Nat} {x : Value} (hx : w.cell? ⟨g, j, none⟩ = some x) : IsSl x := by
  obtain ⟨cur, e, hh, ha⟩ := h g hg
  simp only [World.cell?, hh] at hx
  simp at hx
  exact ha x (by simpa using Array.mem_of_getElem? hx)
theorem AllSl.keep {w w' : World} {v : Value} (h : AllSl w v) (hb : Below w.heap.size w w') : AllSl w' v := fun g hg => by
  obtain ⟨cur, e, hh, ha⟩ := h g hg
  have hlt : g < w.heap.size := by
    rcases Nat.lt_or_ge g w.heap.size with h1 | h1
    · exact h1
    · rw [Array.getElem?_eq_none h1] at hh; cases hh
  exact ⟨cur, e, by rw [hb.block g hlt]; exact hh, ha⟩
theorem mem_zeroCells {z : Array Value} {n : Nat} {x : Value} (h : x ∈ (Builtin.zeroCells z n).toList) : x ∈ z.toList := by
  simp only [Builtin.zeroCells] at h
  simp at h
  obtain ⟨k, hk, rfl⟩ := h
  have hz : 0 < z.size := by
    rcases Nat.eq_zero_or_pos z.size with h0 | h0
    · rw [h0] at hk; omega
    · exact h0
  rw [getElem!_pos z _ (Nat.mod_lt k hz)]
  exact Array.getElem_mem_toList _

section
variable {P : Program} (w : World)
theorem run_append_sl (base : Nat) (t ty e : TypeId) (i : TypeInfo) (z : Value) (size bytes : Nat) (ht : P.underlying t = some (.slice e)) (hi : P.info? e = some i) (hz : i.zero = some z)
    (hsize : i.size = size) (hby : i.bytes = bytes) (hzs : z.cells.size = size) (hsz : 0 < size)
    (v : Value) (n : Nat) (xs : List Value) (hown : w.ownsRow base e size v n xs)
    (a : Addr) (m c : Nat) (news : List Value) (hl : news.length = m * size) (hnews : ∀ j u, news[j]? = some u → w.cell? (a.add j) = some u) (h1 : ∀ u ∈ news, u.oneCell' = true)
    (h63 : n + m ≤ maxLen) (hbytes : (n + m) * bytes ≤ 140737488355328) (hbase : base ≤ w.heap.size)
    (hzS : ∀ x ∈ z.cells.toList, IsSl x) (hnS : ∀ x ∈ news, IsSl x) (hall : AllSl w v) :
    ∃ v' w', (Builtin.append_ #[t, t] ty #[v, .slice (some a) m c]).run P w = .ok v' w' ∧ w'.ownsRow base e size v' (n + m) (xs ++ news) ∧ w.grownBy w' v.ownBlock ∧
      (v' = .slice none 0 0 ↔ v = .slice none 0 0 ∧ m = 0) ∧ AllSl w' v' := by
  subst hsize
  subst hby
  have hsmall : n + m ≤ 9223372036854775807 := by simp only [maxLen] at h63; omega
  have hlen : (xs ++ news).length = (n + m) * i.size := by rw [List.length_append, hown.1, hl, Nat.add_mul]
  have grown : ∀ (old : Nat), old < n + m → ∀ (row : Option Nat), (∀ x ∈ xs, IsSl x) →
      (w.drew.alloc (.cells (xs.toArray ++ news.toArray ++ Builtin.zeroCells z.cells (grownCap w (n + m) old e - (n + m))) e)).ownsRow base e i.size
        (.slice (some ⟨w.heap.size, 0, none⟩) (n + m) (grownCap w (n + m) old e)) (n + m) (xs ++ news) ∧
      w.grownBy (w.drew.alloc (.cells (xs.toArray ++ news.toArray ++ Builtin.zeroCells z.cells (grownCap w (n + m) old e - (n + m))) e)) row ∧
      AllSl (w.drew.alloc (.cells (xs.toArray ++ news.toArray ++ Builtin.zeroCells z.cells (grownCap w (n + m) old e - (n + m))) e)) (.slice (some ⟨w.heap.size, 0, none⟩) (n + m) (grownCap w (n + m) old e)) := by
    intro old ho row hxs
    have hge := grownCap_ge w (n + m) old e
    have hcm : grownCap w (n + m) old e ≤ maxLen := grownCap_le_maxLen w (n + m) old e h63
    refine ⟨⟨hlen, .inr ⟨w.heap.size, _, _, rfl, hbase, heap_alloc_new w.drew _, hge, hcm, ?_, ?_⟩⟩, ⟨rfl, rfl, rfl, by simp, fun k hk _ => Go.RowKit.Below.heap_alloc w.drew _ k hk⟩, ?_⟩
    · simp only [Array.size_append, List.size_toArray, size_zeroCells, hzs, hown.1, hl, ← Nat.add_mul]
      congr 1
      omega
    · simp only [Array.toList_append, List.append_assoc]
      rw [← List.append_assoc, ← hlen]
      exact List.take_left
    · intro g hg
      simp only [Value.ownBlock, Option.some.injEq] at hg
      subst hg
      refine ⟨_, _, heap_alloc_new w.drew _, fun x hx => ?_⟩
      simp only [Array.toList_append, List.mem_append] at hx
      rcases hx with (hx | hx) | hx
      · exact hxs x hx
      · exact hnS x hx
      · exact hzS x (mem_zeroCells hx)
  rcases hown.2 with ⟨rfl, rfl⟩ | ⟨g, cap, cur, rfl, hbg, hg, hnc, hcm, hcs, htake⟩
  · have hx : xs = [] := List.eq_nil_of_length_eq_zero (by simpa using hown.1)
    subst hx
    by_cases hm : m = 0
    · subst hm
      have hn : news = [] := List.eq_nil_of_length_eq_zero (by simpa using hl)
      subst hn
      refine ⟨.slice none 0 0, w, ?_, World.ownsRow_nil w base e i.size, ⟨rfl, rfl, rfl, Nat.le_refl _, fun _ _ _ => rfl⟩, by simp, AllSl.nil w⟩
      simp [Builtin.append_, run_underlying ht, sizeOf, typeInfo, hi, Builtin.lenOf, Builtin.firstCells, loadCells, loadCellsFrom]
    · have hr := run_append_nil (P := P) w t ty e i z ht hi hz a m c news hl hnews (by omega) (by omega) (by have hb := hbytes; simp only [Nat.zero_add] at hb; omega)
      have hgr := grown 0 (by omega) (Value.ownBlock (.slice none 0 0)) (fun x hx => by cases hx)
      simp only [Nat.zero_add, List.nil_append, Array.empty_append] at hgr ⊢
      exact ⟨_, _, hr, hgr.1, hgr.2.1, by simp [hm], hgr.2.2⟩
  · obtain ⟨cur', e', hg', hcur⟩ := hall g rfl
    rw [hg] at hg'
    simp only [Option.some.injEq, Obj.cells.injEq] at hg'
    obtain ⟨rfl, rfl, -⟩ := hg'
    have hxs : ∀ x ∈ xs, IsSl x := fun x hx => hcur x (by rw [← htake] at hx; exact List.mem_of_mem_take hx)
    by_cases hroom : n + m ≤ cap
    · have hfit : n * i.size + news.length ≤ cur.size := by rw [hl, hcs, ← Nat.add_mul]; exact Nat.mul_le_mul_right _ hroom
      have hr := run_append_room (P := P) w t ty e i ht hi g n cap cur hg a m c news hl hnews h1 hroom hfit
      refine ⟨_, _, hr, ⟨hlen, .inr ⟨g, cap, _, rfl, hbg, setRow_heap w g cur _ e _ hg, hroom, hcm, ?_, ?_⟩⟩, ⟨rfl, rfl, rfl, by simp, fun k _ hk => setRow_other w g k _ (fun e => hk (by simp [Value.ownBlock, e]))⟩, by simp, ?_⟩
      · simp only [List.size_toArray, List.length_append, List.length_take, List.length_drop, Array.length_toList]
        omega
      · rw [htake, ← hlen]
        exact List.take_left
      · intro g' hg'
        simp only [Value.ownBlock, Option.some.injEq] at hg'
        subst hg'
        refine ⟨_, _, setRow_heap w g cur _ e _ hg, fun x hx => ?_⟩
        simp only [List.mem_append] at hx
        rcases hx with (hx | hx) | hx
        · exact hcur x (List.mem_of_mem_take hx)
        · exact hnS x hx
        · exact hcur x (List.mem_of_mem_drop hx)
    · have holds : ∀ j u, xs[j]? = some u → w.cell? ((⟨g, 0, none⟩ : Addr).add j) = some u := hown.cells (g := g) rfl
      have hr := run_append_grow (P := P) w t ty e i z ht hi hz ⟨g, 0, none⟩ n cap xs hown.1 holds a m c news hl hnews (by omega) (by omega) (growslice_fits (by omega) hbytes)
      have hgr := grown cap (by omega) (Value.ownBlock (.slice (some ⟨g, 0, none⟩) n cap)) hxs
      exact ⟨_, _, hr, hgr.1, hgr.2.1, by simp, hgr.2.2⟩

theorem wpList_append_sl {ops : Array Oper} {rest : List Oper} {o : Oper} {a : Act} {Q : Exit → Act → World → Prop} (hgd : o.guard = none) (s x : Operand) (t : TypeId)
    (ho : o.op = .call { callee := .builtin .append, args := #[s, x], argTypes := #[t, t] })
    (base : Nat) (e : TypeId) (i : TypeInfo) (z : Value) (size bytes : Nat) (ht : P.underlying t = some (.slice e)) (hi : P.info? e = some i) (hz : i.zero = some z)
    (hsize : i.size = size) (hby : i.bytes = bytes) (hzs : z.cells.size = size) (hsz : 0 < size)
    (v : Value) (n : Nat) (xs : List Value) (hs : a.eval s = v) (hown : w.ownsRow base e size v n xs)
    (ad : Addr) (m c : Nat) (news : List Value) (hx : a.eval x = .slice (some ad) m c) (hl : news.length = m * size) (hnews : ∀ j u, news[j]? = some u → w.cell? (ad.add j) = some u) (h1 : ∀ u ∈ news, u.oneCell' = true)
    (h63 : n + m ≤ maxLen) (hbytes : (n + m) * bytes ≤ 140737488355328) (hbase : base ≤ w.heap.size)
    (hzS : ∀ x ∈ z.cells.toList, IsSl x) (hnS : ∀ x ∈ news, IsSl x) (hall : AllSl w v)
    (h : ∀ v' w', w'.ownsRow base e size v' (n + m) (xs ++ news) → w.grownBy w' v.ownBlock → AllSl w' v' → wpList P ops Q rest (a.put o.dst v') w') : wpList P ops Q (o :: rest) a w :=
  wpList_plain hgd fun _ hK => by
    obtain ⟨v', w', hr, h2, h3, h4, h5⟩ := run_append_sl (P := P) w base t o.type e i z size bytes ht hi hz hsize hby hzs hsz v n xs hown ad m c news hl hnews h1 h63 hbytes hbase hzS hnS hall
    have hk := h v' w' h2 h3 h5
    unfold Oper.wp execOp
    simp only [ho, resolve, invoke, builtin, Sem.run_bind, Sem.run_pure, Result.andThen_ok, List.map_toArray, List.map_cons, List.map_nil, hs, hx, hr]
    exact hK _ _ hk
end

/-- a long number is no part of such a list -/
theorem LongI.apart {w : World} {v r : Value} {m : Nat} (h : LongI w v m) (hr : AllSl w r) (i b off : Nat) (hi : i < dlen W32 m) (ha : ∃ l c, v = .slice (some ⟨b, off, none⟩) l c) : r.ownBlock ≠ some b := by
  intro hb
  obtain ⟨b', off', c', hv, _, hc⟩ := h.at (by omega)
  obtain ⟨l, c, rfl⟩ := ha
  simp only [Value.slice.injEq, Option.some.injEq, Addr.mk.injEq, and_true] at hv
  obtain ⟨⟨rfl, rfl⟩, -, -⟩ := hv
  obtain ⟨a, l2, c2, e⟩ := hr.cell hb (hc i hi)
  cases e
theorem LongS.apart {w : World} {v r : Value} {m : Nat} (h : LongS w v m) (hr : AllSl w r) (i b off : Nat) (hi : i < dlen B9 m) (ha : ∃ l c, v = .slice (some ⟨b, off, none⟩) l c) : r.ownBlock ≠ some b := by
  intro hb
  obtain ⟨b', off', c', hv, _, hc⟩ := h.at (by omega)
  obtain ⟨l, c, rfl⟩ := ha
  simp only [Value.slice.injEq, Option.some.injEq, Addr.mk.injEq, and_true] at hv
  obtain ⟨⟨rfl, rfl⟩, -, -⟩ := hv
  obtain ⟨a, l2, c2, e⟩ := hr.cell hb (hc i hi)
  cases e
theorem LongI.grownSl {w w' : World} {v r : Value} {m : Nat} (h : LongI w v m) (hr : AllSl w r) (hg : w.grownBy w' r.ownBlock) : LongI w' v m := by
  have h0 := h
  obtain ⟨hm, a, cap, hv, hk, hc⟩ := h
  refine ⟨hm, a, cap, hv, hk, fun i hi => ?_⟩
  obtain ⟨b, off, ha, hcell⟩ := hc i hi
  refine ⟨b, off, ha, ?_⟩
  have hi' : i < dlen W32 m := by rw [u32s_length, dgs_length] at hi; exact hi
  rw [World.cell?_of_block (w := w) (hg.block b (block_lt hcell) (fun e => h0.apart hr i b off hi' ⟨_, _, by rw [hv, ha]⟩ e.symm))]
  exact hcell
theorem LongS.grownSl {w w' : World} {v r : Value} {m : Nat} (h : LongS w v m) (hr : AllSl w r) (hg : w.grownBy w' r.ownBlock) : LongS w' v m := by
  have h0 := h
  obtain ⟨hm, a, cap, hv, hk, hc⟩ := h
  refine ⟨hm, a, cap, hv, hk, fun i hi => ?_⟩
  obtain ⟨b, off, ha, hcell⟩ := hc i hi
  refine ⟨b, off, ha, ?_⟩
  have hi' : i < dlen B9 m := by
    have : (ints (longS m)).length = dlen B9 m := by simp [ints, longS_length]
    rw [this] at hi; exact hi
  rw [World.cell?_of_block (w := w) (hg.block b (block_lt hcell) (fun e => h0.apart hr i b off hi' ⟨_, _, by rw [hv, ha]⟩ e.symm))]
  exact hcell
end Go.Proofs.YtiddhnnofpbopaaDoor

/- Lists of fractions as both sides hold them: pairs of long numbers. Conditions: told by the code. -/
namespace Go.Proofs.YtiddhnnofpbopaaDoor
open Go.RowKit Go.Deep
set_option linter.unusedVariables false

/-- what is asked of a way to read a long number -/
structure LongLike (L : World → Value → Nat → Prop) : Prop where
  keep : ∀ {w w' : World} {v : Value} {n : Nat}, L w v n → Below w.heap.size w w' → L w' v n
  grown : ∀ {w w' : World} {v r : Value} {n : Nat}, L w v n → AllSl w r → w.grownBy w' r.ownBlock → L w' v n
  shape : ∀ {w : World} {v : Value} {n : Nat}, L w v n → IsSl v
theorem likeI : LongLike LongI := ⟨fun h b => h.keep b, fun h a g => h.grownSl a g, fun h => by obtain ⟨_, a, c, rfl⟩ := h.len; exact ⟨_, _, _, rfl⟩⟩
theorem likeS : LongLike LongS := ⟨fun h b => h.keep b, fun h a g => h.grownSl a g, fun h => by obtain ⟨_, a, c, rfl⟩ := h.len; exact ⟨_, _, _, rfl⟩⟩

/-- the slice v reads as the pairs l -/
def PairL (L : World → Value → Nat → Prop) (w : World) (v : Value) (l : List (Nat × Nat)) : Prop :=
  ∃ a cap, v = .slice a l.length cap ∧ ∀ i, i < l.length → ∃ b off x y, a = some ⟨b, off, none⟩ ∧ w.cell? ⟨b, off + i * 2, none⟩ = some x ∧ w.cell? ⟨b, off + i * 2 + 1, none⟩ = some y ∧ L w x (l.getD i (0, 0)).1 ∧ L w y (l.getD i (0, 0)).2
theorem PairL.keep {L : World → Value → Nat → Prop} (hL : LongLike L) {w w' : World} {v : Value} {l : List (Nat × Nat)} (h : PairL L w v l) (hb : Below w.heap.size w w') : PairL L w' v l := by
  obtain ⟨a, cap, hv, hc⟩ := h
  refine ⟨a, cap, hv, fun i hi => ?_⟩
  obtain ⟨b, off, x, y, ha, hx, hy, h1, h2⟩ := hc i hi
  exact ⟨b, off, x, y, ha, by rw [hb.cell (block_lt hx)]; exact hx, by rw [hb.cell (block_lt hy)]; exact hy, hL.keep h1 hb, hL.keep h2 hb⟩
theorem PairL.at {L : World → Value → Nat → Prop} {w : World} {a : Option Addr} {n cap : Nat} {l : List (Nat × Nat)} (h : PairL L w (.slice a n cap) l) (i : Nat) (hi : i < l.length) :
    ∃ b off x y, a = some ⟨b, off, none⟩ ∧ w.cell? ⟨b, off + i * 2, none⟩ = some x ∧ w.cell? ⟨b, off + i * 2 + 1, none⟩ = some y ∧ L w x (l.getD i (0, 0)).1 ∧ L w y (l.getD i (0, 0)).2 := by
  obtain ⟨a', cap', hv, hc⟩ := h
  simp only [Value.slice.injEq] at hv
  obtain ⟨rfl, -, -⟩ := hv
  exact hc i hi

/-- such a list while a call makes it -/
def MadeP (L : World → Value → Nat → Prop) (e : TypeId) (w : World) (B : Nat) (v : Value) (l : List (Nat × Nat)) : Prop :=
  ∃ xs, w.ownsRow B e 2 v l.length xs ∧ AllSl w v ∧ ∀ i, i < l.length → ∃ x y, xs[i * 2]? = some x ∧ xs[i * 2 + 1]? = some y ∧ L w x (l.getD i (0, 0)).1 ∧ L w y (l.getD i (0, 0)).2
theorem MadeP.start {L : World → Value → Nat → Prop} (e : TypeId) (w : World) (B : Nat) {v : Value} (h : w.ownsRow B e 2 v 0 []) (ha : AllSl w v) : MadeP L e w B v [] := ⟨[], h, ha, fun i hi => by simp at hi⟩
theorem MadeP.keep {L : World → Value → Nat → Prop} (hL : LongLike L) {e : TypeId} {w w' : World} {B : Nat} {v : Value} {l : List (Nat × Nat)} (h : MadeP L e w B v l) (hb : Below w.heap.size w w') : MadeP L e w' B v l := by
  obtain ⟨xs, ho, ha, hc⟩ := h
  refine ⟨xs, ?_, ha.keep hb, fun i hi => ?_⟩
  · refine ⟨ho.1, ?_⟩
    rcases ho.2 with h0 | ⟨g, cap, cur, hv, hg, hh, r⟩
    · exact Or.inl h0
    · exact Or.inr ⟨g, cap, cur, hv, hg, by rw [hb.block g (Array.getElem?_eq_some_iff.1 hh).1]; exact hh, r⟩
  · obtain ⟨x, y, h1, h2, h3, h4⟩ := hc i hi
    exact ⟨x, y, h1, h2, hL.keep h3 hb, hL.keep h4 hb⟩
theorem MadeP.shape {L : World → Value → Nat → Prop} {e : TypeId} {w : World} {B : Nat} {v : Value} {l : List (Nat × Nat)} (h : MadeP L e w B v l) : ∃ a cap, v = .slice a l.length cap := by
  obtain ⟨xs, ho, _⟩ := h
  rcases ho.2 with ⟨rfl, h0⟩ | ⟨g, cap, cur, rfl, _⟩
  · exact ⟨none, 0, by rw [h0]⟩
  · exact ⟨_, cap, rfl⟩
theorem MadeP.done {L : World → Value → Nat → Prop} {e : TypeId} {w : World} {B : Nat} {v : Value} {l : List (Nat × Nat)} (h : MadeP L e w B v l) : PairL L w v l := by
  obtain ⟨xs, ho, ha, hc⟩ := h
  have ho' := ho
  rcases ho.2 with ⟨rfl, h0⟩ | ⟨g, cap, cur, rfl, _⟩
  · exact ⟨none, 0, by rw [h0], fun i hi => by omega⟩
  · refine ⟨_, cap, rfl, fun i hi => ?_⟩
    obtain ⟨x, y, h1, h2, h3, h4⟩ := hc i hi
    refine ⟨g, 0, x, y, rfl, ?_, ?_, h3, h4⟩
    · rw [Nat.zero_add, ho'.cellAt (i * 2) (by omega), h1]
    · rw [Nat.zero_add, ho'.cellAt (i * 2 + 1) (by omega), h2]
/-- one pair more -/
theorem MadeP.step {L : World → Value → Nat → Prop} (hL : LongLike L) {e : TypeId} {w w2 : World} {B : Nat} {v v' x y : Value} {l : List (Nat × Nat)} {n d : Nat} {xs : List Value}
    (hc : ∀ i, i < l.length → ∃ x y, xs[i * 2]? = some x ∧ xs[i * 2 + 1]? = some y ∧ L w x (l.getD i (0, 0)).1 ∧ L w y (l.getD i (0, 0)).2) (hlen : xs.length = l.length * 2) (ha : AllSl w v)
    (hx : L w x n) (hy : L w y d) (hown : w2.ownsRow B e 2 v' (l.length + 1) (xs ++ [x, y])) (hg : w.grownBy w2 v.ownBlock) (ha2 : AllSl w2 v') : MadeP L e w2 B v' (l ++ [(n, d)]) := by
  refine ⟨xs ++ [x, y], by rw [List.length_append]; exact hown, ha2, fun i hi => ?_⟩
  rw [List.length_append] at hi
  by_cases h : i < l.length
  · obtain ⟨p, q, h1, h2, h3, h4⟩ := hc i h
    have e : (l ++ [(n, d)]).getD i (0, 0) = l.getD i (0, 0) := by simp [List.getD, List.getElem?_append_left h]
    rw [e]
    exact ⟨p, q, by rw [List.getElem?_append_left (by omega)]; exact h1, by rw [List.getElem?_append_left (by omega)]; exact h2, hL.grown h3 ha hg, hL.grown h4 ha hg⟩
  · have hi' : i = l.length := by simp at hi; omega
    subst hi'
    have e : (l ++ [(n, d)]).getD l.length (0, 0) = (n, d) := by simp [List.getD]
    rw [e]
    refine ⟨x, y, ?_, ?_, hL.grown hx ha hg, hL.grown hy ha hg⟩
    · rw [List.getElem?_append_right (by omega), hlen, Nat.sub_self]; rfl
    · rw [List.getElem?_append_right (by omega), hlen, show l.length * 2 + 1 - l.length * 2 = 1 by omega]; rfl

/-- the slice v reads as fractions in texts -/
def FrL (w : World) (v : Value) (l : List (ByteArray × ByteArray)) : Prop :=
  l.length ≤ maxLen ∧ ∃ a cap, v = .slice a l.length cap ∧ ∀ i, i < l.length → ∃ b off, a = some ⟨b, off, none⟩ ∧ w.cell? ⟨b, off + i * 2, none⟩ = some (.string (l.getD i (⟨#[]⟩, ⟨#[]⟩)).1) ∧ w.cell? ⟨b, off + i * 2 + 1, none⟩ = some (.string (l.getD i (⟨#[]⟩, ⟨#[]⟩)).2)
theorem FrL.keep {w w' : World} {v : Value} {l : List (ByteArray × ByteArray)} (h : FrL w v l) (hb : Below w.heap.size w w') : FrL w' v l := by
  obtain ⟨hm, a, cap, hv, hc⟩ := h
  refine ⟨hm, a, cap, hv, fun i hi => ?_⟩
  obtain ⟨b, off, ha, hx, hy⟩ := hc i hi
  exact ⟨b, off, ha, by rw [hb.cell (block_lt hx)]; exact hx, by rw [hb.cell (block_lt hy)]; exact hy⟩
theorem FrL.at {w : World} {a : Option Addr} {n cap : Nat} {l : List (ByteArray × ByteArray)} (h : FrL w (.slice a n cap) l) (i : Nat) (hi : i < l.length) :
    ∃ b off, a = some ⟨b, off, none⟩ ∧ w.cell? ⟨b, off + i * 2, none⟩ = some (.string (l.getD i (⟨#[]⟩, ⟨#[]⟩)).1) ∧ w.cell? ⟨b, off + i * 2 + 1, none⟩ = some (.string (l.getD i (⟨#[]⟩, ⟨#[]⟩)).2) := by
  obtain ⟨_, a', cap', hv, hc⟩ := h
  simp only [Value.slice.injEq] at hv
  obtain ⟨rfl, -, -⟩ := hv
  exact hc i hi
def frsOk (l : List (ByteArray × ByteArray)) : Bool := l.all fun c => frOk c.1 c.2
def numP (l : List (ByteArray × ByteArray)) : List (Nat × Nat) := l.map fun c => (numV c.1, numV c.2)
theorem numP_length (l : List (ByteArray × ByteArray)) : (numP l).length = l.length := by simp [numP]
theorem numP_take (l : List (ByteArray × ByteArray)) (k : Nat) (h : k < l.length) : numP (l.take (k + 1)) = numP (l.take k) ++ [(numV (l.getD k (⟨#[]⟩, ⟨#[]⟩)).1, numV (l.getD k (⟨#[]⟩, ⟨#[]⟩)).2)] := by
  unfold numP
  rw [List.take_add_one, List.getElem?_eq_getElem h, List.map_append]
  congr 1
  simp [List.getD, h]
theorem frsOk_no {l : List (ByteArray × ByteArray)} {k : Nat} (h : k < l.length) (hk : frOk (l.getD k (⟨#[]⟩, ⟨#[]⟩)).1 (l.getD k (⟨#[]⟩, ⟨#[]⟩)).2 = false) : frsOk l = false := by
  rw [Bool.eq_false_iff]; intro hc
  have := List.all_eq_true.1 hc (l.getD k (⟨#[]⟩, ⟨#[]⟩)) (by simp [List.getD, h])
  rw [hk] at this; cases this
theorem frsOk_next {l : List (ByteArray × ByteArray)} {k : Nat} (h : k < l.length) (h1 : frsOk (l.take k) = true) (hk : frOk (l.getD k (⟨#[]⟩, ⟨#[]⟩)).1 (l.getD k (⟨#[]⟩, ⟨#[]⟩)).2 = true) : frsOk (l.take (k + 1)) = true := by
  unfold frsOk at *
  rw [List.take_add_one, List.getElem?_eq_getElem h, List.all_append, h1]
  simpa [List.getD, h] using hk
/-- every fraction of a good list is good -/
theorem frsOk_at {l : List (ByteArray × ByteArray)} (h : frsOk l = true) (c : ByteArray × ByteArray) (hc : c ∈ l) : frOk c.1 c.2 = true := List.all_eq_true.1 h c hc
end Go.Proofs.YtiddhnnofpbopaaDoor

/- readFractions of the project. Conditions: at most 10^6 fractions. -/
namespace Go.Proofs.YtiddhnnofpbopaaDoor
open Go.RowKit Go.Deep
set_option linter.unusedVariables false
set_option linter.unusedSimpArgs false

theorem Tryd.infoRat : (Tryd.prog.info? 51).map (fun i => (i.zero, i.size, i.bytes)) = some (some (.agg #[.slice none 0 0, .slice none 0 0]), 2, 48) := by kernel_rfl
theorem mem_made2 {z : Array Value} {n : Nat} {x : Value} (h : x ∈ (madeCells z n).toList) (hz : 0 < z.size) : x ∈ z.toList := by
  simp only [madeCells] at h
  simp at h
  obtain ⟨k, hk, rfl⟩ := h
  rw [getElem!_pos z _ (Nat.mod_lt k hz)]
  exact Array.getElem_mem_toList _
theorem made_rats (n : Nat) (hb : n ≤ 2000000) (w : World) : MadeP LongI 51 (w.alloc (.cells (madeCells #[.slice none 0 0, .slice none 0 0] (n * 2)) 51)) w.heap.size (.slice (some ⟨w.heap.size, 0, none⟩) 0 n) [] := by
  refine MadeP.start _ _ _ ?_ ?_
  · exact World.ownsRow_made w _ n (Nat.le_refl _) (by unfold maxLen; omega) (by simp [madeCells])
  · intro g hg
    simp only [Value.ownBlock, Option.some.injEq] at hg
    subst hg
    refine ⟨_, _, heap_alloc_new w _, fun x hx => ?_⟩
    have := mem_made2 hx (by decide)
    simp at this
    subst this
    exact ⟨_, _, _, rfl⟩

theorem two_new (w : World) (x y : Value) (t : TypeId) : ∀ j u, [x, y][j]? = some u → (w.alloc (.cells #[x, y] t)).cell? ((⟨w.heap.size, 0, none⟩ : Addr).add j) = some u := by
  intro j u hu
  have e : (⟨w.heap.size, 0, none⟩ : Addr).add j = ⟨w.heap.size, j, none⟩ := by
    unfold Addr.add
    split
    · rename_i h; subst h; rfl
    · simp
  rw [e, World.cell?_alloc_at _ _ _ _ rfl]
  simpa using hu
theorem shape2 {w : World} {B n : Nat} {e : TypeId} {v : Value} {vs : List Value} (h : w.ownsRow B e 2 v n vs) : ∃ a cap, v = .slice a n cap := by
  rcases h.2 with ⟨rfl, h0⟩ | ⟨g, cap, cur, rfl, _⟩
  · exact ⟨none, 0, by rw [h0]⟩
  · exact ⟨_, cap, rfl⟩
theorem two_sl (a b : Option Addr) (l1 c1 l2 c2 : Nat) : ∀ x ∈ [Value.slice a l1 c1, Value.slice b l2 c2], IsSl x := by
  intro x hx
  simp at hx
  rcases hx with rfl | rfl <;> exact ⟨_, _, _, rfl⟩
theorem zero_sl : ∀ x ∈ (Value.agg #[.slice none 0 0, .slice none 0 0]).cells.toList, IsSl x := by
  intro x hx
  simp [Value.cells] at hx
  subst hx
  exact ⟨_, _, _, rfl⟩

end Go.Proofs.YtiddhnnofpbopaaDoor

/- Lists of long numbers; an append of slices at a step of a drawn region. Conditions: told by the code. -/
namespace Go.Proofs.YtiddhnnofpbopaaDoor
open Go.RowKit Go.Deep
set_option linter.unusedVariables false

section
variable {P : Program} (w : World)
theorem step_append_sl {ops : Array Oper} {o : Oper} {a : Act} {K : Act → World → Prop} {Q : Exit → Act → World → Prop} {E : Prop} (hgd : o.guard = none) (s x : Operand) (t : TypeId)
    (ho : o.op = .call { callee := .builtin .append, args := #[s, x], argTypes := #[t, t] })
    (base : Nat) (e : TypeId) (i : TypeInfo) (z : Value) (size bytes : Nat) (ht : P.underlying t = some (.slice e)) (hi : P.info? e = some i) (hz : i.zero = some z)
    (hsize : i.size = size) (hby : i.bytes = bytes) (hzs : z.cells.size = size) (hsz : 0 < size)
    (v : Value) (n : Nat) (xs : List Value) (hs : a.eval s = v) (hown : w.ownsRow base e size v n xs)
    (ad : Addr) (m c : Nat) (news : List Value) (hx : a.eval x = .slice (some ad) m c) (hl : news.length = m * size) (hnews : ∀ j u, news[j]? = some u → w.cell? (ad.add j) = some u) (h1 : ∀ u ∈ news, u.oneCell' = true)
    (hm : 0 < m) (h63 : n + m ≤ maxLen) (hbytes : (n + m) * bytes ≤ 140737488355328) (hbase : base ≤ w.heap.size)
    (hzS : ∀ x ∈ z.cells.toList, IsSl x) (hnS : ∀ x ∈ news, IsSl x) (hall : AllSl w v)
    (h : ∀ g cap w', w'.ownsRow base e size (.slice (some ⟨g, 0, none⟩) (n + m) cap) (n + m) (xs ++ news) → w.grownBy w' v.ownBlock → AllSl w' (.slice (some ⟨g, 0, none⟩) (n + m) cap) → K (a.put o.dst (.slice (some ⟨g, 0, none⟩) (n + m) cap)) w') :
    if Region.wanted o (yielded ops a.tmps) = true then Oper.wp P o a w K Q else E := by
  have hw : Region.wanted o (yielded ops a.tmps) = true := by simp [Region.wanted, hgd]
  rw [if_pos hw]
  obtain ⟨v', w', hr, h2, h3, h4, h5⟩ := run_append_sl (P := P) w base t o.type e i z size bytes ht hi hz hsize hby hzs hsz v n xs hown ad m c news hl hnews h1 h63 hbytes hbase hzS hnS hall
  obtain ⟨g, cap, rfl, _, hlt⟩ := h2.form (by omega)
  unfold Oper.wp execOp
  simp only [ho, resolve, invoke, builtin, Sem.run_bind, Sem.run_pure, Result.andThen_ok, List.map_toArray, List.map_cons, List.map_nil, hs, hx, hr]
  exact h g cap w' h2 h3 h5
end

/-- the slice v reads as the long numbers l -/
def RowL (L : World → Value → Nat → Prop) (w : World) (v : Value) (l : List Nat) : Prop :=
  ∃ a cap, v = .slice a l.length cap ∧ ∀ i, i < l.length → ∃ b off x, a = some ⟨b, off, none⟩ ∧ w.cell? ⟨b, off + i, none⟩ = some x ∧ L w x (l.getD i 0)
theorem RowL.keep {L : World → Value → Nat → Prop} (hL : LongLike L) {w w' : World} {v : Value} {l : List Nat} (h : RowL L w v l) (hb : Below w.heap.size w w') : RowL L w' v l := by
  obtain ⟨a, cap, hv, hc⟩ := h
  refine ⟨a, cap, hv, fun i hi => ?_⟩
  obtain ⟨b, off, x, ha, hx, h1⟩ := hc i hi
  exact ⟨b, off, x, ha, by rw [hb.cell (block_lt hx)]; exact hx, hL.keep h1 hb⟩
theorem RowL.at {L : World → Value → Nat → Prop} {w : World} {a : Option Addr} {n cap : Nat} {l : List Nat} (h : RowL L w (.slice a n cap) l) (i : Nat) (hi : i < l.length) :
    ∃ b off x, a = some ⟨b, off, none⟩ ∧ w.cell? ⟨b, off + i, none⟩ = some x ∧ L w x (l.getD i 0) := by
  obtain ⟨a', cap', hv, hc⟩ := h
  simp only [Value.slice.injEq] at hv
  obtain ⟨rfl, -, -⟩ := hv
  exact hc i hi
/-- such a list while a call makes it -/
def MadeL (L : World → Value → Nat → Prop) (e : TypeId) (w : World) (B : Nat) (v : Value) (l : List Nat) : Prop :=
  ∃ xs, w.ownsRow B e 1 v l.length xs ∧ AllSl w v ∧ ∀ i, i < l.length → ∃ x, xs[i]? = some x ∧ L w x (l.getD i 0)
theorem MadeL.nil {L : World → Value → Nat → Prop} (e : TypeId) (w : World) (B : Nat) : MadeL L e w B (.slice none 0 0) [] := ⟨[], World.ownsRow_nil w B e 1, AllSl.nil w, fun i hi => by simp at hi⟩
theorem MadeL.keep {L : World → Value → Nat → Prop} (hL : LongLike L) {e : TypeId} {w w' : World} {B : Nat} {v : Value} {l : List Nat} (h : MadeL L e w B v l) (hb : Below w.heap.size w w') : MadeL L e w' B v l := by
  obtain ⟨xs, ho, ha, hc⟩ := h
  refine ⟨xs, ?_, ha.keep hb, fun i hi => ?_⟩
  · refine ⟨ho.1, ?_⟩
    rcases ho.2 with h0 | ⟨g, cap, cur, hv, hg, hh, r⟩
    · exact Or.inl h0
    · exact Or.inr ⟨g, cap, cur, hv, hg, by rw [hb.block g (Array.getElem?_eq_some_iff.1 hh).1]; exact hh, r⟩
  · obtain ⟨x, h1, h3⟩ := hc i hi
    exact ⟨x, h1, hL.keep h3 hb⟩
theorem MadeL.shape {L : World → Value → Nat → Prop} {e : TypeId} {w : World} {B : Nat} {v : Value} {l : List Nat} (h : MadeL L e w B v l) : ∃ a cap, v = .slice a l.length cap := by
  obtain ⟨xs, ho, _⟩ := h
  rcases ho.2 with ⟨rfl, h0⟩ | ⟨g, cap, cur, rfl, _⟩
  · exact ⟨none, 0, by rw [h0]⟩
  · exact ⟨_, cap, rfl⟩
theorem MadeL.done {L : World → Value → Nat → Prop} {e : TypeId} {w : World} {B : Nat} {v : Value} {l : List Nat} (h : MadeL L e w B v l) : RowL L w v l := by
  obtain ⟨xs, ho, ha, hc⟩ := h
  have ho' := ho
  rcases ho.2 with ⟨rfl, h0⟩ | ⟨g, cap, cur, rfl, _⟩
  · exact ⟨none, 0, by rw [h0], fun i hi => by omega⟩
  · refine ⟨_, cap, rfl, fun i hi => ?_⟩
    obtain ⟨x, h1, h3⟩ := hc i hi
    exact ⟨g, 0, x, rfl, by rw [Nat.zero_add, ho'.cellAt i (by omega), h1], h3⟩
/-- one number more -/
theorem MadeL.step {L : World → Value → Nat → Prop} (hL : LongLike L) {e : TypeId} {w w2 : World} {B : Nat} {v v' x : Value} {l : List Nat} {n : Nat} {xs : List Value}
    (hc : ∀ i, i < l.length → ∃ x, xs[i]? = some x ∧ L w x (l.getD i 0)) (hlen : xs.length = l.length) (ha : AllSl w v)
    (hx : L w x n) (hown : w2.ownsRow B e 1 v' (l.length + 1) (xs ++ [x])) (hg : w.grownBy w2 v.ownBlock) (ha2 : AllSl w2 v') : MadeL L e w2 B v' (l ++ [n]) := by
  refine ⟨xs ++ [x], by rw [List.length_append]; exact hown, ha2, fun i hi => ?_⟩
  rw [List.length_append] at hi
  by_cases h : i < l.length
  · obtain ⟨p, h1, h3⟩ := hc i h
    have e : (l ++ [n]).getD i 0 = l.getD i 0 := by simp [List.getD, List.getElem?_append_left h]
    rw [e]
    exact ⟨p, by rw [List.getElem?_append_left (by omega)]; exact h1, hL.grown h3 ha hg⟩
  · have hi' : i = l.length := by simp at hi; omega
    subst hi'
    have e : (l ++ [n]).getD l.length 0 = n := by simp [List.getD]
    rw [e]
    exact ⟨x, by rw [List.getElem?_append_right (by omega), hlen, Nat.sub_self]; rfl, hL.grown hx ha hg⟩
/-- a store into a box of two slices leaves it as it was -/
theorem MadeL.setBox {L : World → Value → Nat → Prop} (hS : ∀ {w : World} {v : Value} {n b : Nat} {a1 a2 : Option Addr} {l1 c1 l2 c2 : Nat} {t : TypeId}, L w v n → Blk w b #[.slice a1 l1 c1, .slice a2 l2 c2] t → ∀ (j : Nat) (u : Value), L (w.setCell ⟨b, j, none⟩ u) v n)
    {e t : TypeId} {w : World} {B b : Nat} {v : Value} {l : List Nat} {a1 a2 : Option Addr} {l1 c1 l2 c2 : Nat} (h : MadeL L e w B v l) (hB : Blk w b #[.slice a1 l1 c1, .slice a2 l2 c2] t) (hb : v.ownBlock ≠ some b) (j : Nat) (u : Value) : MadeL L e (w.setCell ⟨b, j, none⟩ u) B v l := by
  obtain ⟨xs, ho, ha, hc⟩ := h
  refine ⟨xs, ⟨ho.1, ?_⟩, ?_, fun i hi => ?_⟩
  · rcases ho.2 with h0 | ⟨g, cap, cur, hv, hg, hh, r⟩
    · exact Or.inl h0
    · refine Or.inr ⟨g, cap, cur, hv, hg, ?_, r⟩
      rw [Below.heap_setCell _ _ _ _ (by intro e; apply hb; simp [hv, Value.ownBlock, e])]
      exact hh
  · intro g hg
    obtain ⟨cur, e', hh, hx⟩ := ha g hg
    refine ⟨cur, e', ?_, hx⟩
    rw [Below.heap_setCell _ _ _ _ (by intro e; apply hb; rw [hg, e])]
    exact hh
  · obtain ⟨x, h1, h3⟩ := hc i hi
    exact ⟨x, h1, hS h3 hB j u⟩
end Go.Proofs.YtiddhnnofpbopaaDoor
