/- Lists of slices that a call makes by appending: every cell of their block is a slice, so no long number lies in it. Conditions: told by the code. -/
import Derived.Test.YtjkekhiceadpgaaWord14
import Derived.Test.YtjkekhiceadpgaaLong11
namespace Go.Proofs.Ytjkekhiceadpgaa
open Go.RowKit Go.Deep
set_option linter.unusedVariables false

def IsSl (x : Value) : Prop := ∃ a l c, x = .slice a l c
/-- every cell of the slice's block is a slice -/
def AllSl (w : World) (v : Value) : Prop := ∀ g, v.ownBlock = some g → ∃ cur e, w.heap[g]? = some (.cells cur e (0, 0)) ∧ ∀ x ∈ cur.toList, IsSl x
theorem AllSl.nil (w : World) : AllSl w (.slice none 0 0) := fun g h => by simp [Value.ownBlock] at h
theorem AllSl.cell {w : World} {v : Value} (h : AllSl w v) {g : Nat} (hg : v.ownBlock = some g) {j : Nat} {x : Value} (hx : w.cell? ⟨g, j, none⟩ = some x) : IsSl x := by
  obtain ⟨cur, e, hh, ha⟩ := h g hg
  simp only [World.cell?, hh] at hx
  simp at hx
  exact ha x (by simpa using Array.mem_of_getElem? hx)
theorem AllSl.keep {w w' : World} {v : Value} (h : AllSl w v) (hb : Below w.heap.size w w') : AllSl w' v := fun g hg => by
  obtain ⟨cur, e, hh, ha⟩ := h g hg
  have hlt : g < w.heap.size := by
    rcases Nat.lt_or_ge g w.heap.size with h1 | h1
    · exact h1
    · rw [Array.getElem?_eq_none h1] at hh; cases hh
  exact ⟨cur, e, by rw [hb.block g hlt]; exact hh, ha⟩
theorem mem_zeroCells {z : Array Value} {n : Nat} {x : Value} (h : x ∈ (Builtin.zeroCells z n).toList) : x ∈ z.toList := by
  simp only [Builtin.zeroCells] at h
  simp at h
  obtain ⟨k, hk, rfl⟩ := h
  have hz : 0 < z.size := by
    rcases Nat.eq_zero_or_pos z.size with h0 | h0
    · rw [h0] at hk; omega
    · exact h0
  rw [getElem!_pos z _ (Nat.mod_lt k hz)]
  exact Array.getElem_mem_toList _

section
variable {P : Program} (w : World)
theorem run_append_sl (base : Nat) (t ty e : TypeId) (i : TypeInfo) (z : Value) (size bytes : Nat) (ht : P.underlying t = some (.slice e)) (hi : P.info? e = some i) (hz : i.zero = some z)
    (hsize : i.size = size) (hby : i.bytes = bytes) (hzs : z.cells.size = size) (hsz : 0 < size)
    (v : Value) (n : Nat) (xs : List Value) (hown : w.ownsRow base e size v n xs)
    (a : Addr) (m c : Nat) (news : List Value) (hl : news.length = m * size) (hnews : ∀ j u, news[j]? = some u → w.cell? (a.add j) = some u) (h1 : ∀ u ∈ news, u.oneCell' = true)
    (h63 : n + m ≤ maxLen) (hbytes : (n + m) * bytes ≤ 140737488355328) (hbase : base ≤ w.heap.size)
    (hzS : ∀ x ∈ z.cells.toList, IsSl x) (hnS : ∀ x ∈ news, IsSl x) (hall : AllSl w v) :
    ∃ v' w', (Builtin.append_ #[t, t] ty #[v, .slice (some a) m c]).run P w = .ok v' w' ∧ w'.ownsRow base e size v' (n + m) (xs ++ news) ∧ w.grownBy w' v.ownBlock ∧
      (v' = .slice none 0 0 ↔ v = .slice none 0 0 ∧ m = 0) ∧ AllSl w' v' := by
  subst hsize
  subst hby
  have hsmall : n + m ≤ 9223372036854775807 := by simp only [maxLen] at h63; omega
  have hlen : (xs ++ news).length = (n + m) * i.size := by rw [List.length_append, hown.1, hl, Nat.add_mul]
  have grown : ∀ (old : Nat), old < n + m → ∀ (row : Option Nat), (∀ x ∈ xs, IsSl x) →
      (w.drew.alloc (.cells (xs.toArray ++ news.toArray ++ Builtin.zeroCells z.cells (grownCap w (n + m) old e - (n + m))) e)).ownsRow base e i.size
        (.slice (some ⟨w.heap.size, 0, none⟩) (n + m) (grownCap w (n + m) old e)) (n + m) (xs ++ news) ∧
      w.grownBy (w.drew.alloc (.cells (xs.toArray ++ news.toArray ++ Builtin.zeroCells z.cells (grownCap w (n + m) old e - (n + m))) e)) row ∧
      AllSl (w.drew.alloc (.cells (xs.toArray ++ news.toArray ++ Builtin.zeroCells z.cells (grownCap w (n + m) old e - (n + m))) e)) (.slice (some ⟨w.heap.size, 0, none⟩) (n + m) (grownCap w (n + m) old e)) := by
    intro old ho row hxs
    have hge := grownCap_ge w (n + m) old e
    have hcm : grownCap w (n + m) old e ≤ maxLen := grownCap_le_maxLen w (n + m) old e h63
    refine ⟨⟨hlen, .inr ⟨w.heap.size, _, _, rfl, hbase, heap_alloc_new w.drew _, hge, hcm, ?_, ?_⟩⟩, ⟨rfl, rfl, rfl, by simp, fun k hk _ => Go.RowKit.Below.heap_alloc w.drew _ k hk⟩, ?_⟩
    · simp only [Array.size_append, List.size_toArray, size_zeroCells, hzs, hown.1, hl, ← Nat.add_mul]
      congr 1
      omega
    · simp only [Array.toList_append, List.append_assoc]
      rw [← List.append_assoc, ← hlen]
      exact List.take_left
    · intro g hg
      simp only [Value.ownBlock, Option.some.injEq] at hg
      subst hg
      refine ⟨_, _, heap_alloc_new w.drew _, fun x hx => ?_⟩
      simp only [Array.toList_append, List.mem_append] at hx
      rcases hx with (hx | hx) | hx
      · exact hxs x hx
      · exact hnS x hx
      · exact hzS x (mem_zeroCells hx)
  rcases hown.2 with ⟨rfl, rfl⟩ | ⟨g, cap, cur, rfl, hbg, hg, hnc, hcm, hcs, htake⟩
  · have hx : xs = [] := List.eq_nil_of_length_eq_zero (by simpa using hown.1)
    subst hx
    by_cases hm : m = 0
    · subst hm
      have hn : news = [] := List.eq_nil_of_length_eq_zero (by simpa using hl)
      subst hn
      refine ⟨.slice none 0 0, w, ?_, World.ownsRow_nil w base e i.size, ⟨rfl, rfl, rfl, Nat.le_refl _, fun _ _ _ => rfl⟩, by simp, AllSl.nil w⟩
      simp [Builtin.append_, run_underlying ht, sizeOf, typeInfo, hi, Builtin.lenOf, Builtin.firstCells, loadCells, loadCellsFrom]
    · have hr := run_append_nil (P := P) w t ty e i z ht hi hz a m c news hl hnews (by omega) (by omega) (by have hb := hbytes; simp only [Nat.zero_add] at hb; omega)
      have hgr := grown 0 (by omega) (Value.ownBlock (.slice none 0 0)) (fun x hx => by cases hx)
      simp only [Nat.zero_add, List.nil_append, Array.empty_append] at hgr ⊢
      exact ⟨_, _, hr, hgr.1, hgr.2.1, by simp [hm], hgr.2.2⟩
  · obtain ⟨cur', e', hg', hcur⟩ := hall g rfl
    rw [hg] at hg'
    simp only [Option.some.injEq, Obj.cells.injEq] at hg'
    obtain ⟨rfl, rfl, -⟩ := hg'
    have hxs : ∀ x ∈ xs, IsSl x := fun x hx => hcur x (by rw [← htake] at hx; exact List.mem_of_mem_take hx)
    by_cases hroom : n + m ≤ cap
    · have hfit : n * i.size + news.length ≤ cur.size := by rw [hl, hcs, ← Nat.add_mul]; exact Nat.mul_le_mul_right _ hroom
      have hr := run_append_room (P := P) w t ty e i ht hi g n cap cur hg a m c news hl hnews h1 hroom hfit
      refine ⟨_, _, hr, ⟨hlen, .inr ⟨g, cap, _, rfl, hbg, setRow_heap w g cur _ e _ hg, hroom, hcm, ?_, ?_⟩⟩, ⟨rfl, rfl, rfl, by simp, fun k _ hk => setRow_other w g k _ (fun e => hk (by simp [Value.ownBlock, e]))⟩, by simp, ?_⟩
      · simp only [List.size_toArray, List.length_append, List.length_take, List.length_drop, Array.length_toList]
        omega
      · rw [htake, ← hlen]
        exact List.take_left
      · intro g' hg'
        simp only [Value.ownBlock, Option.some.injEq] at hg'
        subst hg'
        refine ⟨_, _, setRow_heap w g cur _ e _ hg, fun x hx => ?_⟩
        simp only [List.mem_append] at hx
        rcases hx with (hx | hx) | hx
        · exact hcur x (List.mem_of_mem_take hx)
        · exact hnS x hx
        · exact hcur x (List.mem_of_mem_drop hx)
    · have holds : ∀ j u, xs[j]? = some u → w.cell? ((⟨g, 0, none⟩ : Addr).add j) = some u := hown.cells (g := g) rfl
      have hr := run_append_grow (P := P) w t ty e i z ht hi hz ⟨g, 0, none⟩ n cap xs hown.1 holds a m c news hl hnews (by omega) (by omega) (growslice_fits (by omega) hbytes)
      have hgr := grown cap (by omega) (Value.ownBlock (.slice (some ⟨g, 0, none⟩) n cap)) hxs
      exact ⟨_, _, hr, hgr.1, hgr.2.1, by simp, hgr.2.2⟩

theorem wpList_append_sl {ops : Array Oper} {rest : List Oper} {o : Oper} {a : Act} {Q : Exit → Act → World → Prop} (hgd : o.guard = none) (s x : Operand) (t : TypeId)
    (ho : o.op = .call { callee := .builtin .append, args := #[s, x], argTypes := #[t, t] })
    (base : Nat) (e : TypeId) (i : TypeInfo) (z : Value) (size bytes : Nat) (ht : P.underlying t = some (.slice e)) (hi : P.info? e = some i) (hz : i.zero = some z)
    (hsize : i.size = size) (hby : i.bytes = bytes) (hzs : z.cells.size = size) (hsz : 0 < size)
    (v : Value) (n : Nat) (xs : List Value) (hs : a.eval s = v) (hown : w.ownsRow base e size v n xs)
    (ad : Addr) (m c : Nat) (news : List Value) (hx : a.eval x = .slice (some ad) m c) (hl : news.length = m * size) (hnews : ∀ j u, news[j]? = some u → w.cell? (ad.add j) = some u) (h1 : ∀ u ∈ news, u.oneCell' = true)
    (h63 : n + m ≤ maxLen) (hbytes : (n + m) * bytes ≤ 140737488355328) (hbase : base ≤ w.heap.size)
    (hzS : ∀ x ∈ z.cells.toList, IsSl x) (hnS : ∀ x ∈ news, IsSl x) (hall : AllSl w v)
    (h : ∀ v' w', w'.ownsRow base e size v' (n + m) (xs ++ news) → w.grownBy w' v.ownBlock → AllSl w' v' → wpList P ops Q rest (a.put o.dst v') w') : wpList P ops Q (o :: rest) a w :=
  wpList_plain hgd fun _ hK => by
    obtain ⟨v', w', hr, h2, h3, h4, h5⟩ := run_append_sl (P := P) w base t o.type e i z size bytes ht hi hz hsize hby hzs hsz v n xs hown ad m c news hl hnews h1 h63 hbytes hbase hzS hnS hall
    have hk := h v' w' h2 h3 h5
    unfold Oper.wp execOp
    simp only [ho, resolve, invoke, builtin, Sem.run_bind, Sem.run_pure, Result.andThen_ok, List.map_toArray, List.map_cons, List.map_nil, hs, hx, hr]
    exact hK _ _ hk
end

/-- a long number is no part of such a list -/
theorem LongI.apart {w : World} {v r : Value} {m : Nat} (h : LongI w v m) (hr : AllSl w r) (i b off : Nat) (hi : i < dlen W32 m) (ha : ∃ l c, v = .slice (some ⟨b, off, none⟩) l c) : r.ownBlock ≠ some b := by
  intro hb
  obtain ⟨b', off', c', hv, _, hc⟩ := h.at (by omega)
  obtain ⟨l, c, rfl⟩ := ha
  simp only [Value.slice.injEq, Option.some.injEq, Addr.mk.injEq, and_true] at hv
  obtain ⟨⟨rfl, rfl⟩, -, -⟩ := hv
  obtain ⟨a, l2, c2, e⟩ := hr.cell hb (hc i hi)
  cases e
theorem LongS.apart {w : World} {v r : Value} {m : Nat} (h : LongS w v m) (hr : AllSl w r) (i b off : Nat) (hi : i < dlen B9 m) (ha : ∃ l c, v = .slice (some ⟨b, off, none⟩) l c) : r.ownBlock ≠ some b := by
  intro hb
  obtain ⟨b', off', c', hv, _, hc⟩ := h.at (by omega)
  obtain ⟨l, c, rfl⟩ := ha
  simp only [Value.slice.injEq, Option.some.injEq, Addr.mk.injEq, and_true] at hv
  obtain ⟨⟨rfl, rfl⟩, -, -⟩ := hv
  obtain ⟨a, l2, c2, e⟩ := hr.cell hb (hc i hi)
  cases e
theorem LongI.grownSl {w w' : World} {v r : Value} {m : Nat} (h : LongI w v m) (hr : AllSl w r) (hg : w.grownBy w' r.ownBlock) : LongI w' v m := by
  have h0 := h
  obtain ⟨hm, a, cap, hv, hk, hc⟩ := h
  refine ⟨hm, a, cap, hv, hk, fun i hi => ?_⟩
  obtain ⟨b, off, ha, hcell⟩ := hc i hi
  refine ⟨b, off, ha, ?_⟩
  have hi' : i < dlen W32 m := by rw [u32s_length, dgs_length] at hi; exact hi
  rw [World.cell?_of_block (w := w) (hg.block b (block_lt hcell) (fun e => h0.apart hr i b off hi' ⟨_, _, by rw [hv, ha]⟩ e.symm))]
  exact hcell
theorem LongS.grownSl {w w' : World} {v r : Value} {m : Nat} (h : LongS w v m) (hr : AllSl w r) (hg : w.grownBy w' r.ownBlock) : LongS w' v m := by
  have h0 := h
  obtain ⟨hm, a, cap, hv, hk, hc⟩ := h
  refine ⟨hm, a, cap, hv, hk, fun i hi => ?_⟩
  obtain ⟨b, off, ha, hcell⟩ := hc i hi
  refine ⟨b, off, ha, ?_⟩
  have hi' : i < dlen B9 m := by
    have : (ints (longS m)).length = dlen B9 m := by simp [ints, longS_length]
    rw [this] at hi; exact hi
  rw [World.cell?_of_block (w := w) (hg.block b (block_lt hcell) (fun e => h0.apart hr i b off hi' ⟨_, _, by rw [hv, ha]⟩ e.symm))]
  exact hcell
end Go.Proofs.Ytjkekhiceadpgaa
