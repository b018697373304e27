/- Words for memory that slices of one-cell elements take: what reads as a list (Row, Ints, Rows2), what a call has made for itself (Own, OwnRows), and how both fare when the world grows. Conditions: none: plain lemmas. -/
import Derived.Test.YtgaadcinhaphpaaDoorRows
import Derived.WalkKit
import Derived.Deep.OwnRows
import Derived.Lib.Hide
import Derived.Deep.QuietTactic
import Derived.BigQuiet
namespace Go.Proofs.YtgaadcinhaphpaaDoor
open Go.RowKit Go.Deep
set_option linter.unusedVariables false

theorem ret_int {k : IntKind} {a b : Int} (h : a = b) : Ending.returned (.int k a) = .returned (.int k b) := by rw [h]
theorem ret_bool {a b : Bool} (h : a = b) : Ending.returned (.bool a) = .returned (.bool b) := by rw [h]
theorem maxLen_num : maxLen = 9223372036854775807 := rfl
theorem below_wt {a b c : World} (h : Below a.heap.size a b) (k : Below b.heap.size b c) : Below a.heap.size a c := h.trans (k.mono h.size)
theorem block_lt {w : World} {a : Addr} {v : Value} (h : w.cell? a = some v) : a.block < w.heap.size := World.block_lt_of_cell? w a h

/-- The slice value v reads in w as the list vs: one cell an element. -/
def Row (w : World) (v : Value) (vs : List Value) : Prop :=
  vs.length ≤ maxLen ∧ ∃ a cap, v = .slice a vs.length cap ∧ (vs.length ≤ cap ∧ cap ≤ maxLen) ∧ ∀ i, i < vs.length → ∃ b off, a = some ⟨b, off, none⟩ ∧ w.cell? ⟨b, off + i, none⟩ = some (vs.getD i undef)

theorem Row.keep {w w' : World} {v : Value} {vs : List Value} (h : Row w v vs) (hb : Below w.heap.size w w') : Row w' v vs := by
  obtain ⟨hm, a, cap, hv, hk, hc⟩ := h
  refine ⟨hm, a, cap, hv, hk, fun i hi => ?_⟩
  obtain ⟨b, off, ha, hcell⟩ := hc i hi
  exact ⟨b, off, ha, by rw [hb.cell (block_lt hcell)]; exact hcell⟩

/-- the walk's form: an index below the length leads to an address and to its cell -/
theorem Row.at {w : World} {v : Value} {vs : List Value} (h : Row w v vs) (hne : 0 < vs.length) :
    ∃ b off cap, v = .slice (some ⟨b, off, none⟩) vs.length cap ∧ b < w.heap.size ∧ ∀ i, i < vs.length → w.cell? ⟨b, off + i, none⟩ = some (vs.getD i undef) := by
  obtain ⟨hm, a, cap, hv, _, hc⟩ := h
  obtain ⟨b, off, ha, hcell⟩ := hc 0 hne
  subst ha
  refine ⟨b, off, cap, hv, block_lt hcell, fun i hi => ?_⟩
  obtain ⟨b', off', ha, hcell'⟩ := hc i hi
  cases ha
  exact hcell'

theorem Row.len {w : World} {v : Value} {vs : List Value} (h : Row w v vs) : ∃ a cap, v = .slice a vs.length cap := by
  obtain ⟨_, a, cap, hv, _⟩ := h
  exact ⟨a, cap, hv⟩

theorem Row.caps {w : World} {v : Value} {vs : List Value} (h : Row w v vs) : ∃ a cap, v = .slice a vs.length cap ∧ vs.length ≤ cap ∧ cap ≤ maxLen := by
  obtain ⟨_, a, cap, hv, hk, _⟩ := h
  exact ⟨a, cap, hv, hk⟩
/-- the first n elements, as 'v[:n]' -/
theorem Row.pre {w : World} {a : Option Addr} {len cap : Nat} {vs : List Value} (h : Row w (.slice a len cap) vs) (n : Nat) (hn : n ≤ vs.length) : Row w (.slice a n cap) (vs.take n) := by
  obtain ⟨hm, a', cap', hv, ⟨h1, h2⟩, hc⟩ := h
  simp only [Value.slice.injEq] at hv
  obtain ⟨rfl, rfl, rfl⟩ := hv
  have hl : (vs.take n).length = n := by simp; omega
  refine ⟨by omega, a, cap, by rw [hl], by omega, fun i hi => ?_⟩
  obtain ⟨b, off, ha, hcell⟩ := hc i (by omega)
  refine ⟨b, off, ha, ?_⟩
  rw [hcell]
  congr 1
  simp only [List.getD, List.getElem?_take]
  rw [if_pos (by omega)]

abbrev ints (xs : List Int) : List Value := xs.map (Value.int .i64)
theorem ints_getD (xs : List Int) (i : Nat) (h : i < xs.length) : (ints xs).getD i undef = .int .i64 (xs.getD i 0) := by
  simp [ints, List.getD, h]

/-- v reads as the int64s xs -/
def Ints (w : World) (v : Value) (xs : List Int) : Prop := Row w v (ints xs)
theorem Ints.keep {w w' : World} {v : Value} {xs : List Int} (h : Ints w v xs) (hb : Below w.heap.size w w') : Ints w' v xs := Row.keep h hb
theorem Ints.len {w : World} {v : Value} {xs : List Int} (h : Ints w v xs) : xs.length ≤ maxLen ∧ ∃ a cap, v = .slice a xs.length cap := by
  have := h.1
  obtain ⟨a, cap, hv⟩ := Row.len h
  exact ⟨by simpa [ints] using this, a, cap, by simpa [ints] using hv⟩
theorem Ints.caps {w : World} {v : Value} {xs : List Int} (h : Ints w v xs) : ∃ a cap, v = .slice a xs.length cap ∧ xs.length ≤ cap ∧ cap ≤ maxLen := by
  have := Row.caps h
  simpa [ints] using this
theorem Ints.pre {w : World} {a : Option Addr} {len cap : Nat} {xs : List Int} (h : Ints w (.slice a len cap) xs) (n : Nat) (hn : n ≤ xs.length) : Ints w (.slice a n cap) (xs.take n) := by
  have := Row.pre h n (by simpa [ints] using hn)
  simpa [Ints, ints, List.map_take] using this
theorem Ints.at {w : World} {v : Value} {xs : List Int} (h : Ints w v xs) (hne : 0 < xs.length) :
    ∃ b off cap, v = .slice (some ⟨b, off, none⟩) xs.length cap ∧ b < w.heap.size ∧ ∀ i, i < xs.length → w.cell? ⟨b, off + i, none⟩ = some (.int .i64 (xs.getD i 0)) := by
  obtain ⟨b, off, cap, hv, hb, hc⟩ := Row.at h (by simpa [ints] using hne)
  refine ⟨b, off, cap, by simpa [ints] using hv, hb, fun i hi => ?_⟩
  rw [hc i (by simpa [ints] using hi), ints_getD xs i hi]

/-- v reads as the rows xss -/
def Rows2 (w : World) (v : Value) (xss : List (List Int)) : Prop :=
  ∃ rvs, Row w v rvs ∧ rvs.length = xss.length ∧ ∀ i, i < xss.length → Ints w (rvs.getD i undef) (xss.getD i [])
theorem Rows2.keep {w w' : World} {v : Value} {xss : List (List Int)} (h : Rows2 w v xss) (hb : Below w.heap.size w w') : Rows2 w' v xss := by
  obtain ⟨rvs, hr, hl, hi⟩ := h
  exact ⟨rvs, hr.keep hb, hl, fun i h => (hi i h).keep hb⟩
theorem Rows2.len {w : World} {v : Value} {xss : List (List Int)} (h : Rows2 w v xss) : xss.length ≤ maxLen ∧ ∃ a cap, v = .slice a xss.length cap := by
  obtain ⟨rvs, hr, hl, _⟩ := h
  have := hr.1
  obtain ⟨a, cap, hv⟩ := hr.len
  exact ⟨by omega, a, cap, by rw [← hl]; exact hv⟩
theorem Rows2.at {w : World} {v : Value} {xss : List (List Int)} (h : Rows2 w v xss) (hne : 0 < xss.length) :
    ∃ (b off cap : Nat) (rv : Nat → Value), v = .slice (some ⟨b, off, none⟩) xss.length cap ∧ b < w.heap.size ∧ ∀ i, i < xss.length → w.cell? ⟨b, off + i, none⟩ = some (rv i) ∧ Ints w (rv i) (xss.getD i []) := by
  obtain ⟨rvs, hr, hl, hi⟩ := h
  obtain ⟨b, off, cap, hv, hb, hc⟩ := hr.at (by omega)
  exact ⟨b, off, cap, fun i => rvs.getD i undef, by rw [← hl]; exact hv, hb, fun i h => ⟨hc i (by omega), hi i h⟩⟩

/-- A chain (also a coupled chain): the numbers and the rows. -/
structure Ch where
  n : Int
  t : Int
  w : List (List Int)

/-- the value cv reads as the chain c -/
def ChR (w : World) (cv : Value) (c : Ch) : Prop := ∃ v, cv = .agg #[.int .i64 c.n, .int .i64 c.t, v] ∧ Rows2 w v c.w
theorem ChR.keep {w w' : World} {cv : Value} {c : Ch} (h : ChR w cv c) (hb : Below w.heap.size w w') : ChR w' cv c := by
  obtain ⟨v, hv, hr⟩ := h
  exact ⟨v, hv, hr.keep hb⟩

/-- how many numbers rows hold -/
def total : List (List Int) → Nat
  | [] => 0
  | x :: r => x.length + total r
theorem total_append (a b : List (List Int)) : total (a ++ b) = total a + total b := by
  induction a with
  | nil => simp [total]
  | cons x r ih => simp only [List.cons_append, total, ih]; omega
theorem total_take_succ (xss : List (List Int)) (k : Nat) (h : k < xss.length) : total (xss.take (k + 1)) = total (xss.take k) + (xss.getD k []).length := by
  rw [List.take_add_one, List.getElem?_eq_getElem h, total_append]
  simp [List.getD, h, total]
theorem total_take_le (xss : List (List Int)) (k : Nat) : total (xss.take k) ≤ total xss := by
  have : total xss = total (xss.take k) + total (xss.drop k) := by rw [← total_append, List.take_append_drop]
  omega
theorem total_take_all (xss : List (List Int)) : total (xss.take xss.length) = total xss := by rw [List.take_length]
theorem total_row_le (xss : List (List Int)) (k : Nat) (h : k < xss.length) : (xss.getD k []).length ≤ total xss := by
  have h1 := total_take_succ xss k h
  have h2 := total_take_le xss (k + 1)
  omega

/-! ### what a call has made -/

/-- v is nil and vs empty; or v lies at the head of a block g, lo ≤ g < hi, of cells of the type e, not frozen, whose first cells are vs. -/
def Own (w : World) (lo hi : Nat) (e : TypeId) (v : Value) (vs : List Value) : Prop :=
  w.ownsRow lo e 1 v vs.length vs ∧ vs.length ≤ maxLen ∧ ∀ k, v.ownBlock = some k → k < hi

theorem Own.of {w : World} {lo hi : Nat} {e : TypeId} {v : Value} {n : Nat} {vs : List Value} (h : w.ownsRow lo e 1 v n vs) (hh : w.heap.size ≤ hi) : Own w lo hi e v vs := by
  have hl : vs.length = n := by simpa using h.1
  subst hl
  refine ⟨h, ?_, fun k hk => Nat.lt_of_lt_of_le (h.lt k hk).2 hh⟩
  rcases h.2 with ⟨_, h0⟩ | ⟨g, cap, cur, _, _, _, h1, h2, _⟩ <;> omega

theorem Own.row {w : World} {lo hi : Nat} {e : TypeId} {v : Value} {vs : List Value} (h : Own w lo hi e v vs) : Row w v vs := by
  obtain ⟨ho, hm, _⟩ := h
  refine ⟨hm, ?_⟩
  rcases ho.2 with ⟨hv, h0⟩ | ⟨g, cap, cur, rfl, hg, hh, hn, _, hs, ht⟩
  · exact ⟨none, 0, by rw [hv, h0], ⟨by omega, by unfold maxLen; omega⟩, fun i hi => by omega⟩
  · refine ⟨some ⟨g, 0, none⟩, cap, rfl, ⟨hn, by assumption⟩, fun i hi => ⟨g, 0, rfl, ?_⟩⟩
    have := ho.cellAt i (by omega)
    simp only [Nat.zero_add]
    rw [this]
    simp [List.getD, hi]

theorem Own.keep {w w' : World} {lo hi B : Nat} {e : TypeId} {v : Value} {vs : List Value} (h : Own w lo hi e v vs) (hB : hi ≤ B) (hb : Below B w w') : Own w' lo hi e v vs := by
  obtain ⟨ho, hm, hk⟩ := h
  refine ⟨⟨ho.1, ?_⟩, hm, hk⟩
  rcases ho.2 with hn | ⟨g, cap, cur, rfl, hg, hh, r⟩
  · exact Or.inl hn
  · exact Or.inr ⟨g, cap, cur, rfl, hg, by rw [hb.block g (by have := hk g rfl; omega)]; exact hh, r⟩

theorem Own.wide {w : World} {lo hi lo' hi' : Nat} {e : TypeId} {v : Value} {vs : List Value} (h : Own w lo hi e v vs) (h1 : lo' ≤ lo) (h2 : hi ≤ hi') : Own w lo' hi' e v vs := by
  obtain ⟨ho, hm, hk⟩ := h
  refine ⟨⟨ho.1, ?_⟩, hm, fun k h => Nat.lt_of_lt_of_le (hk k h) h2⟩
  rcases ho.2 with hn | ⟨g, cap, cur, hv, hg, r⟩
  · exact Or.inl hn
  · exact Or.inr ⟨g, cap, cur, hv, by omega, r⟩

/-- a store beside leaves it -/
theorem Own.setOther {w : World} {lo hi : Nat} {e : TypeId} {v : Value} {vs : List Value} (h : Own w lo hi e v vs) {a : Addr} (ha : v.ownBlock ≠ some a.block) (u : Value) : Own (w.setCell a u) lo hi e v vs := by
  obtain ⟨ho, hm, hk⟩ := h
  refine ⟨⟨ho.1, ?_⟩, hm, hk⟩
  rcases ho.2 with hn | ⟨g, cap, cur, rfl, hg, hh, r⟩
  · exact Or.inl hn
  · refine Or.inr ⟨g, cap, cur, rfl, hg, ?_, r⟩
    rw [Below.heap_setCell _ _ _ _ (by intro e; apply ha; simp [Value.ownBlock, e])]
    exact hh

theorem Own.alloc {w : World} {lo hi : Nat} {e : TypeId} {v : Value} {vs : List Value} (h : Own w lo hi e v vs) (o : Obj) : Own (w.alloc o) lo hi e v vs := ⟨h.1.alloc o, h.2.1, h.2.2⟩
theorem Own.drew {w : World} {lo hi : Nat} {e : TypeId} {v : Value} {vs : List Value} (h : Own w lo hi e v vs) : Own w.drew lo hi e v vs := ⟨h.1.drew, h.2.1, h.2.2⟩

/-- where there is an element: its block -/
theorem Own.at {w : World} {lo hi : Nat} {e : TypeId} {v : Value} {vs : List Value} (h : Own w lo hi e v vs) (hne : 0 < vs.length) :
    ∃ g cap, v = .slice (some ⟨g, 0, none⟩) vs.length cap ∧ lo ≤ g ∧ g < hi ∧ g < w.heap.size ∧ (∀ i, i < vs.length → w.cell? ⟨g, i, none⟩ = some (vs.getD i undef)) ∧ ∀ i, w.frozen? ⟨g, i, none⟩ = false := by
  obtain ⟨ho, hm, hk⟩ := h
  have ho' := ho
  rcases ho.2 with ⟨_, h0⟩ | ⟨g, cap, cur, rfl, hg, hh, hn, _, hs, ht⟩
  · omega
  · refine ⟨g, cap, rfl, hg, hk g rfl, (ho'.lt g rfl).2, fun i hi => ?_, fun i => ho'.frozenAt i⟩
    rw [ho'.cellAt i (by omega)]
    simp [List.getD, hi]

/-- a store into it -/
theorem Own.set {w : World} {lo hi : Nat} {e : TypeId} {g cap n : Nat} {vs : List Value} (h : Own w lo hi e (.slice (some ⟨g, 0, none⟩) n cap) vs) (i : Nat) (u : Value) :
    Own (w.setCell ⟨g, i, none⟩ u) lo hi e (.slice (some ⟨g, 0, none⟩) n cap) (vs.set i u) := by
  obtain ⟨ho, hm, hk⟩ := h
  rcases ho.2 with ⟨hv, h0⟩ | ⟨g', cap', cur, hv, hg, hh, hn, hc, hs, ht⟩
  · cases hv
  · cases hv
    refine ⟨⟨by simp, Or.inr ⟨g, cap, cur.setIfInBounds i u, by rw [List.length_set], hg, ?_, by simpa using hn, hc, by simpa using hs, ?_⟩⟩, by simpa using hm, hk⟩
    · simp [World.setCell, Array.getElem?_modify, hh]
    · simp only [Array.toList_setIfInBounds, Nat.mul_one, List.length_set] at ht ⊢
      rw [List.take_set, ht]

theorem Own.made (w : World) (z : Value) (n : Nat) (e : TypeId) (hm : n ≤ maxLen) :
    Own (w.alloc (.cells (madeCells #[z] n) e)) w.heap.size (w.heap.size + 1) e (.slice (some ⟨w.heap.size, 0, none⟩) n n) (List.replicate n z) := by
  have hs : (madeCells #[z] n).size = n := size_madeCells _ _
  refine ⟨⟨by simp, Or.inr ⟨w.heap.size, n, _, by rw [List.length_replicate], Nat.le_refl _, heap_alloc_new w _, by simp, hm, by simp [hs], ?_⟩⟩, by simpa using hm, ?_⟩
  · rw [toList_madeCells_one]; simp
  · intro k hk; simp [Value.ownBlock] at hk; omega

/-- rows of numbers that a call has made: each in a block of its own -/
def OwnRows (e2 e1 : TypeId) (w : World) (lo hi : Nat) (v : Value) (xss : List (List Int)) : Prop :=
  ∃ rvs, Own w lo hi e2 v rvs ∧ rvs.length = xss.length ∧ (∀ i, i < xss.length → Own w lo hi e1 (rvs.getD i undef) (ints (xss.getD i []))) ∧
    (∀ i, i < xss.length → ∀ k, (rvs.getD i undef).ownBlock = some k → v.ownBlock ≠ some k) ∧
    (∀ i j, i < xss.length → j < xss.length → i ≠ j → ∀ k, (rvs.getD i undef).ownBlock = some k → (rvs.getD j undef).ownBlock ≠ some k)

theorem OwnRows.rows {e2 e1 : TypeId} {w : World} {lo hi : Nat} {v : Value} {xss : List (List Int)} (h : OwnRows e2 e1 w lo hi v xss) : Rows2 w v xss := by
  obtain ⟨rvs, ho, hl, hr, _⟩ := h
  exact ⟨rvs, ho.row, hl, fun i hi => (hr i hi).row⟩
theorem OwnRows.keep {e2 e1 : TypeId} {w w' : World} {lo hi B : Nat} {v : Value} {xss : List (List Int)} (h : OwnRows e2 e1 w lo hi v xss) (hB : hi ≤ B) (hb : Below B w w') : OwnRows e2 e1 w' lo hi v xss := by
  obtain ⟨rvs, ho, hl, hr, hd⟩ := h
  exact ⟨rvs, ho.keep hB hb, hl, fun i hi => (hr i hi).keep hB hb, hd⟩
theorem OwnRows.wide {e2 e1 : TypeId} {w : World} {lo hi lo' hi' : Nat} {v : Value} {xss : List (List Int)} (h : OwnRows e2 e1 w lo hi v xss) (h1 : lo' ≤ lo) (h2 : hi ≤ hi') : OwnRows e2 e1 w lo' hi' v xss := by
  obtain ⟨rvs, ho, hl, hr, hd⟩ := h
  exact ⟨rvs, ho.wide h1 h2, hl, fun i hi => (hr i hi).wide h1 h2, hd⟩

/-- a chain that a call has made -/
def ChOwn (e2 e1 : TypeId) (w : World) (lo hi : Nat) (cv : Value) (c : Ch) : Prop := ∃ v, cv = .agg #[.int .i64 c.n, .int .i64 c.t, v] ∧ OwnRows e2 e1 w lo hi v c.w
theorem ChOwn.ch {e2 e1 : TypeId} {w : World} {lo hi : Nat} {cv : Value} {c : Ch} (h : ChOwn e2 e1 w lo hi cv c) : ChR w cv c := by
  obtain ⟨v, hv, hr⟩ := h
  exact ⟨v, hv, hr.rows⟩
theorem ChOwn.keep {e2 e1 : TypeId} {w w' : World} {lo hi B : Nat} {cv : Value} {c : Ch} (h : ChOwn e2 e1 w lo hi cv c) (hB : hi ≤ B) (hb : Below B w w') : ChOwn e2 e1 w' lo hi cv c := by
  obtain ⟨v, hv, hr⟩ := h
  exact ⟨v, hv, hr.keep hB hb⟩
theorem ChOwn.wide {e2 e1 : TypeId} {w : World} {lo hi lo' hi' : Nat} {cv : Value} {c : Ch} (h : ChOwn e2 e1 w lo hi cv c) (h1 : lo' ≤ lo) (h2 : hi ≤ hi') : ChOwn e2 e1 w lo' hi' cv c := by
  obtain ⟨v, hv, hr⟩ := h
  exact ⟨v, hv, hr.wide h1 h2⟩
theorem below_drewN {B : Nat} {a w : World} (h : Below B a w) (n : Nat) : Below B a (w.drewN n) := h.trans ⟨rfl, rfl, rfl, Nat.le_refl _, fun _ _ => rfl⟩

/-- a block that lies there, as a whole -/
def Blk (w : World) (b : Nat) (c : Array Value) (t : TypeId) : Prop := w.heap[b]? = some (.cells c t (0, 0))
theorem Blk.cell {w : World} {b : Nat} {c : Array Value} {t : TypeId} (h : Blk w b c t) (i : Nat) : w.cell? ⟨b, i, none⟩ = c[i]? := by
  unfold Blk at h; simp [World.cell?, h]
theorem Blk.frozen {w : World} {b : Nat} {c : Array Value} {t : TypeId} (h : Blk w b c t) (i : Nat) : w.frozen? ⟨b, i, none⟩ = false := by
  unfold Blk at h; simp [World.frozen?, h]
theorem Blk.keep {w w' : World} {b B : Nat} {c : Array Value} {t : TypeId} (h : Blk w b c t) (hb : Below B w w') (hB : b < B) : Blk w' b c t := (hb.block b hB).trans h
theorem Blk.new (w : World) (c : Array Value) (t : TypeId) : Blk (w.alloc (.cells c t)) w.heap.size c t := heap_alloc_new w _
theorem Blk.alloc {w : World} {b : Nat} {c : Array Value} {t : TypeId} (h : Blk w b c t) (o : Obj) : Blk (w.alloc o) b c t := by
  have hb : b < w.heap.size := (Array.getElem?_eq_some_iff.1 h).1
  exact (Below.heap_alloc w o b hb).trans h
theorem Blk.set {w : World} {b : Nat} {c : Array Value} {t : TypeId} (h : Blk w b c t) (i : Nat) (u : Value) : Blk (w.setCell ⟨b, i, none⟩ u) b (c.setIfInBounds i u) t := by
  unfold Blk at *; simp [World.setCell, Array.getElem?_modify, h]
theorem Blk.setOther {w : World} {b : Nat} {c : Array Value} {t : TypeId} (h : Blk w b c t) {a : Addr} (ha : b ≠ a.block) (u : Value) : Blk (w.setCell a u) b c t :=
  (Below.heap_setCell w a u b ha).trans h
theorem Blk.lt {w : World} {b : Nat} {c : Array Value} {t : TypeId} (h : Blk w b c t) : b < w.heap.size := (Array.getElem?_eq_some_iff.1 h).1
theorem below1 (w : World) (a : Obj) : Below w.heap.size w (w.alloc a) := (Below.refl _ _).alloc (Nat.le_refl _) _
theorem below2 (w : World) (a b : Obj) : Below w.heap.size w ((w.alloc a).alloc b) := (below1 w a).alloc (by simp) _
theorem below3 (w : World) (a b c : Obj) : Below w.heap.size w (((w.alloc a).alloc b).alloc c) := (below2 w a b).alloc (by simp; omega) _
theorem below4 (w : World) (a b c d : Obj) : Below w.heap.size w ((((w.alloc a).alloc b).alloc c).alloc d) := (below3 w a b c).alloc (by simp; omega) _

/-- the blocks from lo up to hi are as they were -/
def SameOn (lo hi : Nat) (w w' : World) : Prop := ∀ k, lo ≤ k → k < hi → w'.heap[k]? = w.heap[k]?
theorem SameOn.refl (lo hi : Nat) (w : World) : SameOn lo hi w w := fun _ _ _ => rfl
theorem SameOn.trans {lo hi : Nat} {a b c : World} (h : SameOn lo hi a b) (k : SameOn lo hi b c) : SameOn lo hi a c := fun i h1 h2 => (k i h1 h2).trans (h i h1 h2)
theorem SameOn.set {lo hi : Nat} {w w' : World} (h : SameOn lo hi w w') {a : Addr} (ha : a.block < lo ∨ hi ≤ a.block) (u : Value) : SameOn lo hi w (w'.setCell a u) :=
  fun k h1 h2 => (Below.heap_setCell w' a u k (by omega)).trans (h k h1 h2)
theorem SameOn.alloc {lo hi : Nat} {w w' : World} (h : SameOn lo hi w w') (hh : hi ≤ w'.heap.size) (o : Obj) : SameOn lo hi w (w'.alloc o) :=
  fun k h1 h2 => (Below.heap_alloc w' o k (by omega)).trans (h k h1 h2)
theorem SameOn.drewN {lo hi : Nat} {w w' : World} (h : SameOn lo hi w w') (n : Nat) : SameOn lo hi w (w'.drewN n) := h
theorem SameOn.drew {lo hi : Nat} {w w' : World} (h : SameOn lo hi w w') : SameOn lo hi w w'.drew := h
theorem SameOn.of {lo hi B : Nat} {w w' : World} (h : Below B w w') (hB : hi ≤ B) : SameOn lo hi w w' := fun k _ h2 => h.block k (by omega)
theorem SameOn.mono {lo hi lo' hi' : Nat} {w w' : World} (h : SameOn lo hi w w') (h1 : lo ≤ lo') (h2 : hi' ≤ hi) : SameOn lo' hi' w w' := fun k a b => h k (by omega) (by omega)

theorem Own.same {w w' : World} {lo hi : Nat} {e : TypeId} {v : Value} {vs : List Value} (h : Own w lo hi e v vs) (hs : SameOn lo hi w w') : Own w' lo hi e v vs := by
  obtain ⟨ho, hm, hk⟩ := h
  refine ⟨⟨ho.1, ?_⟩, hm, hk⟩
  rcases ho.2 with hn | ⟨g, cap, cur, rfl, hg, hh, r⟩
  · exact Or.inl hn
  · exact Or.inr ⟨g, cap, cur, rfl, hg, by rw [hs g hg (hk g rfl)]; exact hh, r⟩
theorem OwnRows.same {e2 e1 : TypeId} {w w' : World} {lo hi : Nat} {v : Value} {xss : List (List Int)} (h : OwnRows e2 e1 w lo hi v xss) (hs : SameOn lo hi w w') : OwnRows e2 e1 w' lo hi v xss := by
  obtain ⟨rvs, ho, hl, hr, hd⟩ := h
  exact ⟨rvs, ho.same hs, hl, fun i hi => (hr i hi).same hs, hd⟩
theorem ChOwn.same {e2 e1 : TypeId} {w w' : World} {lo hi : Nat} {cv : Value} {c : Ch} (h : ChOwn e2 e1 w lo hi cv c) (hs : SameOn lo hi w w') : ChOwn e2 e1 w' lo hi cv c := by
  obtain ⟨v, hv, hr⟩ := h
  exact ⟨v, hv, hr.same hs⟩

/-- a new block of one cell, as the source of an append -/
theorem one_new (w : World) (x : Value) (t : TypeId) : ∀ j u, [x][j]? = some u → (w.alloc (.cells #[x] t)).cell? ((⟨w.heap.size, 0, none⟩ : Addr).add j) = some u := by
  intro j u hu
  cases j with
  | zero =>
    simp at hu
    subst hu
    simp only [Addr.add, if_true]
    rw [World.cell?_alloc_at _ _ _ _ rfl]
    rfl
  | succ j => simp at hu
end Go.Proofs.YtgaadcinhaphpaaDoor
