/- NumG: several texts in one (Mem, Dec, Num, Num2, Num3, Num4). Conditions: told in each. -/
import Derived.Test.YtiddhnnofpbopaaDoorRows
import Derived.WalkKit
import Derived.Deep.OwnRows
import Derived.Lib.Hide
import Derived.Deep.QuietTactic
import Derived.BigQuiet
import Derived.Laws.BytesArg
import Derived.Lib.AppendStr
import Derived.Deep.RegionWith
import Derived.Deep.DeepCutAuto
import Derived.IntWalk
/- Words for memory that slices of one-cell elements take: what reads as a list (Row, Ints, Rows2), what a call has made for itself (Own, OwnRows), and how both fare when the world grows. Conditions: none: plain lemmas. -/
namespace Go.Proofs.YtiddhnnofpbopaaDoor
open Go.RowKit Go.Deep
set_option linter.unusedVariables false

theorem ret_int {k : IntKind} {a b : Int} (h : a = b) : Ending.returned (.int k a) = .returned (.int k b) := by rw [h]
theorem ret_bool {a b : Bool} (h : a = b) : Ending.returned (.bool a) = .returned (.bool b) := by rw [h]
theorem maxLen_num : maxLen = 9223372036854775807 := rfl
theorem below_wt {a b c : World} (h : Below a.heap.size a b) (k : Below b.heap.size b c) : Below a.heap.size a c := h.trans (k.mono h.size)
theorem block_lt {w : World} {a : Addr} {v : Value} (h : w.cell? a = some v) : a.block < w.heap.size := World.block_lt_of_cell? w a h

/-- The slice value v reads in w as the list vs: one cell an element. -/
def Row (w : World) (v : Value) (vs : List Value) : Prop :=
  vs.length ≤ maxLen ∧ ∃ a cap, v = .slice a vs.length cap ∧ (vs.length ≤ cap ∧ cap ≤ maxLen) ∧ ∀ i, i < vs.length → ∃ b off, a = some ⟨b, off, none⟩ ∧ w.cell? ⟨b, off + i, none⟩ = some (vs.getD i undef)

theorem Row.keep {w w' : World} {v : Value} {vs : List Value} (h : Row w v vs) (hb : Below w.heap.size w w') : Row w' v vs := by
  obtain ⟨hm, a, cap, hv, hk, hc⟩ := h
  refine ⟨hm, a, cap, hv, hk, fun i hi => ?_⟩
  obtain ⟨b, off, ha, hcell⟩ := hc i hi
  exact ⟨b, off, ha, by rw [hb.cell (block_lt hcell)]; exact hcell⟩

/-- the walk's form: an index below the length leads to an address and to its cell -/
theorem Row.at {w : World} {v : Value} {vs : List Value} (h : Row w v vs) (hne : 0 < vs.length) :
    ∃ b off cap, v = .slice (some ⟨b, off, none⟩) vs.length cap ∧ b < w.heap.size ∧ ∀ i, i < vs.length → w.cell? ⟨b, off + i, none⟩ = some (vs.getD i undef) := by
  obtain ⟨hm, a, cap, hv, _, hc⟩ := h
  obtain ⟨b, off, ha, hcell⟩ := hc 0 hne
  subst ha
  refine ⟨b, off, cap, hv, block_lt hcell, fun i hi => ?_⟩
  obtain ⟨b', off', ha, hcell'⟩ := hc i hi
  cases ha
  exact hcell'

theorem Row.len {w : World} {v : Value} {vs : List Value} (h : Row w v vs) : ∃ a cap, v = .slice a vs.length cap := by
  obtain ⟨_, a, cap, hv, _⟩ := h
  exact ⟨a, cap, hv⟩

theorem Row.caps {w : World} {v : Value} {vs : List Value} (h : Row w v vs) : ∃ a cap, v = .slice a vs.length cap ∧ vs.length ≤ cap ∧ cap ≤ maxLen := by
  obtain ⟨_, a, cap, hv, hk, _⟩ := h
  exact ⟨a, cap, hv, hk⟩
/-- the first n elements, as 'v[:n]' -/
theorem Row.pre {w : World} {a : Option Addr} {len cap : Nat} {vs : List Value} (h : Row w (.slice a len cap) vs) (n : Nat) (hn : n ≤ vs.length) : Row w (.slice a n cap) (vs.take n) := by
  obtain ⟨hm, a', cap', hv, ⟨h1, h2⟩, hc⟩ := h
  simp only [Value.slice.injEq] at hv
  obtain ⟨rfl, rfl, rfl⟩ := hv
  have hl : (vs.take n).length = n := by simp; omega
  refine ⟨by omega, a, cap, by rw [hl], by omega, fun i hi => ?_⟩
  obtain ⟨b, off, ha, hcell⟩ := hc i (by omega)
  refine ⟨b, off, ha, ?_⟩
  rw [hcell]
  congr 1
  simp only [List.getD, List.getElem?_take]
  rw [if_pos (by omega)]

abbrev ints (xs : List Int) : List Value := xs.map (Value.int .i64)
theorem ints_getD (xs : List Int) (i : Nat) (h : i < xs.length) : (ints xs).getD i undef = .int .i64 (xs.getD i 0) := by
  simp [ints, List.getD, h]

/-- v reads as the int64s xs -/
def Ints (w : World) (v : Value) (xs : List Int) : Prop := Row w v (ints xs)
theorem Ints.keep {w w' : World} {v : Value} {xs : List Int} (h : Ints w v xs) (hb : Below w.heap.size w w') : Ints w' v xs := Row.keep h hb
theorem Ints.len {w : World} {v : Value} {xs : List Int} (h : Ints w v xs) : xs.length ≤ maxLen ∧ ∃ a cap, v = .slice a xs.length cap := by
  have := h.1
  obtain ⟨a, cap, hv⟩ := Row.len h
  exact ⟨by simpa [ints] using this, a, cap, by simpa [ints] using hv⟩
theorem Ints.caps {w : World} {v : Value} {xs : List Int} (h : Ints w v xs) : ∃ a cap, v = .slice a xs.length cap ∧ xs.length ≤ cap ∧ cap ≤ maxLen := by
  have := Row.caps h
  simpa [ints] using this
theorem Ints.pre {w : World} {a : Option Addr} {len cap : Nat} {xs : List Int} (h : Ints w (.slice a len cap) xs) (n : Nat) (hn : n ≤ xs.length) : Ints w (.slice a n cap) (xs.take n) := by
  have := Row.pre h n (by simpa [ints] using hn)
  simpa [Ints, ints, List.map_take] using this
theorem Ints.at {w : World} {v : Value} {xs : List Int} (h : Ints w v xs) (hne : 0 < xs.length) :
    ∃ b off cap, v = .slice (some ⟨b, off, none⟩) xs.length cap ∧ b < w.heap.size ∧ ∀ i, i < xs.length → w.cell? ⟨b, off + i, none⟩ = some (.int .i64 (xs.getD i 0)) := by
  obtain ⟨b, off, cap, hv, hb, hc⟩ := Row.at h (by simpa [ints] using hne)
  refine ⟨b, off, cap, by simpa [ints] using hv, hb, fun i hi => ?_⟩
  rw [hc i (by simpa [ints] using hi), ints_getD xs i hi]

/-- v reads as the rows xss -/
def Rows2 (w : World) (v : Value) (xss : List (List Int)) : Prop :=
  ∃ rvs, Row w v rvs ∧ rvs.length = xss.length ∧ ∀ i, i < xss.length → Ints w (rvs.getD i undef) (xss.getD i [])
theorem Rows2.keep {w w' : World} {v : Value} {xss : List (List Int)} (h : Rows2 w v xss) (hb : Below w.heap.size w w') : Rows2 w' v xss := by
  obtain ⟨rvs, hr, hl, hi⟩ := h
  exact ⟨rvs, hr.keep hb, hl, fun i h => (hi i h).keep hb⟩
theorem Rows2.len {w : World} {v : Value} {xss : List (List Int)} (h : Rows2 w v xss) : xss.length ≤ maxLen ∧ ∃ a cap, v = .slice a xss.length cap := by
  obtain ⟨rvs, hr, hl, _⟩ := h
  have := hr.1
  obtain ⟨a, cap, hv⟩ := hr.len
  exact ⟨by omega, a, cap, by rw [← hl]; exact hv⟩
theorem Rows2.at {w : World} {v : Value} {xss : List (List Int)} (h : Rows2 w v xss) (hne : 0 < xss.length) :
    ∃ (b off cap : Nat) (rv : Nat → Value), v = .slice (some ⟨b, off, none⟩) xss.length cap ∧ b < w.heap.size ∧ ∀ i, i < xss.length → w.cell? ⟨b, off + i, none⟩ = some (rv i) ∧ Ints w (rv i) (xss.getD i []) := by
  obtain ⟨rvs, hr, hl, hi⟩ := h
  obtain ⟨b, off, cap, hv, hb, hc⟩ := hr.at (by omega)
  exact ⟨b, off, cap, fun i => rvs.getD i undef, by rw [← hl]; exact hv, hb, fun i h => ⟨hc i (by omega), hi i h⟩⟩

/-- A chain (also a coupled chain): the numbers and the rows. -/
structure Ch where
  n : Int
  t : Int
  w : List (List Int)

/-- the value cv reads as the chain c -/
def ChR (w : World) (cv : Value) (c : Ch) : Prop := ∃ v, cv = .agg #[.int .i64 c.n, .int .i64 c.t, v] ∧ Rows2 w v c.w
theorem ChR.keep {w w' : World} {cv : Value} {c : Ch} (h : ChR w cv c) (hb : Below w.heap.size w w') : ChR w' cv c := by
  obtain ⟨v, hv, hr⟩ := h
  exact ⟨v, hv, hr.keep hb⟩

/-- how many numbers rows hold -/
def total : List (List Int) → Nat
  | [] => 0
  | x :: r => x.length + total r
theorem total_append (a b : List (List Int)) : total (a ++ b) = total a + total b := by
  induction a with
  | nil => simp [total]
  | cons x r ih => simp only [List.cons_append, total, ih]; omega
theorem total_take_succ (xss : List (List Int)) (k : Nat) (h : k < xss.length) : total (xss.take (k + 1)) = total (xss.take k) + (xss.getD k []).length := by
  rw [List.take_add_one, List.getElem?_eq_getElem h, total_append]
  simp [List.getD, h, total]
theorem total_take_le (xss : List (List Int)) (k : Nat) : total (xss.take k) ≤ total xss := by
  have : total xss = total (xss.take k) + total (xss.drop k) := by rw [← total_append, List.take_append_drop]
  omega
theorem total_take_all (xss : List (List Int)) : total (xss.take xss.length) = total xss := by rw [List.take_length]
theorem total_row_le (xss : List (List Int)) (k : Nat) (h : k < xss.length) : (xss.getD k []).length ≤ total xss := by
  have h1 := total_take_succ xss k h
  have h2 := total_take_le xss (k + 1)
  omega

/-! ### what a call has made -/

/-- v is nil and vs empty; or v lies at the head of a block g, lo ≤ g < hi, of cells of the type e, not frozen, whose first cells are vs. -/
def Own (w : World) (lo hi : Nat) (e : TypeId) (v : Value) (vs : List Value) : Prop :=
  w.ownsRow lo e 1 v vs.length vs ∧ vs.length ≤ maxLen ∧ ∀ k, v.ownBlock = some k → k < hi

theorem Own.of {w : World} {lo hi : Nat} {e : TypeId} {v : Value} {n : Nat} {vs : List Value} (h : w.ownsRow lo e 1 v n vs) (hh : w.heap.size ≤ hi) : Own w lo hi e v vs := by
  have hl : vs.length = n := by simpa using h.1
  subst hl
  refine ⟨h, ?_, fun k hk => Nat.lt_of_lt_of_le (h.lt k hk).2 hh⟩
  rcases h.2 with ⟨_, h0⟩ | ⟨g, cap, cur, _, _, _, h1, h2, _⟩ <;> omega

theorem Own.row {w : World} {lo hi : Nat} {e : TypeId} {v : Value} {vs : List Value} (h : Own w lo hi e v vs) : Row w v vs := by
  obtain ⟨ho, hm, _⟩ := h
  refine ⟨hm, ?_⟩
  rcases ho.2 with ⟨hv, h0⟩ | ⟨g, cap, cur, rfl, hg, hh, hn, _, hs, ht⟩
  · exact ⟨none, 0, by rw [hv, h0], ⟨by omega, by unfold maxLen; omega⟩, fun i hi => by omega⟩
  · refine ⟨some ⟨g, 0, none⟩, cap, rfl, ⟨hn, by assumption⟩, fun i hi => ⟨g, 0, rfl, ?_⟩⟩
    have := ho.cellAt i (by omega)
    simp only [Nat.zero_add]
    rw [this]
    simp [List.getD, hi]

theorem Own.keep {w w' : World} {lo hi B : Nat} {e : TypeId} {v : Value} {vs : List Value} (h : Own w lo hi e v vs) (hB : hi ≤ B) (hb : Below B w w') : Own w' lo hi e v vs := by
  obtain ⟨ho, hm, hk⟩ := h
  refine ⟨⟨ho.1, ?_⟩, hm, hk⟩
  rcases ho.2 with hn | ⟨g, cap, cur, rfl, hg, hh, r⟩
  · exact Or.inl hn
  · exact Or.inr ⟨g, cap, cur, rfl, hg, by rw [hb.block g (by have := hk g rfl; omega)]; exact hh, r⟩

theorem Own.wide {w : World} {lo hi lo' hi' : Nat} {e : TypeId} {v : Value} {vs : List Value} (h : Own w lo hi e v vs) (h1 : lo' ≤ lo) (h2 : hi ≤ hi') : Own w lo' hi' e v vs := by
  obtain ⟨ho, hm, hk⟩ := h
  refine ⟨⟨ho.1, ?_⟩, hm, fun k h => Nat.lt_of_lt_of_le (hk k h) h2⟩
  rcases ho.2 with hn | ⟨g, cap, cur, hv, hg, r⟩
  · exact Or.inl hn
  · exact Or.inr ⟨g, cap, cur, hv, by omega, r⟩

/-- a store beside leaves it -/
theorem Own.setOther {w : World} {lo hi : Nat} {e : TypeId} {v : Value} {vs : List Value} (h : Own w lo hi e v vs) {a : Addr} (ha : v.ownBlock ≠ some a.block) (u : Value) : Own (w.setCell a u) lo hi e v vs := by
  obtain ⟨ho, hm, hk⟩ := h
  refine ⟨⟨ho.1, ?_⟩, hm, hk⟩
  rcases ho.2 with hn | ⟨g, cap, cur, rfl, hg, hh, r⟩
  · exact Or.inl hn
  · refine Or.inr ⟨g, cap, cur, rfl, hg, ?_, r⟩
    rw [Below.heap_setCell _ _ _ _ (by intro e; apply ha; simp [Value.ownBlock, e])]
    exact hh

theorem Own.alloc {w : World} {lo hi : Nat} {e : TypeId} {v : Value} {vs : List Value} (h : Own w lo hi e v vs) (o : Obj) : Own (w.alloc o) lo hi e v vs := ⟨h.1.alloc o, h.2.1, h.2.2⟩
theorem Own.drew {w : World} {lo hi : Nat} {e : TypeId} {v : Value} {vs : List Value} (h : Own w lo hi e v vs) : Own w.drew lo hi e v vs := ⟨h.1.drew, h.2.1, h.2.2⟩

/-- where there is an element: its block -/
theorem Own.at {w : World} {lo hi : Nat} {e : TypeId} {v : Value} {vs : List Value} (h : Own w lo hi e v vs) (hne : 0 < vs.length) :
    ∃ g cap, v = .slice (some ⟨g, 0, none⟩) vs.length cap ∧ lo ≤ g ∧ g < hi ∧ g < w.heap.size ∧ (∀ i, i < vs.length → w.cell? ⟨g, i, none⟩ = some (vs.getD i undef)) ∧ ∀ i, w.frozen? ⟨g, i, none⟩ = false := by
  obtain ⟨ho, hm, hk⟩ := h
  have ho' := ho
  rcases ho.2 with ⟨_, h0⟩ | ⟨g, cap, cur, rfl, hg, hh, hn, _, hs, ht⟩
  · omega
  · refine ⟨g, cap, rfl, hg, hk g rfl, (ho'.lt g rfl).2, fun i hi => ?_, fun i => ho'.frozenAt i⟩
    rw [ho'.cellAt i (by omega)]
    simp [List.getD, hi]

/-- a store into it -/
theorem Own.set {w : World} {lo hi : Nat} {e : TypeId} {g cap n : Nat} {vs : List Value} (h : Own w lo hi e (.slice (some ⟨g, 0, none⟩) n cap) vs) (i : Nat) (u : Value) :
    Own (w.setCell ⟨g, i, none⟩ u) lo hi e (.slice (some ⟨g, 0, none⟩) n cap) (vs.set i u) := by
  obtain ⟨ho, hm, hk⟩ := h
  rcases ho.2 with ⟨hv, h0⟩ | ⟨g', cap', cur, hv, hg, hh, hn, hc, hs, ht⟩
  · cases hv
  · cases hv
    refine ⟨⟨by simp, Or.inr ⟨g, cap, cur.setIfInBounds i u, by rw [List.length_set], hg, ?_, by simpa using hn, hc, by simpa using hs, ?_⟩⟩, by simpa using hm, hk⟩
    · simp [World.setCell, Array.getElem?_modify, hh]
    · simp only [Array.toList_setIfInBounds, Nat.mul_one, List.length_set] at ht ⊢
      rw [List.take_set, ht]

theorem Own.made (w : World) (z : Value) (n : Nat) (e : TypeId) (hm : n ≤ maxLen) :
    Own (w.alloc (.cells (madeCells #[z] n) e)) w.heap.size (w.heap.size + 1) e (.slice (some ⟨w.heap.size, 0, none⟩) n n) (List.replicate n z) := by
  have hs : (madeCells #[z] n).size = n := size_madeCells _ _
  refine ⟨⟨by simp, Or.inr ⟨w.heap.size, n, _, by rw [List.length_replicate], Nat.le_refl _, heap_alloc_new w _, by simp, hm, by simp [hs], ?_⟩⟩, by simpa using hm, ?_⟩
  · rw [toList_madeCells_one]; simp
  · intro k hk; simp [Value.ownBlock] at hk; omega

/-- rows of numbers that a call has made: each in a block of its own -/
def OwnRows (e2 e1 : TypeId) (w : World) (lo hi : Nat) (v : Value) (xss : List (List Int)) : Prop :=
  ∃ rvs, Own w lo hi e2 v rvs ∧ rvs.length = xss.length ∧ (∀ i, i < xss.length → Own w lo hi e1 (rvs.getD i undef) (ints (xss.getD i []))) ∧
    (∀ i, i < xss.length → ∀ k, (rvs.getD i undef).ownBlock = some k → v.ownBlock ≠ some k) ∧
    (∀ i j, i < xss.length → j < xss.length → i ≠ j → ∀ k, (rvs.getD i undef).ownBlock = some k → (rvs.getD j undef).ownBlock ≠ some k)

theorem OwnRows.rows {e2 e1 : TypeId} {w : World} {lo hi : Nat} {v : Value} {xss : List (List Int)} (h : OwnRows e2 e1 w lo hi v xss) : Rows2 w v xss := by
  obtain ⟨rvs, ho, hl, hr, _⟩ := h
  exact ⟨rvs, ho.row, hl, fun i hi => (hr i hi).row⟩
theorem OwnRows.keep {e2 e1 : TypeId} {w w' : World} {lo hi B : Nat} {v : Value} {xss : List (List Int)} (h : OwnRows e2 e1 w lo hi v xss) (hB : hi ≤ B) (hb : Below B w w') : OwnRows e2 e1 w' lo hi v xss := by
  obtain ⟨rvs, ho, hl, hr, hd⟩ := h
  exact ⟨rvs, ho.keep hB hb, hl, fun i hi => (hr i hi).keep hB hb, hd⟩
theorem OwnRows.wide {e2 e1 : TypeId} {w : World} {lo hi lo' hi' : Nat} {v : Value} {xss : List (List Int)} (h : OwnRows e2 e1 w lo hi v xss) (h1 : lo' ≤ lo) (h2 : hi ≤ hi') : OwnRows e2 e1 w lo' hi' v xss := by
  obtain ⟨rvs, ho, hl, hr, hd⟩ := h
  exact ⟨rvs, ho.wide h1 h2, hl, fun i hi => (hr i hi).wide h1 h2, hd⟩

/-- a chain that a call has made -/
def ChOwn (e2 e1 : TypeId) (w : World) (lo hi : Nat) (cv : Value) (c : Ch) : Prop := ∃ v, cv = .agg #[.int .i64 c.n, .int .i64 c.t, v] ∧ OwnRows e2 e1 w lo hi v c.w
theorem ChOwn.ch {e2 e1 : TypeId} {w : World} {lo hi : Nat} {cv : Value} {c : Ch} (h : ChOwn e2 e1 w lo hi cv c) : ChR w cv c := by
  obtain ⟨v, hv, hr⟩ := h
  exact ⟨v, hv, hr.rows⟩
theorem ChOwn.keep {e2 e1 : TypeId} {w w' : World} {lo hi B : Nat} {cv : Value} {c : Ch} (h : ChOwn e2 e1 w lo hi cv c) (hB : hi ≤ B) (hb : Below B w w') : ChOwn e2 e1 w' lo hi cv c := by
  obtain ⟨v, hv, hr⟩ := h
  exact ⟨v, hv, hr.keep hB hb⟩
theorem ChOwn.wide {e2 e1 : TypeId} {w : World} {lo hi lo' hi' : Nat} {cv : Value} {c : Ch} (h : ChOwn e2 e1 w lo hi cv c) (h1 : lo' ≤ lo) (h2 : hi ≤ hi') : ChOwn e2 e1 w lo' hi' cv c := by
  obtain ⟨v, hv, hr⟩ := h
  exact ⟨v, hv, hr.wide h1 h2⟩
theorem below_drewN {B : Nat} {a w : World} (h : Below B a w) (n : Nat) : Below B a (w.drewN n) := h.trans ⟨rfl, rfl, rfl, Nat.le_refl _, fun _ _ => rfl⟩

/-- a block that lies there, as a whole -/
def Blk (w : World) (b : Nat) (c : Array Value) (t : TypeId) : Prop := w.heap[b]? = some (.cells c t (0, 0))
theorem Blk.cell {w : World} {b : Nat} {c : Array Value} {t : TypeId} (h : Blk w b c t) (i : Nat) : w.cell? ⟨b, i, none⟩ = c[i]? := by
  unfold Blk at h; simp [World.cell?, h]
theorem Blk.frozen {w : World} {b : Nat} {c : Array Value} {t : TypeId} (h : Blk w b c t) (i : Nat) : w.frozen? ⟨b, i, none⟩ = false := by
  unfold Blk at h; simp [World.frozen?, h]
theorem Blk.keep {w w' : World} {b B : Nat} {c : Array Value} {t : TypeId} (h : Blk w b c t) (hb : Below B w w') (hB : b < B) : Blk w' b c t := (hb.block b hB).trans h
theorem Blk.new (w : World) (c : Array Value) (t : TypeId) : Blk (w.alloc (.cells c t)) w.heap.size c t := heap_alloc_new w _
theorem Blk.alloc {w : World} {b : Nat} {c : Array Value} {t : TypeId} (h : Blk w b c t) (o : Obj) : Blk (w.alloc o) b c t := by
  have hb : b < w.heap.size := (Array.getElem?_eq_some_iff.1 h).1
  exact (Below.heap_alloc w o b hb).trans h
theorem Blk.set {w : World} {b : Nat} {c : Array Value} {t : TypeId} (h : Blk w b c t) (i : Nat) (u : Value) : Blk (w.setCell ⟨b, i, none⟩ u) b (c.setIfInBounds i u) t := by
  unfold Blk at *; simp [World.setCell, Array.getElem?_modify, h]
theorem Blk.setOther {w : World} {b : Nat} {c : Array Value} {t : TypeId} (h : Blk w b c t) {a : Addr} (ha : b ≠ a.block) (u : Value) : Blk (w.setCell a u) b c t :=
  (Below.heap_setCell w a u b ha).trans h
theorem Blk.lt {w : World} {b : Nat} {c : Array Value} {t : TypeId} (h : Blk w b c t) : b < w.heap.size := (Array.getElem?_eq_some_iff.1 h).1
theorem below1 (w : World) (a : Obj) : Below w.heap.size w (w.alloc a) := (Below.refl _ _).alloc (Nat.le_refl _) _
theorem below2 (w : World) (a b : Obj) : Below w.heap.size w ((w.alloc a).alloc b) := (below1 w a).alloc (by simp) _
theorem below3 (w : World) (a b c : Obj) : Below w.heap.size w (((w.alloc a).alloc b).alloc c) := (below2 w a b).alloc (by simp; omega) _
theorem below4 (w : World) (a b c d : Obj) : Below w.heap.size w ((((w.alloc a).alloc b).alloc c).alloc d) := (below3 w a b c).alloc (by simp; omega) _

/-- the blocks from lo up to hi are as they were -/
def SameOn (lo hi : Nat) (w w' : World) : Prop := ∀ k, lo ≤ k → k < hi → w'.heap[k]? = w.heap[k]?
theorem SameOn.refl (lo hi : Nat) (w : World) : SameOn lo hi w w := fun _ _ _ => rfl
theorem SameOn.trans {lo hi : Nat} {a b c : World} (h : SameOn lo hi a b) (k : SameOn lo hi b c) : SameOn lo hi a c := fun i h1 h2 => (k i h1 h2).trans (h i h1 h2)
theorem SameOn.set {lo hi : Nat} {w w' : World} (h : SameOn lo hi w w') {a : Addr} (ha : a.block < lo ∨ hi ≤ a.block) (u : Value) : SameOn lo hi w (w'.setCell a u) :=
  fun k h1 h2 => (Below.heap_setCell w' a u k (by omega)).trans (h k h1 h2)
theorem SameOn.alloc {lo hi : Nat} {w w' : World} (h : SameOn lo hi w w') (hh : hi ≤ w'.heap.size) (o : Obj) : SameOn lo hi w (w'.alloc o) :=
  fun k h1 h2 => (Below.heap_alloc w' o k (by omega)).trans (h k h1 h2)
theorem SameOn.drewN {lo hi : Nat} {w w' : World} (h : SameOn lo hi w w') (n : Nat) : SameOn lo hi w (w'.drewN n) := h
theorem SameOn.drew {lo hi : Nat} {w w' : World} (h : SameOn lo hi w w') : SameOn lo hi w w'.drew := h
theorem SameOn.of {lo hi B : Nat} {w w' : World} (h : Below B w w') (hB : hi ≤ B) : SameOn lo hi w w' := fun k _ h2 => h.block k (by omega)
theorem SameOn.mono {lo hi lo' hi' : Nat} {w w' : World} (h : SameOn lo hi w w') (h1 : lo ≤ lo') (h2 : hi' ≤ hi) : SameOn lo' hi' w w' := fun k a b => h k (by omega) (by omega)

theorem Own.same {w w' : World} {lo hi : Nat} {e : TypeId} {v : Value} {vs : List Value} (h : Own w lo hi e v vs) (hs : SameOn lo hi w w') : Own w' lo hi e v vs := by
  obtain ⟨ho, hm, hk⟩ := h
  refine ⟨⟨ho.1, ?_⟩, hm, hk⟩
  rcases ho.2 with hn | ⟨g, cap, cur, rfl, hg, hh, r⟩
  · exact Or.inl hn
  · exact Or.inr ⟨g, cap, cur, rfl, hg, by rw [hs g hg (hk g rfl)]; exact hh, r⟩
theorem OwnRows.same {e2 e1 : TypeId} {w w' : World} {lo hi : Nat} {v : Value} {xss : List (List Int)} (h : OwnRows e2 e1 w lo hi v xss) (hs : SameOn lo hi w w') : OwnRows e2 e1 w' lo hi v xss := by
  obtain ⟨rvs, ho, hl, hr, hd⟩ := h
  exact ⟨rvs, ho.same hs, hl, fun i hi => (hr i hi).same hs, hd⟩
theorem ChOwn.same {e2 e1 : TypeId} {w w' : World} {lo hi : Nat} {cv : Value} {c : Ch} (h : ChOwn e2 e1 w lo hi cv c) (hs : SameOn lo hi w w') : ChOwn e2 e1 w' lo hi cv c := by
  obtain ⟨v, hv, hr⟩ := h
  exact ⟨v, hv, hr.same hs⟩

/-- a new block of one cell, as the source of an append -/
theorem one_new (w : World) (x : Value) (t : TypeId) : ∀ j u, [x][j]? = some u → (w.alloc (.cells #[x] t)).cell? ((⟨w.heap.size, 0, none⟩ : Addr).add j) = some u := by
  intro j u hu
  cases j with
  | zero =>
    simp at hu
    subst hu
    simp only [Addr.add, if_true]
    rw [World.cell?_alloc_at _ _ _ _ rfl]
    rfl
  | succ j => simp at hu
end Go.Proofs.YtiddhnnofpbopaaDoor

/- Decimal of the specification, for any number below 10^18. Conditions: told by the code. -/
namespace Go.Proofs.YtiddhnnofpbopaaDoor
open Go.RowKit Go.Deep
set_option linter.unusedVariables false

/-- a number in decimal -/
def decW (n : Nat) : List UInt8 := if h : n < 10 then [UInt8.ofNat (48 + n)] else decW (n / 10) ++ [UInt8.ofNat (48 + n % 10)]
termination_by n
decreasing_by omega
def decS (n : Nat) : ByteArray := ⟨(decW n).toArray⟩
theorem decW_small {n : Nat} (h : n < 10) : decW n = [UInt8.ofNat (48 + n)] := by rw [decW, dif_pos h]
theorem decW_more {n : Nat} (h : ¬ n < 10) : decW n = decW (n / 10) ++ [UInt8.ofNat (48 + n % 10)] := by rw [decW, dif_neg h]
theorem decS_join {n : Nat} (h : ¬ n < 10) : decS (n / 10) ++ decS (n % 10) = decS n := by
  have h2 : n % 10 < 10 := Nat.mod_lt _ (by omega)
  simp only [decS, ByteArray.mk_append_mk]
  rw [decW_more h, decW_small h2]
theorem decW_len : ∀ (f n : Nat), n < 10 ^ (f + 1) → (decW n).length ≤ f + 1
  | 0, n, h => by rw [decW_small (by omega)]; simp
  | f + 1, n, h => by
    by_cases h1 : n < 10
    · rw [decW_small h1]; simp
    · rw [decW_more h1, List.length_append]
      have := decW_len f (n / 10) (by rw [Nat.div_lt_iff_lt_mul (by omega), ← Nat.pow_succ]; exact h)
      simp; omega
theorem decS_size {n : Nat} (h : n < 10 ^ 18) : (decS n).size ≤ 18 := by
  have := decW_len 17 n h
  simpa [decS, ByteArray.size] using this

theorem dc_byte {P : Program} (u : World) (src dst e : TypeId) (hs : P.underlying src = some (.slice e)) (he : P.underlying e = some (.int .u8)) (hd : P.underlying dst = some .string) (b c n : Nat) (hn : n < 10) (hc : u.cell? ⟨b, 0, none⟩ = some (.int .u8 (48 + (n : Int)))) :
    (convert src dst (.slice (some ⟨b, 0, none⟩) 1 c)).run P u = .ok (.string (decS n)) u := by
  have h1 : ((UInt8.ofNat (48 + n)).toNat : Int) = 48 + (n : Int) := by
    rw [UInt8.toNat_ofNat']; omega
  have := run_convert_bytes_back (P := P) u src dst e ⟨b, 0, none⟩ c [UInt8.ofNat (48 + n)] hs he hd (fun j hj => by
    have : j = 0 := by simpa using hj
    subst this
    rw [List.getElem_cons_zero, h1]
    simpa [Addr.add] using hc)
  have e1 : decS n = ⟨[UInt8.ofNat (48 + n)].toArray⟩ := by rw [decS, decW_small hn]
  rw [e1]
  exact this
theorem dc_back {a w1 : World} {p : Addr} {v : Value} (b : Below a.heap.size a w1) (h1 : p.block < a.heap.size) (h2 : a.cell? p = some v) : w1.cell? p = some v := by rw [b.cell h1]; exact h2
theorem dc_back1 {w w1 : World} {v : Value} {t : TypeId} (b : Below (w.alloc (.cells #[v] t)).drew.heap.size (w.alloc (.cells #[v] t)).drew w1) : w1.cell? ⟨w.heap.size, 0, none⟩ = some v := dc_back b (by simp) (by simp)
theorem dc_back0 {w w1 : World} {v : Value} {t : TypeId} (b : Below (w.alloc (.cells #[v] t)).heap.size (w.alloc (.cells #[v] t)) w1) : w1.cell? ⟨w.heap.size, 0, none⟩ = some v := dc_back b (by simp) (by simp)
theorem dc_top (u : World) (v : Value) (t : TypeId) : (u.alloc (.cells #[v] t)).cell? ⟨u.heap.size, 0, none⟩ = some v := by simp
theorem dc_fin1 {w w1 : World} {o : Obj} (b : Below w.drew.heap.size w.drew w1) : Below w.heap.size w (w1.alloc o) :=
  Below.alloc ((Below.drew (Below.refl w.heap.size w)).trans b) b.size o
theorem dc_fin2 {w w1 : World} {o : Obj} (b : Below (w.alloc o).drew.heap.size (w.alloc o).drew w1) : Below w.heap.size w w1 :=
  ((below1 w o).drew).trans (b.mono (by simp))

set_option maxRecDepth 100000 in
set_option maxHeartbeats 4000000 in
theorem Dec_one (n : Nat) (w : World) (h : n < 10) : Calls Tryd.prog 29 #[.int .i64 (n : Int)] w fun e w' => e = .returned (.string (decS n)) ∧ Below w.heap.size w w' := by
  have hc := dc_byte (P := Tryd.prog) (w.alloc (.cells #[.int .u8 (48 + (n : Int))] 5)) 56 9 5 Tryd.underlying56 Tryd.underlying5 (by kernel_rfl) w.heap.size 1 n h (by simp)
  generalize decS n = s at hc ⊢
  go_enter Tryd.func29, Tryd.ntmps29
  go_wp2
  go_ret
  exact ⟨rfl, below1 _ _⟩

set_option maxRecDepth 100000 in
set_option maxHeartbeats 8000000 in
theorem Dec_step (n : Nat) (h : n < 1000000000000000000) (h1 : ¬ n < 10)
    (hone0 : ∀ w, Calls Tryd.prog 29 #[.int .i64 ((n / 10 : Nat) : Int)] w fun e w' => e = .returned (.string (decS (n / 10))) ∧ Below w.heap.size w w') (w : World) :
    Calls Tryd.prog 29 #[.int .i64 (n : Int)] w fun e w' => e = .returned (.string (decS n)) ∧ Below w.heap.size w w' := by
  have hcg := Lib.hid (fun u b c hc => dc_byte (P := Tryd.prog) u 56 9 5 Tryd.underlying56 Tryd.underlying5 (by kernel_rfl) b c (n % 10) (by omega) hc)
  have h2 := Lib.hid (decS_join h1)
  have hq : (n : Int).tdiv 10 = ((n / 10 : Nat) : Int) := by rw [Int.tdiv_eq_ediv_of_nonneg (by omega)]; omega
  have hr : (n : Int).tmod 10 = ((n % 10 : Nat) : Int) := by rw [Int.tmod_eq_emod_of_nonneg (by omega)]; omega
  have hge : (10 : Int) ≤ (n : Int) := by omega
  have hm : n % 10 < 10 := by omega
  have hqz : n / 10 < 1000000000000000000 := by omega
  have hs : ¬ 9223372036854775807 < (decS (n / 10)).size + (decS (n % 10)).size := by
    have a1 := decS_size (n := n / 10) (Nat.lt_of_lt_of_le hqz (by decide))
    have a2 := decS_size (n := n % 10) (Nat.lt_of_lt_of_le hm (by decide))
    omega
  generalize n / 10 = q at *
  generalize n % 10 = d at *
  obtain ⟨D, hD⟩ : ∃ D : Int, D = (d : Int) := ⟨_, rfl⟩
  obtain ⟨Q, hQ⟩ : ∃ Q : Int, Q = (q : Int) := ⟨_, rfl⟩
  obtain ⟨M, hM⟩ : ∃ M : Int, M = (n : Int) := ⟨_, rfl⟩
  have d0 : 0 ≤ D := by omega
  have d1 : D ≤ 9 := by omega
  rw [← hD] at hcg hr
  rw [← hQ] at hq hone0
  rw [← hM] at hq hr hge ⊢
  have hone' := Lib.hid hone0
  have q1 : 0 ≤ Q ∧ Q < 1000000000000000000 := by omega
  clear hD hQ hM hm hone0 h h1 hqz
  have hw2 : IntKind.u8.wrap (48 + D) = 48 + D := IntWalk.u8_in _ (by omega)
  have hw1 : IntKind.i64.wrap (48 + D) = 48 + D := by rw [IntKind.wrap_i64]; omega
  have hw3 : IntKind.i64.wrap Q = Q := by rw [IntKind.wrap_i64]; omega
  generalize decS q = sq at *
  generalize decS d = sd at *
  generalize decS n = sn at *
  have hcA := hcg.out (w.alloc (.cells #[.int .u8 (48 + D)] 5)).drew w.heap.size 1 (by simp)
  go_enter Tryd.func29, Tryd.ntmps29
  go_upto_region 2 with fail
  go_region_with ((go_at_call 29; refine (hone'.out _).mono ?_; rintro e w1 ⟨rfl, b1⟩; (first | (have hcC := hcg.out w1 w.heap.size 1 (dc_back1 b1)) | (have hcC := hcg.out w1 w.heap.size 1 (dc_back0 b1)) | (have hcB := hcg.out (w1.alloc (.cells #[.int .u8 (48 + D)] 5)) w1.heap.size 1 (dc_top w1 _ _)))))
  all_goals go_wp2
  all_goals go_ret
  all_goals refine ⟨show Ending.returned (.string (sq ++ sd)) = _ by rw [h2.out], ?_⟩
  all_goals (first | exact dc_fin2 b1 | exact dc_fin1 b1)

theorem Dec_any : ∀ (f n : Nat), n < f → n < 1000000000000000000 → ∀ w, Calls Tryd.prog 29 #[.int .i64 (n : Int)] w fun e w' => e = .returned (.string (decS n)) ∧ Below w.heap.size w w'
  | 0, n, h, _, _ => absurd h (Nat.not_lt_zero n)
  | f + 1, n, h, h9, w => by
    by_cases h1 : n < 10
    · exact Dec_one n w h1
    · exact Dec_step n h9 h1 (fun u => Dec_any f (n / 10) (by omega) (by omega) u) w

/-- any number below 10^18 -/
theorem Dec_all (n : Nat) (w : World) (h : n < 1000000000000000000) : Calls Tryd.prog 29 #[.int .i64 (n : Int)] w fun e w' => e = .returned (.string (decS n)) ∧ Below w.heap.size w w' := Dec_any (n + 1) n (Nat.lt_succ_self n) h w
end Go.Proofs.YtiddhnnofpbopaaDoor

/- Plain lemmas on the digits of whole numbers in a base, and on carries: no program here. Conditions: the base is 2 or more, where that is said. -/
namespace Go.Proofs.YtiddhnnofpbopaaDoor
set_option linter.unusedVariables false

/-- the k-th digit -/
def dgt (B n k : Nat) : Nat := n / B ^ k % B
def dlenF (B : Nat) : Nat → Nat → Nat
  | 0, _ => 0
  | f + 1, n => if n = 0 then 0 else dlenF B f (n / B) + 1
/-- how many digits -/
def dlen (B n : Nat) : Nat := dlenF B n n
/-- so many digits, the lowest one first -/
def dgs (B n L : Nat) : List Nat := (List.range L).map (dgt B n)
theorem dgs_length (B n L : Nat) : (dgs B n L).length = L := by simp [dgs]
theorem dgs_succ (B n L : Nat) : dgs B n (L + 1) = dgs B n L ++ [dgt B n L] := by simp [dgs, List.range_succ]
theorem dgt_lt {B : Nat} (hB : 2 ≤ B) (n k : Nat) : dgt B n k < B := Nat.mod_lt _ (by omega)
theorem pow_pos' {B : Nat} (hB : 2 ≤ B) (k : Nat) : 0 < B ^ k := Nat.pow_pos (by omega)
theorem pow_succ' (B k : Nat) : B ^ (k + 1) = B ^ k * B := Nat.pow_succ _ _

theorem dlenF_spec {B : Nat} (hB : 2 ≤ B) : ∀ (f n : Nat), n ≤ f → n < B ^ dlenF B f n ∧ ∀ L, n < B ^ L → dlenF B f n ≤ L
  | 0, n, h => by
      obtain rfl : n = 0 := by omega
      simp [dlenF]
  | f + 1, n, h => by
      by_cases h0 : n = 0
      · subst h0; simp [dlenF]
      · have hd : n / B < n := Nat.div_lt_self (by omega) (by omega)
        obtain ⟨h1, h2⟩ := dlenF_spec hB f (n / B) (by omega)
        simp only [dlenF, h0, if_false]
        refine ⟨?_, fun L hL => ?_⟩
        · rw [pow_succ']
          exact (Nat.div_lt_iff_lt_mul (by omega)).1 h1
        · cases L with
          | zero => simp at hL; omega
          | succ L =>
            rw [pow_succ'] at hL
            have := h2 L ((Nat.div_lt_iff_lt_mul (by omega)).2 hL)
            omega
theorem lt_dlen {B : Nat} (hB : 2 ≤ B) (n : Nat) : n < B ^ dlen B n := (dlenF_spec hB n n (Nat.le_refl _)).1
theorem dlen_le {B : Nat} (hB : 2 ≤ B) {n L : Nat} (h : n < B ^ L) : dlen B n ≤ L := (dlenF_spec hB n n (Nat.le_refl _)).2 L h
theorem dlen_zero (B : Nat) : dlen B 0 = 0 := rfl
theorem le_of_dlen {B : Nat} (hB : 2 ≤ B) {n i : Nat} (h : i < dlen B n) : B ^ i ≤ n := by
  by_cases e : B ^ i ≤ n
  · exact e
  · have := dlen_le hB (show n < B ^ i by omega); omega
theorem lt_of_dlen {B : Nat} (hB : 2 ≤ B) {n i : Nat} (h : dlen B n ≤ i) : n < B ^ i := Nat.lt_of_lt_of_le (lt_dlen hB n) (Nat.pow_le_pow_right (by omega) h)
theorem dlen_eq {B : Nat} (hB : 2 ≤ B) {n L : Nat} (h : n < B ^ L) (k : L = 0 ∨ B ^ (L - 1) ≤ n) : dlen B n = L := by
  have h1 := dlen_le hB h
  rcases k with rfl | k
  · omega
  · by_cases e : dlen B n ≤ L - 1
    · have := lt_of_dlen hB e; omega
    · omega
theorem dlen_mono {B : Nat} (hB : 2 ≤ B) {m n : Nat} (h : m ≤ n) : dlen B m ≤ dlen B n := dlen_le hB (Nat.lt_of_le_of_lt h (lt_dlen hB n))
theorem dgt_big {B n k : Nat} (h : n < B ^ k) : dgt B n k = 0 := by simp [dgt, Nat.div_eq_of_lt h]
theorem mod_step (B n k : Nat) : n % B ^ (k + 1) = n % B ^ k + B ^ k * dgt B n k := by
  rw [dgt, Nat.mod_pow_succ]
/-- the highest digit is not 0 -/
theorem dgt_top {B : Nat} (hB : 2 ≤ B) {n : Nat} (h : 0 < dlen B n) : dgt B n (dlen B n - 1) ≠ 0 := by
  have h1 := le_of_dlen hB (show dlen B n - 1 < dlen B n by omega)
  have h2 := lt_dlen hB n
  have e : dlen B n = (dlen B n - 1) + 1 := by omega
  rw [e, pow_succ'] at h2
  generalize dlen B n - 1 = k at h1 h2 ⊢
  have hp := pow_pos' hB k
  have q1 : 1 ≤ n / B ^ k := (Nat.le_div_iff_mul_le hp).2 (by omega)
  have q2 : n / B ^ k < B := (Nat.div_lt_iff_lt_mul hp).2 (by rw [Nat.mul_comm] at h2; exact h2)
  rw [dgt, Nat.mod_eq_of_lt q2]; omega

/-! ### what a list of digits is worth -/
def val (B : Nat) : List Nat → Nat
  | [] => 0
  | x :: r => x + B * val B r
theorem val_append (B : Nat) (a b : List Nat) : val B (a ++ b) = val B a + B ^ a.length * val B b := by
  induction a with
  | nil => simp [val]
  | cons x r ih => simp only [List.cons_append, val, ih, List.length_cons, pow_succ', Nat.mul_add]; rw [Nat.add_assoc]; congr 2; rw [← Nat.mul_assoc, Nat.mul_comm B]
theorem val_snoc (B : Nat) (a : List Nat) (x : Nat) : val B (a ++ [x]) = val B a + B ^ a.length * x := by rw [val_append]; simp [val]
theorem val_dgs {B : Nat} (n L : Nat) : val B (dgs B n L) = n % B ^ L := by
  induction L with
  | zero => simp [dgs, val, Nat.mod_one]
  | succ L ih => rw [dgs_succ, val_snoc, ih, dgs_length, mod_step]
theorem val_lt {B : Nat} (hB : 2 ≤ B) (l : List Nat) (h : ∀ x ∈ l, x < B) : val B l < B ^ l.length := by
  induction l with
  | nil => simp [val]
  | cons x r ih =>
    have h1 := h x (by simp)
    have h2 := ih (fun y hy => h y (by simp [hy]))
    simp only [val, List.length_cons, pow_succ']
    have : B * (val B r + 1) ≤ B * B ^ r.length := Nat.mul_le_mul_left _ h2
    rw [Nat.mul_add, Nat.mul_one] at this
    rw [Nat.mul_comm (B ^ r.length)]; omega
/-- a list of digits is told by its length and by what it is worth -/
theorem eq_dgs {B : Nat} (hB : 2 ≤ B) (l : List Nat) (h : ∀ x ∈ l, x < B) : l = dgs B (val B l) l.length := by
  induction l with
  | nil => simp [dgs]
  | cons x r ih =>
    have h1 := h x (by simp)
    have h2 := ih (fun y hy => h y (by simp [hy]))
    have e0 : dgt B (val B (x :: r)) 0 = x := by simp [dgt, val, Nat.add_mul_mod_self_left, Nat.mod_eq_of_lt h1]
    have e1 : ∀ k, dgt B (val B (x :: r)) (k + 1) = dgt B (val B r) k := by
      intro k
      have : val B (x :: r) / B ^ (k + 1) = val B r / B ^ k := by
        rw [pow_succ', Nat.mul_comm, ← Nat.div_div_eq_div_mul]
        simp only [val]
        rw [Nat.add_mul_div_left _ _ (by omega), Nat.div_eq_of_lt h1, Nat.zero_add]
      simp only [dgt, this]
    have e2 : dgs B (val B (x :: r)) (r.length + 1) = x :: dgs B (val B r) r.length := by
      simp only [dgs]
      rw [List.range_succ_eq_map, List.map_cons, e0, List.map_map]
      congr 1
      apply List.map_congr_left
      intro k _
      exact e1 k
    rw [List.length_cons, e2, ← h2]
theorem val_set {B : Nat} (l : List Nat) (i x : Nat) (h : i < l.length) : val B (l.set i x) + B ^ i * l.getD i 0 = val B l + B ^ i * x := by
  induction l generalizing i with
  | nil => simp at h
  | cons y r ih =>
    cases i with
    | zero => simp [val, List.getD]; omega
    | succ i =>
      have := ih i (by simpa using h)
      simp only [List.set_cons_succ, val, List.getD_cons_succ, pow_succ']
      have e : ∀ z, B ^ i * B * z = B * (B ^ i * z) := fun z => by rw [Nat.mul_comm (B ^ i) B, Nat.mul_assoc]
      rw [e, e, Nat.add_assoc, ← Nat.mul_add, this, Nat.mul_add, Nat.add_assoc]

/-! ### carries -/
theorem split_at {B : Nat} (hB : 2 ≤ B) {n r q k : Nat} (h : n = r + B ^ k * q) (hr : r < B ^ k) : n / B ^ k = q ∧ n % B ^ k = r := by
  have hp := pow_pos' hB k
  subst h
  exact ⟨by rw [Nat.add_mul_div_left _ _ hp, Nat.div_eq_of_lt hr, Nat.zero_add], by rw [Nat.add_mul_mod_self_left, Nat.mod_eq_of_lt hr]⟩
theorem div_split (B n k : Nat) : n / B ^ k = dgt B n k + B * (n / B ^ (k + 1)) := by
  rw [pow_succ', ← Nat.div_div_eq_div_mul, dgt]
  exact (Nat.mod_add_div _ _).symm
/-- the carry of a sum -/
def carry (B a b i : Nat) : Nat := (a % B ^ i + b % B ^ i) / B ^ i
theorem carry_zero (B a b : Nat) : carry B a b 0 = 0 := by simp [carry, Nat.mod_one]
theorem sum_step {B : Nat} (hB : 2 ≤ B) (a b i : Nat) : dgt B (a + b) i = (carry B a b i + dgt B a i + dgt B b i) % B ∧ carry B a b (i + 1) = (carry B a b i + dgt B a i + dgt B b i) / B := by
  have hp := pow_pos' hB i
  have ea := Nat.mod_add_div a (B ^ i)
  have eb := Nat.mod_add_div b (B ^ i)
  have er := Nat.mod_add_div (a % B ^ i + b % B ^ i) (B ^ i)
  have hr := Nat.mod_lt (a % B ^ i + b % B ^ i) hp
  have hc : (a % B ^ i + b % B ^ i) / B ^ i = carry B a b i := rfl
  rw [hc] at er
  constructor
  · have e : a + b = (a % B ^ i + b % B ^ i) % B ^ i + B ^ i * (carry B a b i + a / B ^ i + b / B ^ i) := by
      rw [Nat.mul_add, Nat.mul_add]; omega
    have h := (split_at hB e hr).1
    simp only [dgt]
    rw [h, Nat.add_mod_mod, Nat.add_right_comm _ (a / B ^ i % B), Nat.add_mod_mod, Nat.add_right_comm]
  · have e : a % B ^ (i + 1) + b % B ^ (i + 1) = (a % B ^ i + b % B ^ i) % B ^ i + B ^ i * (carry B a b i + dgt B a i + dgt B b i) := by
      rw [mod_step, mod_step, Nat.mul_add, Nat.mul_add]; omega
    have h := (split_at hB e hr).1
    show (a % B ^ (i + 1) + b % B ^ (i + 1)) / B ^ (i + 1) = _
    rw [pow_succ', ← Nat.div_div_eq_div_mul]
    rw [pow_succ'] at h
    rw [h]
theorem carry_le {B : Nat} (hB : 2 ≤ B) (a b i : Nat) : carry B a b i ≤ 1 := by
  have hp := pow_pos' hB i
  have h1 := Nat.mod_lt a hp
  have h2 := Nat.mod_lt b hp
  have : carry B a b i < 2 := (Nat.div_lt_iff_lt_mul hp).2 (by omega)
  omega
/-- the borrow of a difference -/
def borrow (B a b i : Nat) : Nat := if a % B ^ i < b % B ^ i then 1 else 0
theorem borrow_zero (B a b : Nat) : borrow B a b 0 = 0 := by simp [borrow, Nat.mod_one]
theorem less_step {B : Nat} (hB : 2 ≤ B) {a b : Nat} (h : b ≤ a) (i : Nat) :
    (dgt B a i < dgt B b i + borrow B a b i → borrow B a b (i + 1) = 1 ∧ dgt B (a - b) i + dgt B b i + borrow B a b i = dgt B a i + B) ∧
    (dgt B b i + borrow B a b i ≤ dgt B a i → borrow B a b (i + 1) = 0 ∧ dgt B (a - b) i + dgt B b i + borrow B a b i = dgt B a i) := by
  have hp := pow_pos' hB i
  have ha := Nat.mod_lt a hp
  have hb := Nat.mod_lt b hp
  have da := dgt_lt hB a i
  have db := dgt_lt hB b i
  -- the rest behind place i, and what lies above it
  have hbo : borrow B a b i ≤ 1 := by unfold borrow; split <;> omega
  have hr : ∃ r, r < B ^ i ∧ r + b % B ^ i = a % B ^ i + B ^ i * borrow B a b i := by
    unfold borrow
    generalize a % B ^ i = x at ha ⊢
    generalize b % B ^ i = y at hb ⊢
    split
    · exact ⟨x + B ^ i - y, by omega, by omega⟩
    · exact ⟨x - y, by omega, by omega⟩
  obtain ⟨r, hr1, hr2⟩ := hr
  have ea := Nat.mod_add_div a (B ^ i)
  have eb := Nat.mod_add_div b (B ^ i)
  have es := Nat.mod_add_div (a - b) (B ^ i)
  have hab : (a - b) + b = a := by omega
  have hq : a / B ^ i = (a - b) / B ^ i + b / B ^ i + borrow B a b i ∧ (a - b) % B ^ i = r := by
    have hs := Nat.mod_lt (a - b) hp
    -- r + P (..) on both sides
    have e : (a - b) % B ^ i + B ^ i * ((a - b) / B ^ i + b / B ^ i + borrow B a b i) = r + B ^ i * (a / B ^ i) := by
      rw [Nat.mul_add, Nat.mul_add]; omega
    have h1 := split_at hB (n := r + B ^ i * (a / B ^ i)) e.symm hs
    have h2 := split_at hB (n := r + B ^ i * (a / B ^ i)) rfl hr1
    exact ⟨by rw [← h2.1, h1.1], by rw [← h1.2, h2.2]⟩
  have e1 := div_split B a i
  have e2 := div_split B b i
  have e3 := div_split B (a - b) i
  have ds := dgt_lt hB (a - b) i
  have m1 := mod_step B a i
  have m2 := mod_step B b i
  have key : dgt B a i + B * (a / B ^ (i + 1)) = dgt B (a - b) i + dgt B b i + borrow B a b i + B * ((a - b) / B ^ (i + 1) + b / B ^ (i + 1)) := by
    rw [Nat.mul_add]; omega
  have hcmp : ∀ x y : Nat, x ≤ y → B ^ i * x ≤ B ^ i * y := fun x y h => Nat.mul_le_mul_left _ h
  refine ⟨fun hlt => ?_, fun hge => ?_⟩
  · constructor
    · have : a % B ^ (i + 1) < b % B ^ (i + 1) := by
        rw [m1, m2]
        have h1 := hcmp (dgt B a i + 1) (dgt B b i + borrow B a b i) (by omega)
        rw [Nat.mul_add, Nat.mul_add, Nat.mul_one] at h1
        omega
      simp [borrow, this]
    · have hB0 : 0 < B := by omega
      have hmod := congrArg (· % B) key
      simp only [Nat.add_mul_mod_self_left] at hmod
      rw [Nat.mod_eq_of_lt da] at hmod
      have hs : dgt B (a - b) i + dgt B b i + borrow B a b i < 2 * B := by omega
      have := Nat.mod_add_div (dgt B (a - b) i + dgt B b i + borrow B a b i) B
      have hd : (dgt B (a - b) i + dgt B b i + borrow B a b i) / B ≤ 1 := by
        have : (dgt B (a - b) i + dgt B b i + borrow B a b i) / B < 2 := (Nat.div_lt_iff_lt_mul hB0).2 (by omega)
        omega
      rcases Nat.le_one_iff_eq_zero_or_eq_one.1 hd with e | e <;> rw [e] at this <;> omega
  · constructor
    · have : ¬ a % B ^ (i + 1) < b % B ^ (i + 1) := by
        rw [m1, m2]
        have h1 := hcmp (dgt B b i + borrow B a b i) (dgt B a i) hge
        rw [Nat.mul_add] at h1
        omega
      simp [borrow, this]
    · have hB0 : 0 < B := by omega
      have hmod := congrArg (· % B) key
      simp only [Nat.add_mul_mod_self_left] at hmod
      rw [Nat.mod_eq_of_lt da] at hmod
      have := Nat.mod_add_div (dgt B (a - b) i + dgt B b i + borrow B a b i) B
      have hd : (dgt B (a - b) i + dgt B b i + borrow B a b i) / B ≤ 1 := by
        have : (dgt B (a - b) i + dgt B b i + borrow B a b i) / B < 2 := (Nat.div_lt_iff_lt_mul hB0).2 (by omega)
        omega
      rcases Nat.le_one_iff_eq_zero_or_eq_one.1 hd with e | e <;> rw [e] at this <;> omega

/-- a digit of a quotient, from the top: y may be any number above 0 -/
theorem short_step {B : Nat} (hB : 2 ≤ B) (a i : Nat) {y : Nat} (hy : 0 < y) :
    ((a / B ^ (i + 1) % y) * B + dgt B a i) / y = dgt B (a / y) i ∧ ((a / B ^ (i + 1) % y) * B + dgt B a i) % y = a / B ^ i % y := by
  have e := div_split B a i
  have d := dgt_lt hB a i
  have hq := Nat.mod_add_div (a / B ^ (i + 1)) y
  have hm := Nat.mod_lt (a / B ^ (i + 1)) hy
  generalize a / B ^ (i + 1) = Q at e hq hm ⊢
  have e2 : a / B ^ i = (Q % y * B + dgt B a i) + y * (B * (Q / y)) := by
    rw [e]
    have h1 : B * Q = B * (Q % y) + B * (y * (Q / y)) := by rw [← Nat.mul_add, hq]
    have h2 : B * (y * (Q / y)) = y * (B * (Q / y)) := Nat.mul_left_comm _ _ _
    rw [h1, h2, Nat.mul_comm B (Q % y)]; omega
  have hlt : (Q % y * B + dgt B a i) / y < B := by
    apply (Nat.div_lt_iff_lt_mul hy).2
    have : (Q % y + 1) * B ≤ y * B := Nat.mul_le_mul_right _ hm
    rw [Nat.add_mul, Nat.one_mul] at this
    rw [Nat.mul_comm B y]; omega
  constructor
  · have : a / y / B ^ i = (Q % y * B + dgt B a i) / y + B * (Q / y) := by
      rw [Nat.div_div_eq_div_mul, Nat.mul_comm, ← Nat.div_div_eq_div_mul, e2, Nat.add_mul_div_left _ _ hy]
    rw [show dgt B (a / y) i = a / y / B ^ i % B from rfl, this, Nat.add_mul_mod_self_left, Nat.mod_eq_of_lt hlt]
  · rw [e2, Nat.add_mul_mod_self_left]
/-! ### comparing from the top -/
theorem cmp_step {B : Nat} (hB : 2 ≤ B) {a b i : Nat} (h : a / B ^ (i + 1) = b / B ^ (i + 1)) :
    (dgt B a i = dgt B b i → a / B ^ i = b / B ^ i) ∧ (dgt B a i < dgt B b i → a < b) := by
  have e1 := div_split B a i
  have e2 := div_split B b i
  refine ⟨fun e => by rw [e1, e2, e, h], fun e => ?_⟩
  have hl : a / B ^ i < b / B ^ i := by rw [e1, e2, h]; omega
  by_cases c : a < b
  · exact c
  · have := Nat.div_le_div_right (c := B ^ i) (show b ≤ a by omega); omega
theorem lt_of_dlen_lt {B : Nat} (hB : 2 ≤ B) {a b : Nat} (h : dlen B a < dlen B b) : a < b :=
  Nat.lt_of_lt_of_le (lt_dlen hB a) (le_of_dlen hB h)
/-! ### cutting zeros off the top -/
theorem take_step {B : Nat} (l : List Nat) (k : Nat) (h : k < l.length) : val B (l.take (k + 1)) = val B (l.take k) + B ^ k * l.getD k 0 := by
  rw [List.take_succ_eq_append_getElem h, val_snoc, List.length_take, Nat.min_eq_left (by omega)]
  simp [List.getD, h]
theorem cut_done {B : Nat} (hB : 2 ≤ B) (l : List Nat) (h : ∀ x ∈ l, x < B) (k : Nat) (hk : k ≤ l.length) (hv : val B (l.take k) = val B l) (ht : k = 0 ∨ l.getD (k - 1) 0 ≠ 0) :
    dlen B (val B l) = k ∧ l.take k = dgs B (val B l) k := by
  have hlen : (l.take k).length = k := by rw [List.length_take]; omega
  have hx : ∀ x ∈ l.take k, x < B := fun x hx => h x (List.mem_of_mem_take hx)
  have h1 := eq_dgs hB (l.take k) hx
  have h2 := val_lt hB (l.take k) hx
  rw [hlen, hv] at h1 h2
  refine ⟨dlen_eq hB h2 ?_, h1⟩
  rcases ht with h0 | h0
  · exact Or.inl h0
  · rcases Nat.eq_zero_or_pos k with h3 | h3
    · exact Or.inl h3
    · right
      have h4 := take_step (B := B) l (k - 1) (by omega)
      rw [show k - 1 + 1 = k by omega, hv] at h4
      have : B ^ (k - 1) * 1 ≤ B ^ (k - 1) * l.getD (k - 1) 0 := Nat.mul_le_mul_left _ (by omega)
      omega

/-! ### how many digits a sum has -/
theorem plus_done {B : Nat} (hB : 2 ≤ B) {a b k : Nat} (h1 : dlen B a ≤ k) (h2 : dlen B b ≤ k) (h3 : carry B a b k = 0) : dlen B (a + b) ≤ k := by
  have ha := lt_of_dlen hB h1
  have hb := lt_of_dlen hB h2
  have hp := pow_pos' hB k
  apply dlen_le hB
  rw [carry, Nat.mod_eq_of_lt ha, Nat.mod_eq_of_lt hb] at h3
  by_cases c : a + b < B ^ k
  · exact c
  · have : 1 ≤ (a + b) / B ^ k := (Nat.le_div_iff_mul_le hp).2 (by omega)
    omega
theorem plus_more {B : Nat} (hB : 2 ≤ B) {a b k : Nat} (h : k < dlen B a ∨ k < dlen B b ∨ 0 < carry B a b k) : k < dlen B (a + b) := by
  have hp := pow_pos' hB k
  have hle : B ^ k ≤ a + b := by
    rcases h with h | h | h
    · have := le_of_dlen hB h; omega
    · have := le_of_dlen hB h; omega
    · have h1 := (Nat.le_div_iff_mul_le hp).1 (show 1 ≤ (a % B ^ k + b % B ^ k) / B ^ k from h)
      have h2 := Nat.mod_le a (B ^ k)
      have h3 := Nat.mod_le b (B ^ k)
      omega
  by_cases c : k < dlen B (a + b)
  · exact c
  · have := lt_of_dlen hB (show dlen B (a + b) ≤ k by omega); omega
theorem plus_len {B : Nat} (hB : 2 ≤ B) {a b M : Nat} (ha : dlen B a ≤ M) (hb : dlen B b ≤ M) : dlen B (a + b) ≤ M + 1 := by
  have h1 := lt_of_dlen hB ha
  have h2 := lt_of_dlen hB hb
  apply dlen_le hB
  rw [pow_succ']
  have : B ^ M * 2 ≤ B ^ M * B := Nat.mul_le_mul_left _ hB
  omega
end Go.Proofs.YtiddhnnofpbopaaDoor

/- Plain lemmas on digits, second part: a number times a factor, digit by digit; digits with zeros behind; 64 bits of a number from any place; what a shift and an 'or' make of numbers. No program here. -/
namespace Go.Proofs.YtiddhnnofpbopaaDoor
set_option linter.unusedVariables false

abbrev W32 : Nat := 4294967296
theorem w32 : 2 ≤ W32 := by decide

/-- k digits, and zeros behind, M in all -/
def dz (B s k M : Nat) : List Nat := dgs B s k ++ List.replicate (M - k) 0
theorem dz_zero (B s M : Nat) : dz B s 0 M = List.replicate M 0 := by simp [dz, dgs]
theorem dz_all (B s M : Nat) : dz B s M M = dgs B s M := by simp [dz]
theorem dz_length (B s k M : Nat) (h : k ≤ M) : (dz B s k M).length = M := by simp [dz, dgs_length]; omega
theorem dz_set (B s k M : Nat) (h : k < M) : (dz B s k M).set k (dgt B s k) = dz B s (k + 1) M := by
  unfold dz
  rw [List.set_append_right _ _ (by rw [dgs_length]; omega), dgs_length, Nat.sub_self, dgs_succ]
  have e : M - k = (M - (k + 1)) + 1 := by omega
  rw [e, List.replicate_succ, List.set_cons_zero, List.append_assoc]
  rfl
theorem dgs_lt {B : Nat} (hB : 2 ≤ B) (n L : Nat) : ∀ x ∈ dgs B n L, x < B := fun x hx => by
  simp only [dgs, List.mem_map] at hx; obtain ⟨j, _, rfl⟩ := hx; exact dgt_lt hB _ _
theorem val_dgs_small {B n L : Nat} (h : n < B ^ L) : val B (dgs B n L) = n := by rw [val_dgs, Nat.mod_eq_of_lt h]

/-! ### a number times a factor -/
/-- what is carried -/
def scarry (B a f i : Nat) : Nat := a % B ^ i * f / B ^ i
theorem scarry_zero (B a f : Nat) : scarry B a f 0 = 0 := by simp [scarry, Nat.mod_one]
theorem scale_step {B : Nat} (hB : 2 ≤ B) (a f i : Nat) : dgt B (a * f) i = (scarry B a f i + dgt B a i * f) % B ∧ scarry B a f (i + 1) = (scarry B a f i + dgt B a i * f) / B := by
  have hp := pow_pos' hB i
  have e1 : a % B ^ (i + 1) * f / B ^ i = scarry B a f i + dgt B a i * f := by
    rw [mod_step, Nat.add_mul, Nat.mul_assoc, Nat.add_mul_div_left _ _ hp]; rfl
  constructor
  · have ea := Nat.mod_add_div a (B ^ (i + 1))
    have e2 : a * f = a % B ^ (i + 1) * f + B ^ i * (B * (a / B ^ (i + 1) * f)) := by
      have e3 : a * f = a % B ^ (i + 1) * f + B ^ (i + 1) * (a / B ^ (i + 1)) * f := by rw [← Nat.add_mul, ea]
      rw [e3, pow_succ']; congr 1; ac_rfl
    rw [dgt, e2, Nat.add_mul_div_left _ _ hp, e1, Nat.add_mul_mod_self_left]
  · rw [scarry, pow_succ', ← Nat.div_div_eq_div_mul, ← pow_succ', e1]
theorem scarry_le {B : Nat} (hB : 2 ≤ B) (a f i : Nat) : scarry B a f i ≤ f - 1 := by
  have hp := pow_pos' hB i
  rcases Nat.eq_zero_or_pos f with rfl | hf
  · simp [scarry]
  · have h1 := Nat.mod_lt a hp
    have : a % B ^ i * f < f * B ^ i := by rw [Nat.mul_comm f]; exact Nat.mul_lt_mul_of_pos_right h1 hf
    have := (Nat.div_lt_iff_lt_mul hp).2 this
    unfold scarry; omega
/-- the carry behind the last digit is the last digit of the product -/
theorem scarry_end {B a f L : Nat} (h : a < B ^ L) (hf : f ≤ B) (hB : 2 ≤ B) : scarry B a f L = dgt B (a * f) L ∧ a * f < B ^ (L + 1) := by
  have hp := pow_pos' hB L
  have h1 : a * f < B ^ (L + 1) := by
    rw [pow_succ']
    rcases Nat.eq_zero_or_pos f with rfl | h0
    · rw [Nat.mul_zero]; exact Nat.mul_pos hp (by omega)
    · exact Nat.lt_of_lt_of_le (Nat.mul_lt_mul_of_pos_right h h0) (Nat.mul_le_mul_left _ hf)
  refine ⟨?_, h1⟩
  unfold scarry dgt
  rw [Nat.mod_eq_of_lt h, Nat.mod_eq_of_lt]
  rw [pow_succ'] at h1
  exact (Nat.div_lt_iff_lt_mul hp).2 (by rw [Nat.mul_comm B]; exact h1)

/-! ### bits -/
theorem or_low (a b s : Nat) (hb : b < 2 ^ s) : (a * 2 ^ s) ||| b = a * 2 ^ s + b := by
  rw [Nat.mul_comm]; exact (Nat.two_pow_add_eq_or_of_lt hb a).symm
theorem or_low' (a b s : Nat) (hb : b < 2 ^ s) : b ||| (a * 2 ^ s) = b + a * 2 ^ s := by
  rw [Nat.or_comm, or_low _ _ _ hb, Nat.add_comm]
/-- 64 bits of a number from bit 32 f + s on, out of three of its words -/
theorem window_eq (n f s : Nat) (hs : s < 32) :
    (dgt W32 n f + W32 * dgt W32 n (f + 1)) / 2 ^ s + dgt W32 n (f + 2) * 2 ^ (64 - s) % 18446744073709551616 = n / 2 ^ (32 * f + s) % 18446744073709551616 ∧
    (dgt W32 n f + W32 * dgt W32 n (f + 1)) / 2 ^ s < 2 ^ (64 - s) ∧ ∃ t, dgt W32 n (f + 2) * 2 ^ (64 - s) % 18446744073709551616 = t * 2 ^ (64 - s) := by
  have e0 : W32 ^ f = 2 ^ (32 * f) := by rw [show W32 = 2 ^ 32 by rfl, ← Nat.pow_mul]
  have d0 := div_split W32 n f
  have d1 := div_split W32 n (f + 1)
  have d2 := div_split W32 n (f + 2)
  have l0 := dgt_lt w32 n f
  have l1 := dgt_lt w32 n (f + 1)
  have l2 := dgt_lt w32 n (f + 2)
  have eN : n / 2 ^ (32 * f + s) = n / W32 ^ f / 2 ^ s := by rw [Nat.pow_add, ← e0, Nat.div_div_eq_div_mul]
  rw [eN]
  generalize n / W32 ^ f = m at *
  generalize n / W32 ^ (f + 1) = m1 at *
  generalize n / W32 ^ (f + 1 + 1) = m2 at *
  generalize n / W32 ^ (f + 2 + 1) = m3 at *
  have d2' : m2 = dgt W32 n (f + 2) + W32 * m3 := d2
  clear d2
  generalize dgt W32 n f = a at *
  generalize dgt W32 n (f + 1) = b at *
  generalize dgt W32 n (f + 2) = c at *
  subst d2' d1 d0
  have hpow : 2 ^ s * 2 ^ (64 - s) = 18446744073709551616 := by rw [← Nat.pow_add, show s + (64 - s) = 64 by omega]
  have hps : 0 < 2 ^ s := Nat.two_pow_pos s
  have hpt : 0 < 2 ^ (64 - s) := Nat.two_pow_pos _
  have hle : (2 : Nat) ^ 32 ≤ 2 ^ (64 - s) := Nat.pow_le_pow_right (by omega) (by omega)
  generalize hS : 2 ^ s = S at *
  generalize hT : 2 ^ (64 - s) = T at *
  have hlow : a + W32 * b < S * T := by rw [hpow]; simp only [W32] at *; omega
  have e1 : (a + W32 * (b + W32 * (c + W32 * m3))) / S = (a + W32 * b) / S + T * (c + W32 * m3) := by
    have : a + W32 * (b + W32 * (c + W32 * m3)) = (a + W32 * b) + S * (T * (c + W32 * m3)) := by
      rw [← Nat.mul_assoc, hpow]; simp only [W32]; omega
    rw [this, Nat.add_mul_div_left _ _ hps]
  rw [e1]
  have hq : (a + W32 * b) / S < T := (Nat.div_lt_iff_lt_mul hps).2 (by rw [Nat.mul_comm T]; exact hlow)
  generalize (a + W32 * b) / S = q at *
  refine ⟨?_, hq, c % S, ?_⟩
  · -- T * (c + W32 * m3) mod 2^64: T * W32 is a multiple of 2^64 / S.. so look modulo S
    have h1 : (q + T * (c + W32 * m3)) % (T * S) = q % T + T * ((q + T * (c + W32 * m3)) / T % S) := by
      rw [Nat.mod_mul, Nat.add_mul_mod_self_left]
    rw [Nat.add_mul_div_left _ _ hpt, Nat.div_eq_of_lt hq, Nat.zero_add, Nat.mod_eq_of_lt hq] at h1
    rw [Nat.mul_comm T S, hpow] at h1
    rw [h1]
    congr 1
    have h2 : (c + W32 * m3) % S = c % S := by
      have : W32 = S * 2 ^ (32 - s) := by rw [← hS, ← Nat.pow_add, show s + (32 - s) = 32 by omega]
      rw [this, Nat.mul_assoc, Nat.add_mul_mod_self_left]
    rw [h2, ← hpow, Nat.mul_mod_mul_right, Nat.mul_comm]
  · rw [← hpow, Nat.mul_mod_mul_right]
end Go.Proofs.YtiddhnnofpbopaaDoor

/- Plain lemmas on digits, third part: long division (the guess of a digit out of three words by two, a multiple taken out in place and put back, the digits of the quotient from the top). No program here. -/
namespace Go.Proofs.YtiddhnnofpbopaaDoor
set_option linter.unusedVariables false

/-- the two (three) highest words -/
theorem top2 {B : Nat} (hB : 2 ≤ B) {Y n : Nat} (hn : 2 ≤ n) (h : Y < B ^ n) : Y / B ^ (n - 2) = dgt B Y (n - 1) * B + dgt B Y (n - 2) := by
  have d0 := div_split B Y (n - 2)
  have d1 := div_split B Y (n - 2 + 1)
  rw [show n - 2 + 1 + 1 = n by omega, Nat.div_eq_of_lt h, Nat.mul_zero, Nat.add_zero, show n - 2 + 1 = n - 1 by omega] at d1
  rw [d0, show n - 2 + 1 = n - 1 by omega, d1, Nat.add_zero, Nat.mul_comm, Nat.add_comm]
theorem top3 {B : Nat} (hB : 2 ≤ B) {V n : Nat} (hn : 2 ≤ n) (h : V < B ^ (n + 1)) : V / B ^ (n - 2) = (dgt B V n * B + dgt B V (n - 1)) * B + dgt B V (n - 2) := by
  have d0 := div_split B V (n - 2)
  have d1 := div_split B V (n - 2 + 1)
  have d2 := div_split B V (n - 2 + 1 + 1)
  rw [show n - 2 + 1 + 1 = n by omega] at d1 d2
  rw [Nat.div_eq_of_lt h, Nat.mul_zero, Nat.add_zero] at d2
  rw [show n - 2 + 1 = n - 1 by omega] at d0 d1
  rw [d0, d1, d2]
  grind
/-- the guess is at least the digit -/
theorem guess_ge {B : Nat} (hB : 2 ≤ B) {V Y n g : Nat} (hY : 0 < Y / B ^ (n - 2)) (hg : V / B ^ (n - 2) < g * (Y / B ^ (n - 2))) : V / Y < g := by
  have hp := pow_pos' hB (n - 2)
  generalize B ^ (n - 2) = P at *
  have h1 : Y / P * P ≤ Y := Nat.div_mul_le_self Y P
  have h2 : V < (V / P + 1) * P := by have := Nat.lt_mul_div_succ V hp; rw [Nat.mul_comm]; exact this
  have hYp : 0 < Y := Nat.lt_of_lt_of_le (Nat.mul_pos hY hp) h1
  apply (Nat.div_lt_iff_lt_mul hYp).2
  have h3 : (V / P + 1) * P ≤ g * (Y / P) * P := Nat.mul_le_mul_right _ hg
  have h4 : g * (Y / P) * P ≤ g * Y := by rw [Nat.mul_assoc]; exact Nat.mul_le_mul_left _ h1
  omega
/-- .. and at most one more -/
theorem guess_le {B : Nat} (hB : 2 ≤ B) {V Y n g : Nat} (hY : B ≤ Y / B ^ (n - 2)) (hgB : g ≤ B) (hYp : 0 < Y) (hg : g * (Y / B ^ (n - 2)) ≤ V / B ^ (n - 2)) : g ≤ V / Y + 1 := by
  have hp := pow_pos' hB (n - 2)
  generalize B ^ (n - 2) = P at *
  rcases Nat.eq_zero_or_pos g with rfl | h0
  · exact Nat.zero_le _
  · obtain ⟨g, rfl⟩ : ∃ g', g = g' + 1 := ⟨g - 1, by omega⟩
    have : g ≤ V / Y := by
      apply (Nat.le_div_iff_mul_le hYp).2
      have h1 : Y ≤ (Y / P + 1) * P := by have := Nat.lt_mul_div_succ Y hp; rw [Nat.mul_comm]; exact Nat.le_of_lt this
      have h2 : g * Y ≤ g * ((Y / P + 1) * P) := Nat.mul_le_mul_left _ h1
      have h3 : g * (Y / P + 1) ≤ V / P := by rw [Nat.mul_add, Nat.mul_one]; rw [Nat.add_mul, Nat.one_mul] at hg; omega
      have h4 : g * (Y / P + 1) * P ≤ V / P * P := Nat.mul_le_mul_right _ h3
      have h5 : V / P * P ≤ V := Nat.div_mul_le_self V P
      rw [Nat.mul_assoc] at h4
      omega
    exact Nat.succ_le_succ this
/-- the words of a guess: y1, y0 of the divisor, p2, p1, p0 of the part -/
theorem guess_start {B : Nat} (hB : 2 ≤ B) {V Y n : Nat} (hn : 2 ≤ n) (hYn : Y < B ^ n) (hV : V < Y * B) (hy : B ≤ 2 * dgt B Y (n - 1)) :
    (dgt B V n * B + dgt B V (n - 1)) / dgt B Y (n - 1) ≤ B + 1 := by
  have hp := pow_pos' hB (n - 2)
  have t2 := top2 hB hn hYn
  have hVn : V < B ^ (n + 1) := by rw [pow_succ']; exact Nat.lt_of_lt_of_le hV (Nat.mul_le_mul_right _ (Nat.le_of_lt hYn))
  have t3 := top3 hB hn hVn
  have l1 := dgt_lt hB Y (n - 2)
  have l2 := dgt_lt hB V (n - 1)
  have l3 := dgt_lt hB V (n - 2)
  generalize dgt B Y (n - 1) = y1 at *
  generalize dgt B Y (n - 2) = y0 at *
  generalize dgt B V n = p2 at *
  generalize dgt B V (n - 1) = p1 at *
  generalize dgt B V (n - 2) = p0 at *
  generalize B ^ (n - 2) = P at *
  -- V / P < (Y / P + 1) * B
  have h1 : Y < (Y / P + 1) * P := by have := Nat.lt_mul_div_succ Y hp; rw [Nat.mul_comm]; exact this
  have h2 : V / P < (Y / P + 1) * B := by
    apply (Nat.div_lt_iff_lt_mul hp).2
    have h3 : Y * B < (Y / P + 1) * P * B := Nat.mul_lt_mul_of_pos_right h1 (by omega)
    have e : (Y / P + 1) * P * B = (Y / P + 1) * B * P := by grind
    omega
  rw [t2, t3] at h2
  have h5 : p2 * B + p1 < y1 * B + y0 + 1 := by
    by_cases c : p2 * B + p1 < y1 * B + y0 + 1
    · exact c
    · have := Nat.mul_le_mul_right B (show y1 * B + y0 + 1 ≤ p2 * B + p1 by omega)
      omega
  apply Nat.le_of_lt_succ
  apply (Nat.div_lt_iff_lt_mul (by omega)).2
  have : (B + 1).succ * y1 = y1 * B + 2 * y1 := by grind
  omega
/-- the loop's break: guess and rest -/
theorem guess_break {B high y1 y0 p0 g r : Nat} (he : g * y1 + r = high) (hb : g * y0 ≤ r * B + p0) : g * (y1 * B + y0) ≤ high * B + p0 := by
  subst he
  have : g * (y1 * B + y0) = g * y1 * B + g * y0 := by grind
  rw [this, Nat.add_mul]; omega
theorem guess_go {B high y1 y0 p0 g r : Nat} (he : g * y1 + r = high) (hb : r * B + p0 < g * y0) : high * B + p0 < g * (y1 * B + y0) := by
  subst he
  have : g * (y1 * B + y0) = g * y1 * B + g * y0 := by grind
  rw [this, Nat.add_mul]; omega

/-! ### a multiple taken out in place -/
theorem take_out_step {B : Nat} {V0 S i k o d s b b2 : Nat} (l : List Nat) (hl : i + k < l.length) (ho : o = l.getD (i + k) 0) (hs : s = dgt B S k) (hd : d + s + b = o + B * b2)
    (h : val B l + B ^ i * (S % B ^ k) = V0 + b * B ^ (i + k)) : val B (l.set (i + k) d) + B ^ i * (S % B ^ (k + 1)) = V0 + b2 * B ^ (i + (k + 1)) := by
  have e1 := val_set (B := B) l (i + k) d hl
  rw [← ho] at e1
  rw [mod_step, ← hs, ← Nat.add_assoc, pow_succ', Nat.mul_add]
  have e2 : B ^ i * (B ^ k * s) = B ^ (i + k) * s := by rw [Nat.pow_add]; ac_rfl
  have e3 : b2 * (B ^ (i + k) * B) = B ^ (i + k) * (B * b2) := by ac_rfl
  rw [e2, e3]
  have e4 : B ^ (i + k) * (d + s + b) = B ^ (i + k) * (o + B * b2) := by rw [hd]
  rw [Nat.mul_add, Nat.mul_add, Nat.mul_add] at e4
  rw [Nat.mul_comm b] at h
  omega
theorem put_back_step {B : Nat} {V0 Y i k o d s c c2 : Nat} (l : List Nat) (hl : i + k < l.length) (ho : o = l.getD (i + k) 0) (hs : s = dgt B Y k) (hd : d + B * c2 = o + s + c)
    (h : val B l + c * B ^ (i + k) = V0 + B ^ i * (Y % B ^ k)) : val B (l.set (i + k) d) + c2 * B ^ (i + (k + 1)) = V0 + B ^ i * (Y % B ^ (k + 1)) := by
  have e1 := val_set (B := B) l (i + k) d hl
  rw [← ho] at e1
  rw [mod_step, ← hs, ← Nat.add_assoc, pow_succ', Nat.mul_add]
  have e2 : B ^ i * (B ^ k * s) = B ^ (i + k) * s := by rw [Nat.pow_add]; ac_rfl
  have e3 : c2 * (B ^ (i + k) * B) = B ^ (i + k) * (B * c2) := by ac_rfl
  rw [e2, e3]
  have e4 : B ^ (i + k) * (d + B * c2) = B ^ (i + k) * (o + s + c) := by rw [hd]
  rw [Nat.mul_add, Nat.mul_add, Nat.mul_add] at e4
  rw [Nat.mul_comm c] at h
  omega
theorem val_drop {B : Nat} (l : List Nat) (k : Nat) (h : k ≤ l.length) : val B l = val B (l.take k) + B ^ k * val B (l.drop k) := by
  have := val_append B (l.take k) (l.drop k)
  rw [List.take_append_drop, List.length_take, Nat.min_eq_left h] at this
  exact this
theorem val_small {B : Nat} (hB : 2 ≤ B) (l : List Nat) (hd : ∀ x ∈ l, x < B) (k : Nat) (h : k ≤ l.length) (h0 : val B (l.drop k) = 0) : val B l < B ^ k := by
  rw [val_drop l k h, h0, Nat.mul_zero, Nat.add_zero]
  have := val_lt hB (l.take k) (fun x hx => hd x (List.mem_of_mem_take hx))
  rwa [List.length_take, Nat.min_eq_left h] at this
theorem val_drop_small {B : Nat} (hB : 2 ≤ B) (l : List Nat) (k : Nat) (h : k ≤ l.length) (hv : val B l < B ^ k) : val B (l.drop k) = 0 := by
  have := val_drop (B := B) l k h
  rcases Nat.eq_zero_or_pos (val B (l.drop k)) with e | e
  · exact e
  · have := Nat.mul_le_mul_left (B ^ k) e
    omega
/-- behind the loop: what a borrow tells -/
theorem take_out_end {B : Nat} {v V0 Y q g b i n : Nat} (hB : 2 ≤ B) (hv : v < B ^ (i + (n + 1))) (hV : V0 < B ^ (i + (n + 1))) (hq : V0 / B ^ i / Y = q) (hY : 0 < Y) (hYn : Y < B ^ n) (hg1 : q ≤ g) (hg2 : g ≤ q + 1) (hb : b ≤ 1)
    (h : v + B ^ i * (Y * g) = V0 + b * B ^ (i + (n + 1))) : (b = 0 → g = q ∧ v = V0 % (Y * B ^ i)) ∧ (b = 1 → g = q + 1 ∧ ∀ v2 c, v2 < B ^ (i + (n + 1)) → c ≤ 1 → v2 + c * B ^ (i + (n + 1)) = v + B ^ i * Y → v2 = V0 % (Y * B ^ i)) := by
  have hp := pow_pos' hB i
  have hq2 : V0 / (Y * B ^ i) = q := by rw [Nat.mul_comm, ← Nat.div_div_eq_div_mul]; exact hq
  have hm := Nat.mod_add_div V0 (Y * B ^ i)
  have hml := Nat.mod_lt V0 (Nat.mul_pos hY hp)
  rw [hq2] at hm
  have hYi : Y * B ^ i < B ^ (i + (n + 1)) := by
    rw [Nat.pow_add, Nat.mul_comm]
    apply Nat.mul_lt_mul_of_pos_left _ hp
    rw [pow_succ']; exact Nat.lt_of_lt_of_le hYn (Nat.le_mul_of_pos_right _ (by omega))
  have e1 : B ^ i * (Y * g) = Y * B ^ i * g := by ac_rfl
  have e2 : B ^ i * Y = Y * B ^ i := Nat.mul_comm _ _
  rw [e1] at h
  generalize V0 % (Y * B ^ i) = r at *
  generalize Y * B ^ i = Z at *
  generalize B ^ (i + (n + 1)) = P at *
  have hg : g = q ∨ g = q + 1 := by omega
  refine ⟨fun hb0 => ?_, fun hb1 => ?_⟩
  · subst hb0
    rcases hg with rfl | rfl
    · exact ⟨rfl, by omega⟩
    · rw [Nat.mul_add, Nat.mul_one] at h; omega
  · subst hb1
    rcases hg with rfl | rfl
    · omega
    · refine ⟨rfl, fun v2 c h1 h2 h3 => ?_⟩
      rw [Nat.mul_add, Nat.mul_one] at h
      rw [e2] at h3
      have hc : c = 0 ∨ c = 1 := by omega
      rcases hc with rfl | rfl <;> omega

/-! ### the quotient from the top -/
theorem quot_step {B : Nat} (hB : 2 ≤ B) {X Y i : Nat} (hY : 0 < Y) :
    X % (Y * B ^ (i + 1)) / B ^ i / Y = dgt B (X / Y) i ∧ X % (Y * B ^ (i + 1)) % (Y * B ^ i) = X % (Y * B ^ i) ∧ X % (Y * B ^ (i + 1)) / B ^ i < Y * B := by
  have hp := pow_pos' hB i
  have hYp := Nat.mul_pos hY hp
  have e : Y * B ^ (i + 1) = (Y * B ^ i) * B := by rw [pow_succ']; ac_rfl
  refine ⟨?_, ?_, ?_⟩
  · rw [Nat.div_div_eq_div_mul, Nat.mul_comm (B ^ i) Y, e, Nat.mod_mul_right_div_self, dgt, Nat.div_div_eq_div_mul]
  · rw [e, Nat.mod_mul_right_mod]
  · apply (Nat.div_lt_iff_lt_mul hp).2
    have := Nat.mod_lt X (show 0 < Y * B ^ (i + 1) by rw [e]; exact Nat.mul_pos hYp (by omega))
    have e2 : Y * B * B ^ i = Y * B ^ (i + 1) := by rw [pow_succ']; ac_rfl
    omega
end Go.Proofs.YtiddhnnofpbopaaDoor

/- Plain lemmas on Euclid's steps of long numbers, taken from their highest bits alone (Lehmer; the rule of Collins): which remainders are certain, and that they have the same divisors. No program here. -/
namespace Go.Proofs.YtiddhnnofpbopaaDoor
set_option linter.unusedVariables false

/-- two remainders out of x and y, by the factors (a, b) and (a', b'); even says which one is subtracted -/
structure Cert (x y : Nat) (even : Bool) (a b a' b' R R' : Nat) : Prop where
  one : if even then a * x = R + b * y else b * y = R + a * x
  two : if even then b' * y = R' + a' * x else a' * x = R' + b' * y
  det : if even then a * b' = a' * b + 1 else a' * b = a * b' + 1

/-- the loop's head: now = (a1, b1), next = (a2, b2), r1, r2 the remainders of the highest bits xh, yh; before = (a0, b0) -/
structure Lehm (F x y xh yh : Nat) (even : Bool) (a0 b0 a1 b1 a2 b2 r1 r2 R1 : Nat) : Prop where
  hx : xh = b2 * r1 + b1 * r2
  hy : yh = a2 * r1 + a1 * r2
  det : if even then a1 * b2 = a2 * b1 + 1 else a2 * b1 = a1 * b2 + 1
  le : r2 ≤ r1
  ab : a2 ≤ b2 ∧ (a1 ≤ b1 ∨ (a1 = 1 ∧ b1 = 0 ∧ a2 = 0 ∧ b2 = 1))
  now : if even then a1 * x = R1 + b1 * y else b1 * y = R1 + a1 * x
  nowle : b1 ≠ 0 → R1 ≤ y
  bef : b0 ≠ 0 → ∃ R0, Cert x y (!even) a0 b0 a1 b1 R0 R1 ∧ R1 < R0 ∧ R0 ≤ y

theorem Lehm.start {F x y xh yh : Nat} (h : yh ≤ xh) : Lehm F x y xh yh true 0 0 1 0 0 1 xh yh x where
  hx := by omega
  hy := by omega
  det := by simp
  le := h
  ab := by simp
  now := by simp
  nowle := by simp
  bef := by simp

theorem Lehm.pos {F x y xh yh : Nat} {even : Bool} {a0 b0 a1 b1 a2 b2 r1 r2 R1 : Nat} (h : Lehm F x y xh yh even a0 b0 a1 b1 a2 b2 r1 r2 R1) : 1 ≤ b2 := by
  have d := h.det
  have k := h.ab.1
  rcases Nat.eq_zero_or_pos b2 with rfl | e
  · have : a2 = 0 := by omega
    subst this
    cases even <;> simp at d
  · exact e
/-- no sum or product of the loop is too great -/
theorem Lehm.fits {F x y xh yh : Nat} {even : Bool} {a0 b0 a1 b1 a2 b2 r1 r2 R1 : Nat} (h : Lehm F x y xh yh even a0 b0 a1 b1 a2 b2 r1 r2 R1) (hr : 1 ≤ r2) :
    b1 + b2 ≤ xh ∧ b1 + r1 / r2 * b2 ≤ xh ∧ a1 + r1 / r2 * a2 ≤ b1 + r1 / r2 * b2 := by
  have e := h.hx
  have l := h.le
  have q := Nat.div_add_mod r1 r2
  have q1 : 1 ≤ r1 / r2 := (Nat.le_div_iff_mul_le (by omega)).2 (by omega)
  refine ⟨?_, ?_, ?_⟩
  · have h1 := Nat.mul_le_mul_left b2 (show 1 ≤ r1 by omega)
    have h2 := Nat.mul_le_mul_left b1 hr
    omega
  · generalize r1 / r2 = u at *
    generalize r1 % r2 = v at *
    have e2 : xh = (b1 + u * b2) * r2 + b2 * v := by rw [e, ← q]; grind
    have := Nat.mul_le_mul_left (b1 + u * b2) hr
    omega
  · obtain ⟨h1, h2 | ⟨h2, h3, h4, h5⟩⟩ := h.ab
    · have := Nat.mul_le_mul_left (r1 / r2) h1; omega
    · subst h2 h3 h4 h5; omega

theorem Lehm.step {F x y xh yh xl yl : Nat} {even : Bool} {a0 b0 a1 b1 a2 b2 r1 r2 R1 : Nat} (h : Lehm F x y xh yh even a0 b0 a1 b1 a2 b2 r1 r2 R1)
    (ex : x = xh * F + xl) (ey : y = yh * F + yl) (lx : xl < F) (ly : yl < F) (h1 : b2 ≤ r2) (h2 : b1 + b2 ≤ r1 - r2) :
    ∃ R2, Lehm F x y xh yh (!even) a1 b1 a2 b2 (a1 + r1 / r2 * a2) (b1 + r1 / r2 * b2) r2 (r1 % r2) R2 := by
  have hp := h.pos
  have hr2 : 0 < r2 := by omega
  have h3 : b1 + b2 + r2 ≤ r1 := by have := h.le; omega
  have hF := h.fits hr2
  have q := Nat.div_add_mod r1 r2
  have qm := Nat.mod_lt r1 hr2
  obtain ⟨hx, hy, det, le, ⟨ab2, ab1⟩, now, nowle, bef⟩ := h
  obtain ⟨f1, f2, f3⟩ := hF
  generalize r1 / r2 = u at *
  generalize r1 % r2 = v at *
  -- the next remainder is certain
  have key : ∃ R2, (if even then b2 * y = R2 + a2 * x else a2 * x = R2 + b2 * y) ∧ R2 < R1 := by
    cases even
    · -- odd: a2 x - b2 y
      simp only [Bool.false_eq_true, if_false] at det now ⊢
      have i1 : a2 * xh = r2 + b2 * yh := by rw [hx, hy]; grind
      have i2 : b1 * yh = r1 + a1 * xh := by rw [hx, hy]; grind
      have e1 : a2 * x = r2 * F + b2 * (yh * F) + a2 * xl := by rw [ex, Nat.mul_add, ← Nat.mul_assoc, i1]; grind
      have e2 : b1 * y = r1 * F + a1 * (xh * F) + b1 * yl := by rw [ey, Nat.mul_add, ← Nat.mul_assoc, i2]; grind
      have e3 : b2 * y = b2 * (yh * F) + b2 * yl := by rw [ey, Nat.mul_add]
      have e4 : a1 * x = a1 * (xh * F) + a1 * xl := by rw [ex, Nat.mul_add]
      have a2p : 1 ≤ a2 := by
        rcases Nat.eq_zero_or_pos a2 with rfl | e
        · simp at det
        · exact e
      have a1b : a1 ≤ b1 := by
        rcases ab1 with e | ⟨_, _, e, _⟩
        · exact e
        · omega
      have m1 : b2 * yl ≤ b2 * F := Nat.mul_le_mul_left _ (Nat.le_of_lt ly)
      have m2 : b2 * F ≤ r2 * F := Nat.mul_le_mul_right _ h1
      have m3 : a2 * xl < a2 * F := Nat.mul_lt_mul_of_pos_left lx a2p
      have m4 : a2 * F ≤ b2 * F := Nat.mul_le_mul_right _ ab2
      have m5 : (b1 + b2 + r2) * F ≤ r1 * F := Nat.mul_le_mul_right _ h3
      have m6 : a1 * xl ≤ a1 * F := Nat.mul_le_mul_left _ (Nat.le_of_lt lx)
      have m7 : a1 * F ≤ b1 * F := Nat.mul_le_mul_right _ a1b
      rw [Nat.add_mul, Nat.add_mul] at m5
      exact ⟨a2 * x - b2 * y, by omega, by omega⟩
    · simp only [if_true] at det now ⊢
      have i1 : b2 * yh = r2 + a2 * xh := by rw [hx, hy]; grind
      have i2 : a1 * xh = r1 + b1 * yh := by rw [hx, hy]; grind
      have e1 : b2 * y = r2 * F + a2 * (xh * F) + b2 * yl := by rw [ey, Nat.mul_add, ← Nat.mul_assoc, i1]; grind
      have e2 : a1 * x = r1 * F + b1 * (yh * F) + a1 * xl := by rw [ex, Nat.mul_add, ← Nat.mul_assoc, i2]; grind
      have e3 : a2 * x = a2 * (xh * F) + a2 * xl := by rw [ex, Nat.mul_add]
      have e4 : b1 * y = b1 * (yh * F) + b1 * yl := by rw [ey, Nat.mul_add]
      have m1 : b2 * yl < b2 * F := Nat.mul_lt_mul_of_pos_left ly hp
      have m2 : b2 * F ≤ r2 * F := Nat.mul_le_mul_right _ h1
      have m3 : a2 * xl ≤ a2 * F := Nat.mul_le_mul_left _ (Nat.le_of_lt lx)
      have m4 : a2 * F ≤ b2 * F := Nat.mul_le_mul_right _ ab2
      have m5 : (b1 + b2 + r2) * F ≤ r1 * F := Nat.mul_le_mul_right _ h3
      have m6 : b1 * yl ≤ b1 * F := Nat.mul_le_mul_left _ (Nat.le_of_lt ly)
      rw [Nat.add_mul, Nat.add_mul] at m5
      exact ⟨b2 * y - a2 * x, by omega, by omega⟩
  obtain ⟨R2, k1, k2⟩ := key
  refine ⟨R2, ?_, ?_, ?_, by omega, ⟨f3, Or.inl ab2⟩, ?_, ?_, ?_⟩
  · rw [hx, ← q]; grind
  · rw [hy, ← q]; grind
  · cases even
    · simp at det ⊢; grind
    · simp at det ⊢; grind
  · cases even <;> simpa using k1
  · intro _
    by_cases hb : b1 = 0
    · rcases ab1 with e | ⟨e1, e2, e3, e4⟩
      · have : a1 = 0 := by omega
        subst this hb
        cases even <;> simp at det
      · subst e1 e2 e3 e4
        cases even
        · simp at det
        · simp at k1; omega
    · have := nowle hb; omega
  · intro hb
    refine ⟨R1, ⟨?_, ?_, ?_⟩, k2, nowle hb⟩
    · cases even <;> simpa using now
    · cases even <;> simpa using k1
    · cases even <;> simpa using det

/-- the two remainders have the divisors that x and y have -/
theorem Cert.gcd {x y : Nat} {even : Bool} {a b a' b' R R' : Nat} (h : Cert x y even a b a' b' R R') : Nat.gcd R R' = Nat.gcd x y := by
  obtain ⟨h1, h2, h3⟩ := h
  have e : x = b' * R + b * R' ∧ y = a' * R + a * R' := by
    cases even
    · simp only [Bool.false_eq_true, if_false] at h1 h2 h3
      -- R = b y - a x, R' = a' x - b' y
      have hR : (R : Int) = b * y - a * x := by have := congrArg (Nat.cast (R := Int)) h1; simp at this; omega
      have hR' : (R' : Int) = a' * x - b' * y := by have := congrArg (Nat.cast (R := Int)) h2; simp at this; omega
      have hD : (a' : Int) * b = a * b' + 1 := by have := congrArg (Nat.cast (R := Int)) h3; simpa using this
      constructor
      · have : (x : Int) = b' * R + b * R' := by rw [hR, hR']; grind
        exact_mod_cast this
      · have : (y : Int) = a' * R + a * R' := by rw [hR, hR']; grind
        exact_mod_cast this
    · simp only [if_true] at h1 h2 h3
      have hR : (R : Int) = a * x - b * y := by have := congrArg (Nat.cast (R := Int)) h1; simp at this; omega
      have hR' : (R' : Int) = b' * y - a' * x := by have := congrArg (Nat.cast (R := Int)) h2; simp at this; omega
      have hD : (a : Int) * b' = a' * b + 1 := by have := congrArg (Nat.cast (R := Int)) h3; simpa using this
      constructor
      · have : (x : Int) = b' * R + b * R' := by rw [hR, hR']; grind
        exact_mod_cast this
      · have : (y : Int) = a' * R + a * R' := by rw [hR, hR']; grind
        exact_mod_cast this
  apply Nat.dvd_antisymm
  · have d1 := Nat.gcd_dvd_left R R'
    have d2 := Nat.gcd_dvd_right R R'
    apply Nat.dvd_gcd
    · rw [e.1]; exact Nat.dvd_add (Nat.dvd_mul_left_of_dvd d1 _) (Nat.dvd_mul_left_of_dvd d2 _)
    · rw [e.2]; exact Nat.dvd_add (Nat.dvd_mul_left_of_dvd d1 _) (Nat.dvd_mul_left_of_dvd d2 _)
  · have d1 := Nat.gcd_dvd_left x y
    have d2 := Nat.gcd_dvd_right x y
    have cx : ∀ k, Nat.gcd x y ∣ k * x := fun k => Nat.dvd_mul_left_of_dvd d1 _
    have cy : ∀ k, Nat.gcd x y ∣ k * y := fun k => Nat.dvd_mul_left_of_dvd d2 _
    apply Nat.dvd_gcd
    · cases even
      · simp only [Bool.false_eq_true, if_false] at h1
        have := cy b; rw [h1] at this
        exact (Nat.dvd_add_iff_left (cx a)).2 this
      · simp only [if_true] at h1
        have := cx a; rw [h1] at this
        exact (Nat.dvd_add_iff_left (cy b)).2 this
    · cases even
      · simp only [Bool.false_eq_true, if_false] at h2
        have := cx a'; rw [h2] at this
        exact (Nat.dvd_add_iff_left (cy b')).2 this
      · simp only [if_true] at h2
        have := cy b'; rw [h2] at this
        exact (Nat.dvd_add_iff_left (cx a')).2 this
/-- the gap of two multiples -/
theorem Cert.gaps {x y : Nat} {even : Bool} {a b a' b' R R' : Nat} (h : Cert x y even a b a' b' R R') : (if x * a < y * b then y * b - x * a else x * a - y * b) = R ∧ (if x * a' < y * b' then y * b' - x * a' else x * a' - y * b') = R' := by
  obtain ⟨h1, h2, _⟩ := h
  rw [Nat.mul_comm x a, Nat.mul_comm y b, Nat.mul_comm x a', Nat.mul_comm y b']
  cases even
  · simp only [Bool.false_eq_true, if_false] at h1 h2
    constructor <;> split <;> omega
  · simp only [if_true] at h1 h2
    constructor <;> split <;> omega
end Go.Proofs.YtiddhnnofpbopaaDoor
