/- Words for lists of maps (a weight and a list of numbers each: two cells an element): what reads as such a list, what a call has made for itself. Conditions: none: plain lemmas. -/
import Derived.Test.YtgaadcinhaphpaaDoorKinds
namespace Go.Proofs.YtgaadcinhaphpaaDoor
open Go.RowKit Go.Deep
set_option linter.unusedVariables false

/-- weights and lists, cell by cell -/
def fl : List (Int × Value) → List Value
  | [] => []
  | (x, v) :: r => .int .i64 x :: v :: fl r
theorem fl_length : ∀ ps : List (Int × Value), (fl ps).length = ps.length * 2
  | [] => rfl
  | (x, v) :: r => by simp only [fl, List.length_cons, fl_length r]; omega
theorem fl_append : ∀ a b : List (Int × Value), fl (a ++ b) = fl a ++ fl b
  | [], b => rfl
  | (x, v) :: r, b => by simp only [List.cons_append, fl, fl_append r b]
theorem fl_even : ∀ (ps : List (Int × Value)) (i : Nat), i < ps.length → (fl ps).getD (i * 2) undef = .int .i64 (ps.getD i (0, undef)).1
  | [], i, h => by simp at h
  | (x, v) :: r, 0, _ => by simp [fl, List.getD]
  | (x, v) :: r, i + 1, h => by
    have := fl_even r i (by simpa using h)
    rw [show (i + 1) * 2 = i * 2 + 1 + 1 by omega]
    simp only [fl, List.getD_cons_succ, this]
theorem fl_odd : ∀ (ps : List (Int × Value)) (i : Nat), i < ps.length → (fl ps).getD (i * 2 + 1) undef = (ps.getD i (0, undef)).2
  | [], i, h => by simp at h
  | (x, v) :: r, 0, _ => by simp [fl, List.getD]
  | (x, v) :: r, i + 1, h => by
    have := fl_odd r i (by simpa using h)
    rw [show (i + 1) * 2 + 1 = i * 2 + 1 + 1 + 1 by omega]
    simp only [fl, List.getD_cons_succ, this]
theorem fl_set : ∀ (ps : List (Int × Value)) (i : Nat) (x : Int) (v : Value), i < ps.length → ((fl ps).set (i * 2) (.int .i64 x)).set (i * 2 + 1) v = fl (ps.set i (x, v))
  | [], i, _, _, h => by simp at h
  | (x0, v0) :: r, 0, x, v, _ => by simp [fl]
  | (x0, v0) :: r, i + 1, x, v, h => by
    have := fl_set r i x v (by simpa using h)
    rw [show (i + 1) * 2 = i * 2 + 1 + 1 by omega]
    simp only [fl, List.set_cons_succ, this]
theorem fl_set_w : ∀ (ps : List (Int × Value)) (i : Nat) (x : Int), i < ps.length → (fl ps).set (i * 2) (.int .i64 x) = fl (ps.set i (x, (ps.getD i (0, undef)).2))
  | [], i, _, h => by simp at h
  | (x0, v0) :: r, 0, x, _ => by simp [fl, List.getD]
  | (x0, v0) :: r, i + 1, x, h => by
    have := fl_set_w r i x (by simpa using h)
    rw [show (i + 1) * 2 = i * 2 + 1 + 1 by omega]
    simp only [fl, List.set_cons_succ, this, List.getD_cons_succ]

abbrev Mp := Int × List Int
abbrev mp0 : Mp := (0, [])
/-- the slice v reads as the maps l -/
def MapsL (w : World) (v : Value) (l : List Mp) : Prop :=
  l.length ≤ maxLen ∧ ∃ (a : Option Addr) (cap : Nat) (rv : Nat → Value), v = .slice a l.length cap ∧ (l.length ≤ cap ∧ cap ≤ maxLen) ∧
    ∀ i, i < l.length → ∃ b off, a = some ⟨b, off, none⟩ ∧ w.cell? ⟨b, off + i * 2, none⟩ = some (.int .i64 (l.getD i mp0).1) ∧ w.cell? ⟨b, off + i * 2 + 1, none⟩ = some (rv i) ∧ Ints w (rv i) (l.getD i mp0).2
theorem MapsL.keep {w w' : World} {v : Value} {l : List Mp} (h : MapsL w v l) (hb : Below w.heap.size w w') : MapsL w' v l := by
  obtain ⟨hm, a, cap, rv, hv, hk, hc⟩ := h
  refine ⟨hm, a, cap, rv, hv, hk, fun i hi => ?_⟩
  obtain ⟨b, off, ha, h1, h2, h3⟩ := hc i hi
  exact ⟨b, off, ha, by rw [hb.cell (block_lt h1)]; exact h1, by rw [hb.cell (block_lt h2)]; exact h2, h3.keep hb⟩
theorem MapsL.len {w : World} {v : Value} {l : List Mp} (h : MapsL w v l) : l.length ≤ maxLen ∧ ∃ a cap, v = .slice a l.length cap := by
  obtain ⟨hm, a, cap, _, hv, _⟩ := h; exact ⟨hm, a, cap, hv⟩
theorem MapsL.at {w : World} {v : Value} {l : List Mp} (h : MapsL w v l) (hne : 0 < l.length) :
    ∃ (b off cap : Nat) (rv : Nat → Value), v = .slice (some ⟨b, off, none⟩) l.length cap ∧ b < w.heap.size ∧
      ∀ i, i < l.length → w.cell? ⟨b, off + i * 2, none⟩ = some (.int .i64 (l.getD i mp0).1) ∧ w.cell? ⟨b, off + i * 2 + 1, none⟩ = some (rv i) ∧ Ints w (rv i) (l.getD i mp0).2 := by
  obtain ⟨hm, a, cap, rv, hv, _, hc⟩ := h
  obtain ⟨b, off, ha, h1, _⟩ := hc 0 hne
  subst ha
  refine ⟨b, off, cap, rv, hv, block_lt h1, fun i hi => ?_⟩
  obtain ⟨b', off', ha, h1, h2, h3⟩ := hc i hi
  cases ha
  exact ⟨h1, h2, h3⟩

structure Ms where
  n : Int
  t : Int
  l : List Mp
def MsR (w : World) (mv : Value) (m : Ms) : Prop := ∃ v, mv = .agg #[.int .i64 m.n, .int .i64 m.t, v] ∧ MapsL w v m.l
theorem MsR.keep {w w' : World} {cv : Value} {c : Ms} (h : MsR w cv c) (hb : Below w.heap.size w w') : MsR w' cv c := by
  obtain ⟨v, hv, hr⟩ := h
  exact ⟨v, hv, hr.keep hb⟩
theorem MsR.shape {w : World} {cv : Value} {c : Ms} (h : MsR w cv c) : ∃ a cap, cv = .agg #[.int .i64 c.n, .int .i64 c.t, .slice a c.l.length cap] := by
  obtain ⟨v, rfl, hr⟩ := h
  obtain ⟨_, a, cap, rfl⟩ := hr.len
  exact ⟨a, cap, rfl⟩

/-- how many numbers maps hold in their lists -/
abbrev tot (l : List Mp) : Nat := total (l.map Prod.snd)
theorem tot_take_succ (l : List Mp) (k : Nat) (h : k < l.length) : tot (l.take (k + 1)) = tot (l.take k) + (l.getD k mp0).2.length := by
  have := total_take_succ (l.map Prod.snd) k (by simpa using h)
  rw [← List.map_take, ← List.map_take] at this
  rw [tot, tot, this]
  simp [List.getD, h]
theorem tot_take_le (l : List Mp) (k : Nat) : tot (l.take k) ≤ tot l := by
  have := total_take_le (l.map Prod.snd) k
  rw [← List.map_take] at this
  exact this
theorem tot_take_all (l : List Mp) : tot (l.take l.length) = tot l := by rw [List.take_length]
theorem tot_row_le (l : List Mp) (k : Nat) (h : k < l.length) : (l.getD k mp0).2.length ≤ tot l := by
  have h1 := tot_take_succ l k h
  have h2 := tot_take_le l (k + 1)
  omega

/-! ### what a call has made: two cells an element -/
def Own2 (w : World) (lo hi : Nat) (e : TypeId) (v : Value) (n : Nat) (vs : List Value) : Prop :=
  w.ownsRow lo e 2 v n vs ∧ n ≤ maxLen ∧ ∀ k, v.ownBlock = some k → k < hi
theorem Own2.of {w : World} {lo hi : Nat} {e : TypeId} {v : Value} {n : Nat} {vs : List Value} (h : w.ownsRow lo e 2 v n vs) (hh : w.heap.size ≤ hi) : Own2 w lo hi e v n vs := by
  refine ⟨h, ?_, fun k hk => Nat.lt_of_lt_of_le (h.lt k hk).2 hh⟩
  rcases h.2 with ⟨_, h0⟩ | ⟨g, cap, cur, _, _, _, h1, h2, _⟩ <;> omega
theorem Own2.keep {w w' : World} {lo hi B : Nat} {e : TypeId} {v : Value} {n : Nat} {vs : List Value} (h : Own2 w lo hi e v n vs) (hB : hi ≤ B) (hb : Below B w w') : Own2 w' lo hi e v n vs := by
  obtain ⟨ho, hm, hk⟩ := h
  refine ⟨⟨ho.1, ?_⟩, hm, hk⟩
  rcases ho.2 with hn | ⟨g, cap, cur, rfl, hg, hh, r⟩
  · exact Or.inl hn
  · exact Or.inr ⟨g, cap, cur, rfl, hg, by rw [hb.block g (by have := hk g rfl; omega)]; exact hh, r⟩
theorem Own2.wide {w : World} {lo hi lo' hi' : Nat} {e : TypeId} {v : Value} {n : Nat} {vs : List Value} (h : Own2 w lo hi e v n vs) (h1 : lo' ≤ lo) (h2 : hi ≤ hi') : Own2 w lo' hi' e v n vs := by
  obtain ⟨ho, hm, hk⟩ := h
  refine ⟨⟨ho.1, ?_⟩, hm, fun k h => Nat.lt_of_lt_of_le (hk k h) h2⟩
  rcases ho.2 with hn | ⟨g, cap, cur, hv, hg, r⟩
  · exact Or.inl hn
  · exact Or.inr ⟨g, cap, cur, hv, by omega, r⟩
theorem Own2.same {w w' : World} {lo hi : Nat} {e : TypeId} {v : Value} {n : Nat} {vs : List Value} (h : Own2 w lo hi e v n vs) (hs : SameOn lo hi w w') : Own2 w' lo hi e v n vs := by
  obtain ⟨ho, hm, hk⟩ := h
  refine ⟨⟨ho.1, ?_⟩, hm, hk⟩
  rcases ho.2 with hn | ⟨g, cap, cur, rfl, hg, hh, r⟩
  · exact Or.inl hn
  · exact Or.inr ⟨g, cap, cur, rfl, hg, by rw [hs g hg (hk g rfl)]; exact hh, r⟩
theorem Own2.sameBlk {w w' : World} {lo hi : Nat} {e : TypeId} {v : Value} {n : Nat} {vs : List Value} (h : Own2 w lo hi e v n vs) (hs : ∀ k, k < w.heap.size → v.ownBlock = some k → w'.heap[k]? = w.heap[k]?) : Own2 w' lo hi e v n vs := by
  obtain ⟨ho, hm, hk⟩ := h
  have ho' := ho
  refine ⟨⟨ho.1, ?_⟩, hm, hk⟩
  rcases ho.2 with hn | ⟨g, cap, cur, rfl, hg, hh, r⟩
  · exact Or.inl hn
  · exact Or.inr ⟨g, cap, cur, rfl, hg, by rw [hs g (ho'.lt g rfl).2 rfl]; exact hh, r⟩
theorem Own2.setOther {w : World} {lo hi : Nat} {e : TypeId} {v : Value} {n : Nat} {vs : List Value} (h : Own2 w lo hi e v n vs) {a : Addr} (ha : v.ownBlock ≠ some a.block) (u : Value) : Own2 (w.setCell a u) lo hi e v n vs :=
  h.sameBlk fun k _ hk => Below.heap_setCell _ _ _ _ (by intro e; apply ha; rw [hk, e])
/-- where there is an element: its block -/
theorem Own2.at {w : World} {lo hi : Nat} {e : TypeId} {v : Value} {n : Nat} {vs : List Value} (h : Own2 w lo hi e v n vs) (hne : 0 < n) :
    ∃ g cap, v = .slice (some ⟨g, 0, none⟩) n cap ∧ lo ≤ g ∧ g < hi ∧ g < w.heap.size ∧ (∀ i, i < n * 2 → w.cell? ⟨g, i, none⟩ = some (vs.getD i undef)) ∧ ∀ i, w.frozen? ⟨g, i, none⟩ = false := by
  obtain ⟨ho, hm, hk⟩ := h
  have ho' := ho
  have hlen := ho.1
  rcases ho.2 with ⟨_, h0⟩ | ⟨g, cap, cur, rfl, hg, hh, hn, _, hs, ht⟩
  · omega
  · refine ⟨g, cap, rfl, hg, hk g rfl, (ho'.lt g rfl).2, fun i hi => ?_, fun i => ho'.frozenAt i⟩
    rw [ho'.cellAt i (by omega)]
    simp [List.getD, show i < vs.length by omega]
theorem Own2.set {w : World} {lo hi : Nat} {e : TypeId} {g cap n m : Nat} {vs : List Value} (h : Own2 w lo hi e (.slice (some ⟨g, 0, none⟩) m cap) n vs) (i : Nat) (u : Value) :
    Own2 (w.setCell ⟨g, i, none⟩ u) lo hi e (.slice (some ⟨g, 0, none⟩) m cap) n (vs.set i u) := by
  obtain ⟨ho, hm, hk⟩ := h
  rcases ho.2 with ⟨hv, h0⟩ | ⟨g', cap', cur, hv, hg, hh, hn, hc, hs, ht⟩
  · cases hv
  · cases hv
    refine ⟨⟨by simpa using ho.1, Or.inr ⟨g, cap, cur.setIfInBounds i u, rfl, hg, ?_, hn, hc, by simpa using hs, ?_⟩⟩, hm, hk⟩
    · simp [World.setCell, Array.getElem?_modify, hh]
    · simp only [Array.toList_setIfInBounds]
      rw [List.take_set, ht]
/-- maps that a call has made: each list in a block of its own -/
def OwnMaps (e2 e1 : TypeId) (w : World) (lo hi : Nat) (v : Value) (l : List Mp) : Prop :=
  ∃ ps : List (Int × Value), Own2 w lo hi e2 v l.length (fl ps) ∧ ps.length = l.length ∧ (∀ i, i < l.length → (ps.getD i (0, undef)).1 = (l.getD i mp0).1 ∧ Own w lo hi e1 (ps.getD i (0, undef)).2 (ints (l.getD i mp0).2)) ∧
    (∀ i, i < l.length → ∀ k, (ps.getD i (0, undef)).2.ownBlock = some k → v.ownBlock ≠ some k) ∧
    (∀ i j, i < l.length → j < l.length → i ≠ j → ∀ k, (ps.getD i (0, undef)).2.ownBlock = some k → (ps.getD j (0, undef)).2.ownBlock ≠ some k)
theorem OwnMaps.maps {e2 e1 : TypeId} {w : World} {lo hi : Nat} {v : Value} {l : List Mp} (h : OwnMaps e2 e1 w lo hi v l) : MapsL w v l := by
  obtain ⟨ps, ho, hl, hr, _⟩ := h
  by_cases hne : 0 < l.length
  · have hc := ho.1.2
    obtain ⟨g, cap, rfl, _, _, _, hcell, _⟩ := ho.at hne
    have hcap : l.length ≤ cap ∧ cap ≤ maxLen := by
      rcases hc with ⟨h0, _⟩ | ⟨g', cap', cur, h0, _, _, h1, h2, _⟩
      · cases h0
      · cases h0; exact ⟨h1, h2⟩
    refine ⟨ho.2.1, some ⟨g, 0, none⟩, cap, fun i => (ps.getD i (0, undef)).2, rfl, hcap, fun i hi => ⟨g, 0, rfl, ?_, ?_, (hr i hi).2.row⟩⟩
    · have := hcell (i * 2) (by omega)
      rw [fl_even ps i (by omega), (hr i hi).1] at this
      rw [Nat.zero_add]; exact this
    · have := hcell (i * 2 + 1) (by omega)
      rw [fl_odd ps i (by omega)] at this
      rw [Nat.zero_add]; exact this
  · rcases ho.1.2 with ⟨h0, h1⟩ | ⟨g', cap', cur, h0, _, _, h1, h2, _⟩
    · exact ⟨ho.2.1, none, 0, fun _ => undef, by rw [h0, h1], ⟨by omega, Nat.zero_le _⟩, fun i hi => by omega⟩
    · exact ⟨ho.2.1, some ⟨g', 0, none⟩, cap', fun _ => undef, h0, ⟨h1, h2⟩, fun i hi => by omega⟩
theorem OwnMaps.keep {e2 e1 : TypeId} {w w' : World} {lo hi B : Nat} {v : Value} {l : List Mp} (h : OwnMaps e2 e1 w lo hi v l) (hB : hi ≤ B) (hb : Below B w w') : OwnMaps e2 e1 w' lo hi v l := by
  obtain ⟨ps, ho, hl, hr, hd⟩ := h
  exact ⟨ps, ho.keep hB hb, hl, fun i hi => ⟨(hr i hi).1, (hr i hi).2.keep hB hb⟩, hd⟩
theorem OwnMaps.wide {e2 e1 : TypeId} {w : World} {lo hi lo' hi' : Nat} {v : Value} {l : List Mp} (h : OwnMaps e2 e1 w lo hi v l) (h1 : lo' ≤ lo) (h2 : hi ≤ hi') : OwnMaps e2 e1 w lo' hi' v l := by
  obtain ⟨ps, ho, hl, hr, hd⟩ := h
  exact ⟨ps, ho.wide h1 h2, hl, fun i hi => ⟨(hr i hi).1, (hr i hi).2.wide h1 h2⟩, hd⟩
theorem OwnMaps.same {e2 e1 : TypeId} {w w' : World} {lo hi : Nat} {v : Value} {l : List Mp} (h : OwnMaps e2 e1 w lo hi v l) (hs : SameOn lo hi w w') : OwnMaps e2 e1 w' lo hi v l := by
  obtain ⟨ps, ho, hl, hr, hd⟩ := h
  exact ⟨ps, ho.same hs, hl, fun i hi => ⟨(hr i hi).1, (hr i hi).2.same hs⟩, hd⟩

structure MsMine (e2 e1 : TypeId) (w : World) (lo hi : Nat) (mv : Value) (m : Ms) : Prop where
  own : ∃ v, mv = .agg #[.int .i64 m.n, .int .i64 m.t, v] ∧ OwnMaps e2 e1 w lo hi v m.l
  le : hi ≤ w.heap.size
theorem MsMine.step {e2 e1 : TypeId} {w w' : World} {lo hi : Nat} {cv : Value} {c : Ms} (h : MsMine e2 e1 w lo hi cv c) (hb : Below w.heap.size w w') : MsMine e2 e1 w' lo hi cv c := by
  obtain ⟨⟨v, hv, ho⟩, hl⟩ := h
  exact ⟨⟨v, hv, ho.keep hl hb⟩, Nat.le_trans hl hb.size⟩
theorem MsMine.touch {e2 e1 : TypeId} {w w' : World} {lo hi a b : Nat} {cv : Value} {c : Ms} (h : MsMine e2 e1 w lo hi cv c) (ht : Touched a b w w') (hd : hi ≤ a ∨ b ≤ lo) : MsMine e2 e1 w' lo hi cv c := by
  obtain ⟨⟨v, hv, ho⟩, hl⟩ := h
  exact ⟨⟨v, hv, ho.same fun k h1 h2 => ht.block k (by omega) (by omega)⟩, Nat.le_trans hl ht.size⟩
theorem MsMine.ch {e2 e1 : TypeId} {w : World} {lo hi : Nat} {cv : Value} {c : Ms} (h : MsMine e2 e1 w lo hi cv c) : MsR w cv c := by
  obtain ⟨⟨v, hv, ho⟩, _⟩ := h
  exact ⟨v, hv, ho.maps⟩
theorem MsMine.shape {e2 e1 : TypeId} {w : World} {lo hi : Nat} {cv : Value} {c : Ms} (h : MsMine e2 e1 w lo hi cv c) : ∃ a cap, cv = .agg #[.int .i64 c.n, .int .i64 c.t, .slice a c.l.length cap] := h.ch.shape
theorem MsMine.filled {e2 e1 : TypeId} {w : World} {lo hi b : Nat} {cv : Value} {c : Ms} (h : MsMine e2 e1 w lo hi cv c) (hb : b < lo ∨ hi ≤ b) (x y z : Value) : MsMine e2 e1 (((w.setCell ⟨b, 0, none⟩ x).setCell ⟨b, 1, none⟩ y).setCell ⟨b, 2, none⟩ z) lo hi cv c := by
  obtain ⟨⟨v, hv, ho⟩, hl⟩ := h
  exact ⟨⟨v, hv, ho.same ((((SameOn.refl _ _ _).set (a := ⟨b, 0, none⟩) hb x).set (a := ⟨b, 1, none⟩) hb y).set (a := ⟨b, 2, none⟩) hb z)⟩, by simpa [World.setCell] using hl⟩
end Go.Proofs.YtgaadcinhaphpaaDoor
