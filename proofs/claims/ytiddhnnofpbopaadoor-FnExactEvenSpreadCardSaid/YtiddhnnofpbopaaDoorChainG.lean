/- ChainG: several texts in one (Open, To, Mark, Touch, Eq, Sz, Kinds). Conditions: told in each. -/
import Derived.Test.YtiddhnnofpbopaaDoorNumG
import Derived.ProofKit
import Derived.OpenShut
import Derived.ShutString
import Derived.ChangeOld
import Derived.Below
import Derived.Lib.SmallJoins
import Derived.Deep.Matrix
import Derived.Deep.RegionHeld3
import Derived.ChangeSlices
import Derived.Deep.DeepCutAuto
/- The laws' arguments, opened: a chain that came in reads as a Ch. Conditions: none. -/
namespace Go.Proofs.YtiddhnnofpbopaaDoor
open Go.ChangeShapes Go.WideShapes Go.ChangeAt Go.RowKit Go.Deep Go.Joins

theorem add_plain (b off i : Nat) : (⟨b, off, none⟩ : Addr).add i = ⟨b, off + i, none⟩ := by
  unfold Addr.add; split <;> simp_all
theorem spot_none {w : World} {a : Addr} {n : Nat} {V : Nat → Value} (hc : ∀ i, i < n → w.cell? (a.add i) = some (V i)) (hn : 0 < n) : a = ⟨a.block, a.off, none⟩ := by
  have h := World.cell?_spot (hc 0 hn)
  obtain ⟨b, off, spot⟩ := a
  simp [Addr.add] at h
  rw [h]

theorem row_of_cells {w : World} {a : Addr} {len cap : Nat} {V : Nat → Value} (hm : len ≤ maxLen) (hc : ∀ i, i < len → w.cell? (a.add i) = some (V i)) (hl : len ≤ cap) (hcap : cap ≤ maxLen) :
    Row w (.slice (some a) len cap) ((List.range len).map V) := by
  refine ⟨by simpa using hm, some a, cap, by simp, ⟨by simpa using hl, hcap⟩, fun i hi => ?_⟩
  have hi' : i < len := by simpa using hi
  have h := hc i hi'
  have hs := spot_none hc (by omega)
  rw [hs, add_plain] at h
  refine ⟨a.block, a.off, by rw [← hs], ?_⟩
  have e : ((List.range len).map V).getD i undef = V i := by simp [List.getD, hi']
  rw [e]
  exact h

set_option maxRecDepth 100000 in
/-- the rows of a slice of slices of int64s -/
theorem open_rows {H : Type} {enc : TypeId × Value → H} {W : World} {base : Nat} {held : Bool} {fuel : Nat} {v : Value} {x : DataW H × List MemPlace}
    (h : DataW.trod enc Tryd.prog W base (fun _ => true) held fuel 30 [v] = some x) : ∃ xss, Rows2 W v xss := by
  rcases open_int_rows Tryd.underlying30 Tryd.underlying29 Tryd.underlying2 (by kernel_rfl) (by kernel_rfl) h with ⟨hcs, _⟩ | ⟨a, len, cap, A, L, C, Z, hcs, _, hl, hm, _, hr⟩
  · simp at hcs
    subst hcs
    exact ⟨[], [], ⟨by simp, none, 0, rfl, ⟨Nat.le_refl _, Nat.zero_le _⟩, fun i hi => by simp at hi⟩, rfl, fun i hi => by simp at hi⟩
  · simp at hcs
    subst hcs
    refine ⟨(List.range len).map fun r => (Z r).take (L r), (List.range len).map fun r => .slice (A r) (L r) (C r), row_of_cells (by omega) (fun i hi => (hr i (by omega)).1) hl hm, by simp, fun i hi => ?_⟩
    have hi' : i < len := by simpa using hi
    obtain ⟨_, h1, h2, h3, _, _, h6⟩ := hr i (by omega)
    have e1 : ((List.range len).map fun r => Value.slice (A r) (L r) (C r)).getD i undef = .slice (A i) (L i) (C i) := by simp [List.getD, hi']
    have e2 : ((List.range len).map fun r => (Z r).take (L r)).getD i [] = (Z i).take (L i) := by simp [List.getD, hi']
    rw [e1, e2]
    have hlen : ((Z i).take (L i)).length = L i := by simp; omega
    refine ⟨by simp only [ints, List.length_map, hlen]; omega, A i, C i, by simp only [ints, List.length_map, hlen], ⟨by simp only [ints, List.length_map, hlen]; omega, by omega⟩, fun j hj => ?_⟩
    simp only [ints, List.length_map, hlen] at hj
    cases hA : A i with
    | none => have := (hr i (by omega)).2.2.2.2.2.1 hA; omega
    | some a' =>
      have h := (h6 a' hA).2 j (by omega)
      have hs := spot_none (h6 a' hA).2 (by omega)
      rw [hs, add_plain] at h
      refine ⟨a'.block, a'.off, by rw [← hs], ?_⟩
      rw [ints_getD _ _ (by rw [hlen]; exact hj)]
      have e3 : ((Z i).take (L i)).getD j 0 = (Z i).getD j 0 := by simp [List.getD, hj]
      rw [e3]
      exact h

theorem Blk.three {w : World} {b : Nat} {x y z : Value} {t : TypeId} (h : Blk w b #[x, y, z] t) :
    w.cell? ⟨b, 0, none⟩ = some x ∧ w.cell? ⟨b, 1, none⟩ = some y ∧ w.cell? ⟨b, 2, none⟩ = some z := ⟨h.cell 0, h.cell 1, h.cell 2⟩
theorem ChOwn.shape {e2 e1 : TypeId} {w : World} {lo hi : Nat} {cv : Value} {c : Ch} (h : ChOwn e2 e1 w lo hi cv c) : ∃ a cap, cv = .agg #[.int .i64 c.n, .int .i64 c.t, .slice a c.w.length cap] := by
  obtain ⟨v, rfl, hr⟩ := h
  obtain ⟨_, a, cap, rfl⟩ := hr.rows.len
  exact ⟨a, cap, rfl⟩
theorem ChR.shape {w : World} {cv : Value} {c : Ch} (h : ChR w cv c) : ∃ a cap, cv = .agg #[.int .i64 c.n, .int .i64 c.t, .slice a c.w.length cap] := by
  obtain ⟨v, rfl, hr⟩ := h
  obtain ⟨_, a, cap, rfl⟩ := hr.len
  exact ⟨a, cap, rfl⟩
theorem Blk.drew {w : World} {b : Nat} {c : Array Value} {t : TypeId} (h : Blk w b c t) : Blk w.drew b c t := h
theorem Blk.step {w w' : World} {b : Nat} {c : Array Value} {t : TypeId} (h : Blk w b c t) (hb : Below w.heap.size w w') : Blk w' b c t := h.keep hb h.lt
theorem below_refl' (w : World) : Below w.heap.size w w := Below.refl _ _
theorem below_drew (w : World) : Below w.heap.size w w.drew := (Below.refl _ _).drew

/-- a chain that a call made, told with its blocks' bounds -/
structure ChMine (e2 e1 : TypeId) (w : World) (lo hi : Nat) (cv : Value) (c : Ch) : Prop where
  own : ChOwn e2 e1 w lo hi cv c
  le : hi ≤ w.heap.size
theorem ChMine.step {e2 e1 : TypeId} {w w' : World} {lo hi : Nat} {cv : Value} {c : Ch} (h : ChMine e2 e1 w lo hi cv c) (hb : Below w.heap.size w w') : ChMine e2 e1 w' lo hi cv c :=
  ⟨h.own.keep h.le hb, Nat.le_trans h.le hb.size⟩
theorem ChMine.ch {e2 e1 : TypeId} {w : World} {lo hi : Nat} {cv : Value} {c : Ch} (h : ChMine e2 e1 w lo hi cv c) : ChR w cv c := h.own.ch
theorem ChMine.shape {e2 e1 : TypeId} {w : World} {lo hi : Nat} {cv : Value} {c : Ch} (h : ChMine e2 e1 w lo hi cv c) : ∃ a cap, cv = .agg #[.int .i64 c.n, .int .i64 c.t, .slice a c.w.length cap] := h.own.shape
theorem ChOwn.mine {e2 e1 : TypeId} {w : World} {lo : Nat} {cv : Value} {c : Ch} (h : ChOwn e2 e1 w lo w.heap.size cv c) : ChMine e2 e1 w lo w.heap.size cv c := ⟨h, Nat.le_refl _⟩
end Go.Proofs.YtiddhnnofpbopaaDoor

/- The laws' copies of numbers, rows and chains: what they return lies in new memory and reads as what came in. Conditions: at most 2^21 numbers in all. -/
namespace Go.Proofs.YtiddhnnofpbopaaDoor
open Go.RowKit Go.Deep

theorem Tryd.infoI : (Tryd.prog.info? 2).map (fun i => (i.zero, i.size, i.bytes)) = some (some (.int .i64 0), 1, 8) := by kernel_rfl
theorem Tryd.infoR : (Tryd.prog.info? 29).map (fun i => (i.zero, i.size, i.bytes)) = some (some (.slice none 0 0), 1, 24) := by kernel_rfl

/-- the first k of xs in front, zeros behind -/
def filled (z : Value) (vs : List Value) (k : Nat) : List Value := vs.take k ++ List.replicate (vs.length - k) z
theorem filled_zero (z : Value) (vs : List Value) : filled z vs 0 = List.replicate vs.length z := by simp [filled]
theorem filled_all (z : Value) (vs : List Value) : filled z vs vs.length = vs := by simp [filled]
theorem filled_length (z : Value) (vs : List Value) (k : Nat) (h : k ≤ vs.length) : (filled z vs k).length = vs.length := by simp [filled]; omega
theorem filled_set (z : Value) (vs : List Value) (k : Nat) (h : k < vs.length) : (filled z vs k).set k (vs.getD k undef) = filled z vs (k + 1) := by
  unfold filled
  have hk : (vs.take k).length = k := by simp; omega
  rw [List.set_append_right _ _ (by omega), hk, Nat.sub_self]
  have e : vs.length - k = (vs.length - (k + 1)) + 1 := by omega
  have e2 : vs.take (k + 1) = vs.take k ++ [vs.getD k undef] := by
    rw [List.take_succ_eq_append_getElem h]; simp [List.getD, h]
  rw [e, List.replicate_succ, List.set_cons_zero, e2, List.append_assoc]
  rfl

/-- rows copied so far: the first k own, the rest nil -/
def OwnTo (w : World) (lo hi : Nat) (v : Value) (xss : List (List Int)) (k : Nat) : Prop :=
  ∃ rvs : List Value, rvs.length = xss.length ∧ Own w lo (lo + 1) 29 v (filled (.slice none 0 0) rvs k) ∧
    (∀ i, i < k → rvs.getD i undef = .slice (some ⟨lo + 1 + i, 0, none⟩) (xss.getD i []).length (xss.getD i []).length ∧ Own w (lo + 1) hi 2 (rvs.getD i undef) (ints (xss.getD i [])))

theorem OwnTo.done {w : World} {lo hi : Nat} {cap : Nat} {xss : List (List Int)} (h : OwnTo w lo hi (.slice (some ⟨lo, 0, none⟩) xss.length cap) xss xss.length) (hh : lo + 1 ≤ hi) :
    OwnRows 29 2 w lo hi (.slice (some ⟨lo, 0, none⟩) xss.length cap) xss := by
  obtain ⟨rvs, hl, ho, hr⟩ := h
  rw [← hl, filled_all, hl] at ho
  refine ⟨rvs, ho.wide (Nat.le_refl _) hh, hl, fun i hi => (hr i hi).2.wide (by omega) (Nat.le_refl _), fun i hi k hk => ?_, fun i j hi hj hne k hk => ?_⟩
  · rw [(hr i hi).1] at hk
    simp [Value.ownBlock] at hk ⊢
    omega
  · rw [(hr i hi).1] at hk
    rw [(hr j hj).1]
    simp [Value.ownBlock] at hk ⊢
    omega

theorem OwnTo.at {w : World} {lo hi cap k : Nat} {xss : List (List Int)} (h : OwnTo w lo hi (.slice (some ⟨lo, 0, none⟩) xss.length cap) xss k) (hk : k < xss.length) :
    ∃ u, w.cell? ⟨lo, k, none⟩ = some u ∧ w.frozen? ⟨lo, k, none⟩ = false := by
  obtain ⟨rvs, hl, ho, _⟩ := h
  have hl' : (filled (.slice none 0 0) rvs k).length = xss.length := by rw [filled_length _ _ _ (by omega), hl]
  obtain ⟨g, c, hv, _, _, _, hc, hf⟩ := ho.at (by omega)
  simp only [Value.slice.injEq, Option.some.injEq, Addr.mk.injEq, and_true] at hv
  obtain ⟨rfl, _, _⟩ := hv
  exact ⟨_, hc k (by omega), hf k⟩

/-- one row more: the callee's copy is stored at k -/
theorem OwnTo.step {w w1 : World} {lo cap k : Nat} {xss : List (List Int)} (h : OwnTo w lo w.heap.size (.slice (some ⟨lo, 0, none⟩) xss.length cap) xss k) (hk : k < xss.length) (hs : w.heap.size = lo + 1 + k)
    (hb : Below w.heap.size w w1) (ho1 : Own w1 w.heap.size (w.heap.size + 1) 2 (.slice (some ⟨w.heap.size, 0, none⟩) (xss.getD k []).length (xss.getD k []).length) (ints (xss.getD k []))) (hs1 : w1.heap.size = w.heap.size + 1) :
    OwnTo (w1.setCell ⟨lo, k, none⟩ (.slice (some ⟨w.heap.size, 0, none⟩) (xss.getD k []).length (xss.getD k []).length)) lo (w1.setCell ⟨lo, k, none⟩ (.slice (some ⟨w.heap.size, 0, none⟩) (xss.getD k []).length (xss.getD k []).length)).heap.size (.slice (some ⟨lo, 0, none⟩) xss.length cap) xss (k + 1) := by
  obtain ⟨rvs, hl, ho, hr⟩ := h
  have hsz : (w1.setCell ⟨lo, k, none⟩ (.slice (some ⟨w.heap.size, 0, none⟩) (xss.getD k []).length (xss.getD k []).length)).heap.size = w.heap.size + 1 := by simp [World.setCell]; omega
  generalize hn : Value.slice (some ⟨w.heap.size, 0, none⟩) (xss.getD k []).length (xss.getD k []).length = nv at *
  have hkr : k < rvs.length := by omega
  refine ⟨rvs.set k nv, by simpa using hl, ?_, fun i hi => ?_⟩
  · have h1 := (ho.keep (by omega) hb).set k nv
    have e : (filled (.slice none 0 0) rvs k).set k nv = filled (.slice none 0 0) (rvs.set k nv) (k + 1) := by
      have := filled_set (.slice none 0 0) (rvs.set k nv) k (by simpa using hkr)
      rw [← this]
      have e1 : (rvs.set k nv).getD k undef = nv := by simp [List.getD, hkr]
      rw [e1]
      congr 1
      unfold filled
      rw [List.take_set_of_le (Nat.le_refl _), List.length_set]
    rw [e] at h1
    exact h1
  · by_cases e : i = k
    · subst e
      have e1 : (rvs.set i nv).getD i undef = nv := by simp [List.getD, hkr]
      rw [e1]
      refine ⟨by rw [← hn, hs], ?_⟩
      have : nv.ownBlock ≠ some lo := by rw [← hn]; simp [Value.ownBlock]; omega
      exact (ho1.setOther (a := ⟨lo, i, none⟩) this nv).wide (by omega) (by omega)
    · have hi' : i < k := by omega
      have e1 : (rvs.set k nv).getD i undef = rvs.getD i undef := by simp [List.getD, Ne.symm e]
      rw [e1]
      obtain ⟨h1, h2⟩ := hr i hi'
      refine ⟨h1, ?_⟩
      have : (rvs.getD i undef).ownBlock ≠ some lo := by rw [h1]; simp [Value.ownBlock]; omega
      exact ((h2.keep (Nat.le_refl _) hb).setOther (a := ⟨lo, k, none⟩) this nv).wide (Nat.le_refl _) (by omega)

end Go.Proofs.YtiddhnnofpbopaaDoor

/- The laws' marks: numbers, rows and chains that a call made are filled with k, k + 1, .., and found so again; what lies outside of their blocks is left. Conditions: few numbers (at most 2^40 in all, k at most 2^40). -/
namespace Go.Proofs.YtiddhnnofpbopaaDoor
open Go.RowKit Go.Deep

/-- only the blocks from lo up to hi may have changed; nothing is new but what is behind -/
structure Touched (lo hi : Nat) (w w' : World) : Prop where
  os : w'.os = w.os
  tape : w'.tape = w.tape
  output : w'.output = w.output
  size : w.heap.size ≤ w'.heap.size
  block : ∀ k, k < w.heap.size → (k < lo ∨ hi ≤ k) → w'.heap[k]? = w.heap[k]?
theorem Touched.refl (lo hi : Nat) (w : World) : Touched lo hi w w := ⟨rfl, rfl, rfl, Nat.le_refl _, fun _ _ _ => rfl⟩
theorem Touched.trans {lo hi : Nat} {a b c : World} (h : Touched lo hi a b) (k : Touched lo hi b c) : Touched lo hi a c :=
  ⟨k.os.trans h.os, k.tape.trans h.tape, k.output.trans h.output, Nat.le_trans h.size k.size, fun i h1 h2 => (k.block i (Nat.lt_of_lt_of_le h1 h.size) h2).trans (h.block i h1 h2)⟩
theorem Touched.set {lo hi : Nat} {w w' : World} (h : Touched lo hi w w') {a : Addr} (h1 : lo ≤ a.block) (h2 : a.block < hi) (u : Value) : Touched lo hi w (w'.setCell a u) :=
  h.trans ⟨rfl, rfl, rfl, by simp [World.setCell], fun k _ hk => Below.heap_setCell _ _ _ _ (by omega)⟩
theorem Touched.of {lo hi : Nat} {w w' : World} (h : Below w.heap.size w w') : Touched lo hi w w' := ⟨h.os, h.tape, h.output, h.size, fun k h1 _ => h.block k h1⟩
theorem Touched.wide {lo hi lo' hi' : Nat} {w w' : World} (h : Touched lo hi w w') (h1 : lo' ≤ lo) (h2 : hi ≤ hi') : Touched lo' hi' w w' :=
  ⟨h.os, h.tape, h.output, h.size, fun k a b => h.block k a (by omega)⟩
theorem Touched.below {lo hi : Nat} {w w' : World} (h : Touched lo hi w w') (hl : lo ≤ w.heap.size) : Below lo w w' := ⟨h.os, h.tape, h.output, h.size, fun k hk => h.block k (by omega) (Or.inl hk)⟩
theorem Touched.same {lo hi : Nat} {w w' : World} (h : Touched lo hi w w') {B : Nat} (hB : B ≤ w.heap.size) : SameOn hi B w w' := fun k h1 h2 => h.block k (by omega) (Or.inr h1)
theorem Touched.under {lo hi : Nat} {w w' : World} (h : Touched lo hi w w') (hl : lo ≤ w.heap.size) (b : Nat) : SameOn b lo w w' := fun k _ h2 => h.block k (by omega) (Or.inl h2)

/-- k, k + 1, .. -/
def marks (k : Int) : Nat → List Int
  | 0 => []
  | n + 1 => k :: marks (k + 1) n
theorem marks_length (k : Int) (n : Nat) : (marks k n).length = n := by induction n generalizing k with | zero => rfl | succ n ih => simp [marks, ih]
theorem marks_getD (k : Int) (n i : Nat) (h : i < n) : (marks k n).getD i 0 = k + i := by
  induction n generalizing k i with
  | zero => omega
  | succ n ih =>
    cases i with
    | zero => simp [marks, List.getD]
    | succ i =>
      have := ih (k + 1) i (by omega)
      simp only [marks, List.getD_cons_succ, this]; omega
/-- the first j marked, the rest as it was -/
def marked (k : Int) (xs : List Int) (j : Nat) : List Int := marks k j ++ xs.drop j
theorem marked_zero (k : Int) (xs : List Int) : marked k xs 0 = xs := by simp [marked, marks]
theorem marked_all (k : Int) (xs : List Int) : marked k xs xs.length = marks k xs.length := by simp [marked]
theorem marked_length (k : Int) (xs : List Int) (j : Nat) (h : j ≤ xs.length) : (marked k xs j).length = xs.length := by simp [marked, marks_length]; omega
theorem marks_snoc (k : Int) (n : Nat) : marks k (n + 1) = marks k n ++ [k + n] := by
  induction n generalizing k with
  | zero => simp [marks]
  | succ n ih =>
    rw [marks, ih (k + 1), marks]
    simp; omega
theorem marked_set (k : Int) (xs : List Int) (j : Nat) (h : j < xs.length) : (marked k xs j).set j (k + j) = marked k xs (j + 1) := by
  unfold marked
  rw [List.set_append_right _ _ (by rw [marks_length]; exact Nat.le_refl _), marks_length, Nat.sub_self, marks_snoc, List.drop_eq_getElem_cons h, List.set_cons_zero, List.append_assoc]
  rfl
theorem ints_set (xs : List Int) (j : Nat) (x : Int) : (ints xs).set j (.int .i64 x) = ints (xs.set j x) := by simp [ints, List.map_set]

/-! ### rows -/
theorem Own.sameBlk {w w' : World} {lo hi : Nat} {e : TypeId} {v : Value} {vs : List Value} (h : Own w lo hi e v vs) (hs : ∀ k, k < w.heap.size → v.ownBlock = some k → w'.heap[k]? = w.heap[k]?) : Own w' lo hi e v vs := by
  obtain ⟨ho, hm, hk⟩ := h
  have ho' := ho
  refine ⟨⟨ho.1, ?_⟩, hm, hk⟩
  rcases ho.2 with hn | ⟨g, cap, cur, rfl, hg, hh, r⟩
  · exact Or.inl hn
  · exact Or.inr ⟨g, cap, cur, rfl, hg, by rw [hs g (ho'.lt g rfl).2 rfl]; exact hh, r⟩
/-- its very block as the bounds -/
theorem Own.tight {w : World} {lo hi : Nat} {e : TypeId} {v : Value} {vs : List Value} (h : Own w lo hi e v vs) :
    ∃ g g', Own w g g' e v vs ∧ (∀ k, g ≤ k → k < g' → v.ownBlock = some k) ∧ (∀ k, g ≤ k → k < g' → lo ≤ k ∧ k < hi) := by
  obtain ⟨ho, hm, hk⟩ := h
  rcases ho.2 with hn | ⟨g, cap, cur, rfl, hg, r⟩
  · refine ⟨0, 0, ⟨⟨ho.1, Or.inl hn⟩, hm, fun k hk' => ?_⟩, fun k _ h2 => by omega, fun k _ h2 => by omega⟩
    rw [hn.1] at hk'; simp [Value.ownBlock] at hk'
  · have := hk g rfl
    refine ⟨g, g + 1, ⟨⟨ho.1, Or.inr ⟨g, cap, cur, rfl, Nat.le_refl _, r⟩⟩, hm, fun k hk' => ?_⟩, fun k h1 h2 => ?_, fun k h1 h2 => by omega⟩
    · simp [Value.ownBlock] at hk'; omega
    · simp [Value.ownBlock]; omega
theorem Own.loose {w : World} {g g' lo hi : Nat} {e : TypeId} {v : Value} {vs : List Value} (h : Own w g g' e v vs) (hw : ∀ k, g ≤ k → k < g' → lo ≤ k ∧ k < hi) : Own w lo hi e v vs := by
  obtain ⟨ho, hm, hk⟩ := h
  refine ⟨⟨ho.1, ?_⟩, hm, fun k hk' => (hw k (ho.lt k hk').1 (hk k hk')).2⟩
  rcases ho.2 with hn | ⟨b, cap, cur, rfl, hg, r⟩
  · exact Or.inl hn
  · exact Or.inr ⟨b, cap, cur, rfl, (hw b hg (hk b rfl)).1, r⟩
theorem Touched.loose {g g' lo hi : Nat} {w w' : World} (h : Touched g g' w w') (hw : ∀ k, g ≤ k → k < g' → lo ≤ k ∧ k < hi) : Touched lo hi w w' :=
  ⟨h.os, h.tape, h.output, h.size, fun k a b => h.block k a (by
    by_cases h1 : g ≤ k
    · by_cases h2 : k < g'
      · have := hw k h1 h2; omega
      · omega
    · omega)⟩

def markRows (k : Int) : List (List Int) → List (List Int)
  | [] => []
  | r :: rs => marks k r.length :: markRows (k + r.length) rs
theorem markRows_length (k : Int) (xss : List (List Int)) : (markRows k xss).length = xss.length := by induction xss generalizing k with | nil => rfl | cons r rs ih => simp [markRows, ih]
theorem markRows_getD (k : Int) (xss : List (List Int)) (i : Nat) (h : i < xss.length) : (markRows k xss).getD i [] = marks (k + total (xss.take i)) (xss.getD i []).length := by
  induction xss generalizing k i with
  | nil => simp at h
  | cons r rs ih =>
    cases i with
    | zero => simp [markRows, List.getD, total]
    | succ i =>
      have := ih (k + r.length) i (by simpa using h)
      simp only [markRows, List.getD_cons_succ, this, List.take_succ_cons, total]
      congr 1; omega
theorem markRows_lens (k : Int) (xss : List (List Int)) : total (markRows k xss) = total xss := by
  induction xss generalizing k with
  | nil => rfl
  | cons r rs ih => simp [markRows, total, ih, marks_length]
/-- the first j rows marked -/
def markedRows (k : Int) (xss : List (List Int)) (j : Nat) : List (List Int) := (markRows k xss).take j ++ xss.drop j
theorem markedRows_length (k : Int) (xss : List (List Int)) (j : Nat) (h : j ≤ xss.length) : (markedRows k xss j).length = xss.length := by simp [markedRows, markRows_length]; omega
theorem markedRows_zero (k : Int) (xss : List (List Int)) : markedRows k xss 0 = xss := by simp [markedRows]
theorem markedRows_all (k : Int) (xss : List (List Int)) : markedRows k xss xss.length = markRows k xss := by
  unfold markedRows
  rw [List.drop_length, List.append_nil, ← markRows_length k xss, List.take_length]
theorem markedRows_lo (k : Int) (xss : List (List Int)) (j i : Nat) (h : i < j) (hj : j ≤ xss.length) : (markedRows k xss j).getD i [] = (markRows k xss).getD i [] := by
  unfold markedRows
  simp only [List.getD]
  rw [List.getElem?_append_left (by simp [markRows_length]; omega), List.getElem?_take_of_lt h]
theorem markedRows_hi (k : Int) (xss : List (List Int)) (j i : Nat) (h : j ≤ i) (hj : j ≤ xss.length) : (markedRows k xss j).getD i [] = xss.getD i [] := by
  unfold markedRows
  have hl : ((markRows k xss).take j).length = j := by simp [markRows_length]; omega
  simp only [List.getD]
  rw [List.getElem?_append_right (by omega), hl, List.getElem?_drop]
  congr 2; omega

/-- one row of rows is written anew by a callee that touches its block alone -/
theorem OwnRows.row {e2 e1 : TypeId} {w w' : World} {lo hi : Nat} {v : Value} {rvs : List Value} {xss yss : List (List Int)} {j g g' : Nat}
    (ho : Own w lo hi e2 v rvs) (hl : rvs.length = xss.length) (hr : ∀ i, i < xss.length → Own w lo hi e1 (rvs.getD i undef) (ints (xss.getD i [])))
    (hd : ∀ i, i < xss.length → ∀ k, (rvs.getD i undef).ownBlock = some k → v.ownBlock ≠ some k)
    (he : ∀ i j, i < xss.length → j < xss.length → i ≠ j → ∀ k, (rvs.getD i undef).ownBlock = some k → (rvs.getD j undef).ownBlock ≠ some k)
    (hj : j < xss.length) (hb : ∀ k, g ≤ k → k < g' → (rvs.getD j undef).ownBlock = some k) (ht : Touched g g' w w')
    (hn : Own w' lo hi e1 (rvs.getD j undef) (ints (yss.getD j []))) (hly : yss.length = xss.length) (ho' : ∀ i, i < xss.length → i ≠ j → yss.getD i [] = xss.getD i []) :
    Own w' lo hi e2 v rvs ∧ rvs.length = yss.length ∧ (∀ i, i < yss.length → Own w' lo hi e1 (rvs.getD i undef) (ints (yss.getD i []))) := by
  refine ⟨ho.sameBlk fun k hk hv => ht.block k hk ?_, by omega, fun i hi => ?_⟩
  · by_cases h1 : g ≤ k
    · by_cases h2 : k < g'
      · exact absurd hv (hd j hj k (hb k h1 h2))
      · omega
    · omega
  · by_cases e : i = j
    · subst e; exact hn
    · rw [ho' i (by omega) e]
      refine (hr i (by omega)).sameBlk fun k hk hv => ht.block k hk ?_
      by_cases h1 : g ≤ k
      · by_cases h2 : k < g'
        · exact absurd hv (he j i hj (by omega) (Ne.symm e) k (hb k h1 h2))
        · omega
      · omega

/-- the rows of the loop: which slices they are stays, j of them are marked -/
def MarkTo (w : World) (lo hi : Nat) (v : Value) (rvs : List Value) (yss : List (List Int)) : Prop :=
  Own w lo hi 29 v rvs ∧ rvs.length = yss.length ∧ ∀ i, i < yss.length → Own w lo hi 2 (rvs.getD i undef) (ints (yss.getD i []))

theorem total_take_lt (xss : List (List Int)) (j : Nat) (h : j < xss.length) : total (xss.take j) + (xss.getD j []).length ≤ total xss := by
  have h1 := total_take_succ xss j h
  have h2 := total_take_le xss (j + 1)
  omega

/-! ### found again -/
end Go.Proofs.YtiddhnnofpbopaaDoor

/- How what a law holds fares when a chain is marked: words for the laws' walks. Conditions: none: plain lemmas. -/
namespace Go.Proofs.YtiddhnnofpbopaaDoor
open Go.RowKit Go.Deep

theorem Touched.below' {a b : Nat} {w w' : World} (h : Touched a b w w') : ∀ B, B ≤ a → B ≤ w.heap.size → Below B w w' := fun B h1 h2 => ⟨h.os, h.tape, h.output, h.size, fun k hk => h.block k (by omega) (Or.inl (by omega))⟩
theorem Blk.touch {w w' : World} {b lo hi : Nat} {c : Array Value} {t : TypeId} (h : Blk w b c t) (ht : Touched lo hi w w') (hd : b < lo ∨ hi ≤ b) : Blk w' b c t := (ht.block b h.lt hd).trans h
theorem ChMine.touch {e2 e1 : TypeId} {w w' : World} {lo hi a b : Nat} {cv : Value} {c : Ch} (h : ChMine e2 e1 w lo hi cv c) (ht : Touched a b w w') (hd : hi ≤ a ∨ b ≤ lo) : ChMine e2 e1 w' lo hi cv c :=
  ⟨h.own.same fun k h1 h2 => ht.block k (by have := h.le; omega) (by omega), Nat.le_trans h.le ht.size⟩
/-- a chain in memory below block B: it reads so as long as nothing below B turns -/
structure ChUnder (w : World) (B : Nat) (cv : Value) (c : Ch) : Prop where
  all : ∀ w', Below B w w' → ChR w' cv c
  le : B ≤ w.heap.size
theorem ChUnder.of {w : World} {cv : Value} {c : Ch} (h : ChR w cv c) : ChUnder w w.heap.size cv c := ⟨fun _ hb => h.keep hb, Nat.le_refl _⟩
theorem ChUnder.now {w : World} {B : Nat} {cv : Value} {c : Ch} (h : ChUnder w B cv c) : ChR w cv c := h.all w (Below.refl _ _)
theorem ChUnder.step {w w' : World} {B : Nat} {cv : Value} {c : Ch} (h : ChUnder w B cv c) (hb : Below w.heap.size w w') : ChUnder w' B cv c :=
  ⟨fun w2 h2 => h.all w2 ((hb.mono h.le).trans h2), Nat.le_trans h.le hb.size⟩
theorem ChUnder.touch {w w' : World} {B a b : Nat} {cv : Value} {c : Ch} (h : ChUnder w B cv c) (ht : Touched a b w w') (hd : B ≤ a) : ChUnder w' B cv c :=
  ⟨fun w2 h2 => h.all w2 ((ht.below' B hd h.le).trans h2), Nat.le_trans h.le ht.size⟩
/-- all since the beginning: nothing below block B has turned -/
structure Since (B : Nat) (w0 w : World) : Prop where
  bel : Below B w0 w
  le : B ≤ w.heap.size
theorem Since.step {B : Nat} {w0 w w' : World} (h : Since B w0 w) (hb : Below w.heap.size w w') : Since B w0 w' := ⟨h.bel.trans (hb.mono h.le), Nat.le_trans h.le hb.size⟩
theorem Since.touch {B a b : Nat} {w0 w w' : World} (h : Since B w0 w) (ht : Touched a b w w') (hd : B ≤ a) : Since B w0 w' := ⟨h.bel.trans (ht.below' B hd h.le), Nat.le_trans h.le ht.size⟩
end Go.Proofs.YtiddhnnofpbopaaDoor

/- The laws' comparisons of numbers, rows and chains: they answer whether both read alike. Conditions: none. -/
namespace Go.Proofs.YtiddhnnofpbopaaDoor
open Go.RowKit Go.Deep

theorem take_eq_succ {α : Type} {xs ys : List α} {k : Nat} {d : α} (hx : k < xs.length) (hy : k < ys.length) (h : xs.take k = ys.take k) (e : xs.getD k d = ys.getD k d) : xs.take (k + 1) = ys.take (k + 1) := by
  rw [List.take_succ_eq_append_getElem hx, List.take_succ_eq_append_getElem hy, h]
  simp [List.getD, hx, hy] at e
  rw [e]
theorem ne_of_getD {α : Type} {xs ys : List α} {k : Nat} {d : α} (e : xs.getD k d ≠ ys.getD k d) : xs ≠ ys := fun h => e (by rw [h])

def chEq (c d : Ch) : Bool := decide (c.n = d.n) && (decide (c.t = d.t) && decide (c.w = d.w))
theorem chEq_self (c : Ch) : chEq c c = true := by simp [chEq]
theorem eq_of_chEq {c d : Ch} (h : chEq c d = true) : c = d := by
  cases c; cases d; simp [chEq] at h; simp [h]

end Go.Proofs.YtiddhnnofpbopaaDoor

/- The laws' size checks over numbers, rows and chains: what they return. Conditions: what is left lies between 0 and 2^20. -/
namespace Go.Proofs.YtiddhnnofpbopaaDoor
open Go.RowKit Go.Deep

/-- what is left when so many are taken: -1 where they are more -/
def szLeft (left : Int) (n : Nat) : Int := if left < n then -1 else left - n
theorem szLeft_no {left : Int} {n : Nat} (h : left < n) : szLeft left n = -1 := by simp [szLeft, h]
theorem szLeft_yes {left : Int} {n : Nat} (h : (n : Int) ≤ left) : szLeft left n = left - n := by simp [szLeft]; omega

end Go.Proofs.YtiddhnnofpbopaaDoor

/- Words for the laws' walks: lists of numbers and rows, in old memory or made by a call, told like chains; the conversions, comparisons and marks of all kinds in one form. Conditions: told in each. -/
namespace Go.Proofs.YtiddhnnofpbopaaDoor
open Go.ChangeShapes Go.WideShapes Go.ChangeAt Go.RowKit Go.Deep Go.Joins
set_option linter.unusedVariables false

theorem Blk.store3 {w : World} {b B : Nat} {c : Array Value} {t : TypeId} (h : Blk w b c t) (ne : b ≠ B) (x y z : Value) : Blk (((w.setCell ⟨B, 0, none⟩ x).setCell ⟨B, 1, none⟩ y).setCell ⟨B, 2, none⟩ z) b c t :=
  ((h.setOther (a := ⟨B, 0, none⟩) ne x).setOther (a := ⟨B, 1, none⟩) ne y).setOther (a := ⟨B, 2, none⟩) ne z
theorem Blk.alloc_drew {w : World} {b : Nat} {c : Array Value} {t : TypeId} (h : Blk w.drew b c t) (o : Obj) : Blk (w.alloc o).drew b c t := Blk.alloc (w := w) h o
theorem three2 {w : World} {b b' : Nat} {x y z x' y' z' : Value} {t t' : TypeId} (h : Blk w b #[x, y, z] t) (k : Blk w b' #[x', y', z'] t') :
    w.cell? ⟨b, 0, none⟩ = some x ∧ w.cell? ⟨b, 1, none⟩ = some y ∧ w.cell? ⟨b, 2, none⟩ = some z ∧ w.cell? ⟨b', 0, none⟩ = some x' ∧ w.cell? ⟨b', 1, none⟩ = some y' ∧ w.cell? ⟨b', 2, none⟩ = some z' :=
  ⟨h.cell 0, h.cell 1, h.cell 2, k.cell 0, k.cell 1, k.cell 2⟩
/-- a block of three cells that has been filled anew -/
theorem Blk.filled {w : World} {b : Nat} {x y z : Value} {t : TypeId} (h : Blk w b #[x, y, z] t) (x' y' z' : Value) : Blk (((w.setCell ⟨b, 0, none⟩ x').setCell ⟨b, 1, none⟩ y').setCell ⟨b, 2, none⟩ z') b #[x', y', z'] t := by
  have := ((h.set 0 x').set 1 y').set 2 z'
  simpa using this
theorem Below.filled {B b : Nat} {w w' : World} (h : Below B w w') (hb : B ≤ b) (x y z : Value) : Below B w (((w'.setCell ⟨b, 0, none⟩ x).setCell ⟨b, 1, none⟩ y).setCell ⟨b, 2, none⟩ z) :=
  ((h.setCell (p := ⟨b, 0, none⟩) hb x).setCell (p := ⟨b, 1, none⟩) hb y).setCell (p := ⟨b, 2, none⟩) hb z
theorem ChMine.filled {e2 e1 : TypeId} {w : World} {lo hi b : Nat} {cv : Value} {c : Ch} (h : ChMine e2 e1 w lo hi cv c) (hb : b < lo ∨ hi ≤ b) (x y z : Value) : ChMine e2 e1 (((w.setCell ⟨b, 0, none⟩ x).setCell ⟨b, 1, none⟩ y).setCell ⟨b, 2, none⟩ z) lo hi cv c :=
  ⟨h.own.same ((((SameOn.refl _ _ _).set (a := ⟨b, 0, none⟩) hb x).set (a := ⟨b, 1, none⟩) hb y).set (a := ⟨b, 2, none⟩) hb z), by have := h.le; simpa [World.setCell] using this⟩

structure IntsUnder (w : World) (B : Nat) (v : Value) (xs : List Int) : Prop where
  all : ∀ w', Below B w w' → Ints w' v xs
  le : B ≤ w.heap.size
theorem IntsUnder.of {w : World} {v : Value} {xs : List Int} (h : Ints w v xs) : IntsUnder w w.heap.size v xs := ⟨fun _ hb => h.keep hb, Nat.le_refl _⟩
theorem IntsUnder.now {w : World} {B : Nat} {v : Value} {xs : List Int} (h : IntsUnder w B v xs) : Ints w v xs := h.all w (Below.refl _ _)
theorem IntsUnder.step {w w' : World} {B : Nat} {v : Value} {xs : List Int} (h : IntsUnder w B v xs) (hb : Below w.heap.size w w') : IntsUnder w' B v xs :=
  ⟨fun w2 h2 => h.all w2 ((hb.mono h.le).trans h2), Nat.le_trans h.le hb.size⟩
theorem IntsUnder.touch {w w' : World} {B a b : Nat} {v : Value} {xs : List Int} (h : IntsUnder w B v xs) (ht : Touched a b w w') (hd : B ≤ a) : IntsUnder w' B v xs :=
  ⟨fun w2 h2 => h.all w2 ((ht.below' B hd h.le).trans h2), Nat.le_trans h.le ht.size⟩

structure IntsMine (e1 : TypeId) (w : World) (lo hi : Nat) (v : Value) (xs : List Int) : Prop where
  own : Own w lo hi e1 v (ints xs)
  le : hi ≤ w.heap.size
theorem IntsMine.step {e1 : TypeId} {w w' : World} {lo hi : Nat} {v : Value} {xs : List Int} (h : IntsMine e1 w lo hi v xs) (hb : Below w.heap.size w w') : IntsMine e1 w' lo hi v xs := ⟨h.own.keep h.le hb, Nat.le_trans h.le hb.size⟩
theorem IntsMine.touch {e1 : TypeId} {w w' : World} {lo hi a b : Nat} {v : Value} {xs : List Int} (h : IntsMine e1 w lo hi v xs) (ht : Touched a b w w') (hd : hi ≤ a ∨ b ≤ lo) : IntsMine e1 w' lo hi v xs :=
  ⟨h.own.same fun k h1 h2 => ht.block k (by have := h.le; omega) (by omega), Nat.le_trans h.le ht.size⟩
theorem IntsMine.ch {e1 : TypeId} {w : World} {lo hi : Nat} {v : Value} {xs : List Int} (h : IntsMine e1 w lo hi v xs) : Ints w v xs := h.own.row
theorem IntsMine.shape {e1 : TypeId} {w : World} {lo hi : Nat} {v : Value} {xs : List Int} (h : IntsMine e1 w lo hi v xs) : ∃ a cap, v = .slice a xs.length cap := by
  obtain ⟨_, a, cap, h⟩ := h.ch.len; exact ⟨a, cap, h⟩
theorem Own.minei {e1 : TypeId} {w : World} {lo : Nat} {v : Value} {xs : List Int} (h : Own w lo w.heap.size e1 v (ints xs)) : IntsMine e1 w lo w.heap.size v xs := ⟨h, Nat.le_refl _⟩
theorem Ints.shape {w : World} {v : Value} {xs : List Int} (h : Ints w v xs) : ∃ a cap, v = .slice a xs.length cap := by
  obtain ⟨_, a, cap, h⟩ := h.len; exact ⟨a, cap, h⟩

structure RowsMine (e2 e1 : TypeId) (w : World) (lo hi : Nat) (v : Value) (xss : List (List Int)) : Prop where
  own : OwnRows e2 e1 w lo hi v xss
  le : hi ≤ w.heap.size
theorem RowsMine.step {e2 e1 : TypeId} {w w' : World} {lo hi : Nat} {v : Value} {xs : List (List Int)} (h : RowsMine e2 e1 w lo hi v xs) (hb : Below w.heap.size w w') : RowsMine e2 e1 w' lo hi v xs := ⟨h.own.keep h.le hb, Nat.le_trans h.le hb.size⟩
theorem RowsMine.touch {e2 e1 : TypeId} {w w' : World} {lo hi a b : Nat} {v : Value} {xs : List (List Int)} (h : RowsMine e2 e1 w lo hi v xs) (ht : Touched a b w w') (hd : hi ≤ a ∨ b ≤ lo) : RowsMine e2 e1 w' lo hi v xs :=
  ⟨h.own.same fun k h1 h2 => ht.block k (by have := h.le; omega) (by omega), Nat.le_trans h.le ht.size⟩
theorem RowsMine.ch {e2 e1 : TypeId} {w : World} {lo hi : Nat} {v : Value} {xs : List (List Int)} (h : RowsMine e2 e1 w lo hi v xs) : Rows2 w v xs := h.own.rows
theorem RowsMine.shape {e2 e1 : TypeId} {w : World} {lo hi : Nat} {v : Value} {xs : List (List Int)} (h : RowsMine e2 e1 w lo hi v xs) : ∃ a cap, v = .slice a xs.length cap := by
  obtain ⟨_, a, cap, h⟩ := h.ch.len; exact ⟨a, cap, h⟩

/-! ### one form for all kinds -/
set_option maxRecDepth 100000 in
theorem open_list {H : Type} {enc : TypeId × Value → H} {W : World} {base b0 : Nat} {held : Bool} {v : Value} {d : DataW H} {p : List MemPlace}
    (hv : Value.okWide Tryd.prog W .any base 29 v) (h : DataW.Trod enc Tryd.prog W b0 (fun _ => true) held 29 v d p) : ∃ xs, Ints W v xs := by
  obtain ⟨sa, sl, sc, rfl⟩ := okWide_slice Tryd.underlying29 hv
  obtain ⟨m, h⟩ := h
  rcases open_ints Tryd.underlying29 Tryd.underlying2 (by kernel_rfl) h with ⟨hcs, _⟩ | ⟨a, len, cap, zs, hcs, _, hl, hm, hz, _, hc, _⟩
  · simp [Value.cells] at hcs
    obtain ⟨rfl, rfl, rfl⟩ := hcs
    exact ⟨[], by simp [ints], none, 0, by simp [ints], ⟨by simp [ints], by unfold maxLen; omega⟩, fun i hi => by simp [ints] at hi⟩
  · simp [Value.cells] at hcs
    obtain ⟨rfl, rfl, rfl⟩ := hcs
    simp only [if_true] at hz
    have hr := row_of_cells (w := W) (a := a) (len := sl) (cap := sc) (V := fun i => .int .i64 (zs.getD i 0)) (by omega) (fun i hi => hc i (by omega)) hl hm
    refine ⟨(List.range sl).map fun i => zs.getD i 0, ?_⟩
    have e : ints ((List.range sl).map fun i => zs.getD i 0) = (List.range sl).map fun i => Value.int .i64 (zs.getD i 0) := by simp [ints]
    unfold Ints
    rw [e]
    exact hr
end Go.Proofs.YtiddhnnofpbopaaDoor
