/- The laws' size checks, copies and comparisons of maps; maps that came in, opened. Conditions: few numbers (told in each). -/
import Derived.Test.YtcijggfbfpfcdaaMaps
namespace Go.Proofs.Ytcijggfbfpfcdaa
open Go.ChangeShapes Go.WideShapes Go.ChangeAt Go.RowKit Go.Deep Go.Joins
set_option linter.unusedVariables false

/-! ### copies -/
/-- maps copied so far: the first k own their lists -/
def MapsTo (e2 e1 : TypeId) (w : World) (lo : Nat) (v : Value) (l : List Mp) (k : Nat) : Prop :=
  ∃ ps : List (Int × Value), ps.length = l.length ∧ Own2 w lo (lo + 1) e2 v l.length (fl ps) ∧
    (∀ i, i < k → (ps.getD i (0, undef)).1 = (l.getD i mp0).1 ∧ Own w (lo + 1) w.heap.size e1 (ps.getD i (0, undef)).2 (ints (l.getD i mp0).2)) ∧
    (∀ i j, i < k → j < k → i ≠ j → ∀ b, (ps.getD i (0, undef)).2.ownBlock = some b → (ps.getD j (0, undef)).2.ownBlock ≠ some b)
theorem Own.blk {w : World} {lo hi : Nat} {e : TypeId} {v : Value} {vs : List Value} (h : Own w lo hi e v vs) {b : Nat} (hb : v.ownBlock = some b) : lo ≤ b ∧ b < hi ∧ b < w.heap.size := ⟨(h.1.lt b hb).1, h.2.2 b hb, (h.1.lt b hb).2⟩
theorem MapsTo.done {e2 e1 : TypeId} {w : World} {lo cap : Nat} {l : List Mp} (h : MapsTo e2 e1 w lo (.slice (some ⟨lo, 0, none⟩) l.length cap) l l.length) (hh : lo + 1 ≤ w.heap.size) :
    OwnMaps e2 e1 w lo w.heap.size (.slice (some ⟨lo, 0, none⟩) l.length cap) l := by
  obtain ⟨ps, hl, ho, hr, hd⟩ := h
  refine ⟨ps, ho.wide (Nat.le_refl _) hh, hl, fun i hi => ⟨(hr i hi).1, (hr i hi).2.wide (by omega) (Nat.le_refl _)⟩, fun i hi k hk => ?_, hd⟩
  have := (hr i hi).2.blk hk
  simp [Value.ownBlock]; omega
theorem MapsTo.at {e2 e1 : TypeId} {w : World} {lo cap k : Nat} {l : List Mp} (h : MapsTo e2 e1 w lo (.slice (some ⟨lo, 0, none⟩) l.length cap) l k) (hk : k < l.length) :
    ∃ u u', w.cell? ⟨lo, k * 2, none⟩ = some u ∧ w.cell? ⟨lo, k * 2 + 1, none⟩ = some u' ∧ w.frozen? ⟨lo, k * 2, none⟩ = false ∧ w.frozen? ⟨lo, k * 2 + 1, none⟩ = false ∧ lo < w.heap.size := by
  obtain ⟨ps, hl, ho, _⟩ := h
  obtain ⟨g, c, hv, _, _, hg, hc, hf⟩ := ho.at (by omega)
  simp only [Value.slice.injEq, Option.some.injEq, Addr.mk.injEq, and_true] at hv
  obtain ⟨rfl, _, _⟩ := hv
  exact ⟨_, _, hc (k * 2) (by omega), hc (k * 2 + 1) (by omega), hf _, hf _, hg⟩
theorem MapsTo.step {e2 e1 : TypeId} {w w1 : World} {lo cap k : Nat} {x : Int} {nv : Value} {l : List Mp} (h : MapsTo e2 e1 w lo (.slice (some ⟨lo, 0, none⟩) l.length cap) l k) (hk : k < l.length) (hlo : lo + 1 ≤ w.heap.size) (hx : x = (l.getD k mp0).1)
    (hb : Below w.heap.size w w1) (ho1 : Own w1 w.heap.size w1.heap.size e1 nv (ints (l.getD k mp0).2)) :
    MapsTo e2 e1 ((w1.setCell ⟨lo, k * 2, none⟩ (.int .i64 x)).setCell ⟨lo, k * 2 + 1, none⟩ nv) lo (.slice (some ⟨lo, 0, none⟩) l.length cap) l (k + 1) := by
  obtain ⟨ps, hl, ho, hr, hd⟩ := h
  have hkr : k < ps.length := by omega
  have hsz : ((w1.setCell ⟨lo, k * 2, none⟩ (.int .i64 x)).setCell ⟨lo, k * 2 + 1, none⟩ nv).heap.size = w1.heap.size := by simp [World.setCell]
  have hne : ∀ (v : Value) vs, Own w1 (lo + 1) w1.heap.size e1 v vs → v.ownBlock ≠ some lo := fun v vs h e => by have := h.blk e; omega
  have e1' : (ps.set k (x, nv)).getD k (0, undef) = (x, nv) := by simp [List.getD, hkr]
  have e2' : ∀ i, i ≠ k → (ps.set k (x, nv)).getD i (0, undef) = ps.getD i (0, undef) := fun i hi => by simp [List.getD, Ne.symm hi]
  have hz := hb.size
  refine ⟨ps.set k (x, nv), by simpa using hl, ?_, fun i hi => ?_, fun i j hi hj hij b hbi => ?_⟩
  · have h1 := ((ho.keep (by omega) hb).set (k * 2) (.int .i64 x)).set (k * 2 + 1) nv
    rw [fl_set ps k x nv hkr] at h1
    exact h1
  · rw [hsz]
    by_cases e : i = k
    · subst e
      rw [e1']
      have := ho1.wide (lo' := lo + 1) (by omega) (Nat.le_refl _)
      exact ⟨hx, (this.setOther (a := ⟨lo, i * 2, none⟩) (hne _ _ this) _).setOther (a := ⟨lo, i * 2 + 1, none⟩) (hne _ _ this) _⟩
    · rw [e2' i e]
      obtain ⟨h1, h2⟩ := hr i (by omega)
      have := (h2.keep (Nat.le_refl _) hb).wide (hi' := w1.heap.size) (Nat.le_refl _) hz
      exact ⟨h1, (this.setOther (a := ⟨lo, k * 2, none⟩) (hne _ _ this) _).setOther (a := ⟨lo, k * 2 + 1, none⟩) (hne _ _ this) _⟩
  · by_cases ei : i = k
    · subst ei
      rw [e1'] at hbi
      rw [e2' j (Ne.symm hij)]
      intro hbj
      have a1 := ho1.blk hbi
      have a2 := (hr j (by omega)).2.blk hbj
      omega
    · rw [e2' i ei] at hbi
      by_cases ej : j = k
      · subst ej
        rw [e1']
        intro hbj
        have a1 := ho1.blk hbj
        have a2 := (hr i (by omega)).2.blk hbi
        omega
      · rw [e2' j ej]
        exact hd i j (by omega) (by omega) hij b hbi

theorem made_two (n : Nat) : (madeCells #[.int .i64 0, .slice none 0 0] (n * 2)).toList = fl (List.replicate n (0, .slice none 0 0)) := by
  have hl : (madeCells #[.int .i64 0, .slice none 0 0] (n * 2)).toList.length = (fl (List.replicate n ((0 : Int), Value.slice none 0 0))).length := by simp [fl_length, size_madeCells]
  refine List.ext_getElem hl fun j h1 h2 => ?_
  have hj : j < n * 2 := by simpa [size_madeCells] using h1
  have hm : (madeCells #[.int .i64 0, .slice none 0 0] (n * 2)).toList[j] = (if j % 2 = 0 then Value.int .i64 0 else .slice none 0 0) := by
    simp only [madeCells, Array.getElem_toList, Array.getElem_map, Array.getElem_range]
    rcases Nat.mod_two_eq_zero_or_one j with h | h <;> simp [h]
  rw [hm]
  have hg : (fl (List.replicate n ((0 : Int), Value.slice none 0 0)))[j] = (fl (List.replicate n ((0 : Int), Value.slice none 0 0))).getD j undef := by simp [List.getD, h2]
  rw [hg]
  rcases Nat.mod_two_eq_zero_or_one j with h | h
  · obtain ⟨i, rfl⟩ : ∃ i, j = i * 2 := ⟨j / 2, by omega⟩
    rw [fl_even _ _ (by simp; omega), if_pos h]
    simp [List.getD, show i < n by omega]
  · obtain ⟨i, rfl⟩ : ∃ i, j = i * 2 + 1 := ⟨j / 2, by omega⟩
    rw [fl_odd _ _ (by simp; omega), if_neg (by omega)]
    simp [List.getD, show i < n by omega]
theorem cell_set_next (w : World) (b i : Nat) (u : Value) : (w.setCell ⟨b, i, none⟩ u).cell? ⟨b, i + 1, none⟩ = w.cell? ⟨b, i + 1, none⟩ := by
  exact World.cell?_setCell_other _ _ _ _ (fun h => by injection h with _ h2 _; omega)
theorem frozen_set_next (w : World) (b i : Nat) (u : Value) : (w.setCell ⟨b, i, none⟩ u).frozen? ⟨b, i + 1, none⟩ = w.frozen? ⟨b, i + 1, none⟩ := by
  rw [World.frozen?_setCell]

end Go.Proofs.Ytcijggfbfpfcdaa
