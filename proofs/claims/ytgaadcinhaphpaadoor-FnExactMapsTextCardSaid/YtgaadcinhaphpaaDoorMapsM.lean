/- The laws' marks of maps: weights and lists are filled with k, k + 1, .., and found so again. Conditions: few numbers (at most 2^40 in all, k at most 2^40). -/
import Derived.Test.YtgaadcinhaphpaaDoorMapsE
namespace Go.Proofs.YtgaadcinhaphpaaDoor
open Go.RowKit Go.Deep
set_option linter.unusedVariables false

def markMs (k : Int) : List Mp → List Mp
  | [] => []
  | p :: r => (k, marks (k + 1) p.2.length) :: markMs (k + 1 + p.2.length) r
theorem markMs_length (k : Int) (l : List Mp) : (markMs k l).length = l.length := by induction l generalizing k with | nil => rfl | cons r rs ih => simp [markMs, ih]
theorem msz_cons (p : Mp) (r : List Mp) : msz (p :: r) = 1 + p.2.length + msz r := by
  show (p :: r).length + total ((p :: r).map Prod.snd) = 1 + p.2.length + (r.length + total (r.map Prod.snd))
  simp only [List.length_cons, List.map_cons, total]; omega
theorem markMs_getD (k : Int) (l : List Mp) (i : Nat) (h : i < l.length) : (markMs k l).getD i mp0 = (k + msz (l.take i), marks (k + msz (l.take i) + 1) (l.getD i mp0).2.length) := by
  induction l generalizing k i with
  | nil => simp at h
  | cons r rs ih =>
    cases i with
    | zero => simp [markMs, List.getD, tot, total]
    | succ i =>
      have := ih (k + 1 + r.2.length) i (by simpa using h)
      rw [List.take_succ_cons, msz_cons]
      simp only [markMs, List.getD_cons_succ, this]
      have e : k + 1 + (r.2.length : Int) + ((msz (rs.take i) : Nat) : Int) = k + ((1 + r.2.length + msz (rs.take i) : Nat) : Int) := by omega
      rw [e]
theorem markMs_tot (k : Int) (l : List Mp) : tot (markMs k l) = tot l := by
  induction l generalizing k with
  | nil => rfl
  | cons r rs ih => have := ih (k + 1 + r.2.length); simp [markMs, tot, total, marks_length] at this ⊢; exact this
theorem msz_take_succ (l : List Mp) (k : Nat) (h : k < l.length) : msz (l.take (k + 1)) = msz (l.take k) + 1 + (l.getD k mp0).2.length := by
  have := tot_take_succ l k h
  simp only [msz, List.length_take]
  omega
theorem msz_take_le (l : List Mp) (k : Nat) : msz (l.take k) ≤ msz l := by
  have := tot_take_le l k
  simp only [msz, List.length_take]
  omega
theorem msz_take_all (l : List Mp) : msz (l.take l.length) = msz l := by rw [List.take_length]
theorem msz_take_lt (l : List Mp) (j : Nat) (h : j < l.length) : msz (l.take j) + 1 + (l.getD j mp0).2.length ≤ msz l := by
  have h1 := msz_take_succ l j h
  have h2 := msz_take_le l (j + 1)
  omega
/-- the first j marked -/
def markedMs (k : Int) (l : List Mp) (j : Nat) : List Mp := (markMs k l).take j ++ l.drop j
theorem markedMs_length (k : Int) (l : List Mp) (j : Nat) (h : j ≤ l.length) : (markedMs k l j).length = l.length := by simp [markedMs, markMs_length]; omega
theorem markedMs_zero (k : Int) (l : List Mp) : markedMs k l 0 = l := by simp [markedMs]
theorem markedMs_all (k : Int) (l : List Mp) : markedMs k l l.length = markMs k l := by
  unfold markedMs
  rw [List.drop_length, List.append_nil, ← markMs_length k l, List.take_length]
theorem markedMs_lo (k : Int) (l : List Mp) (j i : Nat) (h : i < j) (hj : j ≤ l.length) : (markedMs k l j).getD i mp0 = (markMs k l).getD i mp0 := by
  unfold markedMs
  simp only [List.getD]
  rw [List.getElem?_append_left (by simp [markMs_length]; omega), List.getElem?_take_of_lt h]
theorem markedMs_hi (k : Int) (l : List Mp) (j i : Nat) (h : j ≤ i) (hj : j ≤ l.length) : (markedMs k l j).getD i mp0 = l.getD i mp0 := by
  unfold markedMs
  have hl : ((markMs k l).take j).length = j := by simp [markMs_length]; omega
  simp only [List.getD]
  rw [List.getElem?_append_right (by omega), hl, List.getElem?_drop]
  congr 2; omega

/-- weights and slices, side by side -/
def zipP (l : List Mp) (rvs : List Value) : List (Int × Value) := (l.map Prod.fst).zip rvs
theorem zipP_length (l : List Mp) (rvs : List Value) (h : rvs.length = l.length) : (zipP l rvs).length = l.length := by simp [zipP, h]
theorem zipP_getD (l : List Mp) (rvs : List Value) (h : rvs.length = l.length) (i : Nat) (hi : i < l.length) : (zipP l rvs).getD i (0, undef) = ((l.getD i mp0).1, rvs.getD i undef) := by
  unfold zipP
  simp [List.getD, List.zip, List.getElem?_zipWith, hi, show i < rvs.length by omega]
theorem ps_ext {a b : List (Int × Value)} (hl : a.length = b.length) (h : ∀ i, i < a.length → a.getD i (0, undef) = b.getD i (0, undef)) : a = b := by
  refine List.ext_getElem hl fun i h1 h2 => ?_
  have := h i h1
  simpa [List.getD, h1, h2] using this
theorem OwnMaps.zip {e2 e1 : TypeId} {w : World} {lo hi : Nat} {v : Value} {l : List Mp} (h : OwnMaps e2 e1 w lo hi v l) :
    ∃ rvs : List Value, rvs.length = l.length ∧ Own2 w lo hi e2 v l.length (fl (zipP l rvs)) ∧ (∀ i, i < l.length → Own w lo hi e1 (rvs.getD i undef) (ints (l.getD i mp0).2)) ∧
      (∀ i, i < l.length → ∀ k, (rvs.getD i undef).ownBlock = some k → v.ownBlock ≠ some k) ∧
      (∀ i j, i < l.length → j < l.length → i ≠ j → ∀ k, (rvs.getD i undef).ownBlock = some k → (rvs.getD j undef).ownBlock ≠ some k) := by
  obtain ⟨ps, ho, hl, hr, hd, he⟩ := h
  have hg : ∀ i, i < l.length → (ps.map Prod.snd).getD i undef = (ps.getD i (0, undef)).2 := fun i hi => by simp [List.getD, show i < ps.length by omega]
  have hz : zipP l (ps.map Prod.snd) = ps := by
    refine ps_ext (by rw [zipP_length _ _ (by simpa using hl), hl]) fun i hi => ?_
    rw [zipP_length _ _ (by simpa using hl)] at hi
    rw [zipP_getD _ _ (by simpa using hl) i hi, hg i hi, ← (hr i hi).1]
  refine ⟨ps.map Prod.snd, by simpa using hl, by rw [hz]; exact ho, fun i hi => by rw [hg i hi]; exact (hr i hi).2, fun i hi => by rw [hg i hi]; exact hd i hi, fun i j hi hj => by rw [hg i hi, hg j hj]; exact he i j hi hj⟩
theorem OwnMaps.ofZip {e2 e1 : TypeId} {w : World} {lo hi : Nat} {v : Value} {l : List Mp} {rvs : List Value} (hl : rvs.length = l.length) (ho : Own2 w lo hi e2 v l.length (fl (zipP l rvs))) (hr : ∀ i, i < l.length → Own w lo hi e1 (rvs.getD i undef) (ints (l.getD i mp0).2))
    (hd : ∀ i, i < l.length → ∀ k, (rvs.getD i undef).ownBlock = some k → v.ownBlock ≠ some k)
    (he : ∀ i j, i < l.length → j < l.length → i ≠ j → ∀ k, (rvs.getD i undef).ownBlock = some k → (rvs.getD j undef).ownBlock ≠ some k) : OwnMaps e2 e1 w lo hi v l := by
  refine ⟨zipP l rvs, ho, zipP_length _ _ hl, fun i hi => ?_, fun i hi => ?_, fun i j hi hj => ?_⟩
  · rw [zipP_getD _ _ hl i hi]; exact ⟨rfl, hr i hi⟩
  · rw [zipP_getD _ _ hl i hi]; exact hd i hi
  · rw [zipP_getD _ _ hl i hi, zipP_getD _ _ hl j hj]; exact he i j hi hj

/-- the maps of the loop: which slices they are stays -/
def MkTo (e2 e1 : TypeId) (w : World) (lo hi : Nat) (v : Value) (rvs : List Value) (l : List Mp) : Prop :=
  Own2 w lo hi e2 v l.length (fl (zipP l rvs)) ∧ rvs.length = l.length ∧ ∀ i, i < l.length → Own w lo hi e1 (rvs.getD i undef) (ints (l.getD i mp0).2)
theorem MkTo.step {e2 e1 : TypeId} {w w2 : World} {lo hi j gb g g' m cap : Nat} {k : Int} {rvs : List Value} {l l' : List Mp} {row : List Int}
    (h : MkTo e2 e1 w lo hi (.slice (some ⟨gb, 0, none⟩) m cap) rvs l) (hj : j < l.length)
    (hd : ∀ i, i < l.length → ∀ k, (rvs.getD i undef).ownBlock = some k → k ≠ gb)
    (he : ∀ i j, i < l.length → j < l.length → i ≠ j → ∀ k, (rvs.getD i undef).ownBlock = some k → (rvs.getD j undef).ownBlock ≠ some k)
    (hb : ∀ b, g ≤ b → b < g' → (rvs.getD j undef).ownBlock = some b) (hg : ∀ b, g ≤ b → b < g' → lo ≤ b ∧ b < hi)
    (ht : Touched g g' (w.setCell ⟨gb, j * 2, none⟩ (.int .i64 k)) w2) (hn : Own w2 g g' e1 (rvs.getD j undef) (ints row))
    (hll : l'.length = l.length) (hlj : l'.getD j mp0 = (k, row)) (hlo : ∀ i, i < l.length → i ≠ j → l'.getD i mp0 = l.getD i mp0) :
    MkTo e2 e1 w2 lo hi (.slice (some ⟨gb, 0, none⟩) m cap) rvs l' := by
  obtain ⟨ho, hl, hr⟩ := h
  have hz : fl (zipP l' rvs) = (fl (zipP l rvs)).set (j * 2) (.int .i64 k) := by
    rw [fl_set_w _ _ _ (by rw [zipP_length _ _ hl]; exact hj)]
    congr 1
    refine ps_ext (by rw [List.length_set, zipP_length _ _ (by omega), zipP_length _ _ hl, hll]) fun i hi => ?_
    rw [zipP_length _ _ (by omega)] at hi
    rw [zipP_getD _ _ (by omega) i hi]
    by_cases e : i = j
    · subst e
      rw [hlj, zipP_getD _ _ hl i hj]
      simp [List.getD, zipP_length _ _ hl, hj]
    · rw [hlo i (by omega) e]
      have : ((zipP l rvs).set j (k, ((zipP l rvs).getD j (0, undef)).2)).getD i (0, undef) = (zipP l rvs).getD i (0, undef) := by simp [List.getD, Ne.symm e]
      rw [this, zipP_getD _ _ hl i (by omega)]
  have hsz : (w.setCell ⟨gb, j * 2, none⟩ (.int .i64 k)).heap.size = w.heap.size := by simp [World.setCell]
  refine ⟨?_, by omega, fun i hi => ?_⟩
  · rw [hz, hll]
    refine (ho.set (j * 2) (.int .i64 k)).sameBlk fun b hbs hv => ht.block b hbs ?_
    simp [Value.ownBlock] at hv
    subst hv
    by_cases h1 : g ≤ gb
    · by_cases h2 : gb < g'
      · exact absurd rfl (hd j hj gb (hb gb h1 h2))
      · omega
    · omega
  · by_cases e : i = j
    · subst e
      rw [hlj]
      exact hn.loose hg
    · rw [hlo i (by omega) e]
      have hri := hr i (by omega)
      refine (hri.setOther (a := ⟨gb, j * 2, none⟩) (fun e' => hd i (by omega) gb e' rfl) (.int .i64 k)).sameBlk fun b hbs hv => ht.block b hbs ?_
      by_cases h1 : g ≤ b
      · by_cases h2 : b < g'
        · exact absurd hv (he j i hj (by omega) (Ne.symm e) b (hb b h1 h2))
        · omega
      · omega

structure MsUnder (w : World) (B : Nat) (cv : Value) (c : Ms) : Prop where
  all : ∀ w', Below B w w' → MsR w' cv c
  le : B ≤ w.heap.size
theorem MsUnder.of {w : World} {cv : Value} {c : Ms} (h : MsR w cv c) : MsUnder w w.heap.size cv c := ⟨fun _ hb => h.keep hb, Nat.le_refl _⟩
theorem MsUnder.now {w : World} {B : Nat} {cv : Value} {c : Ms} (h : MsUnder w B cv c) : MsR w cv c := h.all w (Below.refl _ _)
theorem MsUnder.step {w w' : World} {B : Nat} {cv : Value} {c : Ms} (h : MsUnder w B cv c) (hb : Below w.heap.size w w') : MsUnder w' B cv c :=
  ⟨fun w2 h2 => h.all w2 ((hb.mono h.le).trans h2), Nat.le_trans h.le hb.size⟩
theorem MsUnder.touch {w w' : World} {B a b : Nat} {cv : Value} {c : Ms} (h : MsUnder w B cv c) (ht : Touched a b w w') (hd : B ≤ a) : MsUnder w' B cv c :=
  ⟨fun w2 h2 => h.all w2 ((ht.below' B hd h.le).trans h2), Nat.le_trans h.le ht.size⟩
theorem to_ms (cv : Value) (c : Ms) (w : World) (hv : MsR w cv c) (h1 : c.l.length + tot c.l ≤ 2097152) :
    Calls Tryd.prog 19 #[cv] w fun e w' => ∃ v', e = .returned v' ∧ MsMine 82 2 w' w.heap.size w'.heap.size v' c ∧ Below w.heap.size w w' := toMaps_any cv c w hv h1
theorem eq_ms (a b : Value) (c : Ms) (w : World) (ha : MsR w a c) (hb : MsR w b c) :
    Calls Tryd.prog 21 #[a, b] w fun e w' => e = .returned (.bool true) ∧ Below w.heap.size w w' :=
  (eqMaps_any a b c c w ha hb).mono fun _ _ ⟨h1, h2⟩ => ⟨by rw [h1, msEq_self], h2⟩
end Go.Proofs.YtgaadcinhaphpaaDoor
