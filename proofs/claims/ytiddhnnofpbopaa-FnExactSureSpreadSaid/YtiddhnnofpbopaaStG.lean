/- StG: several texts in one (Stp, Grd, Mkl, Sur). Conditions: told in each. -/
import Derived.Test.YtiddhnnofpbopaaDigG
import Derived.Test.YtiddhnnofpbopaaListG
import Derived.Test.YtiddhnnofpbopaaRsG
import Derived.Laws.OwnMore
/- A step of a vector of numbers over one denominator: each new number is a sum of products; pure, for sharing.step and (*l01Vector).step. -/
namespace Go.Proofs.Ytiddhnnofpbopaa
open Go.RowKit Go.Deep
set_option linter.unusedVariables false
set_option linter.unusedSimpArgs false

/-- the weight at a place -/
def wt (W : List (List Int)) (s t : Nat) : Nat := ((W.getD s []).getD t 0).toNat
/-- what the first k states send to t -/
def dotN (W : List (List Int)) (A : List Nat) (t : Nat) : Nat → Nat
  | 0 => 0
  | k + 1 => dotN W A t k + A.getD k 0 * wt W k t
/-- the numbers behind a step -/
def stepN (W : List (List Int)) (A : List Nat) (n : Nat) : List Nat := (List.range n).map fun t => dotN W A t n
/-- the numbers behind some steps -/
def afterN (W : List (List Int)) (A : List Nat) (n : Nat) : Nat → List Nat
  | 0 => A
  | i + 1 => stepN W (afterN W A n i) n
/-- the project's numbers while row k is under way, done up to j -/
def midN (W : List (List Int)) (A : List Nat) (n k j : Nat) : List Nat := (List.range n).map fun t => if t < j then dotN W A t (k + 1) else dotN W A t k
theorem stepN_length (W : List (List Int)) (A : List Nat) (n : Nat) : (stepN W A n).length = n := by simp [stepN]
theorem stepN_get (W : List (List Int)) (A : List Nat) (n t : Nat) (h : t < n) : (stepN W A n).getD t 0 = dotN W A t n := by simp [stepN, List.getD, h]
theorem stepN_take (W : List (List Int)) (A : List Nat) (n t : Nat) (h : t < n) : (stepN W A n).take (t + 1) = (stepN W A n).take t ++ [dotN W A t n] := by
  rw [List.take_add_one, List.getElem?_eq_getElem (by rw [stepN_length]; exact h)]
  congr 1
  simp [stepN]
theorem dotN_skip {W : List (List Int)} {A : List Nat} {t k : Nat} (h : wt W k t = 0) : dotN W A t (k + 1) = dotN W A t k := by simp [dotN, h]
theorem dotN_next (W : List (List Int)) (A : List Nat) (t k : Nat) : dotN W A t (k + 1) = dotN W A t k + A.getD k 0 * wt W k t := rfl
theorem midN_length (W : List (List Int)) (A : List Nat) (n k j : Nat) : (midN W A n k j).length = n := by simp [midN]
theorem midN_get (W : List (List Int)) (A : List Nat) (n k j t : Nat) (h : t < n) : (midN W A n k j).getD t 0 = if t < j then dotN W A t (k + 1) else dotN W A t k := by simp [midN, List.getD, h]
theorem midN_start (W : List (List Int)) (A : List Nat) (n : Nat) : midN W A n 0 0 = List.replicate n 0 := by
  apply List.ext_getElem
  · simp [midN]
  · intro i h1 h2; simp [midN, dotN]
theorem midN_row (W : List (List Int)) (A : List Nat) (n k : Nat) : midN W A n k n = midN W A n (k + 1) 0 := by
  apply List.ext_getElem
  · simp [midN]
  · intro i h1 h2
    simp only [midN, List.length_map, List.length_range] at h1
    simp [midN, h1]
theorem midN_end (W : List (List Int)) (A : List Nat) (n : Nat) : midN W A n n 0 = stepN W A n := by
  apply List.ext_getElem
  · simp [midN, stepN]
  · intro i h1 h2; simp [midN, stepN]
theorem midN_next (W : List (List Int)) (A : List Nat) (n k j : Nat) (h : j < n) : midN W A n k (j + 1) = (midN W A n k j).set j (dotN W A j k + A.getD k 0 * wt W k j) := by
  apply List.ext_getElem
  · simp [midN]
  · intro i h1 h2
    simp only [midN, List.length_map, List.length_range] at h1
    rw [List.getElem_set]
    by_cases hi : j = i
    · subst hi; simp [midN, dotN]
    · rw [if_neg hi]
      have : (i < j + 1) = (i < j) := by apply propext; omega
      simp [midN, this]
theorem midN_skip {W : List (List Int)} {A : List Nat} {n k j : Nat} (h : j < n) (h0 : wt W k j = 0) : midN W A n k (j + 1) = midN W A n k j := by
  apply List.ext_getElem
  · simp [midN]
  · intro i h1 h2
    simp only [midN, List.length_map, List.length_range] at h1
    by_cases hi : i = j
    · subst hi; simp [midN, dotN, h0]
    · have : (i < j + 1) = (i < j) := by apply propext; omega
      simp [midN, this]
/-- how long the numbers get -/
theorem dotN_len {B : Nat} (hB : 2 ≤ B) (W : List (List Int)) (A : List Nat) (t L M : Nat) (n : Nat) (hA : ∀ k, k < n → dlen B (A.getD k 0) ≤ L) (hW : ∀ k, k < n → dlen B (wt W k t) ≤ M) : ∀ k, k ≤ n → dlen B (dotN W A t k) ≤ L + M + k
  | 0, _ => Nat.le_trans (dlen_le hB (show (0 : Nat) < B ^ 0 by simp)) (Nat.zero_le _)
  | k + 1, h => by
      have h1 := dotN_len hB W A t L M n hA hW k (by omega)
      have h2 := Nat.le_trans (mul_dlen hB (hA k (by omega)) (hW k (by omega))) (show L + M ≤ L + M + k by omega)
      rw [dotN_next]
      exact plus_len hB h1 h2
theorem afterN_len {B : Nat} (hB : 2 ≤ B) (W : List (List Int)) (A : List Nat) (n L M : Nat) (hl : A.length = n) (hA : ∀ k, k < n → dlen B (A.getD k 0) ≤ L) (hW : ∀ t k, k < n → dlen B (wt W k t) ≤ M) : ∀ i, (afterN W A n i).length = n ∧ ∀ k, k < n → dlen B ((afterN W A n i).getD k 0) ≤ L + i * (M + n)
  | 0 => ⟨hl, fun k hk => by simpa [afterN] using hA k hk⟩
  | i + 1 => by
      obtain ⟨_, h⟩ := afterN_len hB W A n L M hl hA hW i
      refine ⟨stepN_length _ _ _, fun k hk => ?_⟩
      show dlen B ((stepN W (afterN W A n i) n).getD k 0) ≤ _
      rw [stepN_get _ _ _ _ hk]
      have := dotN_len hB W (afterN W A n i) k (L + i * (M + n)) M n h (hW k) n (Nat.le_refl _)
      have e : (i + 1) * (M + n) = i * (M + n) + (M + n) := Nat.succ_mul _ _
      omega
end Go.Proofs.Ytiddhnnofpbopaa

/- A list of long numbers that is written in place: the project's vector of a step. -/
namespace Go.Proofs.Ytiddhnnofpbopaa
open Go.RowKit Go.Deep
set_option linter.unusedVariables false
set_option linter.unusedSimpArgs false

theorem LongI.setSl {w : World} {v : Value} {n g : Nat} {c : Array Value} {t : TypeId} (h : LongI w v n) (hB : Blk w g c t) (hs : ∀ x ∈ c.toList, IsSl x) (j : Nat) (u : Value) : LongI (w.setCell ⟨g, j, none⟩ u) v n := by
  have hr : AllSl w (.slice (some ⟨g, 0, none⟩) 1 1) := fun g' hg => by
    simp [Value.ownBlock] at hg
    subst hg
    exact ⟨c, t, hB, hs⟩
  have h0 := h
  obtain ⟨hm, a, cap, hv, hk, hc⟩ := h
  refine ⟨hm, a, cap, hv, hk, fun i hi => ?_⟩
  obtain ⟨b, off, ha, hcell⟩ := hc i hi
  refine ⟨b, off, ha, ?_⟩
  have hi' : i < dlen W32 n := by rw [u32s_length, dgs_length] at hi; exact hi
  have hne : b ≠ g := fun e => h0.apart hr i b off hi' ⟨_, _, by rw [hv, ha]⟩ (by simp [Value.ownBlock, e])
  rw [World.cell?_of_block (w := w) (Below.heap_setCell w ⟨g, j, none⟩ u b hne)]
  exact hcell

/-- block g holds the numbers R, each a long number -/
def NumsAt (e : TypeId) (w : World) (g : Nat) (R : List Nat) : Prop :=
  ∃ c : Array Value, Blk w g c e ∧ c.size = R.length ∧ (∀ x ∈ c.toList, IsSl x) ∧ ∀ t, t < R.length → ∃ v, c[t]? = some v ∧ LongI w v (R.getD t 0)
theorem NumsAt.keep {e : TypeId} {w w' : World} {g : Nat} {R : List Nat} (h : NumsAt e w g R) (hb : Below w.heap.size w w') : NumsAt e w' g R := by
  obtain ⟨c, hB, hs, hi, hc⟩ := h
  exact ⟨c, hB.keep hb hB.lt, hs, hi, fun t ht => by obtain ⟨v, h1, h2⟩ := hc t ht; exact ⟨v, h1, h2.keep hb⟩⟩
theorem NumsAt.at {e : TypeId} {w : World} {g : Nat} {R : List Nat} (h : NumsAt e w g R) {t : Nat} (ht : t < R.length) : ∃ v, w.cell? ⟨g, t, none⟩ = some v ∧ LongI w v (R.getD t 0) ∧ w.frozen? ⟨g, t, none⟩ = false := by
  obtain ⟨c, hB, hs, hi, hc⟩ := h
  obtain ⟨v, h1, h2⟩ := hc t ht
  exact ⟨v, by rw [hB.cell]; exact h1, h2, hB.frozen t⟩
theorem NumsAt.lt {e : TypeId} {w : World} {g : Nat} {R : List Nat} (h : NumsAt e w g R) : g < w.heap.size := by
  obtain ⟨c, hB, _⟩ := h
  exact hB.lt
theorem NumsAt.store {e : TypeId} {w : World} {g : Nat} {R : List Nat} (h : NumsAt e w g R) {j N : Nat} {v : Value} (hj : j < R.length) (hv : LongI w v N) : NumsAt e (w.setCell ⟨g, j, none⟩ v) g (R.set j N) := by
  obtain ⟨c, hB, hs, hi, hc⟩ := h
  obtain ⟨_, a, cap, rfl⟩ := hv.len
  refine ⟨_, hB.set j _, by simp [hs], ?_, fun t ht => ?_⟩
  · intro x hx
    rw [Array.toList_setIfInBounds] at hx
    rcases List.mem_or_eq_of_mem_set hx with h1 | rfl
    · exact hi x h1
    · exact ⟨_, _, _, rfl⟩
  · rw [List.length_set] at ht
    by_cases e : j = t
    · subst e
      refine ⟨.slice a (dlen W32 N) cap, by rw [Array.getElem?_setIfInBounds]; simp [hs, ht], ?_⟩
      have : (R.set j N).getD j 0 = N := by simp [List.getD, ht]
      rw [this]; exact hv.setSl hB hi j _
    · obtain ⟨v', h1, h2⟩ := hc t ht
      refine ⟨v', by rw [Array.getElem?_setIfInBounds, if_neg e]; exact h1, ?_⟩
      have : (R.set j N).getD t 0 = R.getD t 0 := by simp [List.getD, e]
      rw [this]; exact h2.setSl hB hi j _
theorem NumsAt.other {e : TypeId} {w : World} {g : Nat} {R : List Nat} {v : Value} {n : Nat} (h : NumsAt e w g R) (hv : LongI w v n) (j : Nat) (u : Value) : LongI (w.setCell ⟨g, j, none⟩ u) v n := by
  obtain ⟨c, hB, hs, hi, hc⟩ := h
  exact hv.setSl hB hi j u
theorem NumsAt.row {e : TypeId} {w : World} {g : Nat} {R : List Nat} (h : NumsAt e w g R) (cap : Nat) : RowL LongI w (.slice (some ⟨g, 0, none⟩) R.length cap) R := by
  refine ⟨some ⟨g, 0, none⟩, cap, rfl, fun i hi => ?_⟩
  obtain ⟨v, h1, h2, _⟩ := h.at hi
  exact ⟨g, 0, v, rfl, by rw [Nat.zero_add]; exact h1, h2⟩
end Go.Proofs.Ytiddhnnofpbopaa

/- A list of zero long numbers, made at its full length. -/
namespace Go.Proofs.Ytiddhnnofpbopaa
open Go.RowKit Go.Deep
set_option linter.unusedVariables false
set_option linter.unusedSimpArgs false

theorem nums_made (n : Nat) (w : World) (e : TypeId) : NumsAt e (w.alloc (.cells (madeCells #[.slice none 0 0] n) e)) w.heap.size (List.replicate n 0) := by
  have hl : (madeCells #[Value.slice none 0 0] n).toList = List.replicate n (Value.slice none 0 0) := toList_madeCells_one _ _
  refine ⟨_, Blk.new _ _ _, by simp [size_madeCells], fun x hx => ?_, fun t ht => ?_⟩
  · rw [hl] at hx
    exact ⟨none, 0, 0, List.eq_of_mem_replicate hx⟩
  · rw [List.length_replicate] at ht
    refine ⟨.slice none 0 0, ?_, ?_⟩
    · rw [← Array.getElem?_toList, hl]; simp [ht]
    · have : (List.replicate n 0).getD t 0 = 0 := by simp [List.getD, ht]
      rw [this]; exact LongI.nil _
theorem make_longsN (n : Nat) (hb : n ≤ 1000000) (w : World) :
    (Instr.makeSlice 69 (.int .i64 (n : Int)) (.int .i64 (n : Int))).run Try.prog w = .ok (.slice (some ⟨w.heap.size, 0, none⟩) n n) (w.alloc (.cells (madeCells #[.slice none 0 0] n) 71)) := by
  obtain ⟨i0, hi, hz0, hz1, hz2⟩ := info_parts Try.infoLong
  have := run_make (P := Try.prog) w 69 71 i0 (.slice none 0 0) Try.underlying69 hi hz0 .i64 .i64 (n : Int) (n : Int) (by omega) (by omega) (by rw [hz2]; omega) (by omega)
  rw [this, hz1, Int.toNat_natCast, Nat.mul_one]
  rfl

end Go.Proofs.Ytiddhnnofpbopaa

/- The chances of a chain that is surely in one state (the project's). -/
namespace Go.Proofs.Ytiddhnnofpbopaa
open Go.RowKit Go.Deep
set_option linter.unusedVariables false
set_option linter.unusedSimpArgs false

theorem NumsAt.setBox {e t : TypeId} {w : World} {g b : Nat} {R : List Nat} {a1 a2 : Option Addr} {l1 c1 l2 c2 : Nat} (h : NumsAt e w g R) (hB : Blk w b #[.slice a1 l1 c1, .slice a2 l2 c2] t) (hne : g ≠ b) (j : Nat) (u : Value) : NumsAt e (w.setCell ⟨b, j, none⟩ u) g R := by
  obtain ⟨c, hX, hs, hi, hc⟩ := h
  exact ⟨c, hX.setOther (a := ⟨b, j, none⟩) hne u, hs, hi, fun t ht => by obtain ⟨v, h1, h2⟩ := hc t ht; exact ⟨v, h1, h2.setBox hB j u⟩⟩

end Go.Proofs.Ytiddhnnofpbopaa
