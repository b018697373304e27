/- StG: several texts in one (Stp, Grd, Mkl, Sur, StI, Stss, Rso). Conditions: told in each. -/
import Derived.Test.YtiddhnnofpbopaaDigG
import Derived.Test.YtiddhnnofpbopaaListG
import Derived.Test.YtiddhnnofpbopaaRsG
import Derived.Laws.OwnMore
import Derived.Test.YtiddhnnofpbopaaRg2
import Derived.Test.YtiddhnnofpbopaaChainH
/- A step of a vector of numbers over one denominator: each new number is a sum of products; pure, for sharing.step and (*l01Vector).step. -/
namespace Go.Proofs.Ytiddhnnofpbopaa
open Go.RowKit Go.Deep
set_option linter.unusedVariables false
set_option linter.unusedSimpArgs false

/-- the weight at a place -/
def wt (W : List (List Int)) (s t : Nat) : Nat := ((W.getD s []).getD t 0).toNat
/-- what the first k states send to t -/
def dotN (W : List (List Int)) (A : List Nat) (t : Nat) : Nat → Nat
  | 0 => 0
  | k + 1 => dotN W A t k + A.getD k 0 * wt W k t
/-- the numbers behind a step -/
def stepN (W : List (List Int)) (A : List Nat) (n : Nat) : List Nat := (List.range n).map fun t => dotN W A t n
/-- the numbers behind some steps -/
def afterN (W : List (List Int)) (A : List Nat) (n : Nat) : Nat → List Nat
  | 0 => A
  | i + 1 => stepN W (afterN W A n i) n
/-- the project's numbers while row k is under way, done up to j -/
def midN (W : List (List Int)) (A : List Nat) (n k j : Nat) : List Nat := (List.range n).map fun t => if t < j then dotN W A t (k + 1) else dotN W A t k
theorem stepN_length (W : List (List Int)) (A : List Nat) (n : Nat) : (stepN W A n).length = n := by simp [stepN]
theorem stepN_get (W : List (List Int)) (A : List Nat) (n t : Nat) (h : t < n) : (stepN W A n).getD t 0 = dotN W A t n := by simp [stepN, List.getD, h]
theorem stepN_take (W : List (List Int)) (A : List Nat) (n t : Nat) (h : t < n) : (stepN W A n).take (t + 1) = (stepN W A n).take t ++ [dotN W A t n] := by
  rw [List.take_add_one, List.getElem?_eq_getElem (by rw [stepN_length]; exact h)]
  congr 1
  simp [stepN]
theorem dotN_skip {W : List (List Int)} {A : List Nat} {t k : Nat} (h : wt W k t = 0) : dotN W A t (k + 1) = dotN W A t k := by simp [dotN, h]
theorem dotN_next (W : List (List Int)) (A : List Nat) (t k : Nat) : dotN W A t (k + 1) = dotN W A t k + A.getD k 0 * wt W k t := rfl
theorem midN_length (W : List (List Int)) (A : List Nat) (n k j : Nat) : (midN W A n k j).length = n := by simp [midN]
theorem midN_get (W : List (List Int)) (A : List Nat) (n k j t : Nat) (h : t < n) : (midN W A n k j).getD t 0 = if t < j then dotN W A t (k + 1) else dotN W A t k := by simp [midN, List.getD, h]
theorem midN_start (W : List (List Int)) (A : List Nat) (n : Nat) : midN W A n 0 0 = List.replicate n 0 := by
  apply List.ext_getElem
  · simp [midN]
  · intro i h1 h2; simp [midN, dotN]
theorem midN_row (W : List (List Int)) (A : List Nat) (n k : Nat) : midN W A n k n = midN W A n (k + 1) 0 := by
  apply List.ext_getElem
  · simp [midN]
  · intro i h1 h2
    simp only [midN, List.length_map, List.length_range] at h1
    simp [midN, h1]
theorem midN_end (W : List (List Int)) (A : List Nat) (n : Nat) : midN W A n n 0 = stepN W A n := by
  apply List.ext_getElem
  · simp [midN, stepN]
  · intro i h1 h2; simp [midN, stepN]
theorem midN_next (W : List (List Int)) (A : List Nat) (n k j : Nat) (h : j < n) : midN W A n k (j + 1) = (midN W A n k j).set j (dotN W A j k + A.getD k 0 * wt W k j) := by
  apply List.ext_getElem
  · simp [midN]
  · intro i h1 h2
    simp only [midN, List.length_map, List.length_range] at h1
    rw [List.getElem_set]
    by_cases hi : j = i
    · subst hi; simp [midN, dotN]
    · rw [if_neg hi]
      have : (i < j + 1) = (i < j) := by apply propext; omega
      simp [midN, this]
theorem midN_skip {W : List (List Int)} {A : List Nat} {n k j : Nat} (h : j < n) (h0 : wt W k j = 0) : midN W A n k (j + 1) = midN W A n k j := by
  apply List.ext_getElem
  · simp [midN]
  · intro i h1 h2
    simp only [midN, List.length_map, List.length_range] at h1
    by_cases hi : i = j
    · subst hi; simp [midN, dotN, h0]
    · have : (i < j + 1) = (i < j) := by apply propext; omega
      simp [midN, this]
/-- how long the numbers get -/
theorem dotN_len {B : Nat} (hB : 2 ≤ B) (W : List (List Int)) (A : List Nat) (t L M : Nat) (n : Nat) (hA : ∀ k, k < n → dlen B (A.getD k 0) ≤ L) (hW : ∀ k, k < n → dlen B (wt W k t) ≤ M) : ∀ k, k ≤ n → dlen B (dotN W A t k) ≤ L + M + k
  | 0, _ => Nat.le_trans (dlen_le hB (show (0 : Nat) < B ^ 0 by simp)) (Nat.zero_le _)
  | k + 1, h => by
      have h1 := dotN_len hB W A t L M n hA hW k (by omega)
      have h2 := Nat.le_trans (mul_dlen hB (hA k (by omega)) (hW k (by omega))) (show L + M ≤ L + M + k by omega)
      rw [dotN_next]
      exact plus_len hB h1 h2
theorem afterN_len {B : Nat} (hB : 2 ≤ B) (W : List (List Int)) (A : List Nat) (n L M : Nat) (hl : A.length = n) (hA : ∀ k, k < n → dlen B (A.getD k 0) ≤ L) (hW : ∀ t k, k < n → dlen B (wt W k t) ≤ M) : ∀ i, (afterN W A n i).length = n ∧ ∀ k, k < n → dlen B ((afterN W A n i).getD k 0) ≤ L + i * (M + n)
  | 0 => ⟨hl, fun k hk => by simpa [afterN] using hA k hk⟩
  | i + 1 => by
      obtain ⟨_, h⟩ := afterN_len hB W A n L M hl hA hW i
      refine ⟨stepN_length _ _ _, fun k hk => ?_⟩
      show dlen B ((stepN W (afterN W A n i) n).getD k 0) ≤ _
      rw [stepN_get _ _ _ _ hk]
      have := dotN_len hB W (afterN W A n i) k (L + i * (M + n)) M n h (hW k) n (Nat.le_refl _)
      have e : (i + 1) * (M + n) = i * (M + n) + (M + n) := Nat.succ_mul _ _
      omega
end Go.Proofs.Ytiddhnnofpbopaa

/- A list of long numbers that is written in place: the project's vector of a step. -/
namespace Go.Proofs.Ytiddhnnofpbopaa
open Go.RowKit Go.Deep
set_option linter.unusedVariables false
set_option linter.unusedSimpArgs false

theorem LongI.setSl {w : World} {v : Value} {n g : Nat} {c : Array Value} {t : TypeId} (h : LongI w v n) (hB : Blk w g c t) (hs : ∀ x ∈ c.toList, IsSl x) (j : Nat) (u : Value) : LongI (w.setCell ⟨g, j, none⟩ u) v n := by
  have hr : AllSl w (.slice (some ⟨g, 0, none⟩) 1 1) := fun g' hg => by
    simp [Value.ownBlock] at hg
    subst hg
    exact ⟨c, t, hB, hs⟩
  have h0 := h
  obtain ⟨hm, a, cap, hv, hk, hc⟩ := h
  refine ⟨hm, a, cap, hv, hk, fun i hi => ?_⟩
  obtain ⟨b, off, ha, hcell⟩ := hc i hi
  refine ⟨b, off, ha, ?_⟩
  have hi' : i < dlen W32 n := by rw [u32s_length, dgs_length] at hi; exact hi
  have hne : b ≠ g := fun e => h0.apart hr i b off hi' ⟨_, _, by rw [hv, ha]⟩ (by simp [Value.ownBlock, e])
  rw [World.cell?_of_block (w := w) (Below.heap_setCell w ⟨g, j, none⟩ u b hne)]
  exact hcell

/-- block g holds the numbers R, each a long number -/
def NumsAt (e : TypeId) (w : World) (g : Nat) (R : List Nat) : Prop :=
  ∃ c : Array Value, Blk w g c e ∧ c.size = R.length ∧ (∀ x ∈ c.toList, IsSl x) ∧ ∀ t, t < R.length → ∃ v, c[t]? = some v ∧ LongI w v (R.getD t 0)
theorem NumsAt.keep {e : TypeId} {w w' : World} {g : Nat} {R : List Nat} (h : NumsAt e w g R) (hb : Below w.heap.size w w') : NumsAt e w' g R := by
  obtain ⟨c, hB, hs, hi, hc⟩ := h
  exact ⟨c, hB.keep hb hB.lt, hs, hi, fun t ht => by obtain ⟨v, h1, h2⟩ := hc t ht; exact ⟨v, h1, h2.keep hb⟩⟩
theorem NumsAt.at {e : TypeId} {w : World} {g : Nat} {R : List Nat} (h : NumsAt e w g R) {t : Nat} (ht : t < R.length) : ∃ v, w.cell? ⟨g, t, none⟩ = some v ∧ LongI w v (R.getD t 0) ∧ w.frozen? ⟨g, t, none⟩ = false := by
  obtain ⟨c, hB, hs, hi, hc⟩ := h
  obtain ⟨v, h1, h2⟩ := hc t ht
  exact ⟨v, by rw [hB.cell]; exact h1, h2, hB.frozen t⟩
theorem NumsAt.lt {e : TypeId} {w : World} {g : Nat} {R : List Nat} (h : NumsAt e w g R) : g < w.heap.size := by
  obtain ⟨c, hB, _⟩ := h
  exact hB.lt
theorem NumsAt.store {e : TypeId} {w : World} {g : Nat} {R : List Nat} (h : NumsAt e w g R) {j N : Nat} {v : Value} (hj : j < R.length) (hv : LongI w v N) : NumsAt e (w.setCell ⟨g, j, none⟩ v) g (R.set j N) := by
  obtain ⟨c, hB, hs, hi, hc⟩ := h
  obtain ⟨_, a, cap, rfl⟩ := hv.len
  refine ⟨_, hB.set j _, by simp [hs], ?_, fun t ht => ?_⟩
  · intro x hx
    rw [Array.toList_setIfInBounds] at hx
    rcases List.mem_or_eq_of_mem_set hx with h1 | rfl
    · exact hi x h1
    · exact ⟨_, _, _, rfl⟩
  · rw [List.length_set] at ht
    by_cases e : j = t
    · subst e
      refine ⟨.slice a (dlen W32 N) cap, by rw [Array.getElem?_setIfInBounds]; simp [hs, ht], ?_⟩
      have : (R.set j N).getD j 0 = N := by simp [List.getD, ht]
      rw [this]; exact hv.setSl hB hi j _
    · obtain ⟨v', h1, h2⟩ := hc t ht
      refine ⟨v', by rw [Array.getElem?_setIfInBounds, if_neg e]; exact h1, ?_⟩
      have : (R.set j N).getD t 0 = R.getD t 0 := by simp [List.getD, e]
      rw [this]; exact h2.setSl hB hi j _
theorem NumsAt.other {e : TypeId} {w : World} {g : Nat} {R : List Nat} {v : Value} {n : Nat} (h : NumsAt e w g R) (hv : LongI w v n) (j : Nat) (u : Value) : LongI (w.setCell ⟨g, j, none⟩ u) v n := by
  obtain ⟨c, hB, hs, hi, hc⟩ := h
  exact hv.setSl hB hi j u
theorem NumsAt.row {e : TypeId} {w : World} {g : Nat} {R : List Nat} (h : NumsAt e w g R) (cap : Nat) : RowL LongI w (.slice (some ⟨g, 0, none⟩) R.length cap) R := by
  refine ⟨some ⟨g, 0, none⟩, cap, rfl, fun i hi => ?_⟩
  obtain ⟨v, h1, h2, _⟩ := h.at hi
  exact ⟨g, 0, v, rfl, by rw [Nat.zero_add]; exact h1, h2⟩
end Go.Proofs.Ytiddhnnofpbopaa

/- A list of zero long numbers, made at its full length. -/
namespace Go.Proofs.Ytiddhnnofpbopaa
open Go.RowKit Go.Deep
set_option linter.unusedVariables false
set_option linter.unusedSimpArgs false

theorem nums_made (n : Nat) (w : World) (e : TypeId) : NumsAt e (w.alloc (.cells (madeCells #[.slice none 0 0] n) e)) w.heap.size (List.replicate n 0) := by
  have hl : (madeCells #[Value.slice none 0 0] n).toList = List.replicate n (Value.slice none 0 0) := toList_madeCells_one _ _
  refine ⟨_, Blk.new _ _ _, by simp [size_madeCells], fun x hx => ?_, fun t ht => ?_⟩
  · rw [hl] at hx
    exact ⟨none, 0, 0, List.eq_of_mem_replicate hx⟩
  · rw [List.length_replicate] at ht
    refine ⟨.slice none 0 0, ?_, ?_⟩
    · rw [← Array.getElem?_toList, hl]; simp [ht]
    · have : (List.replicate n 0).getD t 0 = 0 := by simp [List.getD, ht]
      rw [this]; exact LongI.nil _
theorem make_longsN (n : Nat) (hb : n ≤ 1000000) (w : World) :
    (Instr.makeSlice 69 (.int .i64 (n : Int)) (.int .i64 (n : Int))).run Try.prog w = .ok (.slice (some ⟨w.heap.size, 0, none⟩) n n) (w.alloc (.cells (madeCells #[.slice none 0 0] n) 71)) := by
  obtain ⟨i0, hi, hz0, hz1, hz2⟩ := info_parts Try.infoLong
  have := run_make (P := Try.prog) w 69 71 i0 (.slice none 0 0) Try.underlying69 hi hz0 .i64 .i64 (n : Int) (n : Int) (by omega) (by omega) (by rw [hz2]; omega) (by omega)
  rw [this, hz1, Int.toNat_natCast, Nat.mul_one]
  rfl

end Go.Proofs.Ytiddhnnofpbopaa

/- The chances of a chain that is surely in one state (the project's). -/
namespace Go.Proofs.Ytiddhnnofpbopaa
open Go.RowKit Go.Deep
set_option linter.unusedVariables false
set_option linter.unusedSimpArgs false

theorem NumsAt.setBox {e t : TypeId} {w : World} {g b : Nat} {R : List Nat} {a1 a2 : Option Addr} {l1 c1 l2 c2 : Nat} (h : NumsAt e w g R) (hB : Blk w b #[.slice a1 l1 c1, .slice a2 l2 c2] t) (hne : g ≠ b) (j : Nat) (u : Value) : NumsAt e (w.setCell ⟨b, j, none⟩ u) g R := by
  obtain ⟨c, hX, hs, hi, hc⟩ := h
  exact ⟨c, hX.setOther (a := ⟨b, j, none⟩) hne u, hs, hi, fun t ht => by obtain ⟨v, h1, h2⟩ := hc t ht; exact ⟨v, h1, h2.setBox hB j u⟩⟩

end Go.Proofs.Ytiddhnnofpbopaa

/- A step of the project's vector of chances. Conditions: at most 1000 states, weights up to 3600, numbers of at most 100000 words. -/
namespace Go.Proofs.Ytiddhnnofpbopaa
open Go.RowKit Go.Deep
set_option linter.unusedVariables false
set_option linter.unusedSimpArgs false

set_option maxRecDepth 100000 in
set_option maxHeartbeats 4000000 in
theorem sharingStep_any (nv dv wv : Value) (A : List Nat) (D n L t : Nat) (W : List (List Int)) (w : World) (hA : RowL LongI w nv A) (hD : LongI w dv D) (hW : Rows2 w wv W) (hl : A.length = n) (hn : n ≤ 1000) (hWl : W.length = n)
    (hrow : ∀ k, k < n → (W.getD k []).length = n ∧ ∀ x ∈ W.getD k [], 0 ≤ x ∧ x ≤ 3600) (ht : t ≤ 3600) (hAl : ∀ k, k < n → dlen W32 (A.getD k 0) ≤ L) (hDl : dlen W32 D ≤ L) (hL : L ≤ 100000) :
    Calls Try.prog 36 #[.agg #[nv, dv], .agg #[.int .i64 (n : Int), .int .i64 (t : Int), wv]] w fun e w' => ∃ g dv', e = .returned (.agg #[.slice (some ⟨g, 0, none⟩) n n, dv']) ∧ NumsAt 71 w' g (stepN W A n) ∧ LongI w' dv' (D * t) ∧ w.heap.size ≤ g ∧ Below w.heap.size w w' := by
  obtain ⟨na, nc, hnv, _⟩ := id hA
  rw [hl] at hnv
  obtain ⟨da, dn, dc, rfl⟩ := likeI.shape hD
  obtain ⟨_, wa, wc, hwv⟩ := hW.len
  rw [hWl] at hwv
  subst hnv hwv
  have hmk := fun V => make_longsN n (by omega) V
  have hdot := Lib.hid (fun j k (hj : j < n) (hk : k < n) => dotN_len w32 W A j L 2 n hAl (fun k hk => (show dlen W32 (wt W k j) ≤ 2 from by
    obtain ⟨h1, h2⟩ := hrow k hk
    have h3 := h2 _ (getD_mem (d := 0) (show j < (W.getD k []).length by omega))
    exact dlen_le w32 (show wt W k j < W32 ^ 2 by unfold wt; simp only [W32]; omega))) k (by omega))
  have b1 := below1 w (.cells #[.slice na n nc, .slice da dn dc] 73)
  have b2 := below1 (w.alloc (.cells #[.slice na n nc, .slice da dn dc] 73)) (.cells #[.int .i64 (n : Int), .int .i64 (t : Int), .slice wa n wc] 36)
  have b3 := below1 ((w.alloc (.cells #[.slice na n nc, .slice da dn dc] 73)).alloc (.cells #[.int .i64 (n : Int), .int .i64 (t : Int), .slice wa n wc] 36)) (.cells #[.slice none 0 0, .slice none 0 0] 73)
  have b23 := below_wt b2 b3
  have b123 := below_wt b1 b23
  have hP := (Blk.new w #[.slice na n nc, .slice da dn dc] 73).keep b23 (Blk.new w #[.slice na n nc, .slice da dn dc] 73).lt
  have hC := (Blk.new (w.alloc (.cells #[.slice na n nc, .slice da dn dc] 73)) #[.int .i64 (n : Int), .int .i64 (t : Int), .slice wa n wc] 36).keep b3 (Blk.new _ _ _).lt
  have hR := Blk.new ((w.alloc (.cells #[.slice na n nc, .slice da dn dc] 73)).alloc (.cells #[.int .i64 (n : Int), .int .i64 (t : Int), .slice wa n wc] 36)) #[.slice none 0 0, .slice none 0 0] 73
  have hA0 := Lib.hid (hA.keep likeI b123)
  have hD0 := Lib.hid (hD.keep b123)
  have hW0 := Lib.hid (hW.keep b123)
  have hN0 := nums_made n (((w.alloc (.cells #[.slice na n nc, .slice da dn dc] 73)).alloc (.cells #[.int .i64 (n : Int), .int .i64 (t : Int), .slice wa n wc] 36)).alloc (.cells #[.slice none 0 0, .slice none 0 0] 73)) 71
  have bV := below1 (((w.alloc (.cells #[.slice na n nc, .slice da dn dc] 73)).alloc (.cells #[.int .i64 (n : Int), .int .i64 (t : Int), .slice wa n wc] 36)).alloc (.cells #[.slice none 0 0, .slice none 0 0] 73)) (.cells (madeCells #[.slice none 0 0] n) 71)
  rw [← midN_start W A n] at hN0
  have s0 : (((w.alloc (.cells #[.slice na n nc, .slice da dn dc] 73)).alloc (.cells #[.int .i64 (n : Int), .int .i64 (t : Int), .slice wa n wc] 36)).alloc (.cells #[.slice none 0 0, .slice none 0 0] 73)).heap.size = w.heap.size + 1 + 1 + 1 := by simp only [World.size_alloc]
  simp only [World.size_alloc] at hN0 hC hR hP
  replace hN0 := Lib.hid hN0
  replace bV := Lib.hid bV
  replace hP := Lib.hid hP; replace hC := Lib.hid hC; replace hR := Lib.hid hR
  replace b123 := Lib.hid b123
  replace s0 := Lib.hid s0
  replace hl := Lib.hid hl
  replace hWl := Lib.hid hWl
  replace hrow := Lib.hid hrow
  replace hAl := Lib.hid hAl
  clear hA hD hW b1 b2 b3 b23
  go_enter Try.func36, Try.ntmps36
  go_wp2_with fail
  generalize hV0 : (((w.alloc (.cells #[.slice na n nc, .slice da dn dc] 73)).alloc (.cells #[.int .i64 (n : Int), .int .i64 (t : Int), .slice wa n wc] 36)).alloc (.cells #[.slice none 0 0, .slice none 0 0] 73)) = V0 at *
  have hG := Lib.hid (Nat.le_of_eq s0.out)
  have hBG := Lib.hid (show w.heap.size + 1 + 1 < w.heap.size + 1 + 1 + 1 from Nat.lt_succ_self _)
  have hBR := Lib.hid (show w.heap.size ≤ w.heap.size + 1 + 1 from by omega)
  have hGw := Lib.hid (show w.heap.size ≤ w.heap.size + 1 + 1 + 1 from by omega)
  generalize w.heap.size + 1 + 1 + 1 = G at *
  generalize w.heap.size + 1 + 1 = BR at *
  generalize w.heap.size + 1 = BC at *
  clear hV0 hmk
  go_loopw [16] (fun i wr => ∃ k : Nat, k ≤ n ∧ i = .int .i64 (k : Int) ∧ Hid (NumsAt 71 wr G (midN W A n k 0)) ∧ Hid (Below V0.heap.size V0 wr)) (fun i _ => n - (intOf i).toNat)
  case atStart => exact ⟨0, Nat.zero_le _, rfl, hN0, bV⟩
  case round =>
    clear hN0 bV
    obtain ⟨k, hk, rfl, hN, bel⟩ := hrel
    by_cases hlt : k < n
    · have i1 : (k : Int) < (n : Int) := by omega
      have hlt' := Lib.hid hlt
      obtain ⟨wb, wo, wcap, rv, hwa, _, hc⟩ := hW0.out.at (by rw [hWl.out]; omega)
      simp only [Value.slice.injEq] at hwa
      obtain ⟨rfl, -, rfl⟩ := hwa
      obtain ⟨hck0, hri⟩ := hc k (by rw [hWl.out]; exact hlt)
      obtain ⟨hrl, hrb⟩ := hrow.out k hlt
      obtain ⟨rb, ro, rc, hrk, _, hcr⟩ := hri.at (by omega)
      rw [hrl] at hrk
      rw [hrk] at hck0
      have hck := (bel.out.cell (block_lt hck0)).trans hck0
      have hcr' := Lib.hid (fun j (hj : j < n) => hcr j (by rw [hrl]; exact hj))
      have hrb' := Lib.hid (fun j (hj : j < n) => hrb _ (getD_mem (d := 0) (show j < (W.getD k []).length by rw [hrl]; exact hj)))
      obtain ⟨ab, ao, xv, rfl, hcA, hX0⟩ := hA0.out.at k (by rw [hl.out]; exact hlt)
      obtain ⟨xa, xn, xc, rfl⟩ := likeI.shape hX0
      have dX := hAl.out k hlt
      have hwt := Lib.hid (fun j => (show wt W k j = ((W.getD k []).getD j 0).toNat from rfl))
      have hdk := Lib.hid (fun j hj => hdot.out j k hj hlt)
      have hcA' := Lib.hid hcA
      have hmk := Lib.hid (midN_row W A n k)
      obtain ⟨X, hXe⟩ : ∃ X, A.getD k 0 = X := ⟨_, rfl⟩
      rw [hXe] at dX hX0
      have hAk := Lib.hid hXe
      clear hXe
      have hX0' := Lib.hid hX0
      generalize W.getD k [] = row at *
      clear hc hri hcr hrb hrl hrk hlt hck0 hcA hX0
      go_wp2_with fail
      go_loopw [23] (fun i wq => ∃ j : Nat, j ≤ n ∧ i = .int .i64 (j : Int) ∧ Hid (NumsAt 71 wq G (midN W A n k j)) ∧ Hid (Below V0.heap.size V0 wq)) (fun i _ => n - (intOf i).toNat)
      case atStart => exact ⟨0, Nat.zero_le _, rfl, hN, bel⟩
      case round =>
        clear hN bel hck
        obtain ⟨j, hj, rfl, hN, bel2⟩ := hrel
        by_cases hjn : j < n
        · have i2 : (j : Int) < (n : Int) := by omega
          have hj' := Lib.hid hjn
          have hcx := (bel2.out.cell (block_lt (hcr'.out j hjn))).trans (hcr'.out j hjn)
          obtain ⟨h0, h1⟩ := hrb'.out j hjn
          obtain ⟨x, hx⟩ : ∃ x : Nat, row.getD j 0 = (x : Int) := ⟨_, (Int.toNat_of_nonneg h0).symm⟩
          have hwx : wt W k j = x := by rw [hwt.out, hx, Int.toNat_natCast]
          rw [hx] at hcx h1
          by_cases hx0 : x = 0
          · subst hx0
            have hms := Lib.hid (midN_skip (A := A) (n := n) hjn hwx)
            have hNn := Lib.hid (show NumsAt 71 wr G (midN W A n k (j + 1)) by rw [hms.out]; exact hN.out)
            clear hN hwx hx h0 h1 hjn hms
            go_wp2
            go_roundw
            case rel => exact ⟨j + 1, by have := hj'.out; omega, by go_num, hNn, bel2⟩
            case measure => have := hj'.out; simp [intOf]; omega
          · have hxp : (0 : Int) < (x : Int) := by omega
            have hmn := Lib.hid (show midN W A n k (j + 1) = (midN W A n k j).set j (dotN W A j k + X * x) by rw [midN_next W A n k j hjn, hAk.out, hwx])
            have hRl := Lib.hid (midN_length W A n k j)
            have hdS := hdk.out j hjn
            have hN1 := hN.out.at (t := j) (by rw [hRl.out]; exact hjn)
            rw [midN_get W A n k j j hjn, if_neg (Nat.lt_irrefl _)] at hN1
            obtain ⟨sv, hcS, hS, _⟩ := hN1
            obtain ⟨sa, sn, sc, rfl⟩ := likeI.shape hS
            have dx : dlen W32 x ≤ 2 := dlen_le w32 (show x < W32 ^ 2 by simp only [W32]; omega)
            have dXx := mul_dlen w32 dX dx
            have hX := Lib.hid (hX0'.out.keep bel2.out)
            have hxI := hx
            generalize dotN W A j k = S at *
            generalize midN W A n k j = R at *
            replace hS := Lib.hid hS
            have cG := Lib.hid (fun w1 (hb : Below wr.heap.size wr w1) => (hb.cell (p := ⟨G, j, none⟩) (block_lt hcS)).trans hcS)
            have cP := Lib.hid (fun w1 (hb : Below wr.heap.size wr w1) => (show w1.cell? ⟨w.heap.size, 0, none⟩ = some (.slice (some ⟨ab, ao, none⟩) n nc) from (hP.out.keep (below_wt bel2.out hb) hP.out.lt).cell 0))
            have cA := Lib.hid (fun w1 (hb : Below wr.heap.size wr w1) => ((below_wt bel2.out hb).cell (p := ⟨ab, ao + k, none⟩) (block_lt hcA'.out)).trans hcA'.out)
            have i0 : (0 : Int) ≤ (j : Int) := by omega
            have i3 : (0 : Int) ≤ (k : Int) := by omega
            clear hx h0 hwx hcS hxI hjn hx0
            have hxd : decide (0 < x) = true := decide_eq_true (by omega)
            go_upto_region 9 with fail
            clear hxd
            refine' Rgn.region_by (fun i => match i with | 17 => 1 | _ => 0) 1 (fun _ => false) (fun i _ v w' => match i with
                | 0 => v = .slice (some ⟨G, 0, none⟩) n n
                | 1 => v = .int .i64 (j : Int)
                | 2 => v = .slice (some ⟨G, 0, none⟩) n n
                | 3 => v = .int .i64 (j : Int)
                | 4 => v = .pointer (some ⟨G, j, none⟩)
                | 5 => v = .slice sa sn sc
                | 6 => v = .pointer (some ⟨w.heap.size, 0, none⟩)
                | 7 => v = .slice (some ⟨ab, ao, none⟩) n nc
                | 8 => v = .int .i64 (k : Int)
                | 9 => v = .pointer (some ⟨ab, ao + k, none⟩)
                | 10 => v = .slice xa xn xc
                | 11 => v = .int .i64 (x : Int)
                | 12 => v = .int .u64 (x : Int)
                | 13 => LongI w' v (x)
                | 14 => LongI w' v (X * x)
                | 15 => LongI w' v (S + X * x)
                | 16 => v = .pointer (some ⟨G, j, none⟩)
                | _ => True) (fun i _ v => match i with
                | 0 => v = .slice (some ⟨G, 0, none⟩) n n
                | 1 => v = .int .i64 (j : Int)
                | 2 => v = .slice (some ⟨G, 0, none⟩) n n
                | 3 => v = .int .i64 (j : Int)
                | 4 => v = .pointer (some ⟨G, j, none⟩)
                | 5 => v = .slice sa sn sc
                | 6 => v = .pointer (some ⟨w.heap.size, 0, none⟩)
                | 7 => v = .slice (some ⟨ab, ao, none⟩) n nc
                | 8 => v = .int .i64 (k : Int)
                | 9 => v = .pointer (some ⟨ab, ao + k, none⟩)
                | 10 => v = .slice xa xn xc
                | 11 => v = .int .i64 (x : Int)
                | 12 => v = .int .u64 (x : Int)
                | 13 => True
                | 14 => True
                | 15 => True
                | 16 => v = .pointer (some ⟨G, j, none⟩)
                | _ => True)
                (fun p z w' => NumsAt 71 w' G (midN W A n k (j + 1)) ∧ Below V0.heap.size V0 w') (by kernel_rfl) (by kernel_rfl) (by kernel_rfl) ?hst_a ?hG_a _ ?hfr_a ?hob_a ?hend_a
            case hfr_a =>
              intro z
              simp only [Rgn.fillAll, Act.put, List.setIfInBounds_toArray, List.set_cons_zero, List.set_cons_succ, Nat.reduceAdd, Nat.zero_add]
              exact rfl
            case hst_a =>
              intro i z v w1 w2 hi hb hx
              rcases i with _ | i
              · exact hx
              rcases i with _ | i
              · exact hx
              rcases i with _ | i
              · exact hx
              rcases i with _ | i
              · exact hx
              rcases i with _ | i
              · exact hx
              rcases i with _ | i
              · exact hx
              rcases i with _ | i
              · exact hx
              rcases i with _ | i
              · exact hx
              rcases i with _ | i
              · exact hx
              rcases i with _ | i
              · exact hx
              rcases i with _ | i
              · exact hx
              rcases i with _ | i
              · exact hx
              rcases i with _ | i
              · exact hx
              rcases i with _ | i
              · exact (fun v w1 w2 hb h => h.keep hb) v w1 w2 hb hx
              rcases i with _ | i
              · exact (fun v w1 w2 hb h => h.keep hb) v w1 w2 hb hx
              rcases i with _ | i
              · exact (fun v w1 w2 hb h => h.keep hb) v w1 w2 hb hx
              rcases i with _ | i
              · exact hx
              rcases i with _ | i
              · exact trivial
              exact trivial
            case hG_a =>
              intro i z v w1 hi hx
              rcases i with _ | i
              · exact hx
              rcases i with _ | i
              · exact hx
              rcases i with _ | i
              · exact hx
              rcases i with _ | i
              · exact hx
              rcases i with _ | i
              · exact hx
              rcases i with _ | i
              · exact hx
              rcases i with _ | i
              · exact hx
              rcases i with _ | i
              · exact hx
              rcases i with _ | i
              · exact hx
              rcases i with _ | i
              · exact hx
              rcases i with _ | i
              · exact hx
              rcases i with _ | i
              · exact hx
              rcases i with _ | i
              · exact hx
              rcases i with _ | i
              · trivial
              rcases i with _ | i
              · trivial
              rcases i with _ | i
              · trivial
              rcases i with _ | i
              · exact hx
              rcases i with _ | i
              · exact trivial
              exact trivial
            case hob_a =>
              intro hfr
              refine Rgn.AllOb.cons (j := 1) (by kernel_rfl) ?_ ?_
              · refine' Rgn.ob_body (fr := _) ?hf_a0 ?h1_a0 ?h2_a0 ?h3_a0 ?h_a0
                case hf_a0 => exact hfr
                case h1_a0 => kernel_rfl
                case h2_a0 => kernel_rfl
                case h3_a0 => rfl
                clear hfr
                intro z w1 hb hd ho K hK
                clear hd ho
                go_simp
                have hh := hK.out (.slice (some ⟨G, 0, none⟩) n n) _ (Below.refl _ _) rfl
                simp only [Act.put, List.setIfInBounds_toArray, List.set_cons_zero, List.set_cons_succ] at hh
                exact hh
              refine Rgn.AllOb.cons (j := 2) (by kernel_rfl) ?_ ?_
              · refine' Rgn.ob_body (fr := _) ?hf_a1 ?h1_a1 ?h2_a1 ?h3_a1 ?h_a1
                case hf_a1 => exact hfr
                case h1_a1 => kernel_rfl
                case h2_a1 => kernel_rfl
                case h3_a1 => rfl
                clear hfr
                intro z w1 hb hd ho K hK
                clear hd ho
                go_simp
                have hh := hK.out (.int .i64 (j : Int)) _ (Below.refl _ _) rfl
                simp only [Act.put, List.setIfInBounds_toArray, List.set_cons_zero, List.set_cons_succ] at hh
                exact hh
              refine Rgn.AllOb.cons (j := 3) (by kernel_rfl) ?_ ?_
              · refine' Rgn.ob_body (fr := _) ?hf_a2 ?h1_a2 ?h2_a2 ?h3_a2 ?h_a2
                case hf_a2 => exact hfr
                case h1_a2 => kernel_rfl
                case h2_a2 => kernel_rfl
                case h3_a2 => rfl
                clear hfr
                intro z w1 hb hd ho K hK
                clear hd ho
                go_simp
                have hh := hK.out (.slice (some ⟨G, 0, none⟩) n n) _ (Below.refl _ _) rfl
                simp only [Act.put, List.setIfInBounds_toArray, List.set_cons_zero, List.set_cons_succ] at hh
                exact hh
              refine Rgn.AllOb.cons (j := 4) (by kernel_rfl) ?_ ?_
              · refine' Rgn.ob_body (fr := _) ?hf_a3 ?h1_a3 ?h2_a3 ?h3_a3 ?h_a3
                case hf_a3 => exact hfr
                case h1_a3 => kernel_rfl
                case h2_a3 => kernel_rfl
                case h3_a3 => rfl
                clear hfr
                intro z w1 hb hd ho K hK
                clear hd ho
                go_simp
                have hh := hK.out (.int .i64 (j : Int)) _ (Below.refl _ _) rfl
                simp only [Act.put, List.setIfInBounds_toArray, List.set_cons_zero, List.set_cons_succ] at hh
                exact hh
              refine Rgn.AllOb.cons (j := 5) (by kernel_rfl) ?_ ?_
              · refine' Rgn.ob_body (fr := _) ?hf_a4 ?h1_a4 ?h2_a4 ?h3_a4 ?h_a4
                case hf_a4 => exact hfr
                case h1_a4 => kernel_rfl
                case h2_a4 => kernel_rfl
                case h3_a4 => rfl
                clear hfr
                intro z w1 hb hd ho K hK
                have e2 : z 2 = .slice (some ⟨G, 0, none⟩) n n := hd.out 2 (by kernel_rfl)
                have e3 : z 3 = .int .i64 (j : Int) := hd.out 3 (by kernel_rfl)
                clear hd ho
                go_simp
                have hh := hK.out (.pointer (some ⟨G, j, none⟩)) _ (Below.refl _ _) rfl
                simp only [Act.put, List.setIfInBounds_toArray, List.set_cons_zero, List.set_cons_succ, e2, e3] at hh
                exact hh
              refine Rgn.AllOb.cons (j := 6) (by kernel_rfl) ?_ ?_
              · refine' Rgn.ob_body (fr := _) ?hf_a5 ?h1_a5 ?h2_a5 ?h3_a5 ?h_a5
                case hf_a5 => exact hfr
                case h1_a5 => kernel_rfl
                case h2_a5 => kernel_rfl
                case h3_a5 => rfl
                clear hfr
                intro z w1 hb hd ho K hK
                have e4 : z 4 = .pointer (some ⟨G, j, none⟩) := hd.out 4 (by kernel_rfl)
                clear hd ho
                have x0 := cG.out w1 hb
                go_simp
                have hh := hK.out (.slice sa sn sc) _ (Below.refl _ _) rfl
                simp only [Act.put, List.setIfInBounds_toArray, List.set_cons_zero, List.set_cons_succ, e4] at hh
                exact hh
              refine Rgn.AllOb.cons (j := 7) (by kernel_rfl) ?_ ?_
              · refine' Rgn.ob_body (fr := _) ?hf_a6 ?h1_a6 ?h2_a6 ?h3_a6 ?h_a6
                case hf_a6 => exact hfr
                case h1_a6 => kernel_rfl
                case h2_a6 => kernel_rfl
                case h3_a6 => rfl
                clear hfr
                intro z w1 hb hd ho K hK
                clear hd ho
                go_simp
                have hh := hK.out (.pointer (some ⟨w.heap.size, 0, none⟩)) _ (Below.refl _ _) rfl
                simp only [Act.put, List.setIfInBounds_toArray, List.set_cons_zero, List.set_cons_succ] at hh
                exact hh
              refine Rgn.AllOb.cons (j := 8) (by kernel_rfl) ?_ ?_
              · refine' Rgn.ob_body (fr := _) ?hf_a7 ?h1_a7 ?h2_a7 ?h3_a7 ?h_a7
                case hf_a7 => exact hfr
                case h1_a7 => kernel_rfl
                case h2_a7 => kernel_rfl
                case h3_a7 => rfl
                clear hfr
                intro z w1 hb hd ho K hK
                have e6 : z 6 = .pointer (some ⟨w.heap.size, 0, none⟩) := hd.out 6 (by kernel_rfl)
                clear hd ho
                have x0 := cP.out w1 hb
                go_simp
                have hh := hK.out (.slice (some ⟨ab, ao, none⟩) n nc) _ (Below.refl _ _) rfl
                simp only [Act.put, List.setIfInBounds_toArray, List.set_cons_zero, List.set_cons_succ, e6] at hh
                exact hh
              refine Rgn.AllOb.cons (j := 9) (by kernel_rfl) ?_ ?_
              · refine' Rgn.ob_body (fr := _) ?hf_a8 ?h1_a8 ?h2_a8 ?h3_a8 ?h_a8
                case hf_a8 => exact hfr
                case h1_a8 => kernel_rfl
                case h2_a8 => kernel_rfl
                case h3_a8 => rfl
                clear hfr
                intro z w1 hb hd ho K hK
                clear hd ho
                go_simp
                have hh := hK.out (.int .i64 (k : Int)) _ (Below.refl _ _) rfl
                simp only [Act.put, List.setIfInBounds_toArray, List.set_cons_zero, List.set_cons_succ] at hh
                exact hh
              refine Rgn.AllOb.cons (j := 10) (by kernel_rfl) ?_ ?_
              · refine' Rgn.ob_body (fr := _) ?hf_a9 ?h1_a9 ?h2_a9 ?h3_a9 ?h_a9
                case hf_a9 => exact hfr
                case h1_a9 => kernel_rfl
                case h2_a9 => kernel_rfl
                case h3_a9 => rfl
                clear hfr
                intro z w1 hb hd ho K hK
                have e7 : z 7 = .slice (some ⟨ab, ao, none⟩) n nc := hd.out 7 (by kernel_rfl)
                have e8 : z 8 = .int .i64 (k : Int) := hd.out 8 (by kernel_rfl)
                clear hd ho
                go_simp
                have hh := hK.out (.pointer (some ⟨ab, ao + k, none⟩)) _ (Below.refl _ _) rfl
                simp only [Act.put, List.setIfInBounds_toArray, List.set_cons_zero, List.set_cons_succ, e7, e8] at hh
                exact hh
              refine Rgn.AllOb.cons (j := 11) (by kernel_rfl) ?_ ?_
              · refine' Rgn.ob_body (fr := _) ?hf_a10 ?h1_a10 ?h2_a10 ?h3_a10 ?h_a10
                case hf_a10 => exact hfr
                case h1_a10 => kernel_rfl
                case h2_a10 => kernel_rfl
                case h3_a10 => rfl
                clear hfr
                intro z w1 hb hd ho K hK
                have e9 : z 9 = .pointer (some ⟨ab, ao + k, none⟩) := hd.out 9 (by kernel_rfl)
                clear hd ho
                have x0 := cA.out w1 hb
                go_simp
                have hh := hK.out (.slice xa xn xc) _ (Below.refl _ _) rfl
                simp only [Act.put, List.setIfInBounds_toArray, List.set_cons_zero, List.set_cons_succ, e9] at hh
                exact hh
              refine Rgn.AllOb.cons (j := 12) (by kernel_rfl) ?_ ?_
              · refine' Rgn.ob_body (fr := _) ?hf_a11 ?h1_a11 ?h2_a11 ?h3_a11 ?h_a11
                case hf_a11 => exact hfr
                case h1_a11 => kernel_rfl
                case h2_a11 => kernel_rfl
                case h3_a11 => rfl
                clear hfr
                intro z w1 hb hd ho K hK
                clear hd ho
                go_simp
                have hh := hK.out (.int .i64 (x : Int)) _ (Below.refl _ _) rfl
                simp only [Act.put, List.setIfInBounds_toArray, List.set_cons_zero, List.set_cons_succ] at hh
                exact hh
              refine Rgn.AllOb.cons (j := 13) (by kernel_rfl) ?_ ?_
              · refine' Rgn.ob_body (fr := _) ?hf_a12 ?h1_a12 ?h2_a12 ?h3_a12 ?h_a12
                case hf_a12 => exact hfr
                case h1_a12 => kernel_rfl
                case h2_a12 => kernel_rfl
                case h3_a12 => rfl
                clear hfr
                intro z w1 hb hd ho K hK
                have e11 : z 11 = .int .i64 (x : Int) := hd.out 11 (by kernel_rfl)
                clear hd ho
                have hwp : IntKind.u64.wrap (x : Int) = (x : Int) := by rw [IntKind.wrap_u64]; omega
                go_simp
                have hh := hK.out (.int .u64 (x : Int)) _ (Below.refl _ _) rfl
                simp only [Act.put, List.setIfInBounds_toArray, List.set_cons_zero, List.set_cons_succ, e11] at hh
                exact hh
              refine Rgn.AllOb.cons (j := 14) (by kernel_rfl) ?_ ?_
              · refine' Rgn.ob_body (fr := _) ?hf_a13 ?h1_a13 ?h2_a13 ?h3_a13 ?h_a13
                case hf_a13 => exact hfr
                case h1_a13 => kernel_rfl
                case h2_a13 => kernel_rfl
                case h3_a13 => rfl
                clear hfr
                intro z w1 hb hd ho K hK
                have e12 : z 12 = .int .u64 (x : Int) := hd.out 12 (by kernel_rfl)
                clear hd ho
                go_simp
                refine (longOf_any x w1 (by omega)).mono ?_
                rintro e w2 ⟨r, rfl, hr, b⟩
                have hh := hK.out _ _ b hr
                simp only [Act.put, List.setIfInBounds_toArray, List.set_cons_zero, List.set_cons_succ, e12] at hh
                exact hh
              refine Rgn.AllOb.cons (j := 15) (by kernel_rfl) ?_ ?_
              · refine' Rgn.ob_body (fr := _) ?hf_a14 ?h1_a14 ?h2_a14 ?h3_a14 ?h_a14
                case hf_a14 => exact hfr
                case h1_a14 => kernel_rfl
                case h2_a14 => kernel_rfl
                case h3_a14 => rfl
                clear hfr
                intro z w1 hb hd ho K hK
                have e10 : z 10 = .slice xa xn xc := hd.out 10 (by kernel_rfl)
                have e13 : LongI w1 (z 13) (x) := hd.out 13 (by kernel_rfl)
                clear hd ho
                go_simp
                refine (times_any _ _ X x w1 (hX.out.keep hb) e13 (by omega) (by omega)).mono ?_
                rintro e w2 ⟨r, rfl, hr, b⟩
                have hh := hK.out _ _ b hr
                simp only [Act.put, List.setIfInBounds_toArray, List.set_cons_zero, List.set_cons_succ, e10] at hh
                exact hh
              refine Rgn.AllOb.cons (j := 16) (by kernel_rfl) ?_ ?_
              · refine' Rgn.ob_body (fr := _) ?hf_a15 ?h1_a15 ?h2_a15 ?h3_a15 ?h_a15
                case hf_a15 => exact hfr
                case h1_a15 => kernel_rfl
                case h2_a15 => kernel_rfl
                case h3_a15 => rfl
                clear hfr
                intro z w1 hb hd ho K hK
                have e5 : z 5 = .slice sa sn sc := hd.out 5 (by kernel_rfl)
                have e14 : LongI w1 (z 14) (X * x) := hd.out 14 (by kernel_rfl)
                clear hd ho
                go_simp
                refine (plus_any _ _ S (X * x) w1 (hS.out.keep hb) e14 (by omega) (by omega)).mono ?_
                rintro e w2 ⟨r, rfl, hr, b⟩
                have hh := hK.out _ _ b hr
                simp only [Act.put, List.setIfInBounds_toArray, List.set_cons_zero, List.set_cons_succ, e5] at hh
                exact hh
              refine Rgn.AllOb.cons (j := 17) (by kernel_rfl) ?_ ?_
              · refine' Rgn.ob_body (fr := _) ?hf_a16 ?h1_a16 ?h2_a16 ?h3_a16 ?h_a16
                case hf_a16 => exact hfr
                case h1_a16 => kernel_rfl
                case h2_a16 => kernel_rfl
                case h3_a16 => rfl
                clear hfr
                intro z w1 hb hd ho K hK
                have e0 : z 0 = .slice (some ⟨G, 0, none⟩) n n := hd.out 0 (by kernel_rfl)
                have e1 : z 1 = .int .i64 (j : Int) := hd.out 1 (by kernel_rfl)
                clear hd ho
                go_simp
                have hh := hK.out (.pointer (some ⟨G, j, none⟩)) _ (Below.refl _ _) rfl
                simp only [Act.put, List.setIfInBounds_toArray, List.set_cons_zero, List.set_cons_succ, e0, e1] at hh
                exact hh
              refine Rgn.AllOb.cons (j := 18) (by kernel_rfl) ?_ ?_
              · refine' Rgn.ob_tail0 (fr := _) ?hf_a17 ?h1_a17 ?h3_a17 ?h_a17
                case hf_a17 => exact hfr
                case h1_a17 => kernel_rfl
                case h3_a17 => rfl
                clear hfr
                intro z w1 hb hf hd ho K hK
                have e15 : LongI w1 (z 15) (S + X * x) := hf.out 15 (by decide) rfl rfl
                have e16 : z 16 = .pointer (some ⟨G, j, none⟩) := hf.out 16 (by decide) rfl rfl
                obtain ⟨ra, rn, rc, e15s⟩ := likeI.shape e15
                rw [e15s] at e15
                have N1 := hN.out.keep hb
                obtain ⟨y, q0, _, q2⟩ := N1.at (t := j) (by rw [hRl.out]; exact hj')
                have NS := N1.store (j := j) (by rw [hRl.out]; exact hj') e15
                clear hf hd ho
                go_simp
                have hh := hK.out undef _ ⟨by rw [hmn.out]; exact NS, (below_wt bel2.out hb).setCell (p := ⟨G, j, none⟩) hG.out _⟩
                simp only [Act.put, List.setIfInBounds_toArray, List.set_cons_zero, List.set_cons_succ, e15s, e16] at hh
                exact hh
              exact Rgn.AllOb.nil
            case hend_a =>
              intro hfr
              refine' Rgn.end_tails (fr := _) ?g1_a ?g2_a ?g3_a
              case g1_a => exact hfr
              case g2_a => rfl
              clear hfr
              intro z w7 hT hg
              obtain ⟨hN7, b7⟩ := hT
              replace hN7 := Lib.hid hN7
              replace b7 := Lib.hid b7
              clear hg cG cP cA hN hS hX bel2
              go_wp2
              go_roundw
              case rel => exact ⟨j + 1, by have := hj'.out; omega, by go_num, hN7, b7⟩
              case measure => have := hj'.out; simp [intOf]; omega
        · obtain rfl : j = n := by omega
          have hnn : ¬ (j : Int) < (j : Int) := by omega
          have hN3 := Lib.hid (show NumsAt 71 wr G (midN W A j (k + 1) 0) by rw [← hmk.out]; exact hN.out)
          clear hN hjn
          go_wp2
          go_roundw
          case rel => exact ⟨k + 1, by have := hlt'.out; omega, by go_num, hN3, bel2⟩
          case measure => have := hlt'.out; simp [intOf]; omega
    · obtain rfl : n = k := by omega
      have hnn : ¬ (n : Int) < (n : Int) := by omega
      have hN3 := Lib.hid (show NumsAt 71 wr G (stepN W A n) by rw [← midN_end]; exact hN.out)
      replace hN := hN3
      have hDr := Lib.hid (hD0.out.keep bel.out)
      have hRr := Lib.hid (hR.out.keep bel.out hR.out.lt)
      have BWr := Lib.hid (below_wt b123.out bel.out)
      have cD := Lib.hid (fun w1 (hb : Below wr.heap.size wr w1) => (show w1.cell? ⟨w.heap.size, 1, none⟩ = some (.slice da dn dc) from (hP.out.keep (below_wt bel.out hb) hP.out.lt).cell 1))
      have cT := Lib.hid (fun w1 (hb : Below wr.heap.size wr w1) => (show w1.cell? ⟨BC, 1, none⟩ = some (.int .i64 (t : Int)) from (hC.out.keep (below_wt bel.out hb) hC.out.lt).cell 1))
      have dt : dlen W32 t ≤ 2 := dlen_le w32 (show t < W32 ^ 2 by simp only [W32]; omega)
      clear hN3 hlt
      go_upto_region 12 with fail
      refine' Rgn.region_by (fun i => match i with | 9 => 1 | _ => 0) 1 (fun _ => false) (fun i _ v w' => match i with
          | 0 => v = .slice (some ⟨G, 0, none⟩) n n
          | 1 => v = .pointer (some ⟨w.heap.size, 1, none⟩)
          | 2 => v = .slice da dn dc
          | 3 => v = .pointer (some ⟨BC, 1, none⟩)
          | 4 => v = .int .i64 (t : Int)
          | 5 => v = .int .u64 (t : Int)
          | 6 => LongI w' v (t)
          | 7 => LongI w' v (D * t)
          | 8 => ∃ d, v = .agg #[.slice (some ⟨G, 0, none⟩) n n, d] ∧ LongI w' d (D * t)
          | _ => True) (fun i _ v => match i with
          | 0 => v = .slice (some ⟨G, 0, none⟩) n n
          | 1 => v = .pointer (some ⟨w.heap.size, 1, none⟩)
          | 2 => v = .slice da dn dc
          | 3 => v = .pointer (some ⟨BC, 1, none⟩)
          | 4 => v = .int .i64 (t : Int)
          | 5 => v = .int .u64 (t : Int)
          | 6 => True
          | 7 => True
          | 8 => True
          | _ => True)
          (fun p z w' => ∃ ra rn rc, Blk w' BR #[.slice (some ⟨G, 0, none⟩) n n, .slice ra rn rc] 73 ∧ LongI w' (.slice ra rn rc) (D * t) ∧ NumsAt 71 w' G (stepN W A n) ∧ Below w.heap.size w w') (by kernel_rfl) (by kernel_rfl) (by kernel_rfl) ?hst_b ?hG_b _ ?hfr_b ?hob_b ?hend_b
      case hfr_b =>
        intro z
        simp only [Rgn.fillAll, Act.put, List.setIfInBounds_toArray, List.set_cons_zero, List.set_cons_succ, Nat.reduceAdd, Nat.zero_add]
        exact rfl
      case hst_b =>
        intro i z v w1 w2 hi hb hx
        rcases i with _ | i
        · exact hx
        rcases i with _ | i
        · exact hx
        rcases i with _ | i
        · exact hx
        rcases i with _ | i
        · exact hx
        rcases i with _ | i
        · exact hx
        rcases i with _ | i
        · exact hx
        rcases i with _ | i
        · exact (fun v w1 w2 hb h => h.keep hb) v w1 w2 hb hx
        rcases i with _ | i
        · exact (fun v w1 w2 hb h => h.keep hb) v w1 w2 hb hx
        rcases i with _ | i
        · exact (fun v w1 w2 hb h => h.elim fun d h => ⟨d, h.1, h.2.keep hb⟩) v w1 w2 hb hx
        rcases i with _ | i
        · exact trivial
        exact trivial
      case hG_b =>
        intro i z v w1 hi hx
        rcases i with _ | i
        · exact hx
        rcases i with _ | i
        · exact hx
        rcases i with _ | i
        · exact hx
        rcases i with _ | i
        · exact hx
        rcases i with _ | i
        · exact hx
        rcases i with _ | i
        · exact hx
        rcases i with _ | i
        · trivial
        rcases i with _ | i
        · trivial
        rcases i with _ | i
        · trivial
        rcases i with _ | i
        · exact trivial
        exact trivial
      case hob_b =>
        intro hfr
        refine Rgn.AllOb.cons (j := 1) (by kernel_rfl) ?_ ?_
        · refine' Rgn.ob_body (fr := _) ?hf_b0 ?h1_b0 ?h2_b0 ?h3_b0 ?h_b0
          case hf_b0 => exact hfr
          case h1_b0 => kernel_rfl
          case h2_b0 => kernel_rfl
          case h3_b0 => rfl
          clear hfr
          intro z w1 hb hd ho K hK
          clear hd ho
          go_simp
          have hh := hK.out (.slice (some ⟨G, 0, none⟩) n n) _ (Below.refl _ _) rfl
          simp only [Act.put, List.setIfInBounds_toArray, List.set_cons_zero, List.set_cons_succ] at hh
          exact hh
        refine Rgn.AllOb.cons (j := 2) (by kernel_rfl) ?_ ?_
        · refine' Rgn.ob_body (fr := _) ?hf_b1 ?h1_b1 ?h2_b1 ?h3_b1 ?h_b1
          case hf_b1 => exact hfr
          case h1_b1 => kernel_rfl
          case h2_b1 => kernel_rfl
          case h3_b1 => rfl
          clear hfr
          intro z w1 hb hd ho K hK
          clear hd ho
          go_simp
          have hh := hK.out (.pointer (some ⟨w.heap.size, 1, none⟩)) _ (Below.refl _ _) rfl
          simp only [Act.put, List.setIfInBounds_toArray, List.set_cons_zero, List.set_cons_succ] at hh
          exact hh
        refine Rgn.AllOb.cons (j := 3) (by kernel_rfl) ?_ ?_
        · refine' Rgn.ob_body (fr := _) ?hf_b2 ?h1_b2 ?h2_b2 ?h3_b2 ?h_b2
          case hf_b2 => exact hfr
          case h1_b2 => kernel_rfl
          case h2_b2 => kernel_rfl
          case h3_b2 => rfl
          clear hfr
          intro z w1 hb hd ho K hK
          have e1 : z 1 = .pointer (some ⟨w.heap.size, 1, none⟩) := hd.out 1 (by kernel_rfl)
          clear hd ho
          have x0 := cD.out w1 hb
          go_simp
          have hh := hK.out (.slice da dn dc) _ (Below.refl _ _) rfl
          simp only [Act.put, List.setIfInBounds_toArray, List.set_cons_zero, List.set_cons_succ, e1] at hh
          exact hh
        refine Rgn.AllOb.cons (j := 4) (by kernel_rfl) ?_ ?_
        · refine' Rgn.ob_body (fr := _) ?hf_b3 ?h1_b3 ?h2_b3 ?h3_b3 ?h_b3
          case hf_b3 => exact hfr
          case h1_b3 => kernel_rfl
          case h2_b3 => kernel_rfl
          case h3_b3 => rfl
          clear hfr
          intro z w1 hb hd ho K hK
          clear hd ho
          go_simp
          have hh := hK.out (.pointer (some ⟨BC, 1, none⟩)) _ (Below.refl _ _) rfl
          simp only [Act.put, List.setIfInBounds_toArray, List.set_cons_zero, List.set_cons_succ] at hh
          exact hh
        refine Rgn.AllOb.cons (j := 5) (by kernel_rfl) ?_ ?_
        · refine' Rgn.ob_body (fr := _) ?hf_b4 ?h1_b4 ?h2_b4 ?h3_b4 ?h_b4
          case hf_b4 => exact hfr
          case h1_b4 => kernel_rfl
          case h2_b4 => kernel_rfl
          case h3_b4 => rfl
          clear hfr
          intro z w1 hb hd ho K hK
          have e3 : z 3 = .pointer (some ⟨BC, 1, none⟩) := hd.out 3 (by kernel_rfl)
          clear hd ho
          have x0 := cT.out w1 hb
          go_simp
          have hh := hK.out (.int .i64 (t : Int)) _ (Below.refl _ _) rfl
          simp only [Act.put, List.setIfInBounds_toArray, List.set_cons_zero, List.set_cons_succ, e3] at hh
          exact hh
        refine Rgn.AllOb.cons (j := 6) (by kernel_rfl) ?_ ?_
        · refine' Rgn.ob_body (fr := _) ?hf_b5 ?h1_b5 ?h2_b5 ?h3_b5 ?h_b5
          case hf_b5 => exact hfr
          case h1_b5 => kernel_rfl
          case h2_b5 => kernel_rfl
          case h3_b5 => rfl
          clear hfr
          intro z w1 hb hd ho K hK
          have e4 : z 4 = .int .i64 (t : Int) := hd.out 4 (by kernel_rfl)
          clear hd ho
          have hwp : IntKind.u64.wrap (t : Int) = (t : Int) := by rw [IntKind.wrap_u64]; omega
          go_simp
          have hh := hK.out (.int .u64 (t : Int)) _ (Below.refl _ _) rfl
          simp only [Act.put, List.setIfInBounds_toArray, List.set_cons_zero, List.set_cons_succ, e4] at hh
          exact hh
        refine Rgn.AllOb.cons (j := 7) (by kernel_rfl) ?_ ?_
        · refine' Rgn.ob_body (fr := _) ?hf_b6 ?h1_b6 ?h2_b6 ?h3_b6 ?h_b6
          case hf_b6 => exact hfr
          case h1_b6 => kernel_rfl
          case h2_b6 => kernel_rfl
          case h3_b6 => rfl
          clear hfr
          intro z w1 hb hd ho K hK
          have e5 : z 5 = .int .u64 (t : Int) := hd.out 5 (by kernel_rfl)
          clear hd ho
          go_simp
          refine (longOf_any t w1 (by omega)).mono ?_
          rintro e w2 ⟨r, rfl, hr, b⟩
          have hh := hK.out _ _ b hr
          simp only [Act.put, List.setIfInBounds_toArray, List.set_cons_zero, List.set_cons_succ, e5] at hh
          exact hh
        refine Rgn.AllOb.cons (j := 8) (by kernel_rfl) ?_ ?_
        · refine' Rgn.ob_body (fr := _) ?hf_b7 ?h1_b7 ?h2_b7 ?h3_b7 ?h_b7
          case hf_b7 => exact hfr
          case h1_b7 => kernel_rfl
          case h2_b7 => kernel_rfl
          case h3_b7 => rfl
          clear hfr
          intro z w1 hb hd ho K hK
          have e2 : z 2 = .slice da dn dc := hd.out 2 (by kernel_rfl)
          have e6 : LongI w1 (z 6) (t) := hd.out 6 (by kernel_rfl)
          clear hd ho
          go_simp
          refine (times_any _ _ D t w1 (hDr.out.keep hb) e6 (by omega) (by omega)).mono ?_
          rintro e w2 ⟨r, rfl, hr, b⟩
          have hh := hK.out _ _ b hr
          simp only [Act.put, List.setIfInBounds_toArray, List.set_cons_zero, List.set_cons_succ, e2] at hh
          exact hh
        refine Rgn.AllOb.cons (j := 9) (by kernel_rfl) ?_ ?_
        · refine' Rgn.ob_body (fr := _) ?hf_b8 ?h1_b8 ?h2_b8 ?h3_b8 ?h_b8
          case hf_b8 => exact hfr
          case h1_b8 => kernel_rfl
          case h2_b8 => kernel_rfl
          case h3_b8 => rfl
          clear hfr
          intro z w1 hb hd ho K hK
          have e0 : z 0 = .slice (some ⟨G, 0, none⟩) n n := hd.out 0 (by kernel_rfl)
          have e7 : LongI w1 (z 7) (D * t) := hd.out 7 (by kernel_rfl)
          clear hd ho
          go_simp
          obtain ⟨ra, rn, rc, e7s⟩ := likeI.shape e7
          rw [e7s] at e7
          simp only [e7s]
          go_simp
          have hh := hK.out _ _ (Below.refl _ _) ⟨_, rfl, e7⟩
          simp only [Act.put, List.setIfInBounds_toArray, List.set_cons_zero, List.set_cons_succ, e0, e7s] at hh
          exact hh
        refine Rgn.AllOb.cons (j := 10) (by kernel_rfl) ?_ ?_
        · refine' Rgn.ob_tail0 (fr := _) ?hf_b9 ?h1_b9 ?h3_b9 ?h_b9
          case hf_b9 => exact hfr
          case h1_b9 => kernel_rfl
          case h3_b9 => rfl
          clear hfr
          intro z w1 hb hf hd ho K hK
          obtain ⟨d, e8, hd8⟩ : ∃ d, z 8 = .agg #[.slice (some ⟨G, 0, none⟩) n n, d] ∧ LongI w1 d (D * t) := hf.out 8 (by decide) rfl rfl
          obtain ⟨ra, rn, rc, rfl⟩ := likeI.shape hd8
          have hR1 := hRr.out.keep hb hRr.out.lt
          have N1 := hN.out.keep hb
          have y0 := hR1.cell 0
          have y1 := hR1.cell 1
          have f0 := hR1.frozen 0
          have f1 := hR1.frozen 1
          simp only [List.getElem?_toArray, List.getElem?_cons_zero, List.getElem?_cons_succ] at y0 y1
          clear hf hd ho
          go_simp
          have hh := hK.out undef _ ⟨ra, rn, rc, by have := (hR1.set 0 (.slice (some ⟨G, 0, none⟩) n n)).set 1 (.slice ra rn rc); simpa using this, (hd8.setBox hR1 0 _).setBox (hR1.set 0 _) 1 _, (N1.setBox hR1 (Nat.ne_of_gt hBG.out) 0 _).setBox (hR1.set 0 _) (Nat.ne_of_gt hBG.out) 1 _, ((below_wt BWr.out hb).setCell (p := ⟨BR, 0, none⟩) hBR.out _).setCell (p := ⟨BR, 1, none⟩) hBR.out _⟩
          simp only [Act.put, List.setIfInBounds_toArray, List.set_cons_zero, List.set_cons_succ, e8] at hh
          exact hh
        exact Rgn.AllOb.nil
      case hend_b =>
        intro hfr
        refine' Rgn.end_tails (fr := _) ?g1_b ?g2_b ?g3_b
        case g1_b => exact hfr
        case g2_b => rfl
        clear hfr
        intro z w7 hT hg
        obtain ⟨ra, rn, rc, hR7, hL7, hN7, b7⟩ := hT
        have y0 := hR7.cell 0
        have y1 := hR7.cell 1
        simp only [List.getElem?_toArray, List.getElem?_cons_zero, List.getElem?_cons_succ] at y0 y1
        replace hN7 := Lib.hid hN7
        replace b7 := Lib.hid b7
        replace hL7 := Lib.hid hL7
        clear hg hN hDr hRr BWr cD cT
        go_wp2
        refine bodyPost_ret (v := .agg #[.slice (some ⟨G, 0, none⟩) n n, .slice ra rn rc]) (by simp [results, Try.results36, go_sem, y0, y1]) rfl ?_
        exact ⟨_, _, rfl, hN7.out, hL7.out, hGw.out, b7.out⟩
end Go.Proofs.Ytiddhnnofpbopaa

/- Some steps of the project's vector of chances. Conditions: 1 to 1000 states, weights up to 3600, numbers of at most 100000 words at the end. -/
namespace Go.Proofs.Ytiddhnnofpbopaa
open Go.RowKit Go.Deep
set_option linter.unusedVariables false
set_option linter.unusedSimpArgs false

theorem RowL.setBoxI {w : World} {g o n c : Nat} {l : List Nat} (h : RowL LongI w (.slice (some ⟨g, o, none⟩) n c) l) {b : Nat} {a1 a2 : Option Addr} {l1 c1 l2 c2 : Nat} {t : TypeId} (hB : Blk w b #[.slice a1 l1 c1, .slice a2 l2 c2] t)
    (hne : g ≠ b) (j : Nat) (u : Value) : RowL LongI (w.setCell ⟨b, j, none⟩ u) (.slice (some ⟨g, o, none⟩) n c) l := by
  obtain ⟨a, cap, hv, hc⟩ := h
  injection hv with e1 e2 e3
  subst e1 e2 e3
  refine ⟨_, _, rfl, fun i hi => ?_⟩
  obtain ⟨g', off, x, ha, hx, h1⟩ := hc i hi
  injection ha with ha
  injection ha with e1 e2 _
  subst e1 e2
  exact ⟨_, _, x, rfl, by rw [World.cell?_setCell_other _ _ _ _ (fun e => by injection e with e1 _ _; omega)]; exact hx, LongI.setBox h1 hB j u⟩
theorem NumsAt.rowN {e : TypeId} {w : World} {g n : Nat} {R : List Nat} (h : NumsAt e w g R) (hn : R.length = n) (cap : Nat) : RowL LongI w (.slice (some ⟨g, 0, none⟩) n cap) R := by
  subst hn; exact h.row cap
theorem pow_next (D t i : Nat) : D * t ^ i * t = D * t ^ (i + 1) := by rw [Nat.pow_succ, Nat.mul_assoc]
theorem pow_lenW (D t L : Nat) (hD : dlen W32 D ≤ L) (ht : t ≤ 3600) : ∀ i, dlen W32 (D * t ^ i) ≤ L + i * 2
  | 0 => by simpa using hD
  | i + 1 => by
      rw [← pow_next]
      have := mul_dlen w32 (pow_lenW D t L hD ht i) (dlen_le w32 (show t < W32 ^ 2 by simp only [W32]; omega))
      omega

end Go.Proofs.Ytiddhnnofpbopaa

/- One number of a vector, and the chances of a spread over the states of a chain (the project's). Conditions: told by the code. -/
namespace Go.Proofs.Ytiddhnnofpbopaa
open Go.RowKit Go.Deep
set_option linter.unusedVariables false
set_option linter.unusedSimpArgs false

set_option maxRecDepth 100000 in
set_option maxHeartbeats 4000000 in
theorem sharingAt_any (nv dv : Value) (A : List Nat) (D s : Nat) (w : World) (hA : RowL LongI w nv A) (hD : LongI w dv D) (hs : s < A.length) (hn : A.length ≤ 1000000) :
    Calls Try.prog 38 #[.agg #[nv, dv], .int .i64 (s : Int)] w fun e w' => ∃ p q, e = .returned (.agg #[p, q]) ∧ LongI w' p (A.getD s 0) ∧ LongI w' q D ∧ Below w.heap.size w w' := by
  obtain ⟨na, nc, rfl, hc⟩ := id hA
  obtain ⟨b, o, xv, rfl, hcell, hX⟩ := hc s hs
  obtain ⟨xa, xn, xc, rfl⟩ := likeI.shape hX
  obtain ⟨da, dn, dc, rfl⟩ := likeI.shape hD
  obtain ⟨n, hne⟩ : ∃ n, A.length = n := ⟨_, rfl⟩
  rw [hne] at hs hn ⊢
  generalize A.getD s 0 = X at *
  have b1 := below1 w (.cells #[.slice (some ⟨b, o, none⟩) n nc, .slice da dn dc] 73)
  have b2 := below1 (w.alloc (.cells #[.slice (some ⟨b, o, none⟩) n nc, .slice da dn dc] 73)) (.cells #[.slice none 0 0, .slice none 0 0] 77)
  have hP := (Blk.new w #[.slice (some ⟨b, o, none⟩) n nc, .slice da dn dc] 73).keep b2 (Blk.new w #[.slice (some ⟨b, o, none⟩) n nc, .slice da dn dc] 73).lt
  have hRb := Blk.new (w.alloc (.cells #[.slice (some ⟨b, o, none⟩) n nc, .slice da dn dc] 73)) #[.slice none 0 0, .slice none 0 0] 77
  simp only [World.size_alloc] at hRb
  have b12 := below_wt b1 b2
  have hXx := Lib.hid (hX.keep b12)
  have hDx := Lib.hid (hD.keep b12)
  have hcx := Lib.hid ((b12.cell (p := ⟨b, o + s, none⟩) (block_lt hcell)).trans hcell)
  replace hRb := Lib.hid hRb
  replace hP := Lib.hid hP
  have bV := Lib.hid b12
  have i1 : (0 : Int) ≤ (s : Int) := by omega
  have i2 : (s : Int) < (n : Int) := by omega
  clear hA hD hc hX hcell b1 b2 b12 hne
  go_enter Try.func38, Try.ntmps38
  go_upto_region 1 with fail
  generalize hV : (w.alloc (.cells #[.slice (some ⟨b, o, none⟩) n nc, .slice da dn dc] 73)).alloc (.cells #[.slice none 0 0, .slice none 0 0] 77) = V at *
  have cP0 := Lib.hid (fun w1 (hb : Below V.heap.size V w1) => (show w1.cell? ⟨w.heap.size, 0, none⟩ = some (.slice (some ⟨b, o, none⟩) n nc) from (hP.out.keep hb hP.out.lt).cell 0))
  have cP1 := Lib.hid (fun w1 (hb : Below V.heap.size V w1) => (show w1.cell? ⟨w.heap.size, 1, none⟩ = some (.slice da dn dc) from (hP.out.keep hb hP.out.lt).cell 1))
  have cX := Lib.hid (fun w1 (hb : Below V.heap.size V w1) => (hb.cell (p := ⟨b, o + s, none⟩) (block_lt hcx.out)).trans hcx.out)
  clear hV hcx
  refine' Rgn.region_by (fun i => match i with | 8 => 1 | _ => 0) 1 (fun _ => false) (fun i _ v w' => match i with
      | 0 => v = .pointer (some ⟨w.heap.size, 0, none⟩)
      | 1 => v = .slice (some ⟨b, o, none⟩) n nc
      | 2 => v = .int .i64 (s : Int)
      | 3 => v = .pointer (some ⟨b, o + s, none⟩)
      | 4 => v = .slice xa xn xc
      | 5 => v = .pointer (some ⟨w.heap.size, 1, none⟩)
      | 6 => v = .slice da dn dc
      | 7 => v = .agg #[.slice xa xn xc, .slice da dn dc]
      | _ => True) (fun i _ v => match i with
      | 0 => v = .pointer (some ⟨w.heap.size, 0, none⟩)
      | 1 => v = .slice (some ⟨b, o, none⟩) n nc
      | 2 => v = .int .i64 (s : Int)
      | 3 => v = .pointer (some ⟨b, o + s, none⟩)
      | 4 => v = .slice xa xn xc
      | 5 => v = .pointer (some ⟨w.heap.size, 1, none⟩)
      | 6 => v = .slice da dn dc
      | 7 => v = .agg #[.slice xa xn xc, .slice da dn dc]
      | _ => True)
      (fun p z w' => Blk w' (w.heap.size + 1) #[.slice xa xn xc, .slice da dn dc] 77 ∧ LongI w' (.slice xa xn xc) X ∧ LongI w' (.slice da dn dc) D ∧ Below w.heap.size w w') (by kernel_rfl) (by kernel_rfl) (by kernel_rfl) ?hst_a ?hG_a _ ?hfr_a ?hob_a ?hend_a
  case hfr_a =>
    intro z
    simp only [Rgn.fillAll, Act.put, List.setIfInBounds_toArray, List.set_cons_zero, List.set_cons_succ, Nat.reduceAdd, Nat.zero_add]
    exact rfl
  case hst_a =>
    intro i z v w1 w2 hi hb hx
    rcases i with _ | i
    · exact hx
    rcases i with _ | i
    · exact hx
    rcases i with _ | i
    · exact hx
    rcases i with _ | i
    · exact hx
    rcases i with _ | i
    · exact hx
    rcases i with _ | i
    · exact hx
    rcases i with _ | i
    · exact hx
    rcases i with _ | i
    · exact hx
    rcases i with _ | i
    · exact trivial
    exact trivial
  case hG_a =>
    intro i z v w1 hi hx
    rcases i with _ | i
    · exact hx
    rcases i with _ | i
    · exact hx
    rcases i with _ | i
    · exact hx
    rcases i with _ | i
    · exact hx
    rcases i with _ | i
    · exact hx
    rcases i with _ | i
    · exact hx
    rcases i with _ | i
    · exact hx
    rcases i with _ | i
    · exact hx
    rcases i with _ | i
    · exact trivial
    exact trivial
  case hob_a =>
    intro hfr
    refine Rgn.AllOb.cons (j := 1) (by kernel_rfl) ?_ ?_
    · refine' Rgn.ob_body (fr := _) ?hf_a0 ?h1_a0 ?h2_a0 ?h3_a0 ?h_a0
      case hf_a0 => exact hfr
      case h1_a0 => kernel_rfl
      case h2_a0 => kernel_rfl
      case h3_a0 => rfl
      clear hfr
      intro z w1 hb hd ho K hK
      clear hd ho
      go_simp
      have hh := hK.out (.pointer (some ⟨w.heap.size, 0, none⟩)) _ (Below.refl _ _) rfl
      simp only [Act.put, List.setIfInBounds_toArray, List.set_cons_zero, List.set_cons_succ] at hh
      exact hh
    refine Rgn.AllOb.cons (j := 2) (by kernel_rfl) ?_ ?_
    · refine' Rgn.ob_body (fr := _) ?hf_a1 ?h1_a1 ?h2_a1 ?h3_a1 ?h_a1
      case hf_a1 => exact hfr
      case h1_a1 => kernel_rfl
      case h2_a1 => kernel_rfl
      case h3_a1 => rfl
      clear hfr
      intro z w1 hb hd ho K hK
      have e0 : z 0 = .pointer (some ⟨w.heap.size, 0, none⟩) := hd.out 0 (by kernel_rfl)
      clear hd ho
      have x0 := cP0.out w1 hb
      go_simp
      have hh := hK.out (.slice (some ⟨b, o, none⟩) n nc) _ (Below.refl _ _) rfl
      simp only [Act.put, List.setIfInBounds_toArray, List.set_cons_zero, List.set_cons_succ, e0] at hh
      exact hh
    refine Rgn.AllOb.cons (j := 3) (by kernel_rfl) ?_ ?_
    · refine' Rgn.ob_body (fr := _) ?hf_a2 ?h1_a2 ?h2_a2 ?h3_a2 ?h_a2
      case hf_a2 => exact hfr
      case h1_a2 => kernel_rfl
      case h2_a2 => kernel_rfl
      case h3_a2 => rfl
      clear hfr
      intro z w1 hb hd ho K hK
      clear hd ho
      go_simp
      have hh := hK.out (.int .i64 (s : Int)) _ (Below.refl _ _) rfl
      simp only [Act.put, List.setIfInBounds_toArray, List.set_cons_zero, List.set_cons_succ] at hh
      exact hh
    refine Rgn.AllOb.cons (j := 4) (by kernel_rfl) ?_ ?_
    · refine' Rgn.ob_body (fr := _) ?hf_a3 ?h1_a3 ?h2_a3 ?h3_a3 ?h_a3
      case hf_a3 => exact hfr
      case h1_a3 => kernel_rfl
      case h2_a3 => kernel_rfl
      case h3_a3 => rfl
      clear hfr
      intro z w1 hb hd ho K hK
      have e1 : z 1 = .slice (some ⟨b, o, none⟩) n nc := hd.out 1 (by kernel_rfl)
      have e2 : z 2 = .int .i64 (s : Int) := hd.out 2 (by kernel_rfl)
      clear hd ho
      go_simp
      have hh := hK.out (.pointer (some ⟨b, o + s, none⟩)) _ (Below.refl _ _) rfl
      simp only [Act.put, List.setIfInBounds_toArray, List.set_cons_zero, List.set_cons_succ, e1, e2] at hh
      exact hh
    refine Rgn.AllOb.cons (j := 5) (by kernel_rfl) ?_ ?_
    · refine' Rgn.ob_body (fr := _) ?hf_a4 ?h1_a4 ?h2_a4 ?h3_a4 ?h_a4
      case hf_a4 => exact hfr
      case h1_a4 => kernel_rfl
      case h2_a4 => kernel_rfl
      case h3_a4 => rfl
      clear hfr
      intro z w1 hb hd ho K hK
      have e3 : z 3 = .pointer (some ⟨b, o + s, none⟩) := hd.out 3 (by kernel_rfl)
      clear hd ho
      have x0 := cX.out w1 hb
      go_simp
      have hh := hK.out (.slice xa xn xc) _ (Below.refl _ _) rfl
      simp only [Act.put, List.setIfInBounds_toArray, List.set_cons_zero, List.set_cons_succ, e3] at hh
      exact hh
    refine Rgn.AllOb.cons (j := 6) (by kernel_rfl) ?_ ?_
    · refine' Rgn.ob_body (fr := _) ?hf_a5 ?h1_a5 ?h2_a5 ?h3_a5 ?h_a5
      case hf_a5 => exact hfr
      case h1_a5 => kernel_rfl
      case h2_a5 => kernel_rfl
      case h3_a5 => rfl
      clear hfr
      intro z w1 hb hd ho K hK
      clear hd ho
      go_simp
      have hh := hK.out (.pointer (some ⟨w.heap.size, 1, none⟩)) _ (Below.refl _ _) rfl
      simp only [Act.put, List.setIfInBounds_toArray, List.set_cons_zero, List.set_cons_succ] at hh
      exact hh
    refine Rgn.AllOb.cons (j := 7) (by kernel_rfl) ?_ ?_
    · refine' Rgn.ob_body (fr := _) ?hf_a6 ?h1_a6 ?h2_a6 ?h3_a6 ?h_a6
      case hf_a6 => exact hfr
      case h1_a6 => kernel_rfl
      case h2_a6 => kernel_rfl
      case h3_a6 => rfl
      clear hfr
      intro z w1 hb hd ho K hK
      have e5 : z 5 = .pointer (some ⟨w.heap.size, 1, none⟩) := hd.out 5 (by kernel_rfl)
      clear hd ho
      have x0 := cP1.out w1 hb
      go_simp
      have hh := hK.out (.slice da dn dc) _ (Below.refl _ _) rfl
      simp only [Act.put, List.setIfInBounds_toArray, List.set_cons_zero, List.set_cons_succ, e5] at hh
      exact hh
    refine Rgn.AllOb.cons (j := 8) (by kernel_rfl) ?_ ?_
    · refine' Rgn.ob_body (fr := _) ?hf_a7 ?h1_a7 ?h2_a7 ?h3_a7 ?h_a7
      case hf_a7 => exact hfr
      case h1_a7 => kernel_rfl
      case h2_a7 => kernel_rfl
      case h3_a7 => rfl
      clear hfr
      intro z w1 hb hd ho K hK
      have e4 : z 4 = .slice xa xn xc := hd.out 4 (by kernel_rfl)
      have e6 : z 6 = .slice da dn dc := hd.out 6 (by kernel_rfl)
      clear hd ho
      go_simp
      have hh := hK.out (.agg #[.slice xa xn xc, .slice da dn dc]) _ (Below.refl _ _) rfl
      simp only [Act.put, List.setIfInBounds_toArray, List.set_cons_zero, List.set_cons_succ, e4, e6] at hh
      exact hh
    refine Rgn.AllOb.cons (j := 9) (by kernel_rfl) ?_ ?_
    · refine' Rgn.ob_tail0 (fr := _) ?hf_a8 ?h1_a8 ?h3_a8 ?h_a8
      case hf_a8 => exact hfr
      case h1_a8 => kernel_rfl
      case h3_a8 => rfl
      clear hfr
      intro z w1 hb hf hd ho K hK
      have e7 : z 7 = .agg #[.slice xa xn xc, .slice da dn dc] := hf.out 7 (by decide) rfl rfl
      have hX1 := hRb.out.keep hb hRb.out.lt
      have y0 := hX1.cell 0
      have y1 := hX1.cell 1
      have f0 := hX1.frozen 0
      have f1 := hX1.frozen 1
      simp only [List.getElem?_toArray, List.getElem?_cons_zero, List.getElem?_cons_succ] at y0 y1
      clear hf hd ho
      go_simp
      have hh := hK.out undef _ ⟨by have := (hX1.set 0 (.slice xa xn xc)).set 1 (.slice da dn dc); simpa using this, ((hXx.out.keep hb).setBox hX1 0 _).setBox (hX1.set 0 _) 1 _, ((hDx.out.keep hb).setBox hX1 0 _).setBox (hX1.set 0 _) 1 _, ((below_wt bV.out hb).setCell (p := ⟨w.heap.size + 1, 0, none⟩) (Nat.le_succ _) _).setCell (p := ⟨w.heap.size + 1, 1, none⟩) (Nat.le_succ _) _⟩
      simp only [Act.put, List.setIfInBounds_toArray, List.set_cons_zero, List.set_cons_succ, e7] at hh
      exact hh
    exact Rgn.AllOb.nil
  case hend_a =>
    intro hfr
    refine' Rgn.end_tails (fr := _) ?g1_a ?g2_a ?g3_a
    case g1_a => exact hfr
    case g2_a => rfl
    clear hfr
    intro z w6 hT hg
    obtain ⟨hB6, hX6, hD6, b6⟩ := hT
    obtain ⟨z0, z1⟩ := (⟨hB6.cell 0, hB6.cell 1⟩ : _ ∧ _)
    simp only [List.getElem?_toArray, List.getElem?_cons_zero, List.getElem?_cons_succ] at z0 z1
    replace hX6 := Lib.hid hX6
    replace hD6 := Lib.hid hD6
    replace b6 := Lib.hid b6
    clear hg hB6
    go_wp2
    refine bodyPost_ret (v := .agg #[.slice xa xn xc, .slice da dn dc]) (by simp [results, Try.results38, go_sem, z0, z1]) rfl ?_
    exact ⟨_, _, rfl, hX6.out, hD6.out, b6.out⟩

/-- the code of readSpreadOf -/
def rsoC (c : Ch) (p : List (ByteArray × ByteArray)) : Int := if (spreadB p && chOk c) = true then (if (p.length : Int) = c.n then 0 else 2) else 1
set_option maxRecDepth 100000 in
set_option maxHeartbeats 4000000 in
theorem readSpreadOf_any (cv pv : Value) (c : Ch) (p : List (ByteArray × ByteArray)) (w : World) (hc : ChR w cv c) (hp : FrL w pv p) :
    Calls Try.prog 34 #[cv, pv] w fun e w' => ∃ a n cap, e = .returned (.tuple #[.slice a n cap, .int .i64 (rsoC c p)]) ∧ Below w.heap.size w w' ∧ (rsoC c p = 0 → n = p.length ∧ PairL LongI w' (.slice a n cap) (numP p)) := by
  obtain ⟨hm1, va, vc, rfl, _⟩ := id hp
  unfold maxLen at hm1
  obtain ⟨ca, ccap, hcv⟩ : ∃ a cap, cv = .agg #[.int .i64 c.n, .int .i64 c.t, .slice a c.w.length cap] := by
    obtain ⟨v, rfl, hr⟩ := hc
    obtain ⟨_, a, cap, rfl⟩ := hr.len
    exact ⟨a, cap, rfl⟩
  subst hcv
  obtain ⟨L, hL⟩ : ∃ L, L = p.length := ⟨_, rfl⟩
  have b0 := below1 w (.cells #[.int .i64 c.n, .int .i64 c.t, .slice ca c.w.length ccap] 36)
  have hB := Blk.new w #[.int .i64 c.n, .int .i64 c.t, .slice ca c.w.length ccap] 36
  have hs := Lib.hid (readSpread_any (.slice va p.length vc) p _ (hp.keep b0))
  rw [← hL] at hm1 hs ⊢
  have hL' := Lib.hid hL
  have K0 := Lib.hid (hc.keep b0)
  have hr1 := Lib.hid (fun (h : (spreadB p && chOk c) = false) => (show rsoC c p = 1 by unfold rsoC; rw [if_neg (by rw [h]; decide)]))
  have hr2 := Lib.hid (fun (h : (spreadB p && chOk c) = true) (hl : (p.length : Int) = c.n) => (show rsoC c p = 0 by unfold rsoC; rw [if_pos h, if_pos hl]))
  have hr3 := Lib.hid (fun (h : (spreadB p && chOk c) = true) (hl : ¬ (p.length : Int) = c.n) => (show rsoC c p = 2 by unfold rsoC; rw [if_pos h, if_neg hl]))
  obtain ⟨RC, hRC⟩ : ∃ x, rsoC c p = x := ⟨_, rfl⟩
  rw [hRC] at hr1 hr2 hr3 ⊢
  clear hc hp hL hRC
  go_enter Try.func34, Try.ntmps34
  go_wp2_with fail
  (with_reducible refine hs.out.mono ?_)
  rintro e w1 ⟨aa, an, acap, rfl, b1, hval⟩
  have hB1 := hB.keep b1 hB.lt
  have K1 := Lib.hid (ValidChain_impl _ c w1 (K0.out.keep b1))
  have B1 := Lib.hid (below_wt b0 b1)
  have hval' := Lib.hid hval
  clear hval b0 b1 hB hs K0
  rcases ho1 : spreadB p with _ | _
  · have hr := Lib.hid (hr1.out (by rw [ho1]; rfl))
    have hz := Lib.hid (show (1 : Int) = 0 → an = L ∧ PairL LongI w1 (.slice none 0 0) (numP p) from fun h => absurd h (by decide))
    clear hr1 hr2 hr3 hval' K1 hB1
    go_wp2
    go_ret2
    exact ⟨none, 0, 0, (by rw [hr.out]; first | done | rfl), B1.out, fun h => absurd (hr.out.symm.trans h) (by decide)⟩
  · obtain ⟨q0, q1, q2⟩ := (⟨hB1.cell 0, hB1.cell 1, hB1.cell 2⟩ : _ ∧ _ ∧ _)
    simp only [List.getElem?_toArray, List.getElem?_cons_zero, List.getElem?_cons_succ] at q0 q1 q2
    obtain ⟨hl1, hP1⟩ := hval'.out ho1
    subst hl1
    have hP' := Lib.hid hP1
    rw [ho1] at hr1 hr2 hr3
    clear ho1 hval' hP1
    go_wp2_with fail
    (with_reducible refine K1.out.mono ?_)
    rintro e w2 ⟨rfl, b2⟩
    have hB2 := hB1.keep b2 hB1.lt
    have hP2 := Lib.hid (hP'.out.keep likeI b2)
    have B2 := Lib.hid (below_wt B1.out b2)
    have q0 := hB2.cell 0
    simp only [List.getElem?_toArray, List.getElem?_cons_zero, List.getElem?_cons_succ] at q0
    clear b2 hB2 hP' B1 hB1 K1 q1 q2
    rcases ho2 : chOk c with _ | _
    · have hr := Lib.hid (hr1.out (by rw [ho2]; rfl))
      clear hr1 hr2 hr3 ho2
      go_wp2
      go_ret2
      exact ⟨none, 0, 0, (by rw [hr.out]; first | done | rfl), B2.out, fun h => absurd (hr.out.symm.trans h) (by decide)⟩
    · rw [ho2] at hr2 hr3
      have hl' := hL'.out
      by_cases hl : (an : Int) = c.n
      · have hr := Lib.hid (hr2.out rfl (by rw [← hl']; exact hl))
        have hne : ((an : Int) != c.n) = false := by simpa using hl
        clear hr1 hr2 hr3 ho2 hl hl'
        go_wp2
        go_ret2
        exact ⟨aa, an, acap, (by rw [hr.out]; first | done | rfl), B2.out, fun _ => ⟨rfl, hP2.out⟩⟩
      · have hr := Lib.hid (hr3.out rfl (by rw [← hl']; exact hl))
        have hne : ((an : Int) != c.n) = true := by simpa using hl
        clear hr1 hr2 hr3 ho2 hl hl'
        go_wp2
        go_ret2
        exact ⟨none, 0, 0, (by rw [hr.out]; first | done | rfl), B2.out, fun h => absurd (hr.out.symm.trans h) (by decide)⟩
end Go.Proofs.Ytiddhnnofpbopaa
