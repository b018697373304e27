/- The closed classes in the project, and whether there is one class: closed, areOne, and ClassesOf, ClosedClasses, IsConnected. Conditions: none on the chain. -/
import Derived.Test.YtkebfnmepbblnaaClassI
import Derived.Test.YtkebfnmepbblnaaSame
import Derived.Deep.RegionHeld3
namespace Go.Proofs.Ytkebfnmepbblnaa
open Go.RowKit Go.Deep
set_option linter.unusedVariables false

theorem sel_first {p : Nat → Bool} {n s : Nat} (hs : s < n) (hp : p s = true) (hmin : ∀ y, y < s → p y = false) : (selL p n).getD 0 0 = (s : Int) := by
  have hm : s ∈ (List.range n).filter p := List.mem_filter.2 ⟨List.mem_range.2 hs, hp⟩
  unfold selL
  cases e : (List.range n).filter p with
  | nil => rw [e] at hm; simp at hm
  | cons x l =>
    have hx : x ∈ (List.range n).filter p := by rw [e]; simp
    rw [List.mem_filter] at hx
    have hsort : ((List.range n).filter p).Pairwise (· < ·) := List.Pairwise.filter _ List.pairwise_lt_range
    rw [e] at hsort hm
    have h1 : ¬ x < s := fun h => by rw [hmin x h] at hx; cases hx.2
    rcases List.mem_cons.1 hm with h | h
    · subst h; simp
    · have := (List.pairwise_cons.1 hsort).1 s h; omega
def clsL (r : Nat → Nat → Bool) (n k : Nat) : List Int := selL (fun t => num r t == k) n
theorem xsAt_succ (r : Nat → Nat → Bool) (n k : Nat) : xsAt r n (k + 1) = clsL r n k := by simp [xsAt, clsL]
def condK (r : Nat → Nat → Bool) (n k : Nat) : Bool := decide (clsL r n k = reL r n ((clsL r n k).getD 0 0).toNat)
def keptK (r : Nat → Nat → Bool) (n : Nat) : Nat → List Nat
  | 0 => []
  | k + 1 => if condK r n k then keptK r n k ++ [k] else keptK r n k
theorem keptK_yes {r : Nat → Nat → Bool} {n k : Nat} (h : condK r n k = true) : keptK r n (k + 1) = keptK r n k ++ [k] := by simp [keptK, h]
theorem keptK_no {r : Nat → Nat → Bool} {n k : Nat} (h : condK r n k = false) : keptK r n (k + 1) = keptK r n k := by simp [keptK, h]
theorem keptK_lt (r : Nat → Nat → Bool) (n k : Nat) : ∀ j ∈ keptK r n k, j < k := by
  induction k with
  | zero => simp [keptK]
  | succ k ih =>
    intro j hj
    cases h : condK r n k with
    | true =>
      rw [keptK_yes h, List.mem_append] at hj
      rcases hj with hj | hj
      · have := ih j hj; omega
      · simp at hj; omega
    | false => rw [keptK_no h] at hj; have := ih j hj; omega
theorem keptK_len (r : Nat → Nat → Bool) (n k : Nat) : (keptK r n k).length ≤ k := by
  induction k with
  | zero => exact Nat.le_refl _
  | succ k ih =>
    cases h : condK r n k with
    | true => rw [keptK_yes h, List.length_append]; simp only [List.length_cons, List.length_nil]; omega
    | false => rw [keptK_no h]; omega
theorem keptK_nodup (r : Nat → Nat → Bool) (n k : Nat) : (keptK r n k).Nodup := by
  induction k with
  | zero => simp [keptK]
  | succ k ih =>
    cases h : condK r n k with
    | true =>
      rw [keptK_yes h, List.nodup_append]
      refine ⟨ih, by simp, fun a ha b hb e => ?_⟩
      have := keptK_lt r n k a ha
      simp at hb
      omega
    | false => rw [keptK_no h]; exact ih
/-- the state with which a class begins -/
theorem cls_leader {n : Nat} {r : Nat → Nat → Bool} (P : Pre n r) {k : Nat} (hk : k < cnt r n) : ∃ s, s < n ∧ rep r s = true ∧ cnt r s = k ∧ num r s = k ∧ (clsL r n k).getD 0 0 = (s : Int) := by
  have hex : ∀ m, m ≤ n → k < cnt r m → ∃ s, s < m ∧ rep r s = true ∧ cnt r s = k := by
    intro m
    induction m with
    | zero => intro _ h; simp [cnt] at h
    | succ m ih =>
      intro hm h
      by_cases e : k < cnt r m
      · obtain ⟨s, h1, h2, h3⟩ := ih (by omega) e
        exact ⟨s, by omega, h2, h3⟩
      · cases hr : rep r m with
        | true => rw [cnt_yes hr] at h; exact ⟨m, by omega, hr, by omega⟩
        | false => rw [cnt_no hr] at h; omega
  obtain ⟨s, h1, h2, h3⟩ := hex n (Nat.le_refl _) hk
  have hn := num_rep P h1 h2
  refine ⟨s, h1, h2, h3, by omega, sel_first h1 (by simp; omega) fun y hy => ?_⟩
  rw [Bool.eq_false_iff]
  intro hc
  have h5 : num r y = num r s := by simp at hc; omega
  have := (num_mut P (by omega) h1).1 h5
  have h6 := rep_iff.1 h2 y hy
  rw [both_symm this] at h6; cases h6
theorem cond_rep {n : Nat} {r : Nat → Nat → Bool} (P : Pre n r) {s : Nat} (hs : s < n) (hr : rep r s = true) : condK r n (cnt r s) = closedB r n s ∧ (condK r n (cnt r s) = true → clsL r n (cnt r s) = reL r n s) := by
  have hk : cnt r s < cnt r n := cnt_lt hr hs
  obtain ⟨s', h1, h2, h3, h4, h5⟩ := cls_leader P hk
  have hss : s' = s := by
    rcases Nat.lt_trichotomy s' s with h | h | h
    · have := cnt_lt h2 h; omega
    · exact h
    · have := cnt_lt hr h; omega
  subst hss
  have hcl := class_closed P hs
  have hn : num r s' = cnt r s' := num_rep P hs hr
  rw [hn] at hcl
  have e : (((s' : Nat) : Int)).toNat = s' := by omega
  constructor
  · unfold condK
    rw [h5, e, Bool.eq_iff_iff, decide_eq_true_eq]
    exact hcl
  · intro h
    unfold condK at h
    rw [h5, e, decide_eq_true_eq] at h
    exact h
theorem kept_closed {n : Nat} {r : Nat → Nat → Bool} (P : Pre n r) : ∀ s, s ≤ n → (keptK r n (cnt r s)).map (clsL r n) = closedL r n s
  | 0, _ => rfl
  | s + 1, h => by
    have ih := kept_closed P s (by omega)
    cases hr : rep r s with
    | true =>
      obtain ⟨h1, h2⟩ := cond_rep P (s := s) (by omega) hr
      rw [cnt_yes hr]
      simp only [closedL, goodB, hr, Bool.true_and]
      cases hc : condK r n (cnt r s) with
      | true => rw [keptK_yes hc, ← h1, hc, List.map_append, ih]; simp [h2 hc]
      | false => rw [keptK_no hc, ← h1, hc, ih]; simp
    | false =>
      rw [cnt_no hr, ih]
      simp [closedL, goodB, hr]

/-- the rows that have been kept, in the world where they lie -/
theorem kept_rows {w wr : World} {bx mb lo1 hi1 N : Nat} {r : Nat → Nat → Bool} {mv v : Value} {rvs : List Value} {vs : Nat → Value} (hI : ClInv w wr bx mb lo1 hi1 N r mv rvs N vs) {w' : World} (hb : Below wr.heap.size wr w') {k L : Nat}
    (hL : (keptK r N k).length = L) (ho : w'.ownsRow wr.heap.size 25 1 v L ((keptK r N k).map fun j => vs (j + 1))) :
    MadeV 25 2 w' (bx + 1) w'.heap.size v ((keptK r N k).map fun j => vs (j + 1)) (((keptK r N k).map (clsL r N)).map ints) := by
  have hblt := hI.ci.blt
  have hrow : ∀ j, Own w' (bx + 1) wr.heap.size 2 (vs (j + 1)) (ints (clsL r N j)) := fun j => by
    have := (hI.ci.fam.own (j + 1)).keep (Nat.le_refl _) hb
    rw [xsAt_succ] at this
    exact this
  have hget : ∀ i, i < (keptK r N k).length → ((keptK r N k).map fun j => vs (j + 1)).getD i undef = vs ((keptK r N k).getD i 0 + 1) := fun i hi => by simp [List.getD, hi]
  have hget2 : ∀ i, i < (keptK r N k).length → (((keptK r N k).map (clsL r N)).map ints).getD i [] = ints (clsL r N ((keptK r N k).getD i 0)) := fun i hi => by simp [List.getD, hi]
  refine ⟨(Own.of ho (Nat.le_refl _)).wide (by omega) (Nat.le_refl _), by simp, fun i hi => ?_, fun i hi q hq hv => ?_, fun i j hi hj hne q hq => ?_, Nat.le_refl _⟩
  · have hi' : i < (keptK r N k).length := by simpa using hi
    rw [hget i hi', hget2 i hi']
    exact (hrow _).wide (Nat.le_refl _) hb.size
  · have hi' : i < (keptK r N k).length := by simpa using hi
    rw [hget i hi'] at hq
    have h1 := (hrow _).2.2 q hq
    have h2 := (ho.lt q hv).1
    omega
  · have hi' : i < (keptK r N k).length := by simpa using hi
    have hj' : j < (keptK r N k).length := by simpa using hj
    rw [hget i hi'] at hq
    rw [hget j hj']
    refine hI.ci.fam.far _ _ ?_ q hq
    intro e
    have h1 : (keptK r N k)[i] = (keptK r N k)[j] := by simp [List.getD, hi', hj'] at e; exact e
    have hpw := List.pairwise_iff_getElem.1 (keptK_nodup r N k)
    rcases Nat.lt_or_gt_of_ne hne with h | h
    · exact hpw i j hi' hj' h h1
    · exact hpw j i hj' hi' h h1.symm

theorem one_beq (m : Nat) : ((m : Int) == 1) = decide (m = 1) := by
  by_cases h : m = 1
  · simp [h]
  · have : ¬ ((m : Int) = 1) := by omega
    simp [h, this]
set_option maxHeartbeats 4000000 in
theorem areOne_any {w0 w : World} {bx mb lo1 hi1 N : Nat} {r : Nat → Nat → Bool} {mv nv : Value} {rvs : List Value} {vs : Nat → Value} (hI : ClInv w0 w bx mb lo1 hi1 N r mv rvs N vs) :
    Calls Try.prog 150 #[.agg #[mv, nv, .map (some mb)]] w fun e w' => e = .returned (.bool (joinedB r N)) ∧ Below w.heap.size w w' := by
  have hB := Blk.new w #[mv, nv, .map (some mb)] 178
  have B0 := below1 w (.cells #[mv, nv, .map (some mb)] 178)
  have hlen := len_dense (P := Try.prog) (hI.ci.dense.keep B0) Try.underMap
  rw [valsOf_len] at hlen
  have hj := Lib.hid (show joinedB r N = decide (cnt r N = 1) from rfl)
  have hone := Lib.hid (one_beq (cnt r N))
  have hx2 := hB.cell 2
  simp only [List.getElem?_toArray, List.getElem?_cons_zero, List.getElem?_cons_succ] at hx2
  clear hI
  generalize cnt r N = m at *
  go_enter Try.func150, Try.ntmps150
  go_wp2
  go_ret
  exact ⟨by rw [hj.out]; exact ret_bool hone.out, B0⟩

end Go.Proofs.Ytkebfnmepbblnaa
