/- Whether a list has a number (of the specification, and slices.Contains), and isOrdering of the project. Conditions: none. -/
import Derived.Test.YtgaadcinhaphpaaDoorOkS
import Derived.Test.YtgaadcinhaphpaaDoorStep
namespace Go.Proofs.YtgaadcinhaphpaaDoor
open Go.RowKit Go.Deep
set_option linter.unusedVariables false

def hasB (xs : List Int) (n : Int) : Bool := decide (n ∈ xs)
theorem hasB_at {xs : List Int} {n : Int} {k : Nat} (hk : k < xs.length) (h : xs.getD k 0 = n) : hasB xs n = true := by
  simp only [hasB, decide_eq_true_eq]; rw [← h]; exact getD_mem hk
theorem hasB_no {xs : List Int} {n : Int} (h : ∀ j, j < xs.length → xs.getD j 0 ≠ n) : hasB xs n = false := by
  simp only [hasB, decide_eq_false_iff_not]
  intro hm
  obtain ⟨j, hj, rfl⟩ := List.mem_iff_getElem.1 hm
  exact h j hj (by simp [List.getD, hj])

set_option maxRecDepth 100000 in
set_option maxHeartbeats 4000000 in
theorem index_any (v : Value) (xs : List Int) (n : Int) (w : World) (hv : Ints w v xs) :
    Calls Tryd.prog 89 #[v, .int .i64 n] w fun e w' => ∃ r : Int, e = .returned (.int .i64 r) ∧ hasB xs n = decide (0 ≤ r) ∧ w = w' := by
  obtain ⟨hm, a, cap, rfl⟩ := hv.len
  unfold maxLen at hm
  go_enter Tryd.func89, Tryd.ntmps89
  go_wp2
  go_loop [8] (fun i => ∃ k : Nat, k ≤ xs.length ∧ i = .int .i64 k ∧ Hid (∀ j, j < k → xs.getD j 0 ≠ n)) (fun i => xs.length - (intOf i).toNat)
  case atStart => exact ⟨0, Nat.zero_le _, rfl, fun j hj => by omega⟩
  case round =>
    obtain ⟨k, hk, rfl, hb⟩ := hrel
    by_cases hlt : k < xs.length
    · obtain ⟨b, off, cap', hv', _, hc⟩ := hv.at (by omega)
      have ck := hc k hlt
      simp only [Value.slice.injEq] at hv'
      obtain ⟨rfl, -, rfl⟩ := hv'
      have hltI : (k : Int) < (xs.length : Int) := by omega
      obtain ⟨x, hx⟩ : ∃ x, xs.getD k 0 = x := ⟨_, rfl⟩
      rw [hx] at ck
      have hx' := Lib.hid hx
      clear hx hc
      by_cases he : x = n
      · have h1 : (n == x) = true := by rw [he]; simp
        have hr := Lib.hid (hasB_at hlt (hx'.out.trans he))
        clear he
        go_wp2
        go_ret
        exact ⟨_, rfl, by rw [hr.out]; simp, rfl⟩
      · have h1 : (n == x) = false := by simpa using fun h => he h.symm
        go_wp2
        go_round
        case rel =>
          refine ⟨k + 1, by omega, by go_num, fun j hj => ?_⟩
          by_cases e : j = k
          · subst e; rw [hx'.out]; exact he
          · exact hb.out j (by omega)
        case measure => simp [intOf]; omega
    · obtain rfl : k = xs.length := by omega
      have hr := Lib.hid (hasB_no hb.out)
      go_wp2
      go_ret
      exact ⟨_, rfl, by rw [hr.out]; rfl, rfl⟩

set_option maxHeartbeats 2000000 in
theorem contains_any (v : Value) (xs : List Int) (n : Int) (w : World) (hv : Ints w v xs) :
    Calls Tryd.prog 71 #[v, .int .i64 n] w fun e w' => e = .returned (.bool (hasB xs n)) ∧ w = w' := by
  go_enter Tryd.func71, Tryd.ntmps71
  go_wp2_with fail
  refine (index_any v xs n _ hv).mono ?_
  rintro e w' ⟨r, rfl, hr, rfl⟩
  have hr' := Lib.hid hr
  clear hr
  go_wp2
  go_ret
  exact ⟨ret_bool hr'.out.symm, rfl⟩

/-! ### orderings -/
def allIn (xs : List Int) (n : Nat) : Bool := (List.range n).all fun s => hasB xs (s : Int)
def isOrd (xs : List Int) (n : Nat) : Bool := decide (xs.length = n) && allIn xs n
theorem allIn_at {xs : List Int} {n k : Nat} (h : allIn xs n = true) (hk : k < n) : hasB xs k = true := by
  simp only [allIn, List.all_eq_true, List.mem_range] at h; exact h k hk
theorem allIn_of {xs : List Int} {n : Nat} (h : ∀ k, k < n → hasB xs k = true) : allIn xs n = true := by
  simp only [allIn, List.all_eq_true, List.mem_range]; exact h
theorem allIn_not {xs : List Int} {n k : Nat} (hk : k < n) (h : hasB xs k = false) : allIn xs n = false := by
  rw [Bool.eq_false_iff]; intro ha; rw [allIn_at ha hk] at h; cases h
theorem sub_back : ∀ (ys xs : List Int), ys.Nodup → (∀ y ∈ ys, y ∈ xs) → xs.length ≤ ys.length → ∀ x ∈ xs, x ∈ ys
  | [], xs, _, _, hl, x, hx => by
      have : xs = [] := List.eq_nil_of_length_eq_zero (by simpa using hl)
      rw [this] at hx; exact hx
  | y :: r, xs, hn, hs, hl, x, hx => by
      have hy : y ∈ xs := hs y (by simp)
      rw [List.nodup_cons] at hn
      have hle : (xs.erase y).length ≤ r.length := by rw [List.length_erase_of_mem hy]; simp at hl; omega
      by_cases e : x = y
      · simp [e]
      · have hx' : x ∈ xs.erase y := (List.mem_erase_of_ne e).2 hx
        have hs' : ∀ z ∈ r, z ∈ xs.erase y := fun z hz => (List.mem_erase_of_ne (fun h => hn.1 (by rw [← h]; exact hz))).2 (hs z (by simp [hz]))
        exact List.mem_cons_of_mem _ (sub_back r (xs.erase y) hn.2 hs' hle x hx')
theorem isOrd_at {xs : List Int} {n : Nat} (h : isOrd xs n = true) (k : Nat) (hk : k < n) : ∃ p : Nat, xs.getD k 0 = p ∧ p < n := by
  simp only [isOrd, Bool.and_eq_true, decide_eq_true_eq] at h
  obtain ⟨hl, ha⟩ := h
  have hnd : ((List.range n).map fun s : Nat => (s : Int)).Nodup := by
    rw [List.Nodup, List.pairwise_map]
    exact (List.nodup_range (n := n)).imp fun {a b} h e => h (Int.ofNat.inj e)
  have := sub_back ((List.range n).map fun s : Nat => (s : Int)) xs hnd (fun y hy => by
    simp only [List.mem_map, List.mem_range] at hy
    obtain ⟨s, hs, rfl⟩ := hy
    simpa [hasB] using allIn_at ha hs) (by simp [hl]) _ (getD_mem (d := 0) (show k < xs.length by omega))
  simp only [List.mem_map, List.mem_range] at this
  obtain ⟨p, hp, e⟩ := this
  exact ⟨p, e.symm, hp⟩

end Go.Proofs.YtgaadcinhaphpaaDoor
