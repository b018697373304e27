/- Words for slices of bools and rows of them; the laws' comparison and marks. Conditions: as for numbers. -/
import Derived.Test.YtkebfnmepbblnaaKinds
import Derived.Test.YtkebfnmepbblnaaMake
namespace Go.Proofs.Ytkebfnmepbblnaa
open Go.RowKit Go.Deep
set_option linter.unusedVariables false

abbrev bools (xs : List Bool) : List Value := xs.map (Value.bool)
theorem bools_getD (xs : List Bool) (i : Nat) (h : i < xs.length) : (bools xs).getD i undef = .bool (xs.getD i false) := by
  simp [bools, List.getD, h]
/-- v reads as the int64s xs -/
def Bools (w : World) (v : Value) (xs : List Bool) : Prop := Row w v (bools xs)
theorem Bools.keep {w w' : World} {v : Value} {xs : List Bool} (h : Bools w v xs) (hb : Below w.heap.size w w') : Bools w' v xs := Row.keep h hb
theorem Bools.len {w : World} {v : Value} {xs : List Bool} (h : Bools w v xs) : xs.length ≤ maxLen ∧ ∃ a cap, v = .slice a xs.length cap := by
  have := h.1
  obtain ⟨a, cap, hv⟩ := Row.len h
  exact ⟨by simpa [bools] using this, a, cap, by simpa [bools] using hv⟩
theorem Bools.at {w : World} {v : Value} {xs : List Bool} (h : Bools w v xs) (hne : 0 < xs.length) :
    ∃ b off cap, v = .slice (some ⟨b, off, none⟩) xs.length cap ∧ b < w.heap.size ∧ ∀ i, i < xs.length → w.cell? ⟨b, off + i, none⟩ = some (.bool (xs.getD i false)) := by
  obtain ⟨b, off, cap, hv, hb, hc⟩ := Row.at h (by simpa [bools] using hne)
  refine ⟨b, off, cap, by simpa [bools] using hv, hb, fun i hi => ?_⟩
  rw [hc i (by simpa [bools] using hi), bools_getD xs i hi]
/-- v reads as the rows xss -/
def BRows (w : World) (v : Value) (xss : List (List Bool)) : Prop :=
  ∃ rvs, Row w v rvs ∧ rvs.length = xss.length ∧ ∀ i, i < xss.length → Bools w (rvs.getD i undef) (xss.getD i [])
theorem BRows.keep {w w' : World} {v : Value} {xss : List (List Bool)} (h : BRows w v xss) (hb : Below w.heap.size w w') : BRows w' v xss := by
  obtain ⟨rvs, hr, hl, hi⟩ := h
  exact ⟨rvs, hr.keep hb, hl, fun i h => (hi i h).keep hb⟩
theorem BRows.len {w : World} {v : Value} {xss : List (List Bool)} (h : BRows w v xss) : xss.length ≤ maxLen ∧ ∃ a cap, v = .slice a xss.length cap := by
  obtain ⟨rvs, hr, hl, _⟩ := h
  have := hr.1
  obtain ⟨a, cap, hv⟩ := hr.len
  exact ⟨by omega, a, cap, by rw [← hl]; exact hv⟩
theorem BRows.at {w : World} {v : Value} {xss : List (List Bool)} (h : BRows w v xss) (hne : 0 < xss.length) :
    ∃ (b off cap : Nat) (rv : Nat → Value), v = .slice (some ⟨b, off, none⟩) xss.length cap ∧ b < w.heap.size ∧ ∀ i, i < xss.length → w.cell? ⟨b, off + i, none⟩ = some (rv i) ∧ Bools w (rv i) (xss.getD i []) := by
  obtain ⟨rvs, hr, hl, hi⟩ := h
  obtain ⟨b, off, cap, hv, hb, hc⟩ := hr.at (by omega)
  exact ⟨b, off, cap, fun i => rvs.getD i undef, by rw [← hl]; exact hv, hb, fun i h => ⟨hc i (by omega), hi i h⟩⟩
/-- how many numbers rows hold -/
def btotal : List (List Bool) → Nat
  | [] => 0
  | x :: r => x.length + btotal r
theorem btotal_append (a b : List (List Bool)) : btotal (a ++ b) = btotal a + btotal b := by
  induction a with
  | nil => simp [btotal]
  | cons x r ih => simp only [List.cons_append, btotal, ih]; omega
theorem btotal_take_succ (xss : List (List Bool)) (k : Nat) (h : k < xss.length) : btotal (xss.take (k + 1)) = btotal (xss.take k) + (xss.getD k []).length := by
  rw [List.take_add_one, List.getElem?_eq_getElem h, btotal_append]
  simp [List.getD, h, btotal]
theorem btotal_take_le (xss : List (List Bool)) (k : Nat) : btotal (xss.take k) ≤ btotal xss := by
  have : btotal xss = btotal (xss.take k) + btotal (xss.drop k) := by rw [← btotal_append, List.take_append_drop]
  omega
theorem btotal_take_all (xss : List (List Bool)) : btotal (xss.take xss.length) = btotal xss := by rw [List.take_length]
theorem btotal_row_le (xss : List (List Bool)) (k : Nat) (h : k < xss.length) : (xss.getD k []).length ≤ btotal xss := by
  have h1 := btotal_take_succ xss k h
  have h2 := btotal_take_le xss (k + 1)
  omega
/-- rows of numbers that a call has made: each in a block of its own -/
def OwnBR (e2 e1 : TypeId) (w : World) (lo hi : Nat) (v : Value) (xss : List (List Bool)) : Prop :=
  ∃ rvs, Own w lo hi e2 v rvs ∧ rvs.length = xss.length ∧ (∀ i, i < xss.length → Own w lo hi e1 (rvs.getD i undef) (bools (xss.getD i []))) ∧
    (∀ i, i < xss.length → ∀ k, (rvs.getD i undef).ownBlock = some k → v.ownBlock ≠ some k) ∧
    (∀ i j, i < xss.length → j < xss.length → i ≠ j → ∀ k, (rvs.getD i undef).ownBlock = some k → (rvs.getD j undef).ownBlock ≠ some k)
theorem OwnBR.rows {e2 e1 : TypeId} {w : World} {lo hi : Nat} {v : Value} {xss : List (List Bool)} (h : OwnBR e2 e1 w lo hi v xss) : BRows w v xss := by
  obtain ⟨rvs, ho, hl, hr, _⟩ := h
  exact ⟨rvs, ho.row, hl, fun i hi => (hr i hi).row⟩
theorem OwnBR.keep {e2 e1 : TypeId} {w w' : World} {lo hi B : Nat} {v : Value} {xss : List (List Bool)} (h : OwnBR e2 e1 w lo hi v xss) (hB : hi ≤ B) (hb : Below B w w') : OwnBR e2 e1 w' lo hi v xss := by
  obtain ⟨rvs, ho, hl, hr, hd⟩ := h
  exact ⟨rvs, ho.keep hB hb, hl, fun i hi => (hr i hi).keep hB hb, hd⟩
theorem OwnBR.wide {e2 e1 : TypeId} {w : World} {lo hi lo' hi' : Nat} {v : Value} {xss : List (List Bool)} (h : OwnBR e2 e1 w lo hi v xss) (h1 : lo' ≤ lo) (h2 : hi ≤ hi') : OwnBR e2 e1 w lo' hi' v xss := by
  obtain ⟨rvs, ho, hl, hr, hd⟩ := h
  exact ⟨rvs, ho.wide h1 h2, hl, fun i hi => (hr i hi).wide h1 h2, hd⟩
theorem OwnBR.same {e2 e1 : TypeId} {w w' : World} {lo hi : Nat} {v : Value} {xss : List (List Bool)} (h : OwnBR e2 e1 w lo hi v xss) (hs : SameOn lo hi w w') : OwnBR e2 e1 w' lo hi v xss := by
  obtain ⟨rvs, ho, hl, hr, hd⟩ := h
  exact ⟨rvs, ho.same hs, hl, fun i hi => (hr i hi).same hs, hd⟩
set_option maxHeartbeats 2000000 in
theorem eqBoolS_any (a b : Value) (xs ys : List Bool) (w : World) (ha : Bools w a xs) (hb : Bools w b ys) :
    Calls Try.prog 102 #[a, b] w fun e w' => e = .returned (.bool (decide (xs = ys))) ∧ ∃ n, w' = w.drewN n := by
  obtain ⟨hm1, a1, cap1, rfl⟩ := ha.len
  obtain ⟨hm2, a2, cap2, rfl⟩ := hb.len
  unfold maxLen at hm1 hm2
  by_cases hl : xs.length = ys.length
  · have hl' := Lib.hid hl
    rw [← hl]
    rw [← hl] at hb
    clear hl
    go_enter Try.func102, Try.ntmps102
    go_wp2
    go_loopw [5] (fun i wr => ∃ k m : Nat, k ≤ xs.length ∧ i = .int .i64 k ∧ wr = w.drewN m ∧ Hid (xs.take k = ys.take k)) (fun i _ => xs.length - (intOf i).toNat)
    case atStart => exact ⟨0, 0, Nat.zero_le _, rfl, rfl, show _ = _ by simp⟩
    case round =>
      obtain ⟨k, m, hk, rfl, rfl, ht⟩ := hrel
      by_cases hlt : k < xs.length
      · have hlt2 : k < ys.length := by rw [← hl'.out]; exact hlt
        obtain ⟨b1, o1, c1, hv1, _, hc1⟩ := ha.at (by omega)
        obtain ⟨b2, o2, c2, hv2, _, hc2⟩ := hb.at (by omega)
        simp only [Value.slice.injEq] at hv1 hv2
        obtain ⟨rfl, _, rfl⟩ := hv1
        obtain ⟨rfl, _, rfl⟩ := hv2
        have h1 := hc1 k hlt
        have h2 := hc2 k hlt2
        clear hc1 hc2
        by_cases hq : xs.getD k false = ys.getD k false
        · have hn := Lib.hid (take_eq_succ hlt hlt2 ht.out hq)
          rw [← hq] at h2
          clear hq
          generalize xs.getD k false = x at h1 h2
          go_wp2
          go_quiet (fail)
          go_wp2
          go_roundw
          case rel => exact ⟨k + 1, _, by omega, by go_num, rfl, hn⟩
          case measure => simp [intOf]; omega
        · have hd := Lib.hid (decide_eq_false (ne_of_getD hq))
          generalize xs.getD k false = x at h1 hq
          generalize ys.getD k false = y at h2 hq
          have hq1 : (x != y) = true := by simpa using hq
          have hq2 : (x == y) = false := by simpa using hq
          clear hq
          go_wp2
          go_quiet (fail)
          go_wp2
          go_ret
          exact ⟨ret_bool hd.out.symm, _, World.drewN_drewN ..⟩
      · obtain rfl : k = xs.length := by omega
        have he : xs = ys := by
          have := ht.out
          rw [List.take_length, hl'.out, List.take_length] at this
          exact this
        have hd := Lib.hid (decide_eq_true he)
        clear he
        go_wp2
        go_ret
        exact ⟨ret_bool hd.out.symm, _, rfl⟩
  · have hne : xs ≠ ys := fun h => hl (by rw [h])
    have hd := Lib.hid (decide_eq_false hne)
    clear hne
    go_enter Try.func102, Try.ntmps102
    go_wp2
    go_ret
    exact ⟨ret_bool hd.out.symm, 0, rfl⟩
set_option maxHeartbeats 4000000 in
theorem eqBoolSS_any (a b : Value) (xs ys : List (List Bool)) (w : World) (ha : BRows w a xs) (hb : BRows w b ys) :
    Calls Try.prog 42 #[a, b] w fun e w' => e = .returned (.bool (decide (xs = ys))) ∧ ∃ n, w' = w.drewN n := by
  obtain ⟨hm1, a1, cap1, rfl⟩ := ha.len
  obtain ⟨hm2, a2, cap2, rfl⟩ := hb.len
  unfold maxLen at hm1 hm2
  by_cases hl : xs.length = ys.length
  · have hl' := Lib.hid hl
    rw [← hl]
    rw [← hl] at hb
    clear hl
    go_enter Try.func42, Try.ntmps42
    go_wp2
    go_loopw [5] (fun i wr => ∃ k : Nat, k ≤ xs.length ∧ i = .int .i64 k ∧ Hid (∃ m, wr = w.drewN m) ∧ Hid (xs.take k = ys.take k)) (fun i _ => xs.length - (intOf i).toNat)
    case atStart => exact ⟨0, Nat.zero_le _, rfl, ⟨0, rfl⟩, show _ = _ by simp⟩
    case round =>
      obtain ⟨k, hk, rfl, hw, ht⟩ := hrel
      by_cases hlt : k < xs.length
      · have hlt2 : k < ys.length := by rw [← hl'.out]; exact hlt
        obtain ⟨b1, o1, c1, rv1, hv1, _, hc1⟩ := ha.at (by omega)
        obtain ⟨b2, o2, c2, rv2, hv2, _, hc2⟩ := hb.at (by omega)
        simp only [Value.slice.injEq] at hv1 hv2
        obtain ⟨rfl, _, rfl⟩ := hv1
        obtain ⟨rfl, _, rfl⟩ := hv2
        obtain ⟨h1, r1⟩ := hc1 k hlt
        obtain ⟨h2, r2⟩ := hc2 k hlt2
        clear hc1 hc2
        generalize rv1 k = x1 at h1 r1
        generalize rv2 k = x2 at h2 r2
        replace h1 : wr.cell? ⟨b1, o1 + k, none⟩ = some x1 := by obtain ⟨m, rfl⟩ := hw.out; exact h1
        replace h2 : wr.cell? ⟨b2, o2 + k, none⟩ = some x2 := by obtain ⟨m, rfl⟩ := hw.out; exact h2
        replace r1 : Bools wr x1 (xs.getD k []) := by obtain ⟨m, rfl⟩ := hw.out; exact r1.keep (below_drewN (Below.refl _ _) m)
        replace r2 : Bools wr x2 (ys.getD k []) := by obtain ⟨m, rfl⟩ := hw.out; exact r2.keep (below_drewN (Below.refl _ _) m)
        by_cases hq : xs.getD k [] = ys.getD k []
        · have hn := Lib.hid (take_eq_succ hlt hlt2 ht.out hq)
          rw [← hq] at r2
          clear hq
          generalize xs.getD k [] = row at r1 r2
          have hcall : ∀ n, Calls Try.prog 102 #[x1, x2] (wr.drewN n) fun e w' => e = .returned (.bool true) ∧ ∃ m, w' = (wr.drewN n).drewN m := fun n => by
            have := eqBoolS_any x1 x2 row row (wr.drewN n) (r1.keep (below_drewN (Below.refl _ _) n)) (r2.keep (below_drewN (Below.refl _ _) n))
            simpa using this
          go_wp2
          go_quiet ((go_at_call 102; exact Calls.quiet_of (hcall _)))
          go_wp2
          go_roundw
          case rel => exact ⟨k + 1, by omega, by go_num, by obtain ⟨m, rfl⟩ := hw.out; exact ⟨_, World.drewN_drewN ..⟩, hn⟩
          case measure => simp [intOf]; omega
        · have hd := Lib.hid (decide_eq_false (ne_of_getD hq))
          generalize xs.getD k [] = row1 at r1 hq
          generalize ys.getD k [] = row2 at r2 hq
          have hcall : ∀ n, Calls Try.prog 102 #[x1, x2] (wr.drewN n) fun e w' => e = .returned (.bool false) ∧ ∃ m, w' = (wr.drewN n).drewN m := fun n => by
            have := eqBoolS_any x1 x2 row1 row2 (wr.drewN n) (r1.keep (below_drewN (Below.refl _ _) n)) (r2.keep (below_drewN (Below.refl _ _) n))
            rw [decide_eq_false hq] at this
            exact this
          clear hq
          go_wp2
          go_quiet ((go_at_call 102; exact Calls.quiet_of (hcall _)))
          go_wp2
          go_ret
          exact ⟨ret_bool hd.out.symm, by obtain ⟨m, rfl⟩ := hw.out; exact ⟨_, World.drewN_drewN ..⟩⟩
      · obtain rfl : k = xs.length := by omega
        have he : xs = ys := by
          have := ht.out
          rw [List.take_length, hl'.out, List.take_length] at this
          exact this
        have hd := Lib.hid (decide_eq_true he)
        clear he
        go_wp2
        go_ret
        exact ⟨ret_bool hd.out.symm, hw.out⟩
  · have hne : xs ≠ ys := fun h => hl (by rw [h])
    have hd := Lib.hid (decide_eq_false hne)
    clear hne
    go_enter Try.func42, Try.ntmps42
    go_wp2
    go_ret
    exact ⟨ret_bool hd.out.symm, 0, rfl⟩
def bm (x : Int) : Bool := x % 3 == 0
/-- k, k + 1, .. -/
def bmarks (k : Int) : Nat → List Bool
  | 0 => []
  | n + 1 => bm k :: bmarks (k + 1) n
theorem bmarks_length (k : Int) (n : Nat) : (bmarks k n).length = n := by induction n generalizing k with | zero => rfl | succ n ih => simp [bmarks, ih]
theorem bmarks_getD (k : Int) (n i : Nat) (h : i < n) : (bmarks k n).getD i false = bm (k + i) := by
  induction n generalizing k i with
  | zero => omega
  | succ n ih =>
    cases i with
    | zero => simp [bmarks, List.getD]
    | succ i =>
      have := ih (k + 1) i (by omega)
      simp only [bmarks, List.getD_cons_succ, this]; congr 1; omega
theorem bmarks_snoc (k : Int) (n : Nat) : bmarks k (n + 1) = bmarks k n ++ [bm (k + n)] := by
  induction n generalizing k with
  | zero => simp [bmarks]
  | succ n ih =>
    rw [bmarks, ih (k + 1), bmarks]
    simp; congr 1; omega
/-- the first j bmarked, the rest as it was -/
def bmarked (k : Int) (xs : List Bool) (j : Nat) : List Bool := bmarks k j ++ xs.drop j
theorem bmarked_zero (k : Int) (xs : List Bool) : bmarked k xs 0 = xs := by simp [bmarked, bmarks]
theorem bmarked_all (k : Int) (xs : List Bool) : bmarked k xs xs.length = bmarks k xs.length := by simp [bmarked]
theorem bmarked_length (k : Int) (xs : List Bool) (j : Nat) (h : j ≤ xs.length) : (bmarked k xs j).length = xs.length := by simp [bmarked, bmarks_length]; omega
theorem bmarked_set (k : Int) (xs : List Bool) (j : Nat) (h : j < xs.length) : (bmarked k xs j).set j (bm (k + j)) = bmarked k xs (j + 1) := by
  unfold bmarked
  rw [List.set_append_right _ _ (by rw [bmarks_length]; exact Nat.le_refl _), bmarks_length, Nat.sub_self, bmarks_snoc, List.drop_eq_getElem_cons h, List.set_cons_zero, List.append_assoc]
  rfl
theorem bools_set (xs : List Bool) (j : Nat) (x : Bool) : (bools xs).set j (.bool x) = bools (xs.set j x) := by simp [bools, List.map_set]
def bmarkRows (k : Int) : List (List Bool) → List (List Bool)
  | [] => []
  | r :: rs => bmarks k r.length :: bmarkRows (k + r.length) rs
theorem bmarkRows_length (k : Int) (xss : List (List Bool)) : (bmarkRows k xss).length = xss.length := by induction xss generalizing k with | nil => rfl | cons r rs ih => simp [bmarkRows, ih]
theorem bmarkRows_getD (k : Int) (xss : List (List Bool)) (i : Nat) (h : i < xss.length) : (bmarkRows k xss).getD i [] = bmarks (k + btotal (xss.take i)) (xss.getD i []).length := by
  induction xss generalizing k i with
  | nil => simp at h
  | cons r rs ih =>
    cases i with
    | zero => simp [bmarkRows, List.getD, btotal]
    | succ i =>
      have := ih (k + r.length) i (by simpa using h)
      simp only [bmarkRows, List.getD_cons_succ, this, List.take_succ_cons, btotal]
      congr 1; omega
theorem bmarkRows_lens (k : Int) (xss : List (List Bool)) : btotal (bmarkRows k xss) = btotal xss := by
  induction xss generalizing k with
  | nil => rfl
  | cons r rs ih => simp [bmarkRows, btotal, ih, bmarks_length]
/-- the first j rows bmarked -/
def bmarkedRows (k : Int) (xss : List (List Bool)) (j : Nat) : List (List Bool) := (bmarkRows k xss).take j ++ xss.drop j
theorem bmarkedRows_length (k : Int) (xss : List (List Bool)) (j : Nat) (h : j ≤ xss.length) : (bmarkedRows k xss j).length = xss.length := by simp [bmarkedRows, bmarkRows_length]; omega
theorem bmarkedRows_zero (k : Int) (xss : List (List Bool)) : bmarkedRows k xss 0 = xss := by simp [bmarkedRows]
theorem bmarkedRows_all (k : Int) (xss : List (List Bool)) : bmarkedRows k xss xss.length = bmarkRows k xss := by
  unfold bmarkedRows
  rw [List.drop_length, List.append_nil, ← bmarkRows_length k xss, List.take_length]
theorem bmarkedRows_lo (k : Int) (xss : List (List Bool)) (j i : Nat) (h : i < j) (hj : j ≤ xss.length) : (bmarkedRows k xss j).getD i [] = (bmarkRows k xss).getD i [] := by
  unfold bmarkedRows
  simp only [List.getD]
  rw [List.getElem?_append_left (by simp [bmarkRows_length]; omega), List.getElem?_take_of_lt h]
theorem bmarkedRows_hi (k : Int) (xss : List (List Bool)) (j i : Nat) (h : j ≤ i) (hj : j ≤ xss.length) : (bmarkedRows k xss j).getD i [] = xss.getD i [] := by
  unfold bmarkedRows
  have hl : ((bmarkRows k xss).take j).length = j := by simp [bmarkRows_length]; omega
  simp only [List.getD]
  rw [List.getElem?_append_right (by omega), hl, List.getElem?_drop]
  congr 2; omega
/-- one row of rows is written anew by a callee that touches its block alone -/
theorem OwnBR.row {e2 e1 : TypeId} {w w' : World} {lo hi : Nat} {v : Value} {rvs : List Value} {xss yss : List (List Bool)} {j g g' : Nat}
    (ho : Own w lo hi e2 v rvs) (hl : rvs.length = xss.length) (hr : ∀ i, i < xss.length → Own w lo hi e1 (rvs.getD i undef) (bools (xss.getD i [])))
    (hd : ∀ i, i < xss.length → ∀ k, (rvs.getD i undef).ownBlock = some k → v.ownBlock ≠ some k)
    (he : ∀ i j, i < xss.length → j < xss.length → i ≠ j → ∀ k, (rvs.getD i undef).ownBlock = some k → (rvs.getD j undef).ownBlock ≠ some k)
    (hj : j < xss.length) (hb : ∀ k, g ≤ k → k < g' → (rvs.getD j undef).ownBlock = some k) (ht : Touched g g' w w')
    (hn : Own w' lo hi e1 (rvs.getD j undef) (bools (yss.getD j []))) (hly : yss.length = xss.length) (ho' : ∀ i, i < xss.length → i ≠ j → yss.getD i [] = xss.getD i []) :
    Own w' lo hi e2 v rvs ∧ rvs.length = yss.length ∧ (∀ i, i < yss.length → Own w' lo hi e1 (rvs.getD i undef) (bools (yss.getD i []))) := by
  refine ⟨ho.sameBlk fun k hk hv => ht.block k hk ?_, by omega, fun i hi => ?_⟩
  · by_cases h1 : g ≤ k
    · by_cases h2 : k < g'
      · exact absurd hv (hd j hj k (hb k h1 h2))
      · omega
    · omega
  · by_cases e : i = j
    · subst e; exact hn
    · rw [ho' i (by omega) e]
      refine (hr i (by omega)).sameBlk fun k hk hv => ht.block k hk ?_
      by_cases h1 : g ≤ k
      · by_cases h2 : k < g'
        · exact absurd hv (he j i hj (by omega) (Ne.symm e) k (hb k h1 h2))
        · omega
      · omega
/-- the rows of the loop: which slices they are stays, j of them are bmarked -/
def BMarkTo (w : World) (lo hi : Nat) (v : Value) (rvs : List Value) (yss : List (List Bool)) : Prop :=
  Own w lo hi 111 v rvs ∧ rvs.length = yss.length ∧ ∀ i, i < yss.length → Own w lo hi 4 (rvs.getD i undef) (bools (yss.getD i []))
theorem btotal_take_lt (xss : List (List Bool)) (j : Nat) (h : j < xss.length) : btotal (xss.take j) + (xss.getD j []).length ≤ btotal xss := by
  have h1 := btotal_take_succ xss j h
  have h2 := btotal_take_le xss (j + 1)
  omega
structure BRMine (e2 e1 : TypeId) (w : World) (lo hi : Nat) (v : Value) (xss : List (List Bool)) : Prop where
  own : OwnBR e2 e1 w lo hi v xss
  le : hi ≤ w.heap.size
theorem BRMine.step {e2 e1 : TypeId} {w w' : World} {lo hi : Nat} {v : Value} {xs : List (List Bool)} (h : BRMine e2 e1 w lo hi v xs) (hb : Below w.heap.size w w') : BRMine e2 e1 w' lo hi v xs := ⟨h.own.keep h.le hb, Nat.le_trans h.le hb.size⟩
theorem BRMine.touch {e2 e1 : TypeId} {w w' : World} {lo hi a b : Nat} {v : Value} {xs : List (List Bool)} (h : BRMine e2 e1 w lo hi v xs) (ht : Touched a b w w') (hd : hi ≤ a ∨ b ≤ lo) : BRMine e2 e1 w' lo hi v xs :=
  ⟨h.own.same fun k h1 h2 => ht.block k (by have := h.le; omega) (by omega), Nat.le_trans h.le ht.size⟩
theorem BRMine.ch {e2 e1 : TypeId} {w : World} {lo hi : Nat} {v : Value} {xs : List (List Bool)} (h : BRMine e2 e1 w lo hi v xs) : BRows w v xs := h.own.rows
theorem BRMine.shape {e2 e1 : TypeId} {w : World} {lo hi : Nat} {v : Value} {xs : List (List Bool)} (h : BRMine e2 e1 w lo hi v xs) : ∃ a cap, v = .slice a xs.length cap := by
  obtain ⟨_, a, cap, h⟩ := h.ch.len; exact ⟨a, cap, h⟩
theorem eq_brows (a b : Value) (xs : List (List Bool)) (w : World) (ha : BRows w a xs) (hb : BRows w b xs) :
    Calls Try.prog 42 #[a, b] w fun e w' => e = .returned (.bool true) ∧ Below w.heap.size w w' :=
  (eqBoolSS_any a b xs xs w ha hb).mono fun _ _ ⟨h1, n, h2⟩ => ⟨by rw [h1]; simp, by rw [h2]; exact below_drewN (Below.refl _ _) n⟩
/-- rows made so far: an outer slice of the call's own, and the rows in blocks of their own, all from lo up to hi -/
structure BMade (w : World) (lo hi : Nat) (v : Value) (rvs : List Value) (yss : List (List Bool)) : Prop where
  own : w.ownsRow lo 111 1 v yss.length rvs
  rows : ∀ i, i < yss.length → Own w lo hi 4 (rvs.getD i undef) (bools (yss.getD i []))
  far : ∀ i j, i < yss.length → j < yss.length → i ≠ j → ∀ k, (rvs.getD i undef).ownBlock = some k → (rvs.getD j undef).ownBlock ≠ some k
  size : hi ≤ w.heap.size
theorem BMade.len {w : World} {lo hi : Nat} {v : Value} {rvs : List Value} {yss : List (List Bool)} (h : BMade w lo hi v rvs yss) : rvs.length = yss.length := by simpa using h.own.1
theorem BMade.start (w : World) (lo : Nat) : BMade w lo w.heap.size (.slice none 0 0) [] [] :=
  ⟨World.ownsRow_nil w lo _ _, fun i hi => by simp at hi, fun i j hi => by simp at hi, Nat.le_refl _⟩
theorem BMade.done {w : World} {lo hi : Nat} {v : Value} {rvs : List Value} {yss : List (List Bool)} (h : BMade w lo hi v rvs yss) : OwnBR 111 4 w lo w.heap.size v yss := by
  refine ⟨rvs, Own.of h.own (Nat.le_refl _), h.len, fun i hi => (h.rows i hi).wide (Nat.le_refl _) h.size, fun i hi k hk hv => ?_, h.far⟩
  exact types_apart h.own (h.rows i hi).1 (by decide) hv hk
theorem BMade.step {w w1 w2 : World} {lo hi : Nat} {v v' rv : Value} {rvs : List Value} {yss : List (List Bool)} {y : List Bool} {a : Addr} (h : BMade w lo hi v rvs yss) (hb : Below w.heap.size w w1)
    (hrow : Own w1 w.heap.size w1.heap.size 4 rv (bools y)) (hlo : lo ≤ w.heap.size) (o : Obj) (hown : w2.ownsRow lo 111 1 v' (yss.length + 1) (rvs ++ [rv])) (hg : (w1.alloc o).grownBy w2 v.ownBlock) (ha : a.block < lo) (u : Value) :
    BMade (w2.setCell a u) lo (w2.setCell a u).heap.size v' (rvs ++ [rv]) (yss ++ [y]) := by
  have hl := h.len
  have hs2 : w1.heap.size + 1 ≤ w2.heap.size := by have := hg.size; simpa using this
  have hs3 : (w2.setCell a u).heap.size = w2.heap.size := by simp [World.setCell]
  -- a row that lay there, or the new one, is as it was
  have keep : ∀ (lo' hi' : Nat) (x : Value) (xs : List Value), lo ≤ lo' → hi' ≤ w1.heap.size → Own w1 lo' hi' 4 x xs → Own (w2.setCell a u) lo' hi' 4 x xs := by
    intro lo' hi' x xs h1 h2 hx
    have hv1 : w1.ownsRow lo 111 1 v yss.length rvs := by
      refine ⟨h.own.1, ?_⟩
      rcases h.own.2 with hn | ⟨g, cap, cur, rfl, hgg, hh, r⟩
      · exact Or.inl hn
      · exact Or.inr ⟨g, cap, cur, rfl, hgg, by rw [hb.block g (Array.getElem?_eq_some_iff.1 hh).1]; exact hh, r⟩
    refine hx.sameBlk fun k hk hxk => ?_
    have hne : v.ownBlock ≠ some k := fun hv => types_apart hv1 hx.1 (by decide) hv hxk
    have hlk : lo ≤ k := by have := (hx.1.lt k hxk).1; omega
    rw [Below.heap_setCell _ _ _ _ (by omega), hg.block k (by simp; omega) (fun e => hne e.symm), Below.heap_alloc _ _ _ hk]
  have hn : (rvs ++ [rv]).getD yss.length undef = rv := by simp [List.getD, ← hl]
  have ho : ∀ i, i < yss.length → (rvs ++ [rv]).getD i undef = rvs.getD i undef := fun i hi => by simp only [List.getD]; rw [List.getElem?_append_left (by omega)]
  have hyn : (yss ++ [y]).getD yss.length [] = y := by simp [List.getD]
  have hyo : ∀ i, i < yss.length → (yss ++ [y]).getD i [] = yss.getD i [] := fun i hi => by simp only [List.getD]; rw [List.getElem?_append_left (by omega)]
  have old : ∀ i, i < yss.length → Own w1 lo hi 4 (rvs.getD i undef) (bools (yss.getD i [])) := fun i hi => (h.rows i hi).keep h.size hb
  have apart : ∀ i, i < yss.length → ∀ k, (rvs.getD i undef).ownBlock = some k → k < w.heap.size := fun i hi k hk => by have := (h.rows i hi).2.2 k hk; have := h.size; omega
  have fresh : ∀ k, rv.ownBlock = some k → w.heap.size ≤ k := fun k hk => (hrow.1.lt k hk).1
  refine ⟨?_, fun i _ => ?_, fun i j _ hj hne k hk => ?_, Nat.le_refl _⟩
  · rw [List.length_append]
    exact ownsRow_setCell_below hown ha u
  · rename_i hii
    rw [List.length_append] at hii
    simp only [List.length_cons, List.length_nil] at hii
    by_cases e : i < yss.length
    · rw [ho i e, hyo i e]
      exact (keep lo hi _ _ (Nat.le_refl _) (by have := h.size; have := hb.size; omega) (old i e)).wide (Nat.le_refl _) (by have := h.size; have := hb.size; omega)
    · obtain rfl : i = yss.length := by omega
      rw [hn, hyn]
      exact (keep _ _ _ _ hlo (Nat.le_refl _) hrow).wide hlo (by omega)
  · rename_i hii
    rw [List.length_append] at hii hj
    simp only [List.length_cons, List.length_nil] at hii hj
    by_cases e : i < yss.length
    · rw [ho i e] at hk
      by_cases e' : j < yss.length
      · rw [ho j e']; exact h.far i j e e' hne k hk
      · obtain rfl : j = yss.length := by omega
        rw [hn]; intro hc; have := fresh k hc; have := apart i e k hk; omega
    · obtain rfl : i = yss.length := by omega
      rw [hn] at hk
      by_cases e' : j < yss.length
      · rw [ho j e']; intro hc; have := fresh k hk; have := apart j e' k hc; omega
      · omega
end Go.Proofs.Ytkebfnmepbblnaa
