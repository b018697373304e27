/- The laws' marks: numbers, rows and chains that a call made are filled with k, k + 1, .., and found so again; what lies outside of their blocks is left. Conditions: few numbers (at most 2^40 in all, k at most 2^40). -/
import Derived.Test.YtacnafjmcfcalaaTo
namespace Go.Proofs.Ytacnafjmcfcalaa
open Go.RowKit Go.Deep

/-- only the blocks from lo up to hi may have changed; nothing is new but what is behind -/
structure Touched (lo hi : Nat) (w w' : World) : Prop where
  os : w'.os = w.os
  tape : w'.tape = w.tape
  output : w'.output = w.output
  size : w.heap.size ≤ w'.heap.size
  block : ∀ k, k < w.heap.size → (k < lo ∨ hi ≤ k) → w'.heap[k]? = w.heap[k]?
theorem Touched.refl (lo hi : Nat) (w : World) : Touched lo hi w w := ⟨rfl, rfl, rfl, Nat.le_refl _, fun _ _ _ => rfl⟩
theorem Touched.trans {lo hi : Nat} {a b c : World} (h : Touched lo hi a b) (k : Touched lo hi b c) : Touched lo hi a c :=
  ⟨k.os.trans h.os, k.tape.trans h.tape, k.output.trans h.output, Nat.le_trans h.size k.size, fun i h1 h2 => (k.block i (Nat.lt_of_lt_of_le h1 h.size) h2).trans (h.block i h1 h2)⟩
theorem Touched.set {lo hi : Nat} {w w' : World} (h : Touched lo hi w w') {a : Addr} (h1 : lo ≤ a.block) (h2 : a.block < hi) (u : Value) : Touched lo hi w (w'.setCell a u) :=
  h.trans ⟨rfl, rfl, rfl, by simp [World.setCell], fun k _ hk => Below.heap_setCell _ _ _ _ (by omega)⟩
theorem Touched.of {lo hi : Nat} {w w' : World} (h : Below w.heap.size w w') : Touched lo hi w w' := ⟨h.os, h.tape, h.output, h.size, fun k h1 _ => h.block k h1⟩
theorem Touched.wide {lo hi lo' hi' : Nat} {w w' : World} (h : Touched lo hi w w') (h1 : lo' ≤ lo) (h2 : hi ≤ hi') : Touched lo' hi' w w' :=
  ⟨h.os, h.tape, h.output, h.size, fun k a b => h.block k a (by omega)⟩
theorem Touched.below {lo hi : Nat} {w w' : World} (h : Touched lo hi w w') (hl : lo ≤ w.heap.size) : Below lo w w' := ⟨h.os, h.tape, h.output, h.size, fun k hk => h.block k (by omega) (Or.inl hk)⟩
theorem Touched.same {lo hi : Nat} {w w' : World} (h : Touched lo hi w w') {B : Nat} (hB : B ≤ w.heap.size) : SameOn hi B w w' := fun k h1 h2 => h.block k (by omega) (Or.inr h1)
theorem Touched.under {lo hi : Nat} {w w' : World} (h : Touched lo hi w w') (hl : lo ≤ w.heap.size) (b : Nat) : SameOn b lo w w' := fun k _ h2 => h.block k (by omega) (Or.inl h2)

/-- k, k + 1, .. -/
def marks (k : Int) : Nat → List Int
  | 0 => []
  | n + 1 => k :: marks (k + 1) n
theorem marks_length (k : Int) (n : Nat) : (marks k n).length = n := by induction n generalizing k with | zero => rfl | succ n ih => simp [marks, ih]
theorem marks_getD (k : Int) (n i : Nat) (h : i < n) : (marks k n).getD i 0 = k + i := by
  induction n generalizing k i with
  | zero => omega
  | succ n ih =>
    cases i with
    | zero => simp [marks, List.getD]
    | succ i =>
      have := ih (k + 1) i (by omega)
      simp only [marks, List.getD_cons_succ, this]; omega
/-- the first j marked, the rest as it was -/
def marked (k : Int) (xs : List Int) (j : Nat) : List Int := marks k j ++ xs.drop j
theorem marked_zero (k : Int) (xs : List Int) : marked k xs 0 = xs := by simp [marked, marks]
theorem marked_all (k : Int) (xs : List Int) : marked k xs xs.length = marks k xs.length := by simp [marked]
theorem marked_length (k : Int) (xs : List Int) (j : Nat) (h : j ≤ xs.length) : (marked k xs j).length = xs.length := by simp [marked, marks_length]; omega
theorem marks_snoc (k : Int) (n : Nat) : marks k (n + 1) = marks k n ++ [k + n] := by
  induction n generalizing k with
  | zero => simp [marks]
  | succ n ih =>
    rw [marks, ih (k + 1), marks]
    simp; omega
theorem marked_set (k : Int) (xs : List Int) (j : Nat) (h : j < xs.length) : (marked k xs j).set j (k + j) = marked k xs (j + 1) := by
  unfold marked
  rw [List.set_append_right _ _ (by rw [marks_length]; exact Nat.le_refl _), marks_length, Nat.sub_self, marks_snoc, List.drop_eq_getElem_cons h, List.set_cons_zero, List.append_assoc]
  rfl
theorem ints_set (xs : List Int) (j : Nat) (x : Int) : (ints xs).set j (.int .i64 x) = ints (xs.set j x) := by simp [ints, List.map_set]

set_option maxHeartbeats 4000000 in
theorem markInt64S_any (v : Value) (xs : List Int) (k : Int) (lo hi : Nat) (w : World) (hv : Own w lo hi 2 v (ints xs)) (h0 : 0 ≤ k) (h1 : k + xs.length ≤ 1099511627776) :
    Calls Try.prog 47 #[v, .int .i64 k] w fun e w' => e = .returned (.int .i64 (k + xs.length)) ∧ Own w' lo hi 2 v (ints (marks k xs.length)) ∧ Touched lo hi w w' ∧ w'.heap.size = w.heap.size := by
  have hI : Ints w v xs := hv.row
  by_cases hne : 0 < xs.length
  · obtain ⟨g, cap, hvv, hg1, hg2, -, -, -⟩ := hv.at (by simpa [ints] using hne)
    rw [show (ints xs).length = xs.length from by simp [ints]] at hvv
    subst hvv
    obtain ⟨hm, -⟩ := hI.len
    unfold maxLen at hm
    clear hI
    go_enter Try.func47, Try.ntmps47
    go_wp2
    go_loopw [1, 5] (fun q i wr => ∃ j : Nat, j ≤ xs.length ∧ i = .int .i64 j ∧ q = .int .i64 (k + j) ∧ Own wr lo hi 2 (.slice (some ⟨g, 0, none⟩) xs.length cap) (ints (marked k xs j)) ∧ Touched lo hi w wr ∧ wr.heap.size = w.heap.size) (fun _ i _ => xs.length - (intOf i).toNat)
    case atStart => exact ⟨0, Nat.zero_le _, rfl, by simp, by rw [marked_zero]; exact hv, Touched.refl _ _ _, rfl⟩
    case round =>
      obtain ⟨j, hj, rfl, rfl, hown, htou, hsz⟩ := hrel
      have hown' := Lib.hid hown
      have hsz' := Lib.hid hsz
      clear hsz
      by_cases hlt : j < xs.length
      · obtain ⟨g', cap', hgg, -, -, -, hc, hf⟩ := hown.at (by simp [marked_length k xs j hj]; omega)
        simp only [Value.slice.injEq, Option.some.injEq, Addr.mk.injEq, and_true] at hgg
        obtain ⟨rfl, -, -⟩ := hgg
        have hcj := hc j (by simp [marked_length k xs j hj]; omega)
        have hfj := hf j
        have hold : ∃ o : Int, wr.cell? ⟨g, j, none⟩ = some (.int .i64 o) := ⟨_, by rw [hcj, ints_getD _ _ (by rw [marked_length k xs j hj]; exact hlt)]⟩
        obtain ⟨old, hold⟩ := hold
        clear hc hf hcj hown
        have hset := Lib.hid (marked_set k xs j hlt)
        go_wp2
        go_roundw
        case rel =>
          refine ⟨j + 1, by omega, by go_num, by (congr 1; omega), ?_, htou.set hg1 hg2 _, by rw [← hsz'.out]; simp [World.setCell]⟩
          have := hown'.out.set j (.int .i64 (k + j))
          rw [ints_set, hset.out] at this
          exact this
        case measure => simp [intOf]; omega
      · obtain rfl : j = xs.length := by omega
        go_wp2
        go_ret
        refine ⟨rfl, ?_, htou, hsz'.out⟩
        rw [← marked_all]; exact hown'.out
  · have hx : xs = [] := List.eq_nil_of_length_eq_zero (by omega)
    subst hx
    obtain ⟨_, a, cap, rfl⟩ := hI.len
    clear hI
    go_enter Try.func47, Try.ntmps47
    go_wp2
    refine wp_loop_rounds 1 ?_
    rw [rounds_succ]
    go_wp2
    go_ret
    exact ⟨by simp, hv, Touched.refl _ _ _, rfl⟩

/-! ### rows -/
theorem Own.sameBlk {w w' : World} {lo hi : Nat} {e : TypeId} {v : Value} {vs : List Value} (h : Own w lo hi e v vs) (hs : ∀ k, k < w.heap.size → v.ownBlock = some k → w'.heap[k]? = w.heap[k]?) : Own w' lo hi e v vs := by
  obtain ⟨ho, hm, hk⟩ := h
  have ho' := ho
  refine ⟨⟨ho.1, ?_⟩, hm, hk⟩
  rcases ho.2 with hn | ⟨g, cap, cur, rfl, hg, hh, r⟩
  · exact Or.inl hn
  · exact Or.inr ⟨g, cap, cur, rfl, hg, by rw [hs g (ho'.lt g rfl).2 rfl]; exact hh, r⟩
/-- its very block as the bounds -/
theorem Own.tight {w : World} {lo hi : Nat} {e : TypeId} {v : Value} {vs : List Value} (h : Own w lo hi e v vs) :
    ∃ g g', Own w g g' e v vs ∧ (∀ k, g ≤ k → k < g' → v.ownBlock = some k) ∧ (∀ k, g ≤ k → k < g' → lo ≤ k ∧ k < hi) := by
  obtain ⟨ho, hm, hk⟩ := h
  rcases ho.2 with hn | ⟨g, cap, cur, rfl, hg, r⟩
  · refine ⟨0, 0, ⟨⟨ho.1, Or.inl hn⟩, hm, fun k hk' => ?_⟩, fun k _ h2 => by omega, fun k _ h2 => by omega⟩
    rw [hn.1] at hk'; simp [Value.ownBlock] at hk'
  · have := hk g rfl
    refine ⟨g, g + 1, ⟨⟨ho.1, Or.inr ⟨g, cap, cur, rfl, Nat.le_refl _, r⟩⟩, hm, fun k hk' => ?_⟩, fun k h1 h2 => ?_, fun k h1 h2 => by omega⟩
    · simp [Value.ownBlock] at hk'; omega
    · simp [Value.ownBlock]; omega
theorem Own.loose {w : World} {g g' lo hi : Nat} {e : TypeId} {v : Value} {vs : List Value} (h : Own w g g' e v vs) (hw : ∀ k, g ≤ k → k < g' → lo ≤ k ∧ k < hi) : Own w lo hi e v vs := by
  obtain ⟨ho, hm, hk⟩ := h
  refine ⟨⟨ho.1, ?_⟩, hm, fun k hk' => (hw k (ho.lt k hk').1 (hk k hk')).2⟩
  rcases ho.2 with hn | ⟨b, cap, cur, rfl, hg, r⟩
  · exact Or.inl hn
  · exact Or.inr ⟨b, cap, cur, rfl, (hw b hg (hk b rfl)).1, r⟩
theorem Touched.loose {g g' lo hi : Nat} {w w' : World} (h : Touched g g' w w') (hw : ∀ k, g ≤ k → k < g' → lo ≤ k ∧ k < hi) : Touched lo hi w w' :=
  ⟨h.os, h.tape, h.output, h.size, fun k a b => h.block k a (by
    by_cases h1 : g ≤ k
    · by_cases h2 : k < g'
      · have := hw k h1 h2; omega
      · omega
    · omega)⟩

def markRows (k : Int) : List (List Int) → List (List Int)
  | [] => []
  | r :: rs => marks k r.length :: markRows (k + r.length) rs
theorem markRows_length (k : Int) (xss : List (List Int)) : (markRows k xss).length = xss.length := by induction xss generalizing k with | nil => rfl | cons r rs ih => simp [markRows, ih]
theorem markRows_getD (k : Int) (xss : List (List Int)) (i : Nat) (h : i < xss.length) : (markRows k xss).getD i [] = marks (k + total (xss.take i)) (xss.getD i []).length := by
  induction xss generalizing k i with
  | nil => simp at h
  | cons r rs ih =>
    cases i with
    | zero => simp [markRows, List.getD, total]
    | succ i =>
      have := ih (k + r.length) i (by simpa using h)
      simp only [markRows, List.getD_cons_succ, this, List.take_succ_cons, total]
      congr 1; omega
theorem markRows_lens (k : Int) (xss : List (List Int)) : total (markRows k xss) = total xss := by
  induction xss generalizing k with
  | nil => rfl
  | cons r rs ih => simp [markRows, total, ih, marks_length]
/-- the first j rows marked -/
def markedRows (k : Int) (xss : List (List Int)) (j : Nat) : List (List Int) := (markRows k xss).take j ++ xss.drop j
theorem markedRows_length (k : Int) (xss : List (List Int)) (j : Nat) (h : j ≤ xss.length) : (markedRows k xss j).length = xss.length := by simp [markedRows, markRows_length]; omega
theorem markedRows_zero (k : Int) (xss : List (List Int)) : markedRows k xss 0 = xss := by simp [markedRows]
theorem markedRows_all (k : Int) (xss : List (List Int)) : markedRows k xss xss.length = markRows k xss := by
  unfold markedRows
  rw [List.drop_length, List.append_nil, ← markRows_length k xss, List.take_length]
theorem markedRows_lo (k : Int) (xss : List (List Int)) (j i : Nat) (h : i < j) (hj : j ≤ xss.length) : (markedRows k xss j).getD i [] = (markRows k xss).getD i [] := by
  unfold markedRows
  simp only [List.getD]
  rw [List.getElem?_append_left (by simp [markRows_length]; omega), List.getElem?_take_of_lt h]
theorem markedRows_hi (k : Int) (xss : List (List Int)) (j i : Nat) (h : j ≤ i) (hj : j ≤ xss.length) : (markedRows k xss j).getD i [] = xss.getD i [] := by
  unfold markedRows
  have hl : ((markRows k xss).take j).length = j := by simp [markRows_length]; omega
  simp only [List.getD]
  rw [List.getElem?_append_right (by omega), hl, List.getElem?_drop]
  congr 2; omega

/-- one row of rows is written anew by a callee that touches its block alone -/
theorem OwnRows.row {e2 e1 : TypeId} {w w' : World} {lo hi : Nat} {v : Value} {rvs : List Value} {xss yss : List (List Int)} {j g g' : Nat}
    (ho : Own w lo hi e2 v rvs) (hl : rvs.length = xss.length) (hr : ∀ i, i < xss.length → Own w lo hi e1 (rvs.getD i undef) (ints (xss.getD i [])))
    (hd : ∀ i, i < xss.length → ∀ k, (rvs.getD i undef).ownBlock = some k → v.ownBlock ≠ some k)
    (he : ∀ i j, i < xss.length → j < xss.length → i ≠ j → ∀ k, (rvs.getD i undef).ownBlock = some k → (rvs.getD j undef).ownBlock ≠ some k)
    (hj : j < xss.length) (hb : ∀ k, g ≤ k → k < g' → (rvs.getD j undef).ownBlock = some k) (ht : Touched g g' w w')
    (hn : Own w' lo hi e1 (rvs.getD j undef) (ints (yss.getD j []))) (hly : yss.length = xss.length) (ho' : ∀ i, i < xss.length → i ≠ j → yss.getD i [] = xss.getD i []) :
    Own w' lo hi e2 v rvs ∧ rvs.length = yss.length ∧ (∀ i, i < yss.length → Own w' lo hi e1 (rvs.getD i undef) (ints (yss.getD i []))) := by
  refine ⟨ho.sameBlk fun k hk hv => ht.block k hk ?_, by omega, fun i hi => ?_⟩
  · by_cases h1 : g ≤ k
    · by_cases h2 : k < g'
      · exact absurd hv (hd j hj k (hb k h1 h2))
      · omega
    · omega
  · by_cases e : i = j
    · subst e; exact hn
    · rw [ho' i (by omega) e]
      refine (hr i (by omega)).sameBlk fun k hk hv => ht.block k hk ?_
      by_cases h1 : g ≤ k
      · by_cases h2 : k < g'
        · exact absurd hv (he j i hj (by omega) (Ne.symm e) k (hb k h1 h2))
        · omega
      · omega

/-- the rows of the loop: which slices they are stays, j of them are marked -/
def MarkTo (w : World) (lo hi : Nat) (v : Value) (rvs : List Value) (yss : List (List Int)) : Prop :=
  Own w lo hi 28 v rvs ∧ rvs.length = yss.length ∧ ∀ i, i < yss.length → Own w lo hi 2 (rvs.getD i undef) (ints (yss.getD i []))

theorem total_take_lt (xss : List (List Int)) (j : Nat) (h : j < xss.length) : total (xss.take j) + (xss.getD j []).length ≤ total xss := by
  have h1 := total_take_succ xss j h
  have h2 := total_take_le xss (j + 1)
  omega

set_option maxHeartbeats 4000000 in
theorem markInt64SS_any (v : Value) (xss : List (List Int)) (k : Int) (lo hi : Nat) (w : World) (hv : OwnRows 28 2 w lo hi v xss) (h0 : 0 ≤ k) (h1 : k + total xss ≤ 1099511627776) :
    Calls Try.prog 129 #[v, .int .i64 k] w fun e w' => e = .returned (.int .i64 (k + total xss)) ∧ OwnRows 28 2 w' lo hi v (markRows k xss) ∧ Touched lo hi w w' ∧ w'.heap.size = w.heap.size := by
  obtain ⟨hm, a, cap, rfl⟩ := hv.rows.len
  unfold maxLen at hm
  obtain ⟨rvs, ho, hl, hr, hd, he⟩ := hv
  have hdd := Lib.hid hd
  have hee := Lib.hid he
  have hll := Lib.hid hl
  clear hd he hl
  go_enter Try.func129, Try.ntmps129
  go_wp2
  go_loopw [1, 5] (fun q i wr => ∃ j : Nat, j ≤ xss.length ∧ i = .int .i64 j ∧ q = .int .i64 (k + total (xss.take j)) ∧ MarkTo wr lo hi (.slice a xss.length cap) rvs (markedRows k xss j) ∧ Touched lo hi w wr ∧ wr.heap.size = w.heap.size) (fun _ i _ => xss.length - (intOf i).toNat)
  case atStart => exact ⟨0, Nat.zero_le _, rfl, by simp [total], by rw [markedRows_zero]; exact ⟨ho, hll.out, hr⟩, Touched.refl _ _ _, rfl⟩
  case round =>
    obtain ⟨j, hj, rfl, rfl, hmk, htou, hsz⟩ := hrel
    obtain ⟨L, hL⟩ : ∃ L : Int, k + total (xss.take j) = L := ⟨_, rfl⟩
    have hlj := total_take_lt xss j
    have hL0 : k ≤ L := by omega
    have hts := fun h => total_take_succ xss j h
    rw [hL]
    have hL' := Lib.hid hL
    have hsz' := Lib.hid hsz
    have hts' := Lib.hid hts
    have hmk' := Lib.hid hmk
    clear hsz hts
    by_cases hlt : j < xss.length
    · have hb : L + (xss.getD j []).length ≤ 1099511627776 := by have := hlj hlt; have := hL'.out; omega
      clear hlj hL
      have hyl := markedRows_length k xss j hj
      obtain ⟨m1, m2, m3⟩ := hmk
      have hrow := m3 j (by omega)
      rw [markedRows_hi k xss j j (Nat.le_refl _) hj] at hrow
      obtain ⟨g, cap2, hvv, -, -, -, hc, -⟩ := m1.at (by omega)
      have hcj := hc j (by omega)
      simp only [Value.slice.injEq] at hvv
      obtain ⟨rfl, -, rfl⟩ := hvv
      clear hc m1 m3
      obtain ⟨x, x', ht1, ht2, ht3⟩ := hrow.tight
      have ht2' := Lib.hid ht2
      have ht3' := Lib.hid ht3
      have hyl' := Lib.hid hyl
      have m2' := Lib.hid m2
      obtain ⟨row, hrw⟩ : ∃ row, xss.getD j [] = row := ⟨_, rfl⟩
      rw [hrw] at ht1 hb
      have hrw' := Lib.hid hrw
      obtain ⟨rj, hrj⟩ : ∃ rj, rvs.getD j undef = rj := ⟨_, rfl⟩
      rw [hrj] at ht1 hcj
      have hrj' := Lib.hid hrj
      clear ht2 ht3 hyl m2 hrow hrw hrj
      go_wp2_with fail
      refine (markInt64S_any rj row L x x' _ ht1 (by omega) hb).mono ?_
      rintro e w2 ⟨rfl, own2, tou2, sz2⟩
      have sz2' := Lib.hid sz2
      clear sz2
      go_wp2
      go_roundw
      case rel =>
        have hyl := hyl'.out
        have hnew : (markedRows k xss (j + 1)).getD j [] = marks L row.length := by
          rw [markedRows_lo k xss (j + 1) j (by omega) (by omega), markRows_getD k xss j hlt, hL'.out, hrw'.out]
        have hloose := ht3'.out
        obtain ⟨z1, z2, z3⟩ := hmk'.out
        have res := OwnRows.row (yss := markedRows k xss (j + 1)) (j := j) (g := x) (g' := x') (w' := w2) z1 z2 z3
          (fun i hi => hdd.out i (by omega)) (fun i i' hi hi' => hee.out i i' (by omega) (by omega)) (by omega) ht2'.out tou2
          (by rw [hnew, hrj'.out]; exact own2.loose hloose) (by rw [markedRows_length _ _ _ (by omega), hyl])
          (fun i hi hne => by
            by_cases hij : i < j
            · rw [markedRows_lo k xss (j + 1) i (by omega) (by omega), markedRows_lo k xss j i hij hj]
            · rw [markedRows_hi k xss (j + 1) i (by omega) (by omega), markedRows_hi k xss j i (by omega) hj])
        refine ⟨j + 1, by omega, by go_num, ?_, res, htou.trans (tou2.loose hloose), by rw [sz2'.out, hsz'.out]⟩
        have := hts'.out hlt
        have h3 := hL'.out
        have h4 := hrw'.out
        rw [h4] at this
        congr 1; omega
      case measure => simp [intOf]; omega
    · obtain rfl : j = xss.length := by omega
      go_wp2
      go_ret
      have h3 := hL'.out
      rw [total_take_all] at h3
      obtain ⟨z1, z2, z3⟩ := hmk'.out
      rw [markedRows_all] at z2 z3
      exact ⟨ret_int h3.symm, ⟨rvs, z1, z2, z3, fun i hi => hdd.out i (by rw [markRows_length] at hi; exact hi), fun i i' hi hi' => hee.out i i' (by rw [markRows_length] at hi; exact hi) (by rw [markRows_length] at hi'; exact hi')⟩, htou, hsz'.out⟩

set_option maxHeartbeats 4000000 in
theorem markChain_any (cv : Value) (c : Ch) (k : Int) (lo hi : Nat) (w : World) (hv : ChOwn 28 2 w lo hi cv c) (hh : hi ≤ w.heap.size) (h0 : 0 ≤ k) (h1 : k + total c.w ≤ 1099511627776) :
    Calls Try.prog 62 #[cv, .int .i64 k] w fun e w' => e = .returned (.int .i64 (k + total c.w)) ∧ ChOwn 28 2 w' lo hi cv ⟨c.n, c.t, markRows k c.w⟩ ∧ Touched lo hi w w' := by
  obtain ⟨v, rfl, hr⟩ := hv
  have hr' := hr.keep hh (below1 w (.cells #[.int .i64 c.n, .int .i64 c.t, v] 50))
  go_enter Try.func62, Try.ntmps62
  go_wp2_with fail
  refine (markInt64SS_any v c.w k lo hi _ hr' h0 h1).mono ?_
  rintro e w2 ⟨rfl, own2, tou2, _⟩
  go_wp2
  go_ret
  exact ⟨rfl, ⟨v, rfl, own2⟩, (Touched.of (below1 _ _)).trans tou2⟩

/-! ### found again -/
set_option maxHeartbeats 4000000 in
theorem heldInt64S_any (v : Value) (n : Nat) (k : Int) (w : World) (hv : Ints w v (marks k n)) (h0 : 0 ≤ k) (h1 : k + n ≤ 1099511627776) :
    Calls Try.prog 48 #[v, .int .i64 k] w fun e w' => e = .returned (.int .i64 (k + n)) ∧ w = w' := by
  obtain ⟨hm, a, cap, rfl⟩ := hv.len
  have hl := marks_length k n
  rw [hl] at hm
  unfold maxLen at hm
  have hat := hv.at
  rw [hl] at hat
  rw [hl]
  have hat' := Lib.hid hat
  clear hat hl hv
  go_enter Try.func48, Try.ntmps48
  go_wp2
  go_loop [1, 5] (fun q i => ∃ j : Nat, j ≤ n ∧ i = .int .i64 j ∧ q = .int .i64 (k + j)) (fun _ i => n - (intOf i).toNat)
  case atStart => exact ⟨0, Nat.zero_le _, rfl, by simp⟩
  case round =>
    obtain ⟨j, hj, rfl, rfl⟩ := hrel
    by_cases hlt : j < n
    · obtain ⟨b, off, cap', hvv, -, hc⟩ := hat'.out (by omega)
      simp only [Value.slice.injEq] at hvv
      obtain ⟨rfl, -, rfl⟩ := hvv
      have hcj := hc j hlt
      rw [marks_getD k n j hlt] at hcj
      clear hc
      go_wp2
      go_round
      case rel => exact ⟨j + 1, by omega, by go_num, by congr 1; omega⟩
      case measure => simp [intOf]; omega
    · obtain rfl : j = n := by omega
      go_wp2
      go_ret
      exact ⟨rfl, rfl⟩

set_option maxHeartbeats 4000000 in
theorem heldInt64SS_any (v : Value) (xss : List (List Int)) (k : Int) (w : World) (hv : Rows2 w v (markRows k xss)) (h0 : 0 ≤ k) (h1 : k + total xss ≤ 1099511627776) :
    Calls Try.prog 130 #[v, .int .i64 k] w fun e w' => e = .returned (.int .i64 (k + total xss)) ∧ w = w' := by
  obtain ⟨hm, a, cap, rfl⟩ := hv.len
  have hl := markRows_length k xss
  have hat := hv.at
  rw [hl] at hm hat
  rw [hl]
  unfold maxLen at hm
  have hat' := Lib.hid hat
  clear hat hl hv
  go_enter Try.func130, Try.ntmps130
  go_wp2
  go_loop [1, 5] (fun q i => ∃ (j : Nat) (L : Int), j ≤ xss.length ∧ i = .int .i64 j ∧ q = .int .i64 L ∧ 0 ≤ L ∧ Hid (L = k + total (xss.take j))) (fun _ i => xss.length - (intOf i).toNat)
  case atStart => exact ⟨0, k, Nat.zero_le _, rfl, rfl, h0, show _ = _ by simp [total]⟩
  case round =>
    obtain ⟨j, L, hj, rfl, rfl, hL0, hL⟩ := hrel
    by_cases hlt : j < xss.length
    · have hlj := total_take_lt xss j hlt
      have hts := Lib.hid (total_take_succ xss j hlt)
      obtain ⟨b, off, cap', rv, hvv, -, hc⟩ := hat'.out (by omega)
      simp only [Value.slice.injEq] at hvv
      obtain ⟨rfl, -, rfl⟩ := hvv
      obtain ⟨hcell, hrow⟩ := hc j hlt
      rw [markRows_getD k xss j hlt, ← hL.out] at hrow
      have hb : L + (xss.getD j []).length ≤ 1099511627776 := by have := hL.out; omega
      clear hc hlj
      generalize rv j = rj at hcell hrow
      generalize (xss.getD j []).length = n at hrow hb hts
      have hpos : 0 ≤ L + (n : Int) := by omega
      go_wp2_with fail
      refine (heldInt64S_any rj n L _ hrow hL0 hb).mono ?_
      rintro e w2 ⟨rfl, rfl⟩
      go_wp2
      go_round
      case rel => exact ⟨j + 1, L + n, by omega, by go_num, rfl, hpos, show _ = _ by have := hts.out; have := hL.out; omega⟩
      case measure => simp [intOf]; omega
    · obtain rfl : j = xss.length := by omega
      go_wp2
      go_ret
      exact ⟨ret_int (by rw [hL.out, total_take_all]), rfl⟩

end Go.Proofs.Ytacnafjmcfcalaa
