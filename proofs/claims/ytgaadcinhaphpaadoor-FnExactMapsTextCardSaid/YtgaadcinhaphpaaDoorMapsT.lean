/- The laws' size checks, copies and comparisons of maps; maps that came in, opened. Conditions: few numbers (told in each). -/
import Derived.Test.YtgaadcinhaphpaaDoorMaps
namespace Go.Proofs.YtgaadcinhaphpaaDoor
open Go.ChangeShapes Go.WideShapes Go.ChangeAt Go.RowKit Go.Deep Go.Joins
set_option linter.unusedVariables false

set_option maxHeartbeats 1000000 in
theorem szMap_any (x : Int) (v : Value) (xs : List Int) (left : Int) (w : World) (hv : Ints w v xs) (h0 : 0 ≤ left) (h1 : left ≤ 1048576) :
    Calls Tryd.prog 65 #[.agg #[.int .i64 x, v], .int .i64 left] w fun e w' => e = .returned (.int .i64 (szLeft left xs.length)) ∧ Below w.heap.size w w' := by
  have hv' := hv.keep (below1 w (.cells #[.int .i64 x, v] 116))
  obtain ⟨hm, a, cap, rfl⟩ := hv.len
  by_cases h : left < (xs.length : Nat)
  · have hs := Lib.hid (szLeft_no h)
    have hneg : szLeft left xs.length < 0 := by rw [hs.out]; decide
    go_enter Tryd.func65, Tryd.ntmps65
    go_wp2_with (go_at_call 57; refine (szInt64S_any _ xs _ _ hv' h0 h1).mono ?_; rintro e w' ⟨rfl, rfl⟩)
    go_ret
    exact ⟨ret_int hs.out.symm, below1 _ _⟩
  · have hs := Lib.hid (szLeft_yes (show ((xs.length : Nat) : Int) ≤ left by omega))
    have hneg : 0 ≤ szLeft left xs.length := by rw [hs.out]; omega
    go_enter Tryd.func65, Tryd.ntmps65
    go_wp2_with (go_at_call 57; refine (szInt64S_any _ xs _ _ hv' h0 h1).mono ?_; rintro e w' ⟨rfl, rfl⟩)
    go_ret
    exact ⟨rfl, below1 _ _⟩

set_option maxHeartbeats 2000000 in
theorem szMapS_any (v : Value) (l : List Mp) (left : Int) (w : World) (hv : MapsL w v l) (h0 : 0 ≤ left) (h1 : left ≤ 1048576) :
    Calls Tryd.prog 39 #[v, .int .i64 left] w fun e w' => e = .returned (.int .i64 (szLeft left (l.length + tot l))) ∧ Below w.heap.size w w' := by
  obtain ⟨hm, a, cap, rfl⟩ := hv.len
  unfold maxLen at hm
  by_cases h : left < l.length
  · have hs := Lib.hid (szLeft_no (show left < ((l.length + tot l : Nat) : Int) by omega))
    have h' : left - (l.length : Int) < 0 := by omega
    go_enter Tryd.func39, Tryd.ntmps39
    go_wp2
    go_ret
    exact ⟨ret_int hs.out.symm, Below.refl _ _⟩
  · have h' : 0 ≤ left - (l.length : Int) := by omega
    go_enter Tryd.func39, Tryd.ntmps39
    go_wp2
    go_loopw [1, 5] (fun q i wr => ∃ (k : Nat) (L : Int), k ≤ l.length ∧ Hid (L = left - (l.length + tot (l.take k) : Nat)) ∧ 0 ≤ L ∧ L ≤ 1048576 ∧ i = .int .i64 k ∧ q = .int .i64 L ∧ Below w.heap.size w wr) (fun _ i _ => l.length - (intOf i).toNat)
    case atStart => exact ⟨0, _, Nat.zero_le _, show _ = _ by simp [tot, total], h', by omega, rfl, rfl, Below.refl _ _⟩
    case round =>
      obtain ⟨k, L, hk, hL, hL0, hL1, rfl, rfl, hbel⟩ := hrel
      by_cases hlt : k < l.length
      · obtain ⟨b, off, cap', rv, hvv, hb, hc⟩ := (hv.keep hbel).at (by omega)
        cases hvv
        obtain ⟨hc0, hc1, hrow⟩ := hc k hlt
        clear hc
        have hts := Lib.hid (tot_take_succ l k hlt)
        have htl := tot_take_le l (k + 1)
        generalize l.getD k mp0 = mp at hrow hts hc0
        obtain ⟨x, row⟩ := mp
        simp only at hrow hc0
        generalize rv k = rk at hrow hc1
        have htl' : tot (l.take (k + 1)) = tot (l.take k) + row.length := hts.out
        have hbel' := Lib.hid hbel
        by_cases hq : L < row.length
        · have hs := Lib.hid (szLeft_no hq)
          have hneg : szLeft L row.length < 0 := by rw [hs.out]; decide
          have hfin := Lib.hid (szLeft_no (left := left) (n := l.length + tot l) (by have := hL.out; omega))
          clear htl' htl hbel
          go_wp2_with fail
          refine (szMap_any x rk row L _ hrow hL0 hL1).mono ?_
          rintro e w2 ⟨rfl, b2⟩
          go_wp2
          go_ret
          exact ⟨ret_int hfin.out.symm, below_wt hbel'.out b2⟩
        · have hs := Lib.hid (szLeft_yes (show ((row.length : Nat) : Int) ≤ L by omega))
          have hneg : 0 ≤ szLeft L row.length := by rw [hs.out]; omega
          clear htl' htl hbel
          go_wp2_with fail
          refine (szMap_any x rk row L _ hrow hL0 hL1).mono ?_
          rintro e w2 ⟨rfl, b2⟩
          go_wp2
          go_roundw
          case rel => exact ⟨k + 1, _, by omega, show _ = _ by rw [hs.out]; have h1 : tot (l.take (k + 1)) = tot (l.take k) + row.length := hts.out; have := hL.out; omega, hneg, by rw [hs.out]; omega, by go_num, rfl, below_wt hbel'.out b2⟩
          case measure => simp [intOf]; omega
      · obtain rfl : k = l.length := by omega
        have hfin := Lib.hid (szLeft_yes (left := left) (n := l.length + tot l) (by have := hL.out; rw [tot_take_all] at this; omega))
        go_wp2
        go_ret
        exact ⟨ret_int (by rw [hfin.out, hL.out, tot_take_all]), hbel⟩

set_option maxHeartbeats 1000000 in
theorem szMaps_any (cv : Value) (c : Ms) (left : Int) (w : World) (hv : MsR w cv c) (h0 : 0 ≤ left) (h1 : left ≤ 1048576) :
    Calls Tryd.prog 17 #[cv, .int .i64 left] w fun e w' => e = .returned (.int .i64 (szLeft left (c.l.length + tot c.l))) ∧ Below w.heap.size w w' := by
  obtain ⟨v, rfl, hr⟩ := hv
  have B0 := below1 w (.cells #[.int .i64 c.n, .int .i64 c.t, v] 39)
  have hr' := hr.keep B0
  obtain ⟨hm, a, cap, rfl⟩ := hr.len
  by_cases h : left < (c.l.length + tot c.l : Nat)
  · have hs := Lib.hid (szLeft_no h)
    have hneg : szLeft left (c.l.length + tot c.l) < 0 := by rw [hs.out]; decide
    go_enter Tryd.func17, Tryd.ntmps17
    go_wp2_with fail
    refine (szMapS_any _ c.l _ _ hr' h0 h1).mono ?_
    rintro e w' ⟨rfl, b1⟩
    go_wp2
    go_ret
    exact ⟨ret_int hs.out.symm, below_wt B0 b1⟩
  · have hs := Lib.hid (szLeft_yes (show ((c.l.length + tot c.l : Nat) : Int) ≤ left by omega))
    have hneg : 0 ≤ szLeft left (c.l.length + tot c.l) := by rw [hs.out]; omega
    go_enter Tryd.func17, Tryd.ntmps17
    go_wp2_with fail
    refine (szMapS_any _ c.l _ _ hr' h0 h1).mono ?_
    rintro e w' ⟨rfl, b1⟩
    go_wp2
    go_ret
    exact ⟨rfl, below_wt B0 b1⟩

/-! ### copies -/
theorem Tryd.infoMap : (Tryd.prog.info? 82).map (fun i => (i.zero, i.size, i.bytes)) = some (some (.agg #[.int .i64 0, .slice none 0 0]), 2, 32) := by kernel_rfl

set_option maxHeartbeats 2000000 in
theorem toMap_any (x : Int) (v : Value) (xs : List Int) (w : World) (hv : Ints w v xs) (h1 : xs.length ≤ 2097152) :
    Calls Tryd.prog 67 #[.agg #[.int .i64 x, v]] w fun e w' => ∃ nv, e = .returned (.agg #[.int .i64 x, nv]) ∧ Own w' w.heap.size w'.heap.size 2 nv (ints xs) ∧ Below w.heap.size w w' := by
  go_enter Tryd.func67, Tryd.ntmps67
  go_wp2_with fail
  refine (toInt64S_any v xs _ (hv.keep (below3 _ _ _ _)) h1).mono ?_
  rintro e w1 ⟨rfl, hown, hbel, hsz⟩
  have hB1 := ((Blk.new (w.alloc (.cells #[.int .i64 x, v] 116)) #[.int .i64 0, .slice none 0 0] 82).alloc (.cells #[.int .i64 x, .slice none 0 0] 82)).keep hbel (by simp)
  have hB2 := (Blk.new ((w.alloc (.cells #[.int .i64 x, v] 116)).alloc (.cells #[.int .i64 0, .slice none 0 0] 82)) #[.int .i64 x, .slice none 0 0] 82).keep hbel (by simp)
  simp only [World.size_alloc] at hB1 hB2 hown hbel hsz
  have c10 := hB1.cell 0
  have c11 := hB1.cell 1
  have f10 := hB1.frozen 0
  have f11 := hB1.frozen 1
  have c20 := hB2.cell 0
  have c21 := hB2.cell 1
  have f21 := hB2.frozen 1
  have hbel' := Lib.hid (below_wt (below3 w _ _ _) (by simpa only [World.size_alloc] using hbel))
  have hsz' := Lib.hid hsz
  clear hbel hsz
  simp at c10 c11 c20 c21
  go_wp2
  refine bodyPost_ret (v := .agg #[.int .i64 x, .slice (some ⟨w.heap.size + 1 + 1 + 1, 0, none⟩) xs.length xs.length]) (by simp [results, Tryd.results67, go_sem, c10, c11]) rfl ?_
  refine ⟨_, rfl, (hown.same ((((SameOn.refl _ _ _).set ?_ _).set ?_ _).set ?_ _)).wide (by omega) (by have := hsz'.out; simp [World.setCell]; omega), ((hbel'.out.setCell ?_ _).setCell ?_ _).setCell ?_ _⟩
  all_goals (simp only; omega)

/-- maps copied so far: the first k own their lists -/
def MapsTo (e2 e1 : TypeId) (w : World) (lo : Nat) (v : Value) (l : List Mp) (k : Nat) : Prop :=
  ∃ ps : List (Int × Value), ps.length = l.length ∧ Own2 w lo (lo + 1) e2 v l.length (fl ps) ∧
    (∀ i, i < k → (ps.getD i (0, undef)).1 = (l.getD i mp0).1 ∧ Own w (lo + 1) w.heap.size e1 (ps.getD i (0, undef)).2 (ints (l.getD i mp0).2)) ∧
    (∀ i j, i < k → j < k → i ≠ j → ∀ b, (ps.getD i (0, undef)).2.ownBlock = some b → (ps.getD j (0, undef)).2.ownBlock ≠ some b)
theorem Own.blk {w : World} {lo hi : Nat} {e : TypeId} {v : Value} {vs : List Value} (h : Own w lo hi e v vs) {b : Nat} (hb : v.ownBlock = some b) : lo ≤ b ∧ b < hi ∧ b < w.heap.size := ⟨(h.1.lt b hb).1, h.2.2 b hb, (h.1.lt b hb).2⟩
theorem MapsTo.done {e2 e1 : TypeId} {w : World} {lo cap : Nat} {l : List Mp} (h : MapsTo e2 e1 w lo (.slice (some ⟨lo, 0, none⟩) l.length cap) l l.length) (hh : lo + 1 ≤ w.heap.size) :
    OwnMaps e2 e1 w lo w.heap.size (.slice (some ⟨lo, 0, none⟩) l.length cap) l := by
  obtain ⟨ps, hl, ho, hr, hd⟩ := h
  refine ⟨ps, ho.wide (Nat.le_refl _) hh, hl, fun i hi => ⟨(hr i hi).1, (hr i hi).2.wide (by omega) (Nat.le_refl _)⟩, fun i hi k hk => ?_, hd⟩
  have := (hr i hi).2.blk hk
  simp [Value.ownBlock]; omega
theorem MapsTo.at {e2 e1 : TypeId} {w : World} {lo cap k : Nat} {l : List Mp} (h : MapsTo e2 e1 w lo (.slice (some ⟨lo, 0, none⟩) l.length cap) l k) (hk : k < l.length) :
    ∃ u u', w.cell? ⟨lo, k * 2, none⟩ = some u ∧ w.cell? ⟨lo, k * 2 + 1, none⟩ = some u' ∧ w.frozen? ⟨lo, k * 2, none⟩ = false ∧ w.frozen? ⟨lo, k * 2 + 1, none⟩ = false ∧ lo < w.heap.size := by
  obtain ⟨ps, hl, ho, _⟩ := h
  obtain ⟨g, c, hv, _, _, hg, hc, hf⟩ := ho.at (by omega)
  simp only [Value.slice.injEq, Option.some.injEq, Addr.mk.injEq, and_true] at hv
  obtain ⟨rfl, _, _⟩ := hv
  exact ⟨_, _, hc (k * 2) (by omega), hc (k * 2 + 1) (by omega), hf _, hf _, hg⟩
theorem MapsTo.step {e2 e1 : TypeId} {w w1 : World} {lo cap k : Nat} {x : Int} {nv : Value} {l : List Mp} (h : MapsTo e2 e1 w lo (.slice (some ⟨lo, 0, none⟩) l.length cap) l k) (hk : k < l.length) (hlo : lo + 1 ≤ w.heap.size) (hx : x = (l.getD k mp0).1)
    (hb : Below w.heap.size w w1) (ho1 : Own w1 w.heap.size w1.heap.size e1 nv (ints (l.getD k mp0).2)) :
    MapsTo e2 e1 ((w1.setCell ⟨lo, k * 2, none⟩ (.int .i64 x)).setCell ⟨lo, k * 2 + 1, none⟩ nv) lo (.slice (some ⟨lo, 0, none⟩) l.length cap) l (k + 1) := by
  obtain ⟨ps, hl, ho, hr, hd⟩ := h
  have hkr : k < ps.length := by omega
  have hsz : ((w1.setCell ⟨lo, k * 2, none⟩ (.int .i64 x)).setCell ⟨lo, k * 2 + 1, none⟩ nv).heap.size = w1.heap.size := by simp [World.setCell]
  have hne : ∀ (v : Value) vs, Own w1 (lo + 1) w1.heap.size e1 v vs → v.ownBlock ≠ some lo := fun v vs h e => by have := h.blk e; omega
  have e1' : (ps.set k (x, nv)).getD k (0, undef) = (x, nv) := by simp [List.getD, hkr]
  have e2' : ∀ i, i ≠ k → (ps.set k (x, nv)).getD i (0, undef) = ps.getD i (0, undef) := fun i hi => by simp [List.getD, Ne.symm hi]
  have hz := hb.size
  refine ⟨ps.set k (x, nv), by simpa using hl, ?_, fun i hi => ?_, fun i j hi hj hij b hbi => ?_⟩
  · have h1 := ((ho.keep (by omega) hb).set (k * 2) (.int .i64 x)).set (k * 2 + 1) nv
    rw [fl_set ps k x nv hkr] at h1
    exact h1
  · rw [hsz]
    by_cases e : i = k
    · subst e
      rw [e1']
      have := ho1.wide (lo' := lo + 1) (by omega) (Nat.le_refl _)
      exact ⟨hx, (this.setOther (a := ⟨lo, i * 2, none⟩) (hne _ _ this) _).setOther (a := ⟨lo, i * 2 + 1, none⟩) (hne _ _ this) _⟩
    · rw [e2' i e]
      obtain ⟨h1, h2⟩ := hr i (by omega)
      have := (h2.keep (Nat.le_refl _) hb).wide (hi' := w1.heap.size) (Nat.le_refl _) hz
      exact ⟨h1, (this.setOther (a := ⟨lo, k * 2, none⟩) (hne _ _ this) _).setOther (a := ⟨lo, k * 2 + 1, none⟩) (hne _ _ this) _⟩
  · by_cases ei : i = k
    · subst ei
      rw [e1'] at hbi
      rw [e2' j (Ne.symm hij)]
      intro hbj
      have a1 := ho1.blk hbi
      have a2 := (hr j (by omega)).2.blk hbj
      omega
    · rw [e2' i ei] at hbi
      by_cases ej : j = k
      · subst ej
        rw [e1']
        intro hbj
        have a1 := ho1.blk hbj
        have a2 := (hr i (by omega)).2.blk hbi
        omega
      · rw [e2' j ej]
        exact hd i j (by omega) (by omega) hij b hbi

theorem made_two (n : Nat) : (madeCells #[.int .i64 0, .slice none 0 0] (n * 2)).toList = fl (List.replicate n (0, .slice none 0 0)) := by
  have hl : (madeCells #[.int .i64 0, .slice none 0 0] (n * 2)).toList.length = (fl (List.replicate n ((0 : Int), Value.slice none 0 0))).length := by simp [fl_length, size_madeCells]
  refine List.ext_getElem hl fun j h1 h2 => ?_
  have hj : j < n * 2 := by simpa [size_madeCells] using h1
  have hm : (madeCells #[.int .i64 0, .slice none 0 0] (n * 2)).toList[j] = (if j % 2 = 0 then Value.int .i64 0 else .slice none 0 0) := by
    simp only [madeCells, Array.getElem_toList, Array.getElem_map, Array.getElem_range]
    rcases Nat.mod_two_eq_zero_or_one j with h | h <;> simp [h]
  rw [hm]
  have hg : (fl (List.replicate n ((0 : Int), Value.slice none 0 0)))[j] = (fl (List.replicate n ((0 : Int), Value.slice none 0 0))).getD j undef := by simp [List.getD, h2]
  rw [hg]
  rcases Nat.mod_two_eq_zero_or_one j with h | h
  · obtain ⟨i, rfl⟩ : ∃ i, j = i * 2 := ⟨j / 2, by omega⟩
    rw [fl_even _ _ (by simp; omega), if_pos h]
    simp [List.getD, show i < n by omega]
  · obtain ⟨i, rfl⟩ : ∃ i, j = i * 2 + 1 := ⟨j / 2, by omega⟩
    rw [fl_odd _ _ (by simp; omega), if_neg (by omega)]
    simp [List.getD, show i < n by omega]
theorem make_maps (n : Nat) (hb : 32 * n ≤ 281474976710656) (w : World) :
    (Instr.makeSlice 42 (.int .i64 (n : Int)) (.int .i64 (n : Int))).run Tryd.prog w = .ok (.slice (some ⟨w.heap.size, 0, none⟩) n n) (w.alloc (.cells (madeCells #[.int .i64 0, .slice none 0 0] (n * 2)) 82)) := by
  obtain ⟨i0, hi, hz0, hz1, hz2⟩ := info_parts Tryd.infoMap
  have := run_make (P := Tryd.prog) w 42 82 i0 (.agg #[.int .i64 0, .slice none 0 0]) Tryd.underlying42 hi hz0 .i64 .i64 (n : Int) (n : Int) (by omega) (Int.le_refl _) (by rw [hz2]; omega) (by omega)
  rw [this, hz1, Int.toNat_natCast]
  rfl
theorem maps_made (w : World) (l : List Mp) (hm : l.length ≤ 2097152) :
    MapsTo 82 2 (w.alloc (.cells (madeCells #[.int .i64 0, .slice none 0 0] (l.length * 2)) 82)) w.heap.size (.slice (some ⟨w.heap.size, 0, none⟩) l.length l.length) l 0 := by
  refine ⟨List.replicate l.length (0, .slice none 0 0), by simp, ⟨⟨by rw [fl_length]; simp, Or.inr ⟨w.heap.size, l.length, _, rfl, Nat.le_refl _, heap_alloc_new w _, Nat.le_refl _, by unfold maxLen; omega, size_madeCells _ _, ?_⟩⟩, by unfold maxLen; omega, fun k hk => ?_⟩, fun i hi => by omega, fun i j hi => by omega⟩
  · rw [made_two, List.take_of_length_le (by rw [fl_length]; simp)]
  · simp [Value.ownBlock] at hk; omega

theorem cell_set_next (w : World) (b i : Nat) (u : Value) : (w.setCell ⟨b, i, none⟩ u).cell? ⟨b, i + 1, none⟩ = w.cell? ⟨b, i + 1, none⟩ := by
  exact World.cell?_setCell_other _ _ _ _ (fun h => by injection h with _ h2 _; omega)
theorem frozen_set_next (w : World) (b i : Nat) (u : Value) : (w.setCell ⟨b, i, none⟩ u).frozen? ⟨b, i + 1, none⟩ = w.frozen? ⟨b, i + 1, none⟩ := by
  rw [World.frozen?_setCell]

set_option maxHeartbeats 4000000 in
theorem toMapS_any (v : Value) (l : List Mp) (w : World) (hv : MapsL w v l) (h1 : l.length + tot l ≤ 2097152) :
    Calls Tryd.prog 42 #[v] w fun e w' => ∃ v', e = .returned v' ∧ OwnMaps 82 2 w' w.heap.size w'.heap.size v' l ∧ Below w.heap.size w w' := by
  obtain ⟨hm, a, cap, rfl⟩ := hv.len
  unfold maxLen at hm
  have hmk := make_maps l.length (by omega)
  go_enter Tryd.func42, Tryd.ntmps42
  go_wp2
  go_loopw [4] (fun i wr => ∃ k : Nat, k ≤ l.length ∧ i = .int .i64 k ∧ MapsTo 82 2 wr w.heap.size (.slice (some ⟨w.heap.size, 0, none⟩) l.length l.length) l k ∧ Below w.heap.size w wr ∧ w.heap.size + 1 ≤ wr.heap.size) (fun i _ => l.length - (intOf i).toNat)
  case atStart => exact ⟨0, Nat.zero_le _, rfl, maps_made w l (by omega), below1 _ _, by simp⟩
  case round =>
    obtain ⟨k, hk, rfl, hown, hbel, hsz⟩ := hrel
    have hown' := Lib.hid hown
    have hsz' := Lib.hid hsz
    have hbel' := Lib.hid hbel
    clear hsz
    by_cases hlt : k < l.length
    · have hrl := tot_row_le l k hlt
      obtain ⟨b, off, cap', rv, hvv, hb, hc⟩ := (hv.keep hbel).at (by omega)
      cases hvv
      obtain ⟨hcell0, hcell1, hrow⟩ := hc k hlt
      clear hc hv
      generalize rv k = rk at hcell1 hrow
      obtain ⟨mp, hx⟩ : ∃ mp, mp = l.getD k mp0 := ⟨_, rfl⟩
      rw [← hx] at hrow hrl hcell0
      have hx' := Lib.hid hx
      clear hx
      obtain ⟨x, row⟩ := mp
      simp only at hrow hrl hcell0
      obtain ⟨u, u', hcg0, hcg1, hfg0, hfg1, hlo⟩ := hown.at hlt
      clear hown hbel
      go_wp2_with fail
      refine (toMap_any x rk row _ hrow (by omega)).mono ?_
      rintro e w1 ⟨nv, rfl, hown1, hbel1⟩
      obtain ⟨na, nc, rfl⟩ := Ints.shape (xs := row) hown1.row
      have hcg0' := (hbel1.cell (p := ⟨w.heap.size, k * 2, none⟩) hlo).trans hcg0
      have hcg1' := (hbel1.cell (p := ⟨w.heap.size, k * 2 + 1, none⟩) hlo).trans hcg1
      have hfg0' := (hbel1.frozen (p := ⟨w.heap.size, k * 2, none⟩) hlo).trans hfg0
      have hfg1' := (hbel1.frozen (p := ⟨w.heap.size, k * 2 + 1, none⟩) hlo).trans hfg1
      have hown1' := Lib.hid hown1
      have hbel1' := Lib.hid hbel1
      have hcg2 : (w1.setCell ⟨w.heap.size, k * 2, none⟩ (.int .i64 x)).cell? ⟨w.heap.size, k * 2 + 1, none⟩ = some u' := by rw [cell_set_next]; exact hcg1'
      have hfg2 : (w1.setCell ⟨w.heap.size, k * 2, none⟩ (.int .i64 x)).frozen? ⟨w.heap.size, k * 2 + 1, none⟩ = false := by rw [frozen_set_next]; exact hfg1'
      clear hcg0 hcg1 hfg0 hfg1 hown1 hbel1
      go_wp2
      go_roundw
      case rel =>
        have hs := hsz'.out
        have hz := hbel1'.out.size
        refine ⟨k + 1, by omega, by go_num, hown'.out.step hlt hs (by rw [← hx'.out]) hbel1'.out (by rw [← hx'.out]; exact hown1'.out), ((hbel'.out.trans (hbel1'.out.mono (by omega))).setCell (Nat.le_refl _) _).setCell (Nat.le_refl _) _, by simp [World.setCell]; omega⟩
      case measure => simp [intOf]; omega
    · obtain rfl : k = l.length := by omega
      go_wp2
      go_ret
      exact ⟨_, rfl, hown'.out.done hsz'.out, hbel'.out⟩

set_option maxHeartbeats 2000000 in
theorem toMaps_any (cv : Value) (c : Ms) (w : World) (hv : MsR w cv c) (h1 : c.l.length + tot c.l ≤ 2097152) :
    Calls Tryd.prog 19 #[cv] w fun e w' => ∃ cv', e = .returned cv' ∧ MsMine 82 2 w' w.heap.size w'.heap.size cv' c ∧ Below w.heap.size w w' := by
  obtain ⟨v, rfl, hr⟩ := hv
  go_enter Tryd.func19, Tryd.ntmps19
  go_wp2_with fail
  refine (toMapS_any v c.l _ (hr.keep (below3 _ _ _ _)) h1).mono ?_
  rintro e w1 ⟨v', rfl, hown, hbel⟩
  have hB1 := ((Blk.new (w.alloc (.cells #[.int .i64 c.n, .int .i64 c.t, v] 39)) #[.int .i64 0, .int .i64 0, .slice none 0 0] 44).alloc (.cells #[.int .i64 c.n, .int .i64 c.t, .slice none 0 0] 44)).keep hbel (by simp)
  have hB2 := (Blk.new ((w.alloc (.cells #[.int .i64 c.n, .int .i64 c.t, v] 39)).alloc (.cells #[.int .i64 0, .int .i64 0, .slice none 0 0] 44)) #[.int .i64 c.n, .int .i64 c.t, .slice none 0 0] 44).keep hbel (by simp)
  simp only [World.size_alloc] at hB1 hB2 hown hbel
  obtain ⟨_, a', cap', rfl⟩ := hown.maps.len
  have c10 := hB1.cell 0
  have c11 := hB1.cell 1
  have c12 := hB1.cell 2
  have f10 := hB1.frozen 0
  have f11 := hB1.frozen 1
  have f12 := hB1.frozen 2
  have c20 := hB2.cell 0
  have c21 := hB2.cell 1
  have c22 := hB2.cell 2
  have f22 := hB2.frozen 2
  have hbel' := Lib.hid (below_wt (below3 w _ _ _) (by simpa only [World.size_alloc] using hbel))
  clear hbel
  simp at c10 c11 c12 c20 c21 c22
  go_wp2
  refine bodyPost_ret (v := .agg #[.int .i64 c.n, .int .i64 c.t, .slice a' c.l.length cap']) (by simp [results, Tryd.results19, go_sem, c10, c11, c12]) rfl ?_
  refine ⟨_, rfl, ⟨⟨_, rfl, (hown.same (((((SameOn.refl _ _ _).set ?_ _).set ?_ _).set ?_ _).set ?_ _)).wide (by omega) (by simp [World.setCell])⟩, Nat.le_refl _⟩, (((hbel'.out.setCell ?_ _).setCell ?_ _).setCell ?_ _).setCell ?_ _⟩
  all_goals (simp only; omega)
end Go.Proofs.YtgaadcinhaphpaaDoor
