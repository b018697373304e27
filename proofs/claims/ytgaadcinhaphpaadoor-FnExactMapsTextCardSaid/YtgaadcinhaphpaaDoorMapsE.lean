/- The laws' comparison of maps; maps that came in, opened. Conditions: none. -/
import Derived.Test.YtgaadcinhaphpaaDoorMapsT
namespace Go.Proofs.YtgaadcinhaphpaaDoor
open Go.ChangeShapes Go.WideShapes Go.ChangeAt Go.RowKit Go.Deep Go.Joins
set_option linter.unusedVariables false

theorem Blk.two {w : World} {b : Nat} {x y : Value} {t : TypeId} (h : Blk w b #[x, y] t) : w.cell? ⟨b, 0, none⟩ = some x ∧ w.cell? ⟨b, 1, none⟩ = some y := ⟨h.cell 0, h.cell 1⟩

set_option maxHeartbeats 4000000 in
theorem eqMap_any (x y : Int) (v1 v2 : Value) (xs ys : List Int) (w : World) (h1 : Ints w v1 xs) (h2 : Ints w v2 ys) :
    Calls Tryd.prog 70 #[.agg #[.int .i64 x, v1], .agg #[.int .i64 y, v2]] w fun e w' => e = .returned (.bool (decide ((x, xs) = (y, ys)))) ∧ Below w.heap.size w w' := by
  have W2 := below2 w (.cells #[.int .i64 x, v1] 82) (.cells #[.int .i64 y, v2] 82)
  by_cases e1 : x = y
  · subst e1
    have hcall := eqInt64S_any v1 v2 xs ys _ (h1.keep W2) (h2.keep W2)
    have hr2 := Lib.hid (show decide ((x, xs) = (x, ys)) = decide (xs = ys) by simp)
    generalize decide (xs = ys) = ok at hcall hr2
    cases ok
    all_goals
      go_enter Tryd.func70, Tryd.ntmps70
      go_wp2_with fail
      refine hcall.mono ?_
      rintro e w' ⟨rfl, nq, rfl⟩
      go_wp2
      go_ret
      exact ⟨ret_bool hr2.out.symm, below_drewN W2 _⟩
  · have hr := Lib.hid (show decide ((x, xs) = (y, ys)) = false by simp [e1])
    have hne : (x != y) = true := by simpa using e1
    clear e1
    go_enter Tryd.func70, Tryd.ntmps70
    go_wp2
    go_ret
    exact ⟨ret_bool hr.out.symm, W2⟩

set_option maxHeartbeats 4000000 in
theorem eqMapS_any (a b : Value) (xs ys : List Mp) (w : World) (ha : MapsL w a xs) (hb : MapsL w b ys) :
    Calls Tryd.prog 45 #[a, b] w fun e w' => e = .returned (.bool (decide (xs = ys))) ∧ Below w.heap.size w w' := by
  obtain ⟨hm1, a1, cap1, rfl⟩ := ha.len
  obtain ⟨hm2, a2, cap2, rfl⟩ := hb.len
  unfold maxLen at hm1 hm2
  by_cases hl : xs.length = ys.length
  · have hl' := Lib.hid hl
    rw [← hl]
    rw [← hl] at hb
    clear hl
    go_enter Tryd.func45, Tryd.ntmps45
    go_wp2
    go_loopw [5] (fun i wr => ∃ k : Nat, k ≤ xs.length ∧ i = .int .i64 k ∧ Below w.heap.size w wr ∧ Hid (xs.take k = ys.take k)) (fun i _ => xs.length - (intOf i).toNat)
    case atStart => exact ⟨0, Nat.zero_le _, rfl, Below.refl _ _, show _ = _ by simp⟩
    case round =>
      obtain ⟨wo, rfl⟩ : ∃ wo : World, wo = wr := ⟨_, rfl⟩
      obtain ⟨k, hk, rfl, hbel, ht⟩ := hrel
      have hbel' := Lib.hid hbel
      by_cases hlt : k < xs.length
      · have hlt2 : k < ys.length := by rw [← hl'.out]; exact hlt
        obtain ⟨b1, o1, c1, rv1, hv1, _, hc1⟩ := (ha.keep hbel).at (by omega)
        obtain ⟨b2, o2, c2, rv2, hv2, _, hc2⟩ := (hb.keep hbel).at (by omega)
        simp only [Value.slice.injEq] at hv1 hv2
        obtain ⟨rfl, -, rfl⟩ := hv1
        obtain ⟨rfl, -, rfl⟩ := hv2
        obtain ⟨p10, p11, r1⟩ := hc1 k hlt
        obtain ⟨p20, p21, r2⟩ := hc2 k hlt2
        clear hc1 hc2 ha hb hbel
        generalize rv1 k = x1 at p11 r1
        generalize rv2 k = x2 at p21 r2
        by_cases hq : xs.getD k mp0 = ys.getD k mp0
        · have hn := Lib.hid (take_eq_succ hlt hlt2 ht.out hq)
          rw [← hq] at r2 p20
          clear hq
          generalize xs.getD k mp0 = mp at r1 r2 p10 p20
          obtain ⟨x, row⟩ := mp
          simp only at r1 r2 p10 p20
          go_wp2
          go_region_held3 (fun w' => w'.cell? ⟨b1, o1 + k * 2, none⟩ = some (.int .i64 x) ∧ w'.cell? ⟨b1, o1 + k * 2 + 1, none⟩ = some x1 ∧ w'.cell? ⟨b2, o2 + k * 2, none⟩ = some (.int .i64 x) ∧ w'.cell? ⟨b2, o2 + k * 2 + 1, none⟩ = some x2)
            (go_keep)
            ((go_at_call 70; refine (eqMap_any x x x1 x2 row row _ (r1.keep (below_drew _)) (r2.keep (below_drew _))).mono ?_; rintro e u1 ⟨rfl, bb⟩; rw [decide_eq_true rfl]; replace p10 := (bb.cell (p := ⟨b1, o1 + k * 2, none⟩) (block_lt p10)).trans p10; replace p11 := (bb.cell (p := ⟨b1, o1 + k * 2 + 1, none⟩) (block_lt p11)).trans p11; replace p20 := (bb.cell (p := ⟨b2, o2 + k * 2, none⟩) (block_lt p20)).trans p20; replace p21 := (bb.cell (p := ⟨b2, o2 + k * 2 + 1, none⟩) (block_lt p21)).trans p21))
          go_wp2
          go_roundw
          case rel => exact ⟨k + 1, by omega, by go_num, below_wt hbel'.out (below_wt (below_drew _) bb), hn⟩
          case measure => simp [intOf]; omega
        · have hd := Lib.hid (decide_eq_false (ne_of_getD hq))
          generalize xs.getD k mp0 = mp1 at r1 p10 hq
          generalize ys.getD k mp0 = mp2 at r2 p20 hq
          obtain ⟨x, row1⟩ := mp1
          obtain ⟨y, row2⟩ := mp2
          simp only at r1 r2 p10 p20
          have hq' := Lib.hid (decide_eq_false hq)
          clear hq
          go_wp2
          go_region_held3 (fun w' => w'.cell? ⟨b1, o1 + k * 2, none⟩ = some (.int .i64 x) ∧ w'.cell? ⟨b1, o1 + k * 2 + 1, none⟩ = some x1 ∧ w'.cell? ⟨b2, o2 + k * 2, none⟩ = some (.int .i64 y) ∧ w'.cell? ⟨b2, o2 + k * 2 + 1, none⟩ = some x2)
            (go_keep)
            ((go_at_call 70; refine (eqMap_any x y x1 x2 row1 row2 _ (r1.keep (below_drew _)) (r2.keep (below_drew _))).mono ?_; rintro e u1 ⟨rfl, bb⟩; rw [hq'.out]; replace p10 := (bb.cell (p := ⟨b1, o1 + k * 2, none⟩) (block_lt p10)).trans p10; replace p11 := (bb.cell (p := ⟨b1, o1 + k * 2 + 1, none⟩) (block_lt p11)).trans p11; replace p20 := (bb.cell (p := ⟨b2, o2 + k * 2, none⟩) (block_lt p20)).trans p20; replace p21 := (bb.cell (p := ⟨b2, o2 + k * 2 + 1, none⟩) (block_lt p21)).trans p21))
          go_wp2
          go_ret
          exact ⟨ret_bool hd.out.symm, below_wt hbel'.out (below_wt (below_drew _) bb)⟩
      · obtain rfl : k = xs.length := by omega
        have he : xs = ys := by
          have := ht.out
          rw [List.take_length, hl'.out, List.take_length] at this
          exact this
        have hd := Lib.hid (decide_eq_true he)
        clear he
        go_wp2
        go_ret
        exact ⟨ret_bool hd.out.symm, hbel⟩
  · have hne : xs ≠ ys := fun h => hl (by rw [h])
    have hd := Lib.hid (decide_eq_false hne)
    clear hne
    go_enter Tryd.func45, Tryd.ntmps45
    go_wp2
    go_ret
    exact ⟨ret_bool hd.out.symm, Below.refl _ _⟩

def msEq (c d : Ms) : Bool := decide (c.n = d.n) && (decide (c.t = d.t) && decide (c.l = d.l))
theorem msEq_self (c : Ms) : msEq c c = true := by simp [msEq]

set_option maxHeartbeats 4000000 in
theorem eqMaps_any (a b : Value) (c d : Ms) (w : World) (ha : MsR w a c) (hb : MsR w b d) :
    Calls Tryd.prog 21 #[a, b] w fun e w' => e = .returned (.bool (msEq c d)) ∧ Below w.heap.size w w' := by
  obtain ⟨v1, rfl, h1⟩ := ha
  obtain ⟨v2, rfl, h2⟩ := hb
  obtain ⟨n1, t1, r1⟩ := c
  obtain ⟨n2, t2, r2⟩ := d
  simp only at h1 h2 ⊢
  have W2 := below2 w (.cells #[.int .i64 n1, .int .i64 t1, v1] 44) (.cells #[.int .i64 n2, .int .i64 t2, v2] 44)
  have h1' := h1.keep W2
  have h2' := h2.keep W2
  by_cases e1 : n1 = n2
  · subst e1
    by_cases e2 : t1 = t2
    · subst e2
      have hr := Lib.hid (show msEq ⟨n1, t1, r1⟩ ⟨n1, t1, r2⟩ = decide (r1 = r2) by simp [msEq])
      have hcall := eqMapS_any v1 v2 r1 r2 _ h1' h2'
      generalize decide (r1 = r2) = ok at hcall hr
      cases ok
      all_goals
        go_enter Tryd.func21, Tryd.ntmps21
        go_wp2_with fail
        refine hcall.mono ?_
        rintro e w' ⟨rfl, bb⟩
        go_wp2
        go_ret
        exact ⟨ret_bool hr.out.symm, below_wt W2 bb⟩
    · have hr := Lib.hid (show msEq ⟨n1, t1, r1⟩ ⟨n1, t2, r2⟩ = false by simp [msEq, e2])
      have hne : (t1 != t2) = true := by simpa using e2
      clear e2
      go_enter Tryd.func21, Tryd.ntmps21
      go_wp2
      go_ret
      exact ⟨ret_bool hr.out.symm, W2⟩
  · have hr := Lib.hid (show msEq ⟨n1, t1, r1⟩ ⟨n2, t2, r2⟩ = false by simp [msEq, e1])
    have hne : (n1 != n2) = true := by simpa using e1
    clear e1
    go_enter Tryd.func21, Tryd.ntmps21
    go_wp2
    go_ret
    exact ⟨ret_bool hr.out.symm, W2⟩

theorem MsMine.mine {e2 e1 : TypeId} {w : World} {lo hi : Nat} {cv : Value} {c : Ms} (h : MsMine e2 e1 w lo hi cv c) : MsMine e2 e1 w lo hi cv c := h
/-- numbers that marks take: the weights, too -/
abbrev msz (l : List Mp) : Nat := l.length + tot l

/-! ### opened -/
set_option maxRecDepth 100000 in
theorem open_list_trod {H : Type} {enc : TypeId × Value → H} {W : World} {base : Nat} {held : Bool} {fuel : Nat} {v : Value} {x : DataW H × List MemPlace}
    (h : DataW.trod enc Tryd.prog W base (fun _ => true) held fuel 55 [v] = some x) : ∃ xs, Ints W v xs := by
  rcases open_ints Tryd.underlying55 Tryd.underlying2 (by kernel_rfl) h with ⟨hcs, _⟩ | ⟨a, len, cap, zs, hcs, _, hl, hm, hz, _, hc, _⟩
  · simp at hcs
    subst hcs
    exact ⟨[], by simp [ints], none, 0, by simp [ints], ⟨by simp [ints], by unfold maxLen; omega⟩, fun i hi => by simp [ints] at hi⟩
  · simp at hcs
    subst hcs
    simp only [if_true] at hz
    have hr := row_of_cells (w := W) (a := a) (len := len) (cap := cap) (V := fun i => .int .i64 (zs.getD i 0)) (by omega) (fun i hi => hc i (by omega)) hl hm
    refine ⟨(List.range len).map fun i => zs.getD i 0, ?_⟩
    have e : ints ((List.range len).map fun i => zs.getD i 0) = (List.range len).map fun i => Value.int .i64 (zs.getD i 0) := by simp [ints]
    unfold Ints
    rw [e]
    exact hr

set_option maxRecDepth 100000 in
theorem open_maps {H : Type} {enc : TypeId × Value → H} {W : World} {base b0 : Nat} {held : Bool} {v : Value} {d : DataW H} {p : List MemPlace}
    (hv : Value.okWide Tryd.prog W .any base 39 v) (h : DataW.Trod enc Tryd.prog W b0 (fun _ => true) held 39 v d p) : ∃ c, MsR W v c := by
  obtain ⟨c0, c1, c2, y0, y1, y2, n, rfl, _, _, h0, h1, h2⟩ := open_agg3 Tryd.underlying39 (by kernel_rfl) (by kernel_rfl) hv h
  obtain ⟨a, e0, _, _⟩ := DataW.trod_int Tryd.underlying2 h0
  obtain ⟨b, e1, _, _⟩ := DataW.trod_int Tryd.underlying2 h1
  simp at e0 e1
  subst e0 e1
  rcases open_slice Tryd.underlying37 h2 with ⟨hcs, _⟩ | ⟨sa, len, cap, m, n2, D, Pl, hcs, _, hl, hm, hmm, _, hx⟩
  · simp at hcs
    subst hcs
    exact ⟨⟨a, b, []⟩, _, rfl, by simp, none, 0, fun _ => undef, rfl, ⟨Nat.le_refl _, Nat.zero_le _⟩, fun i hi => by simp at hi⟩
  · simp at hcs
    subst hcs
    simp only [if_true] at hmm
    have hcel : Tryd.prog.cellsOf 116 = 2 := by kernel_rfl
    have hceli : Tryd.prog.cellsOf 2 = 1 := by kernel_rfl
    have hcels : Tryd.prog.cellsOf 55 = 1 := by kernel_rfl
    rw [hcel] at hx
    have hs0 : 0 < len → sa = ⟨sa.block, sa.off, none⟩ := fun h0 => by
      obtain ⟨cs', hc, ht⟩ := hx 0 (by omega)
      obtain ⟨_, hlen, hcc⟩ := World.cells?_some hc
      have g0 := hcc 0 (by decide)
      rw [List.getElem?_eq_getElem (by omega)] at g0
      have h := World.cell?_spot g0
      obtain ⟨b, off, spot⟩ := sa
      simp [Addr.add] at h
      rw [h]
    have key : ∀ i, i < len → ∃ (q : Int × Value × List Int), sa = ⟨sa.block, sa.off, none⟩ ∧ W.cell? ⟨sa.block, sa.off + i * 2, none⟩ = some (.int .i64 q.1) ∧ W.cell? ⟨sa.block, sa.off + i * 2 + 1, none⟩ = some q.2.1 ∧ Ints W q.2.1 q.2.2 := fun i hi => by
      obtain ⟨cs', hc, ht⟩ := hx i (by omega)
      obtain ⟨_, hlen, hcc⟩ := World.cells?_some hc
      obtain ⟨z0, z1, rfl⟩ : ∃ z0 z1, cs' = [z0, z1] := by
        match cs', hlen with
        | [z0, z1], _ => exact ⟨z0, z1, rfl⟩
      have g0 : W.cell? ((sa.add (i * 2)).add 0) = some z0 := hcc 0 (by decide)
      have g1 : W.cell? ((sa.add (i * 2)).add 1) = some z1 := hcc 1 (by decide)
      rw [add_add] at g0 g1
      obtain ⟨r0, r1, n3, _, _, t0, t1⟩ := trod_struct2 Tryd.underlying116 ht
      simp only [hceli, hcels, List.drop_zero, List.drop_succ_cons, List.take_succ_cons, List.take_zero] at t0 t1
      obtain ⟨x, e0, _, _⟩ := DataW.trod_int Tryd.underlying2 t0
      simp at e0
      subst e0
      obtain ⟨xs, hxs⟩ := open_list_trod t1
      have hs := hs0 (by omega)
      rw [hs, add_plain] at g0 g1
      exact ⟨(x, z1, xs), hs, by simpa using g0, by simpa [Nat.add_assoc] using g1, hxs⟩
    obtain ⟨f, hf⟩ := choose_lt (α := Int × Value × List Int) (p := fun i q => sa = ⟨sa.block, sa.off, none⟩ ∧ W.cell? ⟨sa.block, sa.off + i * 2, none⟩ = some (.int .i64 q.1) ∧ W.cell? ⟨sa.block, sa.off + i * 2 + 1, none⟩ = some q.2.1 ∧ Ints W q.2.1 q.2.2) key
    have hlen : ((List.range len).map fun i => ((f i).1, (f i).2.2)).length = len := by simp
    refine ⟨⟨a, b, (List.range len).map fun i => ((f i).1, (f i).2.2)⟩, _, rfl, by simp only [hlen]; omega, some sa, cap, fun i => (f i).2.1, by simp only [hlen], ⟨by simp only [hlen]; exact hl, hm⟩, fun i hi => ?_⟩
    simp only [hlen] at hi
    obtain ⟨k0, k1, k2, k3⟩ := hf i hi
    have e : ((List.range len).map fun i => ((f i).1, (f i).2.2)).getD i mp0 = ((f i).1, (f i).2.2) := by simp [List.getD, hi]
    rw [e]
    exact ⟨sa.block, sa.off, by rw [← k0], k1, k2, k3⟩
end Go.Proofs.YtgaadcinhaphpaaDoor
