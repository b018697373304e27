/- ChainOfMaps of both sides. Conditions: none. -/
import Derived.Test.YtkebfnmepbblnaaMsOkS
import Derived.Test.YtkebfnmepbblnaaMake
namespace Go.Proofs.Ytkebfnmepbblnaa
open Go.RowKit Go.Deep
set_option linter.unusedVariables false

theorem ownsRow_kp {w w' : World} {lo n size : Nat} {e : TypeId} {v : Value} {vs : List Value} (h : w.ownsRow lo e size v n vs) (hb : Below w.heap.size w w') : w'.ownsRow lo e size v n vs := by
  refine ⟨h.1, ?_⟩
  rcases h.2 with h0 | ⟨g, cap, cur, hv, hg, hh, r⟩
  · exact Or.inl h0
  · exact Or.inr ⟨g, cap, cur, hv, hg, by rw [hb.block g (Array.getElem?_eq_some_iff.1 hh).1]; exact hh, r⟩

/-- what valid maps are -/
theorem msOk_all {m : Ms} (h : msOk m = true) : (1 ≤ m.n ∧ m.n ≤ 6) ∧ (1 ≤ m.t ∧ m.t ≤ 60) ∧ (1 ≤ m.l.length ∧ m.l.length ≤ 60) ∧ (∀ p ∈ m.l, (1 ≤ p.1 ∧ p.1 ≤ m.t) ∧ (p.2.length : Int) = m.n ∧ ∀ x ∈ p.2, 0 ≤ x ∧ x ≤ m.n - 1) ∧ wsum m.l = m.t := by
  unfold msOk at h
  simp only [Bool.and_eq_true, inB_iff, List.all_eq_true, decide_eq_true_eq] at h
  obtain ⟨h1, h2, h3, h4, h5⟩ := h
  refine ⟨h1, h2, by omega, fun p hp => ?_, h5⟩
  have := h4 p hp
  simp only [mpOk, within, Bool.and_eq_true, inB_iff, List.all_eq_true, decide_eq_true_eq] at this
  exact this
theorem msOk_at {m : Ms} (h : msOk m = true) (k : Nat) (hk : k < m.l.length) : (1 ≤ (m.l.getD k mp0).1 ∧ (m.l.getD k mp0).1 ≤ 60) ∧ ((m.l.getD k mp0).2.length : Int) = m.n ∧ ∀ s, s < (m.l.getD k mp0).2.length → 0 ≤ (m.l.getD k mp0).2.getD s 0 ∧ (m.l.getD k mp0).2.getD s 0 ≤ m.n - 1 := by
  obtain ⟨_, ht, _, hp, _⟩ := msOk_all h
  obtain ⟨a1, a2, a3⟩ := hp _ (getD_mem (d := mp0) hk)
  exact ⟨by omega, a2, fun s hs => a3 _ (getD_mem hs)⟩

/-- the weights of the maps that lead from s to j -/
def wat (s j : Nat) (p : Mp) : Int := if (p.2.getD s 0 == (j : Int)) = true then p.1 else 0
theorem wat_yes {s j : Nat} {x y : Int} {row : List Int} (hy : row.getD s 0 = y) (h : (y == (j : Int)) = true) : wat s j (x, row) = x := by unfold wat; rw [if_pos (by rw [hy]; exact h)]
theorem wat_no {s j : Nat} {x y : Int} {row : List Int} (hy : row.getD s 0 = y) (h : (y == (j : Int)) = false) : wat s j (x, row) = 0 := by unfold wat; rw [if_neg (by rw [hy, h]; decide)]
def wto (l : List Mp) (s j : Nat) : Int := (l.map (wat s j)).sum
theorem wto_take_succ (l : List Mp) (s j k : Nat) (h : k < l.length) : wto (l.take (k + 1)) s j = wto (l.take k) s j + wat s j (l.getD k mp0) := by
  unfold wto
  rw [List.map_take, List.map_take, sum_take_succ _ k (by simpa using h)]
  simp [List.getD, h]

set_option maxHeartbeats 4000000 in
theorem weight_any (cv : Value) (c : Ms) (s j : Nat) (w : World) (hv : MsR w cv c) (hok : msOk c = true) (hs : (s : Int) < c.n) :
    Calls Try.prog 170 #[cv, .int .i64 s, .int .i64 j] w fun e w' => e = .returned (.int .i64 (wto c.l s j)) ∧ Below w.heap.size w w' := by
  obtain ⟨v, rfl, hr⟩ := hv
  obtain ⟨⟨n1, n2⟩, _, ⟨l1, l2⟩, _⟩ := msOk_all hok
  have hat := fun k hk => msOk_at hok k hk
  obtain ⟨n, t, l⟩ := c
  simp only at hr hs hat n1 n2 l1 l2 ⊢
  have hat' := Lib.hid hat
  obtain ⟨hm, a, cap, rfl⟩ := hr.len
  have B0 := below1 w (.cells #[.int .i64 n, .int .i64 t, .slice a l.length cap] 64)
  have hB := Blk.new w #[.int .i64 n, .int .i64 t, .slice a l.length cap] 64
  have hr' := hr.keep B0
  have hlt0 : w.heap.size < (w.alloc (.cells #[.int .i64 n, .int .i64 t, .slice a l.length cap] 64)).heap.size := by simp
  clear hr hat
  go_enter Try.func170, Try.ntmps170
  go_wp2
  generalize hW : w.alloc _ = W at *
  clear hW
  have B0' := Lib.hid B0
  clear B0
  go_loopw [7, 13] (fun q i wr => ∃ (k : Nat) (S : Int), k ≤ l.length ∧ i = .int .i64 k ∧ q = .int .i64 S ∧ 0 ≤ S ∧ S ≤ 60 * (k : Int) ∧ Below W.heap.size W wr ∧ Hid (S = wto (l.take k) s j)) (fun _ i _ => l.length - (intOf i).toNat)
  case atStart => exact ⟨0, 0, Nat.zero_le _, rfl, rfl, by omega, by omega, Below.refl _ _, show _ = _ by simp [wto]⟩
  case round =>
    obtain ⟨wo, rfl⟩ : ∃ wo : World, wo = wr := ⟨_, rfl⟩
    obtain ⟨k, S, hk, rfl, rfl, hS0, hS1, hbel, hS⟩ := hrel
    have hbel' := Lib.hid hbel
    by_cases hlt : k < l.length
    · obtain ⟨b, off, cap', rv, hvv, hb, hc⟩ := (hr'.keep hbel).at (by omega)
      simp only [Value.slice.injEq] at hvv
      obtain ⟨rfl, -, rfl⟩ := hvv
      obtain ⟨hc0, hc1, hrow⟩ := hc k hlt
      obtain ⟨⟨x1, x2⟩, hlen, _⟩ := hat'.out k hlt
      have hws := Lib.hid (wto_take_succ l s j k hlt)
      clear hc hbel
      generalize l.getD k mp0 = mp at hrow hc0 hws x1 x2 hlen
      obtain ⟨x, row⟩ := mp
      simp only at hrow hc0 x1 x2 hlen
      generalize rv k = rk at hrow hc1
      have hsr : s < row.length := by omega
      obtain ⟨rb, ro, rc, rfl, hrb, hrc⟩ := hrow.at (by omega)
      have hcell := hrc s hsr
      have hcell' : ∀ o, (wo.alloc o).cell? ⟨rb, ro + s, none⟩ = some (.int .i64 (row.getD s 0)) := fun o => (World.cell?_alloc_past _ _ _ hrb).trans hcell
      have Bx' := Lib.hid (below1 wo (.cells #[.int .i64 x, .slice (some ⟨rb, ro, none⟩) row.length rc] 129))
      clear hrc hrow hcell
      obtain ⟨y, hy0⟩ : ∃ y, row.getD s 0 = y := ⟨_, rfl⟩
      rw [hy0] at hcell'
      have hy := Lib.hid hy0
      clear hy0
      rcases hq : (y == (j : Int)) with _ | _
      · have hsn := Lib.hid (show S = wto (l.take (k + 1)) s j by rw [hws.out, hS.out, wat_no hy.out hq]; omega)
        go_wp2
        go_roundw
        case rel => exact ⟨k + 1, S, by omega, by go_num, rfl, by omega, by omega, hbel'.out.trans (Bx'.out.mono hbel'.out.size), hsn⟩
        case measure => simp [intOf]; omega
      · have hsn := Lib.hid (show S + x = wto (l.take (k + 1)) s j by rw [hws.out, hS.out, wat_yes hy.out hq])
        go_wp2
        go_roundw
        case rel => exact ⟨k + 1, S + x, by omega, by go_num, rfl, by omega, by omega, hbel'.out.trans (Bx'.out.mono hbel'.out.size), hsn⟩
        case measure => simp [intOf]; omega
    · obtain rfl : k = l.length := by omega
      have hfin := Lib.hid (show S = wto l s j by have := hS.out; rw [List.take_length] at this; exact this)
      go_wp2
      go_ret
      exact ⟨ret_int hfin.out, B0'.out.trans (hbel'.out.mono B0'.out.size)⟩

set_option maxRecDepth 100000 in
set_option maxHeartbeats 8000000 in
theorem makeChainM_any (n : Nat) (t : Int) (F : Nat) (first : Array Value) (f : Nat → Nat → Int) (w : World) (hn : 1 ≤ n) (hn6 : n ≤ 6) (ht : t ≤ 60)
    (hcf0 : ∀ args w, (callFunc F args).run Try.prog w = .ok (.enter F args) w)
    (hF0 : ∀ (W : World) (s j : Nat), Below w.heap.size w W → s < n → j < n → Calls Try.prog F (first ++ #[.int .i64 s, .int .i64 j]) W fun e W' => e = .returned (.int .i64 (f s j)) ∧ Below W.heap.size W W') :
    Calls Try.prog 169 #[.int .i64 n, .int .i64 t, .func (.func F) first #[]] w fun e w' => ∃ cv, e = .returned (.tuple #[cv, .int .i64 0]) ∧ ChOwn 25 2 w' w.heap.size w'.heap.size cv ⟨n, t, rowsOf n f⟩ ∧ Below w.heap.size w w' := by
  have hF := Lib.hid hF0
  have hcf := hcf0
  have hmk := make_cap n (by omega) (by omega)
  obtain ⟨i0, hi, hz0, hz1, hz2⟩ := info_parts Try.infoI
  obtain ⟨i1, ki, kz0, kz1, kz2⟩ := info_parts Try.infoR
  have hi' := Lib.hid hi; have hz0' := Lib.hid hz0; have hz1' := Lib.hid hz1; have hz2' := Lib.hid hz2
  have ki' := Lib.hid ki; have kz0' := Lib.hid kz0; have kz1' := Lib.hid kz1; have kz2' := Lib.hid kz2
  clear hF0 hcf0 hi hz0 hz1 hz2 ki kz0 kz1 kz2
  have B2 := below2 w (.cells #[.int .i64 0, .int .i64 0, .slice none 0 0] 29) (.cells #[.int .i64 n, .int .i64 t, .slice none 0 0] 29)
  have hA := (Blk.new w #[.int .i64 0, .int .i64 0, .slice none 0 0] 29).alloc (.cells #[.int .i64 n, .int .i64 t, .slice none 0 0] 29)
  have hC := Blk.new (w.alloc (.cells #[.int .i64 0, .int .i64 0, .slice none 0 0] 29)) #[.int .i64 n, .int .i64 t, .slice none 0 0] 29
  simp only [World.size_alloc] at hC
  go_enter Try.func169, Try.ntmps169
  go_wp2
  have hsz0 : ((w.alloc (.cells #[.int .i64 0, .int .i64 0, .slice none 0 0] 29)).alloc (.cells #[.int .i64 n, .int .i64 t, .slice none 0 0] 29)).heap.size = w.heap.size + 2 := by simp
  generalize (w.alloc (.cells #[.int .i64 0, .int .i64 0, .slice none 0 0] 29)).alloc (.cells #[.int .i64 n, .int .i64 t, .slice none 0 0] 29) = W at *
  have hsz0' := Lib.hid hsz0
  clear hsz0
  go_loopw [23] (fun i wr => ∃ (k : Nat) (a : Option Addr) (cap : Nat) (rvs : List Value), k ≤ n ∧ i = .int .i64 k ∧ Blk wr (w.heap.size + 1) #[.int .i64 n, .int .i64 t, .slice a k cap] 29 ∧ Blk wr w.heap.size #[.int .i64 0, .int .i64 0, .slice none 0 0] 29 ∧
      MadeTo wr (w.heap.size + 2) wr.heap.size (.slice a k cap) rvs ((List.range k).map fun s => (List.range n).map fun j => f s j) ∧ Below w.heap.size w wr ∧ w.heap.size + 2 ≤ wr.heap.size) (fun i _ => n - (intOf i).toNat)
  case atStart => exact ⟨0, none, 0, [], Nat.zero_le _, rfl, hC, hA, by simpa using MadeTo.start W (w.heap.size + 2), B2, by have := hsz0'.out; omega⟩
  case round =>
    obtain ⟨wo, rfl⟩ : ∃ wo : World, wo = wr := ⟨_, rfl⟩
    obtain ⟨k, a, cap, rvs, hk, rfl, hC1, hA1, hM, hb1, hs1⟩ := hrel
    have hM' := Lib.hid hM
    clear hM
    by_cases hlt : k < n
    · go_wp2
      go_loopw [10, 29] (fun v i wr => ∃ j : Nat, j ≤ n ∧ i = .int .i64 j ∧ wr.ownsRow wo.heap.size 2 1 v j (ints ((List.range j).map fun j => f k j)) ∧ Below wo.heap.size wo wr) (fun _ i _ => n - (intOf i).toNat)
      case atStart =>
        exact ⟨0, Nat.zero_le _, rfl, by simpa using World.ownsRow_made wo (madeCells #[.int .i64 0] n) n (Nat.le_refl _) (by unfold maxLen; omega) (by rw [size_madeCells]; omega), below1 _ _⟩
      case round =>
        obtain ⟨j, hj, rfl, hown, bel⟩ := hrel
        by_cases hjlt : j < n
        · have hcall := hF.out wr k j (hb1.trans (bel.mono hs1 |>.mono (by omega))) hlt hjlt
          have hsz := bel.size
          have hts := Lib.hid (range_map_succ (fun j => f k j) j)
          generalize f k j = x at hcall hts
          go_wp2_with fail
          refine hcall.mono ?_
          rintro e w3 ⟨rfl, bw⟩
          have hown' : w3.ownsRow wo.heap.size 2 1 _ j (ints ((List.range j).map fun j => f k j)) := ownsRow_kp hown bw
          have zw := bw.size
          go_wp2_with (at_builtin; (refine wpList_append_own _ rfl _ _ 25 rfl wo.heap.size 2 i0 (.int .i64 0) 1 8 Try.underlying25 hi'.out hz0'.out hz1'.out hz2'.out rfl (by decide) _ _ _ rfl (hown'.alloc _) ⟨w3.heap.size, 0, none⟩ 1 1 [.int .i64 x] rfl rfl (one_new _ _ _) (by simp [Value.oneCell']) (by unfold maxLen; omega) (by omega) (by simp; omega) ?_); intro v' w2 hown2 hgr2 _)
          go_roundw
          case rel =>
            refine ⟨j + 1, by omega, by go_num, ?_, ((bel.trans (bw.mono hsz)).alloc (by omega) _).grown hgr2 (by simp; omega) (fun k' hk' => (hown.lt k' hk').1)⟩
            rw [hts.out]
            simpa [ints] using hown2
          case measure => simp [intOf]; omega
        · obtain rfl : j = n := by omega
          have hsz := bel.size
          obtain ⟨g, gc, rfl⟩ := ownsRow_shape hown (by omega)
          have hrow : Own wr wo.heap.size wr.heap.size 2 _ (ints ((List.range j).map fun i => f k i)) := Own.of hown (Nat.le_refl _)
          have hrow' := Lib.hid hrow
          have hM := hM'.out
          have hMown : wr.ownsRow (w.heap.size + 2) 25 1 (.slice a k cap) k rvs := by
            have h1 := hM.own
            simp only [List.length_map, List.length_range] at h1
            refine ⟨h1.1, ?_⟩
            rcases h1.2 with h0 | ⟨g, cap, cur, hv, hgg, hh, r⟩
            · exact Or.inl h0
            · exact Or.inr ⟨g, cap, cur, hv, hgg, by rw [bel.block g (Array.getElem?_eq_some_iff.1 hh).1]; exact hh, r⟩
          have hC2 := hC1.keep bel hC1.lt
          have hA2 := hA1.keep bel hA1.lt
          have q2 : wr.cell? ⟨w.heap.size + 1, 2, none⟩ = some (.slice a k cap) := hC2.cell 2
          have ltC := hC2.lt
          have q2' : ∀ o, (wr.alloc o).cell? ⟨w.heap.size + 1, 2, none⟩ = some (.slice a k cap) := fun o => (World.cell?_alloc_past _ _ _ ltC).trans q2
          have hne : ∀ k', k' < w.heap.size + 2 → (Value.slice a k cap).ownBlock ≠ some k' := fun k' hk' hh => by have := (ownsRow_type hMown hh).1; omega
          have hne' := Lib.hid hne
          clear hM hrow hown hne
          go_wp2_with (at_builtin; (refine wpList_append_own _ rfl _ _ 22 rfl (w.heap.size + 2) 25 i1 (.slice none 0 0) 1 24 Try.underlying22 ki'.out kz0'.out kz1'.out kz2'.out rfl (by decide) _ _ _ rfl (hMown.alloc _) ⟨wr.heap.size, 0, none⟩ 1 1 [.slice (some ⟨g, 0, none⟩) j gc] rfl rfl (one_new _ _ _) (by simp [Value.oneCell']) (by unfold maxLen; omega) (by omega) (by simp; omega) ?_); intro v' w2 hown2 hgr2 _; obtain ⟨g2, c2, rfl⟩ := ownsRow_shape hown2 (by omega); have hC3 : Blk w2 (w.heap.size + 1) _ _ := (hgr2.block (w.heap.size + 1) (by simp; omega) (fun e => hne'.out _ (by omega) e.symm)).trans (hC2.alloc _); have hf3 := hC3.frozen 2; have hc3 := hC3.cell 2; simp at hc3)
          go_roundw
          case rel =>
            have hg2 := hgr2.size
            simp at hg2
            have hA3 : Blk w2 w.heap.size _ _ := (hgr2.block w.heap.size (by simp; omega) (fun e => hne'.out _ (by omega) e.symm)).trans (hA2.alloc _)
            have res := MadeTo.step (v' := .slice (some ⟨g2, 0, none⟩) (k + 1) c2) (a := ⟨w.heap.size + 1, 2, none⟩) hM'.out bel hrow'.out (by omega) _ (by simpa using hown2) hgr2 (by show w.heap.size + 1 < w.heap.size + 2; omega) (.slice (some ⟨g2, 0, none⟩) (k + 1) c2)
            refine ⟨k + 1, some ⟨g2, 0, none⟩, c2, rvs ++ [.slice (some ⟨g, 0, none⟩) j gc], by omega, by go_num, ?_, hA3.setOther (by simp) _, ?_, ?_, by simp [World.setCell]; omega⟩
            · have := hC3.set 2 (.slice (some ⟨g2, 0, none⟩) (k + 1) c2)
              simpa using this
            · rw [range_map_succ]
              exact res
            · refine Below.setCell ?_ (by show w.heap.size ≤ w.heap.size + 1; omega) _
              exact ((hb1.trans (bel.mono (by omega))).alloc (by omega) _).grown hgr2 (by simp; omega) (fun k' hk' => by have := (ownsRow_type hMown hk').1; omega)
          case measure => simp [intOf]; omega
    · obtain rfl : k = n := by omega
      have c10 := hA1.cell 0
      have c11 := hA1.cell 1
      have c12 := hA1.cell 2
      have f10 := hA1.frozen 0
      have f11 := hA1.frozen 1
      have f12 := hA1.frozen 2
      have c20 := hC1.cell 0
      have c21 := hC1.cell 1
      have c22 := hC1.cell 2
      simp at c10 c11 c12 c20 c21 c22
      go_wp2
      refine bodyPost_ret (v := .tuple #[.agg #[.int .i64 k, .int .i64 t, .slice a k cap], .int .i64 0]) (by simp [results, Try.results169, go_sem, c10, c11, c12]) rfl ?_
      have hown := hM'.out.done
      refine ⟨_, rfl, ⟨_, rfl, (hown.same ((((SameOn.refl _ _ _).set ?_ _).set ?_ _).set ?_ _)).wide (by omega) (by simp [World.setCell])⟩, ((hb1.setCell ?_ _).setCell ?_ _).setCell ?_ _⟩
      all_goals (simp only; omega)

/-- ChainOfMaps -/
def comOf (m : Ms) : Ch × Int := if msOk m = true then (⟨m.n, m.t, rowsOf m.n.toNat (wto m.l)⟩, 0) else (⟨0, 0, []⟩, 1)
theorem nil_ch (w : World) (lo hi : Nat) : ChOwn 25 2 w lo hi (.agg #[.int .i64 0, .int .i64 0, .slice none 0 0]) ⟨0, 0, []⟩ :=
  ⟨_, rfl, [], ⟨⟨by simp, Or.inl ⟨rfl, rfl⟩⟩, by simp, fun k hk => by simp [Value.ownBlock] at hk⟩, rfl, fun i hi => by simp at hi, fun i hi => by simp at hi, fun i j hi => by simp at hi⟩
theorem cf_wt : ∀ args w, (callFunc 170 args).run Try.prog w = .ok (.enter 170 args) w := fun _ _ => by go_simp

set_option maxRecDepth 100000 in
set_option maxHeartbeats 4000000 in
theorem ChainOfMaps_impl (cv : Value) (c : Ms) (w : World) (hv : MsR w cv c) :
    Calls Try.prog 121 #[cv] w fun e w' => ∃ r, e = .returned (.tuple #[r, .int .i64 (comOf c).2]) ∧ ChOwn 25 2 w' w.heap.size w'.heap.size r (comOf c).1 ∧ Below w.heap.size w w' := by
  obtain ⟨v, rfl, hr⟩ := hv
  obtain ⟨n, t, l⟩ := c
  simp only at hr
  obtain ⟨hm, a, cap, rfl⟩ := hr.len
  have B0 := below2 w (.cells #[.int .i64 n, .int .i64 t, .slice a l.length cap] 64) (.cells #[.int .i64 0, .int .i64 0, .slice none 0 0] 29)
  have hB := (Blk.new w #[.int .i64 n, .int .i64 t, .slice a l.length cap] 64).alloc (.cells #[.int .i64 0, .int .i64 0, .slice none 0 0] 29)
  have hR := Blk.new (w.alloc (.cells #[.int .i64 n, .int .i64 t, .slice a l.length cap] 64)) #[.int .i64 0, .int .i64 0, .slice none 0 0] 29
  simp only [World.size_alloc] at hR
  have hr' := hr.keep B0
  have hvm := ValidMaps_impl (.agg #[.int .i64 n, .int .i64 t, .slice a l.length cap]) ⟨n, t, l⟩ _ ⟨_, rfl, hr'⟩
  rcases hok : msOk ⟨n, t, l⟩ with _ | _
  · rw [hok] at hvm
    have hc := Lib.hid (show comOf ⟨n, t, l⟩ = (⟨0, 0, []⟩, 1) by simp [comOf, hok])
    clear hok
    go_enter Try.func121, Try.ntmps121
    go_wp2_with fail
    refine hvm.mono ?_
    rintro e w1 ⟨rfl, b1⟩
    have hR1 := hR.keep b1 hR.lt
    obtain ⟨q0, q1, q2⟩ := hR1.three
    have f0 := hR1.frozen 0
    have f1 := hR1.frozen 1
    have f2 := hR1.frozen 2
    have hbel := Lib.hid (below_wt B0 b1)
    clear b1 B0
    go_wp2
    refine bodyPost_ret (v := .tuple #[.agg #[.int .i64 0, .int .i64 0, .slice none 0 0], .int .i64 1]) (by simp [results, Try.results121, go_sem, q0, q1, q2]) rfl ?_
    rw [hc.out]
    exact ⟨_, rfl, nil_ch _ _ _, ((hbel.out.setCell (p := ⟨w.heap.size + 1, 0, none⟩) (by simp only; omega) _).setCell (p := ⟨w.heap.size + 1, 1, none⟩) (by simp only; omega) _).setCell (p := ⟨w.heap.size + 1, 2, none⟩) (by simp only; omega) _⟩
  · rw [hok] at hvm
    have hok' := Lib.hid hok
    obtain ⟨⟨n1, n2⟩, ⟨t1, t2⟩, _⟩ := msOk_all hok
    simp only at n1 n2 t1 t2
    have hc := Lib.hid (show comOf ⟨n, t, l⟩ = (⟨n, t, rowsOf n.toNat (wto l)⟩, 0) by simp [comOf, hok])
    clear hok
    go_enter Try.func121, Try.ntmps121
    go_wp2_with fail
    refine hvm.mono ?_
    rintro e w1 ⟨rfl, b1⟩
    have hR1 := hR.keep b1 hR.lt
    have hB1 := hB.keep b1 hB.lt
    obtain ⟨q0, q1, q2⟩ := hB1.three
    have hbel := Lib.hid (below_wt B0 b1)
    have hr1 := hr'.keep b1
    have hmk := makeChainM_any n.toNat t 170 #[.agg #[.int .i64 n, .int .i64 t, .slice a l.length cap]] (wto l) w1 (by omega) (by omega) t2 cf_wt
      (fun W s j hb hs hj => weight_any _ ⟨n, t, l⟩ s j W ⟨_, rfl, hr1.keep hb⟩ hok'.out (by show (s : Int) < n; omega))
    have hz : ((n.toNat : Nat) : Int) = n := by omega
    rw [hz] at hmk
    have hmk' := Lib.hid hmk
    clear b1 B0 hmk hvm hr hr' hr1
    go_wp2_with fail
    refine hmk'.out.mono ?_
    rintro e w2 ⟨cv, rfl, hown, b2⟩
    have hR2 := hR1.keep b2 hR1.lt
    obtain ⟨x, xc, rfl⟩ := hown.shape
    obtain ⟨p0, p1, p2⟩ := hR2.three
    have f0 := hR2.frozen 0
    have f1 := hR2.frozen 1
    have f2 := hR2.frozen 2
    have hbel2 := Lib.hid (below_wt hbel.out b2)
    have hltR := hR1.lt
    have hz1 := hbel.out.size
    have hown' := Lib.hid hown
    clear b2 q0 q1 q2 hown
    simp only at hown'
    go_wp2
    refine bodyPost_ret (v := .tuple #[.agg #[.int .i64 n, .int .i64 t, .slice x (rowsOf n.toNat (wto l)).length xc], .int .i64 0]) (by simp [results, Try.results121, go_sem, p0, p1, p2]) rfl ?_
    rw [hc.out]
    refine ⟨_, rfl, (hown'.out.same ((((SameOn.refl _ _ _).set ?_ _).set ?_ _).set ?_ _)).wide (by omega) (by simp [World.setCell]), ((hbel2.out.setCell ?_ _).setCell ?_ _).setCell ?_ _⟩
    all_goals (simp only; omega)
end Go.Proofs.Ytkebfnmepbblnaa
