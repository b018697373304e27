/- Sets of nodes: the palette of the independent sets, readSets and IsIndependent of the project. Conditions: at most two lists. -/
import Derived.Test.YtfbhdlkiffoflaaIc
namespace Go.Proofs.Ytfbhdlkiffoflaa
open Go.RowKit Go.Deep
set_option linter.unusedVariables false

def bothI (x y : Int) : Bool := decide (x = 1) && decide (y = 1)
set_option maxHeartbeats 1000000 in
theorem both_any (x y : Int) (w : World) : Calls Try.prog 98 #[.int .i64 x, .int .i64 y] w fun e w' => e = .returned (.bool (bothI x y)) ∧ w = w' := by
  by_cases h : x = 1
  · by_cases h2 : y = 1
    · have h' : (x == 1) = true := by simpa using h
      have h2' : (y == 1) = true := by simpa using h2
      have hb := Lib.hid (show bothI x y = true by simp [bothI, h, h2])
      clear h h2
      rw [hb.out]
      go_enter Try.func98, Try.ntmps98
      go_wp2
      go_ret
      exact ⟨rfl, rfl⟩
    · have h' : (x == 1) = true := by simpa using h
      have h2' : (y == 1) = false := by simpa using h2
      have hb := Lib.hid (show bothI x y = false by simp [bothI, h2])
      clear h h2
      rw [hb.out]
      go_enter Try.func98, Try.ntmps98
      go_wp2
      go_ret
      exact ⟨rfl, rfl⟩
  · have h' : (x == 1) = false := by simpa using h
    have hb := Lib.hid (show bothI x y = false by simp [bothI, h])
    clear h
    rw [hb.out]
    go_enter Try.func98, Try.ntmps98
    go_wp2
    go_ret
    exact ⟨rfl, rfl⟩
theorem clash_both : Clash 98 bothI := ⟨fun _ _ => by go_simp, both_any⟩

theorem two_list {w : World} {b : Nat} {x y : Int} {t : TypeId} (h : Blk w b #[.int .i64 x, .int .i64 y] t) : Ints w (.slice (some ⟨b, 0, none⟩) 2 2) [x, y] := by
  refine ⟨by simp [ints, maxLen], some ⟨b, 0, none⟩, 2, by simp [ints], ⟨by simp [ints], by simp [maxLen]⟩, fun i hi => ⟨b, 0, rfl, ?_⟩⟩
  rw [Nat.zero_add, h.cell]
  match i, hi with
  | 0, _ => rfl
  | 1, _ => rfl
  | i + 2, hi => exact absurd hi (by simp [ints])

set_option maxRecDepth 100000 in
set_option maxHeartbeats 4000000 in
theorem sets_any (lv ev : Value) (nb : List (List Int)) (ps : List (Int × Int)) (wt : Int) (w : World) (hl : Rows2 w lv nb) (he : PrL w ev ps) (w1 : 1 ≤ wt) (w60 : wt ≤ 60) :
    Calls Try.prog 86 #[.agg #[lv, ev], .int .i64 wt] w fun e w' => ∃ wv, e = .returned (.agg (palA lv ev wv 98 (1 + wt))) ∧ (∀ W, SameOn w.heap.size w'.heap.size w' W → Ints W wv [1, wt]) ∧ Below w.heap.size w w' := by
  obtain ⟨_, la, lc, rfl⟩ := hl.len
  obtain ⟨_, ea, ec, rfl⟩ := he.len
  clear hl he
  go_enter Try.func86, Try.ntmps86
  go_wp2
  obtain ⟨o2, ho2⟩ : ∃ o, Obj.cells #[.slice la nb.length lc, .slice ea ps.length ec, .slice (some ⟨w.heap.size + 1 + 1, 0, none⟩) 2 2, .func (.func 98) #[] #[], .int .i64 (1 + wt)] 68 = o := ⟨_, rfl⟩
  obtain ⟨o1, ho1⟩ : ∃ o, Obj.cells #[.slice la nb.length lc, .slice ea ps.length ec] 65 = o := ⟨_, rfl⟩
  have B3 := Lib.hid (below3 w o1 o2 (.cells #[.int .i64 1, .int .i64 wt] 2))
  have HO := Blk.new ((w.alloc o1).alloc o2) #[.int .i64 1, .int .i64 wt] 2
  simp only [World.size_alloc] at HO
  have HO' := Lib.hid HO
  clear HO
  refine bodyPost_ret (v := .agg (palA (.slice la nb.length lc) (.slice ea ps.length ec) (.slice (some ⟨w.heap.size + 1 + 1, 0, none⟩) 2 2) 98 (1 + wt))) (by simp [results, Try.results86, go_sem]) rfl ?_
  rw [ho1, ho2]
  exact ⟨_, rfl, fun W hW => two_list (t := 2) ((hW _ (by omega) (by simp)).trans HO'.out), B3.out⟩

/-! ### paintings of sets -/
def setF (xs : List Int) (j : Nat) : Int := if (j : Int) ∈ xs then 1 else 0
def setPK (yss : List (List Int)) (k m : Nat) (i j : Nat) : Int := if i < k then setF (yss.getD i []) j else if i = k then setF ((yss.getD k []).take m) j else 0
theorem setPK_zero (yss : List (List Int)) : setPK yss 0 0 = pntF [] 0 := by
  funext i j
  simp [setPK, pntF, setF]
theorem setPK_next (yss : List (List Int)) (k : Nat) : setPK yss k (yss.getD k []).length = setPK yss (k + 1) 0 := by
  funext i j
  unfold setPK
  by_cases h1 : i < k
  · rw [if_pos h1, if_pos (by omega)]
  · by_cases h2 : i = k
    · subst h2
      rw [if_neg h1, if_pos rfl, if_pos (by omega), List.take_length]
    · rw [if_neg h1, if_neg h2, if_neg (by omega)]
      split
      · simp [setF]
      · rfl
def pupF (F : Nat → Nat → Int) (k n : Nat) (x : Int) (i j : Nat) : Int := if i = k ∧ j = n then x else F i j
theorem pntA_upd (m : Nat) (F : Nat → Nat → Int) (k n : Nat) (x : Int) (hk : k < m) (hn : n < 10) : (pntA m F).setIfInBounds (k * 10 + n) (.int .i64 x) = pntA m (pupF F k n x) := by
  apply Array.ext
  · simp [pntA_size]
  · intro t h1 h2
    have ht : t < m * 10 := by simpa [pntA_size] using h2
    have e1 := pntA_get m F (t / 10) (t % 10) (by omega) (Nat.mod_lt _ (by omega))
    have e2 := pntA_get m (pupF F k n x) (t / 10) (t % 10) (by omega) (Nat.mod_lt _ (by omega))
    have et : t / 10 * 10 + t % 10 = t := by omega
    rw [et] at e1 e2
    rw [Array.getElem_setIfInBounds (by simpa [pntA_size] using ht)]
    have e2' := (Array.getElem?_eq_some_iff.1 e2).2
    have e1' := (Array.getElem?_eq_some_iff.1 e1).2
    rw [e2']
    by_cases h : k * 10 + n = t
    · have a : t / 10 = k := by omega
      have b : t % 10 = n := by omega
      rw [if_pos h, a, b]
      simp [pupF]
    · rw [if_neg h, e1']
      unfold pupF
      rw [if_neg (by omega)]
theorem setPK_step (yss : List (List Int)) (k m n : Nat) (hm : m < (yss.getD k []).length) (hn : (yss.getD k []).getD m 0 = (n : Int)) : pupF (setPK yss k m) k n 1 = setPK yss k (m + 1) := by
  funext i j
  unfold pupF setPK
  by_cases h1 : i < k
  · rw [if_neg (by omega), if_pos h1, if_pos h1]
  · by_cases h2 : i = k
    · subst h2
      rw [if_neg h1, if_pos rfl, if_neg h1, if_pos rfl]
      generalize yss.getD i [] = xs at hm hn
      rw [List.take_succ_eq_append_getElem hm]
      have hx : xs[m] = (n : Int) := by rw [← hn]; simp [List.getD, hm]
      rw [hx]
      unfold setF
      by_cases h3 : j = n
      · subst h3; simp
      · rw [if_neg (by omega)]
        have : ((j : Int) ∈ xs.take m ++ [(n : Int)]) ↔ (j : Int) ∈ xs.take m := by
          rw [List.mem_append]
          constructor
          · rintro (h | h)
            · exact h
            · simp at h; omega
          · exact Or.inl
        simp only [this]
    · rw [if_neg (by omega), if_neg h1, if_neg h2, if_neg h1, if_neg h2]

/-- the code of a graph, a weight and sets -/
def rsCode (g : Gr) (wt : Int) (yss : List (List Int)) : Int := if grOk g then if inB wt 1 60 then if yss.all (fun r => rises 0 (g.n - 1) r) then 0 else 2 else 2 else 1
theorem rises_in {n : Int} {xs : List Int} (h : rises 0 (n - 1) xs = true) {x : Int} (hx : x ∈ xs) : 0 ≤ x ∧ x < n := by
  obtain ⟨i, hi, e⟩ := List.getElem_of_mem hx
  unfold rises at h
  rw [List.all_eq_true] at h
  have := h i (by simpa using hi)
  simp only [riseAt, Bool.and_eq_true] at this
  have h2 := inB_iff.1 this.1
  have h3 : xs.getD i 0 = x := by rw [← e]; simp [List.getD, hi]
  rw [h3] at h2
  omega
theorem rises_few {n : Int} {xs : List Int} (h : rises 0 (n - 1) xs = true) (k : Nat) (hk : k < xs.length) : (k : Int) ≤ xs.getD k 0 := by
  induction k with
  | zero => exact (rises_in h (getD_mem hk)).1
  | succ k ih =>
    have := ih (by omega)
    unfold rises at h
    rw [List.all_eq_true] at h
    have h1 := h (k + 1) (by simpa using hk)
    simp only [riseAt, Bool.and_eq_true, Bool.or_eq_true, decide_eq_true_eq, Nat.add_sub_cancel] at h1
    omega
theorem rises_len {n : Int} {xs : List Int} (h : rises 0 (n - 1) xs = true) (hn : 0 ≤ n) : (xs.length : Int) ≤ n := by
  by_cases h0 : xs.length = 0
  · omega
  · have h1 := rises_few h (xs.length - 1) (by omega)
    have h2 := (rises_in h (getD_mem (k := xs.length - 1) (d := 0) (by omega))).2
    omega

def RsP (g : Gr) (wt : Int) (yss : List (List Int)) (w : World) (e : Ending) (w' : World) : Prop :=
  (rsCode g wt yss = 0 ∧ ∃ lv ev wv pb, e = .returned (.tuple #[.agg (palA lv ev wv 98 (1 + wt)), .slice (some ⟨pb, 0, none⟩) yss.length yss.length, .int .i64 0]) ∧ (∀ W, SameOn w.heap.size w'.heap.size w' W → NetR W lv ev g.n.toNat (edgesOf g.e) ∧ Ints W wv [1, wt]) ∧ Blk w' pb (pntA yss.length (setPK yss yss.length 0)) 74 ∧ w.heap.size ≤ pb ∧ Below w.heap.size w w') ∨
  (rsCode g wt yss ≠ 0 ∧ e = .returned (.tuple #[.agg pal0, .slice none 0 0, .int .i64 (rsCode g wt yss)]) ∧ Below w.heap.size w w')

set_option maxRecDepth 100000 in
set_option maxHeartbeats 8000000 in
theorem readSets_any (gv lv : Value) (g : Gr) (wt : Int) (yss : List (List Int)) (w : World) (hv : GrR w gv g) (hl : Rows2 w lv yss) (hm : yss.length ≤ 2) :
    Calls Try.prog 60 #[gv, .int .i64 wt, lv] w (RsP g wt yss w) := by
  obtain ⟨ga, gc, rfl⟩ := hv.shape
  have B0 := below2 w (.cells #[.int .i64 g.n, .slice ga g.e.length gc] 27) (.cells pal0 68)
  have HG := (Blk.new w #[.int .i64 g.n, .slice ga g.e.length gc] 27).alloc (.cells pal0 68)
  have HP := Blk.new (w.alloc (.cells #[.int .i64 g.n, .slice ga g.e.length gc] 27)) pal0 68
  simp only [World.size_alloc] at HP
  have hv1 := hv.keep B0
  have hl1 := hl.keep B0
  obtain ⟨hlm, la, lc, rfl⟩ := hl.len
  have hmk := make_pt yss.length (by omega)
  obtain ⟨w1, hw1⟩ : ∃ u, (w.alloc (.cells #[.int .i64 g.n, .slice ga g.e.length gc] 27)).alloc (.cells pal0 68) = u := ⟨_, rfl⟩
  have hw1' := Lib.hid hw1
  rw [hw1] at B0 HG HP hv1 hl1
  have hVG := Lib.hid (ValidGraph_impl _ g w1 hv1)
  have hsz : w1.heap.size = w.heap.size + 2 := by rw [← hw1]; simp
  have hsz' := Lib.hid hsz
  clear hw1 hsz hl hv
  obtain ⟨g0, g1⟩ := HG.two
  rcases hok : grOk g with _ | _
  · have hcode := Lib.hid (show rsCode g wt yss = 1 by simp [rsCode, hok])
    rw [hok] at hVG
    go_enter Try.func60, Try.ntmps60
    go_upto_region 1 with (fail)
    rw [hw1'.out]
    go_wp2_with fail
    (with_reducible refine hVG.out.mono ?_)
    rintro e w2 ⟨rfl, b2⟩
    have HP2 := HP.step b2
    obtain ⟨⟨z0, z1, z2, z3, z4⟩, f0, f1, f2, f3, f4⟩ := HP2.five
    have B3 := Lib.hid (B0.trans (b2.mono B0.size))
    clear HP2 hmk
    go_wp2
    refine bodyPost_ret (v := .tuple #[.agg pal0, .slice none 0 0, .int .i64 1]) (by simp [results, Try.results60, go_sem, z0, z1, z2, z3, z4]) rfl ?_
    refine Or.inr ⟨by rw [hcode.out]; decide, by rw [hcode.out], below5 B3.out (Nat.le_succ _) _ _ _ _ _⟩
  · rw [hok] at hVG
    have cI := Lib.hid (fun W => isIn_any wt 1 60 W)
    rcases hq : inB wt 1 60 with _ | _
    · have hcode := Lib.hid (show rsCode g wt yss = 2 by simp [rsCode, hok, hq])
      rw [hq] at cI
      clear hq
      go_enter Try.func60, Try.ntmps60
      go_upto_region 1 with (fail)
      rw [hw1'.out]
      go_wp2_with fail
      (with_reducible refine hVG.out.mono ?_)
      rintro e w2 ⟨rfl, b2⟩
      have HP2 := HP.step b2
      obtain ⟨⟨z0, z1, z2, z3, z4⟩, f0, f1, f2, f3, f4⟩ := HP2.five
      have B3 := Lib.hid (B0.trans (b2.mono B0.size))
      clear HP2 hmk
      go_wp2_with fail
      (with_reducible refine (cI.out _).mono ?_)
      rintro e w3 ⟨rfl, rfl⟩
      go_wp2
      refine bodyPost_ret (v := .tuple #[.agg pal0, .slice none 0 0, .int .i64 2]) (by simp [results, Try.results60, go_sem, z0, z1, z2, z3, z4]) rfl ?_
      refine Or.inr ⟨by rw [hcode.out]; decide, by rw [hcode.out], below5 B3.out (Nat.le_succ _) _ _ _ _ _⟩
    · obtain ⟨q1, q4⟩ := inB_iff.1 hq
      have hcode := Lib.hid (show rsCode g wt yss = if yss.all (fun r => rises 0 (g.n - 1) r) then 0 else 2 by simp [rsCode, hok, hq])
      rw [hq] at cI
      obtain ⟨n1, n5⟩ := grOk_nodes hok
      have hok' := Lib.hid hok
      clear hq hok
      go_enter Try.func60, Try.ntmps60
      go_upto_region 1 with (fail)
      rw [hw1'.out]
      go_wp2_with fail
      (with_reducible refine hVG.out.mono ?_)
      rintro e w2 ⟨rfl, b2⟩
      go_wp2_with fail
      (with_reducible refine (cI.out _).mono ?_)
      rintro e w2' ⟨rfl, rfl⟩
      go_wp2
      have PB := Blk.new w2 (pntA yss.length (setPK yss 0 0)) 74
      have e0 := (setPK_zero yss).symm
      have bp := below1 w2 (.cells (pntA yss.length (setPK yss 0 0)) 74)
      rw [e0]
      have Ba := Lib.hid (below_wt b2 bp)
      have hpb := b2.size
      have hgv := Lib.hid (hv1)
      clear e0 bp hmk b2
      obtain ⟨pb, hpbe⟩ : ∃ pb, w2.heap.size = pb := ⟨_, rfl⟩
      obtain ⟨w3, hw3⟩ : ∃ u, w2.alloc (.cells (pntA yss.length (setPK yss 0 0)) 74) = u := ⟨_, rfl⟩
      rw [hpbe] at PB hpb ⊢
      rw [hw3] at PB Ba ⊢
      clear hpbe hw3
      go_loopw [29] (fun i wr => ∃ k : Nat, k ≤ yss.length ∧ i = .int .i64 k ∧ Hid (Blk wr pb (pntA yss.length (setPK yss k 0)) 74) ∧ Hid (Below w1.heap.size w1 wr) ∧ Hid ((yss.take k).all (fun r => rises 0 (g.n - 1) r) = true)) (fun i _ => yss.length - (intOf i).toNat)
      case atStart => exact ⟨0, Nat.zero_le _, rfl, PB, Ba, show _ = _ by simp⟩
      case round =>
        clear PB Ba
        obtain ⟨k, hk, rfl, hPB, bel, ht⟩ := hrel
        have HG2 := HG.step bel.out
        have HP2 := HP.step bel.out
        obtain ⟨j0, j1⟩ := HG2.two
        by_cases hlt : k < yss.length
        · obtain ⟨b, off, cap', rv, hvv, hbl, hc⟩ := hl1.at (by omega)
          simp only [Value.slice.injEq] at hvv
          obtain ⟨rfl, -, rfl⟩ := hvv
          obtain ⟨hcell0, hrow⟩ := hc k hlt
          have hcell := (bel.out.cell (p := ⟨b, off + k, none⟩) hbl).trans hcell0
          clear hcell0
          obtain ⟨hrm, ra, rc, hrv⟩ := hrow.len
          have hrowK := hrow
          have hts := Lib.hid (allR_take_succ (fun r => rises 0 (g.n - 1) r) yss k hlt)
          have hno := Lib.hid (allR_no (fun r => rises 0 (g.n - 1) r) yss k hlt)
          have haw := isSetOf_any (rv k) (yss.getD k []) g.n wr (hrow.keep bel.out)
          have hstep := Lib.hid (setPK_step yss k)
          have hnext := Lib.hid (setPK_next yss k)
          rw [hrv] at hcell haw hrow
          clear hc hrv hrowK
          generalize yss.getD k [] = row at hrow hrm hts hno haw hcell hstep hnext
          rcases hq : rises 0 (g.n - 1) row with _ | _
          · have hcode2 := Lib.hid (show rsCode g wt yss = 2 by rw [hcode.out, hno.out hq]; rfl)
            rw [hq] at haw
            clear hq
            go_wp2_with fail
            (with_reducible refine haw.mono ?_)
            rintro e w4 ⟨rfl, rfl⟩
            obtain ⟨⟨z0, z1, z2, z3, z4⟩, f0, f1, f2, f3, f4⟩ := HP2.five
            have B4 := Lib.hid (B0.trans (bel.out.mono B0.size))
            clear HP2
            go_wp2
            refine bodyPost_ret (v := .tuple #[.agg pal0, .slice none 0 0, .int .i64 2]) (by simp [results, Try.results60, go_sem, z0, z1, z2, z3, z4]) rfl ?_
            refine Or.inr ⟨by rw [hcode2.out]; decide, by rw [hcode2.out], below5 B4.out (Nat.le_succ _) _ _ _ _ _⟩
          · rw [hq] at haw
            have hgo := Lib.hid (show (yss.take (k + 1)).all (fun r => rises 0 (g.n - 1) r) = true by rw [hts.out, ht.out, hq]; rfl)
            have hin := Lib.hid (fun (x : Int) (hx : x ∈ row) => rises_in hq hx)
            have kb : (k : Int) < (yss.length : Int) := by omega
            unfold maxLen at hrm
            clear hq
            go_wp2_with fail
            (with_reducible refine haw.mono ?_)
            rintro e w4 ⟨rfl, rfl⟩
            go_wp2
            go_loopw [42] (fun i wq => ∃ m : Nat, m ≤ row.length ∧ i = .int .i64 m ∧ Hid (Blk wq pb (pntA yss.length (setPK yss k m)) 74) ∧ Hid (Below w1.heap.size w1 wq)) (fun i _ => row.length - (intOf i).toNat)
            case atStart => exact ⟨0, Nat.zero_le _, rfl, hPB.out, bel.out⟩
            case round =>
              obtain ⟨m, hm2, rfl, hPB2, bel2⟩ := hrel
              by_cases hlt2 : m < row.length
              · obtain ⟨rb, ro, rcap, hvr, hrb, hrc⟩ := (hrow.keep bel2.out).at (by omega)
                simp only [Value.slice.injEq] at hvr
                obtain ⟨rfl, -, rfl⟩ := hvr
                have hx := hrc m hlt2
                obtain ⟨x0, x1⟩ := hin.out _ (getD_mem (d := 0) hlt2)
                obtain ⟨nd, hnd⟩ : ∃ q : Nat, row.getD m 0 = q := ⟨(row.getD m 0).toNat, by omega⟩
                have hst := Lib.hid (hstep.out m nd hlt2 hnd)
                rw [hnd] at hx x0 x1
                have nI : (nd : Int) < 10 := by omega
                have nlt : nd < 10 := by omega
                have hcur := (hPB2.out.cell (k * 10 + nd)).trans (pntA_get yss.length (setPK yss k m) k nd hlt nlt)
                have hfz := hPB2.out.frozen (k * 10 + nd)
                have HB := Lib.hid (hPB2.out.set (k * 10 + nd) (.int .i64 1))
                have B6 := Lib.hid (bel2.out.setCell (p := ⟨pb, k * 10 + nd, none⟩) hpb (.int .i64 1))
                generalize setPK yss k m k nd = old at hcur
                clear hnd hrc
                go_wp2
                go_roundw
                case rel =>
                  refine ⟨m + 1, by omega, by go_num, ?_, B6.out⟩
                  have h6 := HB.out
                  rw [pntA_upd _ _ _ _ _ hlt nlt, hst.out] at h6
                  exact h6
                case measure => simp [intOf]; omega
              · obtain rfl : m = row.length := by omega
                go_wp2
                go_roundw
                case rel => exact ⟨k + 1, by omega, by go_num, by rw [← hnext.out]; exact hPB2.out, bel2.out, hgo⟩
                case measure => simp [intOf]; omega
        · obtain rfl : k = yss.length := by omega
          have hcode2 := Lib.hid (show rsCode g wt yss = 0 by
            have h1 := ht.out
            rw [List.take_length] at h1
            rw [hcode.out, h1]; rfl)
          have hgr := hgv.out
          have hnw := network_any _ g wr (hgv.out.keep bel.out) hok'.out
          clear hcode
          go_wp2_with fail
          (with_reducible refine hnw.mono ?_)
          rintro e w5 ⟨lv, ev, rfl, hnet, b5⟩
          have hnet5 := hnet w5 (SameOn.refl _ _ _)
          have hset := sets_any lv ev _ _ wt w5 hnet5.1 hnet5.2 q1 q4
          have b5' := Lib.hid b5
          have hnet' := Lib.hid hnet
          obtain ⟨_, xa, xc, rfl⟩ := hnet5.1.len
          obtain ⟨_, ya, yc, rfl⟩ := hnet5.2.len
          clear b5 hnet hnet5
          go_wp2_with fail
          (with_reducible refine hset.mono ?_)
          rintro e w6 ⟨wv, rfl, hwv, b6⟩
          have b56 := below_wt b5'.out b6
          have HP3 := HP2.step b56
          obtain ⟨⟨z0, z1, z2, z3, z4⟩, f0, f1, f2, f3, f4⟩ := HP3.five
          have hwv' := Lib.hid hwv
          obtain ⟨_, za, zc, rfl⟩ := (hwv w6 (SameOn.refl _ _ _)).len
          have B6 := Lib.hid (below_wt bel.out b56)
          have hP6 := Lib.hid (hPB.out.step b56)
          have hbl := bel.out.size
          have h5l := b5'.out.size
          have h6l := b6.size
          have b6' := Lib.hid b6
          clear HP3 HP2 hwv b56 b6
          go_wp2
          refine bodyPost_ret (v := .tuple #[.agg (palA (.slice xa (nbL g.n.toNat (edgesOf g.e)).length xc) (.slice ya (edgesOf g.e).length yc) (.slice za [1, wt].length zc) 98 (1 + wt)), .slice (some ⟨pb, 0, none⟩) yss.length yss.length, .int .i64 0]) (by simp [results, Try.results60, go_sem, z0, z1, z2, z3, z4]) rfl ?_
          have hs := hsz'.out
          have hS := fun lo hi x0 x1 x2 x3 x4 (h : w.heap.size + 1 < lo) => same5 (SameOn.refl lo hi w6) (Or.inl h) x0 x1 x2 x3 x4
          refine Or.inl ⟨hcode2.out, _, _, _, pb, rfl, fun W hW => ⟨hnet'.out _ ?_, hwv'.out _ ?_⟩, ?_, by omega, below5 (B0.trans (B6.out.mono B0.size)) (Nat.le_succ _) _ _ _ _ _⟩
          · refine (SameOn.of b6'.out (Nat.le_refl _)).trans ?_
            exact (hS wr.heap.size w5.heap.size (.slice xa (nbL g.n.toNat (edgesOf g.e)).length xc) (.slice ya (edgesOf g.e).length yc) (.slice za [1, wt].length zc) (.func (.func 98) #[] #[]) (.int .i64 (1 + wt)) (by omega)).trans (hW.mono (by omega) (by simp [World.setCell]; omega))
          · exact (hS w5.heap.size w6.heap.size (.slice xa (nbL g.n.toNat (edgesOf g.e)).length xc) (.slice ya (edgesOf g.e).length yc) (.slice za [1, wt].length zc) (.func (.func 98) #[] #[]) (.int .i64 (1 + wt)) (by omega)).trans (hW.mono (by omega) (by simp [World.setCell]))
          · exact Eq.trans (hS (w.heap.size + 2) w6.heap.size _ _ _ _ _ (by omega) pb (by omega) hP6.out.lt) hP6.out

def iiOf (g : Gr) (xs : List Int) : Bool × Int := if rsCode g 1 [xs] = 0 then (proper bothI (setF xs) (edgesOf g.e), 0) else (false, rsCode g 1 [xs])
theorem rsCode_zero {g : Gr} {wt : Int} {xs : List Int} (h : rsCode g wt [xs] = 0) : grOk g = true ∧ inB wt 1 60 = true ∧ rises 0 (g.n - 1) xs = true := by
  unfold rsCode at h
  cases h1 : grOk g
  · simp [h1] at h
  · cases h2 : inB wt 1 60
    · simp [h1, h2] at h
    · cases h3 : rises 0 (g.n - 1) xs
      · simp [h1, h2, h3] at h
      · exact ⟨rfl, rfl, rfl⟩
theorem setPK_one (xs : List Int) (j : Nat) : setPK [xs] 1 0 0 j = setF xs j := by simp [setPK]

set_option maxRecDepth 100000 in
set_option maxHeartbeats 4000000 in
theorem IsIndependent_impl (gv v : Value) (g : Gr) (xs : List Int) (w : World) (hg : GrR w gv g) (hv : Ints w v xs) :
    Calls Try.prog 30 #[gv, v] w fun e w' => e = .returned (.tuple #[.bool (iiOf g xs).1, .int .i64 (iiOf g xs).2]) ∧ Below w.heap.size w w' := by
  obtain ⟨ga, gc, rfl⟩ := hg.shape
  obtain ⟨hm, va, vc, rfl⟩ := hv.len
  have B0 := below2 w (.cells #[.int .i64 g.n, .slice ga g.e.length gc] 27) (.cells #[.slice va xs.length vc] 32)
  have HG := (Blk.new w #[.int .i64 g.n, .slice ga g.e.length gc] 27)
  have HL := Blk.new (w.alloc (.cells #[.int .i64 g.n, .slice ga g.e.length gc] 27)) #[.slice va xs.length vc] 32
  have hcall := readSets_any _ _ g 1 [xs] _ (hg.keep B0) (rows_one HL (hv.keep B0)) (by simp)
  simp only [World.size_alloc] at hcall
  obtain ⟨g0, g1⟩ := HG.two
  have hcall' := Lib.hid hcall
  clear hcall HL
  go_enter Try.func30, Try.ntmps30
  go_wp2_with fail
  (with_reducible refine hcall'.out.mono ?_)
  rintro e w1 (⟨hc, lv, ev, wv, pb, rfl, hnw, hP, hpb, b1⟩ | ⟨hc, rfl, b1⟩)
  · rw [show (1 : Int) + 1 = 2 from rfl]
    obtain ⟨hnet, hw⟩ := hnw w1 (SameOn.refl _ _ _)
    have hr := Lib.hid (show iiOf g xs = (proper bothI (setF xs) (edgesOf g.e), 0) by simp [iiOf, hc])
    obtain ⟨hok, -, -⟩ := rsCode_zero hc
    have hn := grOk_nodes hok
    have hpr := Lib.hid (grOk_prOk hok)
    have b2 := below1 w1 (.cells (palA lv ev wv 98 2) 68)
    have H2 := Blk.new w1 (palA lv ev wv 98 2) 68
    obtain ⟨⟨z0, z1, z2, z3, z4⟩, -⟩ := H2.five
    have hP2 := hP.step b2
    have p0 := pnt_first hP2 (by simp) 0 (by omega)
    have p1 := pnt_first hP2 (by simp) 1 (by omega)
    have p2 := pnt_first hP2 (by simp) 2 (by omega)
    have p3 := pnt_first hP2 (by simp) 3 (by omega)
    have p4 := pnt_first hP2 (by simp) 4 (by omega)
    have p5 := pnt_first hP2 (by simp) 5 (by omega)
    have p6 := pnt_first hP2 (by simp) 6 (by omega)
    have p7 := pnt_first hP2 (by simp) 7 (by omega)
    have p8 := pnt_first hP2 (by simp) 8 (by omega)
    have p9 := pnt_first hP2 (by simp) 9 (by omega)
    simp only [List.length_singleton, setPK_one] at p0 p1 p2 p3 p4 p5 p6 p7 p8 p9
    have hip := fun W (hW : Below (w1.alloc (.cells (palA lv ev wv 98 2) 68)).heap.size (w1.alloc (.cells (palA lv ev wv 98 2) 68)) W) =>
      isProper_any 98 bothI clash_both lv ev wv 2 (setF xs) g.n.toNat (edgesOf g.e) W ((hnet.2.keep b2).keep hW) hpr.out (by omega)
    obtain ⟨_, xa, xc, rfl⟩ := hnet.1.len
    obtain ⟨_, ya, yc, rfl⟩ := hnet.2.len
    obtain ⟨_, za, zc, hza⟩ := hw.len
    have hza : wv = .slice za 2 zc := hza
    subst hza
    have B1 := Lib.hid (B0.trans ((below_wt b1 b2).mono B0.size))
    generalize proper bothI (setF xs) (edgesOf g.e) = r at hip hr
    simp only [palA] at hip z0 z1 z2 z3 z4 p0 p1 p2 p3 p4 p5 p6 p7 p8 p9 B1
    go_wp2
    obtain ⟨w2, hw2⟩ : ∃ u, w1.alloc (.cells #[.slice xa (nbL g.n.toNat (edgesOf g.e)).length xc, .slice ya (edgesOf g.e).length yc, .slice za 2 zc, .func (.func 98) #[] #[], .int .i64 2] 68) = u := ⟨_, rfl⟩
    have hip2 := Lib.hid (show ∀ p : Later w2, _ from fun p => hip p.wd (by rw [hw2]; exact p.bel))
    obtain ⟨bp, hbp⟩ : ∃ b, w1.heap.size = b := ⟨_, rfl⟩
    rw [hbp] at z0 z1 z2 z3 z4 ⊢
    rw [hw2] at z0 z1 z2 z3 z4 p0 p1 p2 p3 p4 p5 p6 p7 p8 p9 B1 ⊢
    clear hip hw2 hbp
    replace z0 := Later.cell z0
    replace z1 := Later.cell z1
    replace z2 := Later.cell z2
    replace z3 := Later.cell z3
    replace z4 := Later.cell z4
    replace p0 := Later.cell p0
    replace p1 := Later.cell p1
    replace p2 := Later.cell p2
    replace p3 := Later.cell p3
    replace p4 := Later.cell p4
    replace p5 := Later.cell p5
    replace p6 := Later.cell p6
    replace p7 := Later.cell p7
    replace p8 := Later.cell p8
    replace p9 := Later.cell p9
    refine region_later (by kernel_rfl) (by kernel_rfl) ?_
    repeat (go_big_quiet_step ((go_at_call 50; exact later_of (hip2.out _))))
    refine wpQuiet_nil ?_
    intro _ hw'
    obtain ⟨⟨W3, B3⟩, hw''⟩ := hw'
    subst hw''
    go_wp2
    go_ret2
    rw [hr.out]
    exact ⟨rfl, B1.out.trans (B3.mono B1.out.size)⟩
  · have hr := Lib.hid (show iiOf g xs = (false, rsCode g 1 [xs]) by simp [iiOf, hc])
    generalize rsCode g 1 [xs] = code at hc hr
    have hne : (code != 0) = true := by simpa using hc
    have B1 := Lib.hid (B0.trans (b1.mono B0.size))
    clear hc b1
    go_wp2
    go_ret2
    rw [hr.out]
    exact ⟨rfl, B1.out.trans ((below1 _ _).mono B1.out.size)⟩
end Go.Proofs.Ytfbhdlkiffoflaa
