/- readColours of the project: the palette of the colourings of a graph, and lists of numbers as paintings. Conditions: at most two lists. -/
import Derived.Test.YtfbhdlkiffoflaaPal
namespace Go.Proofs.Ytfbhdlkiffoflaa
open Go.RowKit Go.Deep
set_option linter.unusedVariables false

set_option maxHeartbeats 1000000 in
theorem same_any (x y : Int) (w : World) : Calls Try.prog 94 #[.int .i64 x, .int .i64 y] w fun e w' => e = .returned (.bool (decide (x = y))) ∧ w = w' := by
  by_cases h : x = y
  · have h' : (x == y) = true := by simpa using h
    rw [decide_eq_true h]
    clear h
    go_enter Try.func94, Try.ntmps94
    go_wp2
    go_ret
    exact ⟨rfl, rfl⟩
  · have h' : (x == y) = false := by simpa using h
    rw [decide_eq_false h]
    clear h
    go_enter Try.func94, Try.ntmps94
    go_wp2
    go_ret
    exact ⟨rfl, rfl⟩
theorem clash_same : Clash 94 (fun x y => decide (x = y)) := ⟨fun _ _ => by go_simp, same_any⟩

@[reducible] def pal0 : Array Value := #[.slice none 0 0, .slice none 0 0, .slice none 0 0, .nilFunc, .int .i64 0]
set_option maxRecDepth 100000 in
set_option maxHeartbeats 4000000 in
theorem colourings_any (gv : Value) (g : Gr) (Q : Nat) (w : World) (hv : GrR w gv g) (hok : grOk g = true) (q1 : 1 ≤ Q) (q4 : Q ≤ 4) :
    Calls Try.prog 76 #[gv, .int .i64 (Q : Int)] w fun e w' => ∃ lv ev wv, e = .returned (.agg (palA lv ev wv 94 12)) ∧ (∀ W, SameOn w.heap.size w'.heap.size w' W → NetR W lv ev g.n.toNat (edgesOf g.e) ∧ Ints W wv (List.replicate Q 1)) ∧ Below w.heap.size w w' := by
  obtain ⟨ga, gc, rfl⟩ := hv.shape
  have B0 := below2 w (.cells #[.int .i64 g.n, .slice ga g.e.length gc] 27) (.cells pal0 68)
  have HP := Blk.new (w.alloc (.cells #[.int .i64 g.n, .slice ga g.e.length gc] 27)) pal0 68
  simp only [World.size_alloc] at HP
  have hnet := network_any _ g _ (hv.keep B0) hok
  go_enter Try.func76, Try.ntmps76
  go_wp2_with fail
  (with_reducible refine hnet.mono ?_)
  rintro e w1 ⟨lv, ev, rfl, hn1, b1⟩
  have B1 := Lib.hid (below_wt B0 b1)
  have HP1 := Lib.hid (HP.step b1)
  have b1z := Lib.hid (show w.heap.size + 2 ≤ w1.heap.size by have := b1.size; simpa using this)
  have hn1' := Lib.hid hn1
  have O1 := Blk.new w1 #[.int .i64 1] 2
  have bo := below1 w1 (.cells #[.int .i64 1] 2)
  have hrep := repeat_any w1.heap.size 0 1 Q (w1.alloc (.cells #[.int .i64 1] 2)) (O1.cell 0) q1 (by omega)
  obtain ⟨_, la, lc, rfl⟩ := (hn1 w1 (SameOn.refl _ _ _)).1.len
  obtain ⟨_, ea, ec, rfl⟩ := (hn1 w1 (SameOn.refl _ _ _)).2.len
  clear hn1 b1 B0 HP hnet O1
  go_wp2_with fail
  (with_reducible refine hrep.mono ?_)
  rintro e w2 ⟨gg, rfl, ho, hgg, b2⟩
  have B2 := below_wt bo b2
  have hO := Lib.hid ho
  have hs1 := b1z.out
  have hs2 := B2.size
  have hgg' : w1.heap.size + 1 ≤ gg := by simpa using hgg
  have hgl : gg < w2.heap.size := by obtain ⟨c, hB, -⟩ := ho; exact hB.lt
  have HP2 := HP1.out.step B2
  have z0 := HP2.cell 0
  have z1 := HP2.cell 1
  have z2 := HP2.cell 2
  have z3 := HP2.cell 3
  have z4 := HP2.cell 4
  have f0 := HP2.frozen 0
  have f1 := HP2.frozen 1
  have f2 := HP2.frozen 2
  have f3 := HP2.frozen 3
  have f4 := HP2.frozen 4
  have HPl := HP2.lt
  have B3 := Lib.hid (below_wt B1.out B2)
  have hB2' := Lib.hid B2
  simp at z0 z1 z2 z3 z4
  clear ho b2 bo B2 HP2 hrep
  go_wp2
  refine bodyPost_ret (v := .agg (palA (.slice la (nbL g.n.toNat (edgesOf g.e)).length lc) (.slice ea (edgesOf g.e).length ec) (.slice (some ⟨gg, 0, none⟩) Q Q) 94 12)) (by simp [results, Try.results76, go_sem, z0, z1, z2, z3, z4]) rfl ?_
  have S2 := fun lo x0 x1 x2 x3 x4 (h : w.heap.size + 1 < lo) => ((((((SameOn.refl lo w2.heap.size w2).set (a := ⟨w.heap.size + 1, 0, none⟩) (Or.inl h) x0).set (a := ⟨w.heap.size + 1, 1, none⟩) (Or.inl h) x1).set (a := ⟨w.heap.size + 1, 2, none⟩) (Or.inl h) x2).set (a := ⟨w.heap.size + 1, 3, none⟩) (Or.inl h) x3).set (a := ⟨w.heap.size + 1, 4, none⟩) (Or.inl h) x4)
  have B4 := fun x0 x1 x2 x3 x4 => (((((B3.out.setCell (p := ⟨w.heap.size + 1, 0, none⟩) (Nat.le_succ _) x0).setCell (p := ⟨w.heap.size + 1, 1, none⟩) (Nat.le_succ _) x1).setCell (p := ⟨w.heap.size + 1, 2, none⟩) (Nat.le_succ _) x2).setCell (p := ⟨w.heap.size + 1, 3, none⟩) (Nat.le_succ _) x3).setCell (p := ⟨w.heap.size + 1, 4, none⟩) (Nat.le_succ _) x4)
  refine ⟨_, _, _, rfl, fun W hW => ⟨hn1'.out _ ?_, ?_⟩, B4 _ _ _ _ _⟩
  · refine ((SameOn.of hB2'.out (Nat.le_refl _)).trans ((S2 _ _ _ _ _ _ ?_).mono (Nat.le_refl _) (by omega))).trans (hW.mono (by simp; omega) (by simp [World.setCell]; omega))
    simp
  · obtain ⟨c, hB, r⟩ := hO.out
    have h1 : Blk W gg c 2 := ((S2 (w.heap.size + 2) _ _ _ _ _ (by omega)).trans (hW.mono (by omega) (by simp [World.setCell])) gg (by omega) hgl).trans hB
    exact OnesRp.ints ⟨c, h1, r⟩ (by unfold maxLen; omega)

theorem below5 {B b : Nat} {w w' : World} (h : Below B w w') (hb : B ≤ b) (x0 x1 x2 x3 x4 : Value) : Below B w (((((w'.setCell ⟨b, 0, none⟩ x0).setCell ⟨b, 1, none⟩ x1).setCell ⟨b, 2, none⟩ x2).setCell ⟨b, 3, none⟩ x3).setCell ⟨b, 4, none⟩ x4) :=
  ((((h.setCell (p := ⟨b, 0, none⟩) hb x0).setCell (p := ⟨b, 1, none⟩) hb x1).setCell (p := ⟨b, 2, none⟩) hb x2).setCell (p := ⟨b, 3, none⟩) hb x3).setCell (p := ⟨b, 4, none⟩) hb x4
theorem same5 {lo hi b : Nat} {w w' : World} (h : SameOn lo hi w w') (hb : b < lo ∨ hi ≤ b) (x0 x1 x2 x3 x4 : Value) : SameOn lo hi w (((((w'.setCell ⟨b, 0, none⟩ x0).setCell ⟨b, 1, none⟩ x1).setCell ⟨b, 2, none⟩ x2).setCell ⟨b, 3, none⟩ x3).setCell ⟨b, 4, none⟩ x4) :=
  ((((h.set (a := ⟨b, 0, none⟩) hb x0).set (a := ⟨b, 1, none⟩) hb x1).set (a := ⟨b, 2, none⟩) hb x2).set (a := ⟨b, 3, none⟩) hb x3).set (a := ⟨b, 4, none⟩) hb x4
theorem Blk.five {w : World} {b : Nat} {x0 x1 x2 x3 x4 : Value} {t : TypeId} (h : Blk w b #[x0, x1, x2, x3, x4] t) :
    (w.cell? ⟨b, 0, none⟩ = some x0 ∧ w.cell? ⟨b, 1, none⟩ = some x1 ∧ w.cell? ⟨b, 2, none⟩ = some x2 ∧ w.cell? ⟨b, 3, none⟩ = some x3 ∧ w.cell? ⟨b, 4, none⟩ = some x4) ∧ (w.frozen? ⟨b, 0, none⟩ = false ∧ w.frozen? ⟨b, 1, none⟩ = false ∧ w.frozen? ⟨b, 2, none⟩ = false ∧ w.frozen? ⟨b, 3, none⟩ = false ∧ w.frozen? ⟨b, 4, none⟩ = false) :=
  ⟨⟨h.cell 0, h.cell 1, h.cell 2, h.cell 3, h.cell 4⟩, h.frozen 0, h.frozen 1, h.frozen 2, h.frozen 3, h.frozen 4⟩
theorem allR_take_succ (p : List Int → Bool) (xs : List (List Int)) (k : Nat) (h : k < xs.length) : (xs.take (k + 1)).all p = ((xs.take k).all p && p (xs.getD k [])) := by
  rw [List.take_succ_eq_append_getElem h, List.all_append]
  simp [List.getD, h]
theorem allR_no (p : List Int → Bool) (xs : List (List Int)) (k : Nat) (h : k < xs.length) (hp : p (xs.getD k []) = false) : xs.all p = false := by
  rw [List.all_eq_false]
  exact ⟨xs.getD k [], getD_mem h, by rw [hp]; simp⟩
/-- the code of a graph, a number of colours and lists of numbers -/
def rcCode (g : Gr) (q least : Int) (yss : List (List Int)) : Int := if grOk g then if inB q 1 4 then if yss.all (fun r => within r g.n least (q - 1)) then 0 else 2 else 2 else 1
def RdcP (g : Gr) (q least : Int) (yss : List (List Int)) (w : World) (e : Ending) (w' : World) : Prop :=
  (rcCode g q least yss = 0 ∧ ∃ lv ev wv pb, e = .returned (.tuple #[.agg (palA lv ev wv 94 12), .slice (some ⟨pb, 0, none⟩) yss.length yss.length, .int .i64 0]) ∧ (∀ W, SameOn w.heap.size w'.heap.size w' W → NetR W lv ev g.n.toNat (edgesOf g.e) ∧ Ints W wv (List.replicate q.toNat 1)) ∧ Blk w' pb (pntA yss.length (pntF yss yss.length)) 74 ∧ w.heap.size ≤ pb ∧ Below w.heap.size w w') ∨
  (rcCode g q least yss ≠ 0 ∧ e = .returned (.tuple #[.agg pal0, .slice none 0 0, .int .i64 (rcCode g q least yss)]) ∧ Below w.heap.size w w')

set_option maxRecDepth 100000 in
set_option maxHeartbeats 8000000 in
theorem readColours_any (gv lv : Value) (g : Gr) (q least : Int) (yss : List (List Int)) (w : World) (hv : GrR w gv g) (hl : Rows2 w lv yss) (hm : yss.length ≤ 2) :
    Calls Try.prog 49 #[gv, .int .i64 q, .int .i64 least, lv] w (RdcP g q least yss w) := by
  obtain ⟨ga, gc, rfl⟩ := hv.shape
  have B0 := below2 w (.cells #[.int .i64 g.n, .slice ga g.e.length gc] 27) (.cells pal0 68)
  have HG := (Blk.new w #[.int .i64 g.n, .slice ga g.e.length gc] 27).alloc (.cells pal0 68)
  have HP := Blk.new (w.alloc (.cells #[.int .i64 g.n, .slice ga g.e.length gc] 27)) pal0 68
  simp only [World.size_alloc] at HP
  have hv1 := hv.keep B0
  have hl1 := hl.keep B0
  obtain ⟨hlm, la, lc, rfl⟩ := hl.len
  have hmk := make_pt yss.length (by omega)
  obtain ⟨w1, hw1⟩ : ∃ u, (w.alloc (.cells #[.int .i64 g.n, .slice ga g.e.length gc] 27)).alloc (.cells pal0 68) = u := ⟨_, rfl⟩
  have hw1' := Lib.hid hw1
  rw [hw1] at B0 HG HP hv1 hl1
  have hVG := Lib.hid (ValidGraph_impl _ g w1 hv1)
  have hsz : w1.heap.size = w.heap.size + 2 := by rw [← hw1]; simp
  have hsz' := Lib.hid hsz
  clear hw1 hsz hl hv
  obtain ⟨g0, g1⟩ := HG.two
  rcases hok : grOk g with _ | _
  · have hcode := Lib.hid (show rcCode g q least yss = 1 by simp [rcCode, hok])
    rw [hok] at hVG
    go_enter Try.func49, Try.ntmps49
    go_upto_region 1 with (fail)
    rw [hw1'.out]
    go_wp2_with fail
    (with_reducible refine hVG.out.mono ?_)
    rintro e w2 ⟨rfl, b2⟩
    have HP2 := HP.step b2
    obtain ⟨⟨z0, z1, z2, z3, z4⟩, f0, f1, f2, f3, f4⟩ := HP2.five
    have B3 := Lib.hid (B0.trans (b2.mono B0.size))
    clear HP2 hmk
    go_wp2
    refine bodyPost_ret (v := .tuple #[.agg pal0, .slice none 0 0, .int .i64 1]) (by simp [results, Try.results49, go_sem, z0, z1, z2, z3, z4]) rfl ?_
    refine Or.inr ⟨by rw [hcode.out]; decide, by rw [hcode.out], below5 B3.out (Nat.le_succ _) _ _ _ _ _⟩
  · rw [hok] at hVG
    have cI := Lib.hid (fun W => isIn_any q 1 4 W)
    rcases hq : inB q 1 4 with _ | _
    · have hcode := Lib.hid (show rcCode g q least yss = 2 by simp [rcCode, hok, hq])
      rw [hq] at cI
      clear hq
      go_enter Try.func49, Try.ntmps49
      go_upto_region 1 with (fail)
      rw [hw1'.out]
      go_wp2_with fail
      (with_reducible refine hVG.out.mono ?_)
      rintro e w2 ⟨rfl, b2⟩
      have HP2 := HP.step b2
      obtain ⟨⟨z0, z1, z2, z3, z4⟩, f0, f1, f2, f3, f4⟩ := HP2.five
      have B3 := Lib.hid (B0.trans (b2.mono B0.size))
      clear HP2 hmk
      go_wp2_with fail
      (with_reducible refine (cI.out _).mono ?_)
      rintro e w3 ⟨rfl, rfl⟩
      go_wp2
      refine bodyPost_ret (v := .tuple #[.agg pal0, .slice none 0 0, .int .i64 2]) (by simp [results, Try.results49, go_sem, z0, z1, z2, z3, z4]) rfl ?_
      refine Or.inr ⟨by rw [hcode.out]; decide, by rw [hcode.out], below5 B3.out (Nat.le_succ _) _ _ _ _ _⟩
    · obtain ⟨q1, q4⟩ := inB_iff.1 hq
      have hcode := Lib.hid (show rcCode g q least yss = if yss.all (fun r => within r g.n least (q - 1)) then 0 else 2 by simp [rcCode, hok, hq])
      rw [hq] at cI
      obtain ⟨n1, n5⟩ := grOk_nodes hok
      have hok' := Lib.hid hok
      clear hq hok
      go_enter Try.func49, Try.ntmps49
      go_upto_region 1 with (fail)
      rw [hw1'.out]
      go_wp2_with fail
      (with_reducible refine hVG.out.mono ?_)
      rintro e w2 ⟨rfl, b2⟩
      go_wp2_with fail
      (with_reducible refine (cI.out _).mono ?_)
      rintro e w2' ⟨rfl, rfl⟩
      go_wp2
      have PB := Blk.new w2 (pntA yss.length (pntF yss 0)) 74
      have e0 : pntF [] 0 = pntF yss 0 := by funext i j; simp [pntF]
      have bp := below1 w2 (.cells (pntA yss.length (pntF yss 0)) 74)
      rw [e0]
      have Ba := Lib.hid (below_wt b2 bp)
      have hpb := b2.size
      have hgv := Lib.hid (hv1)
      clear e0 bp hmk b2
      obtain ⟨pb, hpbe⟩ : ∃ pb, w2.heap.size = pb := ⟨_, rfl⟩
      obtain ⟨w3, hw3⟩ : ∃ u, w2.alloc (.cells (pntA yss.length (pntF yss 0)) 74) = u := ⟨_, rfl⟩
      rw [hpbe] at PB hpb ⊢
      rw [hw3] at PB Ba ⊢
      clear hpbe hw3
      go_loopw [29] (fun i wr => ∃ k : Nat, k ≤ yss.length ∧ i = .int .i64 k ∧ Hid (Blk wr pb (pntA yss.length (pntF yss k)) 74) ∧ Hid (Below w1.heap.size w1 wr) ∧ Hid ((yss.take k).all (fun r => within r g.n least (q - 1)) = true)) (fun i _ => yss.length - (intOf i).toNat)
      case atStart => exact ⟨0, Nat.zero_le _, rfl, PB, Ba, show _ = _ by simp⟩
      case round =>
        clear PB Ba
        obtain ⟨k, hk, rfl, hPB, bel, ht⟩ := hrel
        have HG2 := HG.step bel.out
        have HP2 := HP.step bel.out
        obtain ⟨j0, j1⟩ := HG2.two
        by_cases hlt : k < yss.length
        · obtain ⟨b, off, cap', rv, hvv, hbl, hc⟩ := (hl1.keep bel.out).at (by omega)
          simp only [Value.slice.injEq] at hvv
          obtain ⟨rfl, -, rfl⟩ := hvv
          obtain ⟨hcell, hrow⟩ := hc k hlt
          obtain ⟨hrm, ra, rc, hrv⟩ := hrow.len
          have hrowK := hrow
          have hts := Lib.hid (allR_take_succ (fun r => within r g.n least (q - 1)) yss k hlt)
          have hno := Lib.hid (allR_no (fun r => within r g.n least (q - 1)) yss k hlt)
          have haw := areWithin_any (rv k) (yss.getD k []) g.n least (q - 1) wr hrow
          have hstep := Lib.hid (fun cs h1 h2 => pnt_step yss yss.length k hlt cs h1 h2)
          rw [hrv] at hcell haw hrow
          clear hc hrv hrowK
          generalize yss.getD k [] = row at hrow hrm hts hno haw hcell hstep
          rcases hq : within row g.n least (q - 1) with _ | _
          · have hcode2 := Lib.hid (show rcCode g q least yss = 2 by rw [hcode.out, hno.out hq]; rfl)
            rw [hq] at haw
            clear hq
            go_wp2_with fail
            (with_reducible refine haw.mono ?_)
            rintro e w4 ⟨rfl, b4⟩
            have HP3 := HP2.step b4
            obtain ⟨⟨z0, z1, z2, z3, z4⟩, f0, f1, f2, f3, f4⟩ := HP3.five
            have B4 := Lib.hid (B0.trans ((below_wt bel.out b4).mono B0.size))
            clear HP3 HP2
            go_wp2
            refine bodyPost_ret (v := .tuple #[.agg pal0, .slice none 0 0, .int .i64 2]) (by simp [results, Try.results49, go_sem, z0, z1, z2, z3, z4]) rfl ?_
            refine Or.inr ⟨by rw [hcode2.out]; decide, by rw [hcode2.out], below5 B4.out (Nat.le_succ _) _ _ _ _ _⟩
          · rw [hq] at haw
            have hlen : (row.length : Int) = g.n := by simp only [within, Bool.and_eq_true, decide_eq_true_eq] at hq; exact hq.1
            have hgo := Lib.hid (show (yss.take (k + 1)).all (fun r => within r g.n least (q - 1)) = true by rw [hts.out, ht.out, hq]; rfl)
            obtain ⟨rb, ro, rcap, hvr, hrb, hrc⟩ := hrow.at (by omega)
            simp only [Value.slice.injEq] at hvr
            obtain ⟨rfl, -, rfl⟩ := hvr
            have hl10 : row.length ≤ 10 := by omega
            clear hq hlen
            go_wp2_with fail
            (with_reducible refine haw.mono ?_)
            rintro e w4 ⟨rfl, b4⟩
            have B4 := Lib.hid (below_wt bel.out b4)
            have hPB4 := Lib.hid (show w4.heap[pb]? = some (.cells (pntA yss.length (pntF yss k)) 74 (0, 0)) from hPB.out.step b4)
            have hsrc := Lib.hid (show ∀ j v, (ints row)[j]? = some v → w4.cell? ((⟨rb, ro, none⟩ : Addr).add j) = some v by
              intro j v hj
              have hjl : j < row.length := by
                have := (List.getElem?_eq_some_iff.1 hj).1
                simpa [ints] using this
              rw [add_plain, b4.cell (p := ⟨rb, ro + j, none⟩) hrb, hrc j hjl, ← ints_getD row j hjl]
              simp only [List.getD, hj, Option.getD_some])
            have kb : (k : Int) < (yss.length : Int) := by omega
            clear b4 hrc
            have hsz4 := Lib.hid (pntA_size yss.length (pntF yss k))
            go_wp2_with ((with_reducible refine wpList_copy_wide rfl (.tmp 46) (.tmp 47) 32 32 rfl 2 1 Try.underlying32 Try.infoI1 pb (k * 10) 10 10 ⟨rb, ro, none⟩ row.length rc row.length rfl rfl (pntA yss.length (pntF yss k)) 74 hPB4.out (ints row) (Nat.min_eq_left hl10).symm (by simp [ints]) hsrc.out (by rw [hsz4.out]; simp [ints]; omega) (by simp [ints, Value.oneCell']) w1.heap.size w1 B4.out hpb ?_); intro w5 hB5 b5)
            have hP5 := Lib.hid (show Blk w5 pb (pntA yss.length (pntF yss (k + 1))) 74 by rw [← hstep.out (ints row) rfl hl10]; exact hB5)
            have B5 := Lib.hid b5
            clear hB5 b5
            go_wp2
            go_roundw
            case rel => exact ⟨k + 1, by omega, by go_num, hP5, B5, hgo⟩
            case measure => simp [intOf]; omega
        · obtain rfl : k = yss.length := by omega
          have hcode2 := Lib.hid (show rcCode g q least yss = 0 by
            have h1 := ht.out
            rw [List.take_length] at h1
            rw [hcode.out, h1]; rfl)
          have hcol := colourings_any _ g q.toNat wr (hgv.out.keep bel.out) hok'.out (by omega) (by omega)
          rw [Int.toNat_of_nonneg (by omega)] at hcol
          have hgr := hgv.out
          clear hcode
          go_wp2_with fail
          (with_reducible refine hcol.mono ?_)
          rintro e w6 ⟨lv, ev, wv, rfl, hnet, b6⟩
          have HP3 := HP2.step b6
          obtain ⟨⟨z0, z1, z2, z3, z4⟩, f0, f1, f2, f3, f4⟩ := HP3.five
          have hnet' := Lib.hid hnet
          obtain ⟨hn0, hi0⟩ := hnet w6 (SameOn.refl _ _ _)
          obtain ⟨_, xa, xc, rfl⟩ := hn0.1.len
          obtain ⟨_, ya, yc, rfl⟩ := hn0.2.len
          obtain ⟨_, za, zc, rfl⟩ := hi0.len
          have B6 := Lib.hid (below_wt bel.out b6)
          have hP6 := Lib.hid (hPB.out.step b6)
          have hbl := bel.out.size
          have h6l := b6.size
          clear HP3 HP2 hnet hn0 hi0 b6
          go_wp2
          refine bodyPost_ret (v := .tuple #[.agg (palA (.slice xa (nbL g.n.toNat (edgesOf g.e)).length xc) (.slice ya (edgesOf g.e).length yc) (.slice za q.toNat zc) 94 12), .slice (some ⟨pb, 0, none⟩) yss.length yss.length, .int .i64 0]) (by simp [results, Try.results49, go_sem, z0, z1, z2, z3, z4]) rfl ?_
          have hs := hsz'.out
          have hS := fun lo hi x0 x1 x2 x3 x4 (h : w.heap.size + 1 < lo) => same5 (SameOn.refl lo hi w6) (Or.inl h) x0 x1 x2 x3 x4
          refine Or.inl ⟨hcode2.out, _, _, _, pb, rfl, fun W hW => ?_, ?_, by omega, below5 (B0.trans (B6.out.mono B0.size)) (Nat.le_succ _) _ _ _ _ _⟩
          · have hn := hnet'.out _ ((hS wr.heap.size w6.heap.size (.slice xa (nbL g.n.toNat (edgesOf g.e)).length xc) (.slice ya (edgesOf g.e).length yc) (.slice za q.toNat zc) (.func (.func 94) #[] #[]) (.int .i64 12) (by omega)).trans (hW.mono (by omega) (by simp [World.setCell])))
            have hn2 := hn.2
            rw [List.length_replicate] at hn2
            exact ⟨hn.1, hn2⟩
          · exact Eq.trans (hS (w.heap.size + 2) w6.heap.size _ _ _ _ _ (by omega) pb (by omega) hP6.out.lt) hP6.out
end Go.Proofs.Ytfbhdlkiffoflaa
