/- readColoursAt of the project. Conditions: none. -/
import Derived.Test.YtfbhdlkiffoflaaIc
import Derived.Test.YtfbhdlkiffoflaaFrI
import Derived.StillTailTactics
namespace Go.Proofs.Ytfbhdlkiffoflaa
open Go.RowKit Go.Deep
set_option linter.unusedVariables false

def raCode (g : Gr) (q least : Int) (xs : List Int) (node : Int) : Int := if rcCode g q least [xs] = 0 then if inB node 0 (g.n - 1) then 0 else 2 else rcCode g q least [xs]
def RdaP (g : Gr) (q least : Int) (xs : List Int) (node : Int) (w : World) (e : Ending) (w' : World) : Prop :=
  (raCode g q least xs node = 0 ∧ ∃ lv ev wv, e = .returned (.tuple #[.agg (palA lv ev wv 94 12), .agg (tenA (colF xs)), .int .i64 0]) ∧ NetR w' lv ev g.n.toNat (edgesOf g.e) ∧ Ints w' wv (List.replicate q.toNat 1) ∧ Below w.heap.size w w') ∨
  (raCode g q least xs node ≠ 0 ∧ e = .returned (.tuple #[.agg pal0, .agg (tenA fun _ => 0), .int .i64 (raCode g q least xs node)]) ∧ Below w.heap.size w w')

theorem below10 {B b : Nat} {w w' : World} (h : Below B w w') (hb : B ≤ b) (x0 x1 x2 x3 x4 x5 x6 x7 x8 x9 : Value) : Below B w ((((((((((w'.setCell ⟨b, 0, none⟩ x0).setCell ⟨b, 1, none⟩ x1).setCell ⟨b, 2, none⟩ x2).setCell ⟨b, 3, none⟩ x3).setCell ⟨b, 4, none⟩ x4).setCell ⟨b, 5, none⟩ x5).setCell ⟨b, 6, none⟩ x6).setCell ⟨b, 7, none⟩ x7).setCell ⟨b, 8, none⟩ x8).setCell ⟨b, 9, none⟩ x9) :=
  (((((below5 h hb x0 x1 x2 x3 x4).setCell (p := ⟨b, 5, none⟩) hb x5).setCell (p := ⟨b, 6, none⟩) hb x6).setCell (p := ⟨b, 7, none⟩) hb x7).setCell (p := ⟨b, 8, none⟩) hb x8).setCell (p := ⟨b, 9, none⟩) hb x9
theorem same10 {lo hi b : Nat} {w w' : World} (h : SameOn lo hi w w') (hb : b < lo ∨ hi ≤ b) (x0 x1 x2 x3 x4 x5 x6 x7 x8 x9 : Value) : SameOn lo hi w ((((((((((w'.setCell ⟨b, 0, none⟩ x0).setCell ⟨b, 1, none⟩ x1).setCell ⟨b, 2, none⟩ x2).setCell ⟨b, 3, none⟩ x3).setCell ⟨b, 4, none⟩ x4).setCell ⟨b, 5, none⟩ x5).setCell ⟨b, 6, none⟩ x6).setCell ⟨b, 7, none⟩ x7).setCell ⟨b, 8, none⟩ x8).setCell ⟨b, 9, none⟩ x9) :=
  (((((same5 h hb x0 x1 x2 x3 x4).set (a := ⟨b, 5, none⟩) hb x5).set (a := ⟨b, 6, none⟩) hb x6).set (a := ⟨b, 7, none⟩) hb x7).set (a := ⟨b, 8, none⟩) hb x8).set (a := ⟨b, 9, none⟩) hb x9
theorem Blk.tens {w : World} {b : Nat} {f : Nat → Int} {t : TypeId} (h : Blk w b (tenA f) t) :
    (w.cell? ⟨b, 0, none⟩ = some (.int .i64 (f 0)) ∧ w.cell? ⟨b, 1, none⟩ = some (.int .i64 (f 1)) ∧ w.cell? ⟨b, 2, none⟩ = some (.int .i64 (f 2)) ∧ w.cell? ⟨b, 3, none⟩ = some (.int .i64 (f 3)) ∧ w.cell? ⟨b, 4, none⟩ = some (.int .i64 (f 4)) ∧ w.cell? ⟨b, 5, none⟩ = some (.int .i64 (f 5)) ∧ w.cell? ⟨b, 6, none⟩ = some (.int .i64 (f 6)) ∧ w.cell? ⟨b, 7, none⟩ = some (.int .i64 (f 7)) ∧ w.cell? ⟨b, 8, none⟩ = some (.int .i64 (f 8)) ∧ w.cell? ⟨b, 9, none⟩ = some (.int .i64 (f 9))) ∧
    (w.frozen? ⟨b, 0, none⟩ = false ∧ w.frozen? ⟨b, 1, none⟩ = false ∧ w.frozen? ⟨b, 2, none⟩ = false ∧ w.frozen? ⟨b, 3, none⟩ = false ∧ w.frozen? ⟨b, 4, none⟩ = false ∧ w.frozen? ⟨b, 5, none⟩ = false ∧ w.frozen? ⟨b, 6, none⟩ = false ∧ w.frozen? ⟨b, 7, none⟩ = false ∧ w.frozen? ⟨b, 8, none⟩ = false ∧ w.frozen? ⟨b, 9, none⟩ = false) :=
  ⟨⟨h.cell 0, h.cell 1, h.cell 2, h.cell 3, h.cell 4, h.cell 5, h.cell 6, h.cell 7, h.cell 8, h.cell 9⟩, h.frozen 0, h.frozen 1, h.frozen 2, h.frozen 3, h.frozen 4, h.frozen 5, h.frozen 6, h.frozen 7, h.frozen 8, h.frozen 9⟩

set_option maxRecDepth 100000 in
set_option maxHeartbeats 8000000 in
theorem readColoursAt_any (gv v : Value) (g : Gr) (q least : Int) (xs : List Int) (node : Int) (w : World) (hg : GrR w gv g) (hv : Ints w v xs) :
    Calls Try.prog 53 #[gv, .int .i64 q, .int .i64 least, v, .int .i64 node] w (RdaP g q least xs node w) := by
  obtain ⟨ga, gc, rfl⟩ := hg.shape
  obtain ⟨hm, va, vc, rfl⟩ := hv.len
  have HG := ((Blk.new w #[.int .i64 g.n, .slice ga g.e.length gc] 27).alloc (.cells pal0 68)).alloc (.cells (tenA fun _ => 0) 74)
  have HP := (Blk.new (w.alloc (.cells #[.int .i64 g.n, .slice ga g.e.length gc] 27)) pal0 68).alloc (.cells (tenA fun _ => 0) 74)
  have HT := Blk.new ((w.alloc (.cells #[.int .i64 g.n, .slice ga g.e.length gc] 27)).alloc (.cells pal0 68)) (tenA fun _ => 0) 74
  have B0 := below4 w (.cells #[.int .i64 g.n, .slice ga g.e.length gc] 27) (.cells pal0 68) (.cells (tenA fun _ => 0) 74) (.cells #[.slice va xs.length vc] 32)
  have HL := Blk.new (((w.alloc (.cells #[.int .i64 g.n, .slice ga g.e.length gc] 27)).alloc (.cells pal0 68)).alloc (.cells (tenA fun _ => 0) 74)) #[.slice va xs.length vc] 32
  have HP1 := HP.alloc (.cells #[.slice va xs.length vc] 32)
  have HT1 := HT.alloc (.cells #[.slice va xs.length vc] 32)
  simp only [World.size_alloc] at HP HT HL HP1 HT1
  have hcall := readColours_any _ _ g q least [xs] _ (hg.keep B0) (rows_one HL (hv.keep B0)) (by simp)
  obtain ⟨g0, g1⟩ := HG.two
  have hcall' := Lib.hid hcall
  clear hcall HL HG HP HT
  go_enter Try.func53, Try.ntmps53
  go_wp2_with fail
  (with_reducible refine hcall'.out.mono ?_)
  rintro e w1 (⟨hc, lv, ev, wv, pb, rfl, hnw, hP, hpb, b1⟩ | ⟨hc, rfl, b1⟩)
  · obtain ⟨hnet, hw⟩ := hnw w1 (SameOn.refl _ _ _)
    have hr := Lib.hid (show raCode g q least xs node = if inB node 0 (g.n - 1) then 0 else 2 by simp [raCode, hc])
    obtain ⟨hok, -, -⟩ := rcCode_zero hc
    have hn := grOk_nodes hok
    have b2 := below1 w1 (.cells (palA lv ev wv 94 12) 68)
    have H2 := Blk.new w1 (palA lv ev wv 94 12) 68
    have hP2 := hP.step b2
    have b2' := Lib.hid b2
    have hnode := isNode_any lv (nbL g.n.toNat (edgesOf g.e)) node _ (hnet.1.keep b2) (by rw [nbL_length]; omega)
    rw [nbL_length, Int.toNat_of_nonneg (by omega)] at hnode
    have HP2 := (HP1.step b1).step b2
    have HT2 := (HT1.step b1).step b2
    obtain ⟨_, xa, xc, rfl⟩ := hnet.1.len
    obtain ⟨_, ya, yc, rfl⟩ := hnet.2.len
    obtain ⟨_, za, zc, hza⟩ := hw.len
    rw [List.length_replicate] at hza
    subst hza
    obtain ⟨⟨y0, y1, y2, y3, y4⟩, -⟩ := H2.five
    have B1 := Lib.hid (B0.trans ((below_wt b1 b2).mono B0.size))
    have hs1 := b1.size
    simp only [World.size_alloc] at hs1 hpb hnw
    have hpbl := Lib.hid hpb
    have hnw' := Lib.hid hnw
    simp only [palA] at b2' hnode HP2 HT2 hnw' B1 y0 y1 y2 y3 y4 H2 hP2
    clear hc b1 HP1 HT1 b2 hcall' hnet hw hok hP hnw
    go_wp2_with fail
    (with_reducible refine hnode.mono ?_)
    rintro e w2 ⟨rfl, b3⟩
    rcases hin : inB node 0 (g.n - 1) with _ | _
    · have hr2 := Lib.hid (show raCode g q least xs node = 2 by rw [hr.out, hin]; rfl)
      obtain ⟨⟨z0, z1, z2, z3, z4⟩, f0, f1, f2, f3, f4⟩ := (HP2.step b3).five
      obtain ⟨⟨t0, t1, t2, t3, t4, t5, t6, t7, t8, t9⟩, s0, s1, s2, s3, s4, s5, s6, s7, s8, s9⟩ := (HT2.step b3).tens
      have B2 := Lib.hid (B1.out.trans (b3.mono B1.out.size))
      clear hin b3 HP2 HT2 H2 hP2 y0 y1 y2 y3 y4
      go_wp2
      refine bodyPost_ret (v := .tuple #[.agg pal0, .agg (tenA fun _ => 0), .int .i64 2]) (by simp [results, Try.results53, go_sem, z0, z1, z2, z3, z4, t0, t1, t2, t3, t4, t5, t6, t7, t8, t9]) rfl ?_
      exact Or.inr ⟨by rw [hr2.out]; decide, by rw [hr2.out], below10 (below5 B2.out (Nat.le_succ _) _ _ _ _ _) (by omega) _ _ _ _ _ _ _ _ _ _⟩
    · have hr2 := Lib.hid (show raCode g q least xs node = 0 by rw [hr.out, hin]; rfl)
      obtain ⟨⟨z0, z1, z2, z3, z4⟩, f0, f1, f2, f3, f4⟩ := (HP2.step b3).five
      obtain ⟨⟨t0, t1, t2, t3, t4, t5, t6, t7, t8, t9⟩, s0, s1, s2, s3, s4, s5, s6, s7, s8, s9⟩ := (HT2.step b3).tens
      have B2 := Lib.hid (B1.out.trans (b3.mono B1.out.size))
      have H3 := H2.step b3
      obtain ⟨⟨v0, v1, v2, v3, v4⟩, -⟩ := H3.five
      have hP3 := hP2.step b3
      have p0 := pnt_first hP3 (by simp) 0 (by omega)
      have p1 := pnt_first hP3 (by simp) 1 (by omega)
      have p2 := pnt_first hP3 (by simp) 2 (by omega)
      have p3 := pnt_first hP3 (by simp) 3 (by omega)
      have p4 := pnt_first hP3 (by simp) 4 (by omega)
      have p5 := pnt_first hP3 (by simp) 5 (by omega)
      have p6 := pnt_first hP3 (by simp) 6 (by omega)
      have p7 := pnt_first hP3 (by simp) 7 (by omega)
      have p8 := pnt_first hP3 (by simp) 8 (by omega)
      have p9 := pnt_first hP3 (by simp) 9 (by omega)
      simp only [List.length_singleton, pntF_one] at p0 p1 p2 p3 p4 p5 p6 p7 p8 p9
      have S3 := Lib.hid (show SameOn w1.heap.size w1.heap.size w1 w2 from fun k h1 h2 => by omega)
      have S4 := Lib.hid (show ∀ lo, SameOn lo w1.heap.size w1 w2 from fun lo => SameOn.of (B := w1.heap.size) (below_wt b2'.out b3) (Nat.le_refl _))
      have h34 := B2.out.size
      obtain ⟨bx, hbx⟩ : ∃ b, w1.heap.size = b := ⟨_, rfl⟩
      have hpl := hP3.lt
      rw [hbx] at H3 v0 v1 v2 v3 v4 hs1 ⊢
      have n1 : bx ≠ w.heap.size + 1 := by omega
      have n2 : bx ≠ w.heap.size + 1 + 1 := by omega
      have n3 : pb ≠ w.heap.size + 1 := by have := hpbl.out; omega
      have n4 : pb ≠ w.heap.size + 1 + 1 := by have := hpbl.out; omega
      clear hin b3 HP2 HT2 H2 hP2 y0 y1 y2 y3 y4 H3 hP3 hbx
      go_wp2
      go_region_law (fail)
      all_goals
        go_wp2
        refine bodyPost_ret (v := .tuple #[.agg (palA (.slice xa (nbL g.n.toNat (edgesOf g.e)).length xc) (.slice ya (edgesOf g.e).length yc) (.slice za q.toNat zc) 94 12), .agg (tenA (colF xs)), .int .i64 0]) (by simp [results, Try.results53, go_sem, z0, z1, z2, z3, z4, t0, t1, t2, t3, t4, t5, t6, t7, t8, t9]) rfl ?_
        have hsame := hnw'.out _ (SameOn.drew ((S4.out (w.heap.size + 1 + 1 + 1 + 1)).trans (same10 (same5 (SameOn.refl (w.heap.size + 1 + 1 + 1 + 1) w1.heap.size w2) (b := w.heap.size + 1) (Or.inl (by omega)) (.slice xa (nbL g.n.toNat (edgesOf g.e)).length xc) (.slice ya (edgesOf g.e).length yc) (.slice za q.toNat zc) (.func (.func 94) #[] #[]) (.int .i64 12)) (b := w.heap.size + 1 + 1) (Or.inl (by omega)) (.int .i64 (colF xs 0)) (.int .i64 (colF xs 1)) (.int .i64 (colF xs 2)) (.int .i64 (colF xs 3)) (.int .i64 (colF xs 4)) (.int .i64 (colF xs 5)) (.int .i64 (colF xs 6)) (.int .i64 (colF xs 7)) (.int .i64 (colF xs 8)) (.int .i64 (colF xs 9)))))
        exact Or.inl ⟨hr2.out, _, _, _, rfl, hsame.1, hsame.2, (below10 (below5 B2.out (Nat.le_succ _) _ _ _ _ _) (by omega) _ _ _ _ _ _ _ _ _ _).drew⟩
  · have hr := Lib.hid (show raCode g q least xs node = rcCode g q least [xs] by simp [raCode, hc])
    have hr0 := Lib.hid hc
    generalize rcCode g q least [xs] = code at hc hr hr0
    have hne : (code != 0) = true := by simpa using hc
    have b2 := below1 w1 (.cells pal0 68)
    have HP2 := (HP1.step b1).step b2
    have HT2 := (HT1.step b1).step b2
    obtain ⟨⟨z0, z1, z2, z3, z4⟩, f0, f1, f2, f3, f4⟩ := HP2.five
    obtain ⟨⟨t0, t1, t2, t3, t4, t5, t6, t7, t8, t9⟩, s0, s1, s2, s3, s4, s5, s6, s7, s8, s9⟩ := HT2.tens
    have B1 := Lib.hid (B0.trans ((below_wt b1 b2).mono B0.size))
    clear hc b1 HP1 HT1 HP2 HT2 b2 hcall'
    go_wp2
    refine bodyPost_ret (v := .tuple #[.agg pal0, .agg (tenA fun _ => 0), .int .i64 code]) (by simp [results, Try.results53, go_sem, z0, z1, z2, z3, z4, t0, t1, t2, t3, t4, t5, t6, t7, t8, t9]) rfl ?_
    exact Or.inr ⟨by rw [hr.out]; exact hr0.out, by rw [hr.out], below10 (below5 B1.out (Nat.le_succ _) _ _ _ _ _) (by omega) _ _ _ _ _ _ _ _ _ _⟩
end Go.Proofs.Ytfbhdlkiffoflaa
