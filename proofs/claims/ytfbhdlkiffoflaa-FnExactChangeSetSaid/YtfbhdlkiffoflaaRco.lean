/- Recolour of the project and of the specification. Conditions: none. -/
import Derived.Test.YtfbhdlkiffoflaaOwnI
namespace Go.Proofs.Ytfbhdlkiffoflaa
open Go.RowKit Go.Deep
set_option linter.unusedVariables false

def frOf (g : Gr) (q : Int) (xs : List Int) (node : Int) : List Int := freeL (colF xs) (edgesOf g.e) xs.length node q.toNat
def rcoOf (g : Gr) (q : Int) (xs : List Int) (node draw : Int) : List Int × Int :=
  if raCode g q 0 xs node = 0 then
    if proper sameI (colF xs) (edgesOf g.e) then
      if inB draw 0 (((frOf g q xs node).length : Int) - 1) then (xs.set node.toNat ((frOf g q xs node).getD draw.toNat 0), 0) else ([], 2)
    else ([], 4)
  else ([], raCode g q 0 xs node)

/-- a painting with another colour at one place -/
def updF (f : Nat → Int) (i : Nat) (x : Int) (j : Nat) : Int := if j = i then x else f j
theorem tenA_upd (f : Nat → Int) (i : Nat) (x : Int) (hi : i < 10) : (tenA f).setIfInBounds i (.int .i64 x) = tenA (updF f i x) := by
  match i, hi with
  | 0, _ => rfl
  | 1, _ => rfl
  | 2, _ => rfl
  | 3, _ => rfl
  | 4, _ => rfl
  | 5, _ => rfl
  | 6, _ => rfl
  | 7, _ => rfl
  | 8, _ => rfl
  | 9, _ => rfl
  | n + 10, h => omega
theorem upd_list (xs : List Int) (i : Nat) (x : Int) (hi : i < xs.length) : (List.range xs.length).map (updF (colF xs) i x) = xs.set i x := by
  apply List.ext_getElem
  · simp
  · intro j h1 h2
    have hj : j < xs.length := by simpa using h1
    rw [List.getElem_map, List.getElem_range, List.getElem_set]
    unfold updF colF
    by_cases h : j = i
    · simp [h]
    · rw [if_neg h, if_neg (Ne.symm h)]; simp [List.getD, hj]

set_option maxRecDepth 100000 in
set_option maxHeartbeats 8000000 in
theorem Recolour_impl (gv v : Value) (g : Gr) (q : Int) (xs : List Int) (node draw : Int) (w : World) (hg : GrR w gv g) (hv : Ints w v xs) :
    Calls Try.prog 28 #[gv, .int .i64 q, v, .int .i64 node, .int .i64 draw] w fun e w' => ∃ r, e = .returned (.tuple #[r, .int .i64 (rcoOf g q xs node draw).2]) ∧ IntsMine 2 w' w.heap.size w'.heap.size r (rcoOf g q xs node draw).1 ∧ Below w.heap.size w w' := by
  obtain ⟨ga, gc, rfl⟩ := hg.shape
  obtain ⟨hm, va, vc, rfl⟩ := hv.len
  have B0 := below1 w (.cells #[.int .i64 g.n, .slice ga g.e.length gc] 27)
  have HG := (Blk.new w #[.int .i64 g.n, .slice ga g.e.length gc] 27)
  have hcall := readColoursAt_any _ _ g q 0 xs node _ (hg.keep B0) (hv.keep B0)
  obtain ⟨g0, g1⟩ := HG.two
  have hcall' := Lib.hid hcall
  clear hcall HG
  go_enter Try.func28, Try.ntmps28
  go_wp2_with fail
  (with_reducible refine hcall'.out.mono ?_)
  rintro e w1 (⟨hc, lv, ev, wv, rfl, hnet, hw, b1⟩ | ⟨hc, rfl, b1⟩)
  · obtain ⟨hok, hq, hwi, hnd⟩ := raCode_zero hc
    have hn := grOk_nodes hok
    have hlen : (xs.length : Int) = g.n := by simp only [within, Bool.and_eq_true, decide_eq_true_eq] at hwi; exact hwi.1
    obtain ⟨nd0, nd1⟩ := inB_iff.1 hnd
    obtain ⟨q1, q4⟩ := inB_iff.1 hq
    obtain ⟨nd, rfl⟩ : ∃ k : Nat, node = k := ⟨node.toNat, by omega⟩
    have hpr := grOk_prOk hok
    have b2 := below2 w1 (.cells (palA lv ev wv 94 12) 68) (.cells (tenA (colF xs)) 74)
    have HA := (Blk.new w1 (palA lv ev wv 94 12) 68).alloc (.cells (tenA (colF xs)) 74)
    have HB := Blk.new (w1.alloc (.cells (palA lv ev wv 94 12) 68)) (tenA (colF xs)) 74
    simp only [World.size_alloc] at HB
    obtain ⟨w2, hw2⟩ : ∃ u, (w1.alloc (.cells (palA lv ev wv 94 12) 68)).alloc (.cells (tenA (colF xs)) 74) = u := ⟨_, rfl⟩
    rw [hw2] at b2 HA HB
    have hnet2 := hnet.keep b2
    have hwv2 := hw.keep b2
    have hxn : xs.length = g.n.toNat := by omega
    have hpro := Lib.hid (fun W (hW : Below w2.heap.size w2 W) => isProper_any 94 sameI sameI_clash lv ev wv 12 (colF xs) g.n.toNat (edgesOf g.e) W (hnet2.2.keep hW) hpr (by omega))
    have hfree := fun W (hW : Below w2.heap.size w2 W) => free_any 94 sameI sameI_clash lv ev wv 12 (colF xs) (nbL g.n.toNat (edgesOf g.e)) (List.replicate q.toNat 1) nd W (hnet2.1.keep hW) (hwv2.keep hW) (by rw [nbL_length]; omega) (by rw [List.length_replicate]; omega) _ (nbL_getD _ _ _ (by omega))
      (fun u hu => by obtain ⟨k, h1, h2⟩ := nbOf_nat hpr hu; exact ⟨k, h1, by omega⟩)
    have hfp : freeP sameI (colF xs) (nbOf nd (edgesOf g.e)) (List.replicate q.toNat (1 : Int)).length = frOf g q xs nd := by
      rw [List.length_replicate, freeP_L (colF xs) xs.length (edgesOf g.e) (by rw [hxn]; exact hpr) nd q.toNat]; rfl
    rw [hfp] at hfree
    have b2k := Lib.hid b2
    have hcol := Lib.hid (fun f W (hW : Below w1.heap.size w1 W) => colours_any 94 lv ev wv 12 f (nbL g.n.toNat (edgesOf g.e)) W (hnet.1.keep hW) (by rw [nbL_length]; omega) (by rw [nbL_length]; omega))
    have hfl : (frOf g q xs nd).length ≤ 4 := by have := freeL_len (colF xs) (edgesOf g.e) xs.length nd q.toNat; unfold frOf; omega
    have hr0 := Lib.hid (show rcoOf g q xs nd draw = if proper sameI (colF xs) (edgesOf g.e) then if inB draw 0 (((frOf g q xs nd).length : Int) - 1) then (xs.set nd ((frOf g q xs nd).getD draw.toNat 0), 0) else ([], 2) else ([], 4) by simp [rcoOf, hc])
    have hnbl := Lib.hid (nbL_length g.n.toNat (edgesOf g.e))
    obtain ⟨_, xa, xc, rfl⟩ := hnet.1.len
    obtain ⟨_, ya, yc, rfl⟩ := hnet.2.len
    obtain ⟨_, za, zc, hza⟩ := hw.len
    rw [List.length_replicate] at hza
    subst hza
    have B1 := Lib.hid (B0.trans ((below_wt b1 b2).mono B0.size))
    have hfree' := Lib.hid hfree
    have hw2' := Lib.hid hw2
    have HA' := Lib.hid HA
    have HB' := Lib.hid HB
    generalize frOf g q xs nd = out at hfree' hr0 hfl
    have hlt10 : nd < 10 := by omega
    have hltx : nd < xs.length := by omega
    have hx5 : xs.length ≤ 5 := by omega
    have hxn' := Lib.hid hxn
    have hbs := b2.size
    have hwb : w.heap.size ≤ w1.heap.size := (B0.trans (b1.mono B0.size)).size
    obtain ⟨bx, hbx⟩ : ∃ b, w1.heap.size = b := ⟨_, rfl⟩
    rw [hbx] at HA' HB' hbs hwb
    have hbx' := Lib.hid hbx
    obtain ⟨⟨z0, z1, z2, z3, z4⟩, -⟩ := HA'.out.five
    obtain ⟨⟨t0, t1, t2, t3, t4, t5, t6, t7, t8, t9⟩, -⟩ := HB'.out.tens
    have hp0 := hpro.out w2 (Below.refl _ _)
    clear hc b1 b2 HA HB hnet hw hok hwi hpr hfp hfree hcall' hq hnd hnet2 hwv2 hw2 hxn hbx hlen hn
    go_upto_region 2 with (fail)
    first | rw [hw2'.out, hbx'.out] | (simp only [palA, tenA] at hw2'; rw [hw2'.out, hbx'.out])
    rcases hpp : proper sameI (colF xs) (edgesOf g.e) with _ | _
    · rw [hpp] at hp0
      have hr := Lib.hid (show rcoOf g q xs nd draw = ([], 4) by rw [hr0.out, hpp]; rfl)
      clear hpp hr0
      go_wp2_with fail
      (with_reducible refine hp0.mono ?_)
      rintro e w3 ⟨rfl, b3⟩
      have B2 := Lib.hid (B1.out.trans (b3.mono B1.out.size))
      clear b3
      go_wp2
      go_ret2
      rw [hr.out]
      exact ⟨_, rfl, nil_mine _ _ _ (Nat.le_refl _), B2.out⟩
    · rw [hpp] at hp0
      have hr1 := Lib.hid (show rcoOf g q xs nd draw = if inB draw 0 ((out.length : Int) - 1) then (xs.set nd (out.getD draw.toNat 0), 0) else ([], 2) by rw [hr0.out, hpp]; rfl)
      clear hpp hr0
      go_wp2_with fail
      (with_reducible refine hp0.mono ?_)
      rintro e w3 ⟨rfl, b3⟩
      have b3' := Lib.hid b3
      have hf3 := hfree'.out w3 b3
      obtain ⟨⟨z0, z1, z2, z3, z4⟩, -⟩ := (HA'.out.step b3).five
      obtain ⟨⟨t0, t1, t2, t3, t4, t5, t6, t7, t8, t9⟩, -⟩ := (HB'.out.step b3).tens
      clear b3
      go_wp2_with fail
      (with_reducible refine hf3.mono ?_)
      rintro e w4 ⟨rv, rfl, hown, b4⟩
      have hrow := (Own.of hown (Nat.le_refl _)).row
      have hI : Ints w4 rv out := hrow
      obtain ⟨_, ra, rc, rfl⟩ := hI.len
      have b34 := below_wt b3'.out b4
      obtain ⟨⟨z0, z1, z2, z3, z4⟩, -⟩ := (HA'.out.step b34).five
      have HB4 := HB'.out.step b34
      obtain ⟨⟨t0, t1, t2, t3, t4, t5, t6, t7, t8, t9⟩, -⟩ := HB4.tens
      have hcI := Lib.hid (fun W => isIn_any draw 0 ((out.length : Int) - 1) W)
      have B4 := Lib.hid (B1.out.trans (b34.mono B1.out.size))
      have b34' := Lib.hid b34
      have hown' := Lib.hid hown
      have hI' := Lib.hid hI
      clear hrow b4 b34 hown hI
      rcases hin : inB draw 0 ((out.length : Int) - 1) with _ | _
      · rw [hin] at hcI
        have hr := Lib.hid (show rcoOf g q xs nd draw = ([], 2) by rw [hr1.out, hin]; rfl)
        clear hin HB4
        go_wp2_with fail
        (with_reducible refine (hcI.out _).mono ?_)
        rintro e w5 ⟨rfl, rfl⟩
        go_wp2
        go_ret2
        rw [hr.out]
        exact ⟨_, rfl, nil_mine _ _ _ (Nat.le_refl _), B4.out⟩
      · rw [hin] at hcI
        obtain ⟨d0, d1⟩ := inB_iff.1 hin
        obtain ⟨dd, rfl⟩ : ∃ k : Nat, draw = k := ⟨draw.toNat, by omega⟩
        have hr := Lib.hid (show rcoOf g q xs nd dd = (xs.set nd (out.getD dd 0), 0) by rw [hr1.out, hin]; simp)
        obtain ⟨rb, ro, rcc, hvr, hrb, hrc⟩ := hI'.out.at (by omega)
        simp only [Value.slice.injEq] at hvr
        obtain ⟨rfl, -, rfl⟩ := hvr
        have hx := hrc dd (by omega)
        generalize out.getD dd 0 = x at hx hr
        have dI : (dd : Int) < (out.length : Int) := by omega
        have nI : (nd : Int) < 10 := by omega
        have tn := HB4.ten nd hlt10
        have fn := HB4.frozen nd
        have HB5 := Lib.hid (HB4.set nd (.int .i64 x))
        clear hin HB4 hrc hr1
        go_wp2_with fail
        (with_reducible refine (hcI.out _).mono ?_)
        rintro e w5 ⟨rfl, rfl⟩
        go_upto_region 10 with (fail)
        have HB6 := HB5.out
        rw [tenA_upd _ _ _ hlt10] at HB6
        have HA6 := (HA'.out.step b34'.out).setOther (a := ⟨bx + 1, nd, none⟩) (by simp) (.int .i64 x)
        have B6 := Lib.hid (B4.out.setCell (p := ⟨bx + 1, nd, none⟩) (by simp only; omega) (.int .i64 x))
        have hc6 := hcol.out (updF (colF xs) nd x) _ ((below_wt b2k.out b34'.out).setCell (p := ⟨bx + 1, nd, none⟩) (by simp only; rw [hbx'.out]; omega) (.int .i64 x))
        obtain ⟨w6, hw6⟩ : ∃ u, w4.setCell ⟨bx + 1, nd, none⟩ (.int .i64 x) = u := ⟨_, rfl⟩
        rw [hw6] at HB6 HA6 B6 hc6 ⊢
        clear z0 z1 z2 z3 z4 t0 t1 t2 t3 t4 t5 t6 t7 t8 t9 hx tn fn hw6
        obtain ⟨⟨z0, z1, z2, z3, z4⟩, -⟩ := HA6.five
        obtain ⟨⟨t0, t1, t2, t3, t4, t5, t6, t7, t8, t9⟩, -⟩ := HB6.tens
        clear HA6 HB6
        go_wp2_with fail
        (with_reducible refine hc6.mono ?_)
        rintro e w7 ⟨rv, rfl, hown7, b7⟩
        rw [hnbl.out, ← hxn'.out, upd_list _ _ _ hltx] at hown7
        have hown7' := Lib.hid hown7
        have B7 := Lib.hid (B6.out.trans (b7.mono B6.out.size))
        have hs7 := B6.out.size
        clear hown7 b7
        go_wp2
        go_ret2
        rw [hr.out]
        refine ⟨_, rfl, ?_, B7.out⟩
        have h1 := ownsRow_lower hown7'.out hs7
        have h2 : xs.length = (xs.set nd x).length := by simp
        rw [h2] at h1
        exact (Own.of h1 (Nat.le_refl _)).minei
  · have hr := Lib.hid (show rcoOf g q xs node draw = ([], raCode g q 0 xs node) by simp [rcoOf, hc])
    generalize raCode g q 0 xs node = code at hc hr
    have hne : (code != 0) = true := by simpa using hc
    have b2 := below2 w1 (.cells pal0 68) (.cells (tenA fun _ => 0) 74)
    have B1 := Lib.hid (B0.trans ((below_wt b1 b2).mono B0.size))
    clear hc b1 b2 hcall'
    go_wp2
    go_ret2
    rw [hr.out]
    exact ⟨_, rfl, nil_mine _ _ _ (Nat.le_refl _), B1.out⟩
set_option maxRecDepth 100000 in
set_option maxHeartbeats 8000000 in
theorem Recolour_spec (gv v : Value) (g : Gr) (q : Int) (xs : List Int) (node draw : Int) (w : World) (hg : GrR w gv g) (hv : Ints w v xs) (hqw : (Lit.int .i64 q).wf = true) :
    Calls Try.prog 27 #[gv, .int .i64 q, v, .int .i64 node, .int .i64 draw] w fun e w' => ∃ r, e = .returned (.tuple #[r, .int .i64 (rcoOf g q xs node draw).2]) ∧ IntsMine 2 w' w.heap.size w'.heap.size r (rcoOf g q xs node draw).1 ∧ Below w.heap.size w w' := by
  obtain ⟨gvv, rfl, hr⟩ := hg
  have hp := GrR.ptr (n := g.n) hr
  have B0 := below1 w (.cells #[.int .i64 g.n, gvv] 27)
  have HG := Blk.new w #[.int .i64 g.n, gvv] 27
  have hv1 := hv.keep B0
  obtain ⟨hi, hhi⟩ : ∃ hi, IntKind.i64.wrap (q - 1) = hi := ⟨_, rfl⟩
  obtain ⟨nn, hnn⟩ : ∃ nn, IntKind.i64.wrap (g.n - 1) = nn := ⟨_, rfl⟩
  obtain ⟨w1, hw1⟩ : ∃ u, w.alloc (.cells #[.int .i64 g.n, gvv] 27) = u := ⟨_, rfl⟩
  rw [hw1] at hp B0 HG hv1
  have hw1' := Lib.hid hw1
  have hL := fun W (hW : Below w1.heap.size w1 W) => l08List_any w.heap.size ⟨g.n, g.e⟩ v xs 0 hi W (hp.keep hW) (hv1.keep hW)
  have hA := fun right W (hW : Below w1.heap.size w1 W) => l08Asked_any w.heap.size ⟨g.n, g.e⟩ q right W (hp.keep hW)
  have hF := fun Q h1 h2 h3 W (hW : Below w1.heap.size w1 W) => l08Free_any w.heap.size ⟨g.n, g.e⟩ Q v xs node W (hp.keep hW) (hv1.keep hW) h1 h2 h3
  have hI := Lib.hid (fun W => l00In_any node 0 nn W)
  have hP := fun h1 h2 W (hW : Below w1.heap.size w1 W) => l08Proper_any w.heap.size ⟨g.n, g.e⟩ v xs W (hp.keep hW) (hv1.keep hW) h1 h2
  have hO := fun h1 h2 W (hW : Below w1.heap.size w1 W) => l00Own_any v xs W (hv1.keep hW) h1 h2
  have hcode := askCode_ra g q hi nn node xs (fun h => by rw [← hhi]; have := inB_iff.1 h; exact wrapI (by omega)) (fun h => by rw [← hnn]; have := grOk_nodes h; exact wrapI (by omega))
  have hL' := Lib.hid (hL w1 (Below.refl _ _))
  have hA' := Lib.hid hA
  have hF' := Lib.hid hF
  have hP' := Lib.hid hP
  have hO' := Lib.hid hO
  have hG' := Lib.hid HG
  clear hL hA hF hP hO hw1 hv hr hp hv1 HG
  have key : ∀ code : Int, askCode g q (within xs g.n 0 hi && inB node 0 nn) = code →
      Calls Try.prog 27 #[.agg #[.int .i64 g.n, gvv], .int .i64 q, v, .int .i64 node, .int .i64 draw] w fun e w' => ∃ r, e = .returned (.tuple #[r, .int .i64 (rcoOf g q xs node draw).2]) ∧ IntsMine 2 w' w.heap.size w'.heap.size r (rcoOf g q xs node draw).1 ∧ Below w.heap.size w w' := by
    intro code hcd
    have hra : raCode g q 0 xs node = code := by rw [← hcode]; exact hcd
    have hcd' := Lib.hid hcd
    clear hcode hcd
    by_cases hc : code = 0
    · subst hc
      obtain ⟨hok, hq, hwi, hnd⟩ := raCode_zero hra
      obtain ⟨q1, q4⟩ := inB_iff.1 hq
      have hlen : (xs.length : Int) = g.n := by simp only [within, Bool.and_eq_true, decide_eq_true_eq] at hwi; exact hwi.1
      have hhi2 : hi = q - 1 := by rw [← hhi]; exact wrapI (by omega)
      have hnn2 : nn = g.n - 1 := by rw [← hnn]; have := grOk_nodes hok; exact wrapI (by omega)
      obtain ⟨nd0, nd1⟩ := inB_iff.1 hnd
      have hn := grOk_nodes hok
      obtain ⟨nd, rfl⟩ : ∃ k : Nat, node = k := ⟨node.toNat, by omega⟩
      have hltx : nd < xs.length := by omega
      have hx5 : xs.length ≤ 5 := by omega
      have hr0 := Lib.hid (show rcoOf g q xs nd draw = if proper sameI (colF xs) (edgesOf g.e) then if inB draw 0 (((frOf g q xs nd).length : Int) - 1) then (xs.set nd ((frOf g q xs nd).getD draw.toNat 0), 0) else ([], 2) else ([], 4) by simp [rcoOf, hra])
      have hPP := Lib.hid (fun W hW => hP'.out hok hlen W hW)
      have hOO := Lib.hid (fun W hW => hO'.out (by omega) (by omega) W hW)
      have hfl : (frOf g q xs nd).length ≤ 4 := by have := freeL_len (colF xs) (edgesOf g.e) xs.length nd q.toNat; unfold frOf; omega
      have hfo : freeL (colF xs) (edgesOf g.e) xs.length nd q.toNat = frOf g q xs nd := rfl
      have hw2 : within xs g.n 0 hi = true := by rw [hhi2]; exact hwi
      have hn2 : inB nd 0 nn = true := by rw [hnn2]; exact hnd
      rw [hw2] at hL'
      rw [hn2] at hI
      rw [hw2, hn2] at hcd'
      have hFF := Lib.hid (fun W hW => hF'.out q.toNat hok hlen (by omega) W hW)
      have hqn : ((q.toNat : Nat) : Int) = q := Int.toNat_of_nonneg (by omega)
      rw [hqn, hfo] at hFF
      generalize frOf g q xs nd = out at hFF hr0 hfl
      have g0 := hG'.out.cell 0
      simp at g0
      clear hra hok hq hwi hnd hlen hhi2 hnn2 hw2 hn2 hqn hfo hn
      go_enter Try.func27, Try.ntmps27
      go_upto_region 1 with (fail)
      rw [hw1'.out]
      go_wp2_with fail
      (with_reducible refine hL'.out.mono ?_)
      rintro e w2 ⟨rfl, m, rfl⟩
      go_wp2_with fail
      (with_reducible refine (hI.out _).mono ?_)
      rintro e w3 ⟨rfl, rfl⟩
      go_wp2_with fail
      (with_reducible refine (hA'.out _ _ (below_drewN (Below.refl _ _) m)).mono ?_)
      rintro e w4 ⟨rfl, m2, rfl⟩
      simp only
      first | rw [hcd'.out] | (simp only [Bool.and_self] at hcd'; rw [hcd'.out])
      rcases hpp : proper sameI (colF xs) (edgesOf g.e) with _ | _
      · have hPq := hPP.out _ (below_drewN (Below.refl _ w1) (m + m2))
        rw [hpp] at hPq
        have hr := Lib.hid (show rcoOf g q xs nd draw = ([], 4) by rw [hr0.out, hpp]; rfl)
        clear hpp hr0
        go_wp2_with fail
        (with_reducible refine hPq.mono ?_)
        rintro e w5 ⟨rfl, m3, rfl⟩
        have hb := below_drewN B0 (m + m2 + m3)
        go_wp2
        go_ret2
        rw [hr.out]
        exact ⟨_, rfl, empty_mine _ _ hb.size, hb.trans ((below1 _ _).mono hb.size)⟩
      · have hPq := hPP.out _ (below_drewN (Below.refl _ w1) (m + m2))
        rw [hpp] at hPq
        have hr1 := Lib.hid (show rcoOf g q xs nd draw = if inB draw 0 ((out.length : Int) - 1) then (xs.set nd (out.getD draw.toNat 0), 0) else ([], 2) by rw [hr0.out, hpp]; rfl)
        clear hpp hr0
        go_wp2_with fail
        (with_reducible refine hPq.mono ?_)
        rintro e w5 ⟨rfl, m3, rfl⟩
        go_wp2_with fail
        (with_reducible refine (hFF.out _ (below_drewN (Below.refl _ _) _)).mono ?_)
        rintro e w6 ⟨rv, rfl, hown, b6⟩
        have hI6 : Ints w6 rv out := (Own.of hown (Nat.le_refl _)).row
        obtain ⟨_, ra, rc, rfl⟩ := hI6.len
        have b16 : Below w1.heap.size w1 w6 := (below_drewN (Below.refl _ _) _ : Below w1.heap.size w1 _).trans b6
        have b16' := Lib.hid b16
        have B6 := Lib.hid (B0.trans (b16.mono B0.size))
        have hI6' := Lib.hid hI6
        have hcI := Lib.hid (fun W => l00In_any draw 0 ((out.length : Int) - 1) W)
        have hO6 := hOO.out w6 b16
        clear hown b6 b16 hI6
        rcases hin : inB draw 0 ((out.length : Int) - 1) with _ | _
        · rw [hin] at hcI
          have hr := Lib.hid (show rcoOf g q xs nd draw = ([], 2) by rw [hr1.out, hin]; rfl)
          clear hin hO6
          have hs6 := B6.out.size
          go_wp2_with fail
          (with_reducible refine (hcI.out _).mono ?_)
          rintro e w7 ⟨rfl, rfl⟩
          go_wp2
          go_ret2
          rw [hr.out]
          exact ⟨_, rfl, empty_mine _ _ hs6, B6.out.trans ((below1 _ _).mono hs6)⟩
        · rw [hin] at hcI
          obtain ⟨d0, d1⟩ := inB_iff.1 hin
          obtain ⟨dd, rfl⟩ : ∃ k : Nat, draw = k := ⟨draw.toNat, by omega⟩
          have hr := Lib.hid (show rcoOf g q xs nd dd = (xs.set nd (out.getD dd 0), 0) by rw [hr1.out, hin]; simp)
          obtain ⟨rb, ro, rcc, hvr, hrb, hrc⟩ := hI6'.out.at (by omega)
          simp only [Value.slice.injEq] at hvr
          obtain ⟨rfl, -, rfl⟩ := hvr
          have hx0 := hrc dd (by omega)
          generalize out.getD dd 0 = x at hx0 hr
          have dI : (dd : Int) < (out.length : Int) := by omega
          have hx0' := Lib.hid hx0
          clear hin hrc hr1 hx0
          go_wp2_with fail
          (with_reducible refine (hcI.out _).mono ?_)
          rintro e w7 ⟨rfl, rfl⟩
          go_wp2_with fail
          (with_reducible refine hO6.mono ?_)
          rintro e w8 ⟨ov, rfl, hown8, b8⟩
          have hx := (b8.cell (p := ⟨rb, ro + dd, none⟩) hrb).trans hx0'.out
          have hO8 : Own w8 w6.heap.size w8.heap.size 2 ov (ints xs) := by
            have h2 : xs.length = (ints xs).length := by simp [ints]
            rw [h2] at hown8
            exact Own.of hown8 (Nat.le_refl _)
          obtain ⟨og, oc, rfl, hog1, hog2, hog3, hoc, hof⟩ := hO8.at (by simp [ints]; omega)
          have hcn := hoc nd (by simpa [ints] using hltx)
          have hfn := hof nd
          have hO9 := Lib.hid (hO8.set nd (.int .i64 x))
          have B8 := Lib.hid (B6.out.trans (b8.mono B6.out.size))
          have hs6 := B6.out.size
          have hil : (ints xs).length = xs.length := by simp [ints]
          rw [ints_getD xs nd hltx] at hcn
          rw [hil]
          have nI : (nd : Int) < (xs.length : Int) := by omega
          have hil' := Lib.hid hil
          clear hown8 hO8 hoc hof b8 hil
          go_wp2
          go_ret2
          rw [hr.out]
          refine ⟨_, rfl, ⟨?_, Nat.le_refl _⟩, B8.out.setCell (p := ⟨og, nd, none⟩) (show w.heap.size ≤ og by omega) _⟩
          have h3 := hO9.out
          rw [ints_set, hil'.out] at h3
          have hs9 : (w8.setCell ⟨og, nd, none⟩ (.int .i64 x)).heap.size = w8.heap.size := by simp [World.setCell]
          exact h3.wide hs6 (by rw [hs9]; exact Nat.le_refl _)
    · have hr := Lib.hid (show rcoOf g q xs node draw = ([], code) by simp [rcoOf, hra, hc])
      have hne : (code != 0) = true := by simpa using hc
      have g0 := hG'.out.cell 0
      simp at g0
      clear hra hc
      rcases hw2 : within xs g.n 0 hi with _ | _
      · rw [hw2] at hL' hcd'
        clear hw2 hI
        go_enter Try.func27, Try.ntmps27
        go_upto_region 1 with (fail)
        rw [hw1'.out]
        go_wp2_with fail
        (with_reducible refine hL'.out.mono ?_)
        rintro e w2 ⟨rfl, m, rfl⟩
        go_wp2_with fail
        (with_reducible refine (hA'.out _ _ (below_drewN (Below.refl _ _) m)).mono ?_)
        rintro e w4 ⟨rfl, m2, rfl⟩
        simp only
        first | rw [hcd'.out] | (simp only [Bool.false_and] at hcd'; rw [hcd'.out])
        have hb := below_drewN B0 (m + m2)
        go_wp2
        go_ret2
        rw [hr.out]
        exact ⟨_, rfl, empty_mine _ _ hb.size, hb.trans ((below1 _ _).mono hb.size)⟩
      · rw [hw2] at hL' hcd'
        rcases hn2 : inB node 0 nn with _ | _
        all_goals
          rw [hn2] at hI hcd'
          clear hw2 hn2
          go_enter Try.func27, Try.ntmps27
          go_upto_region 1 with (fail)
          rw [hw1'.out]
          go_wp2_with fail
          (with_reducible refine hL'.out.mono ?_)
          rintro e w2 ⟨rfl, m, rfl⟩
          go_wp2_with fail
          (with_reducible refine (hI.out _).mono ?_)
          rintro e w3 ⟨rfl, rfl⟩
          go_wp2_with fail
          (with_reducible refine (hA'.out _ _ (below_drewN (Below.refl _ _) m)).mono ?_)
          rintro e w4 ⟨rfl, m2, rfl⟩
          simp only
          first | rw [hcd'.out] | (simp only [Bool.and_self, Bool.true_and] at hcd'; rw [hcd'.out])
          have hb := below_drewN B0 (m + m2)
          go_wp2
          go_ret2
          rw [hr.out]
          exact ⟨_, rfl, empty_mine _ _ hb.size, hb.trans ((below1 _ _).mono hb.size)⟩
  exact key _ rfl
end Go.Proofs.Ytfbhdlkiffoflaa
