/- IsColouring of the project and of the specification. Conditions: none. -/
import Derived.Test.YtfbhdlkiffoflaaIcS
namespace Go.Proofs.Ytfbhdlkiffoflaa
open Go.RowKit Go.Deep
set_option linter.unusedVariables false

def icOf (g : Gr) (q : Int) (xs : List Int) : Bool × Int := if rcCode g q 0 [xs] = 0 then (proper sameI (colF xs) (edgesOf g.e), 0) else (false, rcCode g q 0 [xs])
theorem askCode_rc (g : Gr) (q hi : Int) (xs : List Int) (h : inB q 1 4 = true → hi = q - 1) : askCode g q (within xs g.n 0 hi) = rcCode g q 0 [xs] := by
  unfold askCode rcCode
  cases grOk g
  · rfl
  · cases hq : inB q 1 4
    · rfl
    · rw [h hq]; simp
theorem rcCode_zero {g : Gr} {q least : Int} {xs : List Int} (h : rcCode g q least [xs] = 0) : grOk g = true ∧ inB q 1 4 = true ∧ within xs g.n least (q - 1) = true := by
  unfold rcCode at h
  cases h1 : grOk g
  · simp [h1] at h
  · cases h2 : inB q 1 4
    · simp [h1, h2] at h
    · cases h3 : within xs g.n least (q - 1)
      · simp [h1, h2, h3] at h
      · exact ⟨rfl, rfl, rfl⟩

set_option maxHeartbeats 4000000 in
theorem IsColouring_spec (gv v : Value) (g : Gr) (q : Int) (xs : List Int) (w : World) (hg : GrR w gv g) (hv : Ints w v xs) (hqw : (Lit.int .i64 q).wf = true) :
    Calls Try.prog 18 #[gv, .int .i64 q, v] w fun e w' => e = .returned (.tuple #[.bool (icOf g q xs).1, .int .i64 (icOf g q xs).2]) ∧ Below w.heap.size w w' := by
  obtain ⟨gvv, rfl, hr⟩ := hg
  have hp := GrR.ptr (n := g.n) hr
  have B0 := below1 w (.cells #[.int .i64 g.n, gvv] 27)
  have hv1 := hv.keep B0
  obtain ⟨hi, hhi⟩ : ∃ hi, IntKind.i64.wrap (q - 1) = hi := ⟨_, rfl⟩
  have hL := fun W (hW : Below (w.alloc (.cells #[.int .i64 g.n, gvv] 27)).heap.size (w.alloc (.cells #[.int .i64 g.n, gvv] 27)) W) => l08List_any w.heap.size ⟨g.n, g.e⟩ v xs 0 hi W (hp.keep hW) (hv1.keep hW)
  have hA := fun right W (hW : Below (w.alloc (.cells #[.int .i64 g.n, gvv] 27)).heap.size (w.alloc (.cells #[.int .i64 g.n, gvv] 27)) W) => l08Asked_any w.heap.size ⟨g.n, g.e⟩ q right W (hp.keep hW)
  have hP := fun W (hW : Below (w.alloc (.cells #[.int .i64 g.n, gvv] 27)).heap.size (w.alloc (.cells #[.int .i64 g.n, gvv] 27)) W) => l08Proper_any w.heap.size ⟨g.n, g.e⟩ v xs W (hp.keep hW) (hv1.keep hW)
  obtain ⟨w1, hw1⟩ : ∃ u, w.alloc (.cells #[.int .i64 g.n, gvv] 27) = u := ⟨_, rfl⟩
  rw [hw1] at hL hA hP B0
  have hw1' := Lib.hid hw1
  have hcode := askCode_rc g q hi xs (fun h => by rw [← hhi]; have := inB_iff.1 h; exact wrapI (by omega))
  have hL' := Lib.hid (hL w1 (Below.refl _ _))
  have hA' := Lib.hid hA
  have hP' := Lib.hid hP
  clear hL hA hP hw1 hv hr hp hv1
  rcases hc0 : decide (rcCode g q 0 [xs] = 0) with _ | _
  · have hc : rcCode g q 0 [xs] ≠ 0 := by simpa using hc0
    have hr := Lib.hid (show icOf g q xs = (false, rcCode g q 0 [xs]) by simp [icOf, hc])
    generalize rcCode g q 0 [xs] = code at hc hcode hr
    have hne : (code != 0) = true := by simpa using hc
    have hcode' := Lib.hid hcode
    clear hcode hc0 hc
    go_enter Try.func18, Try.ntmps18
    go_upto_region 1 with (fail)
    rw [hw1'.out]
    go_wp2_with fail
    (with_reducible refine hL'.out.mono ?_)
    rintro e w2 ⟨rfl, m, rfl⟩
    go_wp2_with fail
    (with_reducible refine (hA'.out _ _ (below_drewN (Below.refl _ _) m)).mono ?_)
    rintro e w3 ⟨rfl, m2, rfl⟩
    simp only
    rw [hcode'.out]
    go_wp2
    go_ret2
    rw [hr.out]
    exact ⟨rfl, below_drewN B0 _⟩
  · have hc : rcCode g q 0 [xs] = 0 := by simpa using hc0
    obtain ⟨hok, -, hwi⟩ := rcCode_zero hc
    have hlen : (xs.length : Int) = g.n := by simp only [within, Bool.and_eq_true, decide_eq_true_eq] at hwi; exact hwi.1
    have hr := Lib.hid (show icOf g q xs = (proper sameI (colF xs) (edgesOf g.e), 0) by simp [icOf, hc])
    have hPP := Lib.hid (fun W hW => hP'.out W hW hok hlen)
    rw [hc] at hcode
    have hcode' := Lib.hid hcode
    clear hcode hc0 hc hok hwi hlen
    go_enter Try.func18, Try.ntmps18
    go_upto_region 1 with (fail)
    rw [hw1'.out]
    go_wp2_with fail
    (with_reducible refine hL'.out.mono ?_)
    rintro e w2 ⟨rfl, m, rfl⟩
    go_wp2_with fail
    (with_reducible refine (hA'.out _ _ (below_drewN (Below.refl _ _) m)).mono ?_)
    rintro e w3 ⟨rfl, m2, rfl⟩
    simp only
    rw [hcode'.out]
    go_wp2_with fail
    (with_reducible refine (hPP.out _ (below_drewN (Below.refl _ _) _)).mono ?_)
    rintro e w4 ⟨rfl, m3, rfl⟩
    go_wp2
    go_ret2
    rw [hr.out]
    exact ⟨rfl, below_drewN B0 _⟩

/-! ### the project -/
theorem rows_one {w : World} {b : Nat} {v : Value} {t : TypeId} {xs : List Int} (h : Blk w b #[v] t) (hv : Ints w v xs) : Rows2 w (.slice (some ⟨b, 0, none⟩) 1 1) [xs] := by
  refine ⟨[v], ⟨by simp [maxLen], some ⟨b, 0, none⟩, 1, rfl, by simp [maxLen], fun i hi => ⟨b, 0, rfl, ?_⟩⟩, rfl, fun i hi => ?_⟩
  · obtain rfl : i = 0 := by simpa using hi
    exact h.cell 0
  · obtain rfl : i = 0 := by simpa using hi
    exact hv
theorem pntF_one (xs : List Int) (j : Nat) : pntF [xs] 1 0 j = colF xs j := by simp [pntF, colF]
/-- the first painting of a list -/
theorem pnt_first {w : World} {pb m : Nat} {t : TypeId} {F : Nat → Nat → Int} (h : Blk w pb (pntA m F) t) (hm : 0 < m) (j : Nat) (hj : j < 10) : w.cell? ⟨pb, j, none⟩ = some (.int .i64 (F 0 j)) := by
  have := pntA_get m F 0 j hm hj
  rw [Nat.zero_mul, Nat.zero_add] at this
  exact (h.cell j).trans this
theorem sameI_clash : Clash 94 sameI := clash_same

set_option maxRecDepth 100000 in
set_option maxHeartbeats 4000000 in
theorem IsColouring_impl (gv v : Value) (g : Gr) (q : Int) (xs : List Int) (w : World) (hg : GrR w gv g) (hv : Ints w v xs) :
    Calls Try.prog 20 #[gv, .int .i64 q, v] w fun e w' => e = .returned (.tuple #[.bool (icOf g q xs).1, .int .i64 (icOf g q xs).2]) ∧ Below w.heap.size w w' := by
  obtain ⟨ga, gc, rfl⟩ := hg.shape
  obtain ⟨hm, va, vc, rfl⟩ := hv.len
  have B0 := below2 w (.cells #[.int .i64 g.n, .slice ga g.e.length gc] 27) (.cells #[.slice va xs.length vc] 32)
  have HG := (Blk.new w #[.int .i64 g.n, .slice ga g.e.length gc] 27)
  have HL := Blk.new (w.alloc (.cells #[.int .i64 g.n, .slice ga g.e.length gc] 27)) #[.slice va xs.length vc] 32
  have hcall := readColours_any _ _ g q 0 [xs] _ (hg.keep B0) (rows_one HL (hv.keep B0)) (by simp)
  simp only [World.size_alloc] at hcall
  obtain ⟨g0, g1⟩ := HG.two
  have hcall' := Lib.hid hcall
  clear hcall HL
  go_enter Try.func20, Try.ntmps20
  go_wp2_with fail
  (with_reducible refine hcall'.out.mono ?_)
  rintro e w1 (⟨hc, lv, ev, wv, pb, rfl, hnw, hP, hpb, b1⟩ | ⟨hc, rfl, b1⟩)
  · obtain ⟨hnet, hw⟩ := hnw w1 (SameOn.refl _ _ _)
    have hr := Lib.hid (show icOf g q xs = (proper sameI (colF xs) (edgesOf g.e), 0) by simp [icOf, hc])
    obtain ⟨hok, -, -⟩ := rcCode_zero hc
    have hn := grOk_nodes hok
    have hpr := Lib.hid (grOk_prOk hok)
    have b2 := below1 w1 (.cells (palA lv ev wv 94 12) 68)
    have H2 := Blk.new w1 (palA lv ev wv 94 12) 68
    obtain ⟨⟨z0, z1, z2, z3, z4⟩, -⟩ := H2.five
    have hP2 := hP.step b2
    have p0 := pnt_first hP2 (by simp) 0 (by omega)
    have p1 := pnt_first hP2 (by simp) 1 (by omega)
    have p2 := pnt_first hP2 (by simp) 2 (by omega)
    have p3 := pnt_first hP2 (by simp) 3 (by omega)
    have p4 := pnt_first hP2 (by simp) 4 (by omega)
    have p5 := pnt_first hP2 (by simp) 5 (by omega)
    have p6 := pnt_first hP2 (by simp) 6 (by omega)
    have p7 := pnt_first hP2 (by simp) 7 (by omega)
    have p8 := pnt_first hP2 (by simp) 8 (by omega)
    have p9 := pnt_first hP2 (by simp) 9 (by omega)
    simp only [List.length_singleton, pntF_one] at p0 p1 p2 p3 p4 p5 p6 p7 p8 p9
    have hip := fun W (hW : Below (w1.alloc (.cells (palA lv ev wv 94 12) 68)).heap.size (w1.alloc (.cells (palA lv ev wv 94 12) 68)) W) =>
      isProper_any 94 sameI sameI_clash lv ev wv 12 (colF xs) g.n.toNat (edgesOf g.e) W ((hnet.2.keep b2).keep hW) hpr.out (by omega)
    obtain ⟨_, xa, xc, rfl⟩ := hnet.1.len
    obtain ⟨_, ya, yc, rfl⟩ := hnet.2.len
    obtain ⟨_, za, zc, hza⟩ := hw.len
    rw [List.length_replicate] at hza
    subst hza
    have B1 := Lib.hid (B0.trans ((below_wt b1 b2).mono B0.size))
    generalize proper sameI (colF xs) (edgesOf g.e) = r at hip hr
    simp only [palA] at hip z0 z1 z2 z3 z4 p0 p1 p2 p3 p4 p5 p6 p7 p8 p9 B1
    go_wp2
    obtain ⟨w2, hw2⟩ : ∃ u, w1.alloc (.cells #[.slice xa (nbL g.n.toNat (edgesOf g.e)).length xc, .slice ya (edgesOf g.e).length yc, .slice za q.toNat zc, .func (.func 94) #[] #[], .int .i64 12] 68) = u := ⟨_, rfl⟩
    have hip2 := Lib.hid (show ∀ p : Later w2, _ from fun p => hip p.wd (by rw [hw2]; exact p.bel))
    obtain ⟨bp, hbp⟩ : ∃ b, w1.heap.size = b := ⟨_, rfl⟩
    rw [hbp] at z0 z1 z2 z3 z4 ⊢
    rw [hw2] at z0 z1 z2 z3 z4 p0 p1 p2 p3 p4 p5 p6 p7 p8 p9 B1 ⊢
    clear hip hw2 hbp
    replace z0 := Later.cell z0
    replace z1 := Later.cell z1
    replace z2 := Later.cell z2
    replace z3 := Later.cell z3
    replace z4 := Later.cell z4
    replace p0 := Later.cell p0
    replace p1 := Later.cell p1
    replace p2 := Later.cell p2
    replace p3 := Later.cell p3
    replace p4 := Later.cell p4
    replace p5 := Later.cell p5
    replace p6 := Later.cell p6
    replace p7 := Later.cell p7
    replace p8 := Later.cell p8
    replace p9 := Later.cell p9
    refine region_later (by kernel_rfl) (by kernel_rfl) ?_
    repeat (go_big_quiet_step ((go_at_call 50; exact later_of (hip2.out _))))
    refine wpQuiet_nil ?_
    intro _ hw'
    obtain ⟨⟨W3, B3⟩, hw''⟩ := hw'
    subst hw''
    go_wp2
    go_ret2
    rw [hr.out]
    exact ⟨rfl, B1.out.trans (B3.mono B1.out.size)⟩
  · have hr := Lib.hid (show icOf g q xs = (false, rcCode g q 0 [xs]) by simp [icOf, hc])
    generalize rcCode g q 0 [xs] = code at hc hr
    have hne : (code != 0) = true := by simpa using hc
    have B1 := Lib.hid (B0.trans (b1.mono B0.size))
    clear hc b1
    go_wp2
    go_ret2
    rw [hr.out]
    exact ⟨rfl, B1.out.trans ((below1 _ _).mono B1.out.size)⟩
end Go.Proofs.Ytfbhdlkiffoflaa
