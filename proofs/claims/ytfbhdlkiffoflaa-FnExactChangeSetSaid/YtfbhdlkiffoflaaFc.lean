/- FreeColours of the project and of the specification. Conditions: none. -/
import Derived.Test.YtfbhdlkiffoflaaRda
import Derived.Test.YtfbhdlkiffoflaaFrS
namespace Go.Proofs.Ytfbhdlkiffoflaa
open Go.RowKit Go.Deep
set_option linter.unusedVariables false

theorem ownsRow_lower {w : World} {lo lo' n size : Nat} {e : TypeId} {v : Value} {vs : List Value} (h : w.ownsRow lo e size v n vs) (hl : lo' ≤ lo) : w.ownsRow lo' e size v n vs := by
  refine ⟨h.1, ?_⟩
  rcases h.2 with h0 | ⟨g, cap, cur, hv, hg, r⟩
  · exact Or.inl h0
  · exact Or.inr ⟨g, cap, cur, hv, by omega, r⟩
theorem empty_mine (w : World) (lo : Nat) (h : lo ≤ w.heap.size) : IntsMine 2 (w.alloc (.cells #[] 2)) lo (w.alloc (.cells #[] 2)).heap.size (.slice (some ⟨w.heap.size, 0, none⟩) 0 0) [] := by
  have := World.ownsRow_made w (e := 2) (base := lo) (size := 1) #[] 0 h (Nat.zero_le _) (by simp)
  exact ⟨by simpa [ints] using Own.of this (Nat.le_refl _), Nat.le_refl _⟩
theorem nil_mine (w : World) (lo hi : Nat) (h : hi ≤ w.heap.size) : IntsMine 2 w lo hi (.slice none 0 0) [] :=
  ⟨⟨by simpa [ints] using World.ownsRow_nil w lo 2 1, by simp [ints], fun k hk => by simp [Value.ownBlock] at hk⟩, h⟩

/-! ### neighbours in lists and in edges -/
theorem mem_nbOf {v u : Int} {ps : List (Int × Int)} : u ∈ nbOf v ps ↔ ∃ p ∈ ps, (p.1 = v ∧ u = p.2) ∨ (p.2 = v ∧ u = p.1) := by
  unfold nbOf
  rw [List.mem_flatMap]
  constructor
  · rintro ⟨p, hp, h⟩
    refine ⟨p, hp, ?_⟩
    rw [List.mem_append] at h
    rcases h with h | h
    · split at h
      · rename_i e; simp at h; exact Or.inl ⟨e, h⟩
      · simp at h
    · split at h
      · rename_i e; simp at h; exact Or.inr ⟨e, h⟩
      · simp at h
  · rintro ⟨p, hp, h⟩
    refine ⟨p, hp, ?_⟩
    rw [List.mem_append]
    rcases h with ⟨e, h⟩ | ⟨e, h⟩
    · left; rw [if_pos e]; simp [h]
    · right; rw [if_pos e]; simp [h]
theorem near_nbOf (v u : Int) (ps : List (Int × Int)) : nearB ps v u = decide (u ∈ nbOf v ps) := by
  rw [Bool.eq_iff_iff, decide_eq_true_eq, mem_nbOf]
  unfold nearB
  rw [List.any_eq_true]
  constructor
  · rintro ⟨p, hp, h⟩
    refine ⟨p, hp, ?_⟩
    simp only [nearP, Bool.or_eq_true, Bool.and_eq_true, decide_eq_true_eq] at h
    rcases h with ⟨h1, h2⟩ | ⟨h1, h2⟩
    · exact Or.inl ⟨h1, h2.symm⟩
    · exact Or.inr ⟨h2, h1.symm⟩
  · rintro ⟨p, hp, h⟩
    refine ⟨p, hp, ?_⟩
    simp only [nearP, Bool.or_eq_true, Bool.and_eq_true, decide_eq_true_eq]
    rcases h with ⟨h1, h2⟩ | ⟨h1, h2⟩
    · exact Or.inl ⟨h1, h2.symm⟩
    · exact Or.inr ⟨h2.symm, h1⟩
theorem nbOf_nat {n : Nat} {ps : List (Int × Int)} (h : prOk n ps) {v u : Int} (hu : u ∈ nbOf v ps) : ∃ k : Nat, u = k ∧ k < n := by
  obtain ⟨p, hp, hx⟩ := mem_nbOf.1 hu
  obtain ⟨i, hi, e⟩ := List.getElem_of_mem hp
  obtain ⟨a, b, h1, h2, h3, -⟩ := h i hi
  have e2 : p = ((a : Int), (b : Int)) := by rw [← e, ← h1]; simp [List.getD, hi]
  subst e2
  rcases hx with ⟨-, rfl⟩ | ⟨-, rfl⟩
  · exact ⟨b, rfl, h3⟩
  · exact ⟨a, rfl, h2⟩
theorem freeP_L (f : Nat → Int) (n : Nat) (ps : List (Int × Int)) (h : prOk n ps) (node : Int) (k : Nat) : freeP sameI f (nbOf node ps) k = freeL f ps n node k := by
  unfold freeP freeL
  congr 1
  apply List.filter_congr
  intro c _
  rw [Bool.eq_iff_iff]
  unfold freeB
  simp only [Bool.not_eq_true', List.any_eq_false, List.all_eq_true, List.mem_range]
  constructor
  · intro hx i hi
    unfold freeAt
    rw [near_nbOf]
    by_cases hm : (i : Int) ∈ nbOf node ps
    · have := hx _ hm
      simp only [Int.toNat_natCast, sameI, decide_eq_true_eq] at this
      have h2 : ¬ f i = (c : Int) := fun e => this e.symm
      simp [h2]
    · simp [hm]
  · intro hx u hu
    obtain ⟨i, rfl, hi⟩ := nbOf_nat h hu
    have := hx i hi
    unfold freeAt at this
    rw [near_nbOf] at this
    simp only [decide_eq_true hu, Bool.not_true, Bool.or_false, Bool.not_eq_true', decide_eq_false_iff_not] at this
    simp only [Int.toNat_natCast, sameI, decide_eq_true_eq]
    exact fun e => this e.symm

def fcOf (g : Gr) (q : Int) (xs : List Int) (node : Int) : List Int × Int := if raCode g q 0 xs node = 0 then (freeL (colF xs) (edgesOf g.e) xs.length node q.toNat, 0) else ([], raCode g q 0 xs node)
theorem askCode_ra (g : Gr) (q hi nn node : Int) (xs : List Int) (h : inB q 1 4 = true → hi = q - 1) (h2 : grOk g = true → nn = g.n - 1) : askCode g q (within xs g.n 0 hi && inB node 0 nn) = raCode g q 0 xs node := by
  unfold askCode raCode rcCode
  cases hg : grOk g
  · simp
  · rw [h2 hg]
    cases hq : inB q 1 4
    · simp
    · rw [h hq]
      cases hw : within xs g.n 0 (q - 1)
      · simp [hw]
      · cases hn : inB node 0 (g.n - 1) <;> simp [hw]
theorem raCode_zero {g : Gr} {q least : Int} {xs : List Int} {node : Int} (h : raCode g q least xs node = 0) : grOk g = true ∧ inB q 1 4 = true ∧ within xs g.n least (q - 1) = true ∧ inB node 0 (g.n - 1) = true := by
  unfold raCode at h
  by_cases h0 : rcCode g q least [xs] = 0
  · rw [if_pos h0] at h
    obtain ⟨h1, h2, h3⟩ := rcCode_zero h0
    cases hn : inB node 0 (g.n - 1)
    · simp [hn] at h
    · exact ⟨h1, h2, h3, rfl⟩
  · rw [if_neg h0] at h
    exact absurd h h0

set_option maxRecDepth 100000 in
set_option maxHeartbeats 4000000 in
theorem FreeColours_impl (gv v : Value) (g : Gr) (q : Int) (xs : List Int) (node : Int) (w : World) (hg : GrR w gv g) (hv : Ints w v xs) :
    Calls Try.prog 23 #[gv, .int .i64 q, v, .int .i64 node] w fun e w' => ∃ r, e = .returned (.tuple #[r, .int .i64 (fcOf g q xs node).2]) ∧ IntsMine 2 w' w.heap.size w'.heap.size r (fcOf g q xs node).1 ∧ Below w.heap.size w w' := by
  obtain ⟨ga, gc, rfl⟩ := hg.shape
  obtain ⟨hm, va, vc, rfl⟩ := hv.len
  have B0 := below1 w (.cells #[.int .i64 g.n, .slice ga g.e.length gc] 27)
  have HG := (Blk.new w #[.int .i64 g.n, .slice ga g.e.length gc] 27)
  have hcall := readColoursAt_any _ _ g q 0 xs node _ (hg.keep B0) (hv.keep B0)
  obtain ⟨g0, g1⟩ := HG.two
  have hcall' := Lib.hid hcall
  clear hcall HG
  go_enter Try.func23, Try.ntmps23
  go_wp2_with fail
  (with_reducible refine hcall'.out.mono ?_)
  rintro e w1 (⟨hc, lv, ev, wv, rfl, hnet, hw, b1⟩ | ⟨hc, rfl, b1⟩)
  · have hr := Lib.hid (show fcOf g q xs node = (freeL (colF xs) (edgesOf g.e) xs.length node q.toNat, 0) by simp [fcOf, hc])
    obtain ⟨hok, hq, hwi, hnd⟩ := raCode_zero hc
    have hn := grOk_nodes hok
    have hlen : (xs.length : Int) = g.n := by simp only [within, Bool.and_eq_true, decide_eq_true_eq] at hwi; exact hwi.1
    obtain ⟨nd0, nd1⟩ := inB_iff.1 hnd
    obtain ⟨q1, q4⟩ := inB_iff.1 hq
    obtain ⟨nd, rfl⟩ : ∃ k : Nat, node = k := ⟨node.toNat, by omega⟩
    have hpr := grOk_prOk hok
    have b2 := below2 w1 (.cells (palA lv ev wv 94 12) 68) (.cells (tenA (colF xs)) 74)
    have HA := (Blk.new w1 (palA lv ev wv 94 12) 68).alloc (.cells (tenA (colF xs)) 74)
    have HB := Blk.new (w1.alloc (.cells (palA lv ev wv 94 12) 68)) (tenA (colF xs)) 74
    simp only [World.size_alloc] at HB
    have hfree := free_any 94 sameI sameI_clash lv ev wv 12 (colF xs) (nbL g.n.toNat (edgesOf g.e)) (List.replicate q.toNat 1) nd _ (hnet.1.keep b2) (hw.keep b2) (by rw [nbL_length]; omega) (by rw [List.length_replicate]; omega) _ (nbL_getD _ _ _ (by omega))
      (fun u hu => by obtain ⟨k, h1, h2⟩ := nbOf_nat hpr hu; exact ⟨k, h1, by omega⟩)
    have hxn : xs.length = g.n.toNat := by omega
    have hfp := freeP_L (colF xs) xs.length (edgesOf g.e) (by rw [hxn]; exact hpr) nd q.toNat
    rw [List.length_replicate, hfp] at hfree
    obtain ⟨⟨z0, z1, z2, z3, z4⟩, -⟩ := HA.five
    obtain ⟨⟨t0, t1, t2, t3, t4, t5, t6, t7, t8, t9⟩, -⟩ := HB.tens
    obtain ⟨_, xa, xc, rfl⟩ := hnet.1.len
    obtain ⟨_, ya, yc, rfl⟩ := hnet.2.len
    obtain ⟨_, za, zc, hza⟩ := hw.len
    rw [List.length_replicate] at hza
    subst hza
    have B1 := Lib.hid (B0.trans ((below_wt b1 b2).mono B0.size))
    have hfree' := Lib.hid hfree
    generalize freeL (colF xs) (edgesOf g.e) xs.length nd q.toNat = out at hfree' hr
    clear hc b1 b2 HA HB hnet hw hok hwi hpr hfp hfree hcall' hq hnd
    go_wp2_with fail
    (with_reducible refine hfree'.out.mono ?_)
    rintro e w2 ⟨rv, rfl, hown, b3⟩
    have hown' := Lib.hid hown
    have B2 := Lib.hid (B1.out.trans (b3.mono B1.out.size))
    have hsz := B1.out.size
    clear hown b3
    go_wp2
    go_ret2
    rw [hr.out]
    exact ⟨_, rfl, (Own.of (ownsRow_lower hown'.out hsz) (Nat.le_refl _)).minei, B2.out⟩
  · have hr := Lib.hid (show fcOf g q xs node = ([], raCode g q 0 xs node) by simp [fcOf, hc])
    generalize raCode g q 0 xs node = code at hc hr
    have hne : (code != 0) = true := by simpa using hc
    have b2 := below2 w1 (.cells pal0 68) (.cells (tenA fun _ => 0) 74)
    have B1 := Lib.hid (B0.trans ((below_wt b1 b2).mono B0.size))
    clear hc b1 b2 hcall'
    go_wp2
    go_ret2
    rw [hr.out]
    exact ⟨_, rfl, nil_mine _ _ _ (Nat.le_refl _), B1.out⟩

set_option maxRecDepth 100000 in
set_option maxHeartbeats 4000000 in
theorem FreeColours_spec (gv v : Value) (g : Gr) (q : Int) (xs : List Int) (node : Int) (w : World) (hg : GrR w gv g) (hv : Ints w v xs) (hqw : (Lit.int .i64 q).wf = true) :
    Calls Try.prog 22 #[gv, .int .i64 q, v, .int .i64 node] w fun e w' => ∃ r, e = .returned (.tuple #[r, .int .i64 (fcOf g q xs node).2]) ∧ IntsMine 2 w' w.heap.size w'.heap.size r (fcOf g q xs node).1 ∧ Below w.heap.size w w' := by
  obtain ⟨gvv, rfl, hr⟩ := hg
  have hp := GrR.ptr (n := g.n) hr
  have B0 := below1 w (.cells #[.int .i64 g.n, gvv] 27)
  have HG := Blk.new w #[.int .i64 g.n, gvv] 27
  have hv1 := hv.keep B0
  obtain ⟨hi, hhi⟩ : ∃ hi, IntKind.i64.wrap (q - 1) = hi := ⟨_, rfl⟩
  obtain ⟨nn, hnn⟩ : ∃ nn, IntKind.i64.wrap (g.n - 1) = nn := ⟨_, rfl⟩
  obtain ⟨w1, hw1⟩ : ∃ u, w.alloc (.cells #[.int .i64 g.n, gvv] 27) = u := ⟨_, rfl⟩
  rw [hw1] at hp B0 HG hv1
  have hw1' := Lib.hid hw1
  have hL := fun W (hW : Below w1.heap.size w1 W) => l08List_any w.heap.size ⟨g.n, g.e⟩ v xs 0 hi W (hp.keep hW) (hv1.keep hW)
  have hA := fun right W (hW : Below w1.heap.size w1 W) => l08Asked_any w.heap.size ⟨g.n, g.e⟩ q right W (hp.keep hW)
  have hF := fun Q h1 h2 h3 W (hW : Below w1.heap.size w1 W) => l08Free_any w.heap.size ⟨g.n, g.e⟩ Q v xs node W (hp.keep hW) (hv1.keep hW) h1 h2 h3
  have hI := Lib.hid (fun W => l00In_any node 0 nn W)
  have hcode := askCode_ra g q hi nn node xs (fun h => by rw [← hhi]; have := inB_iff.1 h; exact wrapI (by omega)) (fun h => by rw [← hnn]; have := grOk_nodes h; exact wrapI (by omega))
  have hL' := Lib.hid (hL w1 (Below.refl _ _))
  have hA' := Lib.hid hA
  have hF' := Lib.hid hF
  have hG' := Lib.hid HG
  clear hL hA hF hw1 hv hr hp hv1 HG
  have key : ∀ code : Int, askCode g q (within xs g.n 0 hi && inB node 0 nn) = code →
      Calls Try.prog 22 #[.agg #[.int .i64 g.n, gvv], .int .i64 q, v, .int .i64 node] w fun e w' => ∃ r, e = .returned (.tuple #[r, .int .i64 (fcOf g q xs node).2]) ∧ IntsMine 2 w' w.heap.size w'.heap.size r (fcOf g q xs node).1 ∧ Below w.heap.size w w' := by
    intro code hcd
    have hra : raCode g q 0 xs node = code := by rw [← hcode]; exact hcd
    have hcd' := Lib.hid hcd
    clear hcode hcd
    by_cases hc : code = 0
    · subst hc
      obtain ⟨hok, hq, hwi, hnd⟩ := raCode_zero hra
      obtain ⟨q1, q4⟩ := inB_iff.1 hq
      have hlen : (xs.length : Int) = g.n := by simp only [within, Bool.and_eq_true, decide_eq_true_eq] at hwi; exact hwi.1
      have hhi2 : hi = q - 1 := by rw [← hhi]; exact wrapI (by omega)
      have hnn2 : nn = g.n - 1 := by rw [← hnn]; have := grOk_nodes hok; exact wrapI (by omega)
      have hr := Lib.hid (show fcOf g q xs node = (freeL (colF xs) (edgesOf g.e) xs.length node q.toNat, 0) by simp [fcOf, hra])
      have hw2 : within xs g.n 0 hi = true := by rw [hhi2]; exact hwi
      have hn2 : inB node 0 nn = true := by rw [hnn2]; exact hnd
      rw [hw2] at hL'
      rw [hn2] at hI
      rw [hw2, hn2] at hcd'
      have hFF := Lib.hid (fun W hW => hF'.out q.toNat hok hlen (by omega) W hW)
      have hqn : ((q.toNat : Nat) : Int) = q := Int.toNat_of_nonneg (by omega)
      rw [hqn] at hFF
      generalize freeL (colF xs) (edgesOf g.e) xs.length node q.toNat = out at hFF hr
      have g0 := hG'.out.cell 0
      simp at g0
      clear hra hok hq hwi hnd hlen hhi2 hnn2 hw2 hn2 hqn
      go_enter Try.func22, Try.ntmps22
      go_upto_region 1 with (fail)
      rw [hw1'.out]
      go_wp2_with fail
      (with_reducible refine hL'.out.mono ?_)
      rintro e w2 ⟨rfl, m, rfl⟩
      go_wp2_with fail
      (with_reducible refine (hI.out _).mono ?_)
      rintro e w3 ⟨rfl, rfl⟩
      go_wp2_with fail
      (with_reducible refine (hA'.out _ _ (below_drewN (Below.refl _ _) m)).mono ?_)
      rintro e w4 ⟨rfl, m2, rfl⟩
      simp only
      first | rw [hcd'.out] | (simp only [Bool.and_self] at hcd'; rw [hcd'.out])
      go_wp2_with fail
      (with_reducible refine (hFF.out _ (below_drewN (Below.refl _ _) _)).mono ?_)
      rintro e w5 ⟨rv, rfl, hown, b5⟩
      have hown' := Lib.hid hown
      have B5 := Lib.hid (B0.trans (((below_drewN (Below.refl _ _) _ : Below w1.heap.size w1 _).trans b5).mono B0.size))
      have hsz := B0.size
      clear hown b5
      go_wp2
      go_ret2
      rw [hr.out]
      exact ⟨_, rfl, (Own.of (ownsRow_lower hown'.out hsz) (Nat.le_refl _)).minei, B5.out⟩
    · have hr := Lib.hid (show fcOf g q xs node = ([], code) by simp [fcOf, hra, hc])
      have hne : (code != 0) = true := by simpa using hc
      have g0 := hG'.out.cell 0
      simp at g0
      clear hra hc
      rcases hw2 : within xs g.n 0 hi with _ | _
      · rw [hw2] at hL' hcd'
        clear hw2 hI
        go_enter Try.func22, Try.ntmps22
        go_upto_region 1 with (fail)
        rw [hw1'.out]
        go_wp2_with fail
        (with_reducible refine hL'.out.mono ?_)
        rintro e w2 ⟨rfl, m, rfl⟩
        go_wp2_with fail
        (with_reducible refine (hA'.out _ _ (below_drewN (Below.refl _ _) m)).mono ?_)
        rintro e w4 ⟨rfl, m2, rfl⟩
        simp only
        first | rw [hcd'.out] | (simp only [Bool.false_and] at hcd'; rw [hcd'.out])
        have hb := below_drewN B0 (m + m2)
        go_wp2
        go_ret2
        rw [hr.out]
        exact ⟨_, rfl, empty_mine _ _ hb.size, hb.trans ((below1 _ _).mono hb.size)⟩
      · rw [hw2] at hL' hcd'
        rcases hn2 : inB node 0 nn with _ | _
        all_goals
          rw [hn2] at hI hcd'
          clear hw2 hn2
          go_enter Try.func22, Try.ntmps22
          go_upto_region 1 with (fail)
          rw [hw1'.out]
          go_wp2_with fail
          (with_reducible refine hL'.out.mono ?_)
          rintro e w2 ⟨rfl, m, rfl⟩
          go_wp2_with fail
          (with_reducible refine (hI.out _).mono ?_)
          rintro e w3 ⟨rfl, rfl⟩
          go_wp2_with fail
          (with_reducible refine (hA'.out _ _ (below_drewN (Below.refl _ _) m)).mono ?_)
          rintro e w4 ⟨rfl, m2, rfl⟩
          simp only
          first | rw [hcd'.out] | (simp only [Bool.and_self, Bool.true_and] at hcd'; rw [hcd'.out])
          have hb := below_drewN B0 (m + m2)
          go_wp2
          go_ret2
          rw [hr.out]
          exact ⟨_, rfl, empty_mine _ _ hb.size, hb.trans ((below1 _ _).mono hb.size)⟩
  exact key _ rfl
end Go.Proofs.Ytfbhdlkiffoflaa
