/- ChangeSet of the project. Conditions: none. -/
import Derived.Test.YtfbhdlkiffoflaaChS
import Derived.Test.YtfbhdlkiffoflaaRco
namespace Go.Proofs.Ytfbhdlkiffoflaa
open Go.RowKit Go.Deep
set_option linter.unusedVariables false

/-! ### rising lists and their members -/
theorem ext_sorted : ∀ (xs ys : List Int), xs.Pairwise (· < ·) → ys.Pairwise (· < ·) → (∀ z, z ∈ xs ↔ z ∈ ys) → xs = ys
  | [], [], _, _, _ => rfl
  | [], y :: ys, _, _, h => by have := (h y).2 (by simp); simp at this
  | x :: xs, [], _, _, h => by have := (h x).1 (by simp); simp at this
  | x :: xs, y :: ys, hx, hy, h => by
    rw [List.pairwise_cons] at hx hy
    have e : x = y := by
      have h1 := (h x).1 (by simp)
      have h2 := (h y).2 (by simp)
      rw [List.mem_cons] at h1 h2
      rcases h1 with h1 | h1
      · exact h1
      · rcases h2 with h2 | h2
        · exact h2.symm
        · have := hy.1 x h1; have := hx.1 y h2; omega
    subst e
    have := ext_sorted xs ys hx.2 hy.2 (fun z => by
      have hz := h z
      rw [List.mem_cons, List.mem_cons] at hz
      constructor
      · intro m
        rcases hz.1 (Or.inr m) with e | m2
        · have := hx.1 z m; omega
        · exact m2
      · intro m
        rcases hz.2 (Or.inr m) with e | m2
        · have := hy.1 z m; omega
        · exact m2)
    rw [this]
theorem sel_sorted (p : Nat → Bool) (n : Nat) : (selL p n).Pairwise (· < ·) := by
  unfold selL
  rw [List.pairwise_map]
  exact (List.Pairwise.filter _ (List.pairwise_lt_range (n := n))).imp fun h => by omega
theorem rises_step {n : Int} {xs : List Int} (h : rises 0 (n - 1) xs = true) (k : Nat) (hk : k + 1 < xs.length) : xs.getD k 0 < xs.getD (k + 1) 0 := by
  unfold rises at h
  rw [List.all_eq_true] at h
  have h1 := h (k + 1) (by simpa using hk)
  simp only [riseAt, Bool.and_eq_true, Bool.or_eq_true, decide_eq_true_eq, Nat.add_sub_cancel] at h1
  omega
theorem rises_lt {n : Int} {xs : List Int} (h : rises 0 (n - 1) xs = true) (i : Nat) : ∀ d, i + d + 1 < xs.length → xs.getD i 0 < xs.getD (i + d + 1) 0
  | 0, hd => rises_step h i hd
  | d + 1, hd => Int.lt_trans (rises_lt h i d (by omega)) (rises_step h (i + d + 1) (by omega))
theorem rises_sorted {n : Int} {xs : List Int} (h : rises 0 (n - 1) xs = true) : xs.Pairwise (· < ·) := by
  rw [List.pairwise_iff_getElem]
  intro i j hi hj hij
  have := rises_lt h i (j - i - 1) (by omega)
  have e : i + (j - i - 1) + 1 = j := by omega
  rw [e] at this
  simpa [List.getD, hi, hj] using this
theorem mem_setF (xs : List Int) (j : Nat) : (setF xs j == 1) = decide ((j : Int) ∈ xs) := by
  rw [Bool.eq_iff_iff, beq_iff_eq, decide_eq_true_eq, setF_iff]
theorem outL_sel {n : Int} {xs : List Int} (h : rises 0 (n - 1) xs = true) (nd : Nat) : outL xs nd = selL (fun j => updF (setF xs) nd 0 j == 1) n.toNat := by
  apply ext_sorted
  · exact List.Pairwise.filter _ (rises_sorted h)
  · exact sel_sorted _ _
  · intro z
    rw [sel_mem]
    unfold outL
    rw [List.mem_filter, decide_eq_true_eq]
    constructor
    · rintro ⟨hz, hne⟩
      obtain ⟨z0, z1⟩ := rises_in h hz
      refine ⟨z.toNat, by omega, ?_, by omega⟩
      unfold updF
      rw [if_neg (by omega), mem_setF, decide_eq_true_eq, Int.toNat_of_nonneg z0]
      exact hz
    · rintro ⟨i, hi, hp, rfl⟩
      unfold updF at hp
      by_cases e : i = nd
      · rw [if_pos e] at hp; exact absurd hp (by decide)
      · rw [if_neg e, mem_setF, decide_eq_true_eq] at hp
        exact ⟨hp, by omega⟩
theorem enter_iff {n : Nat} {ps : List (Int × Int)} (h : prOk n ps) (xs : List Int) (nd : Nat) : (outL xs nd).any (nearB ps nd) = (nbOf nd ps).any fun u => bothI 1 (setF xs u.toNat) := by
  rw [Bool.eq_iff_iff, List.any_eq_true, List.any_eq_true]
  constructor
  · rintro ⟨x, hx, hn⟩
    unfold outL at hx
    rw [List.mem_filter] at hx
    rw [near_nbOf, decide_eq_true_eq] at hn
    refine ⟨x, hn, ?_⟩
    obtain ⟨k, rfl, hk⟩ := nbOf_nat h hn
    rw [Int.toNat_natCast]
    simp only [bothI, decide_true, Bool.true_and, decide_eq_true_eq]
    exact (setF_iff xs k).2 hx.1
  · rintro ⟨u, hu, hb⟩
    have hu0 := hu
    obtain ⟨p, hp, hx⟩ := mem_nbOf.1 hu
    obtain ⟨i, hi, e⟩ := List.getElem_of_mem hp
    obtain ⟨a, b, h1, h2, h3, h4⟩ := h i hi
    have e2 : p = ((a : Int), (b : Int)) := by rw [← e, ← h1]; simp [List.getD, hi]
    subst e2
    obtain ⟨k, rfl, hk⟩ := nbOf_nat h hu
    rw [Int.toNat_natCast] at hb
    simp only [bothI, decide_true, Bool.true_and, decide_eq_true_eq] at hb
    refine ⟨(k : Int), ?_, by rw [near_nbOf, decide_eq_true_eq]; exact hu0⟩
    unfold outL
    rw [List.mem_filter, decide_eq_true_eq]
    exact ⟨(setF_iff xs k).1 hb, by rcases hx with ⟨q1, q2⟩ | ⟨q1, q2⟩ <;> (simp only at q1 q2; omega)⟩
theorem free_one (cl : Int → Int → Bool) (f : Nat → Int) (nb : List Int) : hasB (freeP cl f nb 2) 1 = !nb.any fun u => cl 1 (f u.toNat) := by
  have e0 := freeP_succ cl f nb 1
  have e1 := freeP_succ cl f nb 0
  have e2 : freeP cl f nb 0 = [] := by simp [freeP]
  rw [e0, e1, e2]
  have c1 : ((1 : Nat) : Int) = 1 := rfl
  have c0 : ((0 : Nat) : Int) = 0 := rfl
  rw [c1, c0]
  unfold hasB
  generalize (nb.any fun u => cl 1 (f u.toNat)) = a
  generalize (nb.any fun u => cl 0 (f u.toNat)) = b
  cases a <;> cases b <;> simp
def lastF (xs : List Int) (nd : Nat) (b : Bool) : Nat → Int := if b then updF (updF (setF xs) nd 0) nd 1 else updF (setF xs) nd 0
theorem ch_sel {n : Int} {xs : List Int} (h : rises 0 (n - 1) xs = true) {ps : List (Int × Int)} (hp : prOk n.toNat ps) (nd : Nat) (hn : (nd : Int) < n) (still : Bool) :
    selL (fun j => lastF xs nd (!still && hasB (freeP bothI (setF xs) (nbOf nd ps) 2) 1) j == 1) n.toNat = chL still ps xs nd := by
  unfold chL
  rw [free_one, enter_iff hp xs nd]
  generalize ((nbOf nd ps).any fun u => bothI 1 (setF xs u.toNat)) = a
  rcases still with _ | _
  · rcases a with _ | _
    · simp only [Bool.not_false, Bool.true_and, Bool.or_false, Bool.false_eq_true, if_false, lastF, if_true]
      rw [outL_sel h nd, put_sel _ _ _ (by omega)]
      apply sel_congr
      intro i hi
      by_cases e : i = nd
      · subst e; simp [updF]
      · simp [updF, e]
    · simp only [Bool.not_true, Bool.and_false, Bool.or_true, if_true, lastF, Bool.false_eq_true, if_false]
      rw [outL_sel h nd]
  · simp only [Bool.not_true, Bool.false_and, Bool.true_or, if_true, lastF, Bool.false_eq_true, if_false]
    rw [outL_sel h nd]

theorem sel_succ (p : Nat → Bool) (k : Nat) : selL p (k + 1) = selL p k ++ if p k then [(k : Int)] else [] := by
  unfold selL
  rw [List.range_succ, List.filter_append, List.map_append]
  congr 1
  cases h : p k <;> simp [h]
set_option maxRecDepth 100000 in
set_option maxHeartbeats 8000000 in
theorem members_any (C : Nat) (lv ev wv : Value) (parts : Int) (f : Nat → Int) (nb : List (List Int)) (w : World) (hv : Rows2 w lv nb) (hn : nb.length ≤ 10) :
    Calls Try.prog 65 #[.agg (palA lv ev wv C parts), .agg (tenA f)] w fun e w' => ∃ rv, e = .returned rv ∧ w'.ownsRow w.heap.size 2 1 rv (selL (fun j => f j == 1) nb.length).length (ints (selL (fun j => f j == 1) nb.length)) ∧ Below w.heap.size w w' := by
  have B0 := below2 w (.cells (palA lv ev wv C parts) 68) (.cells (tenA f) 74)
  have H1 := (Blk.new w (palA lv ev wv C parts) 68).alloc (.cells (tenA f) 74)
  have H2 := Blk.new (w.alloc (.cells (palA lv ev wv C parts) 68)) (tenA f) 74
  simp only [World.size_alloc] at H2
  have hv1 := hv.keep B0
  have hnd := nodes_any lv nb _ hv1
  obtain ⟨_, la, lc, rfl⟩ := hv.len
  obtain ⟨⟨z0, z1, z2, z3, z4⟩, -⟩ := H1.five
  obtain ⟨i0, hi, hz0, hz1, hz2⟩ := info_parts Try.infoI
  have hi' := Lib.hid hi; have hz0' := Lib.hid hz0; have hz1' := Lib.hid hz1; have hz2' := Lib.hid hz2
  clear hi hz0 hz1 hz2 hv
  go_enter Try.func65, Try.ntmps65
  go_wp2_with fail
  (with_reducible refine hnd.mono ?_)
  rintro e w1 ⟨rfl, b1⟩
  have H2' := Lib.hid (H2.step b1)
  have B1 := Lib.hid (below_wt B0 b1)
  clear z0 z1 z2 z3 z4 H1 H2 B0 b1 hnd hv1
  go_wp2
  go_loopw [5, 11] (fun ov iv wr => ∃ (k : Nat) (va : Option Addr) (vc : Nat), k ≤ nb.length ∧ iv = .int .i64 k ∧ ov = .slice va (selL (fun j => f j == 1) k).length vc ∧ Hid (wr.ownsRow w.heap.size 2 1 (.slice va (selL (fun j => f j == 1) k).length vc) (selL (fun j => f j == 1) k).length (ints (selL (fun j => f j == 1) k))) ∧ Hid (∀ j, (Value.slice va (selL (fun j => f j == 1) k).length vc).ownBlock = some j → w1.heap.size ≤ j) ∧ Hid (Below w1.heap.size w1 wr)) (fun _ iv _ => nb.length - (intOf iv).toNat)
  case atStart => exact ⟨0, none, 0, Nat.zero_le _, rfl, rfl, World.ownsRow_nil _ _ _ _, fun j hj => by simp [Value.ownBlock] at hj, Below.refl _ _⟩
  case round =>
    obtain ⟨k, va, vc, hk, rfl, rfl, hown, hap, bel⟩ := hrel
    obtain ⟨out, hout⟩ : ∃ o, selL (fun j => f j == 1) k = o := ⟨_, rfl⟩
    have hol : out.length ≤ k := by rw [← hout]; exact sel_len _ _
    have hsucc := Lib.hid (sel_succ (fun j => f j == 1) k)
    rw [hout] at hown hap hsucc ⊢
    have H2r := H2'.out.step bel.out
    have hout' := Lib.hid hout
    have hs0 := B1.out.size
    have hs1 := bel.out.size
    clear hout
    by_cases hlt : k < nb.length
    · have hltI : (k : Int) < (nb.length : Int) := by omega
      have k10 : k < 10 := by omega
      have k10I : (k : Int) < 10 := by omega
      have hx := H2r.ten k k10
      generalize f k = x at hx hsucc
      clear H2r
      rcases hr : (x == 1) with _ | _
      · have hs2 := Lib.hid (show selL (fun j => f j == 1) (k + 1) = out by rw [hsucc.out, hr]; simp)
        go_wp2
        go_roundw
        case rel => exact ⟨k + 1, va, vc, by omega, by go_num, by rw [hs2.out], by rw [hs2.out]; exact hown, by rw [hs2.out]; exact hap, bel⟩
        case measure => simp [intOf]; omega
      · have hs2 := Lib.hid (show selL (fun j => f j == 1) (k + 1) = out ++ [(k : Int)] by rw [hsucc.out, hr]; rfl)
        go_wp2_with (at_builtin; (refine wpList_append_lies _ rfl _ _ 32 rfl w.heap.size 2 i0 (.int .i64 0) 1 8 Try.underlying32 hi'.out hz0'.out hz1'.out hz2'.out rfl (by omega) (.slice va out.length vc) out.length _ rfl (hown.out.alloc _) ⟨wr.heap.size, 0, none⟩ 1 1 [.int .i64 (k : Int)] rfl rfl (one_new _ _ _) (by simp [Value.oneCell']) (by omega) (by unfold maxLen; omega) (by omega) (by simp; omega) _ rfl ?_); intro gg cap2 w4 hown4 hgrow hat4 hlt4)
        have hap4 := Lib.hid (show w1.heap.size ≤ gg by rcases hat4 with e | e
                                                        · exact hap.out gg e
                                                        · rw [e]; simp; omega)
        have bel4 := Lib.hid ((bel.out.alloc hs1 _).grown hgrow (by simp; omega) (fun k' hk' => hap.out k' hk'))
        go_roundw
        case rel => exact ⟨k + 1, some ⟨gg, 0, none⟩, cap2, by omega, by go_num, by rw [hs2.out]; simp, Lib.hid (by rw [hs2.out]; simpa [ints] using hown4), Lib.hid (fun j hj => by simp [Value.ownBlock] at hj; have := hap4.out; omega), bel4⟩
        case measure => simp [intOf]; omega
    · obtain rfl : k = nb.length := by omega
      have hfin := Lib.hid hout'.out
      go_wp2
      go_ret
      exact ⟨_, rfl, by rw [hfin.out]; exact hown.out, below_wt B1.out bel.out⟩

theorem chCode_bad {g : Gr} {wt : Int} {xs : List Int} (h : rsCode g wt [xs] ≠ 0) (node draw : Int) : chCode g wt xs node draw = rsCode g wt [xs] := by
  revert h
  unfold rsCode chCode
  cases grOk g
  · simp
  · cases h2 : inB wt 1 60
    · simp
    · cases h3 : rises 0 (g.n - 1) xs
      · simp [h3]
      · simp [h3]
theorem chCode_good {g : Gr} {wt : Int} {xs : List Int} (h : rsCode g wt [xs] = 0) (node draw : Int) : chCode g wt xs node draw = if inB node 0 (g.n - 1) && inB draw 0 wt then 0 else 2 := by
  obtain ⟨h1, h2, h3⟩ := rsCode_zero h
  unfold chCode
  rw [h1, h2, h3]
  simp

set_option maxRecDepth 100000 in
set_option maxHeartbeats 8000000 in
theorem ChangeSet_impl (gv v : Value) (g : Gr) (wt : Int) (xs : List Int) (node draw : Int) (w : World) (hg : GrR w gv g) (hv : Ints w v xs) :
    Calls Try.prog 32 #[gv, .int .i64 wt, v, .int .i64 node, .int .i64 draw] w fun e w' => ∃ r, e = .returned (.tuple #[r, .int .i64 (chOf g wt xs node draw).2]) ∧ IntsMine 2 w' w.heap.size w'.heap.size r (chOf g wt xs node draw).1 ∧ Below w.heap.size w w' := by
  obtain ⟨ga, gc, rfl⟩ := hg.shape
  obtain ⟨hm, va, vc, rfl⟩ := hv.len
  have B0 := below2 w (.cells #[.int .i64 g.n, .slice ga g.e.length gc] 27) (.cells #[.slice va xs.length vc] 32)
  have HG := (Blk.new w #[.int .i64 g.n, .slice ga g.e.length gc] 27)
  have HL := Blk.new (w.alloc (.cells #[.int .i64 g.n, .slice ga g.e.length gc] 27)) #[.slice va xs.length vc] 32
  have hcall := readSets_any _ _ g wt [xs] _ (hg.keep B0) (rows_one HL (hv.keep B0)) (by simp)
  simp only [World.size_alloc] at hcall
  obtain ⟨g0, g1⟩ := HG.two
  have hcall' := Lib.hid hcall
  clear hcall HL
  go_enter Try.func32, Try.ntmps32
  go_wp2_with fail
  (with_reducible refine hcall'.out.mono ?_)
  rintro e w1 (⟨hc, lv, ev, wv, pb, rfl, hnw, hP, hpb, b1⟩ | ⟨hc, rfl, b1⟩)
  · obtain ⟨hnet, hw⟩ := hnw w1 (SameOn.refl _ _ _)
    obtain ⟨hok, -, hri⟩ := rsCode_zero hc
    have hcc := chCode_good hc node draw
    obtain ⟨n1, n5⟩ := grOk_nodes hok
    have hpr := grOk_prOk hok
    have b2 := below1 w1 (.cells (palA lv ev wv 98 (1 + wt)) 68)
    have H2 := Blk.new w1 (palA lv ev wv 98 (1 + wt)) 68
    have hP2 := hP.step b2
    have hnl : (nbL g.n.toNat (edgesOf g.e)).length = g.n.toNat := nbL_length _ _
    obtain ⟨w2, hw2⟩ : ∃ u, w1.alloc (.cells (palA lv ev wv 98 (1 + wt)) 68) = u := ⟨_, rfl⟩
    rw [hw2] at b2 H2 hP2
    have hn2 := hnet.keep b2
    have hw2v := hw.keep b2
    have hnode := Lib.hid (isNode_any lv (nbL g.n.toNat (edgesOf g.e)) node w2 hn2.1 (by omega))
    have hin : ((nbL g.n.toNat (edgesOf g.e)).length : Int) - 1 = g.n - 1 := by omega
    rw [hin] at hnode
    have hpro := Lib.hid (fun W (hW : Below w2.heap.size w2 W) => isProper_any 98 bothI clash_both lv ev wv (1 + wt) (setF xs) g.n.toNat (edgesOf g.e) W (hn2.2.keep hW) hpr (by omega))
    have hfree := Lib.hid (fun (nd : Nat) (hnd : (nd : Int) < g.n) W (hW : Below w2.heap.size w2 W) => free_any 98 bothI clash_both lv ev wv (1 + wt) (setF xs) (nbL g.n.toNat (edgesOf g.e)) [1, wt] nd W (hn2.1.keep hW) (hw2v.keep hW) (by omega) (by simp) _ (nbL_getD _ _ _ (by omega))
      (fun u hu => by obtain ⟨k, h1, h2⟩ := nbOf_nat hpr hu; exact ⟨k, h1, by omega⟩))
    have hmem := Lib.hid (fun f W (hW : Below w2.heap.size w2 W) => members_any 98 lv ev wv (1 + wt) f (nbL g.n.toNat (edgesOf g.e)) W (hn2.1.keep hW) (by omega))
    have hsel := Lib.hid (fun (nd : Nat) hnd still => ch_sel (n := g.n) (xs := xs) hri hpr nd hnd still)
    have hap := apart_proper hpr xs
    have hr0 := Lib.hid (show chOf g wt xs node draw = if (inB node 0 (g.n - 1) && inB draw 0 wt) then (if proper bothI (setF xs) (edgesOf g.e) then (chL (draw == 0) (edgesOf g.e) xs node, 0) else ([], 4)) else ([], 2) by
      unfold chOf
      rw [hcc, ← hap]
      cases (inB node 0 (g.n - 1) && inB draw 0 wt) <;> simp)
    have hnl' := Lib.hid hnl
    obtain ⟨_, xa, xc, rfl⟩ := hnet.1.len
    obtain ⟨_, ya, yc, rfl⟩ := hnet.2.len
    obtain ⟨_, za, zc, hza⟩ := hw.len
    have hza : wv = .slice za 2 zc := hza
    subst hza
    have B1 := Lib.hid (B0.trans ((below_wt b1 b2).mono B0.size))
    have H2' := Lib.hid H2
    have hP2' := Lib.hid hP2
    obtain ⟨⟨z0, z1, z2, z3, z4⟩, -⟩ := H2.five
    have hw2' := Lib.hid hw2
    obtain ⟨bx, hbx⟩ : ∃ b, w1.heap.size = b := ⟨_, rfl⟩
    rw [hbx] at z0 z1 z2 z3 z4 H2'
    have hbx' := Lib.hid hbx
    clear hc hnet hw hok hri hcc hpr b2 H2 hP2 hnl hn2 hw2v hin hap hnw hP b1 hw2 hbx
    rcases hnd : inB node 0 (g.n - 1) with _ | _
    · have hr := Lib.hid (show chOf g wt xs node draw = ([], 2) by rw [hr0.out, hnd]; rfl)
      rw [hnd] at hnode
      clear hnd hr0
      go_upto_region 4 with (fail)
      first | rw [hw2'.out, hbx'.out] | (simp only [palA] at hw2'; rw [hw2'.out, hbx'.out])
      go_wp2_with fail
      (with_reducible refine hnode.out.mono ?_)
      rintro e w3 ⟨rfl, b3⟩
      have B3 := Lib.hid (B1.out.trans (b3.mono B1.out.size))
      clear b3
      go_wp2
      go_ret2
      rw [hr.out]
      exact ⟨_, rfl, nil_mine _ _ _ (Nat.le_refl _), B3.out⟩
    · rw [hnd] at hnode
      obtain ⟨nd0, nd1⟩ := inB_iff.1 hnd
      obtain ⟨nd, rfl⟩ : ∃ k : Nat, node = k := ⟨node.toNat, by omega⟩
      have hD := Lib.hid (fun W => isIn_any draw 0 wt W)
      rcases hdr : inB draw 0 wt with _ | _
      · have hr := Lib.hid (show chOf g wt xs nd draw = ([], 2) by rw [hr0.out, hdr, Bool.and_false]; rfl)
        rw [hdr] at hD
        clear hnd hr0 hdr
        go_upto_region 4 with (fail)
        first | rw [hw2'.out, hbx'.out] | (simp only [palA] at hw2'; rw [hw2'.out, hbx'.out])
        go_wp2_with fail
        (with_reducible refine hnode.out.mono ?_)
        rintro e w3 ⟨rfl, b3⟩
        have B3 := Lib.hid (B1.out.trans (b3.mono B1.out.size))
        clear b3
        go_wp2_with fail
        (with_reducible refine (hD.out _).mono ?_)
        rintro e w4 ⟨rfl, rfl⟩
        go_wp2
        go_ret2
        rw [hr.out]
        exact ⟨_, rfl, nil_mine _ _ _ (Nat.le_refl _), B3.out⟩
      · obtain ⟨d0, d1⟩ := inB_iff.1 hdr
        have hr1 := Lib.hid (show chOf g wt xs nd draw = if proper bothI (setF xs) (edgesOf g.e) then (chL (draw == 0) (edgesOf g.e) xs nd, 0) else ([], 4) by rw [hr0.out, hnd, hdr]; rfl)
        rw [hdr] at hD
        clear hnd hr0 hdr
        go_upto_region 4 with (fail)
        first | rw [hw2'.out, hbx'.out] | (simp only [palA] at hw2'; rw [hw2'.out, hbx'.out])
        go_wp2_with fail
        (with_reducible refine hnode.out.mono ?_)
        rintro e w3 ⟨rfl, b3⟩
        go_wp2_with fail
        (with_reducible refine (hD.out _).mono ?_)
        rintro e w3' ⟨rfl, rfl⟩
        have HA3 := H2'.out.step b3
        have HP3 := hP2'.out.step b3
        have B3 := Lib.hid (B1.out.trans (b3.mono B1.out.size))
        have b3' := Lib.hid b3
        obtain ⟨⟨y0, y1, y2, y3, y4⟩, -⟩ := HA3.five
        clear z0 z1 z2 z3 z4 hw2' hbx' b3
        have p0 := pnt_first HP3 (by simp) 0 (by omega)
        have p1 := pnt_first HP3 (by simp) 1 (by omega)
        have p2 := pnt_first HP3 (by simp) 2 (by omega)
        have p3 := pnt_first HP3 (by simp) 3 (by omega)
        have p4 := pnt_first HP3 (by simp) 4 (by omega)
        have p5 := pnt_first HP3 (by simp) 5 (by omega)
        have p6 := pnt_first HP3 (by simp) 6 (by omega)
        have p7 := pnt_first HP3 (by simp) 7 (by omega)
        have p8 := pnt_first HP3 (by simp) 8 (by omega)
        have p9 := pnt_first HP3 (by simp) 9 (by omega)
        simp only [List.length_singleton, setPK_one] at p0 p1 p2 p3 p4 p5 p6 p7 p8 p9
        have hip2 := Lib.hid (show ∀ p : Later w3, _ from fun p => hpro.out p.wd (below_wt b3'.out p.bel))
        generalize proper bothI (setF xs) (edgesOf g.e) = r at hip2 hr1
        simp only [palA] at hip2
        have HA3' := Lib.hid HA3
        have HP3' := Lib.hid HP3
        clear HA3 HP3
        go_wp2
        have z0 := Later.cell y0
        have z1 := Later.cell y1
        have z2 := Later.cell y2
        have z3 := Later.cell y3
        have z4 := Later.cell y4
        clear y0 y1 y2 y3 y4
        replace p0 := Later.cell p0
        replace p1 := Later.cell p1
        replace p2 := Later.cell p2
        replace p3 := Later.cell p3
        replace p4 := Later.cell p4
        replace p5 := Later.cell p5
        replace p6 := Later.cell p6
        replace p7 := Later.cell p7
        replace p8 := Later.cell p8
        replace p9 := Later.cell p9
        refine region_later (by kernel_rfl) (by kernel_rfl) ?_
        repeat (go_big_quiet_step ((go_at_call 50; exact later_of (hip2.out _))))
        refine wpQuiet_nil ?_
        intro W4 hw'
        obtain ⟨⟨W4x, B4⟩, hw''⟩ := hw'
        subst hw''
        have BW := Lib.hid (B3.out.trans (B4.mono B3.out.size))
        have b34 := below_wt b3'.out B4
        have b34' := Lib.hid b34
        have HA4 := Lib.hid (HA3'.out.step B4)
        have HP4 := Lib.hid (HP3'.out.step B4)
        clear p0 p1 p2 p3 p4 p5 p6 p7 p8 p9 z0 z1 z2 z3 z4 B4 b34
        rcases r with _ | _
        · have hr := Lib.hid (show chOf g wt xs nd draw = ([], 4) by rw [hr1.out]; rfl)
          go_wp2
          go_ret2
          rw [hr.out]
          exact ⟨_, rfl, nil_mine _ _ _ (Nat.le_refl _), BW.out⟩
        · have hr := Lib.hid (show chOf g wt xs nd draw = (chL (draw == 0) (edgesOf g.e) xs nd, 0) by rw [hr1.out]; rfl)
          clear hpro hnode hD hip2 hr1
          have q0 := pnt_first HP4.out (by simp) 0 (by omega)
          have q1 := pnt_first HP4.out (by simp) 1 (by omega)
          have q2 := pnt_first HP4.out (by simp) 2 (by omega)
          have q3 := pnt_first HP4.out (by simp) 3 (by omega)
          have q4 := pnt_first HP4.out (by simp) 4 (by omega)
          have q5 := pnt_first HP4.out (by simp) 5 (by omega)
          have q6 := pnt_first HP4.out (by simp) 6 (by omega)
          have q7 := pnt_first HP4.out (by simp) 7 (by omega)
          have q8 := pnt_first HP4.out (by simp) 8 (by omega)
          have q9 := pnt_first HP4.out (by simp) 9 (by omega)
          simp only [List.length_singleton, setPK_one] at q0 q1 q2 q3 q4 q5 q6 q7 q8 q9
          have nI : (nd : Int) < 10 := by omega
          have lt10 : nd < 10 := by omega
          have ndn : (nd : Int) < g.n := by omega
          have HQ := Blk.new W4 (tenA (setF xs)) 74
          have b5 := below1 W4 (.cells (tenA (setF xs)) 74)
          obtain ⟨bq, hbqe⟩ : ∃ b, W4.heap.size = b := ⟨_, rfl⟩
          have hbq : w2.heap.size ≤ bq := by have := b34'.out.size; omega
          have hbw : w.heap.size ≤ bq := by have := BW.out.size; omega
          have hne : bx ≠ bq := by have := HA4.out.lt; omega
          obtain ⟨w5, hw5⟩ : ∃ u, W4.alloc (.cells (tenA (setF xs)) 74) = u := ⟨_, rfl⟩
          have hw5' := Lib.hid hw5
          have hbqe' := Lib.hid hbqe
          rw [hw5] at HQ b5
          rw [hbqe] at HQ
          have HA5 := Lib.hid (HA4.out.step b5)
          have B5 := Lib.hid (below_wt BW.out b5)
          have b35 := Lib.hid (below_wt b34'.out b5)
          have HQ' := Lib.hid HQ
          clear b5 hw5 hbqe HQ
          go_upto_region 9 with (fail)
          first | rw [hw5'.out, hbqe'.out] | (simp only [tenA] at hw5'; rw [hw5'.out, hbqe'.out])
          clear q0 q1 q2 q3 q4 q5 q6 q7 q8 q9 hw5' hbqe'
          by_cases hz : draw = 0
          · subst hz
            have hs0 := Lib.hid (show selL (fun j => updF (setF xs) nd 0 j == 1) g.n.toNat = chL ((0 : Int) == 0) (edgesOf g.e) xs nd from hsel.out nd ndn true)
            have tn := HQ'.out.ten nd lt10
            have fn := HQ'.out.frozen nd
            have HQn := HQ'
            have HAn := HA5
            have bn := b35
            have Bn := B5
            have HB7 := HQn.out.set nd (.int .i64 0)
            rw [tenA_upd _ _ _ lt10] at HB7
            have HA7 := HAn.out.setOther (a := ⟨bq, nd, none⟩) hne (.int .i64 0)
            have b7 := bn.out.setCell (p := ⟨bq, nd, none⟩) hbq (.int .i64 0)
            have B7 := Lib.hid (Bn.out.setCell (p := ⟨bq, nd, none⟩) hbw (.int .i64 0))
            have hc7 := hmem.out (updF (setF xs) nd 0) _ b7
            obtain ⟨w7, hw7⟩ : ∃ u, w5.setCell ⟨bq, nd, none⟩ (.int .i64 0) = u := ⟨_, rfl⟩
            rw [hw7] at HB7 HA7 b7 B7 hc7
            have hw7' := Lib.hid hw7
            rw [show selL (fun j => updF (setF xs) nd 0 j == 1) (nbL g.n.toNat (edgesOf g.e)).length = selL (fun j => updF (setF xs) nd 0 j == 1) g.n.toNat from (by rw [hnl'.out]), hs0.out] at hc7
            clear hw7 hfree hsel b7
            go_upto_region 13 with (fail)
            rw [hw7'.out]
            clear hw7' tn fn
            have hs7 := B7.out.size
            obtain ⟨⟨z0, z1, z2, z3, z4⟩, -⟩ := HA7.five
            obtain ⟨⟨t0, t1, t2, t3, t4, t5, t6, t7, t8, t9⟩, -⟩ := HB7.tens
            clear HA7 HB7
            go_wp2_with fail
            (with_reducible refine hc7.mono ?_)
            rintro e w8 ⟨rv, rfl, hown, b8⟩
            have hown' := Lib.hid hown
            have B8 := Lib.hid (B7.out.trans (b8.mono hs7))
            clear hown b8 hc7
            go_wp2
            go_ret2
            rw [hr.out]
            exact ⟨_, rfl, (Own.of (ownsRow_lower hown'.out hs7) (Nat.le_refl _)).minei, B8.out⟩
          · have hdp : 0 < draw := by omega
            have hdd : (draw == 0) = false := by simpa using hz
            have hf5 := hfree.out nd ndn w5 b35.out
            have hsl := Lib.hid (hsel.out nd ndn false)
            rw [← hdd] at hsl
            have hfr : ([1, wt] : List Int).length = 2 := rfl
            rw [hfr] at hf5
            generalize freeP bothI (setF xs) (nbOf nd (edgesOf g.e)) 2 = fl at hf5 hsl
            obtain ⟨⟨z0, z1, z2, z3, z4⟩, -⟩ := HA5.out.five
            obtain ⟨⟨t0, t1, t2, t3, t4, t5, t6, t7, t8, t9⟩, -⟩ := HQ'.out.tens
            go_wp2_with fail
            (with_reducible refine hf5.mono ?_)
            rintro e w6 ⟨rv, rfl, hown, b6⟩
            have hI : Ints w6 rv fl := (Own.of hown (Nat.le_refl _)).row
            have hcn := contains_any rv fl 1 w6 hI
            obtain ⟨_, fa, fc, rfl⟩ := hI.len
            have HQn := Lib.hid (HQ'.out.step b6)
            have HAn := Lib.hid (HA5.out.step b6)
            have bn := Lib.hid (below_wt b35.out b6)
            have Bn := Lib.hid (below_wt B5.out b6)
            have tn := HQn.out.ten nd lt10
            have fn := HQn.out.frozen nd
            clear b6 hown hI hf5 z0 z1 z2 z3 z4 t0 t1 t2 t3 t4 t5 t6 t7 t8 t9 hfree hsel
            rcases hb : hasB fl 1 with _ | _
            · rw [hb] at hcn
              have hs0 := Lib.hid (show selL (fun j => updF (setF xs) nd 0 j == 1) g.n.toNat = chL (draw == 0) (edgesOf g.e) xs nd by rw [← hsl.out, hb, Bool.and_false]; rfl)
              clear hb hsl hdd
              have HB7 := HQn.out.set nd (.int .i64 0)
              rw [tenA_upd _ _ _ lt10] at HB7
              have HA7 := HAn.out.setOther (a := ⟨bq, nd, none⟩) hne (.int .i64 0)
              have b7 := bn.out.setCell (p := ⟨bq, nd, none⟩) hbq (.int .i64 0)
              have B7 := Lib.hid (Bn.out.setCell (p := ⟨bq, nd, none⟩) hbw (.int .i64 0))
              have hc7 := hmem.out (updF (setF xs) nd 0) _ b7
              obtain ⟨w7, hw7⟩ : ∃ u, w6.setCell ⟨bq, nd, none⟩ (.int .i64 0) = u := ⟨_, rfl⟩
              rw [hw7] at HB7 HA7 b7 B7 hc7
              have hw7' := Lib.hid hw7
              rw [show selL (fun j => updF (setF xs) nd 0 j == 1) (nbL g.n.toNat (edgesOf g.e)).length = selL (fun j => updF (setF xs) nd 0 j == 1) g.n.toNat from (by rw [hnl'.out]), hs0.out] at hc7
              clear hw7 b7
              go_wp2_with fail
              (with_reducible refine hcn.mono ?_)
              rintro e w6' ⟨rfl, rfl⟩
              go_upto_region 13 with (fail)
              rw [hw7'.out]
              clear hw7' tn fn
              have hs7 := B7.out.size
              obtain ⟨⟨z0, z1, z2, z3, z4⟩, -⟩ := HA7.five
              obtain ⟨⟨t0, t1, t2, t3, t4, t5, t6, t7, t8, t9⟩, -⟩ := HB7.tens
              clear HA7 HB7
              go_wp2_with fail
              (with_reducible refine hc7.mono ?_)
              rintro e w8 ⟨rv, rfl, hown, b8⟩
              have hown' := Lib.hid hown
              have B8 := Lib.hid (B7.out.trans (b8.mono hs7))
              clear hown b8 hc7
              go_wp2
              go_ret2
              rw [hr.out]
              exact ⟨_, rfl, (Own.of (ownsRow_lower hown'.out hs7) (Nat.le_refl _)).minei, B8.out⟩
            · rw [hb] at hcn
              have hs0 := Lib.hid (show selL (fun j => updF (updF (setF xs) nd 0) nd 1 j == 1) g.n.toNat = chL (draw == 0) (edgesOf g.e) xs nd by rw [← hsl.out, hb, hdd]; rfl)
              clear hb hsl hdd
              have HB6 := HQn.out.set nd (.int .i64 0)
              rw [tenA_upd _ _ _ lt10] at HB6
              have tn2 := HB6.ten nd lt10
              have fn2 := HB6.frozen nd
              have HB7 := HB6.set nd (.int .i64 1)
              rw [tenA_upd _ _ _ lt10] at HB7
              have HA7 := (HAn.out.setOther (a := ⟨bq, nd, none⟩) hne (.int .i64 0)).setOther (a := ⟨bq, nd, none⟩) hne (.int .i64 1)
              have b7 := (bn.out.setCell (p := ⟨bq, nd, none⟩) hbq (.int .i64 0)).setCell (p := ⟨bq, nd, none⟩) hbq (.int .i64 1)
              have B7 := Lib.hid ((Bn.out.setCell (p := ⟨bq, nd, none⟩) hbw (.int .i64 0)).setCell (p := ⟨bq, nd, none⟩) hbw (.int .i64 1))
              have hc7 := hmem.out (updF (updF (setF xs) nd 0) nd 1) _ b7
              obtain ⟨w7, hw7⟩ : ∃ u, (w6.setCell ⟨bq, nd, none⟩ (.int .i64 0)).setCell ⟨bq, nd, none⟩ (.int .i64 1) = u := ⟨_, rfl⟩
              rw [hw7] at HB7 HA7 b7 B7 hc7
              have hw7' := Lib.hid hw7
              rw [show selL (fun j => updF (updF (setF xs) nd 0) nd 1 j == 1) (nbL g.n.toNat (edgesOf g.e)).length = selL (fun j => updF (updF (setF xs) nd 0) nd 1 j == 1) g.n.toNat from (by rw [hnl'.out]), hs0.out] at hc7
              clear hw7 b7 HB6
              go_wp2_with fail
              (with_reducible refine hcn.mono ?_)
              rintro e w6' ⟨rfl, rfl⟩
              go_upto_region 13 with (fail)
              rw [hw7'.out]
              clear hw7' tn fn tn2 fn2
              have hs7 := B7.out.size
              obtain ⟨⟨z0, z1, z2, z3, z4⟩, -⟩ := HA7.five
              obtain ⟨⟨t0, t1, t2, t3, t4, t5, t6, t7, t8, t9⟩, -⟩ := HB7.tens
              clear HA7 HB7
              go_wp2_with fail
              (with_reducible refine hc7.mono ?_)
              rintro e w8 ⟨rv, rfl, hown, b8⟩
              have hown' := Lib.hid hown
              have B8 := Lib.hid (B7.out.trans (b8.mono hs7))
              clear hown b8 hc7
              go_wp2
              go_ret2
              rw [hr.out]
              exact ⟨_, rfl, (Own.of (ownsRow_lower hown'.out hs7) (Nat.le_refl _)).minei, B8.out⟩
  · have hr := Lib.hid (show chOf g wt xs node draw = ([], rsCode g wt [xs]) by unfold chOf; rw [chCode_bad hc node draw, if_neg hc])
    generalize rsCode g wt [xs] = code at hc hr
    have hne : (code != 0) = true := by simpa using hc
    have b2 := below1 w1 (.cells pal0 68)
    have B1 := Lib.hid (B0.trans ((below_wt b1 b2).mono B0.size))
    clear hc b1 b2 hcall'
    go_wp2
    go_ret2
    rw [hr.out]
    exact ⟨_, rfl, nil_mine _ _ _ (Nat.le_refl _), B1.out⟩
end Go.Proofs.Ytfbhdlkiffoflaa
