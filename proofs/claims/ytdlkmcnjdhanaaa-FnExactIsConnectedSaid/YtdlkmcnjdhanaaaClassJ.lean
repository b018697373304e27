/- The closed classes in the project, and whether there is one class: closed, areOne, and ClassesOf, ClosedClasses, IsConnected. Conditions: none on the chain. -/
import Derived.Test.YtdlkmcnjdhanaaaClassI
import Derived.Test.YtdlkmcnjdhanaaaSame
import Derived.Deep.RegionHeld3
namespace Go.Proofs.Ytdlkmcnjdhanaaa
open Go.RowKit Go.Deep
set_option linter.unusedVariables false

theorem sel_first {p : Nat → Bool} {n s : Nat} (hs : s < n) (hp : p s = true) (hmin : ∀ y, y < s → p y = false) : (selL p n).getD 0 0 = (s : Int) := by
  have hm : s ∈ (List.range n).filter p := List.mem_filter.2 ⟨List.mem_range.2 hs, hp⟩
  unfold selL
  cases e : (List.range n).filter p with
  | nil => rw [e] at hm; simp at hm
  | cons x l =>
    have hx : x ∈ (List.range n).filter p := by rw [e]; simp
    rw [List.mem_filter] at hx
    have hsort : ((List.range n).filter p).Pairwise (· < ·) := List.Pairwise.filter _ List.pairwise_lt_range
    rw [e] at hsort hm
    have h1 : ¬ x < s := fun h => by rw [hmin x h] at hx; cases hx.2
    rcases List.mem_cons.1 hm with h | h
    · subst h; simp
    · have := (List.pairwise_cons.1 hsort).1 s h; omega
def clsL (r : Nat → Nat → Bool) (n k : Nat) : List Int := selL (fun t => num r t == k) n
theorem xsAt_succ (r : Nat → Nat → Bool) (n k : Nat) : xsAt r n (k + 1) = clsL r n k := by simp [xsAt, clsL]
def condK (r : Nat → Nat → Bool) (n k : Nat) : Bool := decide (clsL r n k = reL r n ((clsL r n k).getD 0 0).toNat)
def keptK (r : Nat → Nat → Bool) (n : Nat) : Nat → List Nat
  | 0 => []
  | k + 1 => if condK r n k then keptK r n k ++ [k] else keptK r n k
theorem keptK_yes {r : Nat → Nat → Bool} {n k : Nat} (h : condK r n k = true) : keptK r n (k + 1) = keptK r n k ++ [k] := by simp [keptK, h]
theorem keptK_no {r : Nat → Nat → Bool} {n k : Nat} (h : condK r n k = false) : keptK r n (k + 1) = keptK r n k := by simp [keptK, h]
theorem keptK_lt (r : Nat → Nat → Bool) (n k : Nat) : ∀ j ∈ keptK r n k, j < k := by
  induction k with
  | zero => simp [keptK]
  | succ k ih =>
    intro j hj
    cases h : condK r n k with
    | true =>
      rw [keptK_yes h, List.mem_append] at hj
      rcases hj with hj | hj
      · have := ih j hj; omega
      · simp at hj; omega
    | false => rw [keptK_no h] at hj; have := ih j hj; omega
theorem keptK_len (r : Nat → Nat → Bool) (n k : Nat) : (keptK r n k).length ≤ k := by
  induction k with
  | zero => exact Nat.le_refl _
  | succ k ih =>
    cases h : condK r n k with
    | true => rw [keptK_yes h, List.length_append]; simp only [List.length_cons, List.length_nil]; omega
    | false => rw [keptK_no h]; omega
theorem keptK_nodup (r : Nat → Nat → Bool) (n k : Nat) : (keptK r n k).Nodup := by
  induction k with
  | zero => simp [keptK]
  | succ k ih =>
    cases h : condK r n k with
    | true =>
      rw [keptK_yes h, List.nodup_append]
      refine ⟨ih, by simp, fun a ha b hb e => ?_⟩
      have := keptK_lt r n k a ha
      simp at hb
      omega
    | false => rw [keptK_no h]; exact ih
/-- the state with which a class begins -/
theorem cls_leader {n : Nat} {r : Nat → Nat → Bool} (P : Pre n r) {k : Nat} (hk : k < cnt r n) : ∃ s, s < n ∧ rep r s = true ∧ cnt r s = k ∧ num r s = k ∧ (clsL r n k).getD 0 0 = (s : Int) := by
  have hex : ∀ m, m ≤ n → k < cnt r m → ∃ s, s < m ∧ rep r s = true ∧ cnt r s = k := by
    intro m
    induction m with
    | zero => intro _ h; simp [cnt] at h
    | succ m ih =>
      intro hm h
      by_cases e : k < cnt r m
      · obtain ⟨s, h1, h2, h3⟩ := ih (by omega) e
        exact ⟨s, by omega, h2, h3⟩
      · cases hr : rep r m with
        | true => rw [cnt_yes hr] at h; exact ⟨m, by omega, hr, by omega⟩
        | false => rw [cnt_no hr] at h; omega
  obtain ⟨s, h1, h2, h3⟩ := hex n (Nat.le_refl _) hk
  have hn := num_rep P h1 h2
  refine ⟨s, h1, h2, h3, by omega, sel_first h1 (by simp; omega) fun y hy => ?_⟩
  rw [Bool.eq_false_iff]
  intro hc
  have h5 : num r y = num r s := by simp at hc; omega
  have := (num_mut P (by omega) h1).1 h5
  have h6 := rep_iff.1 h2 y hy
  rw [both_symm this] at h6; cases h6
theorem cond_rep {n : Nat} {r : Nat → Nat → Bool} (P : Pre n r) {s : Nat} (hs : s < n) (hr : rep r s = true) : condK r n (cnt r s) = closedB r n s ∧ (condK r n (cnt r s) = true → clsL r n (cnt r s) = reL r n s) := by
  have hk : cnt r s < cnt r n := cnt_lt hr hs
  obtain ⟨s', h1, h2, h3, h4, h5⟩ := cls_leader P hk
  have hss : s' = s := by
    rcases Nat.lt_trichotomy s' s with h | h | h
    · have := cnt_lt h2 h; omega
    · exact h
    · have := cnt_lt hr h; omega
  subst hss
  have hcl := class_closed P hs
  have hn : num r s' = cnt r s' := num_rep P hs hr
  rw [hn] at hcl
  have e : (((s' : Nat) : Int)).toNat = s' := by omega
  constructor
  · unfold condK
    rw [h5, e, Bool.eq_iff_iff, decide_eq_true_eq]
    exact hcl
  · intro h
    unfold condK at h
    rw [h5, e, decide_eq_true_eq] at h
    exact h
theorem kept_closed {n : Nat} {r : Nat → Nat → Bool} (P : Pre n r) : ∀ s, s ≤ n → (keptK r n (cnt r s)).map (clsL r n) = closedL r n s
  | 0, _ => rfl
  | s + 1, h => by
    have ih := kept_closed P s (by omega)
    cases hr : rep r s with
    | true =>
      obtain ⟨h1, h2⟩ := cond_rep P (s := s) (by omega) hr
      rw [cnt_yes hr]
      simp only [closedL, goodB, hr, Bool.true_and]
      cases hc : condK r n (cnt r s) with
      | true => rw [keptK_yes hc, ← h1, hc, List.map_append, ih]; simp [h2 hc]
      | false => rw [keptK_no hc, ← h1, hc, ih]; simp
    | false =>
      rw [cnt_no hr, ih]
      simp [closedL, goodB, hr]

/-- the rows that have been kept, in the world where they lie -/
theorem kept_rows {w wr : World} {bx mb lo1 hi1 N : Nat} {r : Nat → Nat → Bool} {mv v : Value} {rvs : List Value} {vs : Nat → Value} (hI : ClInv w wr bx mb lo1 hi1 N r mv rvs N vs) {w' : World} (hb : Below wr.heap.size wr w') {k L : Nat}
    (hL : (keptK r N k).length = L) (ho : w'.ownsRow wr.heap.size 26 1 v L ((keptK r N k).map fun j => vs (j + 1))) :
    MadeV 26 2 w' (bx + 1) w'.heap.size v ((keptK r N k).map fun j => vs (j + 1)) (((keptK r N k).map (clsL r N)).map ints) := by
  have hblt := hI.ci.blt
  have hrow : ∀ j, Own w' (bx + 1) wr.heap.size 2 (vs (j + 1)) (ints (clsL r N j)) := fun j => by
    have := (hI.ci.fam.own (j + 1)).keep (Nat.le_refl _) hb
    rw [xsAt_succ] at this
    exact this
  have hget : ∀ i, i < (keptK r N k).length → ((keptK r N k).map fun j => vs (j + 1)).getD i undef = vs ((keptK r N k).getD i 0 + 1) := fun i hi => by simp [List.getD, hi]
  have hget2 : ∀ i, i < (keptK r N k).length → (((keptK r N k).map (clsL r N)).map ints).getD i [] = ints (clsL r N ((keptK r N k).getD i 0)) := fun i hi => by simp [List.getD, hi]
  refine ⟨(Own.of ho (Nat.le_refl _)).wide (by omega) (Nat.le_refl _), by simp, fun i hi => ?_, fun i hi q hq hv => ?_, fun i j hi hj hne q hq => ?_, Nat.le_refl _⟩
  · have hi' : i < (keptK r N k).length := by simpa using hi
    rw [hget i hi', hget2 i hi']
    exact (hrow _).wide (Nat.le_refl _) hb.size
  · have hi' : i < (keptK r N k).length := by simpa using hi
    rw [hget i hi'] at hq
    have h1 := (hrow _).2.2 q hq
    have h2 := (ho.lt q hv).1
    omega
  · have hi' : i < (keptK r N k).length := by simpa using hi
    have hj' : j < (keptK r N k).length := by simpa using hj
    rw [hget i hi'] at hq
    rw [hget j hj']
    refine hI.ci.fam.far _ _ ?_ q hq
    intro e
    have h1 : (keptK r N k)[i] = (keptK r N k)[j] := by simp [List.getD, hi', hj'] at e; exact e
    have hpw := List.pairwise_iff_getElem.1 (keptK_nodup r N k)
    rcases Nat.lt_or_gt_of_ne hne with h | h
    · exact hpw i j hi' hj' h h1
    · exact hpw j i hj' hi' h h1.symm

set_option maxRecDepth 100000 in
set_option maxHeartbeats 16000000 in
theorem closed_any {w0 w : World} {bx mb lo1 hi1 N : Nat} {r : Nat → Nat → Bool} {mv nv : Value} {rvs : List Value} {vs : Nat → Value} (hI : ClInv w0 w bx mb lo1 hi1 N r mv rvs N vs) (P : Pre N r) (hN1 : 1 ≤ N) (hN6 : N ≤ 6) :
    Calls Try.prog 42 #[.agg #[mv, nv, .map (some mb)]] w fun e w' => ∃ v rv2, e = .returned v ∧ MadeV 26 2 w' (bx + 1) w'.heap.size v rv2 ((closedL r N N).map ints) ∧ Below w.heap.size w w' := by
  have hB := Blk.new w #[mv, nv, .map (some mb)] 62
  have B0 := below1 w (.cells #[mv, nv, .map (some mb)] 62)
  have hD := hI.ci.dense
  have hmat := hI.ci.mat
  obtain ⟨g, gcap, rfl, -, -⟩ := hmat.shape (by rw [tabV_len]; omega)
  rw [tabV_len] at hmat hI hB B0 ⊢
  have hmbl := hD.lt
  have hcn := cnt_le r N
  have hkc := Lib.hid (kept_closed P N (Nat.le_refl _))
  have hI' := Lib.hid hI
  have hmat' := Lib.hid hmat
  have hlead := Lib.hid (fun k hk => cls_leader P (k := k) hk)
  have hlen := len_dense (P := Try.prog) (hD.keep B0) Try.underMap
  rw [valsOf_len] at hlen
  have hlk := Lib.hid (fun (u : World) (hu : Below w.heap.size w u) k => by
    have := lookup_dense (P := Try.prog) (w := u) (hD.keep hu) Try.underMap Try.underKey (by kernel_rfl) k
    rw [valsOf_getD vs _ k hI.nil] at this
    exact this)
  obtain ⟨i0, hi, hz0, hz1, hz2⟩ := info_parts Try.infoLL
  have hi' := Lib.hid hi; have hz0' := Lib.hid hz0; have hz1' := Lib.hid hz1; have hz2' := Lib.hid hz2
  clear hI P hD hmat hi hz0 hz1 hz2
  obtain ⟨m, hm⟩ : ∃ m, cnt r N = m := ⟨_, rfl⟩
  rw [hm] at hcn hlen
  have hm' := Lib.hid hm
  clear hm
  go_enter Try.func42, Try.ntmps42
  go_wp2
  clear hlen
  go_loopw [3, 9] (fun ov i wr => ∃ (k L : Nat) (ao : Option Addr) (cp : Nat), k ≤ m ∧ i = .int .i64 (k : Int) ∧ ov = .slice ao L cp ∧ L ≤ k ∧ Hid ((keptK r N k).length = L) ∧ Hid (wr.ownsRow (w.heap.size + 1) 26 1 (.slice ao L cp) L ((keptK r N k).map fun j => vs (j + 1))) ∧ Blk wr w.heap.size #[.slice (some ⟨g, 0, none⟩) N gcap, nv, .map (some mb)] 62 ∧ Below w.heap.size w wr) (fun _ i _ => m - (intOf i).toNat)
  case atStart => exact ⟨0, 0, none, 0, Nat.zero_le _, rfl, rfl, Nat.le_refl _, Lib.hid rfl, Lib.hid (World.ownsRow_nil _ _ _ _), hB, B0⟩
  case round =>
    clear hB B0
    obtain ⟨wo, rfl⟩ : ∃ wo : World, wo = wr := ⟨_, rfl⟩
    obtain ⟨k, L, ao, cp, hk, rfl, rfl, hLk, hL, hown, hB, bel⟩ := hrel
    have hsz := bel.size
    by_cases hlt : k < m
    · have hkI : (k : Int) < (m : Int) := by omega
      obtain ⟨s, l1, l2, l3, l4, l5⟩ := hlead.out k (by rw [hm'.out]; exact hlt)
      have hlkk := hlk.out wo bel k
      have hrowk : Own wo (bx + 1) w.heap.size 2 (vs (k + 1)) (ints (clsL r N k)) := by
        have := (hI'.out.ci.fam.own (k + 1)).keep (Nat.le_refl _) bel
        rw [xsAt_succ] at this
        exact this
      have hcne : 0 < (clsL r N k).length := by
        have : (s : Int) ∈ clsL r N k := (sel_mem_nat l1).2 (by simp; omega)
        exact List.length_pos_of_mem this
      obtain ⟨gk, ck, ev, -, -, -, ec, -⟩ := hrowk.at (by simpa [ints] using hcne)
      have eN : (ints (clsL r N k)).length = (clsL r N k).length := by simp [ints]
      rw [eN] at ev
      have c0 : wo.cell? ⟨gk, 0, none⟩ = some (.int .i64 (s : Int)) := by
        rw [ec 0 (by simpa [ints] using hcne), ints_getD _ _ hcne, l5]
      have hev' := Lib.hid ev
      have hcond := Lib.hid (show condK r N k = decide (clsL r N k = selL (r s) N) by unfold condK reL; rw [l5]; rfl)
      have hclk : Ints wo (.slice (some ⟨gk, 0, none⟩) (clsL r N k).length ck) (clsL r N k) := by rw [← ev]; exact hrowk.row
      have hyes := Lib.hid (fun h => keptK_yes (r := r) (n := N) (k := k) h)
      have hno := Lib.hid (fun h => keptK_no (r := r) (n := N) (k := k) h)
      have hcl6 : (clsL r N k).length ≤ 6 := Nat.le_trans (sel_len _ _) hN6
      rw [ev] at hlkk
      have hrf := Lib.hid (fun u hu => reachedFrom_any (.slice (some ⟨g, 0, none⟩) N gcap) rvs N s lo1 hi1 r u (hmat'.out.keep hu) l1 hN6)
      have hx0 := hB.cell 0
      have hx2 := hB.cell 2
      simp only [List.getElem?_toArray, List.getElem?_cons_zero, List.getElem?_cons_succ] at hx0 hx2
      have hclk' := Lib.hid hclk
      have hLc : 0 < (clsL r N k).length := hcne
      clear l2 l3 l4 l5 hrowk ec eN ev hclk
      generalize hcc : clsL r N k = cl at *
      have hcc' := Lib.hid hcc
      obtain ⟨Lc, hLcl⟩ : ∃ n, cl.length = n := ⟨_, rfl⟩
      rw [hLcl] at hcne hLc hlkk hclk' hcl6 hev'
      have hLcI : (0 : Int) < (Lc : Int) := by omega
      clear hcc hLcl hcne
      have hbx := hB.lt
      go_upto_region 6 with fail
      go_region_held3 (fun w' => w'.cell? ⟨w.heap.size, 0, none⟩ = some (.slice (some ⟨g, 0, none⟩) N gcap) ∧ w'.cell? ⟨gk, 0, none⟩ = some (.int .i64 (s : Int))) (go_keep) (first | (go_at_call 35; (with_reducible refine (hrf.out _ (below_wt bel (Below.refl _ _).drew)).mono ?_); rintro e w5 ⟨rv5, rfl, hown5, b5⟩; have _k1 := (b5.cell (p := ⟨w.heap.size, 0, none⟩) hbx); have _k2 := (b5.cell (p := ⟨gk, 0, none⟩) (block_lt c0)); simp [hx0, c0] at _k1 _k2; have hown5' := Lib.hid hown5; clear hown5) | (go_at_call 61; (with_reducible refine (slEqual_any _ _ cl (selL (r s) N) _ (hclk'.out.keep (below_wt (Below.refl _ _).drew b5)) (owns_ints hown5'.out)).mono ?_); rintro e w6 ⟨rfl, m6, rfl⟩))
      all_goals
        have b6 : Below wo.heap.size wo (w5.drewN m6) := below_drewN ((Below.refl _ wo).drew.trans b5) m6
        have bel6 := below_wt bel b6
        have hB6 := hB.keep b6 hB.lt
        have hownA := Lib.hid (ownsRow_keep hown.out b6)
        have hsz6 := bel6.size
        have hB6l := hB6.lt
        rw [← hcond.out]
        clear _k1 _k2 hx0 hx2 c0 hlkk hrf b5 b6 hown hclk' hcond
        generalize w5.drewN m6 = w6 at *
        cases hcb : condK r N k with
        | true =>
          have hk2 := Lib.hid (hyes.out hcb)
          clear hcb
          go_wp2_with (at_builtin; (refine wpList_append_own _ rfl _ _ 22 rfl (w.heap.size + 1) 26 i0 (.slice none 0 0) 1 24 Try.underlying22 hi'.out hz0'.out hz1'.out hz2'.out rfl (by decide) (.slice ao L cp) _ _ rfl (hownA.out.alloc _) ⟨w6.heap.size, 0, none⟩ 1 1 [.slice (some ⟨gk, 0, none⟩) Lc ck] rfl rfl (one_new _ _ _) (by simp [Value.oneCell']) (by unfold maxLen; omega) (by omega) (by simp; omega) ?_); intro v' w7 hown7 hgr7 _; obtain ⟨g7, c7, rfl, -⟩ := ownsRow_head hown7 (by omega))
          go_roundw
          case rel =>
            have hB7 : Blk w7 w.heap.size _ _ := (hgr7.block w.heap.size (by simp; omega) (fun e => by have := (ownsRow_type hownA.out e.symm).1; omega)).trans (hB6.alloc _)
            refine ⟨k + 1, L + 1, some ⟨g7, 0, none⟩, c7, by omega, by go_num, rfl, by omega, Lib.hid (by rw [hk2.out, List.length_append, hL.out]; rfl), Lib.hid ?_, hB7, (bel6.alloc hsz6 _).grown hgr7 (by simp; omega) (fun k' hk' => by have := (ownsRow_type hownA.out hk').1; omega)⟩
            rw [hk2.out, List.map_append]
            simp only [List.map_cons, List.map_nil]
            rw [hev'.out]
            exact hown7
          case measure => simp [intOf]; omega
        | false =>
          have hk2 := Lib.hid (hno.out hcb)
          clear hcb
          go_wp2
          go_roundw
          case rel => exact ⟨k + 1, L, ao, cp, by omega, by go_num, rfl, by omega, Lib.hid (by rw [hk2.out]; exact hL.out), Lib.hid (by rw [hk2.out]; exact hownA.out), hB6, bel6⟩
          case measure => simp [intOf]; omega
    · obtain rfl : k = m := by omega
      go_wp2
      go_ret
      have := kept_rows hI'.out bel hL.out (hown.out.mono (by omega))
      rw [← hm'.out, hkc.out] at this
      exact ⟨_, _, rfl, this, bel⟩

theorem one_beq (m : Nat) : ((m : Int) == 1) = decide (m = 1) := by
  by_cases h : m = 1
  · simp [h]
  · have : ¬ ((m : Int) = 1) := by omega
    simp [h, this]
set_option maxHeartbeats 4000000 in
theorem areOne_any {w0 w : World} {bx mb lo1 hi1 N : Nat} {r : Nat → Nat → Bool} {mv nv : Value} {rvs : List Value} {vs : Nat → Value} (hI : ClInv w0 w bx mb lo1 hi1 N r mv rvs N vs) :
    Calls Try.prog 44 #[.agg #[mv, nv, .map (some mb)]] w fun e w' => e = .returned (.bool (joinedB r N)) ∧ Below w.heap.size w w' := by
  have hB := Blk.new w #[mv, nv, .map (some mb)] 62
  have B0 := below1 w (.cells #[mv, nv, .map (some mb)] 62)
  have hlen := len_dense (P := Try.prog) (hI.ci.dense.keep B0) Try.underMap
  rw [valsOf_len] at hlen
  have hj := Lib.hid (show joinedB r N = decide (cnt r N = 1) from rfl)
  have hone := Lib.hid (one_beq (cnt r N))
  have hx2 := hB.cell 2
  simp only [List.getElem?_toArray, List.getElem?_cons_zero, List.getElem?_cons_succ] at hx2
  clear hI
  generalize cnt r N = m at *
  go_enter Try.func44, Try.ntmps44
  go_wp2
  go_ret
  exact ⟨by rw [hj.out]; exact ret_bool hone.out, B0⟩

set_option maxHeartbeats 4000000 in
theorem ClassesOf_impl (cv : Value) (c : Ch) (w : World) (hc : ChR w cv c) :
    Calls Try.prog 18 #[cv] w fun e w' => ∃ rv, e = .returned (.tuple #[rv, .int .i64 (clsOf c).2]) ∧ IntsMine 2 w' w.heap.size w'.heap.size rv (clsOf c).1 ∧ Below w.heap.size w w' := by
  obtain ⟨a, cap, rfl⟩ := hc.shape
  have B0 := below1 w (.cells #[.int .i64 c.n, .int .i64 c.t, .slice a c.w.length cap] 29)
  have hB := Blk.new w #[.int .i64 c.n, .int .i64 c.t, .slice a c.w.length cap] 29
  have Kc := hc.keep B0
  have hv := ValidChain_impl _ c _ Kc
  by_cases oc : chOk c = true
  · rw [oc] at hv
    have hr := Lib.hid (show clsOf c = (numL (rchB c) c.w.length, 0) by simp [clsOf, oc])
    have hcl := Lib.hid (fun w1 b1 => classesOf_any _ c w1 (Kc.keep b1) oc)
    have hN := (show 1 ≤ c.w.length ∧ c.w.length ≤ 6 by obtain ⟨n1, n2, -, -, hlen, -⟩ := chOk_all oc; omega)
    obtain ⟨hN1, hN6⟩ := hN
    have hP := Lib.hid (pre_rch c)
    clear oc hc Kc
    go_enter Try.func18, Try.ntmps18
    go_wp2_with fail
    refine hv.mono ?_
    rintro e w1 ⟨rfl, b1⟩
    obtain ⟨q0, q1, q2⟩ := (hB.keep b1 hB.lt).three
    have bb1 := below_wt B0 b1
    go_wp2_with fail
    refine (hcl.out _ b1).mono ?_
    rintro e w2 ⟨mv, na, ncap, mb, bx, lo1, hi1, rvs, vs, rfl, hI, hv0, h1, h2, h3, h4⟩
    have hI' := Lib.hid hI
    have hv0' := Lib.hid hv0
    have bb2 := below_wt bb1 hI.ci.bel
    have hw1 := bb1.size
    clear hI hv0 q0 q1 q2
    have hfd : ∀ u : World, (Instr.field 62 (.agg #[mv, .slice na c.w.length ncap, .map (some mb)]) 1).run Try.prog u = .ok (.slice na c.w.length ncap) u := fun _ => by kernel_rfl
    go_wp2
    go_ret2
    rw [hr.out]
    have h0 : Own w2 (bx + 1) w2.heap.size 2 (vs 0) (ints (numL (rchB c) c.w.length)) := hI'.out.ci.fam.own 0
    rw [hv0'.out] at h0
    exact ⟨_, rfl, (h0.wide (by have := hI'.out.ci.lo; have := hI'.out.ci.le; omega) (Nat.le_refl _)).minei, bb2⟩
  · have oc' : chOk c = false := by simpa using oc
    rw [oc'] at hv
    have hr := Lib.hid (show clsOf c = ([], 1) by simp [clsOf, oc'])
    clear oc oc' hc Kc
    go_enter Try.func18, Try.ntmps18
    go_wp2_with fail
    refine hv.mono ?_
    rintro e w1 ⟨rfl, b1⟩
    go_wp2
    go_ret2
    rw [hr.out]
    exact ⟨_, rfl, nil_mine _ _, below_wt B0 b1⟩

set_option maxHeartbeats 4000000 in
theorem ClosedClasses_impl (cv : Value) (c : Ch) (w : World) (hc : ChR w cv c) :
    Calls Try.prog 20 #[cv] w fun e w' => ∃ rv, e = .returned (.tuple #[rv, .int .i64 (cloOf c).2]) ∧ OwnRows 26 2 w' w.heap.size w'.heap.size rv (cloOf c).1 ∧ Below w.heap.size w w' := by
  obtain ⟨a, cap, rfl⟩ := hc.shape
  have B0 := below1 w (.cells #[.int .i64 c.n, .int .i64 c.t, .slice a c.w.length cap] 29)
  have hB := Blk.new w #[.int .i64 c.n, .int .i64 c.t, .slice a c.w.length cap] 29
  have Kc := hc.keep B0
  have hv := ValidChain_impl _ c _ Kc
  by_cases oc : chOk c = true
  · rw [oc] at hv
    have hr := Lib.hid (show cloOf c = (closedL (rchB c) c.w.length c.w.length, 0) by simp [cloOf, oc])
    have hcl := Lib.hid (fun w1 b1 => classesOf_any _ c w1 (Kc.keep b1) oc)
    have hN := (show 1 ≤ c.w.length ∧ c.w.length ≤ 6 by obtain ⟨n1, n2, -, -, hlen, -⟩ := chOk_all oc; omega)
    obtain ⟨hN1, hN6⟩ := hN
    have hP := Lib.hid (pre_rch c)
    clear oc hc Kc
    go_enter Try.func20, Try.ntmps20
    go_wp2_with fail
    refine hv.mono ?_
    rintro e w1 ⟨rfl, b1⟩
    obtain ⟨q0, q1, q2⟩ := (hB.keep b1 hB.lt).three
    have bb1 := below_wt B0 b1
    go_wp2_with fail
    refine (hcl.out _ b1).mono ?_
    rintro e w2 ⟨mv, na, ncap, mb, bx, lo1, hi1, rvs, vs, rfl, hI, hv0, h1, h2, h3, h4⟩
    have hI' := Lib.hid hI
    have hv0' := Lib.hid hv0
    have bb2 := below_wt bb1 hI.ci.bel
    have hw1 := bb1.size
    clear hI hv0 q0 q1 q2
    go_wp2_with fail
    refine (closed_any hI'.out hP.out hN1 hN6).mono ?_
    rintro e w3 ⟨v3, rv3, rfl, hM, b3⟩
    have hM' := Lib.hid hM
    clear hM
    go_wp2
    go_ret2
    rw [hr.out]
    exact ⟨_, rfl, (hM'.out.wide (by have := hI'.out.ci.lo; have := hI'.out.ci.le; omega) (Nat.le_refl _) (Nat.le_refl _)).ownRows, below_wt bb2 b3⟩
  · have oc' : chOk c = false := by simpa using oc
    rw [oc'] at hv
    have hr := Lib.hid (show cloOf c = ([], 1) by simp [cloOf, oc'])
    clear oc oc' hc Kc
    go_enter Try.func20, Try.ntmps20
    go_wp2_with fail
    refine hv.mono ?_
    rintro e w1 ⟨rfl, b1⟩
    go_wp2
    go_ret2
    rw [hr.out]
    exact ⟨_, rfl, ⟨[], Own.of (World.ownsRow_nil _ _ _ _) (Nat.le_refl _), rfl, fun i hi => by simp at hi, fun i hi => by simp at hi, fun i j hi => by simp at hi⟩, below_wt B0 b1⟩

set_option maxHeartbeats 4000000 in
theorem IsConnected_impl (cv : Value) (c : Ch) (w : World) (hc : ChR w cv c) :
    Calls Try.prog 25 #[cv] w fun e w' => e = .returned (.tuple #[.bool (conOf c).1, .int .i64 (conOf c).2]) ∧ Below w.heap.size w w' := by
  obtain ⟨a, cap, rfl⟩ := hc.shape
  have B0 := below1 w (.cells #[.int .i64 c.n, .int .i64 c.t, .slice a c.w.length cap] 29)
  have hB := Blk.new w #[.int .i64 c.n, .int .i64 c.t, .slice a c.w.length cap] 29
  have Kc := hc.keep B0
  have hv := ValidChain_impl _ c _ Kc
  by_cases oc : chOk c = true
  · rw [oc] at hv
    have hr := Lib.hid (show conOf c = (joinedB (rchB c) c.w.length, 0) by simp [conOf, oc])
    have hcl := Lib.hid (fun w1 b1 => classesOf_any _ c w1 (Kc.keep b1) oc)
    have hN := (show 1 ≤ c.w.length ∧ c.w.length ≤ 6 by obtain ⟨n1, n2, -, -, hlen, -⟩ := chOk_all oc; omega)
    obtain ⟨hN1, hN6⟩ := hN
    have hP := Lib.hid (pre_rch c)
    clear oc hc Kc
    go_enter Try.func25, Try.ntmps25
    go_wp2_with fail
    refine hv.mono ?_
    rintro e w1 ⟨rfl, b1⟩
    obtain ⟨q0, q1, q2⟩ := (hB.keep b1 hB.lt).three
    have bb1 := below_wt B0 b1
    go_wp2_with fail
    refine (hcl.out _ b1).mono ?_
    rintro e w2 ⟨mv, na, ncap, mb, bx, lo1, hi1, rvs, vs, rfl, hI, hv0, h1, h2, h3, h4⟩
    have hI' := Lib.hid hI
    have hv0' := Lib.hid hv0
    have bb2 := below_wt bb1 hI.ci.bel
    have hw1 := bb1.size
    clear hI hv0 q0 q1 q2
    go_wp2_with fail
    refine (areOne_any hI'.out).mono ?_
    rintro e w3 ⟨rfl, b3⟩
    go_wp2
    go_ret2
    rw [hr.out]
    exact ⟨rfl, below_wt bb2 b3⟩
  · have oc' : chOk c = false := by simpa using oc
    rw [oc'] at hv
    have hr := Lib.hid (show conOf c = (false, 1) by simp [conOf, oc'])
    clear oc oc' hc Kc
    go_enter Try.func25, Try.ntmps25
    go_wp2_with fail
    refine hv.mono ?_
    rintro e w1 ⟨rfl, b1⟩
    go_wp2
    go_ret2
    rw [hr.out]
    exact ⟨rfl, below_wt B0 b1⟩
end Go.Proofs.Ytdlkmcnjdhanaaa
