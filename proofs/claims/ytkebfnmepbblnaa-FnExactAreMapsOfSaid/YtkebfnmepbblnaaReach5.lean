/- The project's matrix of truths: made from a chain, a row cloned, a detour. Conditions: the chain is valid. -/
import Derived.Test.YtkebfnmepbblnaaMat
import Derived.Test.YtkebfnmepbblnaaReach4
import Derived.WalkSpells
namespace Go.Proofs.Ytkebfnmepbblnaa
open Go.RowKit Go.Deep
set_option linter.unusedVariables false

theorem Try.infoT : (Try.prog.info? 212).map (fun i => (i.zero, i.size, i.bytes)) = some (some (.bool false), 1, 1) := by kernel_rfl
theorem Try.infoTR : (Try.prog.info? 213).map (fun i => (i.zero, i.size, i.bytes)) = some (some (.slice none 0 0), 1, 24) := by kernel_rfl

set_option maxHeartbeats 2000000 in
theorem detour_any (a i o r : Bool) (w : World) : Calls Try.prog 219 #[.bool a, .bool i, .bool o, .bool r] w fun e w' => e = .returned (.bool (a || (i && r))) ∧ w = w' := by
  cases a <;> cases i <;> cases r
  all_goals
    go_enter Try.func219, Try.ntmps219
    go_wp2
    go_ret
    exact ⟨rfl, rfl⟩

set_option maxHeartbeats 1000000 in
theorem positive_any (x : Int) (w : World) : Calls Try.prog 199 #[.int .i64 x] w fun e w' => e = .returned (.bool (decide (0 < x))) ∧ w = w' := by
  go_enter Try.func199, Try.ntmps199
  go_wp2
  go_ret
  exact ⟨rfl, rfl⟩

set_option maxHeartbeats 4000000 in
theorem cloneT_any (v : Value) (vs : List Value) (w : World) (hv : Row w v vs) (hne : 0 < vs.length) (hs : vs.length ≤ 1000) (h1 : ∀ u ∈ vs, u.oneCell' = true) :
    Calls Try.prog 201 #[v] w fun e w' => ∃ rv, e = .returned rv ∧ w'.ownsRow w.heap.size 212 1 rv vs.length vs ∧ Below w.heap.size w w' := by
  obtain ⟨b, off, cap, rfl, hb, hc⟩ := hv.at hne
  obtain ⟨i0, hi, hz0, hz1, hz2⟩ := info_parts Try.infoT
  have hi' := Lib.hid hi; have hz0' := Lib.hid hz0; have hz1' := Lib.hid hz1; have hz2' := Lib.hid hz2
  have hc' := Lib.hid hc
  have h1' := Lib.hid h1
  clear hi hz0 hz1 hz2 hv hc h1
  have hown : (w.alloc (.cells #[] 212)).ownsRow w.heap.size 212 1 (.slice (some ⟨w.heap.size, 0, none⟩) 0 0) 0 [] := World.ownsRow_made w #[] 0 (Nat.le_refl _) (Nat.zero_le _) (by simp)
  have hown' := Lib.hid hown
  have hnews := Lib.hid (show ∀ j u, vs[j]? = some u → (w.alloc (.cells #[] 212)).cell? ((⟨b, off, none⟩ : Addr).add j) = some u by
    intro j u hu
    have hj := (List.getElem?_eq_some_iff.1 hu).1
    rw [Addr.add_lit, World.cell?_alloc_past _ _ _ hb, hc'.out j hj]
    simp [List.getD, hu])
  clear hown
  have qT : ∀ (w : World) (a : Addr) (n c : Nat), (binOp .eql 213 (.slice (some a) n c) (.slice none 0 0)).run Try.prog w = .ok (.bool false) w := fun w a n c => Lib.run_eql_slice_nil w _ _ (some a) n c 0 0 Try.underlying213
  go_enter Try.func201, Try.ntmps201
  go_wp2_with (at_builtin; (refine wpList_append_own _ rfl _ _ 213 rfl w.heap.size 212 i0 (.bool false) 1 1 Try.underlying213 hi'.out hz0'.out hz1'.out hz2'.out rfl (by decide) (.slice (some ⟨w.heap.size, 0, none⟩) 0 0) 0 [] rfl hown'.out ⟨b, off, none⟩ vs.length cap vs rfl (by simp) hnews.out h1'.out (by unfold maxLen; omega) (by omega) (by simp) ?_); intro v' w5 hown5 hgr5 _)
  go_ret
  refine ⟨_, rfl, by simpa using hown5, (below1 w _).grown hgr5 (by simp) (fun k' hk' => by simp [Value.ownBlock] at hk'; omega)⟩

theorem make_rows (n : Int) (h0 : 0 ≤ n) (h1 : n ≤ 1000000) : ∀ u : World, (Instr.makeSlice 175 (.int .i64 0) (.int .i64 n)).run Try.prog u =
    .ok (.slice (some ⟨u.heap.size, 0, none⟩) 0 n.toNat) (u.alloc (.cells (madeCells #[.slice none 0 0] n.toNat) 213)) := fun u => by
  obtain ⟨i0, hi, hz0, hz1, hz2⟩ := info_parts Try.infoTR
  have h := run_make (P := Try.prog) u 175 213 i0 (.slice none 0 0) Try.underlying175 hi hz0 .i64 .i64 0 n (by omega) h0 (by rw [hz2]; omega) (by omega)
  simpa [hz1, Value.cells] using h
theorem make_row (n : Int) (h0 : 0 ≤ n) (h1 : n ≤ 1000000) : ∀ u : World, (Instr.makeSlice 213 (.int .i64 0) (.int .i64 n)).run Try.prog u =
    .ok (.slice (some ⟨u.heap.size, 0, none⟩) 0 n.toNat) (u.alloc (.cells (madeCells #[.bool false] n.toNat) 212)) := fun u => by
  obtain ⟨i0, hi, hz0, hz1, hz2⟩ := info_parts Try.infoT
  have h := run_make (P := Try.prog) u 213 212 i0 (.bool false) Try.underlying213 hi hz0 .i64 .i64 0 n (by omega) h0 (by rw [hz2]; omega) (by omega)
  simpa [hz1, Value.cells] using h
theorem tabV_succ (k m : Nat) (f : Nat → Nat → Value) : tabV (k + 1) m f = tabV k m f ++ [(List.range m).map fun b => f k b] := range_map_succ _ k
def tr (M : Nat → Nat → Bool) (a b : Nat) : Value := .bool (M a b)

set_option maxRecDepth 100000 in
set_option maxHeartbeats 8000000 in
theorem stepsOf_any (cv : Value) (c : Ch) (w : World) (hc : ChR w cv c) (oc : chOk c = true) :
    Calls Try.prog 198 #[cv, .func (.func 199) #[] #[]] w fun e w' => ∃ v rvs, e = .returned v ∧ MadeV 213 212 w' w.heap.size w'.heap.size v rvs (tabV c.w.length c.w.length (tr (edge c))) ∧ Below w.heap.size w w' := by
  obtain ⟨a, cap, rfl⟩ := hc.shape
  obtain ⟨n1, n2, t1, t2, hlen, hrows⟩ := chOk_all oc
  have B0 := below1 w (.cells #[.int .i64 c.n, .int .i64 c.t, .slice a c.w.length cap] 29)
  have hB := Blk.new w #[.int .i64 c.n, .int .i64 c.t, .slice a c.w.length cap] 29
  have hR := hc.rows
  obtain ⟨N, hN⟩ : ∃ N, c.w.length = N := ⟨_, rfl⟩
  have hnN : c.n = (N : Int) := by omega
  have hN1 : 1 ≤ N := by omega
  have hN6 : N ≤ 6 := by omega
  have hmkR := make_rows (N : Int) (by omega) (by omega)
  have hmkT := make_row (N : Int) (by omega) (by omega)
  rw [hN, hnN] at B0 hB
  rw [hnN] at hlen
  obtain ⟨xb, xo, xc, xr, hxv, xlt, hx⟩ := hR.at (by omega)
  rw [hN] at hxv
  simp only [Value.slice.injEq] at hxv
  obtain ⟨rfl, -, rfl⟩ := hxv
  have hx' := Lib.hid hx
  have hN' := Lib.hid hN
  have hnN' := Lib.hid hnN
  have hrows' := Lib.hid hrows
  obtain ⟨i0, hi, hz0, hz1, hz2⟩ := info_parts Try.infoT
  have hi' := Lib.hid hi; have hz0' := Lib.hid hz0; have hz1' := Lib.hid hz1; have hz2' := Lib.hid hz2
  obtain ⟨i1, ki, kz0, kz1, kz2⟩ := info_parts Try.infoTR
  have ki' := Lib.hid ki; have kz0' := Lib.hid kz0; have kz1' := Lib.hid kz1; have kz2' := Lib.hid kz2
  rw [hnN]
  simp only [hN]
  clear hi hz0 hz1 hz2 ki kz0 kz1 kz2 hx hR hc hrows hnN hlen hN n1 n2 t1 t2 oc
  simp only [Int.toNat_natCast] at hmkR hmkT
  go_enter Try.func198, Try.ntmps198
  go_wp2
  have hM0 := MadeV.start 213 212 (w.alloc (.cells #[.int .i64 (N : Int), .int .i64 c.t, .slice (some ⟨xb, xo, none⟩) N cap] 29)) N (.slice none 0 0) (by unfold maxLen; omega)
  have hBB := hB.alloc (.cells (madeCells #[.slice none 0 0] N) 213)
  have hb2 := below2 w (.cells #[.int .i64 (N : Int), .int .i64 c.t, .slice (some ⟨xb, xo, none⟩) N cap] 29) (.cells (madeCells #[.slice none 0 0] N) 213)
  have hsz0 := Lib.hid (show ((w.alloc (.cells #[.int .i64 (N : Int), .int .i64 c.t, .slice (some ⟨xb, xo, none⟩) N cap] 29)).alloc (.cells (madeCells #[.slice none 0 0] N) 213)).heap.size = w.heap.size + 2 by simp)
  simp only [World.size_alloc] at hM0
  generalize ((w.alloc (.cells #[.int .i64 (N : Int), .int .i64 c.t, .slice (some ⟨xb, xo, none⟩) N cap] 29)).alloc (.cells (madeCells #[.slice none 0 0] N) 213)) = W at *
  have hM0' := Lib.hid hM0
  clear hM0 B0
  go_loopw [5, 17] (fun v i wr => ∃ (k g gcp : Nat) (rvs : List Value), k ≤ N ∧ i = .int .i64 (k : Int) ∧ v = .slice (some ⟨g, 0, none⟩) k gcp ∧ Hid (MadeV 213 212 wr (w.heap.size + 1) wr.heap.size (.slice (some ⟨g, 0, none⟩) k gcp) rvs (tabV k N (tr (edge c)))) ∧ Blk wr w.heap.size #[.int .i64 (N : Int), .int .i64 c.t, .slice (some ⟨xb, xo, none⟩) N cap] 29 ∧ Below w.heap.size w wr ∧ w.heap.size + 2 ≤ wr.heap.size) (fun _ i _ => N - (intOf i).toNat)
  case atStart =>
    refine ⟨0, w.heap.size + 1, N, [], Nat.zero_le _, rfl, rfl, Lib.hid ?_, hBB, hb2, by have := hsz0.out; omega⟩
    have h1 := hsz0.out
    have := hM0'.out
    simpa [tabV, h1] using this
  case round =>
    obtain ⟨wo, rfl⟩ : ∃ wo : World, wo = wr := ⟨_, rfl⟩
    obtain ⟨k, g, gcap, rvs, hk, rfl, rfl, hM, hBk, bel, hs2⟩ := hrel
    obtain ⟨q0, q1, q2⟩ := hBk.three
    by_cases hlt : k < N
    · have hkI : (k : Int) < (N : Int) := by omega
      have hkc : k < c.w.length := by have := hN'.out; omega
      obtain ⟨x1, xr1⟩ := hx'.out k hkc
      have xk := (bel.cell (p := ⟨xb, xo + k, none⟩) xlt).trans x1
      have hrl : (c.w.getD k []).length = N := by
        have := (okRow_all (hrows'.out _ (getD_mem (d := []) hkc))).1
        have := hnN'.out
        omega
      obtain ⟨yb, yo, yc, hyv, ylt, hy⟩ := xr1.at (by omega)
      rw [hrl] at hyv
      have hy' := Lib.hid hy
      have hed := Lib.hid (show ∀ j, edge c k j = decide (0 < (c.w.getD k []).getD j 0) from fun _ => rfl)
      generalize c.w.getD k [] = rowc at hed hrl hy'
      generalize xr k = xv at xk hyv
      subst hyv
      have hrl' := Lib.hid hrl
      clear hy hrl x1 xr1 hM0' hBB hb2
      go_wp2
      go_loopw [8, 26] (fun rv i wr => ∃ (j g1 c1 : Nat), j ≤ N ∧ i = .int .i64 (j : Int) ∧ rv = .slice (some ⟨g1, 0, none⟩) j c1 ∧ Hid (wr.ownsRow wo.heap.size 212 1 (.slice (some ⟨g1, 0, none⟩) j c1) j ((List.range j).map fun b => tr (edge c) k b)) ∧ Below wo.heap.size wo wr) (fun _ i _ => N - (intOf i).toNat)
      case atStart =>
        exact ⟨0, _, _, Nat.zero_le _, rfl, rfl, Lib.hid (by simpa using World.ownsRow_made wo (madeCells #[.bool false] N) N (Nat.le_refl _) (by unfold maxLen; omega) (by rw [size_madeCells]; omega)), below1 _ _⟩
      case round =>
        obtain ⟨wi, rfl⟩ : ∃ wi : World, wi = wr := ⟨_, rfl⟩
        obtain ⟨j, g1, c1, hj, rfl, rfl, hown, bel2⟩ := hrel
        have hsz2 := bel2.size
        by_cases hjlt : j < N
        · have hjI : (j : Int) < (N : Int) := by omega
          have yj : wi.cell? ⟨yb, yo + j, none⟩ = _ := ((below_wt bel (bel2.mono (Nat.le_refl _))).cell (p := ⟨yb, yo + j, none⟩) ylt).trans (hy'.out j (by have := hrl'.out; omega))
          have hsn := Lib.hid (range_map_succ (fun b => tr (edge c) k b) j)
          have hcall := positive_any (rowc.getD j 0) wi
          rw [← hed.out j] at hcall
          have htr := Lib.hid (show tr (edge c) k j = .bool (edge c k j) from rfl)
          generalize rowc.getD j 0 = xv at yj hcall
          generalize edge c k j = bv at hcall htr
          go_wp2_with (first | ((with_reducible refine hcall.mono ?_); rintro e w' ⟨rfl, rfl⟩) | (at_builtin; (refine wpList_append_own _ rfl _ _ 213 rfl wo.heap.size 212 i0 (.bool false) 1 1 Try.underlying213 hi'.out hz0'.out hz1'.out hz2'.out rfl (by decide) (.slice (some ⟨g1, 0, none⟩) j c1) _ _ rfl (hown.out.alloc _) ⟨wi.heap.size, 0, none⟩ 1 1 [.bool bv] rfl rfl (one_new _ _ _) (by simp [Value.oneCell']) (by unfold maxLen; omega) (by omega) (by simp; omega) ?_); intro v' w5 hown5 hgr5 _; obtain ⟨g5, c5, rfl, -⟩ := ownsRow_head hown5 (by omega)))
          go_roundw
          case rel =>
            refine ⟨j + 1, g5, c5, by omega, by go_num, rfl, Lib.hid ?_, (bel2.alloc hsz2 _).grown hgr5 (by simp; omega) (fun k' hk' => (ownsRow_type hown.out hk').1)⟩
            rw [hsn.out, htr.out]
            exact hown5
          case measure => simp [intOf]; omega
        · obtain rfl : j = N := by omega
          have hrow : Own wi wo.heap.size wi.heap.size 212 (.slice (some ⟨g1, 0, none⟩) j c1) ((List.range j).map fun b => tr (edge c) k b) := Own.of hown.out (Nat.le_refl _)
          have hrow' := Lib.hid hrow
          have hMo := hM.out.outer (bel2.mono (Nat.le_refl _))
          rw [tabV_len] at hMo
          have hMo' := Lib.hid hMo
          clear hrow hMo
          go_wp2_with (at_builtin; (refine wpList_append_own _ rfl _ _ 175 rfl (w.heap.size + 1) 213 i1 (.slice none 0 0) 1 24 Try.underlying175 ki'.out kz0'.out kz1'.out kz2'.out rfl (by decide) (.slice (some ⟨g, 0, none⟩) k gcap) _ _ rfl (hMo'.out.alloc _) ⟨wi.heap.size, 0, none⟩ 1 1 [.slice (some ⟨g1, 0, none⟩) j c1] rfl rfl (one_new _ _ _) (by simp [Value.oneCell']) (by unfold maxLen; omega) (by omega) (by simp; omega) ?_); intro v' w5 hown5 hgr5 _; obtain ⟨g5, c5, rfl, -⟩ := ownsRow_head hown5 (by omega))
          have hne : ∀ k', some k' = (Value.slice (some ⟨g, 0, none⟩) k gcap).ownBlock → w.heap.size + 1 ≤ k' := fun k' hk' => (ownsRow_type hMo'.out hk'.symm).1
          go_roundw
          case rel =>
            have hg5 := hgr5.size
            simp at hg5
            refine ⟨k + 1, g5, c5, rvs ++ [.slice (some ⟨g1, 0, none⟩) j c1], by omega, by go_num, rfl, Lib.hid ?_, ?_, ?_, by omega⟩
            · rw [tabV_succ]
              exact MadeV.step (by decide) hM.out bel2 hrow'.out (by omega) _ (by rw [tabV_len]; exact hown5) hgr5
            · exact (hgr5.block w.heap.size (by simp; omega) (fun e => by have := hne _ e; omega)).trans ((hBk.keep bel2 hBk.lt).alloc _)
            · exact ((below_wt bel bel2).alloc (by omega) _).grown hgr5 (by simp; omega) (fun k' hk' => by have := hne k' hk'.symm; omega)
          case measure => simp [intOf]; omega
    · obtain rfl : k = N := by omega
      go_wp2
      go_ret
      exact ⟨_, _, rfl, hM.out.wide (by omega) (Nat.le_refl _) (Nat.le_refl _), bel⟩
end Go.Proofs.Ytkebfnmepbblnaa
