/- BesideChain of the specification returns 'besOf'. Conditions: none on the chains beyond what is read. -/
import Derived.Test.YtepajimcnheofaaBeside
import Derived.Deep.AppendLies
import Derived.Deep.RegionHeld3
namespace Go.Proofs.Ytepajimcnheofaa
open Go.RowKit Go.Deep
set_option linter.unusedVariables false

set_option maxRecDepth 100000 in
set_option maxHeartbeats 16000000 in
theorem BesideChain_spec (cv dv : Value) (c d : Ch) (w : World) (hc : ChR w cv c) (hd : ChR w dv d) :
    Calls Try.prog 28 #[cv, dv] w fun e w' => ∃ rv, e = .returned (.tuple #[rv, .int .i64 (besOf c d).2]) ∧ ChOwn 37 2 w' w.heap.size w'.heap.size rv (besOf c d).1 ∧ Below w.heap.size w w' := by
  obtain ⟨a, cap, rfl⟩ := hc.shape
  obtain ⟨a', cap', rfl⟩ := hd.shape
  have B0 := below3 w (.cells #[.int .i64 c.n, .int .i64 c.t, .slice a c.w.length cap] 26) (.cells #[.int .i64 d.n, .int .i64 d.t, .slice a' d.w.length cap'] 26) (.cells #[.int .i64 0, .int .i64 0, .slice none 0 0] 26)
  have hB := ((Blk.new w #[.int .i64 c.n, .int .i64 c.t, .slice a c.w.length cap] 26).alloc (.cells #[.int .i64 d.n, .int .i64 d.t, .slice a' d.w.length cap'] 26)).alloc (.cells #[.int .i64 0, .int .i64 0, .slice none 0 0] 26)
  have hD := (Blk.new (w.alloc (.cells #[.int .i64 c.n, .int .i64 c.t, .slice a c.w.length cap] 26)) #[.int .i64 d.n, .int .i64 d.t, .slice a' d.w.length cap'] 26).alloc (.cells #[.int .i64 0, .int .i64 0, .slice none 0 0] 26)
  have hZ := Blk.new ((w.alloc (.cells #[.int .i64 c.n, .int .i64 c.t, .slice a c.w.length cap] 26)).alloc (.cells #[.int .i64 d.n, .int .i64 d.t, .slice a' d.w.length cap'] 26)) #[.int .i64 0, .int .i64 0, .slice none 0 0] 26
  simp only [World.size_alloc] at hZ hD
  have hszV := Lib.hid (show (((w.alloc (.cells #[.int .i64 c.n, .int .i64 c.t, .slice a c.w.length cap] 26)).alloc (.cells #[.int .i64 d.n, .int .i64 d.t, .slice a' d.w.length cap'] 26)).alloc (.cells #[.int .i64 0, .int .i64 0, .slice none 0 0] 26)).heap.size = w.heap.size + 3 by simp)
  obtain ⟨V, hV⟩ : ∃ V, ((w.alloc (.cells #[.int .i64 c.n, .int .i64 c.t, .slice a c.w.length cap] 26)).alloc (.cells #[.int .i64 d.n, .int .i64 d.t, .slice a' d.w.length cap'] 26)).alloc (.cells #[.int .i64 0, .int .i64 0, .slice none 0 0] 26) = V := ⟨_, rfl⟩
  rw [hV] at hB hD hZ B0 hszV
  have Pc : ChP V w.heap.size c := ⟨_, hB.cell 0, hB.cell 1, hB.cell 2, (hc.keep B0).rows⟩
  have Pd : ChP V (w.heap.size + 1) d := ⟨_, hD.cell 0, hD.cell 1, hD.cell 2, (hd.keep B0).rows⟩
  have hV' := Lib.hid hV
  clear hV
  by_cases oc : chOk c = true
  · by_cases od : chOk d = true
    · obtain ⟨n1, n2, t1, t2, hlen, hrows⟩ := chOk_all oc
      obtain ⟨m1, m2, u1, u2, hlen2, hrows2⟩ := chOk_all od
      obtain ⟨hp3, hp4⟩ := mul_bd (show 0 ≤ c.t by omega) t2 (show 0 ≤ d.t by omega) u2
      obtain ⟨hp5, hp6⟩ := mul_bd (show 0 ≤ c.n by omega) n2 (show 0 ≤ d.n by omega) m2
      have hr0 := Lib.hid (show besOf c d = lim (besCh c d) by simp [besOf, oc, od])
      have oc' := Lib.hid oc
      have od' := Lib.hid od
      have r1 := Lib.hid hrows
      have r2 := Lib.hid hrows2
      obtain ⟨N, hN⟩ : ∃ N : Nat, c.n = N := ⟨c.n.toNat, by omega⟩
      obtain ⟨M, hM⟩ : ∃ M : Nat, d.n = M := ⟨d.n.toNat, by omega⟩
      have hMp : 0 < M := by omega
      have hN6 : N ≤ 6 := by omega
      have hM6 : M ≤ 6 := by omega
      have hMt := Lib.hid (show d.n.toNat = M by omega)
      have hK : c.n * d.n = ((N * M : Nat) : Int) := by rw [hN, hM]; exact (Int.natCast_mul N M).symm
      obtain ⟨K, hKM⟩ : ∃ K, N * M = K := ⟨_, rfl⟩
      rw [hKM] at hK
      have hK36 : K ≤ 36 := by omega
      have hK' := Lib.hid hK
      have hKM' := Lib.hid hKM
      have hM' := Lib.hid hM
      have lc := Lib.hid (show c.w.length = N by omega)
      have ld := Lib.hid (show d.w.length = M by omega)
      have hN1 : 1 ≤ N := by omega
      have hM1 : 1 ≤ M := by omega
      obtain ⟨xb, xo, xcap, xr, hxv, xlt, hx⟩ := hc.rows.at (by omega)
      simp at hxv
      obtain ⟨rfl, rfl⟩ := hxv
      obtain ⟨yb, yo, ycap, yr, hyv, ylt, hy⟩ := hd.rows.at (by omega)
      simp at hyv
      obtain ⟨rfl, rfl⟩ := hyv
      have hx' := Lib.hid hx
      have hy' := Lib.hid hy
      have hrl := Lib.hid (show ∀ p, p < c.w.length → (c.w.getD p []).length = N from fun p hp => by have := (okRow_all (hrows _ (getD_mem (d := []) hp))).1; omega)
      have hrl2 := Lib.hid (show ∀ p, p < d.w.length → (d.w.getD p []).length = M from fun p hp => by have := (okRow_all (hrows2 _ (getD_mem (d := []) hp))).1; omega)
      clear hlen hlen2 hrows hrows2 oc od hN hM hK hKM hx hy hc hd
      go_enter Try.func28, Try.ntmps28
      go_wp2_with fail
      rw [hV'.out]
      refine (l01Ok_any _ c _ Pc).mono ?_
      rintro e w1 ⟨rfl, m, rfl⟩
      rw [oc'.out]
      go_wp2_with fail
      refine (l01Ok_any _ d _ (Pd.keep (below_drewN (Below.refl _ V) m))).mono ?_
      rintro e w1 ⟨rfl, mm, rfl⟩
      rw [od'.out]
      have BB := below_drewN (below_drewN B0 m) mm
      replace hB : Blk ((V.drewN m).drewN mm) _ _ _ := hB
      replace hD : Blk ((V.drewN m).drewN mm) _ _ _ := hD
      replace hZ : Blk ((V.drewN m).drewN mm) _ _ _ := hZ
      have hszW := Lib.hid (show ((V.drewN m).drewN mm).heap.size = w.heap.size + 3 from hszV.out)
      obtain ⟨W, hW⟩ : ∃ W, (V.drewN m).drewN mm = W := ⟨_, rfl⟩
      rw [hW] at BB hB hD hZ hszW
      try rw [hW]
      clear Pc Pd B0
      obtain ⟨p0, p1, p2⟩ := hB.three
      obtain ⟨q0, q1, q2⟩ := hD.three
      have hw1 : IntKind.i64.wrap (c.n * d.n) = c.n * d.n := wrap_id (by omega)
      have hw2 : IntKind.i64.wrap (c.t * d.t) = c.t * d.t := wrap_id (by omega)
      have hW0 := below1 W (.cells #[.int .i64 (c.n * d.n), .int .i64 (c.t * d.t), .slice none 0 0] 26)
      have hC : Blk (W.alloc (.cells #[.int .i64 (c.n * d.n), .int .i64 (c.t * d.t), .slice none 0 0] 26)) (w.heap.size + 3) #[.int .i64 (c.n * d.n), .int .i64 (c.t * d.t), .slice none 0 0] 26 := by
        have := Blk.new W #[.int .i64 (c.n * d.n), .int .i64 (c.t * d.t), .slice none 0 0] 26
        rw [hszW.out] at this
        exact this
      have hsz2 := Lib.hid (show (W.alloc (.cells #[.int .i64 (c.n * d.n), .int .i64 (c.t * d.t), .slice none 0 0] 26)).heap.size = w.heap.size + 4 by simp [hszW.out])
      go_upto_region 4 with fail
      rw [hszW.out]
      generalize W.alloc (.cells #[.int .i64 (c.n * d.n), .int .i64 (c.t * d.t), .slice none 0 0] 26) = X at *
      clear p0 p1 p2 q0 q1 q2 hw1 hw2
      go_wp2
      go_loopw [7] (fun i wr => ∃ (s : Nat) (sa : Option Addr) (scap : Nat) (rvs : List Value), s ≤ K ∧ i = .int .i64 s ∧ Blk wr (w.heap.size + 3) #[.int .i64 (c.n * d.n), .int .i64 (c.t * d.t), .slice sa s scap] 26 ∧
          MadeTo wr (w.heap.size + 4) wr.heap.size (.slice sa s scap) rvs ((List.range s).map fun s => (List.range K).map fun j => besF c d s j) ∧ Below W.heap.size W wr ∧ w.heap.size + 4 ≤ wr.heap.size) (fun i _ => K - (intOf i).toNat)
      case atStart => exact ⟨0, none, 0, [], Nat.zero_le _, rfl, hC, by simpa using MadeTo.start X (w.heap.size + 4), hW0, by have := hsz2.out; omega⟩
      case round =>
        obtain ⟨wo, rfl⟩ : ∃ wo : World, wo = wr := ⟨_, rfl⟩
        obtain ⟨s, sa, scap, rvs, hk, rfl, hC1, hM, hb1, hs1⟩ := hrel
        have hM2 := Lib.hid hM
        clear hM hW0 hC
        by_cases hlt : s < K
        · have sI : (s : Int) < c.n * d.n := by have := hK'.out; omega
          have s1 : s / M < N := (Nat.div_lt_iff_lt_mul hMp).2 (by have := hKM'.out; omega)
          have s2 : s % M < M := Nat.mod_lt _ hMp
          have k1 := Lib.hid (show (s : Int).tdiv d.n = ((s / M : Nat) : Int) by rw [hM'.out, Int.tdiv_eq_ediv_of_nonneg (by omega)]; rfl)
          have k3 := Lib.hid (show (s : Int).tmod d.n = ((s % M : Nat) : Int) by rw [hM'.out, Int.tmod_eq_emod_of_nonneg (by omega)]; rfl)
          have hbe := Lib.hid (show ∀ j, besF c d s j = (c.w.getD (s / M) []).getD (j / M) 0 * (d.w.getD (s % M) []).getD (j % M) 0 from fun j => by simp only [besF, hMt.out])
          have hbx := Lib.hid (fun j => w_bd oc'.out (s / M) j)
          have hby := Lib.hid (fun j => w_bd od'.out (s % M) j)
          generalize s / M = sp at s1 k1 hbe hbx
          generalize s % M = sq at s2 k3 hbe hby
          have spc : sp < c.w.length := by have := lc.out; omega
          have sqd : sq < d.w.length := by have := ld.out; omega
          have g1 : (sp : Int) < (c.w.length : Int) := by omega
          have g2 : (sq : Int) < (d.w.length : Int) := by omega
          obtain ⟨xcell, xrow⟩ := hx'.out sp spc
          obtain ⟨ycell, yrow⟩ := hy'.out sq sqd
          have rl1 := Lib.hid (hrl.out sp spc)
          have rl2 := Lib.hid (hrl2.out sq sqd)
          generalize c.w.getD sp [] = rowc at xrow hbe hbx rl1
          generalize d.w.getD sq [] = rowd at yrow hbe hby rl2
          generalize xr sp = xv at xcell xrow
          generalize yr sq = yv at ycell yrow
          obtain ⟨rb, ro, rcp, rfl, rlt, hxr⟩ := xrow.at (by have := rl1.out; omega)
          obtain ⟨tb, tof, tcp, rfl, tlt, hyr⟩ := yrow.at (by have := rl2.out; omega)
          have hxr' := Lib.hid hxr
          have hyr' := Lib.hid hyr
          have hbo := hb1.size
          obtain ⟨o0, o1, o2⟩ := hC1.three
          clear hxr hyr xrow yrow
          go_wp2
          clear o0 o1 o2
          go_loopw [8, 9] (fun v i wr => ∃ (j : Nat) (g gc : Nat), j ≤ K ∧ i = .int .i64 j ∧ v = .slice (some ⟨g, 0, none⟩) j gc ∧ wr.ownsRow wo.heap.size 2 1 (.slice (some ⟨g, 0, none⟩) j gc) j (ints ((List.range j).map fun j => besF c d s j)) ∧ Below wo.heap.size wo wr) (fun _ i _ => K - (intOf i).toNat)
          case atStart =>
            exact ⟨0, _, _, Nat.zero_le _, rfl, rfl, by simpa using World.ownsRow_made wo #[] 0 (Nat.le_refl _) (Nat.zero_le _) (by simp), below1 _ _⟩
          case round =>
            obtain ⟨j, g, gc, hj, rfl, rfl, hown, bel⟩ := hrel
            have belW : Below W.heap.size W wr := hb1.trans (bel.mono hbo)
            have hC2 := hC1.keep bel hC1.lt
            obtain ⟨o0, o1, o2⟩ := hC2.three
            by_cases hjlt : j < K
            · have jI : (j : Int) < c.n * d.n := by have := hK'.out; omega
              have j1 : j / M < N := (Nat.div_lt_iff_lt_mul hMp).2 (by have := hKM'.out; omega)
              have j2 : j % M < M := Nat.mod_lt _ hMp
              have k2 := Lib.hid (show (j : Int).tdiv d.n = ((j / M : Nat) : Int) by rw [hM'.out, Int.tdiv_eq_ediv_of_nonneg (by omega)]; rfl)
              have k4 := Lib.hid (show (j : Int).tmod d.n = ((j % M : Nat) : Int) by rw [hM'.out, Int.tmod_eq_emod_of_nonneg (by omega)]; rfl)
              have hbj := Lib.hid (hbe.out j)
              have hts := Lib.hid (range_map_succ (fun j => besF c d s j) j)
              generalize j / M = jp at j1 k2 hbj
              generalize j % M = jq at j2 k4 hbj
              have ex := hxr'.out jp (by have := rl1.out; omega)
              have ey := hyr'.out jq (by have := rl2.out; omega)
              have bx := hbx.out jp
              have by' := hby.out jq
              have g3 : (jp : Int) < (rowc.length : Int) := by have := rl1.out; omega
              have g4 : (jq : Int) < (rowd.length : Int) := by have := rl2.out; omega
              generalize rowc.getD jp 0 = x at ex bx hbj
              generalize rowd.getD jq 0 = y at ey by' hbj
              obtain ⟨x0, x1⟩ := bx
              obtain ⟨y0, y1⟩ := by'
              have v1 := mul_bd x0 (Int.le_trans x1 t2) y0 (Int.le_trans y1 u2)
              have hSw : ∀ (w' : World), Below W.heap.size W w' → w'.cell? ⟨w.heap.size, 2, none⟩ = some (.slice (some ⟨xb, xo, none⟩) c.w.length cap) ∧ w'.cell? ⟨w.heap.size + 1, 0, none⟩ = some (.int .i64 d.n) ∧ w'.cell? ⟨xb, xo + sp, none⟩ = some (.slice (some ⟨rb, ro, none⟩) rowc.length rcp) ∧ w'.cell? ⟨rb, ro + jp, none⟩ = some (.int .i64 x) ∧ w'.cell? ⟨w.heap.size + 1, 2, none⟩ = some (.slice (some ⟨yb, yo, none⟩) d.w.length cap') ∧ w'.cell? ⟨yb, yo + sq, none⟩ = some (.slice (some ⟨tb, tof, none⟩) rowd.length tcp) ∧ w'.cell? ⟨tb, tof + jq, none⟩ = some (.int .i64 y) := fun w' h =>
                have bw : Below w.heap.size w w' := below_wt BB h
                ⟨(hB.step h).cell 2, (hD.step h).cell 0, (bw.cell (p := ⟨xb, xo + sp, none⟩) xlt).trans xcell, (bw.cell (p := ⟨rb, ro + jp, none⟩) rlt).trans ex, (hD.step h).cell 2, (bw.cell (p := ⟨yb, yo + sq, none⟩) ylt).trans ycell, (bw.cell (p := ⟨tb, tof + jq, none⟩) tlt).trans ey⟩
              have hS := Lib.hid hSw
              clear hSw
              obtain ⟨y1c, y2c, y3c, y4c, y5c, y6c, y7c⟩ := hS.out wr belW
              have hsz := bel.size
              have wz1 : IntKind.i64.wrap ((sp : Nat) : Int) = sp := wrap_id (by omega)
              have wz2 : IntKind.i64.wrap ((sq : Nat) : Int) = sq := wrap_id (by omega)
              have wz3 : IntKind.i64.wrap ((jp : Nat) : Int) = jp := wrap_id (by omega)
              have wz4 : IntKind.i64.wrap ((jq : Nat) : Int) = jq := wrap_id (by omega)
              have wz5 : IntKind.i64.wrap (x * y) = x * y := wrap_id (by omega)
              have dn0 : (d.n == 0) = false := beq_eq_false_iff_ne.2 (by omega)
              have dn1 : ¬ d.n = 0 := by omega
              have d1 := k1.out
              have d2 := k2.out
              have d3 := k3.out
              have d4 := k4.out
              obtain ⟨i0, hi, hz0, hz1, hz2⟩ := info_parts Try.infoI
              have hi' := Lib.hid hi; have hz0' := Lib.hid hz0; have hz1' := Lib.hid hz1; have hz2' := Lib.hid hz2
              have hS1 := Lib.hid (hS.out _ (belW.alloc (by have := belW.size; omega) (.cells #[.int .i64 (x * y)] 2)))
              clear hi hz0 hz1 hz2 ex ey v1
              go_upto_region 11 with fail
              go_region_held3 (fun w' => w'.cell? ⟨w.heap.size, 2, none⟩ = some (.slice (some ⟨xb, xo, none⟩) c.w.length cap) ∧ w'.cell? ⟨w.heap.size + 1, 0, none⟩ = some (.int .i64 d.n) ∧ w'.cell? ⟨xb, xo + sp, none⟩ = some (.slice (some ⟨rb, ro, none⟩) rowc.length rcp) ∧ w'.cell? ⟨rb, ro + jp, none⟩ = some (.int .i64 x) ∧ w'.cell? ⟨w.heap.size + 1, 2, none⟩ = some (.slice (some ⟨yb, yo, none⟩) d.w.length cap') ∧ w'.cell? ⟨yb, yo + sq, none⟩ = some (.slice (some ⟨tb, tof, none⟩) rowd.length tcp) ∧ w'.cell? ⟨tb, tof + jq, none⟩ = some (.int .i64 y))
                (first | exact hS.out _ hb3 | exact hS1.out | go_keep)
                ((refine step_append_lies _ (by rfl) _ _ _ (by rfl) wo.heap.size 2 i0 (.int .i64 0) 1 8 Try.underlying37 hi'.out hz0'.out hz1'.out hz2'.out rfl (by omega) (.slice (some ⟨g, 0, none⟩) j gc) j _ (by rfl) ((hown.alloc _).drew)
                    ⟨wr.heap.size, 0, none⟩ 1 1 [.int .i64 (x * y)] (by rfl) (by rfl) (one_new _ _ _) (by simp [Value.oneCell']) (by omega) (by unfold maxLen; omega) (by omega) (by simp; omega) (wr.heap.size + 1) (by simp) ?_; intro gg cap2 w3 hown3 hgrow hat hlt3; have bel3 : Below wo.heap.size wo w3 := ((bel.alloc hsz _).drew).grown hgrow (by simp; omega) (fun k' hk' => (hown.lt k' hk').1); have hb3 := hb1.trans (bel3.mono hbo)))
              clear d1 d2 d3 d4 wz1 wz2 wz3 wz4 wz5
              go_wp2
              go_roundw
              case rel =>
                refine ⟨j + 1, gg, cap2, by omega, by go_num, rfl, ?_, bel3⟩
                rw [hts.out, hbj.out]
                simpa [ints] using hown3
              case measure => simp [intOf]; omega
            · obtain rfl : j = K := by omega
              have hjn : ¬ ((j : Int) < c.n * d.n) := by have := hK'.out; omega
              obtain ⟨i1, ki, kz0, kz1, kz2⟩ := info_parts Try.infoR
              have ki' := Lib.hid ki; have kz0' := Lib.hid kz0; have kz1' := Lib.hid kz1; have kz2' := Lib.hid kz2
              have hsz := bel.size
              have hrow : Own wr wo.heap.size wr.heap.size 2 _ (ints ((List.range j).map fun i => besF c d s i)) := Own.of hown (Nat.le_refl _)
              have hrow' := Lib.hid hrow
              have hM := hM2.out
              have hMown : wr.ownsRow (w.heap.size + 4) 37 1 (.slice sa s scap) s rvs := by
                have h1 := hM.own
                simp only [List.length_map, List.length_range] at h1
                refine ⟨h1.1, ?_⟩
                rcases h1.2 with h0 | ⟨g, cap, cur, hv, hgg, hh, r⟩
                · exact Or.inl h0
                · exact Or.inr ⟨g, cap, cur, hv, hgg, by rw [bel.block g (Array.getElem?_eq_some_iff.1 hh).1]; exact hh, r⟩
              have ltC := hC2.lt
              have q2' : ∀ o, (wr.alloc o).cell? ⟨w.heap.size + 3, 2, none⟩ = some (.slice sa s scap) := fun o => (World.cell?_alloc_past _ _ _ ltC).trans o2
              have hne : ∀ k', k' < w.heap.size + 4 → (Value.slice sa s scap).ownBlock ≠ some k' := fun k' hk' hh => by have := (ownsRow_type hMown hh).1; omega
              have hne' := Lib.hid hne
              clear hM hrow hown hne ki kz0 kz1 kz2
              go_wp2_with (at_builtin; (refine wpList_append_own _ rfl _ _ 22 rfl (w.heap.size + 4) 37 i1 (.slice none 0 0) 1 24 Try.underlying22 ki'.out kz0'.out kz1'.out kz2'.out rfl (by decide) _ _ _ rfl (hMown.alloc _) ⟨wr.heap.size, 0, none⟩ 1 1 [.slice (some ⟨g, 0, none⟩) j gc] rfl rfl (one_new _ _ _) (by simp [Value.oneCell']) (by unfold maxLen; omega) (by omega) (by simp; omega) ?_); intro v' w2 hown2 hgr2 _; obtain ⟨g2, c2, rfl⟩ := ownsRow_shape hown2 (by omega); have hC3 : Blk w2 (w.heap.size + 3) _ _ := (hgr2.block (w.heap.size + 3) (by simp; omega) (fun e => hne'.out _ (by omega) e.symm)).trans (hC2.alloc _); have hf3 := hC3.frozen 2; have hc3 := hC3.cell 2; simp at hc3)
              go_roundw
              case rel =>
                have hg2 := hgr2.size
                simp at hg2
                have res := MadeTo.step (v' := .slice (some ⟨g2, 0, none⟩) (s + 1) c2) (a := ⟨w.heap.size + 3, 2, none⟩) hM2.out bel hrow'.out (by omega) _ (by simpa using hown2) hgr2 (by show w.heap.size + 3 < w.heap.size + 4; omega) (.slice (some ⟨g2, 0, none⟩) (s + 1) c2)
                refine ⟨s + 1, some ⟨g2, 0, none⟩, c2, rvs ++ [.slice (some ⟨g, 0, none⟩) j gc], by omega, by go_num, ?_, ?_, ?_, by simp [World.setCell]; omega⟩
                · have := hC3.set 2 (.slice (some ⟨g2, 0, none⟩) (s + 1) c2)
                  simpa using this
                · rw [range_map_succ]
                  exact res
                · refine Below.setCell ?_ (by show W.heap.size ≤ w.heap.size + 3; have := hszW.out; omega) _
                  exact (belW.alloc (by have := belW.size; omega) _).grown hgr2 (by simp; have := belW.size; omega) (fun k' hk' => by have := (ownsRow_type hMown hk').1; have := hszW.out; omega)
              case measure => simp [intOf]; omega
        · obtain rfl : s = K := by omega
          have hkn : ¬ ((s : Int) < c.n * d.n) := by have := hK'.out; omega
          have hZ2 := hZ.keep hb1 hZ.lt
          have BBo := below_wt BB hb1
          have hres : besCh c d = ⟨c.n * d.n, c.t * d.t, rowsOf s (besF c d)⟩ := by unfold besCh; rw [hK'.out]; rfl
          have hch : ChOwn 37 2 wo (w.heap.size + 4) wo.heap.size (.agg #[.int .i64 (c.n * d.n), .int .i64 (c.t * d.t), .slice sa s scap]) (besCh c d) := by
            rw [hres]; exact ⟨_, rfl, hM2.out.done⟩
          have hmd := l01Made_any _ _ _ _ wo hch (Nat.le_refl _)
          clear hres hch
          obtain ⟨o0, o1, o2⟩ := hC1.three
          go_wp2_with fail
          refine hmd.mono ?_
          rintro e w5 ⟨rv, rfl, chr, b5⟩
          clear o0 o1 o2
          have hZ3 := hZ2.step b5
          have BB5 := below_wt BBo b5
          have hsz5 := b5.size
          have hlt3 := hZ2.lt
          obtain ⟨r, hr⟩ : ∃ r, lim (besCh c d) = r := ⟨_, rfl⟩
          rw [hr] at chr ⊢
          have hr2 := Lib.hid (hr0.out.trans hr)
          clear hr
          obtain ⟨rc, rk⟩ := r
          simp only at chr
          obtain ⟨ra, rcap, rfl⟩ := chr.shape
          obtain ⟨z0, z1, z2⟩ := hZ3.three
          have f0 := hZ3.frozen 0
          have f1 := hZ3.frozen 1
          have f2 := hZ3.frozen 2
          go_wp2
          refine bodyPost_ret (v := .tuple #[.agg #[.int .i64 rc.n, .int .i64 rc.t, .slice ra rc.w.length rcap], .int .i64 rk]) (by simp [results, Try.results28, go_sem, z0, z1, z2]) rfl ?_
          rw [hr2.out]
          have S5 := (ChMine.filled ⟨chr, b5.size⟩ (b := w.heap.size + 2) (Or.inl (by omega)) (.int .i64 rc.n) (.int .i64 rc.t) (.slice ra rc.w.length rcap))
          exact ⟨_, rfl, S5.own.wide (by omega) S5.le, Below.filled BB5 (by omega) _ _ _⟩
    · have od' : chOk d = false := by simpa using od
      have hr := Lib.hid (show besOf c d = (zeroCh, 1) by simp [besOf, od'])
      have oc' := Lib.hid oc
      have od2 := Lib.hid od'
      clear od oc od'
      go_enter Try.func28, Try.ntmps28
      go_wp2_with fail
      rw [hV'.out]
      refine (l01Ok_any _ c _ Pc).mono ?_
      rintro e w1 ⟨rfl, m, rfl⟩
      rw [oc'.out]
      go_wp2_with fail
      refine (l01Ok_any _ d _ (Pd.keep (below_drewN (Below.refl _ V) m))).mono ?_
      rintro e w1 ⟨rfl, mm, rfl⟩
      rw [od2.out]
      have BB := below_drewN (below_drewN B0 m) mm
      replace hZ : Blk ((V.drewN m).drewN mm) _ _ _ := hZ
      obtain ⟨W, hW⟩ : ∃ W, (V.drewN m).drewN mm = W := ⟨_, rfl⟩
      rw [hW] at BB hZ ⊢
      clear Pc Pd B0 hB hD
      obtain ⟨z0, z1, z2⟩ := hZ.three
      have f0 := hZ.frozen 0
      have f1 := hZ.frozen 1
      have f2 := hZ.frozen 2
      go_wp2
      refine bodyPost_ret (v := .tuple #[.agg #[.int .i64 0, .int .i64 0, .slice none 0 0], .int .i64 1]) (by simp [results, Try.results28, go_sem, z0, z1, z2]) rfl ?_
      rw [hr.out]
      exact ⟨_, rfl, zero_own _ _ _, Below.filled BB (by omega) _ _ _⟩
  · have oc' : chOk c = false := by simpa using oc
    have hr := Lib.hid (show besOf c d = (zeroCh, 1) by simp [besOf, oc'])
    have oc2 := Lib.hid oc'
    clear oc oc'
    go_enter Try.func28, Try.ntmps28
    go_wp2_with fail
    rw [hV'.out]
    refine (l01Ok_any _ c _ Pc).mono ?_
    rintro e w1 ⟨rfl, m, rfl⟩
    rw [oc2.out]
    have BB := below_drewN B0 m
    replace hZ : Blk (V.drewN m) _ _ _ := hZ
    obtain ⟨W, hW⟩ : ∃ W, V.drewN m = W := ⟨_, rfl⟩
    rw [hW] at BB hZ ⊢
    clear Pc Pd B0 hB hD
    obtain ⟨z0, z1, z2⟩ := hZ.three
    have f0 := hZ.frozen 0
    have f1 := hZ.frozen 1
    have f2 := hZ.frozen 2
    go_wp2
    refine bodyPost_ret (v := .tuple #[.agg #[.int .i64 0, .int .i64 0, .slice none 0 0], .int .i64 1]) (by simp [results, Try.results28, go_sem, z0, z1, z2]) rfl ?_
    rw [hr.out]
    exact ⟨_, rfl, zero_own _ _ _, Below.filled BB (by omega) _ _ _⟩
end Go.Proofs.Ytepajimcnheofaa
