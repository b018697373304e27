/- Out of the past, of the project. Conditions: told in each. -/
import Derived.Test.YtacnafjmcfcalaaPst
import Derived.StillTailTactics
namespace Go.Proofs.Ytacnafjmcfcalaa
open Go.RowKit Go.Deep
set_option linter.unusedVariables false

theorem backF_map {m : Ms} {n : Nat} (hn : m.n = (n : Int)) (hok : msOk m = true) {ps : List Int} (hp : pkIn m ps = true) : ∀ (i : Nat) (now : List Int), i ≤ ps.length → stIn m.n now → backF m ps now i = now.map fun s => (backF m ps (allS n) i).getD s.toNat 0
  | 0, now, _, h => by
    unfold backF
    refine List.ext_getElem (by simp) fun i h1 h2 => ?_
    have := h _ (List.getElem_mem h1)
    have hlt : (now[i]).toNat < n := by omega
    simp [allS, List.getD, hlt]; omega
  | i + 1, now, hi, h => by
    obtain ⟨a, b⟩ := pkIn_at hp i (by omega)
    have e1 := backF_map hn hok hp i _ (by omega) (byM_in hok h a b)
    have e2 := backF_map hn hok hp i _ (by omega) (byM_in hok (p := ps.getD i 0) (show stIn m.n (allS n) by rw [hn]; exact allS_in n) a b)
    conv => lhs; unfold backF
    rw [e1]
    conv => rhs; unfold backF
    rw [e2]
    unfold byM
    rw [List.map_map]
    refine List.map_congr_left fun s hs => ?_
    have := h s hs
    obtain ⟨q, rfl⟩ : ∃ q : Nat, s = (q : Int) := ⟨s.toNat, by omega⟩
    have hlt : q < n := by omega
    simp [allS, List.getD, hlt]
theorem back_step {m : Ms} {n : Nat} (hn : m.n = (n : Int)) (hok : msOk m = true) {ps : List Int} (hp : pkIn m ps = true) (i : Nat) (hi : i < ps.length) :
    mvThen n (pkMv m (ps.getD i 0)) (mvS (backF m ps (allS n) i) n) = mvS (backF m ps (allS n) (i + 1)) n := by
  obtain ⟨a, b⟩ := pkIn_at hp i hi
  have hall : stIn m.n (allS n) := by rw [hn]; exact allS_in n
  have e := backF_map hn hok hp i _ (by omega) (byM_in hok (p := ps.getD i 0) hall a b)
  obtain ⟨_, hl, hv⟩ := msOk_at hok (ps.getD i 0).toNat (by omega)
  funext s
  unfold mvThen mvS
  by_cases h : s < n
  · rw [if_pos h, if_pos h]
    have hb : 0 ≤ pkMv m (ps.getD i 0) s ∧ pkMv m (ps.getD i 0) s ≤ m.n - 1 := hv s (by omega)
    rw [if_pos (by omega)]
    conv => rhs; unfold backF
    rw [e]
    unfold byM
    simp [allS, List.getD, h, pkMv, mvOf]
  · rw [if_neg h, if_neg h]
theorem mvS_map (xs : List Int) (n : Nat) (hl : xs.length = n) : (allS n).map (fun x => mvS xs n x.toNat) = xs := by
  refine List.ext_getElem (by simp [allS, hl]) fun i h1 h2 => ?_
  have : i < n := by omega
  simp [allS, mvS, List.getD, this, h2]
theorem mvS_bd6 {xs : List Int} {n : Nat} (hn : n ≤ 6) (hl : xs.length = n) (h : stIn (n : Int) xs) : ∀ s, s < 6 → 0 ≤ mvS xs n s ∧ mvS xs n s < 6 := fun s hs => by
  by_cases hlt : s < n
  · exact mvS_bd hn hl h s hlt
  · unfold mvS; rw [if_neg hlt]; omega

set_option maxRecDepth 100000 in
set_option maxHeartbeats 8000000 in
theorem lookBack_any (N : Nat) (c : Ms) (ps : List Int) (mv : Value) (F : Nat) (may : Nat → Bool) (w : World) (hn : c.n = (N : Int)) (hok : msOk c = true) (hpin : pkIn c ps = true) (h200 : ps.length ≤ 200) (hmv : MovesL w mv (pkMvs c ps))
    (hcf : ∀ args w, (callFunc F args).run Try.prog w = .ok (.enter F args) w)
    (hmay0 : ∀ (W : World) (k : Nat), k ≤ ps.length → Calls Try.prog F #[.int .i64 k] W fun e W' => e = .returned (.bool (may k)) ∧ W = W') (R : Int × Int × Int) (hR : leastF (fun k => backF c ps (allS N) k) may 0 (ps.length + 1 - 0) = R) :
    Calls Try.prog 88 #[.int .i64 N, mv, .int .u8 (imgOf (allS N)), .func (.func F) #[] #[]] w fun e w' => e = .returned (.tuple #[.int .i64 R.1, .int .i64 R.2.1, .int .i64 R.2.2]) ∧ Below w.heap.size w w' := by
  obtain ⟨⟨n1, n2⟩, _⟩ := msOk_all hok
  have hmay := Lib.hid hmay0
  have hml := Lib.hid (show (pkMvs c ps).length = ps.length by simp [pkMvs])
  obtain ⟨ma, mcap, rfl⟩ : ∃ ma mcap, mv = .slice ma ps.length mcap := by obtain ⟨_, a, cap, h, _⟩ := hmv; exact ⟨a, cap, by rw [h, hml.out]⟩
  have hmv' := Lib.hid hmv
  have hms := Lib.hid (pkMvs_getD c ps)
  have hall : stIn c.n (allS N) := by rw [hn]; exact allS_in N
  have hall5 := Lib.hid (stIn_five hall (by omega))
  have hbl := Lib.hid (fun k => (backF_length c ps k (allS N)).trans (allS_length N))
  have hri := Lib.hid (fun k hk => stIn_five (backF_in hok hpin k (allS N) hk hall) (by omega))
  have hbd := Lib.hid (fun k (hk : k ≤ ps.length) => mvS_bd6 (by omega) (hbl.out k) (by rw [← hn]; exact backF_in hok hpin k (allS N) hk hall))
  have hmap := Lib.hid (fun k => mvS_map (backF c ps (allS N) k) N (hbl.out k))
  have hstp := Lib.hid (fun k hk => back_step hn hok hpin k hk)
  have hpb := Lib.hid (fun k (hk : k < ps.length) => mvOf_bd hok (pkIn_at hpin k hk).1 (pkIn_at hpin k hk).2)
  have hb0 := Lib.hid (show mvS (backF c ps (allS N) 0) N = mvStay N from mvS_zero N)
  have hst := stayingMove_any N w (by omega)
  have hR' := Lib.hid hR.symm
  clear hmay0 hmv hok hpin hall hR
  simp only [mvv, mvA] at hst
  go_enter Try.func88, Try.ntmps88
  go_wp2_with fail
  refine hst.mono ?_
  rintro e w1 ⟨rfl, b1⟩
  have hcm := composer_any N w1
  have hz1 := b1.size
  go_wp2_with fail
  refine hcm.mono ?_
  rintro e w2 ⟨rfl, rfl⟩
  have hC0 := (Blk.new w1 #[.int .i64 N] 2).alloc (.cells (mvA (mvStay N)) 100)
  have hB0 := Blk.new (w1.alloc (.cells #[.int .i64 N] 2)) (mvA (mvStay N)) 100
  simp only [World.size_alloc] at hB0
  have bb0 := below_wt b1 (below2 w1 (.cells #[.int .i64 N] 2) (.cells (mvA (mvStay N)) 100))
  clear b1 hst hcm
  go_wp2
  go_loopw [23] (fun i wr => ∃ k : Nat, k ≤ ps.length + 1 ∧ i = .int .i64 k ∧ Blk wr (w1.heap.size + 1) (mvA (mvS (backF c ps (allS N) (k - 1)) N)) 100 ∧ Blk wr w1.heap.size #[.int .i64 N] 2 ∧ Below w.heap.size w wr ∧ Hid (R = leastF (fun k => backF c ps (allS N) k) may k (ps.length + 1 - k))) (fun i _ => ps.length + 1 - (intOf i).toNat)
  case atStart => exact ⟨0, by omega, rfl, by show Blk _ _ (mvA (mvS (backF c ps (allS N) 0) N)) _; rw [hb0.out]; exact hB0, hC0, bb0, hR'⟩
  case round =>
    obtain ⟨k, hk, rfl, hBk, hCk, bel, hF⟩ := hrel
    by_cases hlt : k ≤ ps.length
    · rcases Nat.eq_zero_or_pos k with rfl | hpos
      · simp only [Nat.zero_sub] at hBk
        have hz0 : ((0 : Nat) : Int) = 0 := rfl
        have h5 := hri.out 0 hlt
        have hlk := hbl.out 0
        obtain ⟨s1, s2⟩ := sg_img h5 (by omega)
        have hsg := Lib.hid (fun W => single_any (imgOf (backF c ps (allS N) 0)) W (imgOf_lt h5))
        obtain ⟨p0, p1, p2, p3, p4, p5⟩ := hBk.mv6
        have hled := led_any (imgOf (allS N)) (mvS (backF c ps (allS N) 0) N) wr (imgOf_lt hall5.out) (hbd.out 0 hlt)
        rw [led_img hall5.out, hmap.out 0] at hled
        have hBh := Lib.hid hBk
        have hCh := Lib.hid hCk
        clear hBk hCk h5
        simp only [mvv, mvA] at hled
        generalize mvS (backF c ps (allS N) 0) N 0 = g0 at p0 hled
        generalize mvS (backF c ps (allS N) 0) N 1 = g1 at p1 hled
        generalize mvS (backF c ps (allS N) 0) N 2 = g2 at p2 hled
        generalize mvS (backF c ps (allS N) 0) N 3 = g3 at p3 hled
        generalize mvS (backF c ps (allS N) 0) N 4 = g4 at p4 hled
        generalize mvS (backF c ps (allS N) 0) N 5 = g5 at p5 hled
        have hled' := Lib.hid hled
        clear hled
        go_wp2_with fail
        refine hled'.out.mono ?_
        rintro e wq ⟨rfl, bq⟩
        have hsq := hsg.out wq
        have hmq := hmay.out wq 0 hlt
        have bel2 := Lib.hid (below_wt bel bq)
        have hBq := Lib.hid (hBh.out.keep bq hBh.out.lt)
        have hCq := Lib.hid (hCh.out.keep bq hCh.out.lt)
        clear bq bel p0 p1 p2 p3 p4 p5
        rcases he : eqAll (backF c ps (allS N) 0) with _ | _
        · have hF' := Lib.hid (hF.out.trans (leastF_no (run := fun k => backF c ps (allS N) k) (may := may) hlt (by simp only [he]; rfl)))
          rw [s1, he] at hsq
          clear he hF s1 s2 hmq
          go_wp2_with fail
          refine hsq.mono ?_
          rintro e wq2 ⟨rfl, rfl⟩
          go_wp2
          go_roundw
          case rel => exact ⟨0 + 1, by omega, by go_num, hBq.out, hCq.out, bel2.out, hF'⟩
          case measure => first | (simp [intOf]; omega) | (simp [intOf]; done)
        · rw [s1, he, s2 he] at hsq
          rcases hk2 : may 0 with _ | _
          · have hF' := Lib.hid (hF.out.trans (leastF_no (run := fun k => backF c ps (allS N) k) (may := may) hlt (by simp only [he, hk2]; rfl)))
            rw [hk2] at hmq
            clear he hF s1 s2 hk2
            go_wp2_with fail
            refine hsq.mono ?_
            rintro e wq2 ⟨rfl, rfl⟩
            go_wp2_with fail
            refine hmq.mono ?_
            rintro e wq3 ⟨rfl, rfl⟩
            go_wp2
            go_roundw
            case rel => exact ⟨0 + 1, by omega, by go_num, hBq.out, hCq.out, bel2.out, hF'⟩
            case measure => first | (simp [intOf]; omega) | (simp [intOf]; done)
          · have hF' := Lib.hid (hF.out.trans (leastF_yes (run := fun k => backF c ps (allS N) k) (may := may) hlt he hk2))
            rw [hk2] at hmq
            clear he hF s1 s2 hk2
            go_wp2_with fail
            refine hsq.mono ?_
            rintro e wq2 ⟨rfl, rfl⟩
            go_wp2_with fail
            refine hmq.mono ?_
            rintro e wq3 ⟨rfl, rfl⟩
            go_wp2
            go_ret3
            rw [hF'.out]
            exact ⟨rfl, bel2.out⟩
      · obtain ⟨j, rfl⟩ : ∃ j, k = j + 1 := ⟨k - 1, by omega⟩
        simp only [Nat.add_sub_cancel] at hBk
        obtain ⟨_, ma', mcap', hvv, hcm⟩ := hmv'.out.keep bel
        simp only [Value.slice.injEq] at hvv
        obtain ⟨rfl, -, rfl⟩ := hvv
        obtain ⟨mb, mo, rfl, hm6⟩ := hcm j (by rw [hml.out]; omega)
        have e0 := hm6 0 (by decide)
        have e1 := hm6 1 (by decide)
        have e2 := hm6 2 (by decide)
        have e3 := hm6 3 (by decide)
        have e4 := hm6 4 (by decide)
        have e5 := hm6 5 (by decide)
        rw [hms.out j (by omega)] at e0 e1 e2 e3 e4 e5
        rw [Nat.add_zero] at e0
        have hstj := Lib.hid (hstp.out j (by omega))
        have hgb := hpb.out j (by omega)
        obtain ⟨q0, q1, q2, q3, q4, q5⟩ := hBk.mv6
        have hC2 := hCk.keep (below_drew wr) hCk.lt
        have hcomp0 := compose_any N (pkMv c (ps.getD j 0)) (mvS (backF c ps (allS N) j) N) w1.heap.size wr.drew (hC2.cell 0) (by omega) (fun s hs => hgb s (by omega))
        rw [hstj.out] at hcomp0
        generalize pkMv c (ps.getD j 0) = f at e0 e1 e2 e3 e4 e5 hcomp0 hgb
        generalize mvS (backF c ps (allS N) j) N = g at q0 q1 q2 q3 q4 q5 hcomp0
        simp only [mvv, mvA] at hcomp0
        have hcomp := Lib.hid hcomp0
        have i1 : (j : Int) < (ps.length : Int) := by omega
        have i2 : (0 : Int) < ((j + 1 : Nat) : Int) := by omega
        have hcf2 := cf_cmp
        have hw : IntKind.i64.wrap (j : Int) = (j : Int) := by rw [IntKind.wrap_i64]; omega
        have hBd := Lib.hid (hBk.keep (below_drew wr) hBk.lt)
        have hCd := Lib.hid hC2
        have beld := Lib.hid (below_wt bel (below_drew wr))
        have hsz := bel.size
        have hltB := hBk.lt
        clear hm6 hcm hcomp0 hC2 hBk hCk bel
        go_upto_region 6 with fail
        go_still_tail 7, (by kernel_rfl)
        change wpList _ _ _ _ _ wr.drew
        generalize wr.drew = wd at *
        clear e0 e1 e2 e3 e4 e5 q0 q1 q2 q3 q4 q5
        go_wp2_with fail
        refine hcomp.out.mono ?_
        rintro e wz ⟨rfl, bz⟩
        have hBz := hBd.out.keep bz hBd.out.lt
        have hCz := hCd.out.keep bz hCd.out.lt
        have bel0 := below_wt beld.out bz
        obtain ⟨r0, r1, r2, r3, r4, r5⟩ := hBz.mv6
        have f0 := hBz.frozen 0
        have f1 := hBz.frozen 1
        have f2 := hBz.frozen 2
        have f3 := hBz.frozen 3
        have f4 := hBz.frozen 4
        have f5 := hBz.frozen 5
        have bel := Below.mvfill bel0 (b := w1.heap.size + 1) (by omega) (.int .i64 (mvS (backF c ps (allS N) (j + 1)) N 0)) (.int .i64 (mvS (backF c ps (allS N) (j + 1)) N 1)) (.int .i64 (mvS (backF c ps (allS N) (j + 1)) N 2)) (.int .i64 (mvS (backF c ps (allS N) (j + 1)) N 3)) (.int .i64 (mvS (backF c ps (allS N) (j + 1)) N 4)) (.int .i64 (mvS (backF c ps (allS N) (j + 1)) N 5))
        have hBk := Blk.mvfill hBz (.int .i64 (mvS (backF c ps (allS N) (j + 1)) N 0)) (.int .i64 (mvS (backF c ps (allS N) (j + 1)) N 1)) (.int .i64 (mvS (backF c ps (allS N) (j + 1)) N 2)) (.int .i64 (mvS (backF c ps (allS N) (j + 1)) N 3)) (.int .i64 (mvS (backF c ps (allS N) (j + 1)) N 4)) (.int .i64 (mvS (backF c ps (allS N) (j + 1)) N 5))
        have hCk := Blk.mvother hCz (b := w1.heap.size + 1) (by omega) (.int .i64 (mvS (backF c ps (allS N) (j + 1)) N 0)) (.int .i64 (mvS (backF c ps (allS N) (j + 1)) N 1)) (.int .i64 (mvS (backF c ps (allS N) (j + 1)) N 2)) (.int .i64 (mvS (backF c ps (allS N) (j + 1)) N 3)) (.int .i64 (mvS (backF c ps (allS N) (j + 1)) N 4)) (.int .i64 (mvS (backF c ps (allS N) (j + 1)) N 5))
        clear hBz hCz bel0 bz
        go_upto_region 7 with fail
        clear r0 r1 r2 r3 r4 r5 f0 f1 f2 f3 f4 f5
        obtain ⟨u, hu⟩ : ∃ u, ((((((wz.setCell ⟨w1.heap.size + 1, 0, none⟩ (.int .i64 (mvS (backF c ps (allS N) (j + 1)) N 0))).setCell ⟨w1.heap.size + 1, 1, none⟩ (.int .i64 (mvS (backF c ps (allS N) (j + 1)) N 1))).setCell ⟨w1.heap.size + 1, 2, none⟩ (.int .i64 (mvS (backF c ps (allS N) (j + 1)) N 2))).setCell ⟨w1.heap.size + 1, 3, none⟩ (.int .i64 (mvS (backF c ps (allS N) (j + 1)) N 3))).setCell ⟨w1.heap.size + 1, 4, none⟩ (.int .i64 (mvS (backF c ps (allS N) (j + 1)) N 4))).setCell ⟨w1.heap.size + 1, 5, none⟩ (.int .i64 (mvS (backF c ps (allS N) (j + 1)) N 5))) = u := ⟨_, rfl⟩
        rw [hu] at hBk hCk bel ⊢
        clear hu
        replace hBk : Blk u (w1.heap.size + 1) (mvA (mvS (backF c ps (allS N) (j + 1)) N)) 100 := hBk
        have h5 := hri.out (j + 1) hlt
        have hlk := hbl.out (j + 1)
        obtain ⟨s1, s2⟩ := sg_img h5 (by omega)
        have hsg := Lib.hid (fun W => single_any (imgOf (backF c ps (allS N) (j + 1))) W (imgOf_lt h5))
        obtain ⟨p0, p1, p2, p3, p4, p5⟩ := hBk.mv6
        have hled := led_any (imgOf (allS N)) (mvS (backF c ps (allS N) (j + 1)) N) u (imgOf_lt hall5.out) (hbd.out (j + 1) hlt)
        rw [led_img hall5.out, hmap.out (j + 1)] at hled
        have hBh := Lib.hid hBk
        have hCh := Lib.hid hCk
        clear hBk hCk h5
        simp only [mvv, mvA] at hled
        generalize mvS (backF c ps (allS N) (j + 1)) N 0 = g0 at p0 hled
        generalize mvS (backF c ps (allS N) (j + 1)) N 1 = g1 at p1 hled
        generalize mvS (backF c ps (allS N) (j + 1)) N 2 = g2 at p2 hled
        generalize mvS (backF c ps (allS N) (j + 1)) N 3 = g3 at p3 hled
        generalize mvS (backF c ps (allS N) (j + 1)) N 4 = g4 at p4 hled
        generalize mvS (backF c ps (allS N) (j + 1)) N 5 = g5 at p5 hled
        have hled' := Lib.hid hled
        clear hled
        go_wp2_with fail
        refine hled'.out.mono ?_
        rintro e wq ⟨rfl, bq⟩
        have hsq := hsg.out wq
        have hmq := hmay.out wq (j + 1) hlt
        have bel2 := Lib.hid (below_wt bel bq)
        have hBq := Lib.hid (hBh.out.keep bq hBh.out.lt)
        have hCq := Lib.hid (hCh.out.keep bq hCh.out.lt)
        clear bq bel p0 p1 p2 p3 p4 p5
        rcases he : eqAll (backF c ps (allS N) (j + 1)) with _ | _
        · have hF' := Lib.hid (hF.out.trans (leastF_no (run := fun k => backF c ps (allS N) k) (may := may) hlt (by simp only [he]; rfl)))
          rw [s1, he] at hsq
          clear he hF s1 s2 hmq
          go_wp2_with fail
          refine hsq.mono ?_
          rintro e wq2 ⟨rfl, rfl⟩
          go_wp2
          go_roundw
          case rel => exact ⟨(j + 1) + 1, by omega, by go_num, hBq.out, hCq.out, bel2.out, hF'⟩
          case measure => first | (simp [intOf]; omega) | (simp [intOf]; done)
        · rw [s1, he, s2 he] at hsq
          rcases hk2 : may (j + 1) with _ | _
          · have hF' := Lib.hid (hF.out.trans (leastF_no (run := fun k => backF c ps (allS N) k) (may := may) hlt (by simp only [he, hk2]; rfl)))
            rw [hk2] at hmq
            clear he hF s1 s2 hk2
            go_wp2_with fail
            refine hsq.mono ?_
            rintro e wq2 ⟨rfl, rfl⟩
            go_wp2_with fail
            refine hmq.mono ?_
            rintro e wq3 ⟨rfl, rfl⟩
            go_wp2
            go_roundw
            case rel => exact ⟨(j + 1) + 1, by omega, by go_num, hBq.out, hCq.out, bel2.out, hF'⟩
            case measure => first | (simp [intOf]; omega) | (simp [intOf]; done)
          · have hF' := Lib.hid (hF.out.trans (leastF_yes (run := fun k => backF c ps (allS N) k) (may := may) hlt he hk2))
            rw [hk2] at hmq
            clear he hF s1 s2 hk2
            go_wp2_with fail
            refine hsq.mono ?_
            rintro e wq2 ⟨rfl, rfl⟩
            go_wp2_with fail
            refine hmq.mono ?_
            rintro e wq3 ⟨rfl, rfl⟩
            go_wp2
            go_ret3
            rw [hF'.out]
            exact ⟨rfl, bel2.out⟩
    · obtain rfl : k = ps.length + 1 := by omega
      have hF' := Lib.hid (show R = (0, 0, 6) by rw [hF.out, Nat.sub_self]; rfl)
      go_wp2
      go_ret3
      rw [hF'.out]
      exact ⟨rfl, bel⟩
end Go.Proofs.Ytacnafjmcfcalaa
