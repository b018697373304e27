/- ForwardRun of the project. Conditions: none. -/
import Derived.Test.YtacnafjmcfcalaaFwd1
namespace Go.Proofs.Ytacnafjmcfcalaa
open Go.RowKit Go.Deep
set_option linter.unusedVariables false

theorem stIn_five {n : Int} {xs : List Int} (h : stIn n xs) (hn : n ≤ 6) : ∀ x ∈ xs, 0 ≤ x ∧ x ≤ 5 := fun x hx => by have := h x hx; omega
theorem byM_img (m : Ms) (xs : List Int) (p : Int) : (xs.map fun x => pkMv m p x.toNat) = byM m xs p := rfl
theorem mvOf_bd {m : Ms} (hok : msOk m = true) {p : Int} (p0 : 0 ≤ p) (p1 : p < (m.l.length : Int)) : ∀ k, k < 6 → 0 ≤ pkMv m p k ∧ pkMv m p k < 6 := by
  intro k hk
  obtain ⟨⟨n1, n2⟩, _⟩ := msOk_all hok
  obtain ⟨_, hl, hv⟩ := msOk_at hok p.toNat (by omega)
  unfold pkMv mvOf
  by_cases h : (k : Int) < m.n
  · have := hv k (by omega)
    omega
  · have : (m.l.getD p.toNat mp0).2.getD k 0 = 0 := by rw [List.getD_eq_getElem?_getD, List.getElem?_eq_none (by omega)]; rfl
    omega
set_option maxRecDepth 100000 in
set_option maxHeartbeats 4000000 in
theorem ForwardRun_impl (cv pv : Value) (c : Ms) (ps : List Int) (w : World) (hv : MsR w cv c) (hp : Ints w pv ps) :
    Calls Try.prog 18 #[cv, pv] w fun e w' => e = .returned (.tuple #[.int .i64 (fwdOf c ps).1, .int .i64 (fwdOf c ps).2.1, .int .i64 (fwdOf c ps).2.2]) ∧ Below w.heap.size w w' := by
  obtain ⟨v, rfl, hr⟩ := hv
  obtain ⟨n, t, l⟩ := c
  simp only at hr
  obtain ⟨hm, a, cap, rfl⟩ := hr.len
  obtain ⟨hm2, pa, pcap, rfl⟩ := hp.len
  unfold maxLen at hm2
  have B0 := below1 w (.cells #[.int .i64 n, .int .i64 t, .slice a l.length cap] 26)
  have hB := Blk.new w #[.int .i64 n, .int .i64 t, .slice a l.length cap] 26
  have hp' := hp.keep B0
  have hrp := readPicks_any (.agg #[.int .i64 n, .int .i64 t, .slice a l.length cap]) _ ⟨n, t, l⟩ ps _ ⟨_, rfl, hr.keep B0⟩ hp'
  by_cases hc : askC ⟨n, t, l⟩ ps = 0
  · obtain ⟨ok, pin, p200⟩ := askC_zero hc
    obtain ⟨⟨n1, n2⟩, _⟩ := msOk_all ok
    simp only at n1 n2
    obtain ⟨N, rfl⟩ : ∃ N : Nat, n = N := ⟨n.toNat, by omega⟩
    have hres := Lib.hid (show fwdOf ⟨(N : Int), t, l⟩ ps = leastF (fun k => runM ⟨(N : Int), t, l⟩ (allS N) ps k) (fun _ => true) 0 (ps.length + 1 - 0) by unfold fwdOf; rw [if_pos hc]; simp only [Int.toNat_natCast])
    rw [hc] at hrp
    have hrs := Lib.hid (fun k hk => runM_succ ⟨(N : Int), t, l⟩ (allS N) ps k hk)
    have hrl := Lib.hid (fun k => (runM_length ⟨(N : Int), t, l⟩ (allS N) ps k).trans (allS_length N))
    have hri := Lib.hid (fun k hk => stIn_five (runM_in ok (allS_in N) pin k hk) n2)
    have hpi := Lib.hid (fun k hk => pkIn_at pin k hk)
    have ok' := Lib.hid ok
    have hr0 := Lib.hid (show 2 ^ N - 1 = imgOf (runM ⟨(N : Int), t, l⟩ (allS N) ps 0) from (allS_img N).symm)
    have hms := Lib.hid (pkMvs_getD ⟨(N : Int), t, l⟩ ps)
    have hml := Lib.hid (show (pkMvs ⟨(N : Int), t, l⟩ ps).length = ps.length by simp [pkMvs])
    clear hc ok pin
    go_enter Try.func18, Try.ntmps18
    go_wp2_with fail
    refine hrp.mono ?_
    rintro e w1 ⟨ma, mk, mcap, rfl, b1, hmv0⟩
    obtain ⟨rfl, hmv⟩ := hmv0 (by first | rfl | trivial)
    have hB1 := hB.keep b1 hB.lt
    have hb1 := below_wt B0 b1
    have hz1 := hb1.size
    have hmv' := Lib.hid hmv
    clear b1 B0 hrp hr hp hp' hmv0 hmv
    have q0 := hB1.cell 0
    simp at q0
    have hwh := whole_any N w1 (by omega)
    rw [hr0.out] at hwh
    go_wp2_with fail
    refine hwh.mono ?_
    rintro e w2 ⟨rfl, rfl⟩
    clear q0
    go_wp2
    go_loopw [9, 28] (fun v i wr => ∃ k : Nat, k ≤ ps.length + 1 ∧ i = .int .i64 k ∧ v = .int .u8 (imgOf (runM ⟨(N : Int), t, l⟩ (allS N) ps (k - 1))) ∧ Below w1.heap.size w1 wr ∧ Hid (fwdOf ⟨(N : Int), t, l⟩ ps = leastF (fun k => runM ⟨(N : Int), t, l⟩ (allS N) ps k) (fun _ => true) k (ps.length + 1 - k))) (fun _ i _ => ps.length + 1 - (intOf i).toNat)
    case atStart => exact ⟨0, Nat.zero_le _, rfl, rfl, Below.refl _ _, hres.out⟩
    case round =>
      obtain ⟨k, hk, rfl, rfl, bel, hF⟩ := hrel
      have bfin := Lib.hid (below_wt hb1 bel)
      by_cases hlt : k ≤ ps.length
      · have h5 := hri.out k hlt
        have hlk := hrl.out k
        obtain ⟨s1, s2⟩ := sg_img h5 (by omega)
        have hsg := Lib.hid (fun W => single_any (imgOf (runM ⟨(N : Int), t, l⟩ (allS N) ps k)) W (imgOf_lt h5))
        rcases Nat.eq_zero_or_pos k with rfl | hpos
        · have hsq := hsg.out wr
          rw [s1] at hsq
          simp only [Nat.zero_sub]
          rcases he : eqAll (runM ⟨(N : Int), t, l⟩ (allS N) ps 0) with _ | _
          · rw [he] at hsq
            have hF' := Lib.hid (hF.out.trans (leastF_no (run := fun k => runM ⟨(N : Int), t, l⟩ (allS N) ps k) (may := fun _ => true) hlt (by simp only [he]; rfl)))
            clear he hF s1 s2 h5
            go_wp2_with fail
            refine hsq.mono ?_
            rintro e wq ⟨rfl, rfl⟩
            go_wp2
            go_roundw
            case rel => exact ⟨1, by omega, by go_num, rfl, bel, hF'⟩
            case measure => first | (simp [intOf]; omega) | (simp [intOf]; done)
          · rw [he, s2 he] at hsq
            have hF' := Lib.hid (hF.out.trans (leastF_yes (run := fun k => runM ⟨(N : Int), t, l⟩ (allS N) ps k) (may := fun _ => true) hlt he rfl))
            clear he hF s1 s2 h5
            go_wp2_with fail
            refine hsq.mono ?_
            rintro e wq ⟨rfl, rfl⟩
            go_wp2
            go_ret3
            exact fwd_fin _ hF'.out _ _ bfin.out _ rfl
        · obtain ⟨j, rfl⟩ : ∃ j, k = j + 1 := ⟨k - 1, by omega⟩
          simp only [Nat.add_sub_cancel]
          have h5j := hri.out j (by omega)
          obtain ⟨z0, z1⟩ := hpi.out j (by omega)
          obtain ⟨_, ma', mcap', hvv, hcm⟩ := hmv'.out.keep bel
          simp only [Value.slice.injEq] at hvv
          obtain ⟨rfl, -, rfl⟩ := hvv
          obtain ⟨mb, mo, rfl, hm6⟩ := hcm j (by rw [hml.out]; omega)
          have e0 := hm6 0 (by decide)
          have e1 := hm6 1 (by decide)
          have e2 := hm6 2 (by decide)
          have e3 := hm6 3 (by decide)
          have e4 := hm6 4 (by decide)
          have e5 := hm6 5 (by decide)
          rw [hms.out j (by omega)] at e0 e1 e2 e3 e4 e5
          rw [Nat.add_zero] at e0
          have hled := led_any (imgOf (runM ⟨(N : Int), t, l⟩ (allS N) ps j)) (pkMv ⟨(N : Int), t, l⟩ (ps.getD j 0)) wr (imgOf_lt h5j) (mvOf_bd ok'.out z0 z1)
          rw [led_img h5j, byM_img, ← hrs.out j (by omega)] at hled
          generalize pkMv ⟨(N : Int), t, l⟩ (ps.getD j 0) = g at *
          simp only [mvv, mvA] at hled
          have hled' := Lib.hid hled
          have i1 : (j : Int) < (ps.length : Int) := by omega
          clear hcm hm6 hled
          rcases he : eqAll (runM ⟨(N : Int), t, l⟩ (allS N) ps (j + 1)) with _ | _
          · have hF' := Lib.hid (hF.out.trans (leastF_no (run := fun k => runM ⟨(N : Int), t, l⟩ (allS N) ps k) (may := fun _ => true) hlt (by simp only [he]; rfl)))
            rw [he] at s1
            clear he hF s2 h5 h5j
            go_wp2_with fail
            refine hled'.out.mono ?_
            rintro e wq ⟨rfl, bq⟩
            have hsq := hsg.out wq
            rw [s1] at hsq
            go_wp2_with fail
            refine hsq.mono ?_
            rintro e wq2 ⟨rfl, rfl⟩
            go_wp2
            go_roundw
            case rel => exact ⟨j + 1 + 1, by omega, by go_num, rfl, below_wt bel bq, hF'⟩
            case measure => first | (simp [intOf]; omega) | (simp [intOf]; done)
          · have hF' := Lib.hid (hF.out.trans (leastF_yes (run := fun k => runM ⟨(N : Int), t, l⟩ (allS N) ps k) (may := fun _ => true) hlt he rfl))
            have s3 := s2 he
            rw [he] at s1
            clear he hF s2 h5 h5j
            go_wp2_with fail
            refine hled'.out.mono ?_
            rintro e wq ⟨rfl, bq⟩
            have hsq := hsg.out wq
            rw [s1, s3] at hsq
            go_wp2_with fail
            refine hsq.mono ?_
            rintro e wq2 ⟨rfl, rfl⟩
            go_wp2
            go_ret3
            exact fwd_fin _ hF'.out _ _ (below_wt bfin.out bq) _ rfl
      · obtain rfl : k = ps.length + 1 := by omega
        have hF' := Lib.hid (show fwdOf ⟨(N : Int), t, l⟩ ps = (0, 0, 6) by rw [hF.out, Nat.sub_self]; rfl)
        go_wp2
        go_ret3
        exact fwd_fin _ hF'.out _ _ bfin.out _ rfl
  · have hres := Lib.hid (show fwdOf ⟨n, t, l⟩ ps = (0, 0, askC ⟨n, t, l⟩ ps) by unfold fwdOf; rw [if_neg hc])
    generalize askC ⟨n, t, l⟩ ps = code at *
    have hne : (code != 0) = true := by simpa using hc
    go_enter Try.func18, Try.ntmps18
    go_wp2_with fail
    refine hrp.mono ?_
    rintro e w1 ⟨ma, mk, mcap, rfl, b1, hmv0⟩
    clear hmv0
    go_wp2
    go_ret3
    exact fwd_fin _ hres.out _ _ (below_wt B0 b1) _ rfl
end Go.Proofs.Ytacnafjmcfcalaa
