/- ForwardRun of the specification. Conditions: none. -/
import Derived.Test.YtacnafjmcfcalaaFwd
namespace Go.Proofs.Ytacnafjmcfcalaa
open Go.RowKit Go.Deep
set_option linter.unusedVariables false

theorem fwd_fin {m : Ms} {ps : List Int} (r : Int × Int × Int) (h : fwdOf m ps = r) (w w' : World) (hb : Below w.heap.size w w') (e : Ending) (he : e = .returned (.tuple #[.int .i64 r.1, .int .i64 r.2.1, .int .i64 r.2.2])) :
    e = .returned (.tuple #[.int .i64 (fwdOf m ps).1, .int .i64 (fwdOf m ps).2.1, .int .i64 (fwdOf m ps).2.2]) ∧ Below w.heap.size w w' := by
  rw [h]; exact ⟨he, hb⟩
set_option maxRecDepth 100000 in
set_option maxHeartbeats 4000000 in
theorem ForwardRun_spec (cv pv : Value) (c : Ms) (ps : List Int) (w : World) (hv : MsR w cv c) (hp : Ints w pv ps) :
    Calls Try.prog 19 #[cv, pv] w fun e w' => e = .returned (.tuple #[.int .i64 (fwdOf c ps).1, .int .i64 (fwdOf c ps).2.1, .int .i64 (fwdOf c ps).2.2]) ∧ Below w.heap.size w w' := by
  obtain ⟨v, rfl, hr⟩ := hv
  obtain ⟨n, t, l⟩ := c
  simp only at hr
  obtain ⟨hm, a, cap, rfl⟩ := hr.len
  obtain ⟨hm2, pa, pcap, rfl⟩ := hp.len
  unfold maxLen at hm2
  have B0 := below1 w (.cells #[.int .i64 n, .int .i64 t, .slice a l.length cap] 26)
  have hB := Blk.new w #[.int .i64 n, .int .i64 t, .slice a l.length cap] 26
  have hp' := hp.keep B0
  have hmp : MsP _ w.heap.size ⟨n, t, l⟩ := ⟨_, hB.cell 0, hB.cell 1, hB.cell 2, hr.keep B0⟩
  have hask := l05Asked_any w.heap.size ⟨n, t, l⟩ _ ps _ hmp hp'
  by_cases hc : askC ⟨n, t, l⟩ ps = 0
  · obtain ⟨ok, pin, p200⟩ := askC_zero hc
    obtain ⟨⟨n1, n2⟩, _⟩ := msOk_all ok
    simp only at n1 n2
    obtain ⟨N, rfl⟩ : ∃ N : Nat, n = N := ⟨n.toNat, by omega⟩
    have hres := Lib.hid (show fwdOf ⟨(N : Int), t, l⟩ ps = leastF (fun k => runM ⟨(N : Int), t, l⟩ (allS N) ps k) (fun _ => true) 0 (ps.length + 1 - 0) by unfold fwdOf; rw [if_pos hc]; simp only [Int.toNat_natCast])
    rw [hc] at hask
    have hrs := Lib.hid (fun k hk => runM_succ ⟨(N : Int), t, l⟩ (allS N) ps k hk)
    have hrl := Lib.hid (fun k => (runM_length ⟨(N : Int), t, l⟩ (allS N) ps k).trans (allS_length N))
    have hri := Lib.hid (fun k hk => runM_in ok (allS_in N) pin k hk)
    have hpi := Lib.hid (fun k hk => pkIn_at pin k hk)
    have ok' := Lib.hid ok
    have hr0 : runM ⟨(N : Int), t, l⟩ (allS N) ps 0 = allS N := rfl
    clear hc ok pin
    go_enter Try.func19, Try.ntmps19
    go_wp2_with fail
    refine hask.mono ?_
    rintro e w1 ⟨rfl, b1⟩
    have hB1 := hB.keep b1 hB.lt
    have q0 := hB1.cell 0
    simp at q0
    have hall := l05All_any N w1 (by omega)
    go_wp2_with fail
    refine hall.mono ?_
    rintro e w2 ⟨rv, rfl, hown, b2⟩
    obtain ⟨ra, rcap, rfl⟩ : ∃ a c, rv = .slice a N c := by obtain ⟨g, c, h⟩ := own2_shape hown (by omega); exact ⟨_, c, h⟩
    have hb2 := below_wt (below_wt B0 b1) b2
    have hz1 := (below_wt B0 b1).size
    have hB2 := hB1.keep b2 hB1.lt
    have hlt2 := hB2.lt
    have hp2 := (hp'.keep b1).keep b2
    have hmp2 := (hmp.keep b1).keep b2
    have hown2 : Own w2 w.heap.size w2.heap.size 2 (.slice ra N rcap) (ints (runM ⟨(N : Int), t, l⟩ (allS N) ps 0)) := by
      rw [hr0]
      exact (Own.of hown (Nat.le_refl _)).wide hz1 (Nat.le_refl _)
    clear b1 b2 B0 hask hall hown hr hp hp' hmp q0 hr0
    go_wp2
    go_loopw [8, 9] (fun v i wr => ∃ (k : Nat) (a2 : Option Addr) (cap2 : Nat), k ≤ ps.length + 1 ∧ i = .int .i64 k ∧ v = .slice a2 N cap2 ∧ Hid (k ≤ ps.length → Own wr w.heap.size wr.heap.size 2 (.slice a2 N cap2) (ints (runM ⟨(N : Int), t, l⟩ (allS N) ps k))) ∧ Below w2.heap.size w2 wr ∧ Hid (fwdOf ⟨(N : Int), t, l⟩ ps = leastF (fun k => runM ⟨(N : Int), t, l⟩ (allS N) ps k) (fun _ => true) k (ps.length + 1 - k))) (fun _ i _ => ps.length + 1 - (intOf i).toNat)
    case atStart => exact ⟨0, _, _, Nat.zero_le _, rfl, rfl, fun _ => hown2, Below.refl _ _, hres.out⟩
    case round =>
      obtain ⟨k, a2, cap2, hk, rfl, rfl, hown', bel, hF⟩ := hrel
      have bfin := Lib.hid (below_wt hb2 bel)
      by_cases hlt : k ≤ ps.length
      · have hown := hown'.out hlt
        have hlk := hrl.out k
        have hrow : Ints wr (.slice a2 N cap2) (runM ⟨(N : Int), t, l⟩ (allS N) ps k) := hown.row
        have heq := l05Equal_any _ _ wr hrow
        have i0 : (k : Int) ≤ (ps.length : Int) := by omega
        rcases he : eqAll (runM ⟨(N : Int), t, l⟩ (allS N) ps k) with _ | _
        · rw [he] at heq
          have hF' := Lib.hid (hF.out.trans (leastF_no (run := fun k => runM ⟨(N : Int), t, l⟩ (allS N) ps k) (may := fun _ => true) hlt (by simp only [he]; rfl)))
          clear he hF
          have heq' := Lib.hid heq
          clear heq
          by_cases hl2 : k < ps.length
          · obtain ⟨z0, z1⟩ := hpi.out k hl2
            have hstep := Lib.hid (hrs.out k hl2)
            have i1 : (k : Int) < (ps.length : Int) := by omega
            go_wp2_with fail
            refine heq'.out.mono ?_
            rintro e wq ⟨rfl, bq⟩
            have bel2 := below_wt bel bq
            have hsq := bq.size
            obtain ⟨pb, po, pc, hvv, plt, hc2⟩ := (hp2.keep bel2).at (by omega)
            simp only [Value.slice.injEq] at hvv
            obtain ⟨rfl, -, rfl⟩ := hvv
            have q3 := hc2 k hl2
            have hby := l05By_any w.heap.size ⟨(N : Int), t, l⟩ (.slice a2 N cap2) (runM ⟨(N : Int), t, l⟩ (allS N) ps k) (ps.getD k 0) wq (hmp2.keep bel2) (hown.row.keep bq) ok'.out (hri.out k hlt) z0 z1 (by omega)
            rw [hlk] at hby
            generalize ps.getD k 0 = p at q3 hby hstep z0 z1
            have hby' := Lib.hid hby
            have hsz := bel2.size
            clear hc2 hby
            go_wp2_with fail
            refine hby'.out.mono ?_
            rintro e w3 ⟨rv, rfl, hown3, b3⟩
            obtain ⟨g3, c3, rfl⟩ := own2_shape hown3 (by omega)
            go_wp2
            go_roundw
            case rel =>
              refine ⟨k + 1, some ⟨g3, 0, none⟩, c3, by omega, by go_num, rfl, ?_, bel2.trans (b3.mono hsz), hF'⟩
              intro _
              rw [hstep.out]
              exact (Own.of hown3 (Nat.le_refl _)).wide (by have := hb2.size; omega) (Nat.le_refl _)
            case measure => first | (simp [intOf]; omega) | (simp [intOf]; done)
          · obtain rfl : k = ps.length := by omega
            go_wp2_with fail
            refine heq'.out.mono ?_
            rintro e wq ⟨rfl, bq⟩
            have bel2 := below_wt bel bq
            go_wp2
            go_roundw
            case rel => exact ⟨ps.length + 1, a2, cap2, by omega, by go_num, rfl, fun h => by omega, bel2, hF'⟩
            case measure => first | (simp [intOf]; omega) | (simp [intOf]; done)
        · rw [he] at heq
          have hF' := Lib.hid (hF.out.trans (leastF_yes (run := fun k => runM ⟨(N : Int), t, l⟩ (allS N) ps k) (may := fun _ => true) hlt he rfl))
          clear he hF
          have heq' := Lib.hid heq
          clear heq
          go_wp2_with fail
          refine heq'.out.mono ?_
          rintro e wq ⟨rfl, bq⟩
          obtain ⟨rb, ro, rc, hvv, rlt, hc2⟩ := (hrow.keep bq).at (by rw [hlk]; omega)
          simp only [Value.slice.injEq] at hvv
          obtain ⟨rfl, -, rfl⟩ := hvv
          have q3 := hc2 0 (by rw [hlk]; omega)
          rw [Nat.add_zero] at q3
          have hF2 := hF'.out
          generalize (runM ⟨(N : Int), t, l⟩ (allS N) ps k).getD 0 0 = x at q3 hF2
          have hn0 : (0 : Int) < (N : Int) := by omega
          have hF2 := Lib.hid hF2
          clear hc2
          go_wp2
          go_ret3
          exact fwd_fin _ hF2.out _ _ (below_wt bfin.out bq) _ rfl
      · obtain rfl : k = ps.length + 1 := by omega
        have hF' := Lib.hid (show fwdOf ⟨(N : Int), t, l⟩ ps = (0, 0, 6) by rw [hF.out, Nat.sub_self]; rfl)
        have i0 : ¬ (((ps.length + 1 : Nat) : Int) ≤ (ps.length : Int)) := by omega
        go_wp2
        go_ret3
        exact fwd_fin _ hF'.out _ _ bfin.out _ rfl
  · have hres := Lib.hid (show fwdOf ⟨n, t, l⟩ ps = (0, 0, askC ⟨n, t, l⟩ ps) by unfold fwdOf; rw [if_neg hc])
    generalize askC ⟨n, t, l⟩ ps = code at *
    have hne : (code != 0) = true := by simpa using hc
    go_enter Try.func19, Try.ntmps19
    go_wp2_with fail
    refine hask.mono ?_
    rintro e w1 ⟨rfl, b1⟩
    go_wp2
    go_ret3
    exact fwd_fin _ hres.out _ _ (below_wt B0 b1) _ rfl
end Go.Proofs.Ytacnafjmcfcalaa
