/- WindowRun of the specification. Conditions: none. -/
import Derived.Test.YtacnafjmcfcalaaWin
namespace Go.Proofs.Ytacnafjmcfcalaa
open Go.RowKit Go.Deep
set_option linter.unusedVariables false

set_option maxRecDepth 100000 in
set_option maxHeartbeats 4000000 in
theorem WindowRun_spec (cv pv : Value) (c : Ms) (ps : List Int) (w : World) (hv : MsR w cv c) (hp : Ints w pv ps) :
    Calls Try.prog 24 #[cv, pv] w fun e w' => e = .returned (.tuple #[.int .i64 (winOf c ps).1, .int .i64 (winOf c ps).2.1, .int .i64 (winOf c ps).2.2]) ∧ Below w.heap.size w w' := by
  obtain ⟨v, rfl, hr⟩ := hv
  obtain ⟨n, t, l⟩ := c
  simp only at hr
  obtain ⟨hm, a, cap, rfl⟩ := hr.len
  obtain ⟨hm2, pa, pcap, rfl⟩ := hp.len
  unfold maxLen at hm2
  have B0 := below1 w (.cells #[.int .i64 n, .int .i64 t, .slice a l.length cap] 26)
  have hB := Blk.new w #[.int .i64 n, .int .i64 t, .slice a l.length cap] 26
  have hp' := hp.keep B0
  have hmp : MsP _ w.heap.size ⟨n, t, l⟩ := ⟨_, hB.cell 0, hB.cell 1, hB.cell 2, hr.keep B0⟩
  have hask := l05Asked_any w.heap.size ⟨n, t, l⟩ _ ps _ hmp hp'
  by_cases hc : askC ⟨n, t, l⟩ ps = 0
  · obtain ⟨ok, pin, p200⟩ := askC_zero hc
    obtain ⟨⟨n1, n2⟩, _⟩ := msOk_all ok
    simp only at n1 n2
    obtain ⟨N, rfl⟩ : ∃ N : Nat, n = N := ⟨n.toNat, by omega⟩
    have hres : winOf ⟨(N : Int), t, l⟩ ps = leastF (fun k => backF ⟨(N : Int), t, l⟩ ps (allS N) k) mayW 0 (ps.length + 1 - 0) := by unfold winOf; rw [if_pos hc]; simp only [Int.toNat_natCast]
    rw [hc] at hask
    have ok' := Lib.hid ok
    have pin' := Lib.hid pin
    clear hc ok pin
    rcases Nat.lt_or_ge 1 N with h2 | h2
    · have hres2 := Lib.hid (hres.trans (win_zero h2))
      clear hres
      have hne1 : ((N : Int) == 1) = false := by simp; omega
      go_enter Try.func24, Try.ntmps24
      go_wp2_with fail
      refine hask.mono ?_
      rintro e w1 ⟨rfl, b1⟩
      have hB1 := hB.keep b1 hB.lt
      have q0 := hB1.cell 0
      simp at q0
      have hb1 := below_wt B0 b1
      have hmp1 := Lib.hid (hmp.keep b1)
      have hp1 := Lib.hid (hp'.keep b1)
      have hz1 := hb1.size
      have hB1' := Lib.hid hB1
      clear b1 B0 hask hr hp hp' hmp hB hB1
      go_wp2
      clear q0
      go_loopw [8] (fun i wr => ∃ k : Nat, k ≤ 8 ∧ i = .int .i64 ((2 ^ k : Nat) : Int) ∧ Below w1.heap.size w1 wr ∧ Hid (winOf ⟨(N : Int), t, l⟩ ps = leastF (fun k => backF ⟨(N : Int), t, l⟩ ps (allS N) k) mayW (min (2 ^ k) (ps.length + 1)) (ps.length + 1 - min (2 ^ k) (ps.length + 1)))) (fun i _ => 300 - (intOf i).toNat)
      case atStart => exact ⟨0, by omega, rfl, Below.refl _ _, hres2⟩
      case round =>
        obtain ⟨k, hk, rfl, bel, hF⟩ := hrel
        have hbb := below_wt hb1 bel
        have hpos : 1 ≤ 2 ^ k := Nat.one_le_two_pow
        have hp8 : 2 ^ k ≤ 2 ^ 8 := Nat.pow_le_pow_right (by decide) hk
        have hps : 2 ^ (k + 1) = 2 * 2 ^ k := by rw [Nat.pow_succ]; omega
        by_cases hlt : 2 ^ k ≤ ps.length
        · have hk8 : k + 1 ≤ 8 := by
            rcases Nat.lt_or_ge k 8 with h | h
            · omega
            · have : 2 ^ 8 ≤ 2 ^ k := Nat.pow_le_pow_right (by decide) h
              omega
          rw [Nat.min_eq_left (by omega : 2 ^ k ≤ ps.length + 1)] at hF
          have hnx := Lib.hid (fun e => win_next (run := fun k => backF ⟨(N : Int), t, l⟩ ps (allS N) k) p200 hlt e)
          have hmw := Lib.hid (mayW_pow ⟨k, by omega⟩)
          have hps' := Lib.hid hps
          clear hps
          generalize hq : 2 ^ k = q at *
          have i0 : (q : Int) ≤ (ps.length : Int) := by omega
          have hBk := hB1'.out.keep bel hB1'.out.lt
          have q0 := hBk.cell 0
          simp at q0
          have hall := l05All_any N wr (by omega)
          go_wp2_with fail
          refine hall.mono ?_
          rintro e w2 ⟨rv, rfl, hown, b2⟩
          have bel2 := below_wt bel b2
          have hrow : Ints w2 rv (allS N) := (Own.of hown (Nat.le_refl _)).row
          have hbk := l05Back_any w.heap.size ⟨(N : Int), t, l⟩ rv _ (allS N) ps q w2 (hmp1.out.keep bel2) hrow (hp1.out.keep bel2) ok'.out pin'.out (allS_in N) (by rw [allS_length]; omega) (by rw [allS_length]; omega) hlt p200
          clear q0 hBk hall
          go_wp2_with fail
          refine hbk.mono ?_
          rintro e w3 ⟨rv3, rfl, hown3, b3⟩
          rw [allS_length] at hown3
          have bel3 := below_wt bel2 b3
          obtain ⟨g, cp, rfl⟩ := own2_shape hown3 (by omega)
          have hrow3 : Ints w3 (.slice (some ⟨g, 0, none⟩) N cp) (backF ⟨(N : Int), t, l⟩ ps (allS N) q) := (Own.of hown3 (Nat.le_refl _)).row
          have hlk : (backF ⟨(N : Int), t, l⟩ ps (allS N) q).length = N := by rw [backF_length, allS_length]
          have heq := l05Equal_any _ _ w3 hrow3
          clear hown hown3 hbk hrow bel2 b2 b3
          rcases he : eqAll (backF ⟨(N : Int), t, l⟩ ps (allS N) q) with _ | _
          · rw [he] at heq
            have hF' := Lib.hid (hF.out.trans (hnx.out he))
            clear he hF
            go_wp2_with fail
            refine heq.mono ?_
            rintro e wq ⟨rfl, bq⟩
            go_wp2
            go_roundw
            case rel => exact ⟨k + 1, hk8, congrArg (Value.int .i64) (by rw [hps'.out]; push_cast; omega), below_wt bel3 bq, hF'⟩
            case measure => first | (simp [intOf]; omega) | (simp [intOf]; done)
          · rw [he] at heq
            have hF' := Lib.hid (hF.out.trans (leastF_yes (run := fun k => backF ⟨(N : Int), t, l⟩ ps (allS N) k) (may := mayW) hlt he hmw.out))
            clear he hF
            go_wp2_with fail
            refine heq.mono ?_
            rintro e wq ⟨rfl, bq⟩
            obtain ⟨rb, ro, rc, hvv, rlt, hc2⟩ := (hrow3.keep bq).at (by rw [hlk]; omega)
            simp only [Value.slice.injEq] at hvv
            obtain ⟨hvv, -, rfl⟩ := hvv
            obtain ⟨rfl, rfl⟩ : rb = g ∧ ro = 0 := by simp at hvv; omega
            have q3 := hc2 0 (by rw [hlk]; omega)
            rw [Nat.add_zero] at q3
            have hF2 := hF'.out
            generalize (backF ⟨(N : Int), t, l⟩ ps (allS N) q).getD 0 0 = x at q3 hF2
            have hn0 : (0 : Int) < (N : Int) := by omega
            have hF2 := Lib.hid hF2
            have bfin := Lib.hid (below_wt hb1 (below_wt bel3 bq))
            clear hc2
            go_wp2
            go_ret3
            exact win_fin _ hF2.out _ _ bfin.out _ rfl
        · rw [Nat.min_eq_right (by omega)] at hF
          have hF' := Lib.hid (show winOf ⟨(N : Int), t, l⟩ ps = (0, 0, 6) by rw [hF.out, Nat.sub_self]; rfl)
          have i0 : ¬ (((2 ^ k : Nat) : Int) ≤ (ps.length : Int)) := by omega
          generalize hq : 2 ^ k = q at *
          go_wp2
          go_ret3
          exact win_fin _ hF'.out _ _ hbb _ rfl
    · obtain rfl : N = 1 := by omega
      have hres2 := Lib.hid (hres.trans win_one)
      clear hres
      go_enter Try.func24, Try.ntmps24
      go_wp2_with fail
      refine hask.mono ?_
      rintro e w1 ⟨rfl, b1⟩
      have hB1 := hB.keep b1 hB.lt
      have q0 := hB1.cell 0
      simp at q0
      go_wp2
      go_ret3
      exact win_fin _ hres2.out _ _ (below_wt B0 b1) _ rfl
  · have hres := Lib.hid (show winOf ⟨n, t, l⟩ ps = (0, 0, askC ⟨n, t, l⟩ ps) by unfold winOf; rw [if_neg hc])
    generalize askC ⟨n, t, l⟩ ps = code at *
    have hne : (code != 0) = true := by simpa using hc
    go_enter Try.func24, Try.ntmps24
    go_wp2_with fail
    refine hask.mono ?_
    rintro e w1 ⟨rfl, b1⟩
    go_wp2
    go_ret3
    exact win_fin _ hres.out _ _ (below_wt B0 b1) _ rfl
end Go.Proofs.Ytacnafjmcfcalaa
