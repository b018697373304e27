/- ApplyPicks of both sides. Conditions: none. -/
import Derived.Test.YtacnafjmcfcalaaPkI
import Derived.Deep.RegionHeld3
import Derived.Deep.DeepCutAuto
namespace Go.Proofs.Ytacnafjmcfcalaa
open Go.RowKit Go.Deep
set_option linter.unusedVariables false

def apOf (m : Ms) (ps : List Int) : List Int × Int := if askC m ps = 0 then (runM m (allS m.n.toNat) ps ps.length, 0) else ([], askC m ps)
theorem allS_length (n : Nat) : (allS n).length = n := by simp [allS]
theorem askC_zero {m : Ms} {ps : List Int} (h : askC m ps = 0) : msOk m = true ∧ pkIn m ps = true ∧ ps.length ≤ 200 := by
  unfold askC at h
  split at h
  · rename_i h1
    split at h
    · rename_i h2
      unfold pkOk at h2
      simp only [Bool.and_eq_true, decide_eq_true_eq] at h2
      exact ⟨h1, h2.1, by omega⟩
    · omega
  · omega
theorem stIn_own {n : Nat} (k : Nat) : stIn (n : Int) (allS n) := allS_in n

set_option maxRecDepth 100000 in
set_option maxHeartbeats 4000000 in
theorem ApplyPicks_spec (cv pv : Value) (c : Ms) (ps : List Int) (w : World) (hv : MsR w cv c) (hp : Ints w pv ps) :
    Calls Try.prog 25 #[cv, pv] w fun e w' => ∃ r, e = .returned (.tuple #[r, .int .i64 (apOf c ps).2]) ∧ IntsMine 2 w' w.heap.size w'.heap.size r (apOf c ps).1 ∧ Below w.heap.size w w' := by
  obtain ⟨v, rfl, hr⟩ := hv
  obtain ⟨n, t, l⟩ := c
  simp only at hr
  obtain ⟨hm, a, cap, rfl⟩ := hr.len
  obtain ⟨hm2, pa, pcap, rfl⟩ := hp.len
  unfold maxLen at hm2
  have B0 := below1 w (.cells #[.int .i64 n, .int .i64 t, .slice a l.length cap] 26)
  have hB := Blk.new w #[.int .i64 n, .int .i64 t, .slice a l.length cap] 26
  have hp' := hp.keep B0
  have hmp : MsP _ w.heap.size ⟨n, t, l⟩ := ⟨_, hB.cell 0, hB.cell 1, hB.cell 2, hr.keep B0⟩
  have hask := l05Asked_any w.heap.size ⟨n, t, l⟩ _ ps _ hmp hp'
  by_cases hc : askC ⟨n, t, l⟩ ps = 0
  · have hres := Lib.hid (show apOf ⟨n, t, l⟩ ps = (runM ⟨n, t, l⟩ (allS n.toNat) ps ps.length, 0) by unfold apOf; rw [if_pos hc])
    obtain ⟨ok, pin, p200⟩ := askC_zero hc
    rw [hc] at hask
    obtain ⟨⟨n1, n2⟩, _⟩ := msOk_all ok
    simp only at n1 n2
    obtain ⟨N, rfl⟩ : ∃ N : Nat, n = N := ⟨n.toNat, by omega⟩
    simp only [Int.toNat_natCast] at hres
    have hrs := Lib.hid (fun k hk => runM_succ ⟨(N : Int), t, l⟩ (allS N) ps k hk)
    have hrl := Lib.hid (fun k => (runM_length ⟨(N : Int), t, l⟩ (allS N) ps k).trans (allS_length N))
    have hri := Lib.hid (fun k hk => runM_in ok (allS_in N) pin k hk)
    have hpi := Lib.hid (fun k hk => pkIn_at pin k hk)
    have ok' := Lib.hid ok
    have hr0 : runM ⟨(N : Int), t, l⟩ (allS N) ps 0 = allS N := rfl
    clear hc ok pin
    go_enter Try.func25, Try.ntmps25
    go_wp2_with fail
    refine hask.mono ?_
    rintro e w1 ⟨rfl, b1⟩
    have hB1 := hB.keep b1 hB.lt
    have q0 := hB1.cell 0
    simp at q0
    have hall := l05All_any N w1 (by omega)
    go_wp2_with fail
    refine hall.mono ?_
    rintro e w2 ⟨rv, rfl, hown, b2⟩
    obtain ⟨ra, rcap, rfl⟩ : ∃ a c, rv = .slice a N c := by obtain ⟨g, c, h⟩ := own2_shape hown (by omega); exact ⟨_, c, h⟩
    have hb2 := below_wt (below_wt B0 b1) b2
    have hz1 := (below_wt B0 b1).size
    have hB2 := hB1.keep b2 hB1.lt
    have hlt2 := hB2.lt
    have hp2 := (hp'.keep b1).keep b2
    have hmp2 := (hmp.keep b1).keep b2
    have hown2 : Own w2 w.heap.size w2.heap.size 2 (.slice ra N rcap) (ints (runM ⟨(N : Int), t, l⟩ (allS N) ps 0)) := by
      rw [hr0]
      exact (Own.of hown (Nat.le_refl _)).wide hz1 (Nat.le_refl _)
    clear b1 b2 B0 hask hall hown hr hp hp' hmp q0 hr0
    go_wp2
    go_loopw [7, 8] (fun v i wr => ∃ (k : Nat) (a2 : Option Addr) (cap2 : Nat), k ≤ ps.length ∧ i = .int .i64 k ∧ v = .slice a2 N cap2 ∧ Own wr w.heap.size wr.heap.size 2 (.slice a2 N cap2) (ints (runM ⟨(N : Int), t, l⟩ (allS N) ps k)) ∧ Below w2.heap.size w2 wr) (fun _ i _ => ps.length - (intOf i).toNat)
    case atStart => exact ⟨0, _, _, Nat.zero_le _, rfl, rfl, hown2, Below.refl _ _⟩
    case round =>
      obtain ⟨k, a2, cap2, hk, rfl, rfl, hown, bel⟩ := hrel
      by_cases hlt : k < ps.length
      · obtain ⟨z0, z1⟩ := hpi.out k hlt
        obtain ⟨pb, po, pc, hvv, plt, hc2⟩ := (hp2.keep bel).at (by omega)
        simp only [Value.slice.injEq] at hvv
        obtain ⟨rfl, -, rfl⟩ := hvv
        have q3 := hc2 k hlt
        have hstep := Lib.hid (hrs.out k hlt)
        have hlk := hrl.out k
        have hby := l05By_any w.heap.size ⟨(N : Int), t, l⟩ (.slice a2 N cap2) (runM ⟨(N : Int), t, l⟩ (allS N) ps k) (ps.getD k 0) wr (hmp2.keep bel) hown.row ok'.out (hri.out k hk) z0 z1 (by omega)
        rw [hlk] at hby
        generalize ps.getD k 0 = p at q3 hby hstep z0 z1
        have hby' := Lib.hid hby
        have i1 : (k : Int) < (ps.length : Int) := by omega
        have hsz := bel.size
        clear hc2 hby
        go_wp2_with fail
        refine hby'.out.mono ?_
        rintro e w3 ⟨rv, rfl, hown3, b3⟩
        obtain ⟨g3, c3, rfl⟩ := own2_shape hown3 (by omega)
        go_wp2
        go_roundw
        case rel =>
          refine ⟨k + 1, some ⟨g3, 0, none⟩, c3, by omega, by go_num, rfl, ?_, bel.trans (b3.mono hsz)⟩
          rw [hstep.out]
          exact (Own.of hown3 (Nat.le_refl _)).wide (by have := hb2.size; omega) (Nat.le_refl _)
        case measure => simp [intOf]; omega
      · obtain rfl : k = ps.length := by omega
        go_wp2
        go_ret2
        rw [hres.out]
        exact ⟨_, rfl, ⟨hown, Nat.le_refl _⟩, below_wt hb2 bel⟩
  · have hres := Lib.hid (show apOf ⟨n, t, l⟩ ps = ([], askC ⟨n, t, l⟩ ps) by unfold apOf; rw [if_neg hc])
    generalize askC ⟨n, t, l⟩ ps = code at *
    have hne : (code != 0) = true := by simpa using hc
    go_enter Try.func25, Try.ntmps25
    go_wp2_with fail
    refine hask.mono ?_
    rintro e w1 ⟨rfl, b1⟩
    have hz1 := (below_wt B0 b1).size
    have own0 := World.ownsRow_made (e := 2) (size := 1) (base := w.heap.size) w1 #[] 0 hz1 (by unfold maxLen; omega) (by simp)
    go_wp2
    go_ret2
    rw [hres.out]
    exact ⟨_, rfl, ⟨(Own.of (vs := []) own0 (Nat.le_refl _)), Nat.le_refl _⟩, below_wt (below_wt B0 b1) (below1 _ _)⟩
end Go.Proofs.Ytacnafjmcfcalaa
