/- WindowRun of the project. Conditions: none. -/
import Derived.Test.YtacnafjmcfcalaaWin1
namespace Go.Proofs.Ytacnafjmcfcalaa
open Go.RowKit Go.Deep
set_option linter.unusedVariables false

theorem cf_win : ∀ args w, (callFunc 91 args).run Try.prog w = .ok (.enter 91 args) w := fun _ _ => by go_simp
set_option maxRecDepth 100000 in
set_option maxHeartbeats 4000000 in
theorem WindowRun_impl (cv pv : Value) (c : Ms) (ps : List Int) (w : World) (hv : MsR w cv c) (hp : Ints w pv ps) :
    Calls Try.prog 23 #[cv, pv] w fun e w' => e = .returned (.tuple #[.int .i64 (winOf c ps).1, .int .i64 (winOf c ps).2.1, .int .i64 (winOf c ps).2.2]) ∧ Below w.heap.size w w' := by
  obtain ⟨v, rfl, hr⟩ := hv
  obtain ⟨n, t, l⟩ := c
  simp only at hr
  obtain ⟨hm, a, cap, rfl⟩ := hr.len
  obtain ⟨hm2, pa, pcap, rfl⟩ := hp.len
  unfold maxLen at hm2
  have B0 := below1 w (.cells #[.int .i64 n, .int .i64 t, .slice a l.length cap] 26)
  have hB := Blk.new w #[.int .i64 n, .int .i64 t, .slice a l.length cap] 26
  have hp' := hp.keep B0
  have hrp := readPicks_any (.agg #[.int .i64 n, .int .i64 t, .slice a l.length cap]) _ ⟨n, t, l⟩ ps _ ⟨_, rfl, hr.keep B0⟩ hp'
  by_cases hc : askC ⟨n, t, l⟩ ps = 0
  · obtain ⟨ok, pin, p200⟩ := askC_zero hc
    obtain ⟨⟨n1, n2⟩, _⟩ := msOk_all ok
    simp only at n1 n2
    obtain ⟨N, rfl⟩ : ∃ N : Nat, n = N := ⟨n.toNat, by omega⟩
    have hres : leastF (fun k => backF ⟨(N : Int), t, l⟩ ps (allS N) k) mayW 0 (ps.length + 1 - 0) = winOf ⟨(N : Int), t, l⟩ ps := by unfold winOf; rw [if_pos hc]; simp only [Int.toNat_natCast]
    obtain ⟨R, hR0⟩ : ∃ R, winOf ⟨(N : Int), t, l⟩ ps = R := ⟨_, rfl⟩
    rw [hR0] at hres
    have hR := Lib.hid hR0
    clear hR0
    obtain ⟨R0, R1, R2⟩ := R
    rw [hc] at hrp
    have hmk := Lib.hid (fun (mv : Value) (u : World) (h : MovesL u mv (pkMvs ⟨(N : Int), t, l⟩ ps)) => lookBack_any N ⟨(N : Int), t, l⟩ ps mv 91 mayW u rfl ok pin p200 h cf_win (fun W k hk => isWindow_any k W (by omega)) _ hres)
    have hwh := Lib.hid (show ∀ u : World, Calls Try.prog 78 #[.int .i64 N] u fun e w' => e = .returned (.int .u8 (imgOf (allS N))) ∧ u = w' from fun u => by rw [allS_img]; exact whole_any N u (by omega))
    clear hc ok pin hres
    go_enter Try.func23, Try.ntmps23
    go_wp2_with fail
    refine hrp.mono ?_
    rintro e w1 ⟨ma, mk, mcap, rfl, b1, hmv0⟩
    obtain ⟨rfl, hmv⟩ := hmv0 (by first | rfl | trivial)
    have hB1 := hB.keep b1 hB.lt
    have hb1 := below_wt B0 b1
    have hltB := hB1.lt
    have hlb := Lib.hid (fun u (hb : Below w1.heap.size w1 u) => hmk.out _ u (hmv.keep hb))
    clear b1 B0 hrp hr hp hp' hmv0 hmv
    have q0 := hB1.cell 0
    simp at q0
    have hq := Lib.hid (show ∀ u, Below w1.heap.size w1 u → u.cell? ⟨w.heap.size, 0, none⟩ = some (.int .i64 N) from fun u hu => (hu.cell (p := ⟨w.heap.size, 0, none⟩) hltB).trans q0)
    clear hB hB1
    go_upto_region 4 with fail
    go_region_held3 (fun w' => w'.cell? ⟨w.heap.size, 0, none⟩ = some (.int .i64 N)) (go_keep)
      (first | (go_at_call 88; (with_reducible refine (hlb.out w1.drew (below_drew w1)).mono ?_); rintro e u2 ⟨rfl, bb2⟩; have bz2 : Below w1.heap.size w1 u2 := below_wt (below_drew w1) bb2; have q0 := hq.out u2 bz2) | (go_at_call 78; (with_reducible refine (hwh.out w1.drew).mono ?_); rintro e u1 ⟨rfl, rfl⟩; have q0 := hq.out w1.drew (below_drew w1)))
    all_goals go_wp2
    all_goals go_ret3
    all_goals exact win_fin _ hR.out _ _ (below_wt hb1 bz2) _ rfl
  · have hres := Lib.hid (show winOf ⟨n, t, l⟩ ps = (0, 0, askC ⟨n, t, l⟩ ps) by unfold winOf; rw [if_neg hc])
    generalize askC ⟨n, t, l⟩ ps = code at *
    have hne : (code != 0) = true := by simpa using hc
    go_enter Try.func23, Try.ntmps23
    go_wp2_with fail
    refine hrp.mono ?_
    rintro e w1 ⟨ma, mk, mcap, rfl, b1, hmv0⟩
    clear hmv0
    go_wp2
    go_ret3
    exact win_fin _ hres.out _ _ (below_wt B0 b1) _ rfl
end Go.Proofs.Ytacnafjmcfcalaa
