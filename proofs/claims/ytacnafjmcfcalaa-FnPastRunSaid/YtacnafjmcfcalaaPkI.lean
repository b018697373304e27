/- Picks of the project: the moves that are picked. Conditions: told in each. -/
import Derived.Test.YtacnafjmcfcalaaPk
import Derived.Test.YtacnafjmcfcalaaMv
namespace Go.Proofs.Ytacnafjmcfcalaa
open Go.RowKit Go.Deep
set_option linter.unusedVariables false

abbrev mv0 : Nat → Int := fun _ => 0
/-- moves, cell by cell -/
def fl6 : List (Nat → Int) → List Value
  | [] => []
  | f :: r => (mvA f).toList ++ fl6 r
theorem fl6_length : ∀ ms : List (Nat → Int), (fl6 ms).length = ms.length * 6
  | [] => rfl
  | f :: r => by simp only [fl6, List.length_append, fl6_length r, List.length_cons]; simp [mvA]; omega
theorem fl6_append : ∀ a b : List (Nat → Int), fl6 (a ++ b) = fl6 a ++ fl6 b
  | [], b => rfl
  | f :: r, b => by simp only [List.cons_append, fl6, fl6_append r b, List.append_assoc]
theorem fl6_one (f : Nat → Int) : fl6 [f] = (mvA f).toList := by simp [fl6]
theorem fl6_at : ∀ (ms : List (Nat → Int)) (k i : Nat), k < ms.length → i < 6 → (fl6 ms)[k * 6 + i]? = some (.int .i64 (ms.getD k mv0 i))
  | [], k, i, h, _ => by simp at h
  | f :: r, 0, i, _, hi => by
    have : i < (mvA f).toList.length := by simp [mvA]; exact hi
    rw [fl6, List.getElem?_append_left (by simpa using this)]
    have := mvA_at f i hi
    simpa [List.getD] using this
  | f :: r, k + 1, i, h, hi => by
    have hl : (mvA f).toList.length = 6 := by simp [mvA]
    rw [fl6, List.getElem?_append_right (by omega), hl, show (k + 1) * 6 + i - 6 = k * 6 + i by omega, fl6_at r k i (by simpa using h) hi]
    simp [List.getD]
/-- the slice v reads as the moves ms -/
def MovesL (w : World) (v : Value) (ms : List (Nat → Int)) : Prop :=
  ms.length ≤ maxLen ∧ ∃ (a : Option Addr) (cap : Nat), v = .slice a ms.length cap ∧ ∀ k, k < ms.length → ∃ b off, a = some ⟨b, off, none⟩ ∧ ∀ i, i < 6 → w.cell? ⟨b, off + k * 6 + i, none⟩ = some (.int .i64 (ms.getD k mv0 i))
theorem MovesL.keep {w w' : World} {v : Value} {ms : List (Nat → Int)} (h : MovesL w v ms) (hb : Below w.heap.size w w') : MovesL w' v ms := by
  obtain ⟨hm, a, cap, hv, hc⟩ := h
  refine ⟨hm, a, cap, hv, fun k hk => ?_⟩
  obtain ⟨b, off, ha, h1⟩ := hc k hk
  exact ⟨b, off, ha, fun i hi => by rw [hb.cell (block_lt (h1 i hi))]; exact h1 i hi⟩
theorem MovesL.of {w : World} {lo n : Nat} {v : Value} {ms : List (Nat → Int)} (h : w.ownsRow lo 100 6 v n (fl6 ms)) (hn : n = ms.length) (hm : n ≤ 1000000) : MovesL w v ms := by
  subst hn
  have h' := h
  rcases h.2 with ⟨hv, h0⟩ | ⟨g, cap, cur, rfl, _⟩
  · exact ⟨by unfold maxLen; omega, none, 0, by rw [hv, h0], fun k hk => by omega⟩
  · exact ⟨by unfold maxLen; omega, some ⟨g, 0, none⟩, cap, rfl, fun k hk => ⟨g, 0, rfl, fun i hi => by rw [Nat.zero_add, h'.cellAt (k * 6 + i) (by omega)]; exact fl6_at ms k i hk hi⟩⟩
theorem six_new (w : World) (f : Nat → Int) (t : TypeId) : ∀ j u, (mvA f).toList[j]? = some u → (w.alloc (.cells (mvA f) t)).cell? ((⟨w.heap.size, 0, none⟩ : Addr).add j) = some u := by
  intro j u hu
  rw [add_plain, World.cell?_alloc_at _ _ _ _ rfl, Nat.zero_add]
  simpa using hu
/-- the move of a pick -/
def pkMv (m : Ms) (p : Int) : Nat → Int := mvOf (m.l.getD p.toNat mp0).2
def pkMvs (m : Ms) (ps : List Int) : List (Nat → Int) := ps.map (pkMv m)
theorem Try.infoMove : (Try.prog.info? 100).map (fun i => (i.zero, i.size, i.bytes)) = some (some (.agg #[.int .i64 0, .int .i64 0, .int .i64 0, .int .i64 0, .int .i64 0, .int .i64 0]), 6, 48) := by kernel_rfl
theorem make_moves (n : Nat) (hb : n ≤ 1000000) (w : World) :
    (Instr.makeSlice 93 (.int .i64 0) (.int .i64 (n : Int))).run Try.prog w = .ok (.slice (some ⟨w.heap.size, 0, none⟩) 0 n) (w.alloc (.cells (madeCells #[.int .i64 0, .int .i64 0, .int .i64 0, .int .i64 0, .int .i64 0, .int .i64 0] (n * 6)) 100)) := by
  obtain ⟨i0, hi, hz0, hz1, hz2⟩ := info_parts Try.infoMove
  have := run_make (P := Try.prog) w 93 100 i0 (.agg #[.int .i64 0, .int .i64 0, .int .i64 0, .int .i64 0, .int .i64 0, .int .i64 0]) Try.underlying93 hi hz0 .i64 .i64 0 (n : Int) (Int.le_refl _) (by omega) (by rw [hz2]; omega) (by omega)
  rw [this, hz1, Int.toNat_natCast]
  rfl

set_option maxRecDepth 100000 in
set_option maxHeartbeats 4000000 in
theorem readPicks_any (cv pv : Value) (c : Ms) (ps : List Int) (w : World) (hv : MsR w cv c) (hp : Ints w pv ps) :
    Calls Try.prog 77 #[cv, pv] w fun e w' => ∃ (a : Option Addr) (k cap : Nat), e = .returned (.tuple #[.slice a k cap, .int .i64 (askC c ps)]) ∧ Below w.heap.size w w' ∧ (askC c ps = 0 → k = ps.length ∧ MovesL w' (.slice a k cap) (pkMvs c ps)) := by
  obtain ⟨v, rfl, hr⟩ := hv
  obtain ⟨n, t, l⟩ := c
  simp only at hr
  obtain ⟨hm, a, cap, rfl⟩ := hr.len
  unfold maxLen at hm
  obtain ⟨hm2, pa, pcap, rfl⟩ := hp.len
  unfold maxLen at hm2
  have B0 := below1 w (.cells #[.int .i64 n, .int .i64 t, .slice a l.length cap] 26)
  have hB := Blk.new w #[.int .i64 n, .int .i64 t, .slice a l.length cap] 26
  have hr' := hr.keep B0
  have hp' := hp.keep B0
  have hvm := ValidMaps_impl (.agg #[.int .i64 n, .int .i64 t, .slice a l.length cap]) ⟨n, t, l⟩ _ ⟨_, rfl, hr'⟩
  rcases hok : msOk ⟨n, t, l⟩ with _ | _
  · rw [hok] at hvm
    have hc := Lib.hid (show askC ⟨n, t, l⟩ ps = 1 by unfold askC; rw [hok]; rfl)
    clear hok
    go_enter Try.func77, Try.ntmps77
    go_wp2_with fail
    refine hvm.mono ?_
    rintro e w1 ⟨rfl, b1⟩
    go_wp2
    go_ret2
    rw [hc.out]
    exact ⟨none, 0, 0, rfl, below_wt B0 b1, fun h => by omega⟩
  · rw [hok] at hvm
    have hok' := Lib.hid hok
    obtain ⟨⟨n1, n2⟩, _, ⟨l1, l2⟩, _⟩ := msOk_all hok
    simp only at n1 n2 l1 l2
    have hask := Lib.hid (show askC ⟨n, t, l⟩ ps = if pkOk ⟨n, t, l⟩ ps = true then 0 else 2 by unfold askC; rw [hok]; rfl)
    have w1' : IntKind.i64.wrap ((l.length : Int) - 1) = (l.length : Int) - 1 := by rw [IntKind.wrap_i64]; omega
    clear hok
    by_cases hq : (ps.length : Int) ≤ 200
    · have hq' : ¬ (200 : Int) < (ps.length : Int) := by omega
      have hpk := Lib.hid (show pkOk ⟨n, t, l⟩ ps = within ps ps.length 0 ((l.length : Int) - 1) by unfold pkOk pkIn within; simp only; rw [decide_eq_true hq]; simp)
      rcases hwi : within ps ps.length 0 ((l.length : Int) - 1) with _ | _
      · have hc := Lib.hid (show askC ⟨n, t, l⟩ ps = 2 by rw [hask.out, hpk.out, hwi]; rfl)
        go_enter Try.func77, Try.ntmps77
        go_wp2_with fail
        refine hvm.mono ?_
        rintro e w1 ⟨rfl, b1⟩
        have hB1 := hB.keep b1 hB.lt
        obtain ⟨q0, q1, q2⟩ := hB1.three
        have haw := areWithin_any _ ps ps.length 0 ((l.length : Int) - 1) w1 (hp'.keep b1)
        rw [hwi] at haw
        clear hwi
        go_wp2_with fail
        refine haw.mono ?_
        rintro e w2 ⟨rfl, b2⟩
        go_wp2
        go_ret2
        rw [hc.out]
        exact ⟨none, 0, 0, rfl, below_wt (below_wt B0 b1) b2, fun h => by omega⟩
      · have hc := Lib.hid (show askC ⟨n, t, l⟩ ps = 0 by rw [hask.out, hpk.out, hwi]; rfl)
        have hin := Lib.hid (show ∀ k, k < ps.length → 0 ≤ ps.getD k 0 ∧ ps.getD k 0 < (l.length : Int) from fun k hk => pkIn_at (m := ⟨n, t, l⟩) (by
          have : pkOk ⟨n, t, l⟩ ps = true := by rw [hpk.out, hwi]
          unfold pkOk at this
          simp only [Bool.and_eq_true] at this
          exact this.1) k hk)
        have hmk := make_moves ps.length (by omega)
        obtain ⟨i0, hi, hz0, hz1, hz2⟩ := info_parts Try.infoMove
        have hi' := Lib.hid hi; have hza := Lib.hid hz0; have hzb := Lib.hid hz1; have hzc := Lib.hid hz2
        have hmva := Lib.hid (fun k (hk : k < l.length) => (msOk_at hok'.out k hk).2.1)
        have hmvb := Lib.hid (show pkMvs ⟨n, t, l⟩ ps = ps.map fun p => mvOf (l.getD p.toNat mp0).2 from rfl)
        clear hi hz0 hz1 hz2
        go_enter Try.func77, Try.ntmps77
        go_wp2_with fail
        refine hvm.mono ?_
        rintro e w1 ⟨rfl, b1⟩
        have hB1 := hB.keep b1 hB.lt
        obtain ⟨q0, q1, q2⟩ := hB1.three
        have haw := areWithin_any _ ps ps.length 0 ((l.length : Int) - 1) w1 (hp'.keep b1)
        rw [hwi] at haw
        clear hwi
        go_wp2_with fail
        refine haw.mono ?_
        rintro e w2 ⟨rfl, b2⟩
        have hB2 := hB1.keep b2 hB1.lt
        have hr2 := (hr'.keep b1).keep b2
        have hp2 := (hp'.keep b1).keep b2
        have hbel := Lib.hid (below_wt (below_wt B0 b1) b2)
        have own0 := World.ownsRow_made (e := 100) (size := 6) (base := w2.heap.size) w2 (madeCells #[.int .i64 0, .int .i64 0, .int .i64 0, .int .i64 0, .int .i64 0, .int .i64 0] (ps.length * 6)) ps.length (Nat.le_refl _) (by unfold maxLen; omega) (by rw [size_madeCells])
        have hltB := hB2.lt
        clear b1 b2 B0 hvm haw hr hr' hp hp' q0 q1 q2 hB hB1
        obtain ⟨q0, q1, q2⟩ := hB2.three
        go_wp2
        clear q0 q1 q2 hmk
        have bX := below1 w2 (.cells (madeCells #[.int .i64 0, .int .i64 0, .int .i64 0, .int .i64 0, .int .i64 0, .int .i64 0] (ps.length * 6)) 100)
        generalize w2.alloc _ = X at *
        go_loopw [6, 33] (fun v i wr => ∃ (k : Nat) (a2 : Option Addr) (cap2 : Nat), k ≤ ps.length ∧ i = .int .i64 k ∧ v = .slice a2 k cap2 ∧ wr.ownsRow w2.heap.size 100 6 (.slice a2 k cap2) k (fl6 ((ps.take k).map fun p => mvOf (l.getD p.toNat mp0).2)) ∧ Below w2.heap.size w2 wr) (fun _ i _ => ps.length - (intOf i).toNat)
        case atStart => exact ⟨0, _, ps.length, Nat.zero_le _, rfl, rfl, by simpa [fl6] using own0, bX⟩
        case round =>
          obtain ⟨wo, rfl⟩ : ∃ wo : World, wo = wr := ⟨_, rfl⟩
          obtain ⟨k, a2, cap2, hk, rfl, rfl, hown, bel⟩ := hrel
          by_cases hlt : k < ps.length
          · obtain ⟨z0, z1⟩ := hin.out k hlt
            obtain ⟨pb, po, pc, hvv, plt, hc2⟩ := (hp2.keep bel).at (by omega)
            simp only [Value.slice.injEq] at hvv
            obtain ⟨rfl, -, rfl⟩ := hvv
            have q3 := hc2 k hlt
            obtain ⟨q, hqq⟩ : ∃ q : Nat, ps.getD k 0 = (q : Int) := ⟨(ps.getD k 0).toNat, by omega⟩
            have hts := Lib.hid (show (ps.take (k + 1)).map (fun p => mvOf (l.getD p.toNat mp0).2) = (ps.take k).map (fun p => mvOf (l.getD p.toNat mp0).2) ++ [mvOf (l.getD q mp0).2] by
              rw [List.take_succ_eq_append_getElem hlt, List.map_append]
              have : ps[k] = (q : Int) := by rw [← hqq]; simp [List.getD, hlt]
              simp [this])
            rw [hqq] at q3
            have hql : q < l.length := by omega
            obtain ⟨ob, oo, oc, rv, hvv, lo, Ro⟩ := (hr2.keep bel).at (by omega)
            simp only [Value.slice.injEq] at hvv
            obtain ⟨rfl, -, rfl⟩ := hvv
            obtain ⟨h0, h1, hrow⟩ := Ro q hql
            have hlen : (((l.getD q mp0).2.length : Nat) : Int) = n := hmva.out q hql
            generalize l.getD q mp0 = mp at h0 hrow hlen hts
            obtain ⟨x, row⟩ := mp
            simp only at h0 hrow hlen
            generalize rv q = rk at h1 hrow
            obtain ⟨ra, rc, rfl⟩ := hrow.shape
            have hmv := move_any x _ row wo hrow (by omega)
            generalize mvOf row = f at hmv hts
            simp only [mvv, mvA] at hmv
            have hBo := hB2.keep bel hltB
            have q2 := hBo.cell 2
            simp at q2
            have i1 : (q : Int) < (l.length : Int) := by omega
            have hsz := bel.size
            have hown' := Lib.hid hown
            have hmv' := Lib.hid hmv
            clear hc2 Ro hrow hlen hown hmv z0 z1 hqq
            go_wp2_with fail
            refine hmv'.out.mono ?_
            rintro e w3 ⟨rfl, b3⟩
            have own3 : w3.ownsRow w2.heap.size 100 6 (.slice a2 k cap2) k (fl6 ((ps.take k).map fun p => mvOf (l.getD p.toNat mp0).2)) := ownsRow_belowK (B := 0) hown'.out b3
            have hsz3 := b3.size
            have hb3 := Lib.hid b3
            clear b3
            go_wp2_with (at_builtin; (refine wpList_append_own _ rfl _ _ 93 rfl w2.heap.size 100 i0 (.agg #[.int .i64 0, .int .i64 0, .int .i64 0, .int .i64 0, .int .i64 0, .int .i64 0]) 6 48 Try.underlying93 hi'.out hza.out hzb.out hzc.out rfl (by decide) _ _ _ rfl (own3.alloc _) ⟨w3.heap.size, 0, none⟩ 1 1 (mvA f).toList rfl rfl (six_new _ _ _) (by simp [mvA, Value.oneCell']) (by unfold maxLen; omega) (by omega) (by simp; omega) ?_); intro v' w4 hown4 hgr4 _; obtain ⟨g2, c2, rfl⟩ := own2_shape hown4 (by omega))
            go_roundw
            case rel =>
              refine ⟨k + 1, some ⟨g2, 0, none⟩, c2, by omega, by go_num, rfl, ?_, ((bel.trans (hb3.out.mono hsz)).alloc (by omega) _).grown hgr4 (by simp; omega) (fun k' hk' => (own3.lt k' hk').1)⟩
              rw [hts.out, fl6_append, fl6_one]
              exact hown4
            case measure => simp [intOf]; omega
          · obtain rfl : k = ps.length := by omega
            go_wp2
            go_ret2
            rw [hc.out]
            refine ⟨a2, ps.length, cap2, rfl, below_wt hbel.out bel, fun _ => ⟨rfl, ?_⟩⟩
            rw [hmvb.out]
            rw [List.take_length] at hown
            exact MovesL.of hown (by simp) (by omega)
    · have hq' : (200 : Int) < (ps.length : Int) := by omega
      have hc := Lib.hid (show askC ⟨n, t, l⟩ ps = 2 by rw [hask.out]; unfold pkOk; rw [decide_eq_false hq]; simp)
      go_enter Try.func77, Try.ntmps77
      go_wp2_with fail
      refine hvm.mono ?_
      rintro e w1 ⟨rfl, b1⟩
      go_wp2
      go_ret2
      rw [hc.out]
      exact ⟨none, 0, 0, rfl, below_wt B0 b1, fun h => by omega⟩
end Go.Proofs.Ytacnafjmcfcalaa
