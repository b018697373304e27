/- Out of the past: what both sides answer; PastRun of the specification. Conditions: told in each. -/
import Derived.Test.YtacnafjmcfcalaaFwd2
namespace Go.Proofs.Ytacnafjmcfcalaa
open Go.RowKit Go.Deep
set_option linter.unusedVariables false

/-- led by the maps of the last i times, the eldest last -/
def backF (m : Ms) (ps : List Int) : List Int → Nat → List Int
  | now, 0 => now
  | now, i + 1 => backF m ps (byM m now (ps.getD i 0)) i
theorem backF_length (m : Ms) (ps : List Int) : ∀ (i : Nat) (now : List Int), (backF m ps now i).length = now.length
  | 0, _ => rfl
  | i + 1, now => by unfold backF; rw [backF_length m ps i, byM_length]
theorem backF_in {m : Ms} (hok : msOk m = true) {ps : List Int} (hp : pkIn m ps = true) : ∀ (i : Nat) (now : List Int), i ≤ ps.length → stIn m.n now → stIn m.n (backF m ps now i)
  | 0, _, _, h => h
  | i + 1, now, hi, h => by
    obtain ⟨a, b⟩ := pkIn_at hp i (by omega)
    unfold backF
    exact backF_in hok hp i _ (by omega) (byM_in hok h a b)
/-- PastRun's answer -/
def pastOf (m : Ms) (ps : List Int) : Int × Int × Int := if askC m ps = 0 then leastF (fun k => backF m ps (allS m.n.toNat) k) (fun _ => true) 0 (ps.length + 1 - 0) else (0, 0, askC m ps)

set_option maxHeartbeats 4000000 in
theorem l00Own_any (v : Value) (xs : List Int) (w : World) (hv : Ints w v xs) (hne : 0 < xs.length) (hs : xs.length ≤ 1000) :
    Calls Try.prog 102 #[v] w fun e w' => ∃ rv, e = .returned rv ∧ w'.ownsRow w.heap.size 2 1 rv xs.length (ints xs) ∧ Below w.heap.size w w' := by
  obtain ⟨b, off, cap, rfl, hb, hc⟩ := hv.at hne
  obtain ⟨i0, hi, hz0, hz1, hz2⟩ := info_parts Try.infoI
  have hi' := Lib.hid hi; have hz0' := Lib.hid hz0; have hz1' := Lib.hid hz1; have hz2' := Lib.hid hz2
  have hc' := Lib.hid hc
  have h1' := Lib.hid (show ∀ u ∈ ints xs, u.oneCell' = true by intro u hu; simp [ints] at hu; obtain ⟨z, _, rfl⟩ := hu; rfl)
  clear hi hz0 hz1 hz2 hv hc
  have hown : (w.alloc (.cells #[] 2)).ownsRow w.heap.size 2 1 (.slice (some ⟨w.heap.size, 0, none⟩) 0 0) 0 [] := World.ownsRow_made w #[] 0 (Nat.le_refl _) (Nat.zero_le _) (by simp)
  have hown' := Lib.hid hown
  have hnews := Lib.hid (show ∀ j u, (ints xs)[j]? = some u → (w.alloc (.cells #[] 2)).cell? ((⟨b, off, none⟩ : Addr).add j) = some u by
    intro j u hu
    have hj : j < xs.length := by have := (List.getElem?_eq_some_iff.1 hu).1; simpa [ints] using this
    have e := ints_getD xs j hj
    simp only [List.getD, hu, Option.getD_some] at e
    rw [Addr.add_lit, World.cell?_alloc_past _ _ _ hb, hc'.out j hj, e]
    rfl)
  clear hown
  have hlen : (ints xs).length = xs.length := by simp [ints]
  generalize hvs : ints xs = vs at *
  go_enter Try.func102, Try.ntmps102
  go_wp2_with (at_builtin; (refine wpList_append_own _ rfl _ _ 28 rfl w.heap.size 2 i0 (.int .i64 0) 1 8 Try.underlying28 hi'.out hz0'.out hz1'.out hz2'.out rfl (by decide) (.slice (some ⟨w.heap.size, 0, none⟩) 0 0) 0 [] rfl hown'.out ⟨b, off, none⟩ xs.length cap vs rfl (by simp; omega) hnews.out h1'.out (by unfold maxLen; omega) (by omega) (by simp) ?_); intro v' w5 hown5 hgr5 _)
  go_ret
  refine ⟨_, rfl, by simpa using hown5, (below1 w _).grown hgr5 (by simp) (fun k' hk' => by simp [Value.ownBlock] at hk'; omega)⟩

set_option maxHeartbeats 4000000 in
theorem l05Back_any (b : Nat) (c : Ms) (v pv : Value) (xs ps : List Int) (k : Nat) (w : World) (hv : MsP w b c) (hf : Ints w v xs) (hp : Ints w pv ps) (hok : msOk c = true) (hpin : pkIn c ps = true) (hin : stIn c.n xs) (h0 : 0 < xs.length) (hl : xs.length ≤ 6) (hk : k ≤ ps.length) (h200 : ps.length ≤ 200) :
    Calls Try.prog 92 #[.pointer (some ⟨b, 0, none⟩), v, pv, .int .i64 k] w fun e w' => ∃ rv, e = .returned rv ∧ w'.ownsRow w.heap.size 2 1 rv xs.length (ints (backF c ps xs k)) ∧ Below w.heap.size w w' := by
  have hown0 := l00Own_any v xs w hf h0 (by omega)
  obtain ⟨hm2, pa, pcap, rfl⟩ := hp.len
  unfold maxLen at hm2
  have hpi := Lib.hid (fun k hk => pkIn_at hpin k hk)
  have hbi := Lib.hid (fun (now : List Int) (h : stIn c.n now) (p : Int) (a : 0 ≤ p) (b : p < (c.l.length : Int)) => byM_in hok h a b)
  have hok' := Lib.hid hok
  have hin' := Lib.hid hin
  clear hok hpin hin
  go_enter Try.func92, Try.ntmps92
  go_wp2_with fail
  refine hown0.mono ?_
  rintro e w1 ⟨rv, rfl, hown, b1⟩
  obtain ⟨g, cp, rfl⟩ := own2_shape hown (by omega)
  have hz1 := b1.size
  have hown1 := Lib.hid (Own.of hown (Nat.le_refl _))
  have hp1 := hp.keep b1
  have hv1 := hv.keep b1
  clear hown hp hv hf hown0
  go_wp2
  go_loopw [9, 10] (fun v i wr => ∃ (r : Nat) (cur : List Int) (g : Nat) (cp : Nat), r ≤ k ∧ i = .int .i64 ((r : Int) - 1) ∧ v = .slice (some ⟨g, 0, none⟩) xs.length cp ∧ cur.length = xs.length ∧ Hid (stIn c.n cur) ∧ Hid (Own wr w.heap.size wr.heap.size 2 v (ints cur)) ∧ Below w1.heap.size w1 wr ∧ Hid (backF c ps xs k = backF c ps cur r)) (fun _ i _ => (intOf i + 1).toNat)
  case atStart => exact ⟨k, xs, g, cp, Nat.le_refl _, by go_num, rfl, rfl, hin', hown1, Below.refl _ _, rfl⟩
  case round =>
    obtain ⟨r, cur, g2, cp2, hr, rfl, rfl, hcl, hst, hown, bel, hbk⟩ := hrel
    rcases Nat.eq_zero_or_pos r with rfl | hpos
    · have i0 : ¬ (0 : Int) ≤ ((0 : Nat) : Int) - 1 := by omega
      go_wp2
      go_ret
      exact ⟨_, rfl, by rw [hbk.out]; have h2 := hown.out.1; rw [show (ints cur).length = xs.length by simp [ints, hcl]] at h2; exact h2, below_wt b1 bel⟩
    · obtain ⟨j, rfl⟩ : ∃ j, r = j + 1 := ⟨r - 1, by omega⟩
      have hj : (((j + 1 : Nat) : Int) - 1) = (j : Int) := by omega
      simp only [hj]
      obtain ⟨z0, z1⟩ := hpi.out j (by omega)
      obtain ⟨pb, po, pc, hvv, plt, hc2⟩ := (hp1.keep bel).at (by omega)
      simp only [Value.slice.injEq] at hvv
      obtain ⟨rfl, -, rfl⟩ := hvv
      have q3 := hc2 j (by omega)
      have hby := l05By_any b c (.slice (some ⟨g2, 0, none⟩) xs.length cp2) cur (ps.getD j 0) wr (hv1.keep bel) hown.out.row hok'.out hst.out z0 z1 (by omega)
      have hstn := Lib.hid (hbi.out cur hst.out _ z0 z1)
      have hbn := Lib.hid (show backF c ps xs k = backF c ps (byM c cur (ps.getD j 0)) j from hbk.out)
      have hbl := byM_length c cur (ps.getD j 0)
      rw [hcl] at hby
      generalize ps.getD j 0 = p at *
      have hby' := Lib.hid hby
      have i1 : (j : Int) < (ps.length : Int) := by omega
      have i2 : (0 : Int) ≤ (j : Int) := by omega
      have hsz := bel.size
      clear hc2 hby
      go_wp2_with fail
      refine hby'.out.mono ?_
      rintro e w3 ⟨rv, rfl, hown3, b3⟩
      obtain ⟨g3, c3, rfl⟩ := own2_shape hown3 (by omega)
      go_wp2
      go_roundw
      case rel => exact ⟨j, byM c cur p, g3, c3, by omega, by go_num, rfl, by omega, hstn, (Own.of hown3 (Nat.le_refl _)).wide (by omega) (Nat.le_refl _), bel.trans (b3.mono hsz), hbn⟩
      case measure => first | (simp [intOf]; omega) | (simp [intOf]; done)

set_option maxRecDepth 100000 in
set_option maxHeartbeats 4000000 in
theorem l05Least_any (b : Nat) (c : Ms) (v pv : Value) (xs ps : List Int) (w : World) (hv : MsP w b c) (hf : Ints w v xs) (hp : Ints w pv ps) (hok : msOk c = true) (hpin : pkIn c ps = true) (hin : stIn c.n xs) (h0 : 0 < xs.length) (hl : xs.length ≤ 6) (h200 : ps.length ≤ 200) (R : Int × Int × Int) (hR : leastF (fun k => backF c ps xs k) (fun _ => true) 0 (ps.length + 1 - 0) = R) :
    Calls Try.prog 90 #[.pointer (some ⟨b, 0, none⟩), v, pv] w fun e w' => e = .returned (.tuple #[.int .i64 R.1, .int .i64 R.2.1, .int .i64 R.2.2]) ∧ Below w.heap.size w w' := by
  obtain ⟨hm2, pa, pcap, rfl⟩ := hp.len
  unfold maxLen at hm2
  have hbk := Lib.hid (fun (W : World) (hb : Below w.heap.size w W) (k : Nat) (hk : k ≤ ps.length) => l05Back_any b c v _ xs ps k W (hv.keep hb) (hf.keep hb) (hp.keep hb) hok hpin hin h0 hl hk h200)
  have hbl := Lib.hid (fun k => backF_length c ps k xs)
  have hR' := Lib.hid hR.symm
  clear hv hf hp hok hpin hin hR
  go_enter Try.func90, Try.ntmps90
  go_wp2
  go_loopw [9] (fun i wr => ∃ k : Nat, k ≤ ps.length + 1 ∧ i = .int .i64 k ∧ Below w.heap.size w wr ∧ Hid (R = leastF (fun k => backF c ps xs k) (fun _ => true) k (ps.length + 1 - k))) (fun i _ => ps.length + 1 - (intOf i).toNat)
  case atStart => exact ⟨0, by omega, rfl, Below.refl _ _, hR'⟩
  case round =>
    obtain ⟨k, hk, rfl, bel, hF⟩ := hrel
    by_cases hlt : k ≤ ps.length
    · have h1 := hbk.out wr bel k hlt
      have hlk := hbl.out k
      have i0 : (k : Int) ≤ (ps.length : Int) := by omega
      go_wp2_with fail
      refine h1.mono ?_
      rintro e w2 ⟨rv, rfl, hown, b2⟩
      obtain ⟨g, cp, rfl⟩ := own2_shape hown h0
      have hrow : Ints w2 (.slice (some ⟨g, 0, none⟩) xs.length cp) (backF c ps xs k) := (Own.of hown (Nat.le_refl _)).row
      have heq := l05Equal_any _ _ w2 hrow
      have bb := below_wt bel b2
      rcases he : eqAll (backF c ps xs k) with _ | _
      · rw [he] at heq
        have hF' := Lib.hid (hF.out.trans (leastF_no (run := fun k => backF c ps xs k) (may := fun _ => true) hlt (by simp only [he]; rfl)))
        clear he hF h1 b2 bel
        go_wp2_with fail
        refine heq.mono ?_
        rintro e wq ⟨rfl, bq⟩
        go_wp2
        go_roundw
        case rel => exact ⟨k + 1, by omega, by go_num, below_wt bb bq, hF'⟩
        case measure => first | (simp [intOf]; omega) | (simp [intOf]; done)
      · rw [he] at heq
        have hF' := Lib.hid (hF.out.trans (leastF_yes (run := fun k => backF c ps xs k) (may := fun _ => true) hlt he rfl))
        clear he hF h1 b2 bel
        go_wp2_with fail
        refine heq.mono ?_
        rintro e wq ⟨rfl, bq⟩
        obtain ⟨rb, ro, rc, hvv, rlt, hc2⟩ := (hrow.keep bq).at (by rw [hlk]; exact h0)
        simp only [Value.slice.injEq] at hvv
        obtain ⟨hvv, -, rfl⟩ := hvv
        obtain ⟨rfl, rfl⟩ : rb = g ∧ ro = 0 := by simp at hvv; omega
        have q3 := hc2 0 (by rw [hlk]; exact h0)
        rw [Nat.add_zero] at q3
        have hF2 := hF'.out
        generalize (backF c ps xs k).getD 0 0 = x at q3 hF2
        have hn0 : (0 : Int) < (xs.length : Int) := by omega
        have hF2 := Lib.hid hF2
        clear hc2
        go_wp2
        go_ret3
        rw [hF2.out]
        exact ⟨rfl, below_wt bb bq⟩
    · obtain rfl : k = ps.length + 1 := by omega
      have hF' := Lib.hid (show R = (0, 0, 6) by rw [hF.out, Nat.sub_self]; rfl)
      have i0 : ¬ (((ps.length + 1 : Nat) : Int) ≤ (ps.length : Int)) := by omega
      go_wp2
      go_ret3
      rw [hF'.out]
      exact ⟨rfl, bel⟩
theorem past_fin {m : Ms} {ps : List Int} (r : Int × Int × Int) (h : pastOf m ps = r) (w w' : World) (hb : Below w.heap.size w w') (e : Ending) (he : e = .returned (.tuple #[.int .i64 r.1, .int .i64 r.2.1, .int .i64 r.2.2])) :
    e = .returned (.tuple #[.int .i64 (pastOf m ps).1, .int .i64 (pastOf m ps).2.1, .int .i64 (pastOf m ps).2.2]) ∧ Below w.heap.size w w' := by
  rw [h]; exact ⟨he, hb⟩
set_option maxRecDepth 100000 in
set_option maxHeartbeats 4000000 in
theorem PastRun_spec (cv pv : Value) (c : Ms) (ps : List Int) (w : World) (hv : MsR w cv c) (hp : Ints w pv ps) :
    Calls Try.prog 22 #[cv, pv] w fun e w' => e = .returned (.tuple #[.int .i64 (pastOf c ps).1, .int .i64 (pastOf c ps).2.1, .int .i64 (pastOf c ps).2.2]) ∧ Below w.heap.size w w' := by
  obtain ⟨v, rfl, hr⟩ := hv
  obtain ⟨n, t, l⟩ := c
  simp only at hr
  obtain ⟨hm, a, cap, rfl⟩ := hr.len
  obtain ⟨hm2, pa, pcap, rfl⟩ := hp.len
  unfold maxLen at hm2
  have B0 := below1 w (.cells #[.int .i64 n, .int .i64 t, .slice a l.length cap] 26)
  have hB := Blk.new w #[.int .i64 n, .int .i64 t, .slice a l.length cap] 26
  have hp' := hp.keep B0
  have hmp : MsP _ w.heap.size ⟨n, t, l⟩ := ⟨_, hB.cell 0, hB.cell 1, hB.cell 2, hr.keep B0⟩
  have hask := l05Asked_any w.heap.size ⟨n, t, l⟩ _ ps _ hmp hp'
  by_cases hc : askC ⟨n, t, l⟩ ps = 0
  · obtain ⟨ok, pin, p200⟩ := askC_zero hc
    obtain ⟨⟨n1, n2⟩, _⟩ := msOk_all ok
    simp only at n1 n2
    obtain ⟨N, rfl⟩ : ∃ N : Nat, n = N := ⟨n.toNat, by omega⟩
    have hres := Lib.hid (show pastOf ⟨(N : Int), t, l⟩ ps = leastF (fun k => backF ⟨(N : Int), t, l⟩ ps (allS N) k) (fun _ => true) 0 (ps.length + 1 - 0) by unfold pastOf; rw [if_pos hc]; simp only [Int.toNat_natCast])
    rw [hc] at hask
    have ok' := Lib.hid ok
    have pin' := Lib.hid pin
    clear hc ok pin
    go_enter Try.func22, Try.ntmps22
    go_wp2_with fail
    refine hask.mono ?_
    rintro e w1 ⟨rfl, b1⟩
    have hB1 := hB.keep b1 hB.lt
    have q0 := hB1.cell 0
    simp at q0
    have hall := l05All_any N w1 (by omega)
    go_wp2_with fail
    refine hall.mono ?_
    rintro e w2 ⟨rv, rfl, hown, b2⟩
    have hb2 := below_wt (below_wt B0 b1) b2
    have hrow : Ints w2 rv (allS N) := (Own.of hown (Nat.le_refl _)).row
    have hle := l05Least_any w.heap.size ⟨(N : Int), t, l⟩ rv _ (allS N) ps w2 ((hmp.keep b1).keep b2) hrow ((hp'.keep b1).keep b2) ok'.out pin'.out (allS_in N) (by rw [allS_length]; omega) (by rw [allS_length]; omega) p200 _ hres.out.symm
    obtain ⟨R, hR0⟩ : ∃ R, pastOf ⟨(N : Int), t, l⟩ ps = R := ⟨_, rfl⟩
    rw [hR0] at hle
    have hR := Lib.hid hR0
    clear hR0 hres
    obtain ⟨R0, R1, R2⟩ := R
    simp only at hle
    go_wp2_with fail
    refine hle.mono ?_
    rintro e w3 ⟨rfl, b3⟩
    go_wp2
    go_ret3
    exact past_fin _ hR.out _ _ (below_wt hb2 b3) _ rfl
  · have hres := Lib.hid (show pastOf ⟨n, t, l⟩ ps = (0, 0, askC ⟨n, t, l⟩ ps) by unfold pastOf; rw [if_neg hc])
    generalize askC ⟨n, t, l⟩ ps = code at *
    have hne : (code != 0) = true := by simpa using hc
    go_enter Try.func22, Try.ntmps22
    go_wp2_with fail
    refine hask.mono ?_
    rintro e w1 ⟨rfl, b1⟩
    go_wp2
    go_ret3
    exact past_fin _ hres.out _ _ (below_wt B0 b1) _ rfl
end Go.Proofs.Ytacnafjmcfcalaa
