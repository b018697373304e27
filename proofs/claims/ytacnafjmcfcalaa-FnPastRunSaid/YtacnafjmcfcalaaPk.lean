/- Picks of the specification: which are valid; where they lead. Conditions: told in each. -/
import Derived.Test.YtacnafjmcfcalaaMsCh2
import Derived.Test.YtacnafjmcfcalaaMapsM
import Derived.Test.YtacnafjmcfcalaaMbd
namespace Go.Proofs.Ytacnafjmcfcalaa
open Go.RowKit Go.Deep
set_option linter.unusedVariables false

def pkIn (m : Ms) (ps : List Int) : Bool := ps.all fun x => inB x 0 ((m.l.length : Int) - 1)
def pkOk (m : Ms) (ps : List Int) : Bool := pkIn m ps && decide ((ps.length : Int) ≤ 200)
def askC (m : Ms) (ps : List Int) : Int := if msOk m = true then (if pkOk m ps = true then 0 else 2) else 1
/-- led on by a map -/
def byM (m : Ms) (now : List Int) (p : Int) : List Int := now.map fun s => (m.l.getD p.toNat mp0).2.getD s.toNat 0
def runM (m : Ms) (now ps : List Int) (k : Nat) : List Int := (ps.take k).foldl (byM m) now
def allS (n : Nat) : List Int := (List.range n).map fun (s : Nat) => ((s : Nat) : Int)
theorem byM_length (m : Ms) (now : List Int) (p : Int) : (byM m now p).length = now.length := by simp [byM]
theorem runM_succ (m : Ms) (now ps : List Int) (k : Nat) (h : k < ps.length) : runM m now ps (k + 1) = byM m (runM m now ps k) (ps.getD k 0) := by
  unfold runM
  rw [List.take_succ_eq_append_getElem h, List.foldl_append]
  simp [List.getD, h]
theorem runM_length (m : Ms) (now ps : List Int) : ∀ k, (runM m now ps k).length = now.length := by
  intro k
  unfold runM
  generalize ps.take k = l
  induction l generalizing now with
  | nil => rfl
  | cons p r ih => rw [List.foldl_cons, ih, byM_length]
/-- all are states -/
def stIn (n : Int) (xs : List Int) : Prop := ∀ x ∈ xs, 0 ≤ x ∧ x ≤ n - 1
theorem byM_in {m : Ms} (hok : msOk m = true) {now : List Int} {p : Int} (h : stIn m.n now) (p0 : 0 ≤ p) (p1 : p < (m.l.length : Int)) : stIn m.n (byM m now p) := by
  intro x hx
  simp only [byM, List.mem_map] at hx
  obtain ⟨s, hs, rfl⟩ := hx
  obtain ⟨_, hl, hv⟩ := msOk_at hok p.toNat (by omega)
  have := h s hs
  exact hv s.toNat (by omega)
theorem pkIn_at {m : Ms} {ps : List Int} (h : pkIn m ps = true) (k : Nat) (hk : k < ps.length) : 0 ≤ ps.getD k 0 ∧ ps.getD k 0 < (m.l.length : Int) := by
  unfold pkIn at h
  rw [List.all_eq_true] at h
  have := inB_iff.1 (h _ (getD_mem (d := 0) hk))
  omega
theorem runM_in {m : Ms} (hok : msOk m = true) {now ps : List Int} (h : stIn m.n now) (hp : pkIn m ps = true) : ∀ k, k ≤ ps.length → stIn m.n (runM m now ps k)
  | 0, _ => h
  | k + 1, hk => by
    rw [runM_succ m now ps k (by omega)]
    obtain ⟨a, b⟩ := pkIn_at hp k (by omega)
    exact byM_in hok (runM_in hok h hp k (by omega)) a b
theorem allS_in (n : Nat) : stIn (n : Int) (allS n) := by
  intro x hx
  simp [allS] at hx
  obtain ⟨a, ha, rfl⟩ := hx
  omega

set_option maxHeartbeats 4000000 in
theorem l05Picks_any (b : Nat) (c : Ms) (v : Value) (ps : List Int) (w : World) (hv : MsP w b c) (hp : Ints w v ps) :
    Calls Try.prog 156 #[.pointer (some ⟨b, 0, none⟩), v] w fun e w' => e = .returned (.bool (pkOk c ps)) ∧ Below w.heap.size w w' := by
  obtain ⟨mv, k0, k1, k2, hr⟩ := hv
  obtain ⟨n, t, l⟩ := c
  simp only at k0 k1 k2 hr
  obtain ⟨hm, a, cap, rfl⟩ := hr.len
  unfold maxLen at hm
  obtain ⟨hm2, pa, pcap, rfl⟩ := hp.len
  unfold maxLen at hm2
  clear hr
  go_enter Try.func156, Try.ntmps156
  go_wp2
  go_loopw [5] (fun i wr => ∃ k : Nat, k ≤ ps.length ∧ i = .int .i64 k ∧ Hid (∃ m, wr = w.drewN m) ∧ Hid ((ps.take k).all (fun x => inB x 0 ((l.length : Int) - 1)) = true)) (fun i _ => ps.length - (intOf i).toNat)
  case atStart => exact ⟨0, Nat.zero_le _, rfl, ⟨0, rfl⟩, show _ = _ by simp⟩
  case round =>
    obtain ⟨wo, rfl⟩ : ∃ wo : World, wo = wr := ⟨_, rfl⟩
    obtain ⟨k, hk, rfl, hw, ht⟩ := hrel
    have q2 : wo.cell? ⟨b, 2, none⟩ = some (.slice a l.length cap) := by obtain ⟨m, rfl⟩ := hw.out; exact k2
    by_cases hlt : k < ps.length
    · obtain ⟨pb, po, pc, hvv, _, hc⟩ := hp.at (by omega)
      simp only [Value.slice.injEq] at hvv
      obtain ⟨rfl, -, rfl⟩ := hvv
      have hcell : wo.cell? ⟨pb, po + k, none⟩ = some (.int .i64 (ps.getD k 0)) := by obtain ⟨m, rfl⟩ := hw.out; exact hc k hlt
      have hts := Lib.hid (all_take_succ (fun x => inB x 0 ((l.length : Int) - 1)) ps 0 k hlt)
      have hfs := Lib.hid (all_false_of (fun x => inB x 0 ((l.length : Int) - 1)) ps 0 k hlt)
      clear hc k0 k1 k2
      generalize ps.getD k 0 = x at hcell hts hfs
      have hin := l00In_q x 0 ((l.length : Int) - 1) wo
      have w1 : IntKind.i64.wrap ((l.length : Int) - 1) = (l.length : Int) - 1 := by rw [IntKind.wrap_i64]; omega
      have hki : (k : Int) < (ps.length : Int) := by omega
      rcases hx : inB x 0 ((l.length : Int) - 1) with _ | _
      · rw [hx] at hin
        have hfin := Lib.hid (show pkOk ⟨n, t, l⟩ ps = false by unfold pkOk pkIn; simp only; rw [hfs.out hx]; rfl)
        clear hx
        go_wp2
        go_quiet ((go_at_call 114; exact hin _))
        go_wp2
        go_ret
        exact ⟨ret_bool hfin.out.symm, by obtain ⟨m, rfl⟩ := hw.out; exact below_drewN (below_drewN (Below.refl _ _) _) _⟩
      · rw [hx] at hin
        have hn := Lib.hid (show (ps.take (k + 1)).all (fun x => inB x 0 ((l.length : Int) - 1)) = true by rw [hts.out, ht.out, hx]; rfl)
        clear hx
        go_wp2
        go_quiet ((go_at_call 114; exact hin _))
        go_wp2
        go_roundw
        case rel => exact ⟨k + 1, by omega, by go_num, by obtain ⟨m, rfl⟩ := hw.out; exact ⟨_, World.drewN_drewN ..⟩, hn⟩
        case measure => simp [intOf]; omega
    · obtain rfl : k = ps.length := by omega
      have hr := Lib.hid (show pkOk ⟨n, t, l⟩ ps = decide ((ps.length : Int) ≤ 200) by unfold pkOk pkIn; have := ht.out; rw [List.take_length] at this; simp only; rw [this]; rfl)
      by_cases hq : (ps.length : Int) ≤ 200
      · have hfin := Lib.hid (hr.out.trans (decide_eq_true hq))
        go_wp2
        go_ret
        exact ⟨by rw [hfin.out]; simp, by obtain ⟨m, rfl⟩ := hw.out; exact below_drewN (Below.refl _ _) _⟩
      · have hfin := Lib.hid (hr.out.trans (decide_eq_false hq))
        go_wp2
        go_ret
        exact ⟨by rw [hfin.out]; simp, by obtain ⟨m, rfl⟩ := hw.out; exact below_drewN (Below.refl _ _) _⟩

set_option maxHeartbeats 2000000 in
theorem l05Asked_any (b : Nat) (c : Ms) (v : Value) (ps : List Int) (w : World) (hv : MsP w b c) (hp : Ints w v ps) :
    Calls Try.prog 81 #[.pointer (some ⟨b, 0, none⟩), v] w fun e w' => e = .returned (.int .i64 (askC c ps)) ∧ Below w.heap.size w w' := by
  have h1 := l05Ok_bel b c w hv
  have h2 := Lib.hid (fun W hb => l05Picks_any b c v ps W (hv.keep (w' := W) hb) (hp.keep hb))
  rcases hok : msOk c with _ | _
  · rw [hok] at h1
    have hr := Lib.hid (show askC c ps = 1 by unfold askC; rw [hok]; rfl)
    clear hok
    go_enter Try.func81, Try.ntmps81
    go_wp2_with fail
    refine h1.mono ?_
    rintro e w1 ⟨rfl, b1⟩
    go_wp2
    go_ret
    exact ⟨by rw [hr.out]; rfl, b1⟩
  · rw [hok] at h1
    rcases hpk : pkOk c ps with _ | _
    · have hr := Lib.hid (show askC c ps = 2 by unfold askC; rw [hok, hpk]; rfl)
      clear hok
      go_enter Try.func81, Try.ntmps81
      go_wp2_with fail
      refine h1.mono ?_
      rintro e w1 ⟨rfl, b1⟩
      have h3 := h2.out w1 b1
      rw [hpk] at h3
      clear hpk
      go_wp2_with fail
      refine h3.mono ?_
      rintro e w2 ⟨rfl, b2⟩
      go_wp2
      go_ret
      exact ⟨by rw [hr.out]; rfl, below_wt b1 b2⟩
    · have hr := Lib.hid (show askC c ps = 0 by unfold askC; rw [hok, hpk]; rfl)
      clear hok
      go_enter Try.func81, Try.ntmps81
      go_wp2_with fail
      refine h1.mono ?_
      rintro e w1 ⟨rfl, b1⟩
      have h3 := h2.out w1 b1
      rw [hpk] at h3
      clear hpk
      go_wp2_with fail
      refine h3.mono ?_
      rintro e w2 ⟨rfl, b2⟩
      go_wp2
      go_ret
      exact ⟨by rw [hr.out]; rfl, below_wt b1 b2⟩

set_option maxHeartbeats 4000000 in
theorem l05All_any (n : Nat) (w : World) (h6 : n ≤ 6) :
    Calls Try.prog 82 #[.int .i64 n] w fun e w' => ∃ rv, e = .returned rv ∧ w'.ownsRow w.heap.size 2 1 rv n (ints (allS n)) ∧ Below w.heap.size w w' := by
  obtain ⟨i0, hi, hz0, hz1, hz2⟩ := info_parts Try.infoI
  have hi' := Lib.hid hi; have hza := Lib.hid hz0; have hzb := Lib.hid hz1; have hzc := Lib.hid hz2
  have own0 := World.ownsRow_made (e := 2) (size := 1) (base := w.heap.size) w #[] 0 (Nat.le_refl _) (by unfold maxLen; omega) (by simp)
  clear hi hz0 hz1 hz2
  go_enter Try.func82, Try.ntmps82
  go_wp2
  go_loopw [3, 4] (fun v i wr => ∃ (s : Nat) (a2 : Option Addr) (cap2 : Nat), s ≤ n ∧ i = .int .i64 s ∧ v = .slice a2 s cap2 ∧ wr.ownsRow w.heap.size 2 1 (.slice a2 s cap2) s (ints (allS s)) ∧ Below w.heap.size w wr) (fun _ i _ => n - (intOf i).toNat)
  case atStart => exact ⟨0, _, 0, Nat.zero_le _, rfl, rfl, own0, below1 _ _⟩
  case round =>
    obtain ⟨s, a2, cap2, hs, rfl, rfl, hown, bel⟩ := hrel
    by_cases hlt : s < n
    · have hts := Lib.hid (show allS (s + 1) = allS s ++ [(s : Int)] from range_map_succ _ s)
      have hsz := bel.size
      have hki : (s : Int) < (n : Int) := by omega
      go_wp2_with (at_builtin; (refine wpList_append_own _ rfl _ _ 28 rfl w.heap.size 2 i0 (.int .i64 0) 1 8 Try.underlying28 hi'.out hza.out hzb.out hzc.out rfl (by decide) _ _ _ rfl (hown.alloc _) ⟨wr.heap.size, 0, none⟩ 1 1 [.int .i64 s] rfl rfl (one_new _ _ _) (by simp [Value.oneCell']) (by unfold maxLen; omega) (by omega) (by simp; omega) ?_); intro v' w2 hown2 hgr2 _; obtain ⟨g2, c2, rfl⟩ := own2_shape hown2 (by omega))
      go_roundw
      case rel =>
        refine ⟨s + 1, some ⟨g2, 0, none⟩, c2, by omega, by go_num, rfl, ?_, (bel.alloc hsz _).grown hgr2 (by simp; omega) (fun k' hk' => (hown.lt k' hk').1)⟩
        rw [hts.out]
        simpa [ints] using hown2
      case measure => simp [intOf]; omega
    · obtain rfl : s = n := by omega
      go_wp2
      go_ret
      exact ⟨_, rfl, hown, bel⟩

set_option maxRecDepth 100000 in
set_option maxHeartbeats 4000000 in
theorem l05By_any (b : Nat) (c : Ms) (v : Value) (xs : List Int) (p : Int) (w : World) (hv : MsP w b c) (hp : Ints w v xs) (hok : msOk c = true) (hin : stIn c.n xs) (p0 : 0 ≤ p) (p1 : p < (c.l.length : Int)) (hl : xs.length ≤ 6) :
    Calls Try.prog 84 #[.pointer (some ⟨b, 0, none⟩), v, .int .i64 p] w fun e w' => ∃ rv, e = .returned rv ∧ w'.ownsRow w.heap.size 2 1 rv xs.length (ints (byM c xs p)) ∧ Below w.heap.size w w' := by
  obtain ⟨mv, k0, k1, k2, hr⟩ := hv
  obtain ⟨q, rfl⟩ : ∃ q : Nat, p = (q : Int) := ⟨p.toNat, by omega⟩
  obtain ⟨_, hlen, hval⟩ := msOk_at hok q (by omega)
  obtain ⟨n, t, l⟩ := c
  simp only at k0 k1 k2 hr hlen hval hin p1
  obtain ⟨ob, oo, oc, rv, rfl, lo, Ro⟩ := hr.at (by omega)
  obtain ⟨h0, h1, hrow⟩ := Ro q (by omega)
  have hby := Lib.hid (show byM ⟨n, t, l⟩ xs (q : Int) = xs.map fun s => (l.getD q mp0).2.getD s.toNat 0 by unfold byM; simp)
  generalize l.getD q mp0 = mp at h0 hrow hlen hval hby
  obtain ⟨x, row⟩ := mp
  simp only at hrow hlen hval hby
  generalize rv q = rk at h1 hrow
  obtain ⟨hm2, pa, pcap, rfl⟩ := hp.len
  obtain ⟨i0, hi, hz0, hz1, hz2⟩ := info_parts Try.infoI
  have hi' := Lib.hid hi; have hza := Lib.hid hz0; have hzb := Lib.hid hz1; have hzc := Lib.hid hz2
  have own0 := World.ownsRow_made (e := 2) (size := 1) (base := w.heap.size) w #[] 0 (Nat.le_refl _) (by unfold maxLen; omega) (by simp)
  have lb := block_lt k2
  simp only at lb
  have lo1 := block_lt h1
  simp only at lo1
  rw [hby.out]
  clear hi hz0 hz1 hz2 Ro hr h0 k0 k1
  go_enter Try.func84, Try.ntmps84
  go_wp2
  go_loopw [7, 8] (fun v i wr => ∃ (s : Nat) (a2 : Option Addr) (cap2 : Nat), s ≤ xs.length ∧ i = .int .i64 s ∧ v = .slice a2 s cap2 ∧ wr.ownsRow w.heap.size 2 1 (.slice a2 s cap2) s (ints ((xs.take s).map fun s => row.getD s.toNat 0)) ∧ Below w.heap.size w wr) (fun _ i _ => xs.length - (intOf i).toNat)
  case atStart => exact ⟨0, _, 0, Nat.zero_le _, rfl, rfl, by simpa [ints] using own0, below1 _ _⟩
  case round =>
    obtain ⟨s, a2, cap2, hs, rfl, rfl, hown, bel⟩ := hrel
    have hown' := Lib.hid hown
    by_cases hlt : s < xs.length
    · have hts := Lib.hid (show (xs.take (s + 1)).map (fun s => row.getD s.toNat 0) = (xs.take s).map (fun s => row.getD s.toNat 0) ++ [row.getD (xs.getD s 0).toNat 0] by
        rw [List.take_succ_eq_append_getElem hlt, List.map_append]; simp [List.getD, hlt])
      obtain ⟨y0, y1⟩ := hin _ (getD_mem (d := 0) hlt)
      obtain ⟨pb, po, pc, hvv, plt, hc⟩ := (hp.keep bel).at (by omega)
      simp only [Value.slice.injEq] at hvv
      obtain ⟨rfl, -, rfl⟩ := hvv
      have q3 := hc s hlt
      obtain ⟨m, hm⟩ : ∃ m : Nat, xs.getD s 0 = (m : Int) := ⟨(xs.getD s 0).toNat, by omega⟩
      have hmr : m < row.length := by omega
      obtain ⟨rb, ro, rc, rfl, rlt, hrc⟩ := (hrow.keep bel).at (by omega)
      have q4 := hrc m hmr
      rw [hm] at q3 hts
      simp only [Int.toNat_natCast] at hts
      have q1 := (bel.cell (p := ⟨b, 2, none⟩) lb).trans k2
      have q2 := (bel.cell (p := ⟨ob, oo + q * 2 + 1, none⟩) lo1).trans h1
      have hsz := bel.size
      have i1 : (s : Int) < (xs.length : Int) := by omega
      have i2 : (m : Int) < (row.length : Int) := by omega
      have i3 : (m : Int) < n := by omega
      clear hc hrc hown y0 y1 hm k2 h1 hrow
      generalize row.getD m 0 = r at q4 hts
      go_wp2_with fail
      go_region_law (refine step_append_lies _ (by rfl) _ _ _ (by rfl) w.heap.size 2 i0 (.int .i64 0) 1 8 Try.underlying28 hi'.out hza.out hzb.out hzc.out rfl (by omega) (.slice a2 s cap2) s _ (by rfl) ((hown'.out.alloc _).drew)
                      ⟨wr.heap.size, 0, none⟩ 1 1 [.int .i64 r] (by rfl) (by rfl) (one_new _ _ _) (by simp [Value.oneCell']) (by omega) (by unfold maxLen; omega) (by omega) (by simp; omega) (wr.heap.size + 1) (by simp) ?_; intro gg cap3 w3 hown3 hgrow hat hlt3)
      all_goals
        go_wp2
        go_roundw
        case rel =>
          refine ⟨s + 1, some ⟨gg, 0, none⟩, cap3, by omega, by go_num, rfl, ?_, ((bel.alloc (by omega) _).drew).grown hgrow (by simp; omega) (fun k' hk' => (hown'.out.lt k' hk').1)⟩
          rw [hts.out]
          simpa [ints] using hown3
        case measure => simp [intOf]; omega
    · obtain rfl : s = xs.length := by omega
      go_wp2
      go_ret
      rw [List.take_length] at hown
      exact ⟨_, rfl, hown, bel⟩
end Go.Proofs.Ytacnafjmcfcalaa
