/- The walk of FnPastRun. Conditions: none. -/
import Derived.Test.YtacnafjmcfcalaaKinds
import Derived.Test.YtacnafjmcfcalaaWin2
import Derived.Test.YtacnafjmcfcalaaAp2
import Derived.Test.YtacnafjmcfcalaaBk
import Derived.Test.YtacnafjmcfcalaaL5d
import Derived.Test.YtacnafjmcfcalaaCod
import Derived.Test.YtacnafjmcfcalaaOpen
namespace Go.Proofs.Ytacnafjmcfcalaa.fnPastRun
open Go.ChangeShapes Go.WideShapes Go.ChangeAt Go.RowKit Go.Deep Go.Joins
open Go.ChangeMaps (open_string shut_string)
set_option linter.unusedVariables false
set_option linter.unusedSimpArgs false

def eqUp (ls : List Int) (k : Nat) : Bool := (List.range k).all fun j => ls.getD j 0 == ls.getD 0 0
theorem eqUp_one (ls : List Int) : eqUp ls 1 = true := by simp [eqUp, List.range_succ]
theorem eqUp_succ (ls : List Int) (k : Nat) : eqUp ls (k + 1) = (eqUp ls k && (ls.getD k 0 == ls.getD 0 0)) := by simp [eqUp, List.range_succ]
theorem eqUp_all (ls : List Int) : eqUp ls ls.length = eqAll ls := by
  rw [Bool.eq_iff_iff, eqAll_iff']
  simp only [eqUp, List.all_eq_true, List.mem_range, beq_iff_eq]
  constructor
  · intro h x hx
    obtain ⟨j, hj, rfl⟩ := List.getElem_of_mem hx
    have := h j hj
    simpa [List.getD, hj] using this
  · intro h j hj
    exact h _ (getD_mem hj)

theorem back_in {c : Ms} {ps : List Int} (hok : msOk c = true) (hp : pkIn c ps = true) {N : Nat} (hN : c.n = (N : Int)) : ∀ i s : Nat, i < ps.length → s < N → ∃ t : Nat, t < N ∧ (c.l.getD (ps.getD i 0).toNat mp0).2.getD s 0 = (t : Int) := by
  intro i s hi hs
  obtain ⟨a, b⟩ := pkIn_at hp i hi
  obtain ⟨_, hl, hv⟩ := msOk_at hok (ps.getD i 0).toNat (by omega)
  have := hv s (by omega)
  exact ⟨((c.l.getD (ps.getD i 0).toNat mp0).2.getD s 0).toNat, by omega, by omega⟩
theorem past_facts (c : Ms) (ps : List Int) (N : Nat) (hN : c.n = (N : Int)) (h1 : 1 ≤ N) (h : askC c ps = 0) (hL : ps.length ≤ 12) : ∃ r0 r1 r2 s0 s1 s2 : Int, ∃ LS : Nat, pastOf c ps = (r0, r1, r2) ∧ winOf c ps = (s0, s1, s2) ∧ LS ≤ ps.length + 1 ∧ ((r2 = 6 ∧ LS = ps.length + 1) ∨ (r2 = 0 ∧ r1 = (LS : Int))) ∧
    (∀ i, i ≤ ps.length → eqAll (backF c ps (allS N) i) = decide (LS ≤ i)) ∧ (∀ i, LS ≤ i → i ≤ ps.length → (backF c ps (allS N) i).getD 0 0 = r0) ∧
    ((s2 = 6 ∧ (r2 = 6 ∨ (r2 = 0 ∧ (ps.length : Int) < 2 * (LS : Int)))) ∨ (s2 = 0 ∧ r2 = 0 ∧ s0 = r0 ∧ r1 ≤ s1 ∧ ((r1 = 0 ∧ s1 = 0) ∨ s1 < 2 * r1))) := by
  have hNt : c.n.toNat = N := by omega
  obtain ⟨a1, a2, a3⟩ := askC_zero h
  have hb := back_in a1 a2 hN
  have hp : pastOf c ps = leastF (fun k => backF c ps (allS N) k) (fun _ => true) 0 (ps.length + 1 - 0) := by rw [pastOf, if_pos h, hNt]
  have hw : winOf c ps = leastF (fun k => backF c ps (allS N) k) mayW 0 (ps.length + 1) := by rw [winOf, if_pos h, hNt]; rfl
  rcases leastF_told (fun k => backF c ps (allS N) k) (fun _ => true) (ps.length + 1 - 0) 0 with ⟨a, b⟩ | ⟨q, a, b, e, d, f, g⟩
  · have hno : ∀ j, j ≤ ps.length → eqAll (backF c ps (allS N) j) = false := fun j hj => by
      have := b j (by omega) (by omega)
      simpa using this
    refine ⟨0, 0, 6, 0, 0, 6, ps.length + 1, hp.trans a, hw.trans (win_none hno), Nat.le_refl _, Or.inl ⟨rfl, rfl⟩, fun i hi => ?_, fun i h1 h2 => by omega, Or.inl ⟨rfl, Or.inl rfl⟩⟩
    rw [hno i hi, decide_eq_false (by omega)]
  · have hno : ∀ j, j < q → eqAll (backF c ps (allS N) j) = false := fun j hj => by
      have := g j (by omega) hj
      simpa using this
    have hall := back_all h1 c ps hb q e
    have hrun : ∀ i, i ≤ ps.length → eqAll (backF c ps (allS N) i) = decide (q ≤ i) := fun i hi => by
      by_cases hiq : q ≤ i
      · rw [decide_eq_true hiq]; exact (hall i hiq hi).1
      · rw [decide_eq_false hiq]; exact hno i (by omega)
    rcases win_past (run := fun k => backF c ps (allS N) k) hL (by omega) (fun j x y => hall j x y) hno with ⟨x, y⟩ | ⟨d', x, y, z⟩
    · exact ⟨_, _, 0, 0, 0, 6, q, hp.trans f, hw.trans x, by omega, Or.inr ⟨rfl, rfl⟩, hrun, fun i x y => (hall i x y).2, Or.inl ⟨rfl, Or.inr ⟨rfl, by omega⟩⟩⟩
    · exact ⟨_, _, 0, _, _, 0, q, hp.trans f, hw.trans x, by omega, Or.inr ⟨rfl, rfl⟩, hrun, fun i x y => (hall i x y).2, Or.inr ⟨rfl, rfl, rfl, by omega, by omega⟩⟩
/-- the picks from the place i - 1 down to q -/
def revT (ps : List Int) (i q : Nat) : List Int := ((ps.take i).drop q).reverse
theorem revT_len (ps : List Int) (i q : Nat) (hi : i ≤ ps.length) : (revT ps i q).length = i - q := by simp [revT]; omega
theorem revT_full (ps : List Int) (i : Nat) : revT ps i i = [] := by simp [revT]
theorem revT_down (ps : List Int) (i p : Nat) (hp : p < i) (hi : i ≤ ps.length) : revT ps i p = revT ps i (p + 1) ++ [ps.getD p 0] := by
  unfold revT
  have hl : p < (ps.take i).length := by simp; omega
  rw [List.drop_eq_getElem_cons hl, List.reverse_cons]
  have : ps[p]'(by omega) = ps.getD p 0 := by simp [List.getD, show p < ps.length by omega]
  simp [this]
theorem ap_rev (c : Ms) (ps : List Int) (h : askC c ps = 0) (N : Nat) (hN : c.n = (N : Int)) (i : Nat) (hi : i ≤ ps.length) : apOf c (revT ps i 0) = (backF c ps (allS N) i, 0) := by
  obtain ⟨h1, h2, h3⟩ := askC_zero h
  have hNt : c.n.toNat = N := by omega
  have e0 : revT ps i 0 = (ps.take i).reverse := by simp [revT]
  have h4 : askC c (revT ps i 0) = 0 := by
    have e : pkOk c (revT ps i 0) = true := by
      simp only [pkOk, Bool.and_eq_true, decide_eq_true_eq]
      refine ⟨?_, by rw [revT_len ps i 0 hi]; omega⟩
      rw [e0]
      unfold pkIn at h2 ⊢
      rw [List.all_eq_true] at h2 ⊢
      exact fun x hx => h2 x (List.mem_of_mem_take (List.mem_reverse.1 hx))
    simp [askC, h1, e]
  rw [apOf, if_pos h4, back_run c ps i _ hi, hNt, runM, e0, List.take_of_length_le (Nat.le_refl _)]

theorem ask_zero {c : Ms} {ps : List Int} (h1 : msOk c = true) (h2 : ∀ d ∈ ps, 0 ≤ d ∧ d < (c.l.length : Int)) (h3 : ps.length ≤ 200) : askC c ps = 0 := by
  have e : pkOk c ps = true := by
    simp only [pkOk, pkIn, Bool.and_eq_true, decide_eq_true_eq, List.all_eq_true, inB_iff]
    exact ⟨fun x hx => by have := h2 x hx; omega, by omega⟩
  simp [askC, h1, e]

set_option maxRecDepth 100000 in
set_option maxHeartbeats 8000000 in
theorem walk_big {w : World} (v0 : Value) (l0 : Nat) (k0 : Bytes w v0 l0) (v1 : Value) (l1 : Nat) (k1 : Bytes w v1 l1) (hq : 4096 < l0 ∨ (l0 ≤ 4096 ∧ 4096 < l1)) :
    Calls Try.prog 4 #[v0, v1] w fun e w' => e = .returned (.bool true) ∧ Below w.heap.size w w' := by
  obtain ⟨a0, p0, rfl⟩ : ∃ a cap, v0 = .slice a l0 cap := by obtain ⟨_, a, cap, h, _⟩ := k0; exact ⟨a, cap, h⟩
  obtain ⟨a1, p1, rfl⟩ : ∃ a cap, v1 = .slice a l1 cap := by obtain ⟨_, a, cap, h, _⟩ := k1; exact ⟨a, cap, h⟩
  rcases hq with h | ⟨h, h'⟩
  · have hd := Lib.hid (show decide ((4096 : Int) < (l0 : Int)) = true from decide_eq_true (by omega))
    go_enter Try.func4, Try.ntmps4
    go_wp2_with fail
    refine (f6big_any _ l0 w k0).mono ?_
    rintro e w1 ⟨rfl, rfl⟩
    rw [hd.out]
    go_wp2
    go_ret
    exact ⟨rfl, Below.refl _ _⟩
  · have hd := Lib.hid (show decide ((4096 : Int) < (l0 : Int)) = false from decide_eq_false (by omega))
    have hd' := Lib.hid (show decide ((4096 : Int) < (l1 : Int)) = true from decide_eq_true (by omega))
    go_enter Try.func4, Try.ntmps4
    go_wp2_with fail
    refine (f6big_any _ l0 w k0).mono ?_
    rintro e w1 ⟨rfl, rfl⟩
    rw [hd.out]
    go_wp2_with fail
    refine (f6big_any _ l1 w k1).mono ?_
    rintro e w1 ⟨rfl, rfl⟩
    rw [hd'.out]
    go_wp2
    go_ret
    exact ⟨rfl, Below.refl _ _⟩

set_option maxRecDepth 100000 in
set_option maxHeartbeats 16000000 in
theorem walk_ok {w : World} (v0 : Value) (l0 : Nat) (k0 : Bytes w v0 l0) (v1 : Value) (l1 : Nat) (k1 : Bytes w v1 l1) (h0 : l0 ≤ 4096) (h1 : l1 ≤ 4096) :
    Calls Try.prog 4 #[v0, v1] w fun e w' => e = .returned (.bool true) ∧ Below w.heap.size w w' := by
  obtain ⟨a0, p0, rfl⟩ : ∃ a cap, v0 = .slice a l0 cap := by obtain ⟨_, a, cap, h, _⟩ := k0; exact ⟨a, cap, h⟩
  obtain ⟨a1, p1, rfl⟩ : ∃ a cap, v1 = .slice a l1 cap := by obtain ⟨_, a, cap, h, _⟩ := k1; exact ⟨a, cap, h⟩
  have hd := Lib.hid (show decide ((4096 : Int) < (l0 : Int)) = false from decide_eq_false (by omega))
  have hd' := Lib.hid (show decide ((4096 : Int) < (l1 : Int)) = false from decide_eq_false (by omega))
  go_enter Try.func4, Try.ntmps4
  go_wp2_with fail
  refine (f6big_any _ l0 w k0).mono ?_
  rintro e w1 ⟨rfl, rfl⟩
  rw [hd.out]
  go_wp2_with fail
  refine (f6big_any _ l1 w k1).mono ?_
  rintro e w1 ⟨rfl, rfl⟩
  rw [hd'.out]
  go_wp2_with fail
  refine (P6Maps_any _ l0 w k0 h0).mono ?_
  rintro e u1 ⟨cv, c, rfl, C, ok, c4, c3, b1⟩
  obtain ⟨n1, l1c⟩ : 1 ≤ c.n ∧ 1 ≤ c.l.length := by
    have h := ok
    simp only [msOk, Bool.and_eq_true, inB_iff] at h
    omega
  obtain ⟨ca, cac, rfl⟩ := C.shape
  have b2 := below1 u1 (.cells #[.int .i64 c.n, .int .i64 c.t, .slice ca c.l.length cac] 26)
  have hB := Blk.new u1 #[.int .i64 c.n, .int .i64 c.t, .slice ca c.l.length cac] 26
  have C2 := C.step b2
  have BB := below_wt b1 b2
  have hz2 : u1.heap.size < (u1.alloc (.cells #[.int .i64 c.n, .int .i64 c.t, .slice ca c.l.length cac] 26)).heap.size := by simp
  have z1 := b1.size
  have ok' := Lib.hid ok
  clear ok
  go_upto_region 4 with fail
  obtain ⟨u2, hu2⟩ : ∃ u, u1.alloc (.cells #[.int .i64 c.n, .int .i64 c.t, .slice ca c.l.length cac] 26) = u := ⟨_, rfl⟩
  rw [hu2] at hB C2 BB hz2 ⊢
  clear hu2 b1 b2 C
  obtain ⟨G, hG⟩ : ∃ G, u1.heap.size = G := ⟨_, rfl⟩
  rw [hG] at hB C2 hz2 z1 ⊢
  clear hG
  obtain ⟨q0, q1, q2⟩ := hB.three
  have hpd0 := P6DrawsM_any _ l1 (c.l.length : Int) 12 u2 (k1.keep BB) h1 (by omega) (by omega) (by omega)
  rw [show ((12 : Nat) : Int) = 12 from rfl] at hpd0
  have hpd := Lib.hid hpd0
  clear hpd0
  go_wp2_with fail
  (with_reducible refine hpd.out.mono ?_)
  rintro e u3 ⟨pv, ps, rfl, PD, pl, pin, b3⟩
  clear q0 q1 q2 hpd
  replace hB := hB.step b3
  replace C2 := C2.step b3
  replace BB := below_wt BB b3
  have z3 := b3.size
  have ask := ask_zero ok'.out pin (by omega)
  obtain ⟨N, hN⟩ : ∃ N : Nat, c.n = (N : Int) := ⟨c.n.toNat, by omega⟩
  have N4 : N ≤ 4 ∧ 1 ≤ N := by omega
  obtain ⟨r0, r1, r2, s0, s1, s2, LS, hf, hg, hLS, hr, hrun, hhead, hwin⟩ := past_facts c ps N hN N4.2 ask pl
  have hap := Lib.hid (fun i h => ap_rev c ps ask N hN i h)
  have hfi := PastRun_impl (.agg #[.int .i64 c.n, .int .i64 c.t, .slice ca c.l.length cac]) pv c ps u3 C2.ch PD.ch
  have hfs := Lib.hid (fun W (h : Below u3.heap.size u3 W) => PastRun_spec (.agg #[.int .i64 c.n, .int .i64 c.t, .slice ca c.l.length cac]) pv c ps W (C2.ch.keep h) (PD.ch.keep h))
  have hgi := Lib.hid (fun W (h : Below u3.heap.size u3 W) => WindowRun_impl (.agg #[.int .i64 c.n, .int .i64 c.t, .slice ca c.l.length cac]) pv c ps W (C2.ch.keep h) (PD.ch.keep h))
  have hgs := Lib.hid (fun W (h : Below u3.heap.size u3 W) => WindowRun_spec (.agg #[.int .i64 c.n, .int .i64 c.t, .slice ca c.l.length cac]) pv c ps W (C2.ch.keep h) (PD.ch.keep h))
  rw [hf] at hfi hfs
  rw [hg] at hgi hgs
  simp only at hfi hfs hgi hgs
  have hrun' := Lib.hid hrun
  have hhead' := Lib.hid hhead
  have hfi' := Lib.hid hfi
  have hwin' := Lib.hid hwin
  have hN' := Lib.hid hN
  have hrI : r1 = (LS : Int) ∨ r2 = 6 := by omega
  clear hf hg ask pin hrun hhead b3 hfi hwin hN
  obtain ⟨pa, pac, rfl⟩ := PD.shape
  obtain ⟨q0, q1, q2⟩ := hB.three
  go_wp2_with fail
  (with_reducible refine hfi'.out.mono ?_)
  rintro e u4 ⟨rfl, b4⟩
  clear q0 q1 q2
  have hB4 := hB.step b4
  obtain ⟨q0, q1, q2⟩ := hB4.three
  go_wp2_with fail
  (with_reducible refine (hfs.out _ b4).mono ?_)
  rintro e u5 ⟨rfl, b5⟩
  clear q0 q1 q2 hfi' hfs
  have b45 := below_wt b4 b5
  have hB5 := hB.step b45
  obtain ⟨q0, q1, q2⟩ := hB5.three
  go_wp2_with fail
  (with_reducible refine (hgi.out _ b45).mono ?_)
  rintro e u6 ⟨rfl, b6⟩
  clear q0 q1 q2 hgi hB4 hB5
  have b46 := below_wt b45 b6
  have hB6 := hB.step b46
  obtain ⟨q0, q1, q2⟩ := hB6.three
  go_wp2_with fail
  (with_reducible refine (hgs.out _ b46).mono ?_)
  rintro e u7 ⟨rfl, b7⟩
  clear q0 q1 q2 hgs hB6 b6 b45 b4 b5
  have b47 := below_wt b46 b7
  replace hB := hB.step b47
  replace C2 := C2.step b47
  replace PD := PD.step b47
  replace BB := below_wt BB b47
  have z5 := b47.size
  clear b46 b7 b47
  have n0 : (r0 != r0) = false := by simp
  have m1 : (r1 != r1) = false := by simp
  have m2 : (r2 != r2) = false := by simp
  have n0' : (s0 != s0) = false := by simp
  have m1' : (s1 != s1) = false := by simp
  have m2' : (s2 != s2) = false := by simp
  obtain ⟨f0, fi, fz0, fz1, fz2⟩ := info_parts Try.infoI
  have fi' := Lib.hid fi; have fz0' := Lib.hid fz0; have fz1' := Lib.hid fz1; have fz2' := Lib.hid fz2
  clear n1 c4 hrI fi fz0 fz1 fz2
  obtain ⟨q0, q1, q2⟩ := hB.three
  have hLS2 : (LS : Int) ≤ 13 := by omega
  rcases hr with ⟨rfl, hLSe⟩ | ⟨rfl, rfl⟩
  all_goals
    have hL2' := Lib.hid (show (ps.length : Int) + 1 = (LS : Int) ∨ True by first | exact Or.inl (by omega) | exact Or.inr trivial)
    try (have hL3 := Lib.hid (show (ps.length : Int) + 1 = (LS : Int) by omega); clear hLSe)
    go_wp2
    try rw [hL3.out]
    go_loopw [20] (fun iv wr => ∃ i : Nat, i ≤ ps.length + 1 ∧ iv = .int .i64 (i : Int) ∧ Blk wr G #[.int .i64 c.n, .int .i64 c.t, .slice ca c.l.length cac] 26 ∧ MsMine 117 2 wr w.heap.size G (.agg #[.int .i64 c.n, .int .i64 c.t, .slice ca c.l.length cac]) c ∧ IntsMine 2 wr u2.heap.size u3.heap.size (.slice pa ps.length pac) ps ∧ Below w.heap.size w wr) (fun iv _ => ps.length + 1 - (intOf iv).toNat)
    case atStart => exact ⟨0, by omega, rfl, hB, C2, PD, BB⟩
    case round =>
      obtain ⟨wo, rfl⟩ : ∃ wo : World, wo = wr := ⟨_, rfl⟩
      obtain ⟨i, hi1, rfl, hB1, C1, P1, bel⟩ := hrel
      clear hB C2 PD BB q0 q1 q2
      by_cases h1 : i ≤ ps.length
      · have d1 : (i : Int) ≤ (ps.length : Int) := by omega
        have bE := below1 wo (.cells #[] 2)
        have own0 : (wo.alloc (.cells #[] 2)).ownsRow wo.heap.size 2 1 (.slice (some ⟨wo.heap.size, 0, none⟩) 0 0) 0 (ints []) := by simpa [ints] using World.ownsRow_made wo (e := 2) (base := wo.heap.size) (size := 1) #[] 0 (Nat.le_refl _) (Nat.zero_le _) (by simp)
        have hfull := Lib.hid (revT_full ps i)
        have hdown := Lib.hid (fun p hp => revT_down ps i p hp h1)
        have hrl := Lib.hid (fun q => revT_len ps i q h1)
        go_wp2
        generalize wo.alloc (.cells #[] 2) = WE at *
        go_loopw [21, 22] (fun tv jv wr => ∃ (q g gc : Nat), q ≤ i ∧ jv = .int .i64 ((q : Int) - 1) ∧ tv = .slice (some ⟨g, 0, none⟩) (i - q) gc ∧ Hid (wr.ownsRow wo.heap.size 2 1 (.slice (some ⟨g, 0, none⟩) (i - q) gc) (i - q) (ints (revT ps i q))) ∧ Below wo.heap.size wo wr) (fun _ jv _ => (intOf jv + 1).toNat)
        case atStart => exact ⟨i, _, _, Nat.le_refl _, rfl, by rw [Nat.sub_self], Lib.hid (by rw [Nat.sub_self, hfull.out]; exact own0), bE⟩
        case round =>
          obtain ⟨wi, rfl⟩ : ∃ wi : World, wi = wr := ⟨_, rfl⟩
          obtain ⟨q, g, gc, hq, rfl, rfl, hown, bi⟩ := hrel
          clear own0 bE
          rcases q with _ | p
          · rw [show (((0 : Nat) : Int) - 1) = -1 from rfl]
            have hB2 := hB1.step bi
            have C3 := C1.step bi
            have P3 := P1.step bi
            have bel2 := below_wt bel bi
            have hlen0 := Lib.hid (hrl.out 0)
            have hapI := hap.out i h1
            have hrun1 := hrun'.out i h1
            have hlen : (backF c ps (allS N) i).length = N := by rw [backF_length, allS_length]
            have hhd := hhead'.out i
            have hOI : IntsMine 2 wi wo.heap.size wi.heap.size (.slice (some ⟨g, 0, none⟩) i gc) (revT ps i 0) := by
              have := (Own.of hown.out (Nat.le_refl _)).minei
              simpa using this
            rw [show i - 0 = i from rfl]
            have hcall := Lib.hid (fun W (h : Below wi.heap.size wi W) => ApplyPicks_impl (.agg #[.int .i64 c.n, .int .i64 c.t, .slice ca c.l.length cac]) (.slice (some ⟨g, 0, none⟩) i gc) c (revT ps i 0) W (C3.ch.keep h) (hOI.ch.keep h))
            have hcalS := Lib.hid (fun W (h : Below wi.heap.size wi W) => ApplyPicks_spec (.agg #[.int .i64 c.n, .int .i64 c.t, .slice ca c.l.length cac]) (.slice (some ⟨g, 0, none⟩) i gc) c (revT ps i 0) W (C3.ch.keep h) (hOI.ch.keep h))
            rw [hapI] at hcall hcalS
            obtain ⟨ls, hls⟩ : ∃ ls, backF c ps (allS N) i = ls := ⟨_, rfl⟩
            rw [hls] at hcall hcalS hrun1 hlen hhd
            have hhd1 := Lib.hid (show LS ≤ i → ls.getD 0 0 = r0 from fun e => hhd e h1)
            have hrun2 := Lib.hid hrun1
            have hlen' := Lib.hid hlen
            have ls4 : ls.length ≤ 4 := by omega
            clear hapI hrun1 hlen hhd hls hfull hdown hrl hown
            obtain ⟨q0, q1, q2⟩ := hB2.three
            go_wp2_with fail
            (with_reducible refine (hcall.out _ (Below.refl _ _)).mono ?_)
            rintro e w5 ⟨tv, rfl, own5, b5⟩
            have hB5 := hB2.step b5
            clear q0 q1 q2
            obtain ⟨q0, q1, q2⟩ := hB5.three
            go_wp2_with fail
            (with_reducible refine (hcalS.out _ b5).mono ?_)
            rintro e w6 ⟨rv, rfl, own, b6⟩
            obtain ⟨ra, rac, rfl⟩ := own.shape
            have own5' := own5.step b6
            have b56 := below_wt b5 b6
            have hB6 := hB2.step b56
            have C6 := C3.step b56
            have P6 := P3.step b56
            have bel6 := below_wt bel2 b56
            clear q0 q1 q2 hB5 hcall hcalS b5 b6 b56 own5 hB2 C3 P3 bel2
            go_wp2_with fail
            (with_reducible refine (f6ints_any _ _ ls ls _ own5'.ch own.ch).mono ?_)
            rintro e w7 ⟨rfl, nd, rfl⟩
            have e0 : decide (ls = ls) = true := decide_eq_true rfl
            rw [e0]
            clear e0
            have own7 := own.step (below_drewN (Below.refl _ _) nd)
            have hB7 := hB6.step (below_drewN (Below.refl _ _) nd)
            have C7 := C6.step (below_drewN (Below.refl _ _) nd)
            have P7 := P6.step (below_drewN (Below.refl _ _) nd)
            have bel7 := below_drewN bel6 nd
            generalize w6.drewN nd = w7 at *
            go_wp2
            go_loopw [27, 28] (fun sv xv wr => ∃ x : Nat, 1 ≤ x ∧ x ≤ ls.length ∧ xv = .int .i64 (x : Int) ∧ sv = .bool (eqUp ls x) ∧ Below w7.heap.size w7 wr) (fun _ xv _ => ls.length - (intOf xv).toNat)
            case atStart => exact ⟨1, Nat.le_refl _, by have := hlen'.out; omega, rfl, by rw [eqUp_one], Below.refl _ _⟩
            case round =>
              obtain ⟨wj, rfl⟩ : ∃ wj : World, wj = wr := ⟨_, rfl⟩
              obtain ⟨x, hx1, hx2, rfl, rfl, bj⟩ := hrel
              obtain ⟨lb, lo, lc, hlv, hlb, hlc⟩ := (own7.ch.keep bj).at (by have := hlen'.out; omega)
              simp only [Value.slice.injEq] at hlv
              obtain ⟨rfl, -, rfl⟩ := hlv
              have y0 := hlc 0 (by omega)
              simp only [Nat.add_zero] at y0
              by_cases hxlt : x < ls.length
              · have xI : (x : Int) < (ls.length : Int) := by omega
                have l0 : (0 : Int) < (ls.length : Int) := by omega
                have l0n : 0 < ls.length := by omega
                have yx := hlc x hxlt
                have hsu := Lib.hid (eqUp_succ ls x)
                generalize ls.getD x 0 = y at yx hsu
                generalize ls.getD 0 0 = z at y0 hsu
                generalize eqUp ls x = S at hsu ⊢
                clear hlc
                rcases S with _ | _
                all_goals
                  go_wp2_with fail
                  go_quiet (fail)
                  go_wp2
                  go_roundw
                  case rel => exact ⟨x + 1, by omega, by omega, by go_num, by rw [hsu.out]; simp, below_drewN bj _⟩
                  case measure => simp [intOf]; omega
              · obtain rfl : x = ls.length := by omega
                have l0 : (0 : Int) < (ls.length : Int) := by omega
                have l0n : 0 < ls.length := by omega
                have hfin : eqUp ls ls.length = decide (LS ≤ i) := (eqUp_all ls).trans hrun2.out
                rw [hfin]
                have hB8 := hB7.step bj
                have C8 := C7.step bj
                have P8 := P7.step bj
                have bel8 := below_wt bel7 bj
                clear hfin hlc
                by_cases hiL : LS ≤ i
                · have hz := hhd1.out hiL
                  rw [hz] at y0
                  have e1 : decide (LS ≤ i) = true := decide_eq_true hiL
                  have e2 : (LS : Int) ≤ (i : Int) := by omega
                  rw [e1]
                  clear hz
                  go_wp2
                  go_roundw
                  case rel => exact ⟨i + 1, by omega, by go_num, hB8, C8, P8, bel8⟩
                  case measure => simp [intOf]; omega
                · have e1 : decide (LS ≤ i) = false := decide_eq_false hiL
                  have e2 : ¬ (LS : Int) ≤ (i : Int) := by omega
                  rw [e1]
                  go_wp2
                  go_roundw
                  case rel => exact ⟨i + 1, by omega, by go_num, hB8, C8, P8, bel8⟩
                  case measure => simp [intOf]; omega
          · rw [show (((p + 1 : Nat) : Int) - 1) = (p : Int) by omega]
            have hpp : p < ps.length := by omega
            obtain ⟨pb, po, pc, hpv, hpb, hpc⟩ := (P1.ch.keep bi).at (by omega)
            simp only [Value.slice.injEq] at hpv
            obtain ⟨rfl, -, rfl⟩ := hpv
            have cp := hpc p hpp
            have hd := Lib.hid (hdown.out p (by omega))
            have hpI : (p : Int) < (ps.length : Int) := by omega
            have hsz := bi.size
            obtain ⟨y, hy⟩ : ∃ y, ps.getD p 0 = y := ⟨_, rfl⟩
            rw [hy] at cp hd
            have eL := Lib.hid (show i - p = (i - (p + 1)) + 1 by omega)
            obtain ⟨L, hL⟩ : ∃ L, i - (p + 1) = L := ⟨_, rfl⟩
            rw [hL] at hown eL ⊢
            have hLs : L ≤ 12 := by omega
            clear hpc hy hL
            go_wp2_with (at_builtin; (refine wpList_append_own _ rfl _ _ 28 rfl wo.heap.size 2 f0 (.int .i64 0) 1 8 Try.underlying28 fi'.out fz0'.out fz1'.out fz2'.out rfl (by decide) _ _ _ rfl (hown.out.alloc _) ⟨wi.heap.size, 0, none⟩ 1 1 [.int .i64 y] rfl rfl (one_new _ _ _) (by simp [Value.oneCell']) (by unfold maxLen; omega) (by omega) (by simp; omega) ?_); intro v' w7 hown7 hgr7 _; obtain ⟨g2, c2, rfl⟩ := ownsRow_shape hown7 (by omega))
            go_roundw
            case rel =>
              refine ⟨p, g2, c2, by omega, by go_num, by rw [eL.out], Lib.hid ?_, (bi.alloc hsz _).grown hgr7 (by simp; omega) (fun k' hk' => (hown.out.lt k' hk').1)⟩
              rw [eL.out, hd.out]
              simpa [ints] using hown7
            case measure => simp [intOf]
      · have d1 : ¬ (i : Int) ≤ (ps.length : Int) := by omega
        have hp12 : (ps.length : Int) ≤ 12 := by omega
        have hL13 : (LS : Int) ≤ 13 := by omega
        rcases hwin'.out with ⟨rfl, hw⟩ | ⟨rfl, h0, rfl, w1, w2⟩
        · rcases hw with h6 | ⟨h0, hw⟩
          · first
              | (exact absurd h6 (by decide))
              | (go_wp2
                 go_ret
                 exact ⟨rfl, bel⟩)
          · first
              | (exact absurd h0 (by decide))
              | (go_wp2
                 go_ret
                 exact ⟨rfl, bel⟩)
        · first
            | (exact absurd h0 (by decide))
            | (have e3 : (s0 == s0) = true := by simp
               rcases w2 with ⟨w2, rfl⟩ | w2
               · have w3 : LS = 0 := by omega
                 subst w3
                 go_wp2
                 go_ret
                 exact ⟨rfl, bel⟩
               · by_cases hz : LS = 0
                 · omega
                 · have hz' : ((LS : Int) == 0) = false := by simpa using hz
                   clear hz
                   go_wp2
                   go_ret
                   exact ⟨rfl, bel⟩)

theorem walk {w : World} (v0 : Value) (l0 : Nat) (k0 : Bytes w v0 l0) (v1 : Value) (l1 : Nat) (k1 : Bytes w v1 l1) :
    Calls Try.prog 4 #[v0, v1] w fun e w' => e = .returned (.bool true) ∧ Below w.heap.size w w' := by
  by_cases h0 : l0 ≤ 4096
  · by_cases h1 : l1 ≤ 4096
    · exact walk_ok v0 l0 k0 v1 l1 k1 h0 h1
    · exact walk_big v0 l0 k0 v1 l1 k1 (Or.inr ⟨h0, by omega⟩)
  · exact walk_big v0 l0 k0 v1 l1 k1 (Or.inl (by omega))
end Go.Proofs.Ytacnafjmcfcalaa.fnPastRun
