/- For every two codes, a run forward tells the first time at which all states are the same.
   Conditions: none beyond the row's own (every input that can be read as data). -/
import Derived.Test.YtacnafjmcfcalaaKinds
import Derived.Test.YtacnafjmcfcalaaFwd2
import Derived.Test.YtacnafjmcfcalaaAp2
import Derived.Test.YtacnafjmcfcalaaBk
import Derived.Test.YtacnafjmcfcalaaL5d
import Derived.Test.YtacnafjmcfcalaaCod
import Derived.Test.YtacnafjmcfcalaaClo
import Derived.Test.YtacnafjmcfcalaaOpen
namespace Go.Proofs.Ytacnafjmcfcalaa.fnForward
open Go.ChangeShapes Go.WideShapes Go.ChangeAt Go.RowKit Go.Deep Go.Joins
open Go.ChangeMaps (open_string shut_string)
set_option linter.unusedVariables false

theorem own : ownKnob Try.prog.godebug = none := by kernel_rfl
theorem laidOut : laidOutB Try.prog = true := by kernel_rfl

def eqUp (ls : List Int) (k : Nat) : Bool := (List.range k).all fun j => ls.getD j 0 == ls.getD 0 0
theorem eqUp_one (ls : List Int) : eqUp ls 1 = true := by simp [eqUp, List.range_succ]
theorem eqUp_succ (ls : List Int) (k : Nat) : eqUp ls (k + 1) = (eqUp ls k && (ls.getD k 0 == ls.getD 0 0)) := by simp [eqUp, List.range_succ]
theorem eqUp_all (ls : List Int) : eqUp ls ls.length = eqAll ls := by
  rw [Bool.eq_iff_iff, eqAll_iff']
  simp only [eqUp, List.all_eq_true, List.mem_range, beq_iff_eq]
  constructor
  · intro h x hx
    obtain ⟨j, hj, rfl⟩ := List.getElem_of_mem hx
    have := h j hj
    simpa [List.getD, hj] using this
  · intro h j hj
    exact h _ (getD_mem hj)
theorem fwd_facts (c : Ms) (ps : List Int) (h : askC c ps = 0) : ∃ r0 r1 r2 : Int, ∃ LS : Nat, fwdOf c ps = (r0, r1, r2) ∧ LS ≤ ps.length + 1 ∧ ((r2 = 6 ∧ LS = ps.length + 1) ∨ (r2 = 0 ∧ r1 = (LS : Int))) ∧
    (∀ i, i ≤ ps.length → i ≤ LS → eqAll (runM c (allS c.n.toNat) ps i) = decide (i = LS)) ∧ (LS ≤ ps.length → (runM c (allS c.n.toNat) ps LS).getD 0 0 = r0) := by
  have he : fwdOf c ps = leastF (fun k => runM c (allS c.n.toNat) ps k) (fun _ => true) 0 (ps.length + 1 - 0) := by rw [fwdOf, if_pos h]
  rcases leastF_told (fun k => runM c (allS c.n.toNat) ps k) (fun _ => true) (ps.length + 1 - 0) 0 with ⟨a, b⟩ | ⟨q, a, b, e, d, f, g⟩
  · refine ⟨0, 0, 6, ps.length + 1, he.trans a, Nat.le_refl _, Or.inl ⟨rfl, rfl⟩, fun i hi _ => ?_, fun h => by omega⟩
    have := b i (by omega) (by omega)
    simp only [Bool.and_true] at this
    rw [this, decide_eq_false (by omega)]
  · refine ⟨_, _, 0, q, he.trans f, by omega, Or.inr ⟨rfl, rfl⟩, fun i hi hq => ?_, fun _ => rfl⟩
    by_cases hiq : i = q
    · subst hiq; rw [decide_eq_true rfl]; exact e
    · have := g i (by omega) (by omega)
      simp only [Bool.and_true] at this
      rw [this, decide_eq_false hiq]
theorem ap_take (c : Ms) (ps : List Int) (h : askC c ps = 0) (i : Nat) (hi : i ≤ ps.length) : apOf c (ps.take i) = (runM c (allS c.n.toNat) ps i, 0) := by
  obtain ⟨h1, h2, h3⟩ := askC_zero h
  have h4 : askC c (ps.take i) = 0 := by
    have e : pkOk c (ps.take i) = true := by
      simp only [pkOk, Bool.and_eq_true, decide_eq_true_eq]
      refine ⟨?_, by simp; omega⟩
      unfold pkIn at h2 ⊢
      rw [List.all_eq_true] at h2 ⊢
      exact fun x hx => h2 x (List.mem_of_mem_take hx)
    simp [askC, h1, e]
  rw [apOf, if_pos h4]
  have : (ps.take i).length = i := by simp; omega
  rw [this]
  simp [runM, List.take_take]
theorem ask_zero {c : Ms} {ps : List Int} (h1 : msOk c = true) (h2 : ∀ d ∈ ps, 0 ≤ d ∧ d < (c.l.length : Int)) (h3 : ps.length ≤ 200) : askC c ps = 0 := by
  have e : pkOk c ps = true := by
    simp only [pkOk, pkIn, Bool.and_eq_true, decide_eq_true_eq, List.all_eq_true, inB_iff]
    exact ⟨fun x hx => by have := h2 x hx; omega, by omega⟩
  simp [askC, h1, e]

set_option maxRecDepth 100000 in
set_option maxHeartbeats 8000000 in
theorem walk_big {w : World} (v0 : Value) (l0 : Nat) (k0 : Bytes w v0 l0) (v1 : Value) (l1 : Nat) (k1 : Bytes w v1 l1) (hq : 4096 < l0 ∨ (l0 ≤ 4096 ∧ 4096 < l1)) :
    Calls Try.prog 3 #[v0, v1] w fun e w' => e = .returned (.bool true) ∧ Below w.heap.size w w' := by
  obtain ⟨a0, p0, rfl⟩ : ∃ a cap, v0 = .slice a l0 cap := by obtain ⟨_, a, cap, h, _⟩ := k0; exact ⟨a, cap, h⟩
  obtain ⟨a1, p1, rfl⟩ : ∃ a cap, v1 = .slice a l1 cap := by obtain ⟨_, a, cap, h, _⟩ := k1; exact ⟨a, cap, h⟩
  rcases hq with h | ⟨h, h'⟩
  · have hd := Lib.hid (show decide ((4096 : Int) < (l0 : Int)) = true from decide_eq_true (by omega))
    go_enter Try.func3, Try.ntmps3
    go_wp2_with fail
    refine (f6big_any _ l0 w k0).mono ?_
    rintro e w1 ⟨rfl, rfl⟩
    rw [hd.out]
    go_wp2
    go_ret
    exact ⟨rfl, Below.refl _ _⟩
  · have hd := Lib.hid (show decide ((4096 : Int) < (l0 : Int)) = false from decide_eq_false (by omega))
    have hd' := Lib.hid (show decide ((4096 : Int) < (l1 : Int)) = true from decide_eq_true (by omega))
    go_enter Try.func3, Try.ntmps3
    go_wp2_with fail
    refine (f6big_any _ l0 w k0).mono ?_
    rintro e w1 ⟨rfl, rfl⟩
    rw [hd.out]
    go_wp2_with fail
    refine (f6big_any _ l1 w k1).mono ?_
    rintro e w1 ⟨rfl, rfl⟩
    rw [hd'.out]
    go_wp2
    go_ret
    exact ⟨rfl, Below.refl _ _⟩

set_option maxRecDepth 100000 in
set_option maxHeartbeats 16000000 in
theorem walk_ok {w : World} (v0 : Value) (l0 : Nat) (k0 : Bytes w v0 l0) (v1 : Value) (l1 : Nat) (k1 : Bytes w v1 l1) (h0 : l0 ≤ 4096) (h1 : l1 ≤ 4096) :
    Calls Try.prog 3 #[v0, v1] w fun e w' => e = .returned (.bool true) ∧ Below w.heap.size w w' := by
  obtain ⟨a0, p0, rfl⟩ : ∃ a cap, v0 = .slice a l0 cap := by obtain ⟨_, a, cap, h, _⟩ := k0; exact ⟨a, cap, h⟩
  obtain ⟨a1, p1, rfl⟩ : ∃ a cap, v1 = .slice a l1 cap := by obtain ⟨_, a, cap, h, _⟩ := k1; exact ⟨a, cap, h⟩
  have hd := Lib.hid (show decide ((4096 : Int) < (l0 : Int)) = false from decide_eq_false (by omega))
  have hd' := Lib.hid (show decide ((4096 : Int) < (l1 : Int)) = false from decide_eq_false (by omega))
  go_enter Try.func3, Try.ntmps3
  go_wp2_with fail
  refine (f6big_any _ l0 w k0).mono ?_
  rintro e w1 ⟨rfl, rfl⟩
  rw [hd.out]
  go_wp2_with fail
  refine (f6big_any _ l1 w k1).mono ?_
  rintro e w1 ⟨rfl, rfl⟩
  rw [hd'.out]
  go_wp2_with fail
  refine (P6Maps_any _ l0 w k0 h0).mono ?_
  rintro e u1 ⟨cv, c, rfl, C, ok, c4, c3, b1⟩
  obtain ⟨n1, l1c⟩ : 1 ≤ c.n ∧ 1 ≤ c.l.length := by
    have h := ok
    simp only [msOk, Bool.and_eq_true, inB_iff] at h
    omega
  obtain ⟨ca, cac, rfl⟩ := C.shape
  have b2 := below1 u1 (.cells #[.int .i64 c.n, .int .i64 c.t, .slice ca c.l.length cac] 26)
  have hB := Blk.new u1 #[.int .i64 c.n, .int .i64 c.t, .slice ca c.l.length cac] 26
  have C2 := C.step b2
  have BB := below_wt b1 b2
  have hz2 : u1.heap.size < (u1.alloc (.cells #[.int .i64 c.n, .int .i64 c.t, .slice ca c.l.length cac] 26)).heap.size := by simp
  have z1 := b1.size
  have ok' := Lib.hid ok
  clear ok
  go_upto_region 4 with fail
  obtain ⟨u2, hu2⟩ : ∃ u, u1.alloc (.cells #[.int .i64 c.n, .int .i64 c.t, .slice ca c.l.length cac] 26) = u := ⟨_, rfl⟩
  rw [hu2] at hB C2 BB hz2 ⊢
  clear hu2 b1 b2 C
  obtain ⟨G, hG⟩ : ∃ G, u1.heap.size = G := ⟨_, rfl⟩
  rw [hG] at hB C2 hz2 z1 ⊢
  clear hG
  obtain ⟨q0, q1, q2⟩ := hB.three
  have hpd0 := P6DrawsM_any _ l1 (c.l.length : Int) 12 u2 (k1.keep BB) h1 (by omega) (by omega) (by omega)
  rw [show ((12 : Nat) : Int) = 12 from rfl] at hpd0
  have hpd := Lib.hid hpd0
  clear hpd0
  go_wp2_with fail
  (with_reducible refine hpd.out.mono ?_)
  rintro e u3 ⟨pv, ps, rfl, PD, pl, pin, b3⟩
  clear q0 q1 q2 hpd
  replace hB := hB.step b3
  replace C2 := C2.step b3
  replace BB := below_wt BB b3
  have z3 := b3.size
  have ask := ask_zero ok'.out pin (by omega)
  obtain ⟨r0, r1, r2, LS, hf, hLS, hr, hrun, hhead⟩ := fwd_facts c ps ask
  have hap := Lib.hid (fun i h => ap_take c ps ask i h)
  have hfi := ForwardRun_impl (.agg #[.int .i64 c.n, .int .i64 c.t, .slice ca c.l.length cac]) pv c ps u3 C2.ch PD.ch
  have hfs := Lib.hid (fun W (h : Below u3.heap.size u3 W) => ForwardRun_spec (.agg #[.int .i64 c.n, .int .i64 c.t, .slice ca c.l.length cac]) pv c ps W (C2.ch.keep h) (PD.ch.keep h))
  rw [hf] at hfi hfs
  simp only at hfi hfs
  have hrun' := Lib.hid hrun
  have hhead' := Lib.hid hhead
  have hfi' := Lib.hid hfi
  clear hf ask pin hrun hhead b3 hfi
  obtain ⟨pa, pac, rfl⟩ := PD.shape
  obtain ⟨q0, q1, q2⟩ := hB.three
  go_wp2_with fail
  (with_reducible refine hfi'.out.mono ?_)
  rintro e u4 ⟨rfl, b4⟩
  clear q0 q1 q2
  have hB4 := hB.step b4
  obtain ⟨q0, q1, q2⟩ := hB4.three
  go_wp2_with fail
  (with_reducible refine (hfs.out _ b4).mono ?_)
  rintro e u5 ⟨rfl, b5⟩
  clear q0 q1 q2 hB4 hfi' hfs
  have b45 := below_wt b4 b5
  replace hB := hB.step b45
  replace C2 := C2.step b45
  replace PD := PD.step b45
  replace BB := below_wt BB b45
  have z5 := b45.size
  clear b4 b5 b45
  have n0 : (r0 != r0) = false := by simp
  have m1 : (r1 != r1) = false := by simp
  have m2 : (r2 != r2) = false := by simp
  obtain ⟨N, hN⟩ : ∃ N : Nat, c.n = (N : Int) := ⟨c.n.toNat, by omega⟩
  have hNt : c.n.toNat = N := by omega
  have N4 : N ≤ 4 ∧ 1 ≤ N := by omega
  have hN' := Lib.hid hN
  rw [hNt] at hrun' hhead' hap
  have m3 : (r2 == 0) = decide (r2 = 0) := by rw [Bool.eq_iff_iff]; simp
  have hLI : (if r2 = 0 then r1 else (ps.length : Int) + 1) = (LS : Int) := by
    rcases hr with ⟨rfl, rfl⟩ | ⟨rfl, rfl⟩
    · rw [if_neg (by decide)]; omega
    · rw [if_pos rfl]
  have hend : (r2 == 0) = true ∨ ((r2 == 0) = false ∧ (r2 == 6) = true) := by
    rcases hr with ⟨rfl, -⟩ | ⟨rfl, -⟩
    · exact Or.inr ⟨by decide, by decide⟩
    · exact Or.inl (by decide)
  have hLI' := Lib.hid hLI
  clear hN hNt hLI hr m3 n1 c4
  obtain ⟨q0, q1, q2⟩ := hB.three
  rcases hend with he | ⟨he, he6⟩
  all_goals
    have hL2 := hLI'.out
    first
      | rw [if_pos (by simpa using he)] at hL2
      | rw [if_neg (by simpa using he)] at hL2
    have hL2' := Lib.hid hL2
    clear hL2
    go_wp2
    try rw [hL2'.out]
    go_loopw [14] (fun iv wr => ∃ i : Nat, i ≤ ps.length + 1 ∧ i ≤ LS + 1 ∧ iv = .int .i64 (i : Int) ∧ Blk wr G #[.int .i64 c.n, .int .i64 c.t, .slice ca c.l.length cac] 26 ∧ MsMine 117 2 wr w.heap.size G (.agg #[.int .i64 c.n, .int .i64 c.t, .slice ca c.l.length cac]) c ∧ IntsMine 2 wr u2.heap.size u3.heap.size (.slice pa ps.length pac) ps ∧ Below w.heap.size w wr) (fun iv _ => ps.length + 1 - (intOf iv).toNat)
    case atStart => exact ⟨0, by omega, by omega, rfl, hB, C2, PD, BB⟩
    case round =>
      obtain ⟨wo, rfl⟩ : ∃ wo : World, wo = wr := ⟨_, rfl⟩
      obtain ⟨i, hi1, hi2, rfl, hB1, C1, P1, bel⟩ := hrel
      clear hB C2 PD BB q0 q1 q2
      by_cases h1 : i ≤ ps.length
      · by_cases h2 : i ≤ LS
        · have d1 : (i : Int) ≤ (ps.length : Int) := by omega
          have d2 : (i : Int) ≤ (LS : Int) := by omega
          have hap1 := hap.out i h1
          have hrun1 := hrun'.out i h1 h2
          have hlen : (runM c (allS N) ps i).length = N := by rw [runM_length, allS_length]
          have hhd := hhead'.out
          have hcall := ApplyPicks_impl (.agg #[.int .i64 c.n, .int .i64 c.t, .slice ca c.l.length cac]) (.slice pa i pac) c (ps.take i) wo.drew (C1.ch.keep (below_drew _)) ((P1.ch.pre i h1).keep (below_drew _))
          rw [hap1] at hcall
          obtain ⟨ls, hls⟩ : ∃ ls, runM c (allS N) ps i = ls := ⟨_, rfl⟩
          rw [hls] at hcall hrun1 hlen
          have hhd1 := Lib.hid (show i = LS → ls.getD 0 0 = r0 from fun e => by subst e; rw [← hls]; exact hhd h1)
          have hcap : i ≤ pac := by
            obtain ⟨_, _, hx, hc1, _⟩ := P1.ch.caps
            simp only [Value.slice.injEq] at hx
            omega
          have hcap' : (i : Int) ≤ (pac : Int) := by omega
          have hcall' := Lib.hid hcall
          have hrun2 := Lib.hid hrun1
          have hlen' := Lib.hid hlen
          have hne : ((ls.length : Int) != c.n) = false := by simp [hlen, hN'.out]
          clear hap1 hrun1 hlen hhd hcall hls
          obtain ⟨q0, q1, q2⟩ := hB1.three
          have lt1 := hB1.lt
          go_wp2_with fail
          go_region_held3 (fun w' => w'.cell? ⟨G, 0, none⟩ = some (.int .i64 c.n) ∧ w'.cell? ⟨G, 1, none⟩ = some (.int .i64 c.t) ∧ w'.cell? ⟨G, 2, none⟩ = some (.slice ca c.l.length cac)) (go_keep)
            (first | (go_at_call 20; (with_reducible refine hcall'.out.mono ?_); rintro e w6 ⟨rv, rfl, own, b6⟩; obtain ⟨r0', r1', r2'⟩ := (hB1.drew.keep b6 lt1).three; obtain ⟨ra, rac, rfl⟩ := own.shape) | fail "no arm")
          have b6d := below_wt (below_drew wo) b6
          have hB6 := hB1.step b6d
          have C6 := C1.step b6d
          have P6 := P1.step b6d
          have bel6 := below_wt bel b6d
          clear hcall' b6 b6d
          have ls4 : ls.length ≤ 4 := by have := hlen'.out; omega
          go_wp2
          go_loopw [17, 18] (fun sv xv wr => ∃ x : Nat, 1 ≤ x ∧ x ≤ ls.length ∧ xv = .int .i64 (x : Int) ∧ sv = .bool (eqUp ls x) ∧ Below w6.heap.size w6 wr) (fun _ xv _ => ls.length - (intOf xv).toNat)
          case atStart => exact ⟨1, Nat.le_refl _, by have := hlen'.out; omega, rfl, by rw [eqUp_one], Below.refl _ _⟩
          case round =>
            obtain ⟨wi, rfl⟩ : ∃ wi : World, wi = wr := ⟨_, rfl⟩
            obtain ⟨x, hx1, hx2, rfl, rfl, bi⟩ := hrel
            obtain ⟨lb, lo, lc, hlv, hlb, hlc⟩ := (own.ch.keep bi).at (by have := hlen'.out; omega)
            simp only [Value.slice.injEq] at hlv
            obtain ⟨rfl, -, rfl⟩ := hlv
            have y0 := hlc 0 (by omega)
            simp only [Nat.add_zero] at y0
            by_cases hxlt : x < ls.length
            · have xI : (x : Int) < (ls.length : Int) := by omega
              have l0 : (0 : Int) < (ls.length : Int) := by omega
              have l0n : 0 < ls.length := by omega
              have yx := hlc x hxlt
              have hsu := Lib.hid (eqUp_succ ls x)
              generalize ls.getD x 0 = y at yx hsu
              generalize ls.getD 0 0 = z at y0 hsu
              generalize eqUp ls x = S at hsu ⊢
              clear hlc
              rcases S with _ | _
              all_goals
                go_wp2_with fail
                go_quiet (fail)
                go_wp2
                go_roundw
                case rel => exact ⟨x + 1, by omega, by omega, by go_num, by rw [hsu.out]; simp, below_drewN bi _⟩
                case measure => simp [intOf]; omega
            · obtain rfl : x = ls.length := by omega
              have l0 : (0 : Int) < (ls.length : Int) := by omega
              have l0n : 0 < ls.length := by omega
              have hfin : eqUp ls ls.length = decide (i = LS) := (eqUp_all ls).trans hrun2.out
              rw [hfin]
              have hB7 := hB6.step bi
              have C7 := C6.step bi
              have P7 := P6.step bi
              have bel7 := below_wt bel6 bi
              have hlI := Lib.hid hfin
              clear hfin hlc
              by_cases hiL : i = LS
              · have hz := hhd1.out hiL
                rw [hz] at y0
                have e1 : decide (i = LS) = true := decide_eq_true hiL
                have e2 : ((i : Int) == (LS : Int)) = true := by simp [hiL]
                rw [e1]
                clear hz e1 hiL
                go_wp2
                go_roundw
                case rel => exact ⟨i + 1, by omega, by omega, by go_num, hB7, C7, P7, bel7⟩
                case measure => simp [intOf]; omega
              · have e1 : decide (i = LS) = false := decide_eq_false hiL
                have e2 : ((i : Int) == (LS : Int)) = false := by simp; omega
                rw [e1]
                clear e1
                go_wp2
                go_roundw
                case rel => exact ⟨i + 1, by omega, by omega, by go_num, hB7, C7, P7, bel7⟩
                case measure => simp [intOf]; omega
        · have d1 : (i : Int) ≤ (ps.length : Int) := by omega
          have d2 : ¬ (i : Int) ≤ (LS : Int) := by omega
          go_wp2
          go_ret
          exact ⟨rfl, bel⟩
      · have d1 : ¬ (i : Int) ≤ (ps.length : Int) := by omega
        go_wp2
        go_ret
        exact ⟨rfl, bel⟩

theorem walk {w : World} (v0 : Value) (l0 : Nat) (k0 : Bytes w v0 l0) (v1 : Value) (l1 : Nat) (k1 : Bytes w v1 l1) :
    Calls Try.prog 3 #[v0, v1] w fun e w' => e = .returned (.bool true) ∧ Below w.heap.size w w' := by
  by_cases h0 : l0 ≤ 4096
  · by_cases h1 : l1 ≤ 4096
    · exact walk_ok v0 l0 k0 v1 l1 k1 h0 h1
    · exact walk_big v0 l0 k0 v1 l1 k1 (Or.inr ⟨h0, by omega⟩)
  · exact walk_big v0 l0 k0 v1 l1 k1 (Or.inl (by omega))

set_option maxRecDepth 100000 in
theorem lifted (os : Os) (started : os.Started) (H : Type) (enc : TypeId × Value → H) :
    ReturnsInHanded {} Try.checked os 3 .any (Rows.fnForwardSpec.pre6 enc Try.prog Try.f3 Rows.fnForwardRow.domain false) (Rows.fnForwardSpec.post enc Try.prog Try.f3 false true false false) := by
  refine returnsInHanded_of_change (C := Try.checked) own started (by kernel_rfl) Try.func3
    (ChangeSpec.witness6 (enc := enc) (C := Try.checked) false ⟨#[], #[.slice none 0 0, .slice none 0 0], []⟩ 8 (by kernel_rfl) (by kernel_rfl) (by kernel_rfl) (by kernel_rfl)) ?_
  intro W base args ds gs before hval0 hW hcnd _
  have hval : ∀ (j : Nat) t v, Try.f3.params[j]? = some t → args[j]? = some v → Value.okWide Try.prog W .any base t v := hval0
  have hW' := hW
  obtain ⟨p, q, hA0, hV, rfl, hfz, hnd⟩ := hW
  have hA : DataW.TrodAll enc Try.prog W 0 (fun _ => true) true Try.f3.params.toList args.toList ds p := hA0
  rw [Try.params3] at hA hval
  obtain ⟨v0, vs0, d0, ds0, p0, q0, hargs, rfl, rfl, h0, r0⟩ := trodAll_cons hA
  obtain ⟨v1, vs1, d1, ds1, p1, q1, rfl, rfl, rfl, h1, r1⟩ := trodAll_cons r0
  obtain ⟨rfl, rfl, rfl⟩ := trodAll_nil r1
  obtain rfl : args = #[v0, v1] := by cases args; simp_all
  obtain ⟨rfl, rfl⟩ := trodVars_none hV
  have k0 := h0
  have lt0 : ∀ x ∈ p0, x.block < W.heap.size := by obtain ⟨m, hm⟩ := k0; exact DataW.trod_lt m _ _ _ hm
  obtain ⟨c0, w0⟩ := open_code (hval 0 22 v0 rfl rfl) h0
  have k1 := h1
  have lt1 : ∀ x ∈ p1, x.block < W.heap.size := by obtain ⟨m, hm⟩ := k1; exact DataW.trod_lt m _ _ _ hm
  obtain ⟨c1, w1⟩ := open_code (hval 1 22 v1 rfl rfl) h1
  clear hA0 hval0
  refine (walk v0 c0 w0 v1 c1 w1).mono fun e W' ⟨he, bel⟩ => ?_
  subst he
  exact ⟨_, rfl, _, _, _, [], _, [], hW', trodAll_mk1 (shut_bool Try.underlying4 _), (trodAll_cons_mk (Below.trod laidOut (by kernel_rfl) (of_decide_eq_true (by kernel_rfl)) k0 bel lt0) (trodAll_cons_mk (Below.trod laidOut (by kernel_rfl) (of_decide_eq_true (by kernel_rfl)) k1 bel lt1) trodAll_mk0)), rfl, bel.frame _, fun h => by cases h⟩

set_option maxHeartbeats 8000000 in
theorem closed : joinedFacts Try.prog 3 Try.f3 Rows.fnForwardSpec Rows.fnForwardRow = true := by
  unfold joinedFacts
  simp only [Bool.and_eq_true]
  exact ⟨⟨⟨⟨⟨⟨⟨⟨⟨⟨⟨⟨⟨⟨⟨⟨⟨⟨⟨⟨⟨⟨⟨⟨⟨⟨⟨⟨⟨⟨⟨(by as_aux_lemma => kernel_rfl), clo_laid⟩, clo_maps⟩, (by as_aux_lemma => kernel_rfl)⟩, (by as_aux_lemma => kernel_rfl)⟩, (by as_aux_lemma => kernel_rfl)⟩, clo_stops⟩, (by as_aux_lemma => kernel_rfl)⟩, clo_knobs⟩, (by as_aux_lemma => kernel_rfl)⟩, (by as_aux_lemma => kernel_rfl)⟩, (by as_aux_lemma => kernel_rfl)⟩, (by as_aux_lemma => kernel_rfl)⟩, (by as_aux_lemma => kernel_rfl)⟩, (by as_aux_lemma => kernel_rfl)⟩, (by as_aux_lemma => kernel_rfl)⟩, (by as_aux_lemma => kernel_rfl)⟩, (by as_aux_lemma => kernel_rfl)⟩, (by as_aux_lemma => kernel_rfl)⟩, (by as_aux_lemma => kernel_rfl)⟩, (by as_aux_lemma => kernel_rfl)⟩, (by as_aux_lemma => kernel_rfl)⟩, clo_keys⟩, (by as_aux_lemma => kernel_rfl)⟩, clo_heard⟩, clo_enter⟩, clo_lifts⟩, clo_make⟩, (by as_aux_lemma => kernel_rfl)⟩, (by as_aux_lemma => kernel_rfl)⟩, (by as_aux_lemma => kernel_rfl)⟩, (by as_aux_lemma => kernel_rfl)⟩

theorem over : Rows.fnForwardRow.holds Try.pinned (OpenSpec.ofChange Rows.fnForwardSpec) :=
  OpenClaim.holds_of_wide 3 Try.f3 rfl rfl rfl rfl rfl rfl rfl ⟨rfl, rfl, rfl, rfl, rfl⟩ rfl rfl rfl rfl rfl (by kernel_rfl) Try.func3 closed
    (of_decide_eq_true (by kernel_rfl)) (by unfold Func.isWrapper; first | (rw [if_pos (by decide +kernel)]; kernel_rfl) | (rw [if_neg (by decide +kernel)]; exact ⟨rfl, rfl⟩))
    (fun os started H enc _ => lifted os started H enc)

/-- the statement -/
theorem proved : Rows.FnForwardSaid := over
end Go.Proofs.Ytacnafjmcfcalaa.fnForward
