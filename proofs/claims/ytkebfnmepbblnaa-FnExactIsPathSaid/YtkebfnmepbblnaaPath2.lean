/- The project's areStates, isPath, checkConnected, checkFor and IsPath; the specification's IsPath. Conditions: none. -/
import Derived.Test.YtkebfnmepbblnaaPath
namespace Go.Proofs.Ytkebfnmepbblnaa
open Go.RowKit Go.Deep
set_option linter.unusedVariables false

set_option maxHeartbeats 4000000 in
theorem checkConnected_any (cv : Value) (c : Ch) (w : World) (hc : ChR w cv c) :
    Calls Try.prog 82 #[cv] w fun e w' => e = .returned (.int .i64 (conCode c)) ∧ Below w.heap.size w w' := by
  obtain ⟨a, cap, rfl⟩ := hc.shape
  have B0 := below1 w (.cells #[.int .i64 c.n, .int .i64 c.t, .slice a c.w.length cap] 29)
  have hB := Blk.new w #[.int .i64 c.n, .int .i64 c.t, .slice a c.w.length cap] 29
  have Kc := hc.keep B0
  have hv := ValidChain_impl _ c _ Kc
  by_cases oc : chOk c = true
  · rw [oc] at hv
    have hr := Lib.hid (show conCode c = if joinedB (rchB c) c.w.length = true then 0 else 4 by simp [conCode, oc])
    have hcl := Lib.hid (fun w1 b1 => classesOf_any _ c w1 (Kc.keep b1) oc)
    have hN := (show 1 ≤ c.w.length ∧ c.w.length ≤ 6 by obtain ⟨n1, n2, -, -, hlen, -⟩ := chOk_all oc; omega)
    obtain ⟨hN1, hN6⟩ := hN
    clear oc hc Kc
    go_enter Try.func82, Try.ntmps82
    go_wp2_with fail
    refine hv.mono ?_
    rintro e w1 ⟨rfl, b1⟩
    obtain ⟨q0, q1, q2⟩ := (hB.keep b1 hB.lt).three
    have bb1 := below_wt B0 b1
    go_wp2_with fail
    refine (hcl.out _ b1).mono ?_
    rintro e w2 ⟨mv, na, ncap, mb, bx, lo1, hi1, rvs, vs, rfl, hI, hv0, h1, h2, h3, h4⟩
    have hI' := Lib.hid hI
    have bb2 := below_wt bb1 hI.ci.bel
    clear hI hv0 q0 q1 q2
    go_wp2_with fail
    refine (areOne_any hI'.out).mono ?_
    rintro e w3 ⟨rfl, b3⟩
    rcases hj : joinedB (rchB c) c.w.length with _ | _
    · have hr2 := Lib.hid (show conCode c = 4 by rw [hr.out, hj]; rfl)
      clear hj
      go_wp2
      go_ret
      exact ⟨ret_int hr2.out.symm, below_wt bb2 b3⟩
    · have hr2 := Lib.hid (show conCode c = 0 by rw [hr.out, hj]; rfl)
      clear hj
      go_wp2
      go_ret
      exact ⟨ret_int hr2.out.symm, below_wt bb2 b3⟩
  · have oc' : chOk c = false := by simpa using oc
    rw [oc'] at hv
    have hr := Lib.hid (show conCode c = 1 by simp [conCode, oc'])
    clear oc oc' hc Kc
    go_enter Try.func82, Try.ntmps82
    go_wp2_with fail
    refine hv.mono ?_
    rintro e w1 ⟨rfl, b1⟩
    go_wp2
    go_ret
    exact ⟨ret_int hr.out.symm, below_wt B0 b1⟩

set_option maxHeartbeats 4000000 in
theorem checkFor_any (cv : Value) (c : Ch) (r : Bool) (w : World) (hc : ChR w cv c) :
    Calls Try.prog 75 #[cv, .bool r] w fun e w' => e = .returned (.int .i64 (forCode c r)) ∧ Below w.heap.size w w' := by
  obtain ⟨a, cap, rfl⟩ := hc.shape
  have B0 := below1 w (.cells #[.int .i64 c.n, .int .i64 c.t, .slice a c.w.length cap] 29)
  have hB := Blk.new w #[.int .i64 c.n, .int .i64 c.t, .slice a c.w.length cap] 29
  have Kc := hc.keep B0
  have hv := ValidChain_impl _ c _ Kc
  have hcc := Lib.hid (fun w1 b1 => checkConnected_any _ c w1 (Kc.keep b1))
  rcases oc : chOk c with _ | _
  · rw [oc] at hv
    have hr := Lib.hid (show forCode c r = conCode c by simp [forCode, oc])
    clear oc hc Kc
    go_enter Try.func75, Try.ntmps75
    go_wp2_with fail
    refine hv.mono ?_
    rintro e w1 ⟨rfl, b1⟩
    obtain ⟨q0, q1, q2⟩ := (hB.keep b1 hB.lt).three
    go_wp2_with fail
    refine (hcc.out _ b1).mono ?_
    rintro e w2 ⟨rfl, b2⟩
    go_wp2
    go_ret
    exact ⟨ret_int hr.out.symm, below_wt (below_wt B0 b1) b2⟩
  · rw [oc] at hv
    cases r with
    | false =>
      have hr := Lib.hid (show forCode c false = 2 by simp [forCode, oc])
      clear oc hc Kc
      go_enter Try.func75, Try.ntmps75
      go_wp2_with fail
      refine hv.mono ?_
      rintro e w1 ⟨rfl, b1⟩
      go_wp2
      go_ret
      exact ⟨ret_int hr.out.symm, below_wt B0 b1⟩
    | true =>
      have hr := Lib.hid (show forCode c true = conCode c by simp [forCode, oc])
      clear oc hc Kc
      go_enter Try.func75, Try.ntmps75
      go_wp2_with fail
      refine hv.mono ?_
      rintro e w1 ⟨rfl, b1⟩
      obtain ⟨q0, q1, q2⟩ := (hB.keep b1 hB.lt).three
      go_wp2_with fail
      refine (hcc.out _ b1).mono ?_
      rintro e w2 ⟨rfl, b2⟩
      go_wp2
      go_ret
      exact ⟨ret_int hr.out.symm, below_wt (below_wt B0 b1) b2⟩

theorem within_all (xs : List Int) (lo hi : Int) : within xs xs.length lo hi = xs.all fun x => inB x lo hi := by simp [within]
set_option maxHeartbeats 4000000 in
theorem areStates_any (cv v : Value) (c : Ch) (xs : List Int) (w : World) (hc : ChR w cv c) (hv : Ints w v xs) :
    Calls Try.prog 76 #[cv, v] w fun e w' => ∃ r, e = .returned (.bool r) ∧ (1 ≤ c.n → c.n ≤ 6 → r = stsOk c xs) ∧ Below w.heap.size w w' := by
  obtain ⟨a, cap, rfl⟩ := hc.shape
  have B0 := below1 w (.cells #[.int .i64 c.n, .int .i64 c.t, .slice a c.w.length cap] 29)
  have hB := Blk.new w #[.int .i64 c.n, .int .i64 c.t, .slice a c.w.length cap] 29
  have hv' := hv.keep B0
  have hcI := isIn_any xs.length 1 c.n (w.alloc (.cells #[.int .i64 c.n, .int .i64 c.t, .slice a c.w.length cap] 29))
  have haw := Lib.hid (fun hi => areWithin_any v xs xs.length 0 hi _ hv')
  have hdef := Lib.hid (show stsOk c xs = (inB xs.length 1 c.n && xs.all fun x => inB x 0 (c.n - 1)) from rfl)
  have hwl := Lib.hid (within_all xs 0 (c.n - 1))
  obtain ⟨hm, va, vcap, rfl⟩ := hv.len
  unfold maxLen at hm
  rcases hin : inB xs.length 1 c.n with _ | _
  · rw [hin] at hcI hdef
    have hfin := Lib.hid (show stsOk c xs = false by rw [hdef.out]; rfl)
    clear hin hc hv hv'
    go_enter Try.func76, Try.ntmps76
    go_wp2_with fail
    refine hcI.mono ?_
    rintro e w1 ⟨rfl, rfl⟩
    go_wp2
    go_ret
    exact ⟨_, rfl, fun _ _ => hfin.out.symm, B0⟩
  · rw [hin] at hcI hdef
    have h1 := inB_iff.1 hin
    by_cases h6 : c.n ≤ 6
    · have hfin := Lib.hid (show within xs xs.length 0 (c.n - 1) = stsOk c xs by rw [hdef.out, hwl.out]; rfl)
      have haw2 := haw.out (c.n - 1)
      clear hin hc hv hv'
      go_enter Try.func76, Try.ntmps76
      go_wp2_with fail
      refine hcI.mono ?_
      rintro e w1 ⟨rfl, rfl⟩
      go_wp2_with fail
      refine haw2.mono ?_
      rintro e w2 ⟨rfl, b2⟩
      go_wp2
      go_ret
      exact ⟨_, rfl, fun _ _ => hfin.out, below_wt B0 b2⟩
    · clear hin hc hv hv'
      go_enter Try.func76, Try.ntmps76
      go_wp2_with fail
      refine hcI.mono ?_
      rintro e w1 ⟨rfl, rfl⟩
      go_wp2_with fail
      refine (haw.out _).mono ?_
      rintro e w2 ⟨rfl, b2⟩
      go_wp2
      go_ret
      exact ⟨_, rfl, fun _ h => absurd h (by omega), below_wt B0 b2⟩

theorem contains_q (v : Value) (xs : List Int) (n : Int) (w : World) (m : Nat) (hv : Ints w v xs) : Calls Try.prog 148 #[v, .int .i64 n] (w.drewN m) fun e w'' => e = .returned (.bool (hasB xs n)) ∧ ∃ m', w'' = w.drewN m' :=
  (contains_any v xs n _ (hv.keep (below_drewN (Below.refl _ _) m))).mono fun _ _ ⟨he, hw⟩ => ⟨he, m, hw.symm⟩
theorem contains_s (v : Value) (xs : List Int) (n : Int) (w : World) (m : Nat) (hv : Ints w v xs) : Calls Try.prog 148 #[v, .int .i64 n] (w.drewN m) fun e w'' => e = .returned (.bool (hasB xs n)) ∧ w'' = w.drewN m :=
  (contains_any v xs n _ (hv.keep (below_drewN (Below.refl _ _) m))).mono fun _ _ ⟨he, hw⟩ => ⟨he, hw.symm⟩

set_option maxRecDepth 100000 in
set_option maxHeartbeats 8000000 in
theorem isPath_any (cv v : Value) (c : Ch) (xs : List Int) (w : World) (hc : ChR w cv c) (hv : Ints w v xs) (oc : chOk c = true) (hst : stsOk c xs = true) :
    Calls Try.prog 77 #[cv, v] w fun e w' => e = .returned (.bool (pthOk c xs)) ∧ Below w.heap.size w w' := by
  obtain ⟨n1, n2, t1, t2, hlen, hrows⟩ := chOk_all oc
  obtain ⟨⟨L1, L6⟩, hs⟩ : (1 ≤ xs.length ∧ xs.length ≤ 6) ∧ xs.all (fun x => inB x 0 (c.n - 1)) = true := by
    unfold stsOk at hst
    rw [Bool.and_eq_true] at hst
    have := inB_iff.1 hst.1
    exact ⟨by omega, hst.2⟩
  obtain ⟨a, cap, rfl⟩ := hc.shape
  have B0 := below1 w (.cells #[.int .i64 c.n, .int .i64 c.t, .slice a c.w.length cap] 29)
  have hB := Blk.new w #[.int .i64 c.n, .int .i64 c.t, .slice a c.w.length cap] 29
  have hv' := hv.keep B0
  have R := (hc.keep B0).rows
  have k2 := hB.cell 2
  generalize hV : w.alloc (.cells #[.int .i64 c.n, .int .i64 c.t, .slice a c.w.length cap] 29) = V at *
  have hV' := Lib.hid hV
  clear hV hB hc hv
  obtain ⟨N, hN⟩ : ∃ N, c.w.length = N := ⟨_, rfl⟩
  obtain ⟨mb, mo, mc, hmv, hG⟩ := gridI R hN (by omega) (fun s hs => by
    have := hrows _ (getD_mem (l := c.w) (d := []) (show s < c.w.length by omega))
    simp only [okRow, Bool.and_eq_true, decide_eq_true_eq] at this
    omega)
  rw [hN] at hmv k2 hV' R ⊢
  rw [hmv] at k2 hV' ⊢
  have k2' : V.cell? ⟨w.heap.size, 2, none⟩ = some (.slice (some ⟨mb, mo, none⟩) N mc) := k2
  have G := Lib.hid hG
  have P := Lib.hid (show ∀ i, i < xs.length → ∃ s : Nat, xs.getD i 0 = s ∧ s < N from fun i hi => by
    obtain ⟨s, h1, h2⟩ := nat_at hs hi
    exact ⟨s, h1, by omega⟩)
  have hW := Lib.hid (show ∀ s t : Nat, wtOf c s t = (c.w.getD s []).getD t 0 from fun s t => by unfold wtOf; simp)
  obtain ⟨bb, off, vcap, rfl, -, hcc⟩ := hv'.at (by omega)
  have hX := Lib.hid hcc
  have hno := Lib.hid (show ∀ k, k < xs.length → pthAt c xs k = false → pthOk c xs = false from fun k hk h => by unfold pthOk; exact rngAll_no hk h)
  have h00 := Lib.hid (show (List.range 1).all (fun i => pthAt c xs i) = true by simp [pthAt, hasB])
  have hcon := Lib.hid (fun k (hk : k ≤ xs.length) n m => contains_s _ (xs.take k) n V m (hv'.pre k hk))
  have hcap := hv'.caps
  obtain ⟨_, _, hcv, hcap1, hcap2⟩ := hcap
  simp only [Value.slice.injEq] at hcv
  obtain ⟨-, -, rfl⟩ := hcv
  have hfin0 := Lib.hid (show (List.range xs.length).all (fun i => pthAt c xs i) = true → pthOk c xs = true from fun h => h)
  unfold maxLen at hcap2
  obtain ⟨M, hM⟩ : ∃ M, xs.length = M + 1 := ⟨xs.length - 1, by omega⟩
  clear hG R hrows hs hlen oc hcc hst k2 hmv hv'
  have hend := Lib.hid (show ∀ k, pthAt c xs (k + 1) = (!hasB (xs.take (k + 1)) (xs.getD (k + 1) 0) && !decide (wtOf c (xs.getD k 0) (xs.getD (k + 1) 0) = 0)) from fun k => by unfold pthAt; simp)
  rw [hM] at hX hcon hno L6 L1 hcap1 hfin0 P ⊢
  clear hM
  have i1 : (1 : Int) ≤ ((M + 1 : Nat) : Int) := by omega
  by_cases hv1 : vcap = 1
  · subst hv1
    obtain rfl : M = 0 := by omega
    have hfin := Lib.hid (hfin0.out h00.out)
    clear hend hX hcon hno G P
    go_enter Try.func77, Try.ntmps77
    go_wp2
    rw [hV'.out]
    go_loopw [10] (fun i wr => i = .int .i64 0 ∧ wr = V) (fun i _ => 0)
    case atStart => exact ⟨rfl, rfl⟩
    case round =>
      obtain ⟨rfl, rfl⟩ := hrel
      go_wp2
      go_ret
      exact ⟨ret_bool hfin.out.symm, B0⟩
  go_enter Try.func77, Try.ntmps77
  go_wp2
  rw [hV'.out]
  go_loopw [10] (fun i wr => ∃ k : Nat, k ≤ M ∧ i = .int .i64 k ∧ Hid (∃ m, wr = V.drewN m) ∧ Hid ((List.range (k + 1)).all (fun i => pthAt c xs i) = true)) (fun i _ => M - (intOf i).toNat)
  case atStart => exact ⟨0, Nat.zero_le _, rfl, ⟨0, rfl⟩, h00⟩
  case round =>
    obtain ⟨k, hk, rfl, hw, ht⟩ := hrel
    by_cases hlt : k < M
    · obtain ⟨s, hs1, hs2⟩ := P.out k (by omega)
      obtain ⟨t, ht1, ht2⟩ := P.out (k + 1) (by omega)
      obtain ⟨rb, ro, rc, g1, g2⟩ := G.out s hs2
      have g3 := g2 t ht2
      clear g2
      have hxk : wr.cell? ⟨bb, off + k, none⟩ = some (.int .i64 (s : Int)) := by rw [← hs1]; obtain ⟨m, rfl⟩ := hw.out; exact hX.out k (by omega)
      have hxn : wr.cell? ⟨bb, off + 1 + k, none⟩ = some (.int .i64 (t : Int)) := by rw [← ht1, show off + 1 + k = off + (k + 1) from by omega]; obtain ⟨m, rfl⟩ := hw.out; exact hX.out (k + 1) (by omega)
      have k2w : wr.cell? ⟨w.heap.size, 2, none⟩ = some (.slice (some ⟨mb, mo, none⟩) N mc) := by obtain ⟨m, rfl⟩ := hw.out; exact k2'
      have g1' : wr.cell? ⟨mb, mo + s, none⟩ = some (.slice (some ⟨rb, ro, none⟩) N rc) := by obtain ⟨m, rfl⟩ := hw.out; exact g1
      have g3' : wr.cell? ⟨rb, ro + t, none⟩ = some (.int .i64 ((c.w.getD s []).getD t 0)) := by obtain ⟨m, rfl⟩ := hw.out; exact g3
      have hat := Lib.hid (show pthAt c xs (k + 1) = (!hasB (xs.take (k + 1)) t && !decide ((c.w.getD s []).getD t 0 = 0)) by rw [hend.out, hs1, ht1, hW.out])
      have hno1 := Lib.hid (hno.out (k + 1) (by omega))
      have hcall := Lib.hid (show ∀ m, Calls Try.prog 148 #[.slice (some ⟨bb, off, none⟩) (k + 1) vcap, .int .i64 (t : Int)] (wr.drewN m) fun e w'' => e = .returned (.bool (hasB (xs.take (k + 1)) t)) ∧ ∃ m', w'' = wr.drewN m' from fun m => by
        obtain ⟨m0, rfl⟩ := hw.out
        rw [World.drewN_drewN]
        exact (hcon.out (k + 1) (by omega) t _).mono fun e w'' ⟨he, hm⟩ => ⟨he, m, by rw [hm, World.drewN_drewN]⟩)
      clear g1 g3 hs1 ht1 k2'
      generalize (c.w.getD s []).getD t 0 = y at g3' hat
      have j1 : (k : Int) < (M : Int) := by omega
      have j2 : (k : Int) < (M : Int) + 1 := by omega
      have j5 : ¬ ((M : Int) + 1 ≤ (k : Int)) := by omega
      have j6 : (k : Int) + 1 ≤ (vcap : Int) := by omega
      have j3 : (s : Int) < (N : Int) := by omega
      have j4 : (t : Int) < (N : Int) := by omega
      by_cases hy : y = 0
      · subst hy
        have hfin := Lib.hid (hno1.out (by rw [hat.out]; simp))
        go_wp2
        go_quiet (fail)
        go_wp2
        go_ret
        exact ⟨ret_bool hfin.out.symm, by obtain ⟨m, rfl⟩ := hw.out; exact below_drewN (below_drewN B0 _) _⟩
      · have hy' : (y == 0) = false := by simpa using hy
        rcases hh : hasB (xs.take (k + 1)) t with _ | _
        · rw [hh] at hcall
          have hn2 := Lib.hid (rngAll_succ (f := fun i => pthAt c xs i) ht.out (show pthAt c xs (k + 1) = true by rw [hat.out, hh]; simp [hy]))
          clear hh hy
          go_wp2
          go_quiet ((go_at_call 148; exact hcall.out _))
          go_wp2
          go_roundw
          case rel => exact ⟨k + 1, by omega, by go_num, drawn_more hw.out _, hn2⟩
          case measure => simp [intOf]; omega
        · rw [hh] at hcall
          have hfin := Lib.hid (hno1.out (by rw [hat.out, hh]; rfl))
          clear hh hy
          go_wp2
          go_quiet ((go_at_call 148; exact hcall.out _))
          go_wp2
          go_ret
          exact ⟨ret_bool hfin.out.symm, by obtain ⟨m, rfl⟩ := hw.out; exact below_drewN (below_drewN B0 _) _⟩
    · obtain rfl : k = M := by omega
      have hfin := Lib.hid (hfin0.out ht.out)
      go_wp2
      go_ret
      exact ⟨ret_bool hfin.out.symm, by obtain ⟨m, rfl⟩ := hw.out; exact below_drewN B0 _⟩

theorem forCode_zero {c : Ch} {r : Bool} (h : forCode c r = 0) : chOk c = true ∧ r = true ∧ joinedB (rchB c) c.w.length = true := by
  unfold forCode conCode at h
  by_cases oc : chOk c = true
  · cases r with
    | false => simp [oc] at h
    | true =>
      by_cases hj : joinedB (rchB c) c.w.length = true
      · exact ⟨oc, rfl, hj⟩
      · simp [oc, hj] at h
  · simp [oc] at h
theorem forCode_eq {c : Ch} {r r' : Bool} (h : 1 ≤ c.n → c.n ≤ 6 → r = r') : forCode c r = forCode c r' := by
  by_cases oc : chOk c = true
  · obtain ⟨n1, n2, -⟩ := chOk_all oc
    rw [h n1 n2]
  · simp [forCode, oc]

set_option maxRecDepth 100000 in
set_option maxHeartbeats 8000000 in
theorem IsPath_impl (cv v : Value) (c : Ch) (xs : List Int) (w : World) (hc : ChR w cv c) (hv : Ints w v xs) :
    Calls Try.prog 19 #[cv, v] w fun e w' => e = .returned (.tuple #[.bool (ispOf c xs).1, .int .i64 (ispOf c xs).2]) ∧ Below w.heap.size w w' := by
  obtain ⟨a, cap, rfl⟩ := hc.shape
  obtain ⟨va, vcap, rfl⟩ := hv.shape
  have B0 := below1 w (.cells #[.int .i64 c.n, .int .i64 c.t, .slice a c.w.length cap] 29)
  have hB := Blk.new w #[.int .i64 c.n, .int .i64 c.t, .slice a c.w.length cap] 29
  have Kc := hc.keep B0
  have Kv := hv.keep B0
  generalize hV : w.alloc (.cells #[.int .i64 c.n, .int .i64 c.t, .slice a c.w.length cap] 29) = V at *
  have hV' := Lib.hid hV
  have hq := Lib.hid (show ∀ u, Below V.heap.size V u → u.cell? ⟨w.heap.size, 0, none⟩ = some (.int .i64 c.n) ∧ u.cell? ⟨w.heap.size, 1, none⟩ = some (.int .i64 c.t) ∧ u.cell? ⟨w.heap.size, 2, none⟩ = some (.slice a c.w.length cap) from fun u hu => (hB.keep hu hB.lt).three)
  have har := Lib.hid (fun u (hu : Below V.heap.size V u) => areStates_any _ _ c xs u (Kc.keep hu) (Kv.keep hu))
  have hcf := Lib.hid (fun u (hu : Below V.heap.size V u) r => checkFor_any _ c r u (Kc.keep hu))
  have hip := Lib.hid (fun u (hu : Below V.heap.size V u) oc hst => isPath_any _ _ c xs u (Kc.keep hu) (Kv.keep hu) oc hst)
  clear hV hB hc hv Kc Kv
  obtain ⟨K, hK⟩ : ∃ K, forCode c (stsOk c xs) = K := ⟨_, rfl⟩
  have hfr := Lib.hid (show ∀ r, (1 ≤ c.n → c.n ≤ 6 → r = stsOk c xs) → forCode c r = K from fun r h => (forCode_eq h).trans hK)
  obtain ⟨q0, q1, q2⟩ := hq.out V.drew (below_drew V)
  by_cases hk : K = 0
  · subst hk
    obtain ⟨oc, hst, hj⟩ := forCode_zero hK
    have hres := Lib.hid (show ispOf c xs = (pthOk c xs, 0) by unfold ispOf; rw [if_pos hK])
    have hip2 := Lib.hid (fun u hu => hip.out u hu oc hst)
    clear hK oc hst hj hip
    go_enter Try.func19, Try.ntmps19
    go_upto_region 1 with fail
    rw [hV'.out]
    go_region_held3 (fun w' => w'.cell? ⟨w.heap.size, 0, none⟩ = some (.int .i64 c.n) ∧ w'.cell? ⟨w.heap.size, 1, none⟩ = some (.int .i64 c.t) ∧ w'.cell? ⟨w.heap.size, 2, none⟩ = some (.slice a c.w.length cap)) (go_keep)
      (first | (go_at_call 75; (with_reducible refine (hcf.out _ bz1 _).mono ?_); rintro e u2 ⟨rfl, b2⟩; rw [hfr.out _ hr1]; have bz2 : Below V.heap.size V u2 := below_wt bz1 b2; obtain ⟨q0, q1, q2⟩ := hq.out u2 bz2)
             | (go_at_call 76; (with_reducible refine (har.out V.drew (below_drew V)).mono ?_); rintro e u1 ⟨r, rfl, hr1, b1⟩; have bz1 : Below V.heap.size V u1 := below_wt (below_drew V) b1; obtain ⟨q0, q1, q2⟩ := hq.out u1 bz1))
    all_goals go_wp2_with fail
    all_goals ((with_reducible refine (hip2.out _ bz2).mono ?_); rintro e u3 ⟨rfl, b3⟩)
    all_goals go_wp2
    all_goals go_ret2
    all_goals (rw [hres.out]; exact ⟨rfl, below_wt B0 (below_wt bz2 b3)⟩)
  · have hres := Lib.hid (show ispOf c xs = (false, K) by unfold ispOf; rw [hK, if_neg hk])
    have hne : (K != 0) = true := by simpa using hk
    clear hK hip hk
    go_enter Try.func19, Try.ntmps19
    go_upto_region 1 with fail
    rw [hV'.out]
    go_region_held3 (fun w' => w'.cell? ⟨w.heap.size, 0, none⟩ = some (.int .i64 c.n) ∧ w'.cell? ⟨w.heap.size, 1, none⟩ = some (.int .i64 c.t) ∧ w'.cell? ⟨w.heap.size, 2, none⟩ = some (.slice a c.w.length cap)) (go_keep)
      (first | (go_at_call 75; (with_reducible refine (hcf.out _ bz1 _).mono ?_); rintro e u2 ⟨rfl, b2⟩; rw [hfr.out _ hr1]; have bz2 : Below V.heap.size V u2 := below_wt bz1 b2; obtain ⟨q0, q1, q2⟩ := hq.out u2 bz2)
             | (go_at_call 76; (with_reducible refine (har.out V.drew (below_drew V)).mono ?_); rintro e u1 ⟨r, rfl, hr1, b1⟩; have bz1 : Below V.heap.size V u1 := below_wt (below_drew V) b1; obtain ⟨q0, q1, q2⟩ := hq.out u1 bz1))
    all_goals go_wp2
    all_goals go_ret2
    all_goals (rw [hres.out]; exact ⟨rfl, below_wt B0 bz2⟩)

set_option maxRecDepth 100000 in
set_option maxHeartbeats 8000000 in
theorem IsPath_spec (cv v : Value) (c : Ch) (xs : List Int) (w : World) (hc : ChR w cv c) (hv : Ints w v xs) :
    Calls Try.prog 16 #[cv, v] w fun e w' => e = .returned (.tuple #[.bool (ispOf c xs).1, .int .i64 (ispOf c xs).2]) ∧ Below w.heap.size w w' := by
  obtain ⟨a, cap, rfl⟩ := hc.shape
  obtain ⟨va, vcap, rfl⟩ := hv.shape
  have B0 := below1 w (.cells #[.int .i64 c.n, .int .i64 c.t, .slice a c.w.length cap] 29)
  have hB := Blk.new w #[.int .i64 c.n, .int .i64 c.t, .slice a c.w.length cap] 29
  have Pc0 : ChP (w.alloc (.cells #[.int .i64 c.n, .int .i64 c.t, .slice a c.w.length cap] 29)) w.heap.size c := ⟨_, hB.cell 0, hB.cell 1, hB.cell 2, (hc.keep B0).rows⟩
  have Kv := hv.keep B0
  generalize hV : w.alloc (.cells #[.int .i64 c.n, .int .i64 c.t, .slice a c.w.length cap] 29) = V at *
  have hV' := Lib.hid hV
  have Pc := Lib.hid (fun m => Pc0.keep (below_drewN (Below.refl _ V) m))
  have Kv' := Lib.hid (fun m => Kv.keep (below_drewN (Below.refl _ V) m))
  have hok := l01Ok_any w.heap.size c V Pc0
  clear hV hB hc hv Pc0 Kv
  rcases oc : chOk c with _ | _
  · rw [oc] at hok
    have hres := Lib.hid (show ispOf c xs = (false, 1) by simp [ispOf, forCode, conCode, oc])
    clear oc
    go_enter Try.func16, Try.ntmps16
    go_wp2_with fail
    rw [hV'.out]
    refine hok.mono ?_
    rintro e w1 ⟨rfl, m, rfl⟩
    go_wp2
    go_ret2
    rw [hres.out]
    exact ⟨rfl, below_drewN B0 _⟩
  rw [oc] at hok
  obtain ⟨n1, n2, -⟩ := chOk_all oc
  have hst0 := Lib.hid (fun m => l06States_any w.heap.size c _ xs (V.drewN m) (Pc.out m) (Kv'.out m) n1 n2)
  rcases hs : stsOk c xs with _ | _
  · rw [hs] at hst0
    have hres := Lib.hid (show ispOf c xs = (false, 2) by simp [ispOf, forCode, oc, hs])
    clear oc hs
    go_enter Try.func16, Try.ntmps16
    go_wp2_with fail
    rw [hV'.out]
    refine hok.mono ?_
    rintro e w1 ⟨rfl, m, rfl⟩
    go_wp2_with fail
    refine (hst0.out m).mono ?_
    rintro e w2 ⟨rfl, m2, rfl⟩
    go_wp2
    go_ret2
    rw [hres.out]
    exact ⟨rfl, by first | exact below_drewN B0 _ | exact below_drewN (below_drewN B0 _) _⟩
  rw [hs] at hst0
  have hall : xs.all (fun x => inB x 0 (c.n - 1)) = true := by
    have := hs
    unfold stsOk at this
    rw [Bool.and_eq_true] at this
    exact this.2
  have hjo := Lib.hid (fun m => l02Joined_any w.heap.size c (V.drewN m) (Pc.out m) oc)
  have hpt := Lib.hid (fun u (hu : Below V.heap.size V u) => l06Path_any w.heap.size c _ xs u ((Pc.out 0).keep hu) ((Kv'.out 0).keep hu) oc hall)
  rcases hj : joinedB (rchB c) c.w.length with _ | _
  · rw [hj] at hjo
    have hres := Lib.hid (show ispOf c xs = (false, 4) by simp [ispOf, forCode, conCode, oc, hs, hj])
    clear oc hs hj hpt
    go_enter Try.func16, Try.ntmps16
    go_wp2_with fail
    rw [hV'.out]
    refine hok.mono ?_
    rintro e w1 ⟨rfl, m, rfl⟩
    go_wp2_with fail
    refine (hst0.out m).mono ?_
    rintro e w2 ⟨rfl, m2, rfl⟩
    rw [World.drewN_drewN]
    go_wp2_with fail
    refine (hjo.out _).mono ?_
    rintro e w3 ⟨rfl, b3⟩
    go_wp2
    go_ret2
    rw [hres.out]
    exact ⟨rfl, below_wt (below_drewN B0 _) b3⟩
  · rw [hj] at hjo
    have hres := Lib.hid (show ispOf c xs = (pthOk c xs, 0) by simp [ispOf, forCode, conCode, oc, hs, hj])
    clear oc hs hj
    go_enter Try.func16, Try.ntmps16
    go_wp2_with fail
    rw [hV'.out]
    refine hok.mono ?_
    rintro e w1 ⟨rfl, m, rfl⟩
    go_wp2_with fail
    refine (hst0.out m).mono ?_
    rintro e w2 ⟨rfl, m2, rfl⟩
    rw [World.drewN_drewN]
    go_wp2_with fail
    refine (hjo.out _).mono ?_
    rintro e w3 ⟨rfl, b3⟩
    have bz : Below V.heap.size V w3 := below_wt (below_drewN (Below.refl _ V) _) b3
    go_wp2_with fail
    refine (hpt.out w3 bz).mono ?_
    rintro e w4 ⟨rfl, m4, rfl⟩
    go_wp2
    go_ret2
    rw [hres.out]
    exact ⟨rfl, below_drewN (below_wt B0 bz) _⟩
end Go.Proofs.Ytkebfnmepbblnaa
