/- ValidOrder of the specification. Conditions: none. -/
import Derived.Test.YtkebfnmepbblnaaBoolsT
import Derived.Test.YtkebfnmepbblnaaOkS
namespace Go.Proofs.Ytkebfnmepbblnaa
open Go.RowKit Go.Deep
set_option linter.unusedVariables false

/-- whether s is below t -/
def bb (xss : List (List Bool)) (s t : Nat) : Bool := (xss.getD s []).getD t false
def ordA1 (n : Int) (xss : List (List Bool)) (s : Nat) : Bool := decide (((xss.getD s []).length : Int) = n) && bb xss s s
def ordU1 (xss : List (List Bool)) (s t u : Nat) : Bool := !(bb xss s t && (bb xss t u && !bb xss s u))
def ordT1 (xss : List (List Bool)) (s t : Nat) : Bool := !(decide (s ≠ t) && (bb xss s t && bb xss t s)) && (List.range xss.length).all fun u => ordU1 xss s t u
def ordS1 (xss : List (List Bool)) (s : Nat) : Bool := (List.range xss.length).all fun t => ordT1 xss s t
/-- rows of bools that are an order of n states -/
def ordOk (n : Int) (xss : List (List Bool)) : Bool := inB n 1 6 && (decide ((xss.length : Int) = n) && ((List.range xss.length).all (fun s => ordA1 n xss s) && (List.range xss.length).all fun s => ordS1 xss s))
theorem rng_no {f : Nat → Bool} {k L : Nat} (hk : k < L) (h : f k = false) : (List.range L).all f = false := by
  rw [Bool.eq_false_iff]; intro hc
  rw [List.all_eq_true] at hc
  have := hc k (by simpa using hk)
  rw [h] at this; cases this
theorem rng_succ {f : Nat → Bool} {k : Nat} (h : (List.range k).all f = true) (hk : f k = true) : (List.range (k + 1)).all f = true := by
  rw [List.range_succ, List.all_append, h]; simp [hk]
theorem rng_at {f : Nat → Bool} {k L : Nat} (h : (List.range L).all f = true) (hk : k < L) : f k = true := by
  rw [List.all_eq_true] at h; exact h k (by simpa using hk)
/-- rows of one length: each cell -/
theorem grid {w : World} {v : Value} {xss : List (List Bool)} {N : Nat} (hv : BRows w v xss) (hl : xss.length = N) (h0 : 0 < N) (hr : ∀ s, s < N → (xss.getD s []).length = N) :
    ∃ b off cap, v = .slice (some ⟨b, off, none⟩) N cap ∧ ∀ s, s < N → ∃ rb ro rc, w.cell? ⟨b, off + s, none⟩ = some (.slice (some ⟨rb, ro, none⟩) N rc) ∧ ∀ t, t < N → w.cell? ⟨rb, ro + t, none⟩ = some (.bool (bb xss s t)) := by
  obtain ⟨b, off, cap, rv, rfl, _, hc⟩ := hv.at (by omega)
  refine ⟨b, off, cap, by rw [hl], fun s hs => ?_⟩
  obtain ⟨h1, h2⟩ := hc s (by omega)
  have hrs := hr s hs
  obtain ⟨rb, ro, rc, hrv, _, h3⟩ := h2.at (by omega)
  rw [hrs] at hrv
  exact ⟨rb, ro, rc, by rw [h1, hrv], fun t ht => h3 t (by omega)⟩
set_option maxRecDepth 100000 in
set_option maxHeartbeats 8000000 in
theorem ValidOrder_spec (n : Int) (v : Value) (xss : List (List Bool)) (w : World) (hv : BRows w v xss) :
    Calls Try.prog 39 #[.int .i64 n, v] w fun e w' => e = .returned (.bool (ordOk n xss)) ∧ w = w' := by
  obtain ⟨hm, a, cap, rfl⟩ := hv.len
  unfold maxLen at hm
  have hin := l00In_any n 1 6 w
  rcases h1 : inB n 1 6 with _ | _
  · rw [h1] at hin
    have hr := Lib.hid (show ordOk n xss = false by unfold ordOk; rw [h1]; rfl)
    clear h1
    go_enter Try.func39, Try.ntmps39
    go_wp2_with fail
    refine hin.mono ?_
    rintro e w' ⟨rfl, rfl⟩
    go_wp2
    go_ret
    exact ⟨ret_bool hr.out.symm, rfl⟩
  rw [h1] at hin
  by_cases h2 : (xss.length : Int) = n
  rotate_left
  · have hr := Lib.hid (show ordOk n xss = false by unfold ordOk; rw [decide_eq_false h2]; simp)
    have hne : ((xss.length : Int) != n) = true := by simpa using h2
    clear h1 h2
    go_enter Try.func39, Try.ntmps39
    go_wp2_with fail
    refine hin.mono ?_
    rintro e w' ⟨rfl, rfl⟩
    go_wp2
    go_ret
    exact ⟨ret_bool hr.out.symm, rfl⟩
  subst h2
  have hb := inB_iff.1 h1
  obtain ⟨N, hN⟩ : ∃ N, xss.length = N := ⟨_, rfl⟩
  have hr0 := Lib.hid (show ordOk (xss.length : Int) xss = ((List.range N).all (fun s => ordA1 (N : Int) xss s) && (List.range N).all fun s => ordS1 xss s) by unfold ordOk; rw [h1, ← hN]; simp)
  rw [hN] at hr0 hin hb ⊢
  clear h1
  go_enter Try.func39, Try.ntmps39
  go_wp2_with fail
  refine hin.mono ?_
  rintro e w' ⟨rfl, rfl⟩
  go_wp2
  go_loop [5] (fun i => ∃ k : Nat, k ≤ N ∧ i = .int .i64 k ∧ Hid ((List.range k).all (fun s => ordA1 (N : Int) xss s) = true)) (fun i => N - (intOf i).toNat)
  case atStart => exact ⟨0, by omega, rfl, show _ = _ by simp⟩
  case round =>
    obtain ⟨k, hk, rfl, hA⟩ := hrel
    by_cases hlt : k < N
    · obtain ⟨pb, po, pc, rv, hvv, _, hc⟩ := hv.at (by omega)
      simp only [Value.slice.injEq] at hvv
      obtain ⟨rfl, -, rfl⟩ := hvv
      obtain ⟨q1, hrow⟩ := hc k (by omega)
      obtain ⟨hml, ra, rc, hrv⟩ := hrow.len
      unfold maxLen at hml
      rw [hrv] at q1 hrow
      have hno := Lib.hid (fun h => rng_no (f := fun s => ordA1 (N : Int) xss s) hlt h)
      have hyes := Lib.hid (fun h => rng_succ (f := fun s => ordA1 (N : Int) xss s) hA.out h)
      have hdef := Lib.hid (show ordA1 (N : Int) xss k = (decide (((xss.getD k []).length : Int) = (N : Int)) && (xss.getD k []).getD k false) from rfl)
      have i1 : (k : Int) < (N : Int) := by omega
      clear hc hrv
      generalize xss.getD k [] = row at q1 hrow hml hdef
      by_cases hl : (row.length : Int) = (N : Int)
      · obtain ⟨rb, ro, rc2, hvv, _, h3⟩ := hrow.at (by omega)
        simp only [Value.slice.injEq] at hvv
        obtain ⟨rfl, -, rfl⟩ := hvv
        have q2 := h3 k (by omega)
        rw [decide_eq_true hl, Bool.true_and] at hdef
        have hl2 := Lib.hid hl
        have i2 : (k : Int) < (row.length : Int) := by omega
        have hneq : ((row.length : Int) != (N : Int)) = false := by simpa using hl
        clear h3 hrow
        rcases hbk : row.getD k false with _ | _
        · rw [hbk] at q2 hdef
          have hfin := Lib.hid (show ordOk (N : Int) xss = false by rw [hr0.out, hno.out hdef.out]; rfl)
          clear hbk hl
          go_wp2
          go_ret
          exact ⟨ret_bool hfin.out.symm, rfl⟩
        · rw [hbk] at q2 hdef
          have hn := Lib.hid (hyes.out hdef.out)
          clear hbk hl
          go_wp2
          go_round
          case rel => exact ⟨k + 1, by omega, by go_num, hn⟩
          case measure => first | (simp [intOf]; omega) | (simp [intOf]; done)
      · rw [decide_eq_false hl, Bool.false_and] at hdef
        have hfin := Lib.hid (show ordOk (N : Int) xss = false by rw [hr0.out, hno.out hdef.out]; rfl)
        have hneq : ((row.length : Int) != (N : Int)) = true := by simpa using hl
        clear hl hrow
        go_wp2
        go_ret
        exact ⟨ret_bool hfin.out.symm, rfl⟩
    · obtain rfl : k = N := by omega
      have hlen : ∀ s, s < k → (xss.getD s []).length = k := fun s hs => by
        have := rng_at hA.out hs
        unfold ordA1 at this
        simp only [Bool.and_eq_true, decide_eq_true_eq] at this
        omega
      have hG0 := grid hv hN (by omega) hlen
      obtain ⟨b, off, cp, hvv, hG1⟩ := hG0
      rw [hN] at hvv
      simp only [Value.slice.injEq] at hvv
      obtain ⟨rfl, -, rfl⟩ := hvv
      have hG := Lib.hid hG1
      have hr1 := Lib.hid (show ordOk (k : Int) xss = (List.range k).all fun s => ordS1 xss s by rw [hr0.out, hA.out]; rfl)
      have hT := Lib.hid (show ∀ s, ordS1 xss s = (List.range k).all fun t => ordT1 xss s t from fun s => by unfold ordS1; rw [hN])
      have hU := Lib.hid (show ∀ s t, ordT1 xss s t = (!(decide (s ≠ t) && (bb xss s t && bb xss t s)) && (List.range k).all fun u => ordU1 xss s t u) from fun s t => by unfold ordT1; rw [hN])
      clear hlen hG1 hv hm hr0 hA
      have i0 : ¬ ((k : Int) < (k : Int)) := by omega
      go_wp2
      go_loop [6] (fun i => ∃ s : Nat, s ≤ k ∧ i = .int .i64 s ∧ Hid ((List.range s).all (fun s => ordS1 xss s) = true)) (fun i => k - (intOf i).toNat)
      case atStart => exact ⟨0, by omega, rfl, show _ = _ by simp⟩
      case round =>
        obtain ⟨s, hs, rfl, hS⟩ := hrel
        by_cases hslt : s < k
        · have hnoS := Lib.hid (show ordS1 xss s = false → ordOk (k : Int) xss = false from fun h => hr1.out.trans (rng_no (f := fun s => ordS1 xss s) hslt h))
          obtain ⟨sb, so, sc, q1, q2⟩ := hG.out s hslt
          have i1 : (s : Int) < (k : Int) := by omega
          have q2' := Lib.hid q2
          clear q2
          go_wp2
          go_loop [7] (fun i => ∃ t : Nat, t ≤ k ∧ i = .int .i64 t ∧ Hid ((List.range t).all (fun t => ordT1 xss s t) = true)) (fun i => k - (intOf i).toNat)
          case atStart => exact ⟨0, by omega, rfl, show _ = _ by simp⟩
          case round =>
            obtain ⟨t, ht, rfl, hTT⟩ := hrel
            by_cases htlt : t < k
            · have hnoT := Lib.hid (show ordT1 xss s t = false → ordOk (k : Int) xss = false from fun h => hnoS.out ((hT.out s).trans (rng_no (f := fun t => ordT1 xss s t) htlt h)))
              obtain ⟨tb, tro, tc, q3, q4⟩ := hG.out t htlt
              have q5 := q2'.out t htlt
              have q6 := q4 s hslt
              have q4' := Lib.hid q4
              have i2 : (t : Int) < (k : Int) := by omega
              have hUd := Lib.hid (hU.out s t)
              clear q4
              by_cases est : s = t
              · have hneq : ((s : Int) != (t : Int)) = false := by rw [est]; simp
                have hpre := Lib.hid (show (decide (s ≠ t) && (bb xss s t && bb xss t s)) = false by simp [est])
                clear est
                rcases ha0 : bb xss s t with _ | _
                · rw [ha0] at q5
                  have ha := Lib.hid ha0
                  clear ha0
                  go_wp2
                  go_loop [8] (fun i => ∃ u : Nat, u ≤ k ∧ i = .int .i64 u ∧ Hid ((List.range u).all (fun u => ordU1 xss s t u) = true)) (fun i => k - (intOf i).toNat)
                  case atStart => exact ⟨0, by omega, rfl, show _ = _ by simp⟩
                  case round =>
                    obtain ⟨u, hu, rfl, hUU⟩ := hrel
                    by_cases hult : u < k
                    · have hnoU := Lib.hid (show ordU1 xss s t u = false → ordOk (k : Int) xss = false from fun h => hnoT.out (hUd.out.trans (by rw [hpre.out, rng_no (f := fun u => ordU1 xss s t u) hult h]; rfl)))
                      have i3 : (u : Int) < (k : Int) := by omega
                      have q7 := q4'.out u hult
                      have q8 := q2'.out u hult
                      have hn := Lib.hid (rng_succ (f := fun u => ordU1 xss s t u) hUU.out (by unfold ordU1; rw [ha.out]; rfl))
                      go_wp2
                      go_round
                      case rel => exact ⟨u + 1, by omega, by go_num, hn⟩
                      case measure => first | (simp [intOf]; omega) | (simp [intOf]; done)
                    · obtain rfl : u = k := by omega
                      have hn := Lib.hid (rng_succ (f := fun t => ordT1 xss s t) hTT.out (hUd.out.trans (by rw [hpre.out, hUU.out]; rfl)))
                      go_wp2
                      go_round
                      case rel => exact ⟨t + 1, by omega, by go_num, hn⟩
                      case measure => first | (simp [intOf]; omega) | (simp [intOf]; done)
                · rw [ha0] at q5
                  have ha := Lib.hid ha0
                  clear ha0
                  go_wp2
                  go_loop [8] (fun i => ∃ u : Nat, u ≤ k ∧ i = .int .i64 u ∧ Hid ((List.range u).all (fun u => ordU1 xss s t u) = true)) (fun i => k - (intOf i).toNat)
                  case atStart => exact ⟨0, by omega, rfl, show _ = _ by simp⟩
                  case round =>
                    obtain ⟨u, hu, rfl, hUU⟩ := hrel
                    by_cases hult : u < k
                    · have hnoU := Lib.hid (show ordU1 xss s t u = false → ordOk (k : Int) xss = false from fun h => hnoT.out (hUd.out.trans (by rw [hpre.out, rng_no (f := fun u => ordU1 xss s t u) hult h]; rfl)))
                      have i3 : (u : Int) < (k : Int) := by omega
                      have q7 := q4'.out u hult
                      have q8 := q2'.out u hult
                      rcases hb1 : bb xss t u with _ | _
                      · rw [hb1] at q7
                        have hn := Lib.hid (rng_succ (f := fun u => ordU1 xss s t u) hUU.out (by unfold ordU1; rw [ha.out, hb1]; rfl))
                        clear hb1
                        go_wp2
                        go_round
                        case rel => exact ⟨u + 1, by omega, by go_num, hn⟩
                        case measure => first | (simp [intOf]; omega) | (simp [intOf]; done)
                      · rw [hb1] at q7
                        rcases hc1 : bb xss s u with _ | _
                        · rw [hc1] at q8
                          have hfin := Lib.hid (hnoU.out (by unfold ordU1; rw [ha.out, hb1, hc1]; rfl))
                          clear hb1 hc1
                          go_wp2
                          go_ret
                          exact ⟨ret_bool hfin.out.symm, rfl⟩
                        · rw [hc1] at q8
                          have hn := Lib.hid (rng_succ (f := fun u => ordU1 xss s t u) hUU.out (by unfold ordU1; rw [ha.out, hb1, hc1]; rfl))
                          clear hb1 hc1
                          go_wp2
                          go_round
                          case rel => exact ⟨u + 1, by omega, by go_num, hn⟩
                          case measure => first | (simp [intOf]; omega) | (simp [intOf]; done)
                    · obtain rfl : u = k := by omega
                      have hn := Lib.hid (rng_succ (f := fun t => ordT1 xss s t) hTT.out (hUd.out.trans (by rw [hpre.out, hUU.out]; rfl)))
                      go_wp2
                      go_round
                      case rel => exact ⟨t + 1, by omega, by go_num, hn⟩
                      case measure => first | (simp [intOf]; omega) | (simp [intOf]; done)
              · have hneq : ((s : Int) != (t : Int)) = true := by simp; omega
                rcases ha0 : bb xss s t with _ | _
                · rw [ha0] at q5
                  have hpre := Lib.hid (show (decide (s ≠ t) && (bb xss s t && bb xss t s)) = false by rw [ha0]; simp)
                  have ha := Lib.hid ha0
                  clear ha0 est
                  go_wp2
                  go_loop [8] (fun i => ∃ u : Nat, u ≤ k ∧ i = .int .i64 u ∧ Hid ((List.range u).all (fun u => ordU1 xss s t u) = true)) (fun i => k - (intOf i).toNat)
                  case atStart => exact ⟨0, by omega, rfl, show _ = _ by simp⟩
                  case round =>
                    obtain ⟨u, hu, rfl, hUU⟩ := hrel
                    by_cases hult : u < k
                    · have hnoU := Lib.hid (show ordU1 xss s t u = false → ordOk (k : Int) xss = false from fun h => hnoT.out (hUd.out.trans (by rw [hpre.out, rng_no (f := fun u => ordU1 xss s t u) hult h]; rfl)))
                      have i3 : (u : Int) < (k : Int) := by omega
                      have q7 := q4'.out u hult
                      have q8 := q2'.out u hult
                      have hn := Lib.hid (rng_succ (f := fun u => ordU1 xss s t u) hUU.out (by unfold ordU1; rw [ha.out]; rfl))
                      go_wp2
                      go_round
                      case rel => exact ⟨u + 1, by omega, by go_num, hn⟩
                      case measure => first | (simp [intOf]; omega) | (simp [intOf]; done)
                    · obtain rfl : u = k := by omega
                      have hn := Lib.hid (rng_succ (f := fun t => ordT1 xss s t) hTT.out (hUd.out.trans (by rw [hpre.out, hUU.out]; rfl)))
                      go_wp2
                      go_round
                      case rel => exact ⟨t + 1, by omega, by go_num, hn⟩
                      case measure => first | (simp [intOf]; omega) | (simp [intOf]; done)
                · rw [ha0] at q5
                  rcases hc0 : bb xss t s with _ | _
                  · rw [hc0] at q6
                    have hpre := Lib.hid (show (decide (s ≠ t) && (bb xss s t && bb xss t s)) = false by rw [hc0]; simp)
                    have ha := Lib.hid ha0
                    clear ha0 est hc0
                    go_wp2
                    go_loop [8] (fun i => ∃ u : Nat, u ≤ k ∧ i = .int .i64 u ∧ Hid ((List.range u).all (fun u => ordU1 xss s t u) = true)) (fun i => k - (intOf i).toNat)
                    case atStart => exact ⟨0, by omega, rfl, show _ = _ by simp⟩
                    case round =>
                      obtain ⟨u, hu, rfl, hUU⟩ := hrel
                      by_cases hult : u < k
                      · have hnoU := Lib.hid (show ordU1 xss s t u = false → ordOk (k : Int) xss = false from fun h => hnoT.out (hUd.out.trans (by rw [hpre.out, rng_no (f := fun u => ordU1 xss s t u) hult h]; rfl)))
                        have i3 : (u : Int) < (k : Int) := by omega
                        have q7 := q4'.out u hult
                        have q8 := q2'.out u hult
                        rcases hb1 : bb xss t u with _ | _
                        · rw [hb1] at q7
                          have hn := Lib.hid (rng_succ (f := fun u => ordU1 xss s t u) hUU.out (by unfold ordU1; rw [ha.out, hb1]; rfl))
                          clear hb1
                          go_wp2
                          go_round
                          case rel => exact ⟨u + 1, by omega, by go_num, hn⟩
                          case measure => first | (simp [intOf]; omega) | (simp [intOf]; done)
                        · rw [hb1] at q7
                          rcases hc1 : bb xss s u with _ | _
                          · rw [hc1] at q8
                            have hfin := Lib.hid (hnoU.out (by unfold ordU1; rw [ha.out, hb1, hc1]; rfl))
                            clear hb1 hc1
                            go_wp2
                            go_ret
                            exact ⟨ret_bool hfin.out.symm, rfl⟩
                          · rw [hc1] at q8
                            have hn := Lib.hid (rng_succ (f := fun u => ordU1 xss s t u) hUU.out (by unfold ordU1; rw [ha.out, hb1, hc1]; rfl))
                            clear hb1 hc1
                            go_wp2
                            go_round
                            case rel => exact ⟨u + 1, by omega, by go_num, hn⟩
                            case measure => first | (simp [intOf]; omega) | (simp [intOf]; done)
                      · obtain rfl : u = k := by omega
                        have hn := Lib.hid (rng_succ (f := fun t => ordT1 xss s t) hTT.out (hUd.out.trans (by rw [hpre.out, hUU.out]; rfl)))
                        go_wp2
                        go_round
                        case rel => exact ⟨t + 1, by omega, by go_num, hn⟩
                        case measure => first | (simp [intOf]; omega) | (simp [intOf]; done)
                  · rw [hc0] at q6
                    have hfin := Lib.hid (hnoT.out (hUd.out.trans (by rw [ha0, hc0, decide_eq_true est]; rfl)))
                    clear ha0 est hc0
                    go_wp2
                    go_ret
                    exact ⟨ret_bool hfin.out.symm, rfl⟩
            · obtain rfl : t = k := by omega
              have hn := Lib.hid (rng_succ (f := fun s => ordS1 xss s) hS.out ((hT.out s).trans hTT.out))
              go_wp2
              go_round
              case rel => exact ⟨s + 1, by omega, by go_num, hn⟩
              case measure => first | (simp [intOf]; omega) | (simp [intOf]; done)
        · obtain rfl : s = k := by omega
          have hfin := Lib.hid (show ordOk (s : Int) xss = true by rw [hr1.out, hS.out])
          go_wp2
          go_ret
          exact ⟨ret_bool hfin.out.symm, rfl⟩
end Go.Proofs.Ytkebfnmepbblnaa
