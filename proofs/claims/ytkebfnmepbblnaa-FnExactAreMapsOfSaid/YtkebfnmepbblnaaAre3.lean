/- AreMapsOf of the specification. Conditions: none. -/
import Derived.Test.YtkebfnmepbblnaaAre2
namespace Go.Proofs.Ytkebfnmepbblnaa
open Go.RowKit Go.Deep
set_option linter.unusedVariables false

set_option maxRecDepth 100000 in
set_option maxHeartbeats 8000000 in
theorem AreMapsOf_spec (cv mv : Value) (c : Ch) (m : Ms) (w : World) (hc : ChR w cv c) (hm : MsR w mv m) :
    Calls Try.prog 52 #[cv, mv] w fun e w' => e = .returned (.tuple #[.bool (areOf c m).1, .int .i64 (areOf c m).2]) ∧ Below w.heap.size w w' := by
  obtain ⟨a, cap, rfl⟩ := hc.shape
  obtain ⟨mv0, rfl, hmr⟩ := hm
  obtain ⟨-, ma, mcap, rfl⟩ := hmr.len
  have B0 := below2 w (.cells #[.int .i64 c.n, .int .i64 c.t, .slice a c.w.length cap] 29) (.cells #[.int .i64 m.n, .int .i64 m.t, .slice ma m.l.length mcap] 64)
  have hB := (Blk.new w #[.int .i64 c.n, .int .i64 c.t, .slice a c.w.length cap] 29).alloc (.cells #[.int .i64 m.n, .int .i64 m.t, .slice ma m.l.length mcap] 64)
  have hD := Blk.new (w.alloc (.cells #[.int .i64 c.n, .int .i64 c.t, .slice a c.w.length cap] 29)) #[.int .i64 m.n, .int .i64 m.t, .slice ma m.l.length mcap] 64
  simp only [World.size_alloc] at hD
  have Pc0 : ChP _ w.heap.size c := ⟨_, hB.cell 0, hB.cell 1, hB.cell 2, (hc.keep B0).rows⟩
  have Pm0 : MsP _ (w.heap.size + 1) m := ⟨_, hD.cell 0, hD.cell 1, hD.cell 2, hmr.keep B0⟩
  have hR0 := (hc.keep B0).rows
  generalize hV : (w.alloc (.cells #[.int .i64 c.n, .int .i64 c.t, .slice a c.w.length cap] 29)).alloc (.cells #[.int .i64 m.n, .int .i64 m.t, .slice ma m.l.length mcap] 64) = V at *
  have hV' := Lib.hid hV
  have hq := Lib.hid (show ∀ u, Below V.heap.size V u → (u.cell? ⟨w.heap.size, 0, none⟩ = some (.int .i64 c.n) ∧ u.cell? ⟨w.heap.size, 1, none⟩ = some (.int .i64 c.t) ∧ u.cell? ⟨w.heap.size, 2, none⟩ = some (.slice a c.w.length cap)) ∧
      (u.cell? ⟨w.heap.size + 1, 0, none⟩ = some (.int .i64 m.n) ∧ u.cell? ⟨w.heap.size + 1, 1, none⟩ = some (.int .i64 m.t) ∧ u.cell? ⟨w.heap.size + 1, 2, none⟩ = some (.slice ma m.l.length mcap)) from fun u hu => ⟨(hB.keep hu hB.lt).three, (hD.keep hu hD.lt).three⟩)
  have hok := l01Ok_any w.heap.size c V Pc0
  have hmk := Lib.hid (fun u (hu : Below V.heap.size V u) => l05Ok_bel (w.heap.size + 1) m u (Pm0.keep hu))
  have hmc := Lib.hid (fun u (hu : Below V.heap.size V u) om => l05Chain_any (w.heap.size + 1) m u (Pm0.keep hu) om)
  have hcR := Lib.hid (fun u (hu : Below V.heap.size V u) => hR0.keep hu)
  clear hV hB hD hc hmr Pc0 Pm0 hR0
  have bz := Lib.hid (fun n => below_drewN (Below.refl V.heap.size V) n)
  rcases oc : chOk c with _ | _
  · rw [oc] at hok
    have hres := Lib.hid (show areOf c m = (false, 1) by simp [areOf, oc])
    clear oc
    go_enter Try.func52, Try.ntmps52
    go_wp2_with fail
    rw [hV'.out]
    refine hok.mono ?_
    rintro e w1 ⟨rfl, k, rfl⟩
    go_wp2
    go_ret2
    rw [hres.out]
    exact ⟨rfl, below_drewN B0 _⟩
  rw [oc] at hok
  rcases om : msOk m with _ | _
  · have hres := Lib.hid (show areOf c m = (false, 1) by simp [areOf, om])
    rw [om] at hmk
    clear oc om
    go_enter Try.func52, Try.ntmps52
    go_wp2_with fail
    rw [hV'.out]
    refine hok.mono ?_
    rintro e w1 ⟨rfl, k, rfl⟩
    go_wp2_with fail
    refine (hmk.out _ (bz.out k)).mono ?_
    rintro e w2 ⟨rfl, b2⟩
    go_wp2
    go_ret2
    rw [hres.out]
    exact ⟨rfl, below_wt (below_drewN B0 _) b2⟩
  rw [om] at hmk
  obtain ⟨n1, n2, t1, t2, hlen, -⟩ := chOk_all oc
  obtain ⟨-, ⟨mt1, mt2⟩, -⟩ := msOk_all om
  by_cases hn : c.n = m.n
  rotate_left
  · have hres := Lib.hid (show areOf c m = (false, 0) by simp [areOf, oc, om, hn])
    have hne : (c.n != m.n) = true := by simpa using hn
    clear oc om hn hlen
    go_enter Try.func52, Try.ntmps52
    go_wp2_with fail
    rw [hV'.out]
    refine hok.mono ?_
    rintro e w1 ⟨rfl, k, rfl⟩
    go_wp2_with fail
    refine (hmk.out _ (bz.out k)).mono ?_
    rintro e w2 ⟨rfl, b2⟩
    have b3 := below_wt (bz.out k) b2
    obtain ⟨⟨q0, q1, q2⟩, q3, q4, q5⟩ := hq.out _ b3
    go_wp2_with fail
    try go_quiet (fail)
    go_wp2
    go_ret2
    rw [hres.out]
    exact ⟨rfl, by first | exact below_wt B0 b3 | exact below_drewN (below_wt B0 b3) _⟩
  have hne : (c.n != m.n) = false := by simpa using hn
  obtain ⟨N, hN⟩ : ∃ N, c.w.length = N := ⟨_, rfl⟩
  have hmN : m.n.toNat = N := by omega
  have hmc2 := Lib.hid (fun u hu => hmc.out u hu om)
  rw [hmN] at hmc2
  have hres := Lib.hid (show areOf c m = ((List.range N).all (fun s => likeW c (wto m.l) m.t s), 0) by simp [areOf, oc, om, hn, hN])
  have hlk := Lib.hid (show ∀ s, likeW c (wto m.l) m.t s = (List.range N).all fun t => decide (wto m.l s t * c.t = (c.w.getD s []).getD t 0 * m.t) from fun s => by unfold likeW; rw [hN])
  have hwb := Lib.hid (wto_all om)
  have hce := Lib.hid (fun s t (hs : s < N) (ht : t < N) => (chOk_cells oc (s := s) (t := t) (by omega) (by omega)).2)
  have hgr := Lib.hid (fun u hu => gridI (hcR.out u hu) hN (by omega) (fun s hs => (chOk_cells oc (s := s) (t := s) (by omega) (by omega)).1.trans hN))
  have hgd := Lib.hid (fun u (v : Value) (h : Rows2 u v (rowsOf N (wto m.l))) => gridI h (rowsOf_length N (wto m.l)) (by omega) (fun s hs => by simp [rowsOf, List.getD, hs]))
  have hN6 : N ≤ 6 := by omega
  have hNh := Lib.hid hN
  rw [hN] at hq hV' hgr ⊢
  clear oc om hn hlen hmN hN hmc hcR
  generalize c.t = ct at *
  generalize m.t = T at *
  go_enter Try.func52, Try.ntmps52
  go_wp2_with fail
  rw [hV'.out]
  refine hok.mono ?_
  rintro e w1 ⟨rfl, k, rfl⟩
  go_wp2_with fail
  refine (hmk.out _ (bz.out k)).mono ?_
  rintro e w2 ⟨rfl, b2⟩
  have b3 := below_wt (bz.out k) b2
  obtain ⟨⟨q0, q1, q2⟩, q3, q4, q5⟩ := hq.out _ b3
  go_wp2_with fail
  try go_quiet (fail)
  try go_wp2_with fail
  refine (hmc2.out _ (by first | exact b3 | exact below_drewN b3 _)).mono ?_
  rintro e w3 ⟨dv, rfl, ho, b4⟩
  obtain ⟨da, dc, rfl⟩ := ho.shape
  simp only at ho
  rw [rowsOf_length] at ho
  simp only [rowsOf_length]
  have b5 : Below V.heap.size V (w3.alloc (.cells #[.int .i64 m.n, .int .i64 T, .slice da N dc] 29)) := below_wt (below_wt (by first | exact b3 | exact below_drewN b3 _) b4) (below1 _ _)
  have hA := (Blk.new w3 #[.int .i64 m.n, .int .i64 T, .slice da N dc] 29).three
  have hrows := (ChR.rows (c := ⟨m.n, T, rowsOf N (wto m.l)⟩) ho.ch).keep (below1 w3 (.cells #[.int .i64 m.n, .int .i64 T, .slice da N dc] 29))
  simp only at hrows
  clear ho q0 q1 q2 q3 q4 q5
  obtain ⟨db, doff, dcc, hdv, hdg0⟩ := hgd.out _ _ hrows
  obtain ⟨gb, goff, gcc, hgv, hcg0⟩ := hgr.out _ b5
  simp only [Value.slice.injEq] at hdv hgv
  obtain ⟨rfl, -, rfl⟩ := hdv
  obtain ⟨rfl, -, rfl⟩ := hgv
  obtain ⟨⟨q0, q1, q2⟩, -⟩ := hq.out _ b5
  obtain ⟨p0, p1, p2⟩ := hA
  have hdg := Lib.hid hdg0
  have hcg := Lib.hid hcg0
  clear hrows hdg0 hcg0 hgd hgr
  go_wp2
  obtain ⟨W4, hW4⟩ : ∃ u, w3.alloc (.cells #[.int .i64 m.n, .int .i64 T, .slice (some ⟨db, doff, none⟩) N dc] 29) = u := ⟨_, rfl⟩
  rw [hW4] at b5 q0 q1 q2 p0 p1 p2 hdg hcg ⊢
  clear hW4
  go_loopw [7] (fun i wr => ∃ s : Nat, s ≤ N ∧ i = .int .i64 s ∧ Hid (∃ j, wr = W4.drewN j) ∧ Hid ((List.range s).all (fun s => likeW c (wto m.l) T s) = true)) (fun i _ => N - (intOf i).toNat)
  case atStart => exact ⟨0, Nat.zero_le _, rfl, ⟨0, rfl⟩, show _ = _ by simp⟩
  case round =>
    obtain ⟨wo, hwo⟩ : ∃ wo : World, wo = wr := ⟨_, rfl⟩
    subst hwo
    obtain ⟨s, hs, rfl, hw, hall⟩ := hrel
    have r2 : wo.cell? ⟨w.heap.size, 2, none⟩ = some (.slice (some ⟨gb, goff, none⟩) N cap) := by obtain ⟨j, rfl⟩ := hw.out; exact q2
    by_cases hslt : s < N
    · have i1 : (s : Int) < (N : Int) := by omega
      have hnoS := Lib.hid (show likeW c (wto m.l) T s = false → areOf c m = (false, 0) from fun h => by rw [hres.out, rngAll_no (f := fun s => likeW c (wto m.l) T s) hslt h])
      have hyesS := Lib.hid (fun h => rngAll_succ (f := fun s => likeW c (wto m.l) T s) hall.out (k := s) h)
      obtain ⟨rb, ro, rc, g1, g2⟩ := hcg.out s hslt
      obtain ⟨eb, eo, ec, g3, g4⟩ := hdg.out s hslt
      have g2' := Lib.hid g2
      have g4' := Lib.hid g4
      have hce2 := Lib.hid (fun t ht => hce.out s t hslt ht)
      clear g2 g4
      go_wp2
      go_loopw [8] (fun i wr => ∃ t : Nat, t ≤ N ∧ i = .int .i64 t ∧ Hid (∃ j, wr = W4.drewN j) ∧ Hid ((List.range t).all (fun t => decide (wto m.l s t * ct = (c.w.getD s []).getD t 0 * T)) = true)) (fun i _ => N - (intOf i).toNat)
      case atStart => exact ⟨0, Nat.zero_le _, rfl, hw, show _ = _ by simp⟩
      case round =>
        obtain ⟨t, ht, rfl, hwi, hallT⟩ := hrel
        have k1 : wr.cell? ⟨w.heap.size, 1, none⟩ = some (.int .i64 ct) := by obtain ⟨j, rfl⟩ := hwi.out; exact q1
        have k2 : wr.cell? ⟨w.heap.size, 2, none⟩ = some (.slice (some ⟨gb, goff, none⟩) N cap) := by obtain ⟨j, rfl⟩ := hwi.out; exact q2
        have k3 : wr.cell? ⟨w3.heap.size, 1, none⟩ = some (.int .i64 T) := by obtain ⟨j, rfl⟩ := hwi.out; exact p1
        have k4 : wr.cell? ⟨w3.heap.size, 2, none⟩ = some (.slice (some ⟨db, doff, none⟩) N dc) := by obtain ⟨j, rfl⟩ := hwi.out; exact p2
        have k5 : wr.cell? ⟨gb, goff + s, none⟩ = some (.slice (some ⟨rb, ro, none⟩) N rc) := by obtain ⟨j, rfl⟩ := hwi.out; exact g1
        have k6 : wr.cell? ⟨db, doff + s, none⟩ = some (.slice (some ⟨eb, eo, none⟩) N ec) := by obtain ⟨j, rfl⟩ := hwi.out; exact g3
        clear r2
        by_cases htlt : t < N
        · have i2 : (t : Int) < (N : Int) := by omega
          have k7 : wr.cell? ⟨rb, ro + t, none⟩ = some (.int .i64 ((c.w.getD s []).getD t 0)) := by obtain ⟨j, rfl⟩ := hwi.out; exact g2'.out t htlt
          have k8 : wr.cell? ⟨eb, eo + t, none⟩ = some (.int .i64 (wto m.l s t)) := by rw [← rowsOf_at N (wto m.l) s t hslt htlt]; obtain ⟨j, rfl⟩ := hwi.out; exact g4'.out t htlt
          have hyes := Lib.hid (fun h => rngAll_succ (f := fun t => decide (wto m.l s t * ct = (c.w.getD s []).getD t 0 * T)) hallT.out (k := t) h)
          have hno := Lib.hid (fun h => (hlk.out s).trans (rngAll_no (f := fun t => decide (wto m.l s t * ct = (c.w.getD s []).getD t 0 * T)) htlt h))
          obtain ⟨y1, y2⟩ := hce2.out t htlt
          obtain ⟨x1, x2⟩ := hwb.out s t
          generalize wto m.l s t = x at *
          generalize (c.w.getD s []).getD t 0 = y at *
          obtain ⟨u1, u2⟩ := mul_bd3 x1 x2 (show 0 ≤ ct by omega) t2 (by decide)
          obtain ⟨u3, u4⟩ := mul_bd3 y1 y2 (show 0 ≤ T by omega) mt2 (by decide)
          by_cases he : x * ct = y * T
          · have he' : (y * T != x * ct) = false := by simp [he]
            have hn2 := Lib.hid (hyes.out (decide_eq_true he))
            clear he
            go_wp2
            go_quiet (fail)
            go_wp2
            go_roundw
            case rel => exact ⟨t + 1, by omega, by go_num, drawn_more hwi.out _, hn2⟩
            case measure => simp [intOf]; omega
          · have he' : (y * T != x * ct) = true := by simpa using fun h => he h.symm
            have hfin := Lib.hid (hnoS.out (hno.out (decide_eq_false he)))
            clear he
            go_wp2
            go_quiet (fail)
            go_wp2
            go_ret2
            rw [hfin.out]
            exact ⟨rfl, by obtain ⟨j, rfl⟩ := hwi.out; first | exact below_drewN (below_wt B0 b5) _ | exact below_drewN (below_drewN (below_wt B0 b5) _) _⟩
        · obtain rfl : t = N := by omega
          have hn2 := Lib.hid (hyesS.out ((hlk.out s).trans hallT.out))
          go_wp2
          go_roundw
          case rel => exact ⟨s + 1, by omega, by go_num, hwi, hn2⟩
          case measure => simp [intOf]; omega
    · obtain rfl : s = N := by omega
      have hfin := Lib.hid (show areOf c m = (true, 0) by rw [hres.out, hall.out])
      go_wp2
      go_ret2
      rw [hfin.out]
      exact ⟨rfl, by obtain ⟨j, rfl⟩ := hw.out; exact below_drewN (below_wt B0 b5) _⟩
end Go.Proofs.Ytkebfnmepbblnaa
