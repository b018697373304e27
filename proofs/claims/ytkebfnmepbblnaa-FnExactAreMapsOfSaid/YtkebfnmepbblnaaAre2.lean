/- AreMapsOf of the project. Conditions: none. -/
import Derived.Test.YtkebfnmepbblnaaAre
namespace Go.Proofs.Ytkebfnmepbblnaa
open Go.RowKit Go.Deep
set_option linter.unusedVariables false

theorem wto_all {m : Ms} (h : msOk m = true) (s j : Nat) : 0 ≤ wto m.l s j ∧ wto m.l s j ≤ 3600 := by
  obtain ⟨-, -, ⟨l1, l2⟩, -⟩ := msOk_all h
  have := wto_bd (l := m.l) (fun k hk => (msOk_at h k hk).1) s j m.l.length (Nat.le_refl _)
  rw [List.take_length] at this
  omega

theorem rowsOf_at (n : Nat) (f : Nat → Nat → Int) (s j : Nat) (hs : s < n) (hj : j < n) : ((rowsOf n f).getD s []).getD j 0 = f s j := by simp [rowsOf, List.getD, hs, hj]

set_option maxRecDepth 100000 in
set_option maxHeartbeats 8000000 in
theorem AreMapsOf_impl (cv mv : Value) (c : Ch) (m : Ms) (w : World) (hc : ChR w cv c) (hm : MsR w mv m) :
    Calls Try.prog 53 #[cv, mv] w fun e w' => e = .returned (.tuple #[.bool (areOf c m).1, .int .i64 (areOf c m).2]) ∧ Below w.heap.size w w' := by
  obtain ⟨a, cap, rfl⟩ := hc.shape
  obtain ⟨ma, mcap, rfl⟩ := hm.shape
  have B0 := below2 w (.cells #[.int .i64 c.n, .int .i64 c.t, .slice a c.w.length cap] 29) (.cells #[.int .i64 m.n, .int .i64 m.t, .slice ma m.l.length mcap] 64)
  have hB := (Blk.new w #[.int .i64 c.n, .int .i64 c.t, .slice a c.w.length cap] 29).alloc (.cells #[.int .i64 m.n, .int .i64 m.t, .slice ma m.l.length mcap] 64)
  have hD := Blk.new (w.alloc (.cells #[.int .i64 c.n, .int .i64 c.t, .slice a c.w.length cap] 29)) #[.int .i64 m.n, .int .i64 m.t, .slice ma m.l.length mcap] 64
  simp only [World.size_alloc] at hD
  have Kc := hc.keep B0
  have Km := hm.keep B0
  generalize hV : (w.alloc (.cells #[.int .i64 c.n, .int .i64 c.t, .slice a c.w.length cap] 29)).alloc (.cells #[.int .i64 m.n, .int .i64 m.t, .slice ma m.l.length mcap] 64) = V at *
  have hV' := Lib.hid hV
  have hq := Lib.hid (show ∀ u, Below V.heap.size V u → (u.cell? ⟨w.heap.size, 0, none⟩ = some (.int .i64 c.n) ∧ u.cell? ⟨w.heap.size, 1, none⟩ = some (.int .i64 c.t) ∧ u.cell? ⟨w.heap.size, 2, none⟩ = some (.slice a c.w.length cap)) ∧
      (u.cell? ⟨w.heap.size + 1, 0, none⟩ = some (.int .i64 m.n) ∧ u.cell? ⟨w.heap.size + 1, 1, none⟩ = some (.int .i64 m.t) ∧ u.cell? ⟨w.heap.size + 1, 2, none⟩ = some (.slice ma m.l.length mcap)) from fun u hu => ⟨(hB.keep hu hB.lt).three, (hD.keep hu hD.lt).three⟩)
  have hcm := ChainOfMaps_impl _ m V Km
  have hvc := Lib.hid (fun u (hu : Below V.heap.size V u) => ValidChain_impl _ c u (Kc.keep hu))
  have hKc := Lib.hid (fun u (hu : Below V.heap.size V u) => Kc.keep hu)
  clear hV hB hD hc hm Kc Km
  obtain ⟨⟨q0, q1, q2⟩, q3, q4, q5⟩ := hq.out V (Below.refl _ _)
  rcases om : msOk m with _ | _
  · have hcom := Lib.hid (show comOf m = (⟨0, 0, []⟩, 1) by simp [comOf, om])
    have hres := Lib.hid (show areOf c m = (false, 1) by simp [areOf, om])
    rw [hcom.out] at hcm
    simp only at hcm
    clear om
    go_enter Try.func53, Try.ntmps53
    go_wp2_with fail
    rw [hV'.out]
    refine hcm.mono ?_
    rintro e w1 ⟨r, rfl, ho, b1⟩
    obtain ⟨ra, rc, rfl⟩ := ho.shape
    clear ho
    go_wp2
    go_ret2
    rw [hres.out]
    exact ⟨rfl, below_wt B0 (below_wt b1 (below1 _ _))⟩
  have hcom := Lib.hid (show comOf m = (⟨m.n, m.t, rowsOf m.n.toNat (wto m.l)⟩, 0) by simp [comOf, om])
  rw [hcom.out] at hcm
  simp only at hcm
  rcases oc : chOk c with _ | _
  · have hres := Lib.hid (show areOf c m = (false, 1) by simp [areOf, oc])
    rw [oc] at hvc
    clear oc om
    go_enter Try.func53, Try.ntmps53
    go_wp2_with fail
    rw [hV'.out]
    refine hcm.mono ?_
    rintro e w1 ⟨r, rfl, ho, b1⟩
    obtain ⟨ra, rc, rfl⟩ := ho.shape
    have b2 : Below V.heap.size V (w1.alloc (.cells #[.int .i64 m.n, .int .i64 m.t, .slice ra (rowsOf m.n.toNat (wto m.l)).length rc] 29)) := below_wt b1 (below1 _ _)
    obtain ⟨⟨q0, q1, q2⟩, -⟩ := hq.out _ b2
    clear ho
    generalize (rowsOf m.n.toNat (wto m.l)).length = rl at *
    go_wp2_with fail
    refine (hvc.out _ b2).mono ?_
    rintro e w3 ⟨rfl, b3⟩
    go_wp2
    go_ret2
    rw [hres.out]
    exact ⟨rfl, below_wt B0 (below_wt b2 b3)⟩
  rw [oc] at hvc
  obtain ⟨n1, n2, t1, t2, hlen, -⟩ := chOk_all oc
  obtain ⟨-, ⟨mt1, mt2⟩, -⟩ := msOk_all om
  by_cases hn : c.n = m.n
  rotate_left
  · have hres := Lib.hid (show areOf c m = (false, 0) by simp [areOf, oc, om, hn])
    have hne : (c.n != m.n) = true := by simpa using hn
    clear oc om hn hlen
    go_enter Try.func53, Try.ntmps53
    go_wp2_with fail
    rw [hV'.out]
    refine hcm.mono ?_
    rintro e w1 ⟨r, rfl, ho, b1⟩
    obtain ⟨ra, rc, rfl⟩ := ho.shape
    have b2 : Below V.heap.size V (w1.alloc (.cells #[.int .i64 m.n, .int .i64 m.t, .slice ra (rowsOf m.n.toNat (wto m.l)).length rc] 29)) := below_wt b1 (below1 _ _)
    obtain ⟨⟨q0, q1, q2⟩, -⟩ := hq.out _ b2
    clear ho
    generalize (rowsOf m.n.toNat (wto m.l)).length = rl at *
    go_wp2_with fail
    refine (hvc.out _ b2).mono ?_
    rintro e w3 ⟨rfl, b3⟩
    have b4 := below_wt b2 b3
    obtain ⟨⟨q0, q1, q2⟩, q3, q4, q5⟩ := hq.out _ b4
    go_wp2
    go_ret2
    rw [hres.out]
    exact ⟨rfl, below_wt B0 b4⟩
  · have hne : (c.n != m.n) = false := by simpa using hn
    obtain ⟨N, hN⟩ : ∃ N, c.w.length = N := ⟨_, rfl⟩
    have hmN : m.n.toNat = N := by omega
    rw [hmN] at hcm
    have hres := Lib.hid (show areOf c m = ((List.range N).all (fun s => likeW c (wto m.l) m.t s), 0) by simp [areOf, oc, om, hn, hN])
    have hgl := Lib.hid (fun (ws : List Int) (v : Value) (s : Nat) u (hu : Below V.heap.size V u) (hs : s < c.w.length) (hv : Ints u v ws) (hw : ws = (rowsOf N (wto m.l)).getD s []) => goesLike_any _ v c ws (wto m.l) m.t s u (hKc.out u hu) hv oc hs (by rw [hw, hN]; simp [rowsOf, List.getD, show s < N by omega])
      (fun t ht => by rw [hw, rowsOf_at N (wto m.l) s t (by omega) (by omega)]; exact ⟨rfl, wto_all om s t⟩) (by omega) (by omega))
    have hN6 : N ≤ 6 := by omega
    have hNh := Lib.hid hN
    clear oc om hn hlen hmN hcom hN
    go_enter Try.func53, Try.ntmps53
    go_wp2_with fail
    rw [hV'.out]
    refine hcm.mono ?_
    rintro e w1 ⟨r, rfl, ho, b1⟩
    obtain ⟨ra, rc, rfl⟩ := ho.shape
    simp only at ho
    rw [rowsOf_length] at ho
    simp only [rowsOf_length]
    have b2 : Below V.heap.size V (w1.alloc (.cells #[.int .i64 m.n, .int .i64 m.t, .slice ra N rc] 29)) := below_wt b1 (below1 _ _)
    obtain ⟨⟨q0, q1, q2⟩, -⟩ := hq.out _ b2
    have hA := Blk.new w1 #[.int .i64 m.n, .int .i64 m.t, .slice ra N rc] 29
    have hrows := (ChR.rows (c := ⟨m.n, m.t, rowsOf N (wto m.l)⟩) ho.ch).keep (below1 w1 (.cells #[.int .i64 m.n, .int .i64 m.t, .slice ra N rc] 29))
    simp only at hrows
    clear ho
    have hrl := Lib.hid (rowsOf_length N (wto m.l))
    have hA2 := Lib.hid hA
    clear hA
    go_wp2_with fail
    refine (hvc.out _ b2).mono ?_
    rintro e w3 ⟨rfl, b3⟩
    have b4 := below_wt b2 b3
    obtain ⟨⟨q0, q1, q2⟩, q3, q4, q5⟩ := hq.out _ b4
    obtain ⟨p0, p1, p2⟩ := (hA2.out.keep b3 hA2.out.lt).three
    have hR := Lib.hid (show ∀ u, Below w3.heap.size w3 u → Rows2 u (.slice ra N rc) (rowsOf N (wto m.l)) from fun u hu => hrows.keep (below_wt b3 hu))
    clear hrows b3 hvc
    go_wp2
    go_loopw [30] (fun i wr => ∃ k : Nat, k ≤ N ∧ i = .int .i64 k ∧ Hid (Below w3.heap.size w3 wr) ∧ Hid ((List.range k).all (fun s => likeW c (wto m.l) m.t s) = true)) (fun i _ => N - (intOf i).toNat)
    case atStart => exact ⟨0, Nat.zero_le _, rfl, Below.refl _ _, show _ = _ by simp⟩
    case round =>
      obtain ⟨k, hk, rfl, hw, ht⟩ := hrel
      by_cases hlt : k < N
      · have i1 : (k : Int) < (N : Int) := by omega
        have bw := below_wt b4 hw.out
        clear q0 q1 q2 q3 q4 q5 p0 p1 p2
        obtain ⟨⟨q0, q1, q2⟩, q3, q4, q5⟩ := hq.out _ bw
        obtain ⟨ob, oo, occ, rv, hvv, -, hcl⟩ := (hR.out _ hw.out).at (by rw [hrl.out]; omega)
        rw [hrl.out] at hvv hcl
        simp only [Value.slice.injEq] at hvv
        obtain ⟨rfl, -, rfl⟩ := hvv
        obtain ⟨e1, e2⟩ := hcl k hlt
        clear hcl
        have hcall := hgl.out _ (rv k) k wr bw (by rw [hNh.out]; exact hlt) e2 rfl
        obtain ⟨-, xa, xc, hxv⟩ := e2.len
        rw [hxv] at e1 hcall
        generalize ((rowsOf N (wto m.l)).getD k []).length = xl at *
        clear e2 hxv
        rcases hl : likeW c (wto m.l) m.t k with _ | _
        · rw [hl] at hcall
          have hfin := Lib.hid (show areOf c m = (false, 0) by rw [hres.out, rngAll_no (f := fun s => likeW c (wto m.l) m.t s) hlt hl])
          clear hl
          go_wp2_with fail
          refine hcall.mono ?_
          rintro e w5 ⟨rfl, b5⟩
          go_wp2
          go_ret2
          rw [hfin.out]
          exact ⟨rfl, below_wt B0 (below_wt bw b5)⟩
        · rw [hl] at hcall
          have hn2 := Lib.hid (rngAll_succ (f := fun s => likeW c (wto m.l) m.t s) ht.out hl)
          clear hl
          go_wp2_with fail
          refine hcall.mono ?_
          rintro e w5 ⟨rfl, b5⟩
          go_wp2
          go_roundw
          case rel => exact ⟨k + 1, by omega, by go_num, below_wt hw.out b5, hn2⟩
          case measure => simp [intOf]; omega
      · obtain rfl : k = N := by omega
        have hfin := Lib.hid (show areOf c m = (true, 0) by rw [hres.out, ht.out])
        go_wp2
        go_ret2
        rw [hfin.out]
        exact ⟨rfl, below_wt B0 (below_wt b4 hw.out)⟩
end Go.Proofs.Ytkebfnmepbblnaa
