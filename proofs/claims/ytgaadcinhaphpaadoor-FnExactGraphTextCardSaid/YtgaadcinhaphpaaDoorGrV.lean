/- ValidGraph of the project and of the specification answer 'grOk'. Conditions: none. -/
import Derived.Test.YtgaadcinhaphpaaDoorGrOk
namespace Go.Proofs.YtgaadcinhaphpaaDoor
open Go.RowKit Go.Deep
set_option linter.unusedVariables false

set_option maxRecDepth 100000 in
set_option maxHeartbeats 4000000 in
theorem ValidGraph_impl (gv : Value) (g : Gr) (w : World) (hv : GrR w gv g) :
    Calls Tryd.prog 36 #[gv] w fun e w' => e = .returned (.bool (grOk g)) ∧ Below w.heap.size w w' := by
  obtain ⟨v, rfl, hr⟩ := hv
  obtain ⟨n, xss⟩ := g
  simp only at hr ⊢
  obtain ⟨hm, a, cap, rfl⟩ := hr.len
  unfold maxLen at hm
  have B0 := below1 w (.cells #[.int .i64 n, .slice a xss.length cap] 33)
  have HB := Blk.new w #[.int .i64 n, .slice a xss.length cap] 33
  have hr1 := hr.keep B0
  have cI := isIn_any n 1 5
  rcases h1 : inB n 1 5 with _ | _
  · have hres := Lib.hid (show grOk ⟨n, xss⟩ = false by simp [grOk, h1])
    rw [h1] at cI
    have cI' := Lib.hid cI
    clear h1 cI hr hr1 HB
    go_enter Tryd.func36, Tryd.ntmps36
    go_wp2_with fail
    refine (cI'.out _).mono ?_
    rintro e w' ⟨rfl, rfl⟩
    go_wp2
    go_ret
    exact ⟨ret_bool hres.out.symm, B0⟩
  · have hok := Lib.hid (show grOk ⟨n, xss⟩ = (List.range xss.length).all (edgeAt n xss) by simp [grOk, h1])
    obtain ⟨b1, b2⟩ := inB_iff.1 h1
    rw [h1] at cI
    have cI' := Lib.hid cI
    clear h1 cI hr
    go_enter Tryd.func36, Tryd.ntmps36
    go_wp2_with fail
    refine (cI'.out _).mono ?_
    rintro e w' ⟨rfl, rfl⟩
    go_wp2
    obtain ⟨w1, hw1⟩ : ∃ u, w.alloc (.cells #[.int .i64 n, .slice a xss.length cap] 33) = u := ⟨_, rfl⟩
    rw [hw1] at B0 HB hr1 ⊢
    clear hw1
    go_loopw [12] (fun i wr => ∃ k : Nat, k ≤ xss.length ∧ i = .int .i64 k ∧ Hid (Below w1.heap.size w1 wr) ∧ Hid ((List.range k).all (edgeAt n xss) = true)) (fun i _ => xss.length - (intOf i).toNat)
    case atStart => exact ⟨0, Nat.zero_le _, rfl, Below.refl _ _, show _ = _ by simp⟩
    case round =>
      obtain ⟨k, hk, rfl, hb, ht⟩ := hrel
      have hr2 := hr1.keep hb.out
      have HB2 := HB.step hb.out
      clear hr1 HB
      obtain ⟨g0, g1⟩ := HB2.two
      by_cases hlt : k < xss.length
      · obtain ⟨b, off, cap', rv, hvv, hbl, hc⟩ := hr2.at (by omega)
        simp only [Value.slice.injEq] at hvv
        obtain ⟨rfl, -, rfl⟩ := hvv
        obtain ⟨hcell, hrow⟩ := hc k hlt
        have hs := Lib.hid (range_all_succ (edgeAt n xss) k)
        have hno := Lib.hid (fun h => range_all_no (p := edgeAt n xss) hlt h)
        have hdef := Lib.hid (show edgeAt n xss k = (edgeB n (xss.getD k []) && (decide (k = 0) || ltB (xss.getD (k - 1) []) (xss.getD k []))) from rfl)
        have hcall := isEdge_any (rv k) (xss.getD k []) n wr hrow b1 (by omega)
        rcases hq : edgeB n (xss.getD k []) with _ | _
        · have hfin := Lib.hid (hok.out.trans (hno.out (by rw [hdef.out, hq]; rfl)))
          rw [hq] at hcall
          clear hc hq hrow
          generalize rv k = rk at hcell hcall
          go_wp2_with fail
          refine hcall.mono ?_
          rintro e w' ⟨rfl, bb⟩
          go_wp2
          go_ret
          exact ⟨ret_bool hfin.out.symm, B0.trans ((below_wt hb.out bb).mono B0.size)⟩
        · have hl2 := edgeB_len hq
          by_cases h0 : k = 0
          · have hgo := Lib.hid (show (List.range (k + 1)).all (edgeAt n xss) = true by rw [hs.out, ht.out, hdef.out, hq]; simp [h0])
            rw [hq] at hcall
            have hz : decide (0 < k) = false := by simp [h0]
            have hz2 : decide ((0 : Int) < (k : Int)) = false := by simp [h0]
            clear hc hq hrow hl2 h0
            generalize rv k = rk at hcell hcall
            go_wp2_with fail
            refine hcall.mono ?_
            rintro e w' ⟨rfl, bb⟩
            go_wp2
            go_roundw
            case rel => exact ⟨k + 1, by omega, by go_num, below_wt hb.out bb, hgo⟩
            case measure => simp [intOf]; omega
          · obtain ⟨hcell2, hrow2⟩ := hc (k - 1) (by omega)
            have hz : decide (0 < k) = true := by simp; omega
            have hz2 : decide ((0 : Int) < (k : Int)) = true := by simp; omega
            have hkm : (((k : Nat) : Int) - 1).toNat = k - 1 := by omega
            have hk1 : (0 : Int) ≤ (k : Int) - 1 := by omega
            have hk2 : (k : Int) - 1 < (xss.length : Int) := by omega
            have hk3 : k - 1 < xss.length := by omega
            have hl1 := edgeAt_len ht.out (show k - 1 < k by omega)
            have hcmp := Lib.hid (fun u (hbu : Below wr.heap.size wr u) => slCompare2_any (rv (k - 1)) (rv k) _ _ u (hrow2.keep hbu) (hrow.keep hbu) hl1 hl2)
            have hdef2 := Lib.hid (show edgeAt n xss k = ltB (xss.getD (k - 1) []) (xss.getD k []) by rw [hdef.out, hq, decide_eq_false h0]; simp)
            rw [hq] at hcall
            have hlt1 := block_lt hcell2
            clear hc hq hrow hrow2 hl1 hl2 h0 hdef
            generalize rv k = rk at hcell hcall hcmp
            generalize rv (k - 1) = rj at hcell2 hcmp
            generalize ltB (xss.getD (k - 1) []) (xss.getD k []) = lt at hcmp hdef2
            go_wp2_with fail
            refine hcall.mono ?_
            rintro e w' ⟨rfl, bb⟩
            replace hcell2 := (bb.cell (p := ⟨b, off + (k - 1), none⟩) hlt1).trans hcell2
            obtain ⟨j0, j1⟩ := (HB2.step bb).two
            have hc3 := hcmp.out _ bb
            clear hcmp
            rcases lt with _ | _
            · have hfin := Lib.hid (hok.out.trans (hno.out hdef2.out))
              go_wp2_with fail
              refine hc3.mono ?_
              rintro e w' ⟨r, rfl, hr, rfl⟩
              rw [Bool.not_false] at hr
              go_wp2
              go_ret
              exact ⟨ret_bool hfin.out.symm, B0.trans ((below_wt hb.out bb).mono B0.size)⟩
            · have hgo := Lib.hid (show (List.range (k + 1)).all (edgeAt n xss) = true by rw [hs.out, ht.out, hdef2.out]; rfl)
              go_wp2_with fail
              refine hc3.mono ?_
              rintro e w' ⟨r, rfl, hr, rfl⟩
              rw [Bool.not_true] at hr
              go_wp2
              go_roundw
              case rel => exact ⟨k + 1, by omega, by go_num, below_wt hb.out bb, hgo⟩
              case measure => simp [intOf]; omega
      · obtain rfl : k = xss.length := by omega
        have hfin := Lib.hid (hok.out.trans ht.out)
        go_wp2
        go_ret
        exact ⟨ret_bool hfin.out.symm, B0.trans (hb.out.mono B0.size)⟩

/-! ### the specification -/
/-- a graph behind the pointer to block b -/
def GrP (w : World) (b : Nat) (g : Gr) : Prop := ∃ v, w.cell? ⟨b, 0, none⟩ = some (.int .i64 g.n) ∧ w.cell? ⟨b, 1, none⟩ = some v ∧ Rows2 w v g.e
theorem GrP.keep {w w' : World} {b : Nat} {c : Gr} (h : GrP w b c) (hb : Below w.heap.size w w') : GrP w' b c := by
  obtain ⟨v, h0, h1, hr⟩ := h
  exact ⟨v, (hb.cell (block_lt h0)).trans h0, (hb.cell (block_lt h1)).trans h1, hr.keep hb⟩

set_option maxHeartbeats 2000000 in
theorem l08Less_any (a b : Value) (xs ys : List Int) (w : World) (ha : Ints w a xs) (hb : Ints w b ys) (hx : xs.length = 2) (hy : ys.length = 2) :
    Calls Tryd.prog 59 #[a, b] w fun e w' => e = .returned (.bool (ltB xs ys)) ∧ ∃ m, w' = w.drewN m := by
  obtain ⟨b1, o1, c1, rfl, -, hc1⟩ := ha.at (by omega)
  obtain ⟨b2, o2, c2, rfl, -, hc2⟩ := hb.at (by omega)
  have x0 := hc1 0 (by omega)
  have x1 := hc1 1 (by omega)
  have y0 := hc2 0 (by omega)
  have y1 := hc2 1 (by omega)
  have hdef := Lib.hid (show ltB xs ys = (decide (xs.getD 0 0 < ys.getD 0 0) || (decide (xs.getD 0 0 = ys.getD 0 0) && decide (xs.getD 1 0 < ys.getD 1 0))) from rfl)
  rw [hx, hy]
  rw [Nat.add_zero] at x0 y0
  clear hc1 hc2 ha hb hx hy
  generalize xs.getD 0 0 = p0 at x0 hdef
  generalize xs.getD 1 0 = p1 at x1 hdef
  generalize ys.getD 0 0 = q0 at y0 hdef
  generalize ys.getD 1 0 = q1 at y1 hdef
  by_cases h0 : p0 = q0
  · by_cases h1 : p1 = q1
    · have hfin := Lib.hid (show ltB xs ys = false by rw [hdef.out]; subst h0 h1; simp)
      have d0 : (p0 != q0) = false := by simpa using h0
      have d1 : (p1 != q1) = false := by simpa using h1
      clear h0 h1
      go_enter Tryd.func59, Tryd.ntmps59
      go_wp2
      refine wp_loop_rounds 3 ?_
      rw [rounds_succ]
      go_wp2
      go_quiet (fail)
      go_wp2
      rw [rounds_succ]
      go_wp2
      go_quiet (fail)
      go_wp2
      rw [rounds_succ]
      go_wp2
      go_ret
      exact ⟨ret_bool hfin.out.symm, _, by first | rfl | exact World.drewN_drewN ..⟩
    · have hfin := Lib.hid (show ltB xs ys = decide (p1 < q1) by rw [hdef.out]; subst h0; simp)
      have d0 : (p0 != q0) = false := by simpa using h0
      have d1 : (p1 != q1) = true := by simpa using h1
      clear h0 h1
      go_enter Tryd.func59, Tryd.ntmps59
      go_wp2
      refine wp_loop_rounds 2 ?_
      rw [rounds_succ]
      go_wp2
      go_quiet (fail)
      go_wp2
      rw [rounds_succ]
      go_wp2
      go_quiet (fail)
      go_wp2
      go_quiet (fail)
      go_wp2
      go_ret
      exact ⟨ret_bool hfin.out.symm, _, by first | rfl | (rw [World.drewN_drewN]; first | rfl | exact World.drewN_drewN ..)⟩
  · have hfin := Lib.hid (show ltB xs ys = decide (p0 < q0) by rw [hdef.out]; simp [h0])
    have d0 : (p0 != q0) = true := by simpa using h0
    clear h0
    go_enter Tryd.func59, Tryd.ntmps59
    go_wp2
    refine wp_loop_rounds 1 ?_
    rw [rounds_succ]
    go_wp2
    go_quiet (fail)
    go_wp2
    go_quiet (fail)
    go_wp2
    go_ret
    exact ⟨ret_bool hfin.out.symm, _, by first | rfl | exact World.drewN_drewN ..⟩

set_option maxRecDepth 100000 in
set_option maxHeartbeats 4000000 in
theorem l08Ok_any (bp : Nat) (g : Gr) (w : World) (hv : GrP w bp g) :
    Calls Tryd.prog 33 #[.pointer (some ⟨bp, 0, none⟩)] w fun e w' => e = .returned (.bool (grOk g)) ∧ ∃ m, w' = w.drewN m := by
  obtain ⟨v, g0, g1, hr⟩ := hv
  obtain ⟨n, xss⟩ := g
  simp only at g0 g1 hr ⊢
  obtain ⟨hm, a, cap, rfl⟩ := hr.len
  unfold maxLen at hm
  have cI := l00In_any n 1 5 w
  rcases h1 : inB n 1 5 with _ | _
  · have hres := Lib.hid (show grOk ⟨n, xss⟩ = false by simp [grOk, h1])
    rw [h1] at cI
    clear h1 hr
    go_enter Tryd.func33, Tryd.ntmps33
    go_wp2_with fail
    refine cI.mono ?_
    rintro e w' ⟨rfl, rfl⟩
    go_wp2
    go_ret
    exact ⟨ret_bool hres.out.symm, 0, rfl⟩
  · have hok := Lib.hid (show grOk ⟨n, xss⟩ = (List.range xss.length).all (edgeAt n xss) by simp [grOk, h1])
    obtain ⟨b1, b2⟩ := inB_iff.1 h1
    rw [h1] at cI
    clear h1
    go_enter Tryd.func33, Tryd.ntmps33
    go_wp2_with fail
    refine cI.mono ?_
    rintro e w' ⟨rfl, rfl⟩
    go_wp2
    go_loopw [3] (fun i wr => ∃ k : Nat, k ≤ xss.length ∧ i = .int .i64 k ∧ Hid (∃ m, wr = w.drewN m) ∧ Hid ((List.range k).all (edgeAt n xss) = true)) (fun i _ => xss.length - (intOf i).toNat)
    case atStart => exact ⟨0, Nat.zero_le _, rfl, ⟨0, rfl⟩, show _ = _ by simp⟩
    case round =>
      obtain ⟨k, hk, rfl, hw, ht⟩ := hrel
      have q0 : wr.cell? ⟨bp, 0, none⟩ = some (.int .i64 n) := by obtain ⟨m, rfl⟩ := hw.out; exact g0
      have q1 : wr.cell? ⟨bp, 1, none⟩ = some (.slice a xss.length cap) := by obtain ⟨m, rfl⟩ := hw.out; exact g1
      have hr2 : Rows2 wr (.slice a xss.length cap) xss := by obtain ⟨m, rfl⟩ := hw.out; exact hr.keep (below_drewN (Below.refl _ _) m)
      clear g0 g1 hr
      by_cases hlt : k < xss.length
      · obtain ⟨b, off, cap', rv, hvv, hbl, hc⟩ := hr2.at (by omega)
        simp only [Value.slice.injEq] at hvv
        obtain ⟨rfl, -, rfl⟩ := hvv
        obtain ⟨hcell, hrow⟩ := hc k hlt
        obtain ⟨hrm, ra, rcap, hrv⟩ := hrow.len
        unfold maxLen at hrm
        have hs := Lib.hid (range_all_succ (edgeAt n xss) k)
        have hno := Lib.hid (fun h => range_all_no (p := edgeAt n xss) hlt h)
        have hdef := Lib.hid (show edgeAt n xss k = (edgeB n (xss.getD k []) && (decide (k = 0) || ltB (xss.getD (k - 1) []) (xss.getD k []))) from rfl)
        by_cases h2 : ((xss.getD k []).length : Int) = 2
        · have hl2 : (xss.getD k []).length = 2 := by omega
          have hcall := l00Rises_any (rv k) (xss.getD k []) 0 (n - 1) wr hrow
          rw [rises_two n _ hl2] at hcall
          have d2 : (((xss.getD k []).length : Int) != 2) = false := by simpa using h2
          rw [hrv] at hcell hcall
          rcases hq : edgeB n (xss.getD k []) with _ | _
          · have hfin := Lib.hid (hok.out.trans (hno.out (by rw [hdef.out, hq]; rfl)))
            rw [hq] at hcall
            clear hc hq hrow h2 hl2 hrv
            generalize (xss.getD k []).length = rl at *
            go_wp2_with fail
            refine hcall.mono ?_
            rintro e w' ⟨rfl, m, rfl⟩
            go_wp2
            go_ret
            exact ⟨ret_bool hfin.out.symm, drawn_more hw.out _⟩
          · rw [hq] at hcall
            by_cases h0 : k = 0
            · have hgo := Lib.hid (show (List.range (k + 1)).all (edgeAt n xss) = true by rw [hs.out, ht.out, hdef.out, hq]; simp [h0])
              have hz : decide (0 < k) = false := by simp [h0]
              have hz2 : decide ((0 : Int) < (k : Int)) = false := by simp [h0]
              clear hc hq hrow h2 hl2 h0 hrv
              generalize (xss.getD k []).length = rl at *
              go_wp2_with fail
              refine hcall.mono ?_
              rintro e w' ⟨rfl, m, rfl⟩
              go_wp2
              go_roundw
              case rel => exact ⟨k + 1, by omega, by go_num, drawn_more hw.out _, hgo⟩
              case measure => simp [intOf]; omega
            · obtain ⟨hcell2, hrow2⟩ := hc (k - 1) (by omega)
              have hz : decide (0 < k) = true := by simp; omega
              have hz2 : decide ((0 : Int) < (k : Int)) = true := by simp; omega
              have hkm : (((k : Nat) : Int) - 1).toNat = k - 1 := by omega
              have hk1 : (0 : Int) ≤ (k : Int) - 1 := by omega
              have hk2 : (k : Int) - 1 < (xss.length : Int) := by omega
              have hk3 : k - 1 < xss.length := by omega
              have hl1 := edgeAt_len ht.out (show k - 1 < k by omega)
              have hcmp := Lib.hid (fun m => l08Less_any (rv (k - 1)) (rv k) _ _ (wr.drewN m) (hrow2.keep (below_drewN (Below.refl _ _) m)) (hrow.keep (below_drewN (Below.refl _ _) m)) hl1 hl2)
              have hdef2 := Lib.hid (show edgeAt n xss k = ltB (xss.getD (k - 1) []) (xss.getD k []) by rw [hdef.out, hq, decide_eq_false h0]; simp)
              rw [hrv] at hcmp
              clear hc hq hrow hrow2 hl1 hl2 h0 hdef h2 hrv
              generalize rv (k - 1) = rj at hcell2 hcmp
              generalize ltB (xss.getD (k - 1) []) (xss.getD k []) = lt at hcmp hdef2
              generalize (xss.getD k []).length = rl at *
              go_wp2_with fail
              refine hcall.mono ?_
              rintro e w' ⟨rfl, m, rfl⟩
              have hc3 := hcmp.out m
              clear hcmp
              rcases lt with _ | _
              · have hfin := Lib.hid (hok.out.trans (hno.out hdef2.out))
                go_wp2_with fail
                refine hc3.mono ?_
                rintro e w' ⟨rfl, m2, rfl⟩
                go_wp2
                go_ret
                exact ⟨ret_bool hfin.out.symm, drawn_more hw.out _⟩
              · have hgo := Lib.hid (show (List.range (k + 1)).all (edgeAt n xss) = true by rw [hs.out, ht.out, hdef2.out]; rfl)
                go_wp2_with fail
                refine hc3.mono ?_
                rintro e w' ⟨rfl, m2, rfl⟩
                go_wp2
                go_roundw
                case rel => exact ⟨k + 1, by omega, by go_num, drawn_more hw.out _, hgo⟩
                case measure => simp [intOf]; omega
        · have hfin := Lib.hid (hok.out.trans (hno.out (by rw [hdef.out, edgeB_no h2]; rfl)))
          have d2 : (((xss.getD k []).length : Int) != 2) = true := by simpa using h2
          rw [hrv] at hcell
          clear hc hrow h2 hrv
          generalize (xss.getD k []).length = rl at *
          go_wp2
          go_ret
          exact ⟨ret_bool hfin.out.symm, hw.out⟩
      · obtain rfl : k = xss.length := by omega
        have hfin := Lib.hid (hok.out.trans ht.out)
        go_wp2
        go_ret
        exact ⟨ret_bool hfin.out.symm, hw.out⟩

theorem GrR.ptr {w : World} {n : Int} {v : Value} {xss : List (List Int)} (hr : Rows2 w v xss) :
    GrP (w.alloc (.cells #[.int .i64 n, v] 33)) w.heap.size ⟨n, xss⟩ := by
  have hB := Blk.new w #[.int .i64 n, v] 33
  exact ⟨v, hB.cell 0, hB.cell 1, hr.keep (below1 _ _)⟩
end Go.Proofs.YtgaadcinhaphpaaDoor
