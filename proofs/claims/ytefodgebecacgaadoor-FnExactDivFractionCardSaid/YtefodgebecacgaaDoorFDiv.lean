/- DivFraction of both sides. Conditions: none but, of the project's, that strconv's table of powers lies as its text has it. -/
import Derived.Test.YtefodgebecacgaaDoorFAdd
namespace Go.Proofs.YtefodgebecacgaaDoor
open Go.RowKit Go.Deep
set_option linter.unusedVariables false
set_option linter.unusedSimpArgs false

set_option maxRecDepth 100000 in
set_option maxHeartbeats 4000000 in
theorem DivFraction_spec (n1 d1 n2 d2 : ByteArray) (w : World) : Calls Tryd.prog 20 #[.agg #[.string n1, .string d1], .agg #[.string n2, .string d2]] w fun e w' => e = .returned (opV (opR (frOk n1 d1 && frOk n2 d2) (decide (numV n2 = 0)) (numV n1 * numV d2) (numV d1 * numV n2))) ∧ Below w.heap.size w w' := by
  have hp1 := Lib.hid (fun W => parse_form n1 d1 W)
  have hp2 := Lib.hid (fun W => parse_form n2 d2 W)
  have bel := below3 w (.cells #[.string n1, .string d1] 23) (.cells #[.string n2, .string d2] 23) (.cells #[.string ⟨#[]⟩, .string ⟨#[]⟩] 23)
  have hB1 := (Blk.new (w.alloc (.cells #[.string n1, .string d1] 23)) #[.string n2, .string d2] 23).alloc (.cells #[.string ⟨#[]⟩, .string ⟨#[]⟩] 23)
  have hR := Blk.new ((w.alloc (.cells #[.string n1, .string d1] 23)).alloc (.cells #[.string n2, .string d2] 23)) #[.string ⟨#[]⟩, .string ⟨#[]⟩] 23
  simp only [World.size_alloc] at hB1 hR
  go_enter Tryd.func20, Tryd.ntmps20
  go_wp2_with fail
  generalize hW : ((w.alloc _).alloc _).alloc _ = W at *
  clear hW
  (with_reducible refine (hp1.out _).mono ?_)
  rintro e w1 ⟨a0, a1, x0, x1, k0, k1, rfl, b1, hv1⟩
  have hC1 := (hB1.keep b1 hB1.lt).alloc (.cells #[.slice a0 x0 k0, .slice a1 x1 k1] 42)
  have hF1 := Blk.new w1 #[.slice a0 x0 k0, .slice a1 x1 k1] 42
  have q0 := hC1.cell 0
  have q1 := hC1.cell 1
  simp only [List.getElem?_toArray, List.getElem?_cons_zero, List.getElem?_cons_succ] at q0 q1
  have hv1' := Lib.hid hv1
  clear hv1
  generalize hok1 : frOk n1 d1 = ok1 at *
  replace hok1 := Lib.hid hok1
  go_wp2_with fail
  (with_reducible refine (hp2.out _).mono ?_)
  rintro e w2 ⟨c0, c1, y0, y1, l0, l1, rfl, b2, hv2⟩
  have hF1' := (hF1.keep b2 hF1.lt).alloc (.cells #[.slice c0 y0 l0, .slice c1 y1 l1] 42)
  have hF2' := Blk.new w2 #[.slice c0 y0 l0, .slice c1 y1 l1] 42
  have z0 := hF1'.cell 0
  have z1 := hF1'.cell 1
  simp only [List.getElem?_toArray, List.getElem?_cons_zero, List.getElem?_cons_succ] at z0 z1
  have hv2' := Lib.hid hv2
  have b12 : Below W.heap.size W (w2.alloc (.cells #[.slice c0 y0 l0, .slice c1 y1 l1] 42)) := below_wt (below_wt (below_wt b1 (below1 _ _)) b2) (below1 _ _)
  have B2 := Lib.hid (below_wt bel b12)
  have hR2 := hR.keep b12 hR.lt
  have ltR := hR2.lt
  have r0 := hR2.cell 0
  have r1 := hR2.cell 1
  have f0 := hR2.frozen 0
  have f1 := hR2.frozen 1
  simp only [List.getElem?_toArray, List.getElem?_cons_zero, List.getElem?_cons_succ] at r0 r1
  have hbl : Hid (w.heap.size ≤ w.heap.size + 1 + 1) := Lib.hid (by omega)
  clear hv2 q0 q1
  generalize hok2 : frOk n2 d2 = ok2 at *
  replace hok2 := Lib.hid hok2
  rcases ok1 with _ | _
  · go_wp2_with fail
    refine bodyPost_ret (v := .tuple #[.agg #[.string ⟨#[]⟩, .string ⟨#[]⟩], .int .i64 1]) (by simp [results, Tryd.results20, go_sem, r0, r1]) rfl ?_
    exact ⟨by rw [hok1.out]; rfl, (B2.out.setCell (p := ⟨w.heap.size + 1 + 1, 0, none⟩) hbl.out _).setCell (p := ⟨w.heap.size + 1 + 1, 1, none⟩) hbl.out _⟩
  · rcases ok2 with _ | _
    · go_wp2_with fail
      refine bodyPost_ret (v := .tuple #[.agg #[.string ⟨#[]⟩, .string ⟨#[]⟩], .int .i64 1]) (by simp [results, Tryd.results20, go_sem, r0, r1]) rfl ?_
      exact ⟨by rw [hok1.out, hok2.out]; rfl, (B2.out.setCell (p := ⟨w.heap.size + 1 + 1, 0, none⟩) hbl.out _).setCell (p := ⟨w.heap.size + 1 + 1, 1, none⟩) hbl.out _⟩
    · obtain ⟨rfl, rfl, m1, m2⟩ := hv1'.out rfl
      obtain ⟨rfl, rfl, m3, m4⟩ := hv2'.out rfl
      have sz1 := frOk_num hok1.out
      have sz2 := frOk_num hok2.out
      have dp1 := frOk_den hok1.out
      have dp2 := frOk_den hok2.out
      have bb := below_wt (below_wt (below1 w1 (.cells #[.slice a0 (dlen B9 (numV n1)) k0, .slice a1 (dlen B9 (numV d1)) k1] 42)) b2) (below1 w2 (.cells #[.slice c0 (dlen B9 (numV n2)) l0, .slice c1 (dlen B9 (numV d2)) l1] 42))
      have M1 := m1.keep bb
      have M2 := m2.keep bb
      have M3 := m3.keep (below1 w2 (.cells #[.slice c0 (dlen B9 (numV n2)) l0, .slice c1 (dlen B9 (numV d2)) l1] 42))
      have M4 := m4.keep (below1 w2 (.cells #[.slice c0 (dlen B9 (numV n2)) l0, .slice c1 (dlen B9 (numV d2)) l1] 42))
      have hzz0 := hF2'.cell 0
      have hzz1 := hF2'.cell 1
      simp only [List.getElem?_toArray, List.getElem?_cons_zero, List.getElem?_cons_succ] at hzz0 hzz1
      clear m1 m2 m3 m4 bb b1 b2 bel b12 hv1' hv2' hp1 hp2
      clear hF1 hF1' hF2'
      have hcm := Lib.hid (zero_any _ _ _ _ _ M3 M4)
      by_cases hz : numV n2 = 0
      · rw [decide_eq_true hz] at hcm
        have hq := Lib.hid (show opR true (decide (numV n2 = 0)) (numV n1 * numV d2) (numV d1 * numV n2) = (⟨#[]⟩, ⟨#[]⟩, 4) by rw [decide_eq_true hz]; rfl)
        clear hz M1 M2 M3 M4
        go_wp2_with fail
        (with_reducible refine hcm.out.mono ?_)
        rintro e w5 ⟨rfl, b5⟩
        have hR6 := hR2.keep b5 ltR
        replace r0 := hR6.cell 0
        replace r1 := hR6.cell 1
        replace f0 := hR6.frozen 0
        replace f1 := hR6.frozen 1
        simp only [List.getElem?_toArray, List.getElem?_cons_zero, List.getElem?_cons_succ] at r0 r1
        have B6 := Lib.hid (below_wt B2.out b5)
        clear b5
        go_wp2
        refine bodyPost_ret (v := .tuple #[.agg #[.string ⟨#[]⟩, .string ⟨#[]⟩], .int .i64 4]) (by simp [results, Tryd.results20, go_sem, r0, r1]) rfl ?_
        exact ⟨by rw [hok1.out, hok2.out, Bool.and_self, hq.out]; rfl, (B6.out.setCell (p := ⟨w.heap.size + 1 + 1, 0, none⟩) hbl.out _).setCell (p := ⟨w.heap.size + 1 + 1, 1, none⟩) hbl.out _⟩
      · rw [decide_eq_false hz] at hcm
        have hdn := Lib.hid (decide_eq_false hz)
        have hnp := Lib.hid (Nat.pos_of_ne_zero hz)
        clear hz
        have hM1 := Lib.hid M1; have hM2 := Lib.hid M2; have hM3 := Lib.hid M3; have hM4 := Lib.hid M4
        clear M1 M2 M3 M4
        go_wp2_with fail
        (with_reducible refine hcm.out.mono ?_)
        rintro e w5 ⟨rfl, b5⟩
        have M1 := hM1.out.keep b5; have M2 := hM2.out.keep b5; have M3 := hM3.out.keep b5; have M4 := hM4.out.keep b5
        replace z0 := (b5.cell (block_lt z0)).trans z0
        replace z1 := (b5.cell (block_lt z1)).trans z1
        replace hzz0 := (b5.cell (block_lt hzz0)).trans hzz0
        replace hzz1 := (b5.cell (block_lt hzz1)).trans hzz1
        replace hR2 := hR2.keep b5 ltR
        replace ltR := hR2.lt
        replace B2 := Lib.hid (below_wt B2.out b5)
        clear b5 r0 r1 f0 f1
        have r0 : True := trivial; have r1 : True := trivial; have f0 : True := trivial; have f1 : True := trivial
        have hop := Lib.hid (fracTimes _ _ _ _ (numV n1) (numV d1) (numV d2) (numV n2) _ M1 M2 M4 M3 (len_n9 sz1.1) (len_n9 sz1.2) (len_n9 sz2.2) (len_n9 sz2.1) (Nat.mul_pos dp1 hnp.out))
        have stN := Lib.hid (low9 (D := numV d1 * numV n2) (prod9 (numV_len9 sz1.1) (numV_len9 sz2.2)))
        have stD := Lib.hid (low9' (N := numV n1 * numV d2) (prod9 (numV_len9 sz1.2) (numV_len9 sz2.1)))
        have hq := Lib.hid (show opR true (decide (numV n2 = 0)) (numV n1 * numV d2) (numV d1 * numV n2) = (toldN ((numV n1 * numV d2) / Nat.gcd (numV n1 * numV d2) (numV d1 * numV n2)) ((numV d1 * numV n2) / Nat.gcd (numV n1 * numV d2) (numV d1 * numV n2)), toldD ((numV n1 * numV d2) / Nat.gcd (numV n1 * numV d2) (numV d1 * numV n2)) ((numV d1 * numV n2) / Nat.gcd (numV n1 * numV d2) (numV d1 * numV n2)), toldC ((numV n1 * numV d2) / Nat.gcd (numV n1 * numV d2) (numV d1 * numV n2)) ((numV d1 * numV n2) / Nat.gcd (numV n1 * numV d2) (numV d1 * numV n2))) by rw [hdn.out]; rfl)
        clear M1 M2 M3 M4
        generalize (numV n1 * numV d2) / Nat.gcd (numV n1 * numV d2) (numV d1 * numV n2) = NN at *
        generalize (numV d1 * numV n2) / Nat.gcd (numV n1 * numV d2) (numV d1 * numV n2) = DD at *
        go_wp2_with fail
        (with_reducible refine hop.out.mono ?_)
        rintro e w5 ⟨p, q, rfl, hp, hq', b5⟩
        have ht := Lib.hid (l01Told_any p q NN DD w5 hp hq' (Nat.le_trans stN.out (by decide)) (Nat.le_trans stD.out (by decide)))
        obtain ⟨_, pa, pc, rfl⟩ := hp.len
        obtain ⟨_, qa, qc, rfl⟩ := hq'.len
        have B5 := Lib.hid (below_wt B2.out b5)
        have hR5 := hR2.keep b5 ltR
        clear hp hq' b5
        go_wp2_with fail
        (with_reducible refine ht.out.mono ?_)
        rintro e w6 ⟨rfl, b6⟩
        have hR6 := hR5.keep b6 hR5.lt
        replace r0 := hR6.cell 0
        replace r1 := hR6.cell 1
        replace f0 := hR6.frozen 0
        replace f1 := hR6.frozen 1
        simp only [List.getElem?_toArray, List.getElem?_cons_zero, List.getElem?_cons_succ] at r0 r1
        have B6 := Lib.hid (below_wt B5.out b6)
        clear b6 ht
        generalize toldN NN DD = TN at *
        generalize toldD NN DD = TD at *
        generalize toldC NN DD = TC at *
        go_wp2
        refine bodyPost_ret (v := .tuple #[.agg #[.string TN, .string TD], .int .i64 TC]) (by simp [results, Tryd.results20, go_sem, r0, r1]) rfl ?_
        exact ⟨by rw [hok1.out, hok2.out, Bool.and_self, hq.out]; rfl, (B6.out.setCell (p := ⟨w.heap.size + 1 + 1, 0, none⟩) hbl.out _).setCell (p := ⟨w.heap.size + 1 + 1, 1, none⟩) hbl.out _⟩

set_option maxRecDepth 100000 in
set_option maxHeartbeats 4000000 in
theorem DivFraction_impl (n1 d1 n2 d2 : ByteArray) (w : World) (htab : Tab10 w) : Calls Tryd.prog 21 #[.agg #[.string n1, .string d1], .agg #[.string n2, .string d2]] w fun e w' => e = .returned (opV (opR (frOk n1 d1 && frOk n2 d2) (decide (numV n2 = 0)) (numV n1 * numV d2) (numV d1 * numV n2))) ∧ Below w.heap.size w w' := by
  have hp := Lib.hid (fun W => readTwo_any n1 d1 n2 d2 W)
  have bel := below3 w (.cells #[.string n1, .string d1] 23) (.cells #[.string n2, .string d2] 23) (.cells #[.string ⟨#[]⟩, .string ⟨#[]⟩] 23)
  have hR := Blk.new ((w.alloc (.cells #[.string n1, .string d1] 23)).alloc (.cells #[.string n2, .string d2] 23)) #[.string ⟨#[]⟩, .string ⟨#[]⟩] 23
  simp only [World.size_alloc] at hR
  have htab' := Lib.hid htab
  clear htab
  go_enter Tryd.func21, Tryd.ntmps21
  go_wp2_with fail
  generalize hW : ((w.alloc _).alloc _).alloc _ = W at *
  clear hW
  (with_reducible refine (hp.out _).mono ?_)
  rintro e w1 ⟨a0, a1, c0, c1, x0, x1, k0, k1, y0, y1, l0, l1, rfl, b1, hv⟩
  have hv' := Lib.hid hv
  have bb := below2 w1 (.cells #[.slice a0 x0 k0, .slice a1 x1 k1] 49) (.cells #[.slice c0 y0 l0, .slice c1 y1 l1] 49)
  have B2 := Lib.hid (below_wt (below_wt bel b1) bb)
  have hF1 := (Blk.new w1 #[.slice a0 x0 k0, .slice a1 x1 k1] 49).alloc (.cells #[.slice c0 y0 l0, .slice c1 y1 l1] 49)
  have hF2 := Blk.new (w1.alloc (.cells #[.slice a0 x0 k0, .slice a1 x1 k1] 49)) #[.slice c0 y0 l0, .slice c1 y1 l1] 49
  simp only [World.size_alloc] at hF2
  have hR2 := hR.keep (below_wt b1 bb) hR.lt
  have ltR := hR2.lt
  have r0 := hR2.cell 0
  have r1 := hR2.cell 1
  have f0 := hR2.frozen 0
  have f1 := hR2.frozen 1
  have z0 := hF1.cell 0
  have z1 := hF1.cell 1
  have hzz0 := hF2.cell 0
  have hzz1 := hF2.cell 1
  simp only [List.getElem?_toArray, List.getElem?_cons_zero, List.getElem?_cons_succ] at r0 r1 z0 z1 hzz0 hzz1
  have hbl : Hid (w.heap.size ≤ w.heap.size + 1 + 1) := Lib.hid (by omega)
  clear hv hF1 hF2 bel b1 bb
  rcases hok : (frOk n1 d1 && frOk n2 d2) with _ | _
  · replace hok := Lib.hid hok
    go_wp2_with fail
    refine bodyPost_ret (v := .tuple #[.agg #[.string ⟨#[]⟩, .string ⟨#[]⟩], .int .i64 1]) (by simp [results, Tryd.results21, go_sem, r0, r1]) rfl ?_
    exact ⟨by first | rfl | (rw [hok.out]; rfl), (B2.out.setCell (p := ⟨w.heap.size + 1 + 1, 0, none⟩) hbl.out _).setCell (p := ⟨w.heap.size + 1 + 1, 1, none⟩) hbl.out _⟩
  · obtain ⟨rfl, rfl, rfl, rfl, m1, m2, m3, m4⟩ := hv'.out hok
    rw [Bool.and_eq_true] at hok
    have sz1 := frOk_num hok.1
    have sz2 := frOk_num hok.2
    have dp1 := frOk_den hok.1
    have dp2 := frOk_den hok.2
    have hok' := Lib.hid (show (frOk n1 d1 && frOk n2 d2) = true by rw [hok.1, hok.2]; rfl)
    have bb := below2 w1 (.cells #[.slice a0 (dlen W32 (numV n1)) k0, .slice a1 (dlen W32 (numV d1)) k1] 49) (.cells #[.slice c0 (dlen W32 (numV n2)) l0, .slice c1 (dlen W32 (numV d2)) l1] 49)
    have M1 := m1.keep bb
    have M2 := m2.keep bb
    have M3 := m3.keep bb
    have M4 := m4.keep bb
    clear m1 m2 m3 m4 bb hv' hp hok
    have hcm := Lib.hid (isZero_any _ _ _ M3)
    by_cases hlt : numV n2 = 0
    · rw [decide_eq_true hlt] at hcm
      have hq := Lib.hid (show opR true (decide (numV n2 = 0)) (numV n1 * numV d2) (numV d1 * numV n2) = (⟨#[]⟩, ⟨#[]⟩, 4) by rw [decide_eq_true hlt]; rfl)
      clear hlt M1 M2 M3 M4
      go_wp2_with fail
      (with_reducible refine hcm.out.mono ?_)
      rintro e w5 ⟨rfl, b5⟩
      have hR6 := hR2.keep b5 ltR
      replace r0 := hR6.cell 0
      replace r1 := hR6.cell 1
      replace f0 := hR6.frozen 0
      replace f1 := hR6.frozen 1
      simp only [List.getElem?_toArray, List.getElem?_cons_zero, List.getElem?_cons_succ] at r0 r1
      have B6 := Lib.hid (below_wt B2.out b5)
      clear b5
      go_wp2
      refine bodyPost_ret (v := .tuple #[.agg #[.string ⟨#[]⟩, .string ⟨#[]⟩], .int .i64 4]) (by simp [results, Tryd.results21, go_sem, r0, r1]) rfl ?_
      exact ⟨by first | (rw [hok'.out, hq.out]; rfl) | (rw [hq.out]; rfl), (B6.out.setCell (p := ⟨w.heap.size + 1 + 1, 0, none⟩) hbl.out _).setCell (p := ⟨w.heap.size + 1 + 1, 1, none⟩) hbl.out _⟩
    · rw [decide_eq_false hlt] at hcm
      have hdn := Lib.hid (decide_eq_false hlt)
      have hnp := Lib.hid (Nat.pos_of_ne_zero hlt)
      clear hlt
      have hM1 := Lib.hid M1; have hM2 := Lib.hid M2; have hM3 := Lib.hid M3; have hM4 := Lib.hid M4
      clear M1 M2 M3 M4
      go_wp2_with fail
      (with_reducible refine hcm.out.mono ?_)
      rintro e w5 ⟨rfl, b5⟩
      have M1 := hM1.out.keep b5; have M2 := hM2.out.keep b5; have M3 := hM3.out.keep b5; have M4 := hM4.out.keep b5
      replace z0 := (b5.cell (block_lt z0)).trans z0
      replace z1 := (b5.cell (block_lt z1)).trans z1
      replace hzz0 := (b5.cell (block_lt hzz0)).trans hzz0
      replace hzz1 := (b5.cell (block_lt hzz1)).trans hzz1
      replace hR2 := hR2.keep b5 ltR
      replace ltR := hR2.lt
      replace B2 := Lib.hid (below_wt B2.out b5)
      clear b5 r0 r1 f0 f1
      have r0 : True := trivial; have r1 : True := trivial; have f0 : True := trivial; have f1 : True := trivial
      have hop := Lib.hid (ratioOver _ _ _ _ (numV n1) (numV d1) (numV n2) (numV d2) _ M1 M2 M3 M4 (len_n32 sz1.1) (len_n32 sz1.2) (len_n32 sz2.1) (len_n32 sz2.2))
      have stN := Lib.hid (prod32 (numV_len sz1.1) (numV_len sz2.2))
      have stD := Lib.hid (prod32 (numV_len sz1.2) (numV_len sz2.1))
      have dps := Lib.hid (Nat.mul_pos dp1 hnp.out)
      have hq := Lib.hid (show ∀ x y, (numV n1 * numV d2) = x → (numV d1 * numV n2) = y → opR true (decide (numV n2 = 0)) (numV n1 * numV d2) (numV d1 * numV n2) = (toldN (x / Nat.gcd x y) (y / Nat.gcd x y), toldD (x / Nat.gcd x y) (y / Nat.gcd x y), toldC (x / Nat.gcd x y) (y / Nat.gcd x y)) by rintro x y rfl rfl; rw [hdn.out]; rfl)
      clear M1 M2 M3 M4
      generalize hNN : numV n1 * numV d2 = NN at hop stN
      generalize hDD : numV d1 * numV n2 = DD at hop stD dps
      replace hNN := Lib.hid hNN
      replace hDD := Lib.hid hDD
      go_wp2_with fail
      (with_reducible refine hop.out.mono ?_)
      rintro e w5 ⟨p, q, rfl, hp, hq', b5⟩
      have ht := Lib.hid (fraction_any p q NN DD w5 hp hq' dps.out (Nat.le_trans stN.out (by decide)) (Nat.le_trans stD.out (by decide)) (htab'.out.keep (below_wt B2.out b5)))
      obtain ⟨_, pa, pc, rfl⟩ := hp.len
      obtain ⟨_, qa, qc, rfl⟩ := hq'.len
      have B5 := Lib.hid (below_wt B2.out b5)
      have hR5 := hR2.keep b5 ltR
      clear hp hq' b5
      go_wp2_with fail
      (with_reducible refine ht.out.mono ?_)
      rintro e w6 ⟨rfl, b6⟩
      have hR6 := hR5.keep b6 hR5.lt
      replace r0 := hR6.cell 0
      replace r1 := hR6.cell 1
      replace f0 := hR6.frozen 0
      replace f1 := hR6.frozen 1
      simp only [List.getElem?_toArray, List.getElem?_cons_zero, List.getElem?_cons_succ] at r0 r1
      have B6 := Lib.hid (below_wt B5.out b6)
      clear b6 ht
      replace hq := Lib.hid (hq.out _ _ hNN.out hDD.out)
      generalize toldN (NN / Nat.gcd NN DD) (DD / Nat.gcd NN DD) = TN at *
      generalize toldD (NN / Nat.gcd NN DD) (DD / Nat.gcd NN DD) = TD at *
      generalize toldC (NN / Nat.gcd NN DD) (DD / Nat.gcd NN DD) = TC at *
      go_wp2
      refine bodyPost_ret (v := .tuple #[.agg #[.string TN, .string TD], .int .i64 TC]) (by simp [results, Tryd.results21, go_sem, r0, r1]) rfl ?_
      exact ⟨by first | (rw [hok'.out, hq.out]; rfl) | (rw [hq.out]; rfl), (B6.out.setCell (p := ⟨w.heap.size + 1 + 1, 0, none⟩) hbl.out _).setCell (p := ⟨w.heap.size + 1 + 1, 1, none⟩) hbl.out _⟩
end Go.Proofs.YtefodgebecacgaaDoor
