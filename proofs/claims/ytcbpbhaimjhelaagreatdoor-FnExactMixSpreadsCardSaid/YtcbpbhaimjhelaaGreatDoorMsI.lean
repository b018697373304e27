/- MixSpreads of the project. Conditions: told by the code. -/
import Derived.Test.YtcbpbhaimjhelaaGreatDoorMs
import Derived.Test.YtcbpbhaimjhelaaGreatDoorPr
namespace Go.Proofs.YtcbpbhaimjhelaaGreatDoor
open Go.RowKit Go.Deep
set_option linter.unusedVariables false
set_option linter.unusedSimpArgs false

structure MixI (p q : List (ByteArray × ByteArray)) (s : ByteArray × ByteArray) (n X E : Nat) (PL : List (Nat × Nat)) : Prop where
  n6 : n ≤ 6
  pl : PL.length = n
  nx : ∀ k, k < n → PL.take (k + 1) = PL.take k ++ [(((numP p).getD k (0, 0)).1 * X * (((numP q).getD k (0, 0)).2 * (1 * E)) + ((numP q).getD k (0, 0)).1 * (1 * E - X * 1) * (((numP p).getD k (0, 0)).2 * E), ((numP p).getD k (0, 0)).2 * E * (((numP q).getD k (0, 0)).2 * (1 * E)))]
  s1 : ∀ i, i < n → dlen W32 ((numP p).getD i (0, 0)).1 ≤ 300 ∧ dlen W32 ((numP p).getD i (0, 0)).2 ≤ 300
  s2 : ∀ i, i < n → dlen W32 ((numP q).getD i (0, 0)).1 ≤ 300 ∧ dlen W32 ((numP q).getD i (0, 0)).2 ≤ 300
  x1 : dlen W32 X ≤ 300
  x2 : dlen W32 E ≤ 300
  x3 : dlen W32 (1 * E) ≤ 300
  x4 : dlen W32 (1 * E - X * 1) ≤ 300
  den : ∀ i, i < PL.length → 0 < (PL.getD i (0, 0)).2
  sz : ∀ i, i < PL.length → dlen W32 (PL.getD i (0, 0)).1 ≤ 1000000 ∧ dlen W32 (PL.getD i (0, 0)).2 ≤ 1000000
  val : mixR p q s = (ratT PL, ratC PL)
theorem mixI_of (p q : List (ByteArray × ByteArray)) (s : ByteArray × ByteArray) (h1 : spreadB p = true) (h2 : spreadB q = true) (h3 : frOk s.1 s.2 = true) (hl : p.length = q.length) (hle : ¬ numV s.2 < numV s.1) :
    MixI p q s p.length (numV s.1) (numV s.2) (mixP (numP p) (numP q) (numV s.1) (numV s.2)) := by
  obtain ⟨f1, a1, a2⟩ := spreadB_frs' h1
  obtain ⟨f2, _, _⟩ := spreadB_frs' h2
  have pl := numP_length p
  have ql := numP_length q
  have e1 := numP_len f1
  have e2 := numP_len f2
  have e0 := frOk_den0 h3
  obtain ⟨n1, n2⟩ := frOk_num h3
  have g1 := numV_len n1
  have g2 := numV_len n2
  have g3 : dlen W32 (1 * numV s.2) ≤ 300 := by rw [Nat.one_mul]; exact g2
  have g4 : dlen W32 (1 * numV s.2 - numV s.1 * 1) ≤ 300 := Nat.le_trans (dlen_mono w32 (Nat.sub_le _ _)) g3
  have LM : (mixP (numP p) (numP q) (numV s.1) (numV s.2)).length = p.length := by rw [mixP_length, pl]
  refine ⟨a2, LM, fun k hk => mixP_take _ _ _ _ _ (by rw [pl]; exact hk), fun i hi => e1 i (by rw [pl]; exact hi), fun i hi => e2 i (by rw [ql]; omega), g1, g2, g3, g4, fun i hi => ?_, fun i hi => ?_, ?_⟩
  · rw [LM] at hi
    rw [mixP_get _ _ _ _ _ (by rw [pl]; exact hi)]
    exact Nat.mul_pos (Nat.mul_pos (numP_den f1 i (by rw [pl]; exact hi)) e0) (Nat.mul_pos (numP_den f2 i (by rw [ql]; omega)) (by omega))
  · rw [LM] at hi
    rw [mixP_get _ _ _ _ _ (by rw [pl]; exact hi)]
    obtain ⟨u1, u2⟩ := e1 i (by rw [pl]; exact hi)
    obtain ⟨u3, u4⟩ := e2 i (by rw [ql]; omega)
    have t1 := mul_dlen w32 (mul_dlen w32 u1 g1) (mul_dlen w32 u4 g3)
    have t2 := mul_dlen w32 (mul_dlen w32 u3 g4) (mul_dlen w32 u2 g2)
    have t3 := mul_dlen w32 (mul_dlen w32 u2 g2) (mul_dlen w32 u4 g3)
    have t4 := plus_len w32 t1 t2
    exact ⟨Nat.le_trans t4 (by omega), Nat.le_trans t3 (by omega)⟩
  · unfold mixR; rw [if_pos (by rw [h1, h2, h3]; rfl), if_pos hl, if_neg hle]
theorem frOwn_nil (w : World) (lo hi : Nat) : FrOwn w lo hi (.slice none 0 0) [] := ⟨by simp, Or.inl ⟨0, rfl, rfl⟩⟩
theorem dlen_one : dlen W32 1 ≤ 1000000 := Nat.le_trans (dlen_mono w32 (show 1 ≤ 1 from Nat.le_refl _)) (by decide)

set_option maxRecDepth 100000 in
set_option maxHeartbeats 40000000 in
theorem MixSpreads_impl (v1 v2 : Value) (p q : List (ByteArray × ByteArray)) (sn sd : ByteArray) (w : World) (h1 : FrL w v1 p) (h2 : FrL w v2 q) (htab : Tab10 w) :
    Calls Tryz.prog 34 #[v1, v2, .agg #[.string sn, .string sd]] w fun e w' => ∃ v, e = .returned (.tuple #[v, .int .i64 (mixR p q (sn, sd)).2]) ∧ FrOwn w' w.heap.size w'.heap.size v (mixR p q (sn, sd)).1 ∧ Below w.heap.size w w' := by
  obtain ⟨hm1, va, vc, rfl, _⟩ := id h1
  obtain ⟨hm2, ua, uc, rfl, _⟩ := id h2
  unfold maxLen at hm1 hm2
  have b0 := below1 w (.cells #[.string sn, .string sd] 25)
  have hS := Blk.new w #[.string sn, .string sd] 25
  have hs := Lib.hid (readSpread_any (.slice va p.length vc) p _ (h1.keep b0))
  have h2' := Lib.hid (h2.keep b0)
  have htab' := Lib.hid htab
  have hpf := Lib.hid (fun W => read_form sn sd W)
  obtain ⟨np, hnp⟩ : ∃ n, n = p.length := ⟨_, rfl⟩
  obtain ⟨nq, hnq⟩ : ∃ n, n = q.length := ⟨_, rfl⟩
  rw [← hnp] at hm1 hs ⊢
  rw [← hnq] at hm2 h2' ⊢
  have hnp' := Lib.hid hnp
  have hnq' := Lib.hid hnq
  clear h1 h2 hnp hnq htab
  go_enter Tryz.func34, Tryz.ntmps34
  go_wp2_with fail
  (with_reducible refine hs.out.mono ?_)
  rintro e w1 ⟨aa, an, ca, rfl, b1, hval⟩
  have hl := Lib.hid (readSpread_any (.slice ua nq uc) q w1 (by rw [hnq'.out] at h2' ⊢; exact h2'.out.keep b1))
  have hval' := Lib.hid hval
  have hS1 := hS.keep b1 hS.lt
  have B1b := Lib.hid (below_wt b0 b1)
  clear hval hS b0 b1 hs h2'
  go_wp2_with fail
  (with_reducible refine hl.out.mono ?_)
  rintro e w2 ⟨la, ln, cb, rfl, b2, hvl2⟩
  have hvl2' := Lib.hid hvl2
  have hS2 := hS1.keep b2 hS1.lt
  have B2b := Lib.hid (below_wt B1b.out b2)
  have b12 := Lib.hid b2
  clear hvl2 hS1 b2 hl B1b
  obtain ⟨q0, q1⟩ := (⟨hS2.cell 0, hS2.cell 1⟩ : _ ∧ _)
  simp only [List.getElem?_toArray, List.getElem?_cons_zero, List.getElem?_cons_succ] at q0 q1
  go_wp2_with fail
  (with_reducible refine (hpf.out _).mono ?_)
  rintro e w3 ⟨xa, ea, xl, el, xc, ec, rfl, b3, hvl3⟩
  have by3 := below1 w3 (.cells #[.slice xa xl xc, .slice ea el ec] 72)
  have hXb := Blk.new w3 #[.slice xa xl xc, .slice ea el ec] 72
  have hvl3' := Lib.hid hvl3
  have b23 := Lib.hid (below_wt b3 by3)
  have B3b := Lib.hid (below_wt (below_wt B2b.out b3) by3)
  clear q0 q1 hS2 hvl3 b3 by3 hpf B2b
  rcases hok : (spreadB p && (spreadB q && frOk sn sd)) with _ | _
  · have hr := Lib.hid (mixR_bad (s := (sn, sd)) hok)
    clear hval' hvl2' hvl3' hXb b12 b23
    rcases ho1 : spreadB p with _ | _
    · clear hok
      go_wp2
      go_ret2
      exact ⟨.slice none 0 0, by rw [hr.out]; rfl, by rw [hr.out]; exact frOwn_nil _ _ _, B3b.out⟩
    · rw [ho1] at hok
      rcases ho2 : spreadB q with _ | _
      · clear hok
        go_wp2
        go_ret2
        exact ⟨.slice none 0 0, by rw [hr.out]; rfl, by rw [hr.out]; exact frOwn_nil _ _ _, B3b.out⟩
      · rw [ho2] at hok
        have ho3 : frOk sn sd = false := by simpa using hok
        rw [ho3]
        clear hok ho3
        go_wp2
        go_ret2
        exact ⟨.slice none 0 0, by rw [hr.out]; rfl, by rw [hr.out]; exact frOwn_nil _ _ _, B3b.out⟩
  · obtain ⟨ho1, ho2, ho3⟩ : spreadB p = true ∧ spreadB q = true ∧ frOk sn sd = true := by simpa using hok
    by_cases hlen : np = nq
    · obtain ⟨han, hP1⟩ := hval'.out ho1
      obtain ⟨hln, hP2⟩ := hvl2'.out ho2
      obtain ⟨rfl, rfl, hX, hE⟩ := hvl3'.out ho3
      have hlen2 : p.length = q.length := by rw [← hnp'.out, ← hnq'.out]; exact hlen
      have by3 := below1 w3 (.cells #[.slice xa (dlen W32 (numV sn)) xc, .slice ea (dlen W32 (numV sd)) ec] 72)
      replace hX := hX.keep by3
      replace hE := hE.keep by3
      have hM1 := Lib.hid ((hP1.keep likeI b12.out).keep likeI b23.out)
      have hM2 := Lib.hid (hP2.keep likeI b23.out)
      have hbig := Lib.hid (fun h => mixR_big (s := (sn, sd)) hok hlen2 h)
      have hmi := Lib.hid (fun h => mixI_of p q (sn, sd) ho1 ho2 ho3 hlen2 h)
      obtain ⟨n1, n2⟩ := frOk_num ho3
      have g1 := numV_len n1
      have g2 := numV_len n2
      have g0 := dlen_one
      obtain rfl : an = np := by rw [han, hnp'.out]
      obtain rfl : ln = an := by rw [hln, ← hnq'.out, hlen]
      obtain rfl : ln = nq := hlen
      rw [ho1, ho2, ho3]
      obtain ⟨X, hXe⟩ : ∃ X, numV sn = X := ⟨_, rfl⟩
      obtain ⟨E, hEe⟩ : ∃ E, numV sd = E := ⟨_, rfl⟩
      simp only [hXe, hEe] at hX hE hXb by3 B3b hM1 hM2 hbig hmi g1 g2
      rw [hXe, hEe]
      clear hXe hEe n1 n2 hP1 hP2 han hln ho1 ho2 ho3 hok hval' hvl2' hvl3' hlen2 b12 b23
      obtain ⟨CC, hCC⟩ : ∃ c, cmpI (X * 1) (1 * E) = c := ⟨_, rfl⟩
      replace hCC := Lib.hid hCC
      go_upto_region 8 with fail
      generalize hV : w3.alloc (.cells #[.slice xa (dlen W32 X) xc, .slice ea (dlen W32 E) ec] 72) = V at *
      replace hX := Lib.hid hX; replace hE := Lib.hid hE
      have hXv := Lib.hid hXb
      generalize w3.heap.size = BX at *
      have cR0 := Lib.hid (fun w1 (hb : Below V.heap.size V w1) => (show w1.cell? ⟨BX, 0, none⟩ = some (.slice xa (dlen W32 X) xc) from (hXv.out.keep hb hXv.out.lt).cell 0))
      have cR1 := Lib.hid (fun w1 (hb : Below V.heap.size V w1) => (show w1.cell? ⟨BX, 1, none⟩ = some (.slice ea (dlen W32 E) ec) from (hXv.out.keep hb hXv.out.lt).cell 1))
      clear hV by3 hXb
      refine' Rgn.region_by (fun _ => 0) 0 (fun _ => false) (fun i _ v w' => match i with
          | 0 => v = .agg #[.slice xa (dlen W32 X) xc, .slice ea (dlen W32 E) ec]
          | 1 => ∃ p q, v = .agg #[p, q] ∧ LongI w' p (1) ∧ LongI w' q (1)
          | 2 => v = .int .i64 CC
          | 3 => v = .bool (decide (0 < CC))
          | _ => True) (fun i _ v => match i with
          | 0 => v = .agg #[.slice xa (dlen W32 X) xc, .slice ea (dlen W32 E) ec]
          | 1 => True
          | 2 => True
          | 3 => v = .bool (decide (0 < CC))
          | _ => True)
          (fun _ _ _ => True) (by kernel_rfl) (by kernel_rfl) (by kernel_rfl) ?hst_a ?hG_a _ ?hfr_a ?hob_a ?hend_a
      case hfr_a =>
        intro z
        simp only [Rgn.fillAll, Act.put, List.setIfInBounds_toArray, List.set_cons_zero, List.set_cons_succ, Nat.reduceAdd, Nat.zero_add]
        exact rfl
      case hst_a =>
        intro i z v w1 w2 hi hb hx
        rcases i with _ | i
        · exact hx
        rcases i with _ | i
        · exact (fun v w1 w2 hb h => h.elim fun p h => h.elim fun q h => ⟨p, q, h.1, h.2.1.keep hb, h.2.2.keep hb⟩) v w1 w2 hb hx
        rcases i with _ | i
        · exact (fun v w1 w2 hb h => h) v w1 w2 hb hx
        rcases i with _ | i
        · exact hx
        exact trivial
      case hG_a =>
        intro i z v w1 hi hx
        rcases i with _ | i
        · exact hx
        rcases i with _ | i
        · trivial
        rcases i with _ | i
        · trivial
        rcases i with _ | i
        · exact hx
        exact trivial
      case hob_a =>
        intro hfr
        refine Rgn.AllOb.cons (j := 1) (by kernel_rfl) ?_ ?_
        · refine' Rgn.ob_body (fr := _) ?hf_a0 ?h1_a0 ?h2_a0 ?h3_a0 ?h_a0
          case hf_a0 => exact hfr
          case h1_a0 => kernel_rfl
          case h2_a0 => kernel_rfl
          case h3_a0 => rfl
          clear hfr
          intro z w1 hb hd ho K hK
          clear hd ho
          have x0 := cR0.out w1 hb; have x1 := cR1.out w1 hb
          go_simp
          have hh := hK.out (.agg #[.slice xa (dlen W32 X) xc, .slice ea (dlen W32 E) ec]) _ (Below.refl _ _) rfl
          simp only [Act.put, List.setIfInBounds_toArray, List.set_cons_zero, List.set_cons_succ] at hh
          exact hh
        refine Rgn.AllOb.cons (j := 2) (by kernel_rfl) ?_ ?_
        · refine' Rgn.ob_body (fr := _) ?hf_a1 ?h1_a1 ?h2_a1 ?h3_a1 ?h_a1
          case hf_a1 => exact hfr
          case h1_a1 => kernel_rfl
          case h2_a1 => kernel_rfl
          case h3_a1 => rfl
          clear hfr
          intro z w1 hb hd ho K hK
          clear hd ho
          go_simp
          have hh' := oneRatio_any w1
          refine hh'.mono ?_
          rintro e w2 ⟨p, q, rfl, hp, hq2, b⟩
          have hh := hK.out _ _ b ⟨p, q, rfl, hp, hq2⟩
          simp only [Act.put, List.setIfInBounds_toArray, List.set_cons_zero, List.set_cons_succ] at hh
          exact hh
        refine Rgn.AllOb.cons (j := 3) (by kernel_rfl) ?_ ?_
        · refine' Rgn.ob_body (fr := _) ?hf_a2 ?h1_a2 ?h2_a2 ?h3_a2 ?h_a2
          case hf_a2 => exact hfr
          case h1_a2 => kernel_rfl
          case h2_a2 => kernel_rfl
          case h3_a2 => rfl
          clear hfr
          intro z w1 hb hd ho K hK
          have e0 : z 0 = .agg #[.slice xa (dlen W32 X) xc, .slice ea (dlen W32 E) ec] := hd.out 0 (by kernel_rfl)
          have e1 : ∃ p q, (z 1) = .agg #[p, q] ∧ LongI w1 p (1) ∧ LongI w1 q (1) := hd.out 1 (by kernel_rfl)
          clear hd ho
          go_simp
          obtain ⟨p, q, e1, hp, hq2⟩ := e1
          obtain ⟨_, pa, pc, rfl⟩ := hp.len
          obtain ⟨_, qa, qc, rfl⟩ := hq2.len
          simp only [e1]
          refine (cmp_implW xa ea pa qa xc ec pc qc X E 1 1 _ (hX.out.keep hb) (hE.out.keep hb) hp hq2 (by omega) (by omega) (by omega) (by omega)).mono ?_
          rintro e w2 ⟨rfl, b⟩
          rw [hCC.out]
          have hh := hK.out _ _ b rfl
          simp only [Act.put, List.setIfInBounds_toArray, List.set_cons_zero, List.set_cons_succ, e0, e1] at hh
          exact hh
        refine Rgn.AllOb.cons (j := 4) (by kernel_rfl) ?_ ?_
        · refine' Rgn.ob_body (fr := _) ?hf_a3 ?h1_a3 ?h2_a3 ?h3_a3 ?h_a3
          case hf_a3 => exact hfr
          case h1_a3 => kernel_rfl
          case h2_a3 => kernel_rfl
          case h3_a3 => rfl
          clear hfr
          intro z w1 hb hd ho K hK
          have e2 : (z 2) = .int .i64 CC := hd.out 2 (by kernel_rfl)
          clear hd ho
          go_simp
          have hh := hK.out (.bool (decide (0 < CC))) _ (Below.refl _ _) rfl
          simp only [Act.put, List.setIfInBounds_toArray, List.set_cons_zero, List.set_cons_succ, e2] at hh
          exact hh
        exact Rgn.AllOb.nil
      case hend_a =>
        intro hfr
        refine' Rgn.end_plain (fr := _) ?g1_a ?g2_a ?g3_a
        case g1_a => exact hfr
        case g2_a => kernel_rfl
        clear hfr
        intro z w4 b4 hf
        have e3 : z 3 = .bool (decide (0 < CC)) := hf.out 3 (by decide)
        simp only [e3]
        have hX4 := Lib.hid (hX.out.keep b4)
        have hE4 := Lib.hid (hE.out.keep b4)
        have dR0 := Lib.hid (fun w1 (hb : Below w4.heap.size w4 w1) => cR0.out w1 (below_wt b4 hb))
        have dR1 := Lib.hid (fun w1 (hb : Below w4.heap.size w4 w1) => cR1.out w1 (below_wt b4 hb))
        have B4b := Lib.hid (below_wt B3b.out b4)
        replace hM1 := Lib.hid (hM1.out.keep likeI b4)
        replace hM2 := Lib.hid (hM2.out.keep likeI b4)
        clear hf cR0 cR1 hXv B3b hX hE
        by_cases hgt : E < X
        · have hcc : decide ((0 : Int) < CC) = true := decide_eq_true (by rw [← hCC.out, Nat.mul_one, Nat.one_mul, cmpI_gt hgt]; decide)
          have hr := Lib.hid (hbig.out hgt)
          rw [hcc]
          clear hM1 hM2 hmi hbig hX4 hE4 dR0 dR1 e3 hcc b4 hCC
          go_wp2
          go_ret2
          exact ⟨.slice none 0 0, by rw [hr.out]; rfl, by rw [hr.out]; exact frOwn_nil _ _ _, B4b.out⟩
        · have hcc : decide ((0 : Int) < CC) = false := decide_eq_false (by rw [← hCC.out, Nat.mul_one, Nat.one_mul]; unfold cmpI; split <;> (try split) <;> omega)
          have hX := hX4
          have hE := hE4
          have cR0 := dR0
          have cR1 := dR1
          obtain ⟨n6, pl, nx, s1, s2, x1, x2, x3, x4, hden, sz, hvl⟩ := hmi.out hgt
          rw [← hnp'.out] at n6 pl nx s1 s2
          have hp1l := Lib.hid (show (numP p).length = ln by rw [numP_length, hnp'.out])
          have hp2l := Lib.hid (show (numP q).length = ln by rw [numP_length, hnq'.out])
          obtain ⟨PL, hPL⟩ : ∃ PL, mixP (numP p) (numP q) X E = PL := ⟨_, rfl⟩
          rw [hPL] at nx sz hden hvl pl
          have hall := Lib.hid (show PL.take ln = PL by rw [← pl, List.take_length])
          have hkl0 := Lib.hid (fun k (h : k ≤ ln) => (show (PL.take k).length = k by rw [List.length_take, pl]; omega))
          replace nx := Lib.hid nx; replace s1 := Lib.hid s1; replace s2 := Lib.hid s2; replace sz := Lib.hid sz; replace hden := Lib.hid hden; replace hvl := Lib.hid hvl; replace pl := Lib.hid pl
          have hle : Hid (X * 1 ≤ 1 * E) := Lib.hid (by omega)
          rw [hcc]
          clear hPL hmi hbig hcc e3 hX4 hE4 dR0 dR1 b4 hCC hnp' hnq'
          go_upto_region 10 with fail
          refine' Rgn.region_by (fun i => match i with | 4 => 1 | _ => 0) 1 (fun _ => false) (fun i _ v w' => match i with
              | 0 => ∃ p q, v = .agg #[p, q] ∧ LongI w' p (1) ∧ LongI w' q (1)
              | 1 => v = .agg #[.slice xa (dlen W32 X) xc, .slice ea (dlen W32 E) ec]
              | 2 => ∃ p q, v = .agg #[p, q] ∧ LongI w' p (1 * E - X * 1) ∧ LongI w' q (1 * E)
              | 3 => ∃ B : Nat, v = .pointer (some ⟨B, 0, none⟩) ∧ w4.heap.size ≤ B ∧ Blk w' B #[.slice none 0 0, .slice none 0 0] 72
              | _ => True) (fun i _ v => match i with
              | 0 => True
              | 1 => v = .agg #[.slice xa (dlen W32 X) xc, .slice ea (dlen W32 E) ec]
              | 2 => True
              | 3 => True
              | _ => True)
              (fun p z w' => ∃ (O : Nat) (a0 a1 : Option Addr) (l0 l1 c0 c1 : Nat), z 3 = .pointer (some ⟨O, 0, none⟩) ∧ Blk w' O #[.slice a0 l0 c0, .slice a1 l1 c1] 72 ∧ LongI w' (.slice a0 l0 c0) (1 * E - X * 1) ∧ LongI w' (.slice a1 l1 c1) (1 * E) ∧ Below w4.heap.size w4 w') (by kernel_rfl) (by kernel_rfl) (by kernel_rfl) ?hst_b ?hG_b _ ?hfr_b ?hob_b ?hend_b
          case hfr_b =>
            intro z
            simp only [Rgn.fillAll, Act.put, List.setIfInBounds_toArray, List.set_cons_zero, List.set_cons_succ, Nat.reduceAdd, Nat.zero_add]
            exact rfl
          case hst_b =>
            intro i z v w1 w2 hi hb hx
            rcases i with _ | i
            · exact (fun v w1 w2 hb h => h.elim fun p h => h.elim fun q h => ⟨p, q, h.1, h.2.1.keep hb, h.2.2.keep hb⟩) v w1 w2 hb hx
            rcases i with _ | i
            · exact hx
            rcases i with _ | i
            · exact (fun v w1 w2 hb h => h.elim fun p h => h.elim fun q h => ⟨p, q, h.1, h.2.1.keep hb, h.2.2.keep hb⟩) v w1 w2 hb hx
            rcases i with _ | i
            · exact (fun v w1 w2 hb h => h.elim fun B hB => ⟨B, hB.1, hB.2.1, hB.2.2.step hb⟩) v w1 w2 hb hx
            rcases i with _ | i
            · exact trivial
            exact trivial
          case hG_b =>
            intro i z v w1 hi hx
            rcases i with _ | i
            · trivial
            rcases i with _ | i
            · exact hx
            rcases i with _ | i
            · trivial
            rcases i with _ | i
            · trivial
            rcases i with _ | i
            · exact trivial
            exact trivial
          case hob_b =>
            intro hfr
            refine Rgn.AllOb.cons (j := 1) (by kernel_rfl) ?_ ?_
            · refine' Rgn.ob_body (fr := _) ?hf_b0 ?h1_b0 ?h2_b0 ?h3_b0 ?h_b0
              case hf_b0 => exact hfr
              case h1_b0 => kernel_rfl
              case h2_b0 => kernel_rfl
              case h3_b0 => rfl
              clear hfr
              intro z w1 hb hd ho K hK
              clear hd ho
              go_simp
              have hh' := oneRatio_any w1
              refine hh'.mono ?_
              rintro e w2 ⟨p, q, rfl, hp, hq2, b⟩
              have hh := hK.out _ _ b ⟨p, q, rfl, hp, hq2⟩
              simp only [Act.put, List.setIfInBounds_toArray, List.set_cons_zero, List.set_cons_succ] at hh
              exact hh
            refine Rgn.AllOb.cons (j := 2) (by kernel_rfl) ?_ ?_
            · refine' Rgn.ob_body (fr := _) ?hf_b1 ?h1_b1 ?h2_b1 ?h3_b1 ?h_b1
              case hf_b1 => exact hfr
              case h1_b1 => kernel_rfl
              case h2_b1 => kernel_rfl
              case h3_b1 => rfl
              clear hfr
              intro z w1 hb hd ho K hK
              clear hd ho
              have x0 := cR0.out w1 hb; have x1 := cR1.out w1 hb
              go_simp
              have hh := hK.out (.agg #[.slice xa (dlen W32 X) xc, .slice ea (dlen W32 E) ec]) _ (Below.refl _ _) rfl
              simp only [Act.put, List.setIfInBounds_toArray, List.set_cons_zero, List.set_cons_succ] at hh
              exact hh
            refine Rgn.AllOb.cons (j := 3) (by kernel_rfl) ?_ ?_
            · refine' Rgn.ob_body (fr := _) ?hf_b2 ?h1_b2 ?h2_b2 ?h3_b2 ?h_b2
              case hf_b2 => exact hfr
              case h1_b2 => kernel_rfl
              case h2_b2 => kernel_rfl
              case h3_b2 => rfl
              clear hfr
              intro z w1 hb hd ho K hK
              have e0 : ∃ p q, (z 0) = .agg #[p, q] ∧ LongI w1 p (1) ∧ LongI w1 q (1) := hd.out 0 (by kernel_rfl)
              have e1 : z 1 = .agg #[.slice xa (dlen W32 X) xc, .slice ea (dlen W32 E) ec] := hd.out 1 (by kernel_rfl)
              clear hd ho
              go_simp
              obtain ⟨p, q, e0, hp, hq2⟩ := e0
              simp only [e0]
              refine (ratioMinus _ _ _ _ 1 1 X E _ hp hq2 (hX.out.keep hb) (hE.out.keep hb) (by omega) (by omega) (by omega) (by omega) hle).mono ?_
              rintro e w2 ⟨p', q', rfl, hp', hq', b⟩
              have hh := hK.out _ _ b ⟨p', q', rfl, hp', hq'⟩
              simp only [Act.put, List.setIfInBounds_toArray, List.set_cons_zero, List.set_cons_succ, e0, e1] at hh
              exact hh
            refine Rgn.AllOb.cons (j := 4) (by kernel_rfl) ?_ ?_
            · refine' Rgn.ob_body (fr := _) ?hf_b3 ?h1_b3 ?h2_b3 ?h3_b3 ?h_b3
              case hf_b3 => exact hfr
              case h1_b3 => kernel_rfl
              case h2_b3 => kernel_rfl
              case h3_b3 => rfl
              clear hfr
              intro z w1 hb hd ho K hK
              clear hd ho
              go_simp
              have hh := hK.out _ _ (below1 _ _) ⟨_, rfl, hb.size, Blk.new _ _ _⟩
              simp only [Act.put, List.setIfInBounds_toArray, List.set_cons_zero, List.set_cons_succ] at hh
              exact hh
            refine Rgn.AllOb.cons (j := 5) (by kernel_rfl) ?_ ?_
            · refine' Rgn.ob_tail0 (fr := _) ?hf_b4 ?h1_b4 ?h3_b4 ?h_b4
              case hf_b4 => exact hfr
              case h1_b4 => kernel_rfl
              case h3_b4 => rfl
              clear hfr
              intro z w1 hb hf hd ho K hK
              obtain ⟨p, q, e2, hp, hq2⟩ : ∃ p q, z 2 = .agg #[p, q] ∧ LongI w1 p (1 * E - X * 1) ∧ LongI w1 q (1 * E) := hf.out 2 (by decide) rfl rfl
              obtain ⟨B, e3, hB, hXb⟩ : ∃ B : Nat, z 3 = .pointer (some ⟨B, 0, none⟩) ∧ w4.heap.size ≤ B ∧ Blk w1 B #[.slice none 0 0, .slice none 0 0] 72 := hf.out 3 (by decide) rfl rfl
              obtain ⟨pa, pn, pc, rfl⟩ := likeI.shape hp
              obtain ⟨qa, qn, qc, rfl⟩ := likeI.shape hq2
              have y0 := hXb.cell 0
              have y1 := hXb.cell 1
              have f0 := hXb.frozen 0
              have f1 := hXb.frozen 1
              simp only [List.getElem?_toArray, List.getElem?_cons_zero, List.getElem?_cons_succ] at y0 y1
              clear hf hd ho
              go_simp
              have hh := hK.out undef _ ⟨B, pa, qa, pn, qn, pc, qc, e3, by have := (hXb.set 0 (.slice pa pn pc)).set 1 (.slice qa qn qc); simpa using this, (hp.setBox hXb 0 _).setBox (hXb.set 0 _) 1 _, (hq2.setBox hXb 0 _).setBox (hXb.set 0 _) 1 _, (hb.setCell (p := ⟨B, 0, none⟩) hB _).setCell (p := ⟨B, 1, none⟩) hB _⟩
              simp only [Act.put, List.setIfInBounds_toArray, List.set_cons_zero, List.set_cons_succ, e2, e3] at hh
              exact hh
            exact Rgn.AllOb.nil
          case hend_b =>
            intro hfr
            refine' Rgn.end_tails (fr := _) ?g1_b ?g2_b ?g3_b
            case g1_b => exact hfr
            case g2_b => rfl
            clear hfr
            intro z' w6 hT hg
            obtain ⟨O, ra, ta, rl, tl, rc, tc, e3, hO, hR0, hT0, b6⟩ := hT
            replace e3 : z' 3 = .pointer (some ⟨O, 0, none⟩) := e3
            simp only [e3]
            have hOx := Lib.hid hO
            replace hR0 := Lib.hid hR0
            replace hT0 := Lib.hid hT0
            replace hX := Lib.hid (hX.out.keep b6)
            replace hE := Lib.hid (hE.out.keep b6)
            replace hM1 := Lib.hid (hM1.out.keep likeI b6)
            replace hM2 := Lib.hid (hM2.out.keep likeI b6)
            have B6b := Lib.hid (below_wt B4b.out b6)
            have eR0 := Lib.hid (fun w1 (hb : Below w6.heap.size w6 w1) => cR0.out w1 (below_wt b6 hb))
            have eR1 := Lib.hid (fun w1 (hb : Below w6.heap.size w6 w1) => cR1.out w1 (below_wt b6 hb))
            have hmk := fun W => make_rats ln (by omega) W
            have hst := Lib.hid (show MadeP LongI 72 _ w6.heap.size _ (PL.take 0) from made_rats ln (by omega) w6)
            have bM := Lib.hid (below1 w6 (.cells (madeCells #[.slice none 0 0, .slice none 0 0] (ln * 2)) 72))
            clear e3 hg hO b6 cR0 cR1 B4b
            go_wp2
            go_loopw [15, 59] (fun s i wr => ∃ (k c : Nat) (a : Option Addr), k ≤ ln ∧ i = .int .i64 (k : Int) ∧ s = .slice a k c ∧ Hid (MadeP LongI 72 wr w6.heap.size (.slice a k c) (PL.take k)) ∧ Hid (Below w6.heap.size w6 wr)) (fun _ i _ => ln - (intOf i).toNat)
            case atStart => exact ⟨0, _, _, Nat.zero_le _, rfl, rfl, hst, bM⟩
            case round =>
              obtain ⟨k, c, a, hk, rfl, rfl, hmade, bel⟩ := hrel
              clear hst bM hmk
              by_cases hlt : k < ln
              · obtain ⟨b1, o1, x0, x1', rfl, q0, q1, hx0, hx1⟩ := (hM1.out.keep likeI bel.out).at k (by rw [hp1l.out]; exact hlt)
                obtain ⟨b2, o2, y0, y1, rfl, q2, q3, hy0, hy1⟩ := (hM2.out.keep likeI bel.out).at k (by rw [hp2l.out]; exact hlt)
                obtain ⟨xa0, xl0, xc0, rfl⟩ := likeI.shape hx0
                obtain ⟨xa1, xl1, xc1, rfl⟩ := likeI.shape hx1
                obtain ⟨ya0, yl0, yc0, rfl⟩ := likeI.shape hy0
                obtain ⟨ya1, yl1, yc1, rfl⟩ := likeI.shape hy1
                obtain ⟨u1, u2⟩ := s1.out k hlt
                obtain ⟨u3, u4⟩ := s2.out k hlt
                have hnx := Lib.hid (nx.out k hlt)
                have hkl := Lib.hid (hkl0.out k hk)
                generalize ((numP p).getD k (0, 0)).1 = N1 at *
                generalize ((numP p).getD k (0, 0)).2 = D1 at *
                generalize ((numP q).getD k (0, 0)).1 = N2 at *
                generalize ((numP q).getD k (0, 0)).2 = D2 at *
                have v1 := mul_dlen w32 u1 x1
                have v2 := mul_dlen w32 u2 x2
                have v3 := mul_dlen w32 u3 x4
                have v4 := mul_dlen w32 u4 x3
                have c0 := Lib.hid (fun w1 (hb : Below wr.heap.size wr w1) => (hb.cell (p := ⟨b1, o1 + k * 2, none⟩) (block_lt q0)).trans q0)
                have c1 := Lib.hid (fun w1 (hb : Below wr.heap.size wr w1) => (hb.cell (p := ⟨b1, o1 + k * 2 + 1, none⟩) (block_lt q1)).trans q1)
                have c2 := Lib.hid (fun w1 (hb : Below wr.heap.size wr w1) => (hb.cell (p := ⟨b2, o2 + k * 2, none⟩) (block_lt q2)).trans q2)
                have c3 := Lib.hid (fun w1 (hb : Below wr.heap.size wr w1) => (hb.cell (p := ⟨b2, o2 + k * 2 + 1, none⟩) (block_lt q3)).trans q3)
                replace hx0 := Lib.hid hx0; replace hx1 := Lib.hid hx1; replace hy0 := Lib.hid hy0; replace hy1 := Lib.hid hy1
                replace hX := Lib.hid (hX.out.keep bel.out)
                replace hE := Lib.hid (hE.out.keep bel.out)
                have hR := Lib.hid (hR0.out.keep bel.out)
                have hT := Lib.hid (hT0.out.keep bel.out)
                have dR0 := Lib.hid (fun w1 (hb : Below wr.heap.size wr w1) => eR0.out w1 (below_wt bel.out hb))
                have dR1 := Lib.hid (fun w1 (hb : Below wr.heap.size wr w1) => eR1.out w1 (below_wt bel.out hb))
                have dO0 := Lib.hid (fun w1 (hb : Below wr.heap.size wr w1) => (show w1.cell? ⟨O, 0, none⟩ = some (.slice ra rl rc) from (hOx.out.keep (below_wt bel.out hb) hOx.out.lt).cell 0))
                have dO1 := Lib.hid (fun w1 (hb : Below wr.heap.size wr w1) => (show w1.cell? ⟨O, 1, none⟩ = some (.slice ta tl tc) from (hOx.out.keep (below_wt bel.out hb) hOx.out.lt).cell 1))
                have i1 : (0 : Int) ≤ (k : Int) := by omega
                have i2 : (k : Int) < (ln : Int) := by omega
                have hlt' := Lib.hid hlt
                clear q0 q1 q2 q3 hlt hM1 hM2 eR0 eR1 hOx hR0 hT0 nx sz hden hvl hall hkl0
                go_upto_region 15 with fail
                refine' Rgn.region_by (fun i => match i with | 15 => 1 | 16 => 2 | _ => 0) 2 (fun _ => false) (fun i _ v w' => match i with
                    | 0 => v = .slice a k c
                    | 1 => v = .slice (some ⟨b1, o1, none⟩) ln ca
                    | 2 => v = .int .i64 (k : Int)
                    | 3 => v = .pointer (some ⟨b1, o1 + k * 2, none⟩)
                    | 4 => v = .agg #[.slice xa0 xl0 xc0, .slice xa1 xl1 xc1]
                    | 5 => v = .agg #[.slice xa (dlen W32 X) xc, .slice ea (dlen W32 E) ec]
                    | 6 => ∃ p q, v = .agg #[p, q] ∧ LongI w' p (N1 * X) ∧ LongI w' q (D1 * E)
                    | 7 => v = .slice (some ⟨b2, o2, none⟩) ln cb
                    | 8 => v = .int .i64 (k : Int)
                    | 9 => v = .pointer (some ⟨b2, o2 + k * 2, none⟩)
                    | 10 => v = .agg #[.slice ya0 yl0 yc0, .slice ya1 yl1 yc1]
                    | 11 => v = .agg #[.slice ra rl rc, .slice ta tl tc]
                    | 12 => ∃ p q, v = .agg #[p, q] ∧ LongI w' p (N2 * (1 * E - X * 1)) ∧ LongI w' q (D2 * (1 * E))
                    | 13 => ∃ p q, v = .agg #[p, q] ∧ LongI w' p (N1 * X * (D2 * (1 * E)) + N2 * (1 * E - X * 1) * (D1 * E)) ∧ LongI w' q (D1 * E * (D2 * (1 * E)))
                    | 14 => ∃ b p q, v = .slice (some ⟨b, 0, none⟩) 1 1 ∧ Blk w' b #[p, q] 72 ∧ LongI w' p (N1 * X * (D2 * (1 * E)) + N2 * (1 * E - X * 1) * (D1 * E)) ∧ LongI w' q (D1 * E * (D2 * (1 * E)))
                    | _ => True) (fun i _ v => match i with
                    | 0 => v = .slice a k c
                    | 1 => v = .slice (some ⟨b1, o1, none⟩) ln ca
                    | 2 => v = .int .i64 (k : Int)
                    | 3 => v = .pointer (some ⟨b1, o1 + k * 2, none⟩)
                    | 4 => v = .agg #[.slice xa0 xl0 xc0, .slice xa1 xl1 xc1]
                    | 5 => v = .agg #[.slice xa (dlen W32 X) xc, .slice ea (dlen W32 E) ec]
                    | 6 => True
                    | 7 => v = .slice (some ⟨b2, o2, none⟩) ln cb
                    | 8 => v = .int .i64 (k : Int)
                    | 9 => v = .pointer (some ⟨b2, o2 + k * 2, none⟩)
                    | 10 => v = .agg #[.slice ya0 yl0 yc0, .slice ya1 yl1 yc1]
                    | 11 => v = .agg #[.slice ra rl rc, .slice ta tl tc]
                    | 12 => True
                    | 13 => True
                    | 14 => True
                    | _ => True)
                    (fun p z w' => ∃ g cap, z 15 = .slice (some ⟨g, 0, none⟩) (k + 1) cap ∧ MadeP LongI 72 w' w6.heap.size (.slice (some ⟨g, 0, none⟩) (k + 1) cap) (PL.take k ++ [(N1 * X * (D2 * (1 * E)) + N2 * (1 * E - X * 1) * (D1 * E), D1 * E * (D2 * (1 * E)))]) ∧ Below w6.heap.size w6 w' ∧ (p = 2 → z 16 = .slice (some ⟨g, 0, none⟩) (k + 1) cap)) (by kernel_rfl) (by kernel_rfl) (by kernel_rfl) ?hst_c ?hG_c _ ?hfr_c ?hob_c ?hend_c
                case hfr_c =>
                  intro z
                  simp only [Rgn.fillAll, Act.put, List.setIfInBounds_toArray, List.set_cons_zero, List.set_cons_succ, Nat.reduceAdd, Nat.zero_add]
                  exact rfl
                case hst_c =>
                  intro i z v w1 w2 hi hb hx
                  rcases i with _ | i
                  · exact hx
                  rcases i with _ | i
                  · exact hx
                  rcases i with _ | i
                  · exact hx
                  rcases i with _ | i
                  · exact hx
                  rcases i with _ | i
                  · exact hx
                  rcases i with _ | i
                  · exact hx
                  rcases i with _ | i
                  · exact (fun v w1 w2 hb h => h.elim fun p h => h.elim fun q h => ⟨p, q, h.1, h.2.1.keep hb, h.2.2.keep hb⟩) v w1 w2 hb hx
                  rcases i with _ | i
                  · exact hx
                  rcases i with _ | i
                  · exact hx
                  rcases i with _ | i
                  · exact hx
                  rcases i with _ | i
                  · exact hx
                  rcases i with _ | i
                  · exact hx
                  rcases i with _ | i
                  · exact (fun v w1 w2 hb h => h.elim fun p h => h.elim fun q h => ⟨p, q, h.1, h.2.1.keep hb, h.2.2.keep hb⟩) v w1 w2 hb hx
                  rcases i with _ | i
                  · exact (fun v w1 w2 hb h => h.elim fun p h => h.elim fun q h => ⟨p, q, h.1, h.2.1.keep hb, h.2.2.keep hb⟩) v w1 w2 hb hx
                  rcases i with _ | i
                  · exact (fun v w1 w2 hb h => h.elim fun b h => h.elim fun p h => h.elim fun q h => ⟨b, p, q, h.1, h.2.1.step hb, h.2.2.1.keep hb, h.2.2.2.keep hb⟩) v w1 w2 hb hx
                  rcases i with _ | i
                  · exact trivial
                  rcases i with _ | i
                  · exact trivial
                  exact trivial
                case hG_c =>
                  intro i z v w1 hi hx
                  rcases i with _ | i
                  · exact hx
                  rcases i with _ | i
                  · exact hx
                  rcases i with _ | i
                  · exact hx
                  rcases i with _ | i
                  · exact hx
                  rcases i with _ | i
                  · exact hx
                  rcases i with _ | i
                  · exact hx
                  rcases i with _ | i
                  · trivial
                  rcases i with _ | i
                  · exact hx
                  rcases i with _ | i
                  · exact hx
                  rcases i with _ | i
                  · exact hx
                  rcases i with _ | i
                  · exact hx
                  rcases i with _ | i
                  · exact hx
                  rcases i with _ | i
                  · trivial
                  rcases i with _ | i
                  · trivial
                  rcases i with _ | i
                  · trivial
                  rcases i with _ | i
                  · exact trivial
                  rcases i with _ | i
                  · exact trivial
                  exact trivial
                case hob_c =>
                  intro hfr
                  refine Rgn.AllOb.cons (j := 1) (by kernel_rfl) ?_ ?_
                  · refine' Rgn.ob_body (fr := _) ?hf_c0 ?h1_c0 ?h2_c0 ?h3_c0 ?h_c0
                    case hf_c0 => exact hfr
                    case h1_c0 => kernel_rfl
                    case h2_c0 => kernel_rfl
                    case h3_c0 => rfl
                    clear hfr
                    intro z w1 hb hd ho K hK
                    have o16 : z 16 = .slice a k c := ho.out 16 (by kernel_rfl)
                    clear hd ho
                    go_simp
                    have hh := hK.out (.slice a k c) _ (Below.refl _ _) rfl
                    simp only [Act.put, List.setIfInBounds_toArray, List.set_cons_zero, List.set_cons_succ, o16] at hh
                    exact hh
                  refine Rgn.AllOb.cons (j := 2) (by kernel_rfl) ?_ ?_
                  · refine' Rgn.ob_body (fr := _) ?hf_c1 ?h1_c1 ?h2_c1 ?h3_c1 ?h_c1
                    case hf_c1 => exact hfr
                    case h1_c1 => kernel_rfl
                    case h2_c1 => kernel_rfl
                    case h3_c1 => rfl
                    clear hfr
                    intro z w1 hb hd ho K hK
                    clear hd ho
                    go_simp
                    have hh := hK.out (.slice (some ⟨b1, o1, none⟩) ln ca) _ (Below.refl _ _) rfl
                    simp only [Act.put, List.setIfInBounds_toArray, List.set_cons_zero, List.set_cons_succ] at hh
                    exact hh
                  refine Rgn.AllOb.cons (j := 3) (by kernel_rfl) ?_ ?_
                  · refine' Rgn.ob_body (fr := _) ?hf_c2 ?h1_c2 ?h2_c2 ?h3_c2 ?h_c2
                    case hf_c2 => exact hfr
                    case h1_c2 => kernel_rfl
                    case h2_c2 => kernel_rfl
                    case h3_c2 => rfl
                    clear hfr
                    intro z w1 hb hd ho K hK
                    clear hd ho
                    go_simp
                    have hh := hK.out (.int .i64 (k : Int)) _ (Below.refl _ _) rfl
                    simp only [Act.put, List.setIfInBounds_toArray, List.set_cons_zero, List.set_cons_succ] at hh
                    exact hh
                  refine Rgn.AllOb.cons (j := 4) (by kernel_rfl) ?_ ?_
                  · refine' Rgn.ob_body (fr := _) ?hf_c3 ?h1_c3 ?h2_c3 ?h3_c3 ?h_c3
                    case hf_c3 => exact hfr
                    case h1_c3 => kernel_rfl
                    case h2_c3 => kernel_rfl
                    case h3_c3 => rfl
                    clear hfr
                    intro z w1 hb hd ho K hK
                    have e1 : z 1 = .slice (some ⟨b1, o1, none⟩) ln ca := hd.out 1 (by kernel_rfl)
                    have e2 : z 2 = .int .i64 (k : Int) := hd.out 2 (by kernel_rfl)
                    clear hd ho
                    go_simp
                    have hh := hK.out (.pointer (some ⟨b1, o1 + k * 2, none⟩)) _ (Below.refl _ _) rfl
                    simp only [Act.put, List.setIfInBounds_toArray, List.set_cons_zero, List.set_cons_succ, e1, e2] at hh
                    exact hh
                  refine Rgn.AllOb.cons (j := 5) (by kernel_rfl) ?_ ?_
                  · refine' Rgn.ob_body (fr := _) ?hf_c4 ?h1_c4 ?h2_c4 ?h3_c4 ?h_c4
                    case hf_c4 => exact hfr
                    case h1_c4 => kernel_rfl
                    case h2_c4 => kernel_rfl
                    case h3_c4 => rfl
                    clear hfr
                    intro z w1 hb hd ho K hK
                    have e3 : z 3 = .pointer (some ⟨b1, o1 + k * 2, none⟩) := hd.out 3 (by kernel_rfl)
                    clear hd ho
                    have x0 := c0.out w1 hb; have x1 := c1.out w1 hb
                    go_simp
                    have hh := hK.out (.agg #[.slice xa0 xl0 xc0, .slice xa1 xl1 xc1]) _ (Below.refl _ _) rfl
                    simp only [Act.put, List.setIfInBounds_toArray, List.set_cons_zero, List.set_cons_succ, e3] at hh
                    exact hh
                  refine Rgn.AllOb.cons (j := 6) (by kernel_rfl) ?_ ?_
                  · refine' Rgn.ob_body (fr := _) ?hf_c5 ?h1_c5 ?h2_c5 ?h3_c5 ?h_c5
                    case hf_c5 => exact hfr
                    case h1_c5 => kernel_rfl
                    case h2_c5 => kernel_rfl
                    case h3_c5 => rfl
                    clear hfr
                    intro z w1 hb hd ho K hK
                    clear hd ho
                    have x0 := dR0.out w1 hb; have x1 := dR1.out w1 hb
                    go_simp
                    have hh := hK.out (.agg #[.slice xa (dlen W32 X) xc, .slice ea (dlen W32 E) ec]) _ (Below.refl _ _) rfl
                    simp only [Act.put, List.setIfInBounds_toArray, List.set_cons_zero, List.set_cons_succ] at hh
                    exact hh
                  refine Rgn.AllOb.cons (j := 7) (by kernel_rfl) ?_ ?_
                  · refine' Rgn.ob_body (fr := _) ?hf_c6 ?h1_c6 ?h2_c6 ?h3_c6 ?h_c6
                    case hf_c6 => exact hfr
                    case h1_c6 => kernel_rfl
                    case h2_c6 => kernel_rfl
                    case h3_c6 => rfl
                    clear hfr
                    intro z w1 hb hd ho K hK
                    have e4 : z 4 = .agg #[.slice xa0 xl0 xc0, .slice xa1 xl1 xc1] := hd.out 4 (by kernel_rfl)
                    have e5 : z 5 = .agg #[.slice xa (dlen W32 X) xc, .slice ea (dlen W32 E) ec] := hd.out 5 (by kernel_rfl)
                    clear hd ho
                    go_simp
                    refine (ratioTimes _ _ _ _ (N1) (D1) (X) (E) _ (hx0.out.keep hb) (hx1.out.keep hb) (hX.out.keep hb) (hE.out.keep hb) (by omega) (by omega) (by omega) (by omega)).mono ?_
                    rintro e w2 ⟨p, q, rfl, hp, hq2, b⟩
                    have hh := hK.out _ _ b ⟨p, q, rfl, hp, hq2⟩
                    simp only [Act.put, List.setIfInBounds_toArray, List.set_cons_zero, List.set_cons_succ, e4, e5] at hh
                    exact hh
                  refine Rgn.AllOb.cons (j := 8) (by kernel_rfl) ?_ ?_
                  · refine' Rgn.ob_body (fr := _) ?hf_c7 ?h1_c7 ?h2_c7 ?h3_c7 ?h_c7
                    case hf_c7 => exact hfr
                    case h1_c7 => kernel_rfl
                    case h2_c7 => kernel_rfl
                    case h3_c7 => rfl
                    clear hfr
                    intro z w1 hb hd ho K hK
                    clear hd ho
                    go_simp
                    have hh := hK.out (.slice (some ⟨b2, o2, none⟩) ln cb) _ (Below.refl _ _) rfl
                    simp only [Act.put, List.setIfInBounds_toArray, List.set_cons_zero, List.set_cons_succ] at hh
                    exact hh
                  refine Rgn.AllOb.cons (j := 9) (by kernel_rfl) ?_ ?_
                  · refine' Rgn.ob_body (fr := _) ?hf_c8 ?h1_c8 ?h2_c8 ?h3_c8 ?h_c8
                    case hf_c8 => exact hfr
                    case h1_c8 => kernel_rfl
                    case h2_c8 => kernel_rfl
                    case h3_c8 => rfl
                    clear hfr
                    intro z w1 hb hd ho K hK
                    clear hd ho
                    go_simp
                    have hh := hK.out (.int .i64 (k : Int)) _ (Below.refl _ _) rfl
                    simp only [Act.put, List.setIfInBounds_toArray, List.set_cons_zero, List.set_cons_succ] at hh
                    exact hh
                  refine Rgn.AllOb.cons (j := 10) (by kernel_rfl) ?_ ?_
                  · refine' Rgn.ob_body (fr := _) ?hf_c9 ?h1_c9 ?h2_c9 ?h3_c9 ?h_c9
                    case hf_c9 => exact hfr
                    case h1_c9 => kernel_rfl
                    case h2_c9 => kernel_rfl
                    case h3_c9 => rfl
                    clear hfr
                    intro z w1 hb hd ho K hK
                    have e7 : z 7 = .slice (some ⟨b2, o2, none⟩) ln cb := hd.out 7 (by kernel_rfl)
                    have e8 : z 8 = .int .i64 (k : Int) := hd.out 8 (by kernel_rfl)
                    clear hd ho
                    go_simp
                    have hh := hK.out (.pointer (some ⟨b2, o2 + k * 2, none⟩)) _ (Below.refl _ _) rfl
                    simp only [Act.put, List.setIfInBounds_toArray, List.set_cons_zero, List.set_cons_succ, e7, e8] at hh
                    exact hh
                  refine Rgn.AllOb.cons (j := 11) (by kernel_rfl) ?_ ?_
                  · refine' Rgn.ob_body (fr := _) ?hf_c10 ?h1_c10 ?h2_c10 ?h3_c10 ?h_c10
                    case hf_c10 => exact hfr
                    case h1_c10 => kernel_rfl
                    case h2_c10 => kernel_rfl
                    case h3_c10 => rfl
                    clear hfr
                    intro z w1 hb hd ho K hK
                    have e9 : z 9 = .pointer (some ⟨b2, o2 + k * 2, none⟩) := hd.out 9 (by kernel_rfl)
                    clear hd ho
                    have x0 := c2.out w1 hb; have x1 := c3.out w1 hb
                    go_simp
                    have hh := hK.out (.agg #[.slice ya0 yl0 yc0, .slice ya1 yl1 yc1]) _ (Below.refl _ _) rfl
                    simp only [Act.put, List.setIfInBounds_toArray, List.set_cons_zero, List.set_cons_succ, e9] at hh
                    exact hh
                  refine Rgn.AllOb.cons (j := 12) (by kernel_rfl) ?_ ?_
                  · refine' Rgn.ob_body (fr := _) ?hf_c11 ?h1_c11 ?h2_c11 ?h3_c11 ?h_c11
                    case hf_c11 => exact hfr
                    case h1_c11 => kernel_rfl
                    case h2_c11 => kernel_rfl
                    case h3_c11 => rfl
                    clear hfr
                    intro z w1 hb hd ho K hK
                    clear hd ho
                    have x0 := dO0.out w1 hb; have x1 := dO1.out w1 hb
                    go_simp
                    have hh := hK.out (.agg #[.slice ra rl rc, .slice ta tl tc]) _ (Below.refl _ _) rfl
                    simp only [Act.put, List.setIfInBounds_toArray, List.set_cons_zero, List.set_cons_succ] at hh
                    exact hh
                  refine Rgn.AllOb.cons (j := 13) (by kernel_rfl) ?_ ?_
                  · refine' Rgn.ob_body (fr := _) ?hf_c12 ?h1_c12 ?h2_c12 ?h3_c12 ?h_c12
                    case hf_c12 => exact hfr
                    case h1_c12 => kernel_rfl
                    case h2_c12 => kernel_rfl
                    case h3_c12 => rfl
                    clear hfr
                    intro z w1 hb hd ho K hK
                    have e10 : z 10 = .agg #[.slice ya0 yl0 yc0, .slice ya1 yl1 yc1] := hd.out 10 (by kernel_rfl)
                    have e11 : z 11 = .agg #[.slice ra rl rc, .slice ta tl tc] := hd.out 11 (by kernel_rfl)
                    clear hd ho
                    go_simp
                    refine (ratioTimes _ _ _ _ (N2) (D2) (1 * E - X * 1) (1 * E) _ (hy0.out.keep hb) (hy1.out.keep hb) (hR.out.keep hb) (hT.out.keep hb) (by omega) (by omega) (by omega) (by omega)).mono ?_
                    rintro e w2 ⟨p, q, rfl, hp, hq2, b⟩
                    have hh := hK.out _ _ b ⟨p, q, rfl, hp, hq2⟩
                    simp only [Act.put, List.setIfInBounds_toArray, List.set_cons_zero, List.set_cons_succ, e10, e11] at hh
                    exact hh
                  refine Rgn.AllOb.cons (j := 14) (by kernel_rfl) ?_ ?_
                  · refine' Rgn.ob_body (fr := _) ?hf_c13 ?h1_c13 ?h2_c13 ?h3_c13 ?h_c13
                    case hf_c13 => exact hfr
                    case h1_c13 => kernel_rfl
                    case h2_c13 => kernel_rfl
                    case h3_c13 => rfl
                    clear hfr
                    intro z w1 hb hd ho K hK
                    have e6 : ∃ p q, (z 6) = .agg #[p, q] ∧ LongI w1 p (N1 * X) ∧ LongI w1 q (D1 * E) := hd.out 6 (by kernel_rfl)
                    have e12 : ∃ p q, (z 12) = .agg #[p, q] ∧ LongI w1 p (N2 * (1 * E - X * 1)) ∧ LongI w1 q (D2 * (1 * E)) := hd.out 12 (by kernel_rfl)
                    clear hd ho
                    go_simp
                    obtain ⟨p6, q6, e6, hp6, hq6⟩ := e6
                    obtain ⟨p7, q7, e12, hp7, hq7⟩ := e12
                    simp only [e6, e12]
                    refine (ratioPlus _ _ _ _ (N1 * X) (D1 * E) (N2 * (1 * E - X * 1)) (D2 * (1 * E)) _ hp6 hq6 hp7 hq7 (by omega) (by omega) (by omega) (by omega)).mono ?_
                    rintro e w2 ⟨p, q, rfl, hp, hq2, b⟩
                    have hh := hK.out _ _ b ⟨p, q, rfl, hp, hq2⟩
                    simp only [Act.put, List.setIfInBounds_toArray, List.set_cons_zero, List.set_cons_succ, e6, e12] at hh
                    exact hh
                  refine Rgn.AllOb.cons (j := 15) (by kernel_rfl) ?_ ?_
                  · refine' Rgn.ob_body (fr := _) ?hf_c14 ?h1_c14 ?h2_c14 ?h3_c14 ?h_c14
                    case hf_c14 => exact hfr
                    case h1_c14 => kernel_rfl
                    case h2_c14 => kernel_rfl
                    case h3_c14 => rfl
                    clear hfr
                    intro z w1 hb hd ho K hK
                    have e13 : ∃ p q, (z 13) = .agg #[p, q] ∧ LongI w1 p (N1 * X * (D2 * (1 * E)) + N2 * (1 * E - X * 1) * (D1 * E)) ∧ LongI w1 q (D1 * E * (D2 * (1 * E))) := hd.out 13 (by kernel_rfl)
                    clear hd ho
                    go_simp
                    obtain ⟨p, q, e13, hp, hq2⟩ := e13
                    obtain ⟨pa, pn, pc, rfl⟩ := likeI.shape hp
                    obtain ⟨qa, qn, qc, rfl⟩ := likeI.shape hq2
                    rw [e13]
                    go_simp
                    have hh := hK.out (.slice (some ⟨w1.heap.size, 0, none⟩) 1 1) _ (below1 _ (.cells #[.slice pa pn pc, .slice qa qn qc] 72)) ⟨_, _, _, rfl, Blk.new _ _ _, hp.keep (below1 _ _), hq2.keep (below1 _ _)⟩
                    simp only [Act.put, List.setIfInBounds_toArray, List.set_cons_zero, List.set_cons_succ, e13] at hh
                    exact hh
                  refine Rgn.AllOb.cons (j := 16) (by kernel_rfl) ?_ ?_
                  · refine' Rgn.ob_tail0 (fr := _) ?hf_c15 ?h1_c15 ?h3_c15 ?h_c15
                    case hf_c15 => exact hfr
                    case h1_c15 => kernel_rfl
                    case h3_c15 => rfl
                    clear hfr
                    intro z w1 hb hf hd ho K hK
                    have e0 : z 0 = .slice a k c := hd.out 0 rfl (by kernel_rfl)
                    obtain ⟨b, p, q, e14, hXb, hp, hq2⟩ : ∃ b p q, z 14 = .slice (some ⟨b, 0, none⟩) 1 1 ∧ Blk w1 b #[p, q] 72 ∧ LongI w1 p (N1 * X * (D2 * (1 * E)) + N2 * (1 * E - X * 1) * (D1 * E)) ∧ LongI w1 q (D1 * E * (D2 * (1 * E))) := hf.out 14 (by decide) rfl rfl
                    refine wp_append_pair (ops := #[]) (w0 := w6) rfl _ _ rfl w6.heap.size (.slice a k c) (PL.take k) (hmade.out.keep likeI hb) (by simp [Act.eval, e0]) b 1 p q (N1 * X * (D2 * (1 * E)) + N2 * (1 * E - X * 1) * (D1 * E)) (D1 * E * (D2 * (1 * E))) (by simp [Act.eval, e14]) hXb hp hq2 (by rw [hkl.out]; omega) (by have := bel.out.size; have := hb.size; omega) (below_wt bel.out hb) ?_
                    intro g cap w2 hM b2
                    rw [hkl.out] at hM ⊢
                    have hh := hK.out (.slice (some ⟨g, 0, none⟩) (k + 1) cap) _ ⟨g, cap, rfl, hM, b2, (fun h => absurd h (by decide))⟩
                    exact hh
                  refine Rgn.AllOb.cons (j := 17) (by kernel_rfl) ?_ ?_
                  · refine' Rgn.ob_tail (fr := _) ?hf_c16 ?h1_c16 ?h3_c16 ?hp_c16 ?h4_c16 ?h_c16
                    case hp_c16 => exact 1
                    case hf_c16 => exact hfr
                    case h1_c16 => kernel_rfl
                    case h3_c16 => rfl
                    case h4_c16 => kernel_rfl
                    clear hfr
                    intro z w1 hT hd ho K hK
                    obtain ⟨g, cap, e15, hM, bb, _⟩ := hT
                    replace e15 : z 15 = .slice (some ⟨g, 0, none⟩) (k + 1) cap := e15
                    clear hd ho
                    go_simp
                    have hh := hK.out (.slice (some ⟨g, 0, none⟩) (k + 1) cap) _ ⟨g, cap, e15, hM, bb, fun _ => rfl⟩
                    simp only [Act.put, List.setIfInBounds_toArray, List.set_cons_zero, List.set_cons_succ, e15] at hh
                    first | exact hh | (simp only [e15]; exact hh)
                  exact Rgn.AllOb.nil
                case hend_c =>
                  intro hfr
                  refine' Rgn.end_tails (fr := _) ?g1_c ?g2_c ?g3_c
                  case g1_c => exact hfr
                  case g2_c => rfl
                  clear hfr
                  intro z w7 hT hg
                  obtain ⟨g, cap, e15, hM, bb, e16⟩ := hT
                  replace e16 : z 16 = .slice (some ⟨g, 0, none⟩) (k + 1) cap := e16 rfl
                  simp only [e16]
                  have hnew := Lib.hid hM
                  have bn := Lib.hid bb
                  clear e15 e16 hg hM bb hmade bel
                  go_wp2
                  go_roundw
                  case rel => exact ⟨k + 1, _, _, by have := hlt'.out; omega, by go_num, rfl, by rw [hnx.out]; exact hnew, bn⟩
                  case measure => have := hlt'.out; simp [intOf]; omega
              · obtain rfl : k = ln := by omega
                have hd := hmade.out.done
                rw [hall.out] at hd
                have BW := Lib.hid (below_wt B6b.out bel.out)
                have hwf := Lib.hid (writeFractions_any (.slice a k c) PL wr hd hden.out sz.out (by rw [pl.out]; omega) (htab'.out.keep BW.out))
                have hlt' : ¬ (k : Int) < (k : Int) := by omega
                clear hd hmade bel hlt hM1 hM2 eR0 eR1 hOx hR0 hT0 hX hE nx sz hden hall hkl0 s1 s2
                go_wp2_with fail
                (with_reducible refine hwf.out.mono ?_)
                rintro e w7 ⟨v, rfl, hown, b7⟩
                have hfin := Lib.hid (hown.wide (lo' := w.heap.size) (hi' := w7.heap.size) BW.out.size (Nat.le_refl _))
                have Bf := Lib.hid (below_wt BW.out b7)
                clear hown b7 hwf
                go_wp2
                go_ret2
                exact ⟨v, by rw [hvl.out]; rfl, by rw [hvl.out]; exact hfin.out, Bf.out⟩
    · have hr := Lib.hid (mixR_len (s := (sn, sd)) hok (by rw [← hnp'.out, ← hnq'.out]; exact hlen))
      rw [ho1, ho2, ho3]
      have hd1 : ¬ (np : Int) = (nq : Int) := by omega
      clear ho1 ho2 ho3 hok hval' hvl2' hvl3' hXb b12 b23
      go_wp2
      go_ret2
      exact ⟨.slice none 0 0, by rw [hr.out]; rfl, by rw [hr.out]; exact frOwn_nil _ _ _, B3b.out⟩
end Go.Proofs.YtcbpbhaimjhelaaGreatDoor
