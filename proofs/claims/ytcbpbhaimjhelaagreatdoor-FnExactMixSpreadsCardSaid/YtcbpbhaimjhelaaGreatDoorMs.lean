/- MixSpreads of the specification. Conditions: told by the code. -/
import Derived.Test.YtcbpbhaimjhelaaGreatDoorMx
import Derived.Test.YtcbpbhaimjhelaaGreatDoorVec
import Derived.Test.YtcbpbhaimjhelaaGreatDoorFsG
namespace Go.Proofs.YtcbpbhaimjhelaaGreatDoor
open Go.RowKit Go.Deep
set_option linter.unusedVariables false
set_option linter.unusedSimpArgs false

/-- what MixSpreads hands back -/
def mixR (p q : List (ByteArray × ByteArray)) (s : ByteArray × ByteArray) : List (ByteArray × ByteArray) × Int :=
  if (spreadB p && (spreadB q && frOk s.1 s.2)) = true then (if p.length = q.length then (if numV s.2 < numV s.1 then ([], 4)
    else (ratT (mixP (numP p) (numP q) (numV s.1) (numV s.2)), ratC (mixP (numP p) (numP q) (numV s.1) (numV s.2)))) else ([], 2)) else ([], 1)
theorem spreadB_frs' {p : List (ByteArray × ByteArray)} (h : spreadB p = true) : frsOk p = true ∧ 1 ≤ p.length ∧ p.length ≤ 6 := by
  unfold spreadB at h
  simp only [Bool.and_eq_true, decide_eq_true_eq] at h
  exact ⟨h.2.1, h.1⟩
structure MixF (p q : List (ByteArray × ByteArray)) (s : ByteArray × ByteArray) (n : Nat) (R1 R2 : List Nat) (DA DB X E : Nat) (MN : List Nat) : Prop where
  n6 : n ≤ 6
  l1 : R1.length = n
  l2 : R2.length = n
  s1 : ∀ i, i < n → dlen B9 (R1.getD i 0) ≤ 3300
  s2 : ∀ i, i < n → dlen B9 (R2.getD i 0) ≤ 3300
  d1 : dlen B9 DA ≤ 3000
  d2 : dlen B9 DB ≤ 3000
  x1 : dlen B9 X ≤ 300
  x2 : dlen B9 E ≤ 300
  pos : 0 < E * (DA * DB)
  len : MN.length = n
  nx : ∀ k, k < n → MN.take (k + 1) = MN.take k ++ [X * (R1.getD k 0 * DB) + (E - X) * (R2.getD k 0 * DA)]
  sz : ∀ i, i < MN.length → dlen B9 (MN.getD i 0) ≤ 100000
  val : mixR p q s = (vecT MN (E * (DA * DB)), vecC MN (E * (DA * DB)))
theorem mixF_of (p q : List (ByteArray × ByteArray)) (s : ByteArray × ByteArray) (h1 : spreadB p = true) (h2 : spreadB q = true) (h3 : frOk s.1 s.2 = true) (hl : p.length = q.length) (hle : ¬ numV s.2 < numV s.1) :
    ∃ MN, MixF p q s p.length (comN (comD (numP p)) (numP p)) (comN (comD (numP q)) (numP q)) (comD (numP p)) (comD (numP q)) (numV s.1) (numV s.2) MN := by
  obtain ⟨f1, a1, a2⟩ := spreadB_frs' h1
  obtain ⟨f2, _, _⟩ := spreadB_frs' h2
  have pl := numP_length p
  have ql := numP_length q
  have e1 := comD_len9 (numP p) 300 (numP_len9 f1)
  have e2 := comD_len9 (numP q) 300 (numP_len9 f2)
  have g1 : dlen B9 (comD (numP p)) ≤ 3000 := by rw [pl] at e1; omega
  have g2 : dlen B9 (comD (numP q)) ≤ 3000 := by rw [ql] at e2; omega
  have r1 := comN_len (numP p) 300 _ 3000 (numP_len9 f1) g1
  have r2 := comN_len (numP q) 300 _ 3000 (numP_len9 f2) g2
  have p1 := comD_pos (numP p) (numP_den f1) _ (Nat.le_refl _)
  have p2 := comD_pos (numP q) (numP_den f2) _ (Nat.le_refl _)
  rw [List.take_length] at p1 p2
  have L1 : (comN (comD (numP p)) (numP p)).length = p.length := by rw [comN_length, pl]
  have L2 : (comN (comD (numP q)) (numP q)).length = p.length := by rw [comN_length, ql, hl]
  obtain ⟨n1, n2⟩ := frOk_num h3
  have e0 := frOk_den0 h3
  obtain ⟨v1, v2⟩ := mix_same (numP p) (numP q) (numV s.1) (numV s.2) e0 (by rw [pl, ql, hl]) (numP_den f1) (numP_den f2)
  have hval : mixR p q s = (ratT (mixP (numP p) (numP q) (numV s.1) (numV s.2)), ratC (mixP (numP p) (numP q) (numV s.1) (numV s.2))) := by
    unfold mixR; rw [if_pos (by rw [h1, h2, h3]; rfl), if_pos hl, if_neg hle]
  rw [v1, v2] at hval
  have LM : (mixN (comN (comD (numP p)) (numP p)) (comN (comD (numP q)) (numP q)) (comD (numP p)) (comD (numP q)) (numV s.1) (numV s.2)).length = p.length := by rw [mixN_length, L1]
  refine ⟨_, ⟨a2, L1, L2, fun i hi => r1 i (by rw [L1]; exact hi), fun i hi => r2 i (by rw [L2]; exact hi), g1, g2, numV_len9 n1, numV_len9 n2, Nat.mul_pos e0 (Nat.mul_pos p1 p2), LM, fun k hk => mixN_take _ _ _ _ _ _ _ (by rw [L1]; exact hk), fun i hi => ?_, hval⟩⟩
  rw [LM] at hi
  rw [mixN_get _ _ _ _ _ _ _ (by rw [L1]; exact hi)]
  have u1 := mul_dlen' (numV_len9 n1) (mul_dlen' (r1 i (by rw [L1]; exact hi)) g2)
  have u2 := mul_dlen' (Nat.le_trans (dlen_mono b9 (Nat.sub_le (numV s.2) (numV s.1))) (numV_len9 n2)) (mul_dlen' (r2 i (by rw [L2]; exact hi)) g1)
  have := plus_len b9 (Nat.le_trans u1 (show _ ≤ 10000 by omega)) (Nat.le_trans u2 (show _ ≤ 10000 by omega))
  omega
theorem mixR_bad {p q : List (ByteArray × ByteArray)} {s : ByteArray × ByteArray} (h : (spreadB p && (spreadB q && frOk s.1 s.2)) = false) : mixR p q s = ([], 1) := by
  unfold mixR; rw [if_neg (by rw [h]; decide)]
theorem mixR_len {p q : List (ByteArray × ByteArray)} {s : ByteArray × ByteArray} (h : (spreadB p && (spreadB q && frOk s.1 s.2)) = true) (hl : ¬ p.length = q.length) : mixR p q s = ([], 2) := by
  unfold mixR; rw [if_pos h, if_neg hl]
theorem mixR_big {p q : List (ByteArray × ByteArray)} {s : ByteArray × ByteArray} (h : (spreadB p && (spreadB q && frOk s.1 s.2)) = true) (hl : p.length = q.length) (hb : numV s.2 < numV s.1) : mixR p q s = ([], 4) := by
  unfold mixR; rw [if_pos h, if_pos hl, if_pos hb]
theorem frOwn_none (w : World) (B hi : Nat) (h1 : B ≤ w.heap.size) (h2 : w.heap.size < hi) : FrOwn (w.alloc (.cells #[] 25)) B hi (.slice (some ⟨w.heap.size, 0, none⟩) 0 0) [] :=
  ⟨by simp, Or.inr ⟨w.heap.size, 0, #[], rfl, h1, h2, Blk.new _ _ _, by simp, fun i hi => by simp at hi⟩⟩

set_option maxRecDepth 100000 in
set_option maxHeartbeats 40000000 in
theorem MixSpreads_spec (v1 v2 : Value) (p q : List (ByteArray × ByteArray)) (sn sd : ByteArray) (w : World) (h1 : FrL w v1 p) (h2 : FrL w v2 q) :
    Calls Tryz.prog 31 #[v1, v2, .agg #[.string sn, .string sd]] w fun e w' => ∃ v, e = .returned (.tuple #[v, .int .i64 (mixR p q (sn, sd)).2]) ∧ FrOwn w' w.heap.size w'.heap.size v (mixR p q (sn, sd)).1 ∧ Below w.heap.size w w' := by
  obtain ⟨hm1, va, vc, rfl, _⟩ := id h1
  obtain ⟨hm2, ua, uc, rfl, _⟩ := id h2
  unfold maxLen at hm1 hm2
  have b0 := below1 w (.cells #[.string sn, .string sd] 25)
  have hS := Blk.new w #[.string sn, .string sd] 25
  have hs := Lib.hid (l01Spread_any (.slice va p.length vc) p _ (h1.keep b0))
  have h2' := Lib.hid (h2.keep b0)
  have hpf := Lib.hid (fun W => parse_form sn sd W)
  obtain ⟨np, hnp⟩ : ∃ n, n = p.length := ⟨_, rfl⟩
  obtain ⟨nq, hnq⟩ : ∃ n, n = q.length := ⟨_, rfl⟩
  rw [← hnp] at hm1 hs ⊢
  rw [← hnq] at hm2 h2' ⊢
  have hnp' := Lib.hid hnp
  have hnq' := Lib.hid hnq
  clear h1 h2 hnp hnq
  go_enter Tryz.func31, Tryz.ntmps31
  go_wp2_with fail
  (with_reducible refine hs.out.mono ?_)
  rintro e w1 ⟨pa, qa, pn, pc, ql, qc, rfl, b1, hval⟩
  have bx := below1 w1 (.cells #[.slice pa pn pc, .slice qa ql qc] 104)
  have hA := Blk.new w1 #[.slice pa pn pc, .slice qa ql qc] 104
  have hl := Lib.hid (l01Spread_any (.slice ua nq uc) q _ (by rw [hnq'.out] at h2' ⊢; exact (h2'.out.keep b1).keep bx))
  have hval' := Lib.hid hval
  have hS1 := (hS.keep b1 hS.lt).keep bx (hS.keep b1 hS.lt).lt
  have B1b := Lib.hid (below_wt (below_wt b0 b1) bx)
  clear hval hS b0 b1 hs h2' bx
  go_wp2_with fail
  (with_reducible refine hl.out.mono ?_)
  rintro e w2 ⟨ra, ta, rn, rc, tl, tc, rfl, b2, hvl2⟩
  have by2 := below1 w2 (.cells #[.slice ra rn rc, .slice ta tl tc] 104)
  have hBb := Blk.new w2 #[.slice ra rn rc, .slice ta tl tc] 104
  have hvl2' := Lib.hid hvl2
  have hS2 := (hS1.keep b2 hS1.lt).keep by2 (hS1.keep b2 hS1.lt).lt
  have hA2 := (hA.keep b2 hA.lt).keep by2 (hA.keep b2 hA.lt).lt
  have bA := Lib.hid (below_wt (below1 w1 (.cells #[.slice pa pn pc, .slice qa ql qc] 104)) (below_wt b2 by2))
  have B2b := Lib.hid (below_wt (below_wt B1b.out b2) by2)
  have hneA : w1.heap.size ≠ w2.heap.size := Nat.ne_of_lt (hA.keep b2 hA.lt).lt
  clear hvl2 hS1 hA b2 by2 hl B1b
  obtain ⟨q0, q1⟩ := (⟨hS2.cell 0, hS2.cell 1⟩ : _ ∧ _)
  simp only [List.getElem?_toArray, List.getElem?_cons_zero, List.getElem?_cons_succ] at q0 q1
  go_wp2_with fail
  (with_reducible refine (hpf.out _).mono ?_)
  rintro e w3 ⟨xa, ea, xl, el, xc, ec, rfl, b3, hvl3⟩
  have by3 := below1 w3 (.cells #[.slice xa xl xc, .slice ea el ec] 79)
  have hXb := Blk.new w3 #[.slice xa xl xc, .slice ea el ec] 79
  have hvl3' := Lib.hid hvl3
  have b23 := Lib.hid (below_wt b3 by3)
  have B3b := Lib.hid (below_wt (below_wt B2b.out b3) by3)
  have hA3 := (hA2.keep b3 hA2.lt).keep by3 (hA2.keep b3 hA2.lt).lt
  have hB3 := (hBb.keep b3 hBb.lt).keep by3 (hBb.keep b3 hBb.lt).lt
  clear q0 q1 hS2 hA2 hBb hvl3 b3 by3 hpf B2b
  rcases hok : (spreadB p && (spreadB q && frOk sn sd)) with _ | _
  · have hr := Lib.hid (mixR_bad (s := (sn, sd)) hok)
    have hfin := Lib.hid (frOwn_none (w3.alloc (.cells #[.slice xa xl xc, .slice ea el ec] 79)) w.heap.size _ B3b.out.size (by simp) : FrOwn _ w.heap.size ((w3.alloc (.cells #[.slice xa xl xc, .slice ea el ec] 79)).alloc (.cells #[] 25)).heap.size _ [])
    have Bf := Lib.hid (below_wt B3b.out (below1 _ (.cells #[] 25)))
    clear hval' hvl2' hvl3' hXb hA3 hB3 bA b23
    simp only [World.size_alloc] at hfin
    rcases ho1 : spreadB p with _ | _
    · clear hok
      go_wp2
      go_ret2
      exact ⟨.slice (some ⟨w3.heap.size + 1, 0, none⟩) 0 0, by rw [hr.out]; rfl, by rw [hr.out]; have := hfin.out; simpa using this, Bf.out⟩
    · rw [ho1] at hok
      rcases ho2 : spreadB q with _ | _
      · clear hok
        go_wp2
        go_ret2
        exact ⟨.slice (some ⟨w3.heap.size + 1, 0, none⟩) 0 0, by rw [hr.out]; rfl, by rw [hr.out]; have := hfin.out; simpa using this, Bf.out⟩
      · rw [ho2] at hok
        have ho3 : frOk sn sd = false := by simpa using hok
        rw [ho3]
        clear hok ho3
        go_wp2
        go_ret2
        exact ⟨.slice (some ⟨w3.heap.size + 1, 0, none⟩) 0 0, by rw [hr.out]; rfl, by rw [hr.out]; have := hfin.out; simpa using this, Bf.out⟩
  · obtain ⟨ho1, ho2, ho3⟩ : spreadB p = true ∧ spreadB q = true ∧ frOk sn sd = true := by simpa using hok
    by_cases hlen : np = nq
    · skip
      obtain ⟨hrow, hden⟩ := hval'.out ho1
      obtain ⟨hrow2, hden2⟩ := hvl2'.out ho2
      obtain ⟨-, -, hX, hE⟩ := hvl3'.out ho3
      have hlen2 : p.length = q.length := by rw [← hnp'.out, ← hnq'.out]; exact hlen
      have by3 := below1 w3 (.cells #[.slice xa xl xc, .slice ea el ec] 79)
      replace hX := hX.keep by3
      replace hE := hE.keep by3
      have hok' := hok
      rw [ho1, ho2, ho3]
      obtain ⟨x0, x1⟩ := (⟨hXb.cell 0, hXb.cell 1⟩ : _ ∧ _)
      simp only [List.getElem?_toArray, List.getElem?_cons_zero, List.getElem?_cons_succ] at x0 x1
      have hcm := Lib.hid (l01Cmp_bel _ _ (numV sn) (numV sd) _ hX hE)
      have hmf := Lib.hid (fun hle => mixF_of p q (sn, sd) ho1 ho2 ho3 hlen2 hle)
      obtain rfl : np = nq := hlen
      by_cases hgt : numV sd < numV sn
      · have hr := Lib.hid (mixR_big (s := (sn, sd)) hok' hlen2 hgt)
        rw [cmpI_gt hgt] at hcm
        clear ho1 ho2 ho3 hok hok' hval' hvl2' hvl3' hA3 hB3 bA b23 hlen2 hmf hrow hrow2 hden hden2 hX hE
        go_wp2_with fail
        (with_reducible refine hcm.out.mono ?_)
        rintro e w4 ⟨rfl, b4⟩
        have hfin := frOwn_none w4 w.heap.size (w4.heap.size + 1) (below_wt B3b.out b4).size (by omega)
        have Bf := Lib.hid (below_wt (below_wt B3b.out b4) (below1 w4 (.cells #[] 25)))
        replace hfin := Lib.hid hfin
        clear x0 x1 hcm b4
        go_wp2
        go_ret2
        exact ⟨.slice (some ⟨w4.heap.size, 0, none⟩) 0 0, by rw [hr.out]; rfl, by rw [hr.out]; have := hfin.out; simpa using this, Bf.out⟩
      · obtain ⟨MN, n6, l1, l2, s1, s2, d1, d2, u1, u2, pos, mlen, nx, msz, hvl⟩ := hmf.out hgt
        have hpn : pn = np := by
          obtain ⟨a', c', e⟩ := hrow.shape
          injection e with _ e2 _
          rw [e2, l1, hnp'.out]
        have hrn : rn = np := by
          obtain ⟨a', c', e⟩ := hrow2.shape
          injection e with _ e2 _
          rw [e2, l2, hnp'.out]
        subst hpn
        obtain rfl : rn = pn := hrn
        rw [← hnp'.out] at n6 l1 l2 s1 s2 nx mlen
        have hc0 : ¬ (0 : Int) < cmpI (numV sn) (numV sd) := by unfold cmpI; split <;> (try split) <;> omega
        obtain ⟨X, hXe⟩ : ∃ X, numV sn = X := ⟨_, rfl⟩
        obtain ⟨E, hEe⟩ : ∃ E, numV sd = E := ⟨_, rfl⟩
        simp only [hXe, hEe] at hX hE hcm hgt u1 u2 pos nx msz hvl hc0
        obtain ⟨R1, hR1⟩ : ∃ R, comN (comD (numP p)) (numP p) = R := ⟨_, rfl⟩
        obtain ⟨R2, hR2⟩ : ∃ R, comN (comD (numP q)) (numP q) = R := ⟨_, rfl⟩
        rw [hR1] at hrow l1 s1 nx
        rw [hR2] at hrow2 l2 s2 nx
        obtain ⟨DA, hDAe⟩ : ∃ D, comD (numP p) = D := ⟨_, rfl⟩
        obtain ⟨DB, hDBe⟩ : ∃ D, comD (numP q) = D := ⟨_, rfl⟩
        rw [hDAe] at hden d1 pos nx hvl
        rw [hDBe] at hden2 d2 pos nx hvl
        replace nx := Lib.hid nx; replace s1 := Lib.hid s1; replace s2 := Lib.hid s2; replace l1 := Lib.hid l1; replace l2 := Lib.hid l2; replace msz := Lib.hid msz; replace mlen := Lib.hid mlen; replace hvl := Lib.hid hvl; replace pos := Lib.hid pos
        have hXx := Lib.hid hX
        have hEx := Lib.hid hE
        replace hc0 := Lib.hid hc0
        obtain ⟨CC, hCC⟩ : ∃ c, cmpI X E = c := ⟨_, rfl⟩
        rw [hCC] at hcm hc0
        replace hden := Lib.hid (hden.keep (below_wt bA.out b23.out))
        replace hrow := Lib.hid (hrow.keep likeS (below_wt bA.out b23.out))
        replace hden2 := Lib.hid (hden2.keep (below_wt (below1 w2 (.cells #[.slice ra rn rc, .slice ta tl tc] 104)) b23.out))
        replace hrow2 := Lib.hid (hrow2.keep likeS (below_wt (below1 w2 (.cells #[.slice ra rn rc, .slice ta tl tc] 104)) b23.out))
        clear hCC hR1 hR2 hDAe hDBe hXe hEe ho1 ho2 ho3 hok hok' hval' hvl2' hvl3' hlen2 hmf hX hE bA b23
        go_wp2_with fail
        (with_reducible refine hcm.out.mono ?_)
        rintro e w4 ⟨rfl, b4⟩
        have hXb4 := hXb.keep b4 hXb.lt
        have hA4 := hA3.keep b4 hA3.lt
        have hB4 := hB3.keep b4 hB3.lt
        have hle := Lib.hid (l01Less_any _ _ E X w4 (hEx.out.keep b4) (hXx.out.keep b4) (by omega) (by omega))
        replace hrow := Lib.hid (hrow.out.keep likeS b4)
        replace hrow2 := Lib.hid (hrow2.out.keep likeS b4)
        replace hden := Lib.hid (hden.out.keep b4)
        replace hden2 := Lib.hid (hden2.out.keep b4)
        replace hXx := Lib.hid (hXx.out.keep b4)
        replace hEx := Lib.hid (hEx.out.keep b4)
        have B4b := Lib.hid (below_wt B3b.out b4)
        have hc1 := hc0.out
        obtain ⟨x0, x1⟩ := (⟨hXb4.cell 0, hXb4.cell 1⟩ : _ ∧ _)
        simp only [List.getElem?_toArray, List.getElem?_cons_zero, List.getElem?_cons_succ] at x0 x1
        clear hcm b4 hXb hA3 hB3 B3b by3 hc0
        go_wp2_with fail
        (with_reducible refine hle.out.mono ?_)
        rintro e V ⟨gv, rfl, hRs, b5⟩
        obtain ⟨_, ga, gc, rfl⟩ := hRs.len
        obtain ⟨gl, hgl⟩ : ∃ l, dlen B9 (E - X) = l := ⟨_, rfl⟩
        rw [hgl] at hRs ⊢
        have v1 := dlen_mono b9 (Nat.sub_le E X)
        clear hgl
        have hRest := Lib.hid hRs
        have hXb5 := hXb4.keep b5 hXb4.lt
        have hA5 := hA4.keep b5 hA4.lt
        have hB5 := hB4.keep b5 hB4.lt
        replace hrow := Lib.hid (hrow.out.keep likeS b5)
        replace hrow2 := Lib.hid (hrow2.out.keep likeS b5)
        have hDA := Lib.hid (hden.out.keep b5)
        have hDB := Lib.hid (hden2.out.keep b5)
        have hX := Lib.hid (hXx.out.keep b5)
        have hE := Lib.hid (hEx.out.keep b5)
        have BV := Lib.hid (below_wt B4b.out b5)
        generalize w1.heap.size = BA at *
        generalize w2.heap.size = BB at *
        generalize w3.heap.size = BX at *
        have cX0 := Lib.hid (fun w1 (hb : Below V.heap.size V w1) => (show w1.cell? ⟨BX, 0, none⟩ = some (.slice xa xl xc) from (hXb5.keep hb hXb5.lt).cell 0))
        have cX1 := Lib.hid (fun w1 (hb : Below V.heap.size V w1) => (show w1.cell? ⟨BX, 1, none⟩ = some (.slice ea el ec) from (hXb5.keep hb hXb5.lt).cell 1))
        have cA0 := Lib.hid (fun w1 (hb : Below V.heap.size V w1) => (show w1.cell? ⟨BA, 0, none⟩ = some (.slice pa rn pc) from (hA5.keep hb hA5.lt).cell 0))
        have cA1 := Lib.hid (fun w1 (hb : Below V.heap.size V w1) => (show w1.cell? ⟨BA, 1, none⟩ = some (.slice qa ql qc) from (hA5.keep hb hA5.lt).cell 1))
        have cB0 := Lib.hid (fun w1 (hb : Below V.heap.size V w1) => (show w1.cell? ⟨BB, 0, none⟩ = some (.slice ra rn rc) from (hB5.keep hb hB5.lt).cell 0))
        have cB1 := Lib.hid (fun w1 (hb : Below V.heap.size V w1) => (show w1.cell? ⟨BB, 1, none⟩ = some (.slice ta tl tc) from (hB5.keep hb hB5.lt).cell 1))
        have t1 := mul_dlen' d1 d2
        have t2 := mul_dlen' u2 t1
        clear x0 x1 hRs b5 hXb4 hA4 hB4 hle B4b hXx hEx hden hden2 hneA hXb5 hA5 hB5
        go_upto_region 11 with fail
        refine' Rgn.region_by (fun i => match i with | 10 => 1 | _ => 0) 1 (fun _ => false) (fun i _ v w' => match i with
            | 0 => v = .pointer (some ⟨BX, 1, none⟩)
            | 1 => v = .slice ea el ec
            | 2 => v = .pointer (some ⟨BA, 1, none⟩)
            | 3 => v = .slice qa ql qc
            | 4 => v = .pointer (some ⟨BB, 1, none⟩)
            | 5 => v = .slice ta tl tc
            | 6 => LongS w' v (DA * DB)
            | 7 => LongS w' v (E * (DA * DB))
            | 8 => ∃ d, v = .agg #[.slice none 0 0, d] ∧ LongS w' d (E * (DA * DB))
            | 9 => ∃ B : Nat, v = .pointer (some ⟨B, 0, none⟩) ∧ V.heap.size ≤ B ∧ Blk w' B #[.slice none 0 0, .slice none 0 0] 104
            | _ => True) (fun i _ v => match i with
            | 0 => v = .pointer (some ⟨BX, 1, none⟩)
            | 1 => v = .slice ea el ec
            | 2 => v = .pointer (some ⟨BA, 1, none⟩)
            | 3 => v = .slice qa ql qc
            | 4 => v = .pointer (some ⟨BB, 1, none⟩)
            | 5 => v = .slice ta tl tc
            | 6 => True
            | 7 => True
            | 8 => True
            | 9 => True
            | _ => True)
            (fun p z w' => ∃ (O : Nat) (da : Option Addr) (dl dc : Nat), z 9 = .pointer (some ⟨O, 0, none⟩) ∧ V.heap.size ≤ O ∧ Blk w' O #[.slice none 0 0, .slice da dl dc] 104 ∧ LongS w' (.slice da dl dc) (E * (DA * DB)) ∧ Below V.heap.size V w') (by kernel_rfl) (by kernel_rfl) (by kernel_rfl) ?hst_a ?hG_a _ ?hfr_a ?hob_a ?hend_a
        case hfr_a =>
          intro z
          simp only [Rgn.fillAll, Act.put, List.setIfInBounds_toArray, List.set_cons_zero, List.set_cons_succ, Nat.reduceAdd, Nat.zero_add]
          exact rfl
        case hst_a =>
          intro i z v w1 w2 hi hb hx
          rcases i with _ | i
          · exact hx
          rcases i with _ | i
          · exact hx
          rcases i with _ | i
          · exact hx
          rcases i with _ | i
          · exact hx
          rcases i with _ | i
          · exact hx
          rcases i with _ | i
          · exact hx
          rcases i with _ | i
          · exact (fun v w1 w2 hb h => h.keep hb) v w1 w2 hb hx
          rcases i with _ | i
          · exact (fun v w1 w2 hb h => h.keep hb) v w1 w2 hb hx
          rcases i with _ | i
          · exact (fun v w1 w2 hb h => h.elim fun d h => ⟨d, h.1, h.2.keep hb⟩) v w1 w2 hb hx
          rcases i with _ | i
          · exact (fun v w1 w2 hb h => h.elim fun B hB => ⟨B, hB.1, hB.2.1, hB.2.2.step hb⟩) v w1 w2 hb hx
          rcases i with _ | i
          · exact trivial
          exact trivial
        case hG_a =>
          intro i z v w1 hi hx
          rcases i with _ | i
          · exact hx
          rcases i with _ | i
          · exact hx
          rcases i with _ | i
          · exact hx
          rcases i with _ | i
          · exact hx
          rcases i with _ | i
          · exact hx
          rcases i with _ | i
          · exact hx
          rcases i with _ | i
          · trivial
          rcases i with _ | i
          · trivial
          rcases i with _ | i
          · trivial
          rcases i with _ | i
          · trivial
          rcases i with _ | i
          · exact trivial
          exact trivial
        case hob_a =>
          intro hfr
          refine Rgn.AllOb.cons (j := 1) (by kernel_rfl) ?_ ?_
          · refine' Rgn.ob_body (fr := _) ?hf_a0 ?h1_a0 ?h2_a0 ?h3_a0 ?h_a0
            case hf_a0 => exact hfr
            case h1_a0 => kernel_rfl
            case h2_a0 => kernel_rfl
            case h3_a0 => rfl
            clear hfr
            intro z w1 hb hd ho K hK
            clear hd ho
            go_simp
            have hh := hK.out (.pointer (some ⟨BX, 1, none⟩)) _ (Below.refl _ _) rfl
            simp only [Act.put, List.setIfInBounds_toArray, List.set_cons_zero, List.set_cons_succ] at hh
            exact hh
          refine Rgn.AllOb.cons (j := 2) (by kernel_rfl) ?_ ?_
          · refine' Rgn.ob_body (fr := _) ?hf_a1 ?h1_a1 ?h2_a1 ?h3_a1 ?h_a1
            case hf_a1 => exact hfr
            case h1_a1 => kernel_rfl
            case h2_a1 => kernel_rfl
            case h3_a1 => rfl
            clear hfr
            intro z w1 hb hd ho K hK
            have e0 : z 0 = .pointer (some ⟨BX, 1, none⟩) := hd.out 0 (by kernel_rfl)
            clear hd ho
            have x0 := cX1.out w1 hb
            go_simp
            have hh := hK.out (.slice ea el ec) _ (Below.refl _ _) rfl
            simp only [Act.put, List.setIfInBounds_toArray, List.set_cons_zero, List.set_cons_succ, e0] at hh
            exact hh
          refine Rgn.AllOb.cons (j := 3) (by kernel_rfl) ?_ ?_
          · refine' Rgn.ob_body (fr := _) ?hf_a2 ?h1_a2 ?h2_a2 ?h3_a2 ?h_a2
            case hf_a2 => exact hfr
            case h1_a2 => kernel_rfl
            case h2_a2 => kernel_rfl
            case h3_a2 => rfl
            clear hfr
            intro z w1 hb hd ho K hK
            clear hd ho
            go_simp
            have hh := hK.out (.pointer (some ⟨BA, 1, none⟩)) _ (Below.refl _ _) rfl
            simp only [Act.put, List.setIfInBounds_toArray, List.set_cons_zero, List.set_cons_succ] at hh
            exact hh
          refine Rgn.AllOb.cons (j := 4) (by kernel_rfl) ?_ ?_
          · refine' Rgn.ob_body (fr := _) ?hf_a3 ?h1_a3 ?h2_a3 ?h3_a3 ?h_a3
            case hf_a3 => exact hfr
            case h1_a3 => kernel_rfl
            case h2_a3 => kernel_rfl
            case h3_a3 => rfl
            clear hfr
            intro z w1 hb hd ho K hK
            have e2 : z 2 = .pointer (some ⟨BA, 1, none⟩) := hd.out 2 (by kernel_rfl)
            clear hd ho
            have x0 := cA1.out w1 hb
            go_simp
            have hh := hK.out (.slice qa ql qc) _ (Below.refl _ _) rfl
            simp only [Act.put, List.setIfInBounds_toArray, List.set_cons_zero, List.set_cons_succ, e2] at hh
            exact hh
          refine Rgn.AllOb.cons (j := 5) (by kernel_rfl) ?_ ?_
          · refine' Rgn.ob_body (fr := _) ?hf_a4 ?h1_a4 ?h2_a4 ?h3_a4 ?h_a4
            case hf_a4 => exact hfr
            case h1_a4 => kernel_rfl
            case h2_a4 => kernel_rfl
            case h3_a4 => rfl
            clear hfr
            intro z w1 hb hd ho K hK
            clear hd ho
            go_simp
            have hh := hK.out (.pointer (some ⟨BB, 1, none⟩)) _ (Below.refl _ _) rfl
            simp only [Act.put, List.setIfInBounds_toArray, List.set_cons_zero, List.set_cons_succ] at hh
            exact hh
          refine Rgn.AllOb.cons (j := 6) (by kernel_rfl) ?_ ?_
          · refine' Rgn.ob_body (fr := _) ?hf_a5 ?h1_a5 ?h2_a5 ?h3_a5 ?h_a5
            case hf_a5 => exact hfr
            case h1_a5 => kernel_rfl
            case h2_a5 => kernel_rfl
            case h3_a5 => rfl
            clear hfr
            intro z w1 hb hd ho K hK
            have e4 : z 4 = .pointer (some ⟨BB, 1, none⟩) := hd.out 4 (by kernel_rfl)
            clear hd ho
            have x0 := cB1.out w1 hb
            go_simp
            have hh := hK.out (.slice ta tl tc) _ (Below.refl _ _) rfl
            simp only [Act.put, List.setIfInBounds_toArray, List.set_cons_zero, List.set_cons_succ, e4] at hh
            exact hh
          refine Rgn.AllOb.cons (j := 7) (by kernel_rfl) ?_ ?_
          · refine' Rgn.ob_body (fr := _) ?hf_a6 ?h1_a6 ?h2_a6 ?h3_a6 ?h_a6
            case hf_a6 => exact hfr
            case h1_a6 => kernel_rfl
            case h2_a6 => kernel_rfl
            case h3_a6 => rfl
            clear hfr
            intro z w1 hb hd ho K hK
            have e3 : z 3 = .slice qa ql qc := hd.out 3 (by kernel_rfl)
            have e5 : z 5 = .slice ta tl tc := hd.out 5 (by kernel_rfl)
            clear hd ho
            go_simp
            refine (l01Product_any _ _ DA DB _ (hDA.out.keep hb) (hDB.out.keep hb) (by omega) (by omega)).mono ?_
            rintro e w2 ⟨r, rfl, hr, b⟩
            have hh := hK.out _ _ b hr
            simp only [Act.put, List.setIfInBounds_toArray, List.set_cons_zero, List.set_cons_succ, e3, e5] at hh
            exact hh
          refine Rgn.AllOb.cons (j := 8) (by kernel_rfl) ?_ ?_
          · refine' Rgn.ob_body (fr := _) ?hf_a7 ?h1_a7 ?h2_a7 ?h3_a7 ?h_a7
            case hf_a7 => exact hfr
            case h1_a7 => kernel_rfl
            case h2_a7 => kernel_rfl
            case h3_a7 => rfl
            clear hfr
            intro z w1 hb hd ho K hK
            have e1 : z 1 = .slice ea el ec := hd.out 1 (by kernel_rfl)
            have e6 : LongS w1 (z 6) (DA * DB) := hd.out 6 (by kernel_rfl)
            clear hd ho
            go_simp
            refine (l01Product_any _ _ E (DA * DB) _ (hE.out.keep hb) e6 (by omega) (by omega)).mono ?_
            rintro e w2 ⟨r, rfl, hr, b⟩
            have hh := hK.out _ _ b hr
            simp only [Act.put, List.setIfInBounds_toArray, List.set_cons_zero, List.set_cons_succ, e1] at hh
            exact hh
          refine Rgn.AllOb.cons (j := 9) (by kernel_rfl) ?_ ?_
          · refine' Rgn.ob_body (fr := _) ?hf_a8 ?h1_a8 ?h2_a8 ?h3_a8 ?h_a8
            case hf_a8 => exact hfr
            case h1_a8 => kernel_rfl
            case h2_a8 => kernel_rfl
            case h3_a8 => rfl
            clear hfr
            intro z w1 hb hd ho K hK
            have e7 : LongS w1 (z 7) (E * (DA * DB)) := hd.out 7 (by kernel_rfl)
            clear hd ho
            go_simp
            obtain ⟨_, da, dc, e7a⟩ := e7.len
            rw [e7a] at e7
            go_simp
            have hh := hK.out (.agg #[.slice none 0 0, .slice da (dlen B9 (E * (DA * DB))) dc]) _ (Below.refl _ _) ⟨_, rfl, e7⟩
            simp only [Act.put, List.setIfInBounds_toArray, List.set_cons_zero, List.set_cons_succ] at hh
            simp only [e7a] at hh
            skip
            first | exact hh | (simp only [e7a]; exact hh)
          refine Rgn.AllOb.cons (j := 10) (by kernel_rfl) ?_ ?_
          · refine' Rgn.ob_body (fr := _) ?hf_a9 ?h1_a9 ?h2_a9 ?h3_a9 ?h_a9
            case hf_a9 => exact hfr
            case h1_a9 => kernel_rfl
            case h2_a9 => kernel_rfl
            case h3_a9 => rfl
            clear hfr
            intro z w1 hb hd ho K hK
            clear hd ho
            go_simp
            have hh := hK.out _ _ (below1 _ _) ⟨_, rfl, hb.size, Blk.new _ _ _⟩
            simp only [Act.put, List.setIfInBounds_toArray, List.set_cons_zero, List.set_cons_succ] at hh
            exact hh
          refine Rgn.AllOb.cons (j := 11) (by kernel_rfl) ?_ ?_
          · refine' Rgn.ob_tail0 (fr := _) ?hf_a10 ?h1_a10 ?h3_a10 ?h_a10
            case hf_a10 => exact hfr
            case h1_a10 => kernel_rfl
            case h3_a10 => rfl
            clear hfr
            intro z w1 hb hf hd ho K hK
            obtain ⟨d, e8, hd8⟩ : ∃ d, z 8 = .agg #[.slice none 0 0, d] ∧ LongS w1 d (E * (DA * DB)) := hf.out 8 (by decide) rfl rfl
            obtain ⟨B, e9, hB, hX⟩ : ∃ B : Nat, z 9 = .pointer (some ⟨B, 0, none⟩) ∧ V.heap.size ≤ B ∧ Blk w1 B #[.slice none 0 0, .slice none 0 0] 104 := hf.out 9 (by decide) rfl rfl
            obtain ⟨_, da, dc, rfl⟩ := hd8.len
            have y0 := hX.cell 0
            have y1 := hX.cell 1
            have f0 := hX.frozen 0
            have f1 := hX.frozen 1
            simp only [List.getElem?_toArray, List.getElem?_cons_zero, List.getElem?_cons_succ] at y0 y1
            go_simp
            have hh := hK.out undef _ ⟨B, da, _, dc, e9, hB, by have := (hX.set 0 (.slice none 0 0)).set 1 (.slice da (dlen B9 (E * (DA * DB))) dc); simpa using this, (hd8.setBox hX 0 _).setBox (hX.set 0 _) 1 _, (hb.setCell (p := ⟨B, 0, none⟩) hB _).setCell (p := ⟨B, 1, none⟩) hB _⟩
            simp only [Act.put, List.setIfInBounds_toArray, List.set_cons_zero, List.set_cons_succ, e8, e9] at hh
            exact hh
          exact Rgn.AllOb.nil
        case hend_a =>
          intro hfr
          refine' Rgn.end_tails (fr := _) ?g1 ?g2 ?g3
          case g1 => exact hfr
          case g2 => rfl
          clear hfr
          intro z w6 hT hg
          obtain ⟨O, da, dl, dc, e9, hOV0, hO, hD, bV6⟩ := hT
          replace e9 : z 9 = .pointer (some ⟨O, 0, none⟩) := e9
          simp only [e9]
          have hv0 := Lib.hid (show VecAt w6 O (MN.take 0) none 0 (.slice da dl dc) (E * (DA * DB)) from ⟨hO, MadeL.nil _ _ _, hD⟩)
          have hOV := Lib.hid hOV0
          replace bV6 := Lib.hid bV6
          clear e9 hg hO hD hOV0
          generalize z 0 = zz0
          go_wp2
          go_loopw [16] (fun i wr => ∃ (k nc : Nat) (na : Option Addr), k ≤ rn ∧ i = .int .i64 (k : Int) ∧ Hid (VecAt wr O (MN.take k) na nc (.slice da dl dc) (E * (DA * DB))) ∧ Hid (Below V.heap.size V wr)) (fun i _ => rn - (intOf i).toNat)
          case atStart => exact ⟨0, _, _, Nat.zero_le _, rfl, hv0, bV6⟩
          case round =>
            obtain ⟨k, nc, na, hk, rfl, hvec, bV⟩ := hrel
            have hkl := Lib.hid (show (MN.take k).length = k by rw [List.length_take, mlen.out]; omega)
            by_cases hlt : k < rn
            · obtain ⟨b1, o1, x, rfl, p2, hx0⟩ := hrow.out.at k (by rw [l1.out]; exact hlt)
              obtain ⟨b2, o2, y, rfl, p3, hy0⟩ := hrow2.out.at k (by rw [l2.out]; exact hlt)
              obtain ⟨_, ma, mc, rfl⟩ := hx0.len
              obtain ⟨_, ua, uc, rfl⟩ := hy0.len
              have z1 := s1.out k hlt
              have z2 := s2.out k hlt
              have hnx := Lib.hid (nx.out k hlt)
              generalize R1.getD k 0 = XN at *
              generalize R2.getD k 0 = YN at *
              have z3 := mul_dlen' z1 d2
              have z4 := mul_dlen' u1 z3
              have z5 := mul_dlen' z2 d1
              have z6 := mul_dlen' (Nat.le_trans v1 u2) z5
              have c1 := Lib.hid (fun w1 (hb : Below wr.heap.size wr w1) => (((below_wt bV.out hb).cell (p := ⟨b1, o1 + k, none⟩) (block_lt p2)).trans p2))
              have c2 := Lib.hid (fun w1 (hb : Below wr.heap.size wr w1) => (((below_wt bV.out hb).cell (p := ⟨b2, o2 + k, none⟩) (block_lt p3)).trans p3))
              have hx := Lib.hid (hx0.keep bV.out)
              have hy := Lib.hid (hy0.keep bV.out)
              have dX0 := Lib.hid (fun w1 (hb : Below wr.heap.size wr w1) => cX0.out w1 (below_wt bV.out hb))
              have dA0 := Lib.hid (fun w1 (hb : Below wr.heap.size wr w1) => cA0.out w1 (below_wt bV.out hb))
              have dA1 := Lib.hid (fun w1 (hb : Below wr.heap.size wr w1) => cA1.out w1 (below_wt bV.out hb))
              have dB0 := Lib.hid (fun w1 (hb : Below wr.heap.size wr w1) => cB0.out w1 (below_wt bV.out hb))
              have dB1 := Lib.hid (fun w1 (hb : Below wr.heap.size wr w1) => cB1.out w1 (below_wt bV.out hb))
              replace hX := Lib.hid (hX.out.keep bV.out)
              replace hDA := Lib.hid (hDA.out.keep bV.out)
              replace hDB := Lib.hid (hDB.out.keep bV.out)
              replace hRest := Lib.hid (hRest.out.keep bV.out)
              have i1 : (0 : Int) ≤ (k : Int) := by omega
              have i2 : (k : Int) < (rn : Int) := by omega
              have hlt' := Lib.hid hlt
              clear hx0 hy0 p2 p3 cX0 cX1 cA0 cA1 cB0 cB1 hE hvl pos msz nx hlt hrow hrow2
              go_upto_region 15 with fail
              refine' Rgn.region_by (fun _ => 0) 0 (fun _ => false) (fun i _ v w' => match i with
                  | 0 => v = .pointer (some ⟨BX, 0, none⟩)
                  | 1 => v = .slice xa xl xc
                  | 2 => v = .pointer (some ⟨BA, 0, none⟩)
                  | 3 => v = .slice (some ⟨b1, o1, none⟩) rn pc
                  | 4 => v = .int .i64 (k : Int)
                  | 5 => v = .pointer (some ⟨b1, o1 + k, none⟩)
                  | 6 => v = .slice ma (dlen B9 XN) mc
                  | 7 => v = .pointer (some ⟨BB, 1, none⟩)
                  | 8 => v = .slice ta tl tc
                  | 9 => LongS w' v (XN * DB)
                  | 10 => LongS w' v (X * (XN * DB))
                  | 11 => LongS w' v (X * (XN * DB))
                  | _ => True) (fun i _ v => match i with
                  | 0 => v = .pointer (some ⟨BX, 0, none⟩)
                  | 1 => v = .slice xa xl xc
                  | 2 => v = .pointer (some ⟨BA, 0, none⟩)
                  | 3 => v = .slice (some ⟨b1, o1, none⟩) rn pc
                  | 4 => v = .int .i64 (k : Int)
                  | 5 => v = .pointer (some ⟨b1, o1 + k, none⟩)
                  | 6 => v = .slice ma (dlen B9 XN) mc
                  | 7 => v = .pointer (some ⟨BB, 1, none⟩)
                  | 8 => v = .slice ta tl tc
                  | 9 => True
                  | 10 => True
                  | 11 => True
                  | _ => True)
                  (fun _ _ _ => True) (by kernel_rfl) (by kernel_rfl) (by kernel_rfl) ?hst_b ?hG_b _ ?hfr_b ?hob_b ?hend_b
              case hfr_b =>
                intro z
                simp only [Rgn.fillAll, Act.put, List.setIfInBounds_toArray, List.set_cons_zero, List.set_cons_succ, Nat.reduceAdd, Nat.zero_add]
                exact rfl
              case hst_b =>
                intro i z v w1 w2 hi hb hx
                rcases i with _ | i
                · exact hx
                rcases i with _ | i
                · exact hx
                rcases i with _ | i
                · exact hx
                rcases i with _ | i
                · exact hx
                rcases i with _ | i
                · exact hx
                rcases i with _ | i
                · exact hx
                rcases i with _ | i
                · exact hx
                rcases i with _ | i
                · exact hx
                rcases i with _ | i
                · exact hx
                rcases i with _ | i
                · exact (fun v w1 w2 hb h => h.keep hb) v w1 w2 hb hx
                rcases i with _ | i
                · exact (fun v w1 w2 hb h => h.keep hb) v w1 w2 hb hx
                rcases i with _ | i
                · exact (fun v w1 w2 hb h => h.keep hb) v w1 w2 hb hx
                exact trivial
              case hG_b =>
                intro i z v w1 hi hx
                rcases i with _ | i
                · exact hx
                rcases i with _ | i
                · exact hx
                rcases i with _ | i
                · exact hx
                rcases i with _ | i
                · exact hx
                rcases i with _ | i
                · exact hx
                rcases i with _ | i
                · exact hx
                rcases i with _ | i
                · exact hx
                rcases i with _ | i
                · exact hx
                rcases i with _ | i
                · exact hx
                rcases i with _ | i
                · trivial
                rcases i with _ | i
                · trivial
                rcases i with _ | i
                · trivial
                exact trivial
              case hob_b =>
                intro hfr
                refine Rgn.AllOb.cons (j := 1) (by kernel_rfl) ?_ ?_
                · refine' Rgn.ob_body (fr := _) ?hf_b0 ?h1_b0 ?h2_b0 ?h3_b0 ?h_b0
                  case hf_b0 => exact hfr
                  case h1_b0 => kernel_rfl
                  case h2_b0 => kernel_rfl
                  case h3_b0 => rfl
                  clear hfr
                  intro z w1 hb hd ho K hK
                  clear hd ho
                  go_simp
                  have hh := hK.out (.pointer (some ⟨BX, 0, none⟩)) _ (Below.refl _ _) rfl
                  simp only [Act.put, List.setIfInBounds_toArray, List.set_cons_zero, List.set_cons_succ] at hh
                  exact hh
                refine Rgn.AllOb.cons (j := 2) (by kernel_rfl) ?_ ?_
                · refine' Rgn.ob_body (fr := _) ?hf_b1 ?h1_b1 ?h2_b1 ?h3_b1 ?h_b1
                  case hf_b1 => exact hfr
                  case h1_b1 => kernel_rfl
                  case h2_b1 => kernel_rfl
                  case h3_b1 => rfl
                  clear hfr
                  intro z w1 hb hd ho K hK
                  have e0 : z 0 = .pointer (some ⟨BX, 0, none⟩) := hd.out 0 (by kernel_rfl)
                  clear hd ho
                  have x0 := dX0.out w1 hb
                  go_simp
                  have hh := hK.out (.slice xa xl xc) _ (Below.refl _ _) rfl
                  simp only [Act.put, List.setIfInBounds_toArray, List.set_cons_zero, List.set_cons_succ, e0] at hh
                  exact hh
                refine Rgn.AllOb.cons (j := 3) (by kernel_rfl) ?_ ?_
                · refine' Rgn.ob_body (fr := _) ?hf_b2 ?h1_b2 ?h2_b2 ?h3_b2 ?h_b2
                  case hf_b2 => exact hfr
                  case h1_b2 => kernel_rfl
                  case h2_b2 => kernel_rfl
                  case h3_b2 => rfl
                  clear hfr
                  intro z w1 hb hd ho K hK
                  clear hd ho
                  go_simp
                  have hh := hK.out (.pointer (some ⟨BA, 0, none⟩)) _ (Below.refl _ _) rfl
                  simp only [Act.put, List.setIfInBounds_toArray, List.set_cons_zero, List.set_cons_succ] at hh
                  exact hh
                refine Rgn.AllOb.cons (j := 4) (by kernel_rfl) ?_ ?_
                · refine' Rgn.ob_body (fr := _) ?hf_b3 ?h1_b3 ?h2_b3 ?h3_b3 ?h_b3
                  case hf_b3 => exact hfr
                  case h1_b3 => kernel_rfl
                  case h2_b3 => kernel_rfl
                  case h3_b3 => rfl
                  clear hfr
                  intro z w1 hb hd ho K hK
                  have e2 : z 2 = .pointer (some ⟨BA, 0, none⟩) := hd.out 2 (by kernel_rfl)
                  clear hd ho
                  have x0 := dA0.out w1 hb
                  go_simp
                  have hh := hK.out (.slice (some ⟨b1, o1, none⟩) rn pc) _ (Below.refl _ _) rfl
                  simp only [Act.put, List.setIfInBounds_toArray, List.set_cons_zero, List.set_cons_succ, e2] at hh
                  exact hh
                refine Rgn.AllOb.cons (j := 5) (by kernel_rfl) ?_ ?_
                · refine' Rgn.ob_body (fr := _) ?hf_b4 ?h1_b4 ?h2_b4 ?h3_b4 ?h_b4
                  case hf_b4 => exact hfr
                  case h1_b4 => kernel_rfl
                  case h2_b4 => kernel_rfl
                  case h3_b4 => rfl
                  clear hfr
                  intro z w1 hb hd ho K hK
                  clear hd ho
                  go_simp
                  have hh := hK.out (.int .i64 (k : Int)) _ (Below.refl _ _) rfl
                  simp only [Act.put, List.setIfInBounds_toArray, List.set_cons_zero, List.set_cons_succ] at hh
                  exact hh
                refine Rgn.AllOb.cons (j := 6) (by kernel_rfl) ?_ ?_
                · refine' Rgn.ob_body (fr := _) ?hf_b5 ?h1_b5 ?h2_b5 ?h3_b5 ?h_b5
                  case hf_b5 => exact hfr
                  case h1_b5 => kernel_rfl
                  case h2_b5 => kernel_rfl
                  case h3_b5 => rfl
                  clear hfr
                  intro z w1 hb hd ho K hK
                  have e3 : z 3 = .slice (some ⟨b1, o1, none⟩) rn pc := hd.out 3 (by kernel_rfl)
                  have e4 : z 4 = .int .i64 (k : Int) := hd.out 4 (by kernel_rfl)
                  clear hd ho
                  go_simp
                  have hh := hK.out (.pointer (some ⟨b1, o1 + k, none⟩)) _ (Below.refl _ _) rfl
                  simp only [Act.put, List.setIfInBounds_toArray, List.set_cons_zero, List.set_cons_succ, e3, e4] at hh
                  exact hh
                refine Rgn.AllOb.cons (j := 7) (by kernel_rfl) ?_ ?_
                · refine' Rgn.ob_body (fr := _) ?hf_b6 ?h1_b6 ?h2_b6 ?h3_b6 ?h_b6
                  case hf_b6 => exact hfr
                  case h1_b6 => kernel_rfl
                  case h2_b6 => kernel_rfl
                  case h3_b6 => rfl
                  clear hfr
                  intro z w1 hb hd ho K hK
                  have e5 : z 5 = .pointer (some ⟨b1, o1 + k, none⟩) := hd.out 5 (by kernel_rfl)
                  clear hd ho
                  have x0 := c1.out w1 hb
                  go_simp
                  have hh := hK.out (.slice ma (dlen B9 XN) mc) _ (Below.refl _ _) rfl
                  simp only [Act.put, List.setIfInBounds_toArray, List.set_cons_zero, List.set_cons_succ, e5] at hh
                  exact hh
                refine Rgn.AllOb.cons (j := 8) (by kernel_rfl) ?_ ?_
                · refine' Rgn.ob_body (fr := _) ?hf_b7 ?h1_b7 ?h2_b7 ?h3_b7 ?h_b7
                  case hf_b7 => exact hfr
                  case h1_b7 => kernel_rfl
                  case h2_b7 => kernel_rfl
                  case h3_b7 => rfl
                  clear hfr
                  intro z w1 hb hd ho K hK
                  clear hd ho
                  go_simp
                  have hh := hK.out (.pointer (some ⟨BB, 1, none⟩)) _ (Below.refl _ _) rfl
                  simp only [Act.put, List.setIfInBounds_toArray, List.set_cons_zero, List.set_cons_succ] at hh
                  exact hh
                refine Rgn.AllOb.cons (j := 9) (by kernel_rfl) ?_ ?_
                · refine' Rgn.ob_body (fr := _) ?hf_b8 ?h1_b8 ?h2_b8 ?h3_b8 ?h_b8
                  case hf_b8 => exact hfr
                  case h1_b8 => kernel_rfl
                  case h2_b8 => kernel_rfl
                  case h3_b8 => rfl
                  clear hfr
                  intro z w1 hb hd ho K hK
                  have e7 : z 7 = .pointer (some ⟨BB, 1, none⟩) := hd.out 7 (by kernel_rfl)
                  clear hd ho
                  have x0 := dB1.out w1 hb
                  go_simp
                  have hh := hK.out (.slice ta tl tc) _ (Below.refl _ _) rfl
                  simp only [Act.put, List.setIfInBounds_toArray, List.set_cons_zero, List.set_cons_succ, e7] at hh
                  exact hh
                refine Rgn.AllOb.cons (j := 10) (by kernel_rfl) ?_ ?_
                · refine' Rgn.ob_body (fr := _) ?hf_b9 ?h1_b9 ?h2_b9 ?h3_b9 ?h_b9
                  case hf_b9 => exact hfr
                  case h1_b9 => kernel_rfl
                  case h2_b9 => kernel_rfl
                  case h3_b9 => rfl
                  clear hfr
                  intro z w1 hb hd ho K hK
                  have e6 : z 6 = .slice ma (dlen B9 XN) mc := hd.out 6 (by kernel_rfl)
                  have e8 : z 8 = .slice ta tl tc := hd.out 8 (by kernel_rfl)
                  clear hd ho
                  go_simp
                  refine (l01Product_any _ _ XN DB _ (hx.out.keep hb) (hDB.out.keep hb) (by omega) (by omega)).mono ?_
                  rintro e w2 ⟨r, rfl, hr, b⟩
                  have hh := hK.out _ _ b hr
                  simp only [Act.put, List.setIfInBounds_toArray, List.set_cons_zero, List.set_cons_succ, e6, e8] at hh
                  exact hh
                refine Rgn.AllOb.cons (j := 11) (by kernel_rfl) ?_ ?_
                · refine' Rgn.ob_body (fr := _) ?hf_b10 ?h1_b10 ?h2_b10 ?h3_b10 ?h_b10
                  case hf_b10 => exact hfr
                  case h1_b10 => kernel_rfl
                  case h2_b10 => kernel_rfl
                  case h3_b10 => rfl
                  clear hfr
                  intro z w1 hb hd ho K hK
                  have e1 : z 1 = .slice xa xl xc := hd.out 1 (by kernel_rfl)
                  have e9 : LongS w1 (z 9) (XN * DB) := hd.out 9 (by kernel_rfl)
                  clear hd ho
                  go_simp
                  refine (l01Product_any _ _ X (XN * DB) _ (hX.out.keep hb) e9 (by omega) (by omega)).mono ?_
                  rintro e w2 ⟨r, rfl, hr, b⟩
                  have hh := hK.out _ _ b hr
                  simp only [Act.put, List.setIfInBounds_toArray, List.set_cons_zero, List.set_cons_succ, e1] at hh
                  exact hh
                refine Rgn.AllOb.cons (j := 12) (by kernel_rfl) ?_ ?_
                · refine' Rgn.ob_body (fr := _) ?hf_b11 ?h1_b11 ?h2_b11 ?h3_b11 ?h_b11
                  case hf_b11 => exact hfr
                  case h1_b11 => kernel_rfl
                  case h2_b11 => kernel_rfl
                  case h3_b11 => rfl
                  clear hfr
                  intro z w1 hb hd ho K hK
                  have e10 : LongS w1 (z 10) (X * (XN * DB)) := hd.out 10 (by kernel_rfl)
                  clear hd ho
                  go_simp
                  have hh := hK.out _ _ (Below.refl _ _) e10
                  simp only [Act.put, List.setIfInBounds_toArray, List.set_cons_zero, List.set_cons_succ] at hh
                  exact hh
                exact Rgn.AllOb.nil
              case hend_b =>
                intro hfr
                refine' Rgn.end_plain (fr := _) ?g1_b ?g2_b ?g3_b
                case g1_b => exact hfr
                case g2_b => kernel_rfl
                clear hfr
                intro z w7 q15 hf
                have h11 : LongS w7 (z 11) (X * (XN * DB)) := hf.out 11 (by decide)
                obtain ⟨_, la, lc, e11⟩ := h11.len
                rw [e11] at h11
                simp only [e11]
                generalize dlen B9 (X * (XN * DB)) = ll at h11 ⊢
                have hLeft0 := Lib.hid h11
                clear e11 hf h11
                go_upto_region 16 with fail
                refine' Rgn.region_by (fun _ => 0) 0 (fun _ => false) (fun i _ v w' => match i with
                    | 0 => v = .slice ga gl gc
                    | 1 => v = .pointer (some ⟨BB, 0, none⟩)
                    | 2 => v = .slice (some ⟨b2, o2, none⟩) rn rc
                    | 3 => v = .int .i64 (k : Int)
                    | 4 => v = .pointer (some ⟨b2, o2 + k, none⟩)
                    | 5 => v = .slice ua (dlen B9 YN) uc
                    | 6 => v = .pointer (some ⟨BA, 1, none⟩)
                    | 7 => v = .slice qa ql qc
                    | 8 => LongS w' v (YN * DA)
                    | 9 => LongS w' v ((E - X) * (YN * DA))
                    | 10 => LongS w' v ((E - X) * (YN * DA))
                    | _ => True) (fun i _ v => match i with
                    | 0 => v = .slice ga gl gc
                    | 1 => v = .pointer (some ⟨BB, 0, none⟩)
                    | 2 => v = .slice (some ⟨b2, o2, none⟩) rn rc
                    | 3 => v = .int .i64 (k : Int)
                    | 4 => v = .pointer (some ⟨b2, o2 + k, none⟩)
                    | 5 => v = .slice ua (dlen B9 YN) uc
                    | 6 => v = .pointer (some ⟨BA, 1, none⟩)
                    | 7 => v = .slice qa ql qc
                    | 8 => True
                    | 9 => True
                    | 10 => True
                    | _ => True)
                    (fun _ _ _ => True) (by kernel_rfl) (by kernel_rfl) (by kernel_rfl) ?hst_c ?hG_c _ ?hfr_c ?hob_c ?hend_c
                case hfr_c =>
                  intro z
                  simp only [Rgn.fillAll, Act.put, List.setIfInBounds_toArray, List.set_cons_zero, List.set_cons_succ, Nat.reduceAdd, Nat.zero_add]
                  exact rfl
                case hst_c =>
                  intro i z v w1 w2 hi hb hx
                  rcases i with _ | i
                  · exact hx
                  rcases i with _ | i
                  · exact hx
                  rcases i with _ | i
                  · exact hx
                  rcases i with _ | i
                  · exact hx
                  rcases i with _ | i
                  · exact hx
                  rcases i with _ | i
                  · exact hx
                  rcases i with _ | i
                  · exact hx
                  rcases i with _ | i
                  · exact hx
                  rcases i with _ | i
                  · exact (fun v w1 w2 hb h => h.keep hb) v w1 w2 hb hx
                  rcases i with _ | i
                  · exact (fun v w1 w2 hb h => h.keep hb) v w1 w2 hb hx
                  rcases i with _ | i
                  · exact (fun v w1 w2 hb h => h.keep hb) v w1 w2 hb hx
                  exact trivial
                case hG_c =>
                  intro i z v w1 hi hx
                  rcases i with _ | i
                  · exact hx
                  rcases i with _ | i
                  · exact hx
                  rcases i with _ | i
                  · exact hx
                  rcases i with _ | i
                  · exact hx
                  rcases i with _ | i
                  · exact hx
                  rcases i with _ | i
                  · exact hx
                  rcases i with _ | i
                  · exact hx
                  rcases i with _ | i
                  · exact hx
                  rcases i with _ | i
                  · trivial
                  rcases i with _ | i
                  · trivial
                  rcases i with _ | i
                  · trivial
                  exact trivial
                case hob_c =>
                  intro hfr
                  refine Rgn.AllOb.cons (j := 1) (by kernel_rfl) ?_ ?_
                  · refine' Rgn.ob_body (fr := _) ?hf_c0 ?h1_c0 ?h2_c0 ?h3_c0 ?h_c0
                    case hf_c0 => exact hfr
                    case h1_c0 => kernel_rfl
                    case h2_c0 => kernel_rfl
                    case h3_c0 => rfl
                    clear hfr
                    intro z w1 hb hd ho K hK
                    clear hd ho
                    go_simp
                    have hh := hK.out (.slice ga gl gc) _ (Below.refl _ _) rfl
                    simp only [Act.put, List.setIfInBounds_toArray, List.set_cons_zero, List.set_cons_succ] at hh
                    exact hh
                  refine Rgn.AllOb.cons (j := 2) (by kernel_rfl) ?_ ?_
                  · refine' Rgn.ob_body (fr := _) ?hf_c1 ?h1_c1 ?h2_c1 ?h3_c1 ?h_c1
                    case hf_c1 => exact hfr
                    case h1_c1 => kernel_rfl
                    case h2_c1 => kernel_rfl
                    case h3_c1 => rfl
                    clear hfr
                    intro z w1 hb hd ho K hK
                    clear hd ho
                    go_simp
                    have hh := hK.out (.pointer (some ⟨BB, 0, none⟩)) _ (Below.refl _ _) rfl
                    simp only [Act.put, List.setIfInBounds_toArray, List.set_cons_zero, List.set_cons_succ] at hh
                    exact hh
                  refine Rgn.AllOb.cons (j := 3) (by kernel_rfl) ?_ ?_
                  · refine' Rgn.ob_body (fr := _) ?hf_c2 ?h1_c2 ?h2_c2 ?h3_c2 ?h_c2
                    case hf_c2 => exact hfr
                    case h1_c2 => kernel_rfl
                    case h2_c2 => kernel_rfl
                    case h3_c2 => rfl
                    clear hfr
                    intro z w1 hb hd ho K hK
                    have e1 : z 1 = .pointer (some ⟨BB, 0, none⟩) := hd.out 1 (by kernel_rfl)
                    clear hd ho
                    have x0 := dB0.out w1 (below_wt q15 hb)
                    go_simp
                    have hh := hK.out (.slice (some ⟨b2, o2, none⟩) rn rc) _ (Below.refl _ _) rfl
                    simp only [Act.put, List.setIfInBounds_toArray, List.set_cons_zero, List.set_cons_succ, e1] at hh
                    exact hh
                  refine Rgn.AllOb.cons (j := 4) (by kernel_rfl) ?_ ?_
                  · refine' Rgn.ob_body (fr := _) ?hf_c3 ?h1_c3 ?h2_c3 ?h3_c3 ?h_c3
                    case hf_c3 => exact hfr
                    case h1_c3 => kernel_rfl
                    case h2_c3 => kernel_rfl
                    case h3_c3 => rfl
                    clear hfr
                    intro z w1 hb hd ho K hK
                    clear hd ho
                    go_simp
                    have hh := hK.out (.int .i64 (k : Int)) _ (Below.refl _ _) rfl
                    simp only [Act.put, List.setIfInBounds_toArray, List.set_cons_zero, List.set_cons_succ] at hh
                    exact hh
                  refine Rgn.AllOb.cons (j := 5) (by kernel_rfl) ?_ ?_
                  · refine' Rgn.ob_body (fr := _) ?hf_c4 ?h1_c4 ?h2_c4 ?h3_c4 ?h_c4
                    case hf_c4 => exact hfr
                    case h1_c4 => kernel_rfl
                    case h2_c4 => kernel_rfl
                    case h3_c4 => rfl
                    clear hfr
                    intro z w1 hb hd ho K hK
                    have e2 : z 2 = .slice (some ⟨b2, o2, none⟩) rn rc := hd.out 2 (by kernel_rfl)
                    have e3 : z 3 = .int .i64 (k : Int) := hd.out 3 (by kernel_rfl)
                    clear hd ho
                    go_simp
                    have hh := hK.out (.pointer (some ⟨b2, o2 + k, none⟩)) _ (Below.refl _ _) rfl
                    simp only [Act.put, List.setIfInBounds_toArray, List.set_cons_zero, List.set_cons_succ, e2, e3] at hh
                    exact hh
                  refine Rgn.AllOb.cons (j := 6) (by kernel_rfl) ?_ ?_
                  · refine' Rgn.ob_body (fr := _) ?hf_c5 ?h1_c5 ?h2_c5 ?h3_c5 ?h_c5
                    case hf_c5 => exact hfr
                    case h1_c5 => kernel_rfl
                    case h2_c5 => kernel_rfl
                    case h3_c5 => rfl
                    clear hfr
                    intro z w1 hb hd ho K hK
                    have e4 : z 4 = .pointer (some ⟨b2, o2 + k, none⟩) := hd.out 4 (by kernel_rfl)
                    clear hd ho
                    have x0 := c2.out w1 (below_wt q15 hb)
                    go_simp
                    have hh := hK.out (.slice ua (dlen B9 YN) uc) _ (Below.refl _ _) rfl
                    simp only [Act.put, List.setIfInBounds_toArray, List.set_cons_zero, List.set_cons_succ, e4] at hh
                    exact hh
                  refine Rgn.AllOb.cons (j := 7) (by kernel_rfl) ?_ ?_
                  · refine' Rgn.ob_body (fr := _) ?hf_c6 ?h1_c6 ?h2_c6 ?h3_c6 ?h_c6
                    case hf_c6 => exact hfr
                    case h1_c6 => kernel_rfl
                    case h2_c6 => kernel_rfl
                    case h3_c6 => rfl
                    clear hfr
                    intro z w1 hb hd ho K hK
                    clear hd ho
                    go_simp
                    have hh := hK.out (.pointer (some ⟨BA, 1, none⟩)) _ (Below.refl _ _) rfl
                    simp only [Act.put, List.setIfInBounds_toArray, List.set_cons_zero, List.set_cons_succ] at hh
                    exact hh
                  refine Rgn.AllOb.cons (j := 8) (by kernel_rfl) ?_ ?_
                  · refine' Rgn.ob_body (fr := _) ?hf_c7 ?h1_c7 ?h2_c7 ?h3_c7 ?h_c7
                    case hf_c7 => exact hfr
                    case h1_c7 => kernel_rfl
                    case h2_c7 => kernel_rfl
                    case h3_c7 => rfl
                    clear hfr
                    intro z w1 hb hd ho K hK
                    have e6 : z 6 = .pointer (some ⟨BA, 1, none⟩) := hd.out 6 (by kernel_rfl)
                    clear hd ho
                    have x0 := dA1.out w1 (below_wt q15 hb)
                    go_simp
                    have hh := hK.out (.slice qa ql qc) _ (Below.refl _ _) rfl
                    simp only [Act.put, List.setIfInBounds_toArray, List.set_cons_zero, List.set_cons_succ, e6] at hh
                    exact hh
                  refine Rgn.AllOb.cons (j := 9) (by kernel_rfl) ?_ ?_
                  · refine' Rgn.ob_body (fr := _) ?hf_c8 ?h1_c8 ?h2_c8 ?h3_c8 ?h_c8
                    case hf_c8 => exact hfr
                    case h1_c8 => kernel_rfl
                    case h2_c8 => kernel_rfl
                    case h3_c8 => rfl
                    clear hfr
                    intro z w1 hb hd ho K hK
                    have e5 : z 5 = .slice ua (dlen B9 YN) uc := hd.out 5 (by kernel_rfl)
                    have e7 : z 7 = .slice qa ql qc := hd.out 7 (by kernel_rfl)
                    clear hd ho
                    go_simp
                    refine (l01Product_any _ _ YN DA _ (hy.out.keep (below_wt q15 hb)) (hDA.out.keep (below_wt q15 hb)) (by omega) (by omega)).mono ?_
                    rintro e w2 ⟨r, rfl, hr, b⟩
                    have hh := hK.out _ _ b hr
                    simp only [Act.put, List.setIfInBounds_toArray, List.set_cons_zero, List.set_cons_succ, e5, e7] at hh
                    exact hh
                  refine Rgn.AllOb.cons (j := 10) (by kernel_rfl) ?_ ?_
                  · refine' Rgn.ob_body (fr := _) ?hf_c9 ?h1_c9 ?h2_c9 ?h3_c9 ?h_c9
                    case hf_c9 => exact hfr
                    case h1_c9 => kernel_rfl
                    case h2_c9 => kernel_rfl
                    case h3_c9 => rfl
                    clear hfr
                    intro z w1 hb hd ho K hK
                    have e0 : z 0 = .slice ga gl gc := hd.out 0 (by kernel_rfl)
                    have e8 : LongS w1 (z 8) (YN * DA) := hd.out 8 (by kernel_rfl)
                    clear hd ho
                    go_simp
                    refine (l01Product_any _ _ (E - X) (YN * DA) _ (hRest.out.keep (below_wt q15 hb)) e8 (by omega) (by omega)).mono ?_
                    rintro e w2 ⟨r, rfl, hr, b⟩
                    have hh := hK.out _ _ b hr
                    simp only [Act.put, List.setIfInBounds_toArray, List.set_cons_zero, List.set_cons_succ, e0] at hh
                    exact hh
                  refine Rgn.AllOb.cons (j := 11) (by kernel_rfl) ?_ ?_
                  · refine' Rgn.ob_body (fr := _) ?hf_c10 ?h1_c10 ?h2_c10 ?h3_c10 ?h_c10
                    case hf_c10 => exact hfr
                    case h1_c10 => kernel_rfl
                    case h2_c10 => kernel_rfl
                    case h3_c10 => rfl
                    clear hfr
                    intro z w1 hb hd ho K hK
                    have e9 : LongS w1 (z 9) ((E - X) * (YN * DA)) := hd.out 9 (by kernel_rfl)
                    clear hd ho
                    go_simp
                    have hh := hK.out _ _ (Below.refl _ _) e9
                    simp only [Act.put, List.setIfInBounds_toArray, List.set_cons_zero, List.set_cons_succ] at hh
                    exact hh
                  exact Rgn.AllOb.nil
                case hend_c =>
                  intro hfr
                  refine' Rgn.end_plain (fr := _) ?g1_c ?g2_c ?g3_c
                  case g1_c => exact hfr
                  case g2_c => kernel_rfl
                  clear hfr
                  intro z w8 q16 hf
                  have h10 : LongS w8 (z 10) ((E - X) * (YN * DA)) := hf.out 10 (by decide)
                  obtain ⟨_, ha, hc, e10⟩ := h10.len
                  rw [e10] at h10
                  simp only [e10]
                  generalize dlen B9 ((E - X) * (YN * DA)) = hl at h10 ⊢
                  have hRight := Lib.hid h10
                  have hLeft := Lib.hid (hLeft0.out.keep q16)
                  have qq := below_wt q15 q16
                  replace hvec := Lib.hid (hvec.out.keep qq)
                  replace bV := Lib.hid (below_wt bV.out qq)
                  have hVc := hvec.out.1
                  have cO0 := Lib.hid (fun w1 (hb : Below w8.heap.size w8 w1) => (show w1.cell? ⟨O, 0, none⟩ = some (.slice na k nc) from by have h := (hVc.keep hb hVc.lt).cell 0; rw [hkl.out] at h; exact h))
                  clear e10 hf h10 hLeft0 q15 q16 qq hVc dX0 dA0 dA1 dB0 dB1 c1 c2 hx hy hX hDA hDB hRest
                  go_upto_region 17 with fail
                  refine' Rgn.region_by (fun i => match i with | 7 => 1 | 8 => 2 | 9 => 3 | _ => 0) 3 (fun _ => false) (fun i _ v w' => match i with
                      | 0 => v = .pointer (some ⟨O, 0, none⟩)
                      | 1 => v = .slice na k nc
                      | 2 => v = .slice la ll lc
                      | 3 => v = .slice ha hl hc
                      | 4 => LongS w' v (X * (XN * DB) + (E - X) * (YN * DA))
                      | 5 => LongS w' v (X * (XN * DB) + (E - X) * (YN * DA))
                      | 6 => ∃ b p, v = .slice (some ⟨b, 0, none⟩) 1 1 ∧ Blk w' b #[p] 77 ∧ LongS w' p (X * (XN * DB) + (E - X) * (YN * DA))
                      | _ => True) (fun i _ v => match i with
                      | 0 => v = .pointer (some ⟨O, 0, none⟩)
                      | 1 => v = .slice na k nc
                      | 2 => v = .slice la ll lc
                      | 3 => v = .slice ha hl hc
                      | 4 => True
                      | 5 => True
                      | 6 => True
                      | _ => True)
                      (fun p z w' => ∃ g cap, z 7 = .slice (some ⟨g, 0, none⟩) (k + 1) cap ∧ (p ≤ 2 → Blk w' O #[.slice na k nc, .slice da dl dc] 104 ∧ MadeL LongS 77 w' (O + 1) (.slice (some ⟨g, 0, none⟩) (k + 1) cap) (MN.take k ++ [X * (XN * DB) + (E - X) * (YN * DA)]) ∧ LongS w' (.slice da dl dc) (E * (DA * DB)) ∧ O + 1 ≤ g) ∧ (p = 2 → z 8 = .pointer (some ⟨O, 0, none⟩)) ∧ (p = 3 → VecAt w' O (MN.take k ++ [X * (XN * DB) + (E - X) * (YN * DA)]) (some ⟨g, 0, none⟩) cap (.slice da dl dc) (E * (DA * DB))) ∧ Below V.heap.size V w') (by kernel_rfl) (by kernel_rfl) (by kernel_rfl) ?hst_d ?hG_d _ ?hfr_d ?hob_d ?hend_d
                  case hfr_d =>
                    intro z
                    simp only [Rgn.fillAll, Act.put, List.setIfInBounds_toArray, List.set_cons_zero, List.set_cons_succ, Nat.reduceAdd, Nat.zero_add]
                    exact rfl
                  case hst_d =>
                    intro i z v w1 w2 hi hb hx
                    rcases i with _ | i
                    · exact hx
                    rcases i with _ | i
                    · exact hx
                    rcases i with _ | i
                    · exact hx
                    rcases i with _ | i
                    · exact hx
                    rcases i with _ | i
                    · exact (fun v w1 w2 hb h => h.keep hb) v w1 w2 hb hx
                    rcases i with _ | i
                    · exact (fun v w1 w2 hb h => h.keep hb) v w1 w2 hb hx
                    rcases i with _ | i
                    · exact (fun v w1 w2 hb h => h.elim fun b h => h.elim fun p h => ⟨b, p, h.1, h.2.1.step hb, h.2.2.keep hb⟩) v w1 w2 hb hx
                    rcases i with _ | i
                    · exact trivial
                    rcases i with _ | i
                    · exact trivial
                    rcases i with _ | i
                    · exact trivial
                    exact trivial
                  case hG_d =>
                    intro i z v w1 hi hx
                    rcases i with _ | i
                    · exact hx
                    rcases i with _ | i
                    · exact hx
                    rcases i with _ | i
                    · exact hx
                    rcases i with _ | i
                    · exact hx
                    rcases i with _ | i
                    · trivial
                    rcases i with _ | i
                    · trivial
                    rcases i with _ | i
                    · trivial
                    rcases i with _ | i
                    · exact trivial
                    rcases i with _ | i
                    · exact trivial
                    rcases i with _ | i
                    · exact trivial
                    exact trivial
                  case hob_d =>
                    intro hfr
                    refine Rgn.AllOb.cons (j := 1) (by kernel_rfl) ?_ ?_
                    · refine' Rgn.ob_body (fr := _) ?hf_d0 ?h1_d0 ?h2_d0 ?h3_d0 ?h_d0
                      case hf_d0 => exact hfr
                      case h1_d0 => kernel_rfl
                      case h2_d0 => kernel_rfl
                      case h3_d0 => rfl
                      clear hfr
                      intro z w1 hb hd ho K hK
                      clear hd ho
                      go_simp
                      have hh := hK.out (.pointer (some ⟨O, 0, none⟩)) _ (Below.refl _ _) rfl
                      simp only [Act.put, List.setIfInBounds_toArray, List.set_cons_zero, List.set_cons_succ] at hh
                      exact hh
                    refine Rgn.AllOb.cons (j := 2) (by kernel_rfl) ?_ ?_
                    · refine' Rgn.ob_body (fr := _) ?hf_d1 ?h1_d1 ?h2_d1 ?h3_d1 ?h_d1
                      case hf_d1 => exact hfr
                      case h1_d1 => kernel_rfl
                      case h2_d1 => kernel_rfl
                      case h3_d1 => rfl
                      clear hfr
                      intro z w1 hb hd ho K hK
                      have e0 : z 0 = .pointer (some ⟨O, 0, none⟩) := hd.out 0 (by kernel_rfl)
                      clear hd ho
                      have x0 := cO0.out w1 hb
                      go_simp
                      have hh := hK.out (.slice na k nc) _ (Below.refl _ _) rfl
                      simp only [Act.put, List.setIfInBounds_toArray, List.set_cons_zero, List.set_cons_succ, e0] at hh
                      exact hh
                    refine Rgn.AllOb.cons (j := 3) (by kernel_rfl) ?_ ?_
                    · refine' Rgn.ob_body (fr := _) ?hf_d2 ?h1_d2 ?h2_d2 ?h3_d2 ?h_d2
                      case hf_d2 => exact hfr
                      case h1_d2 => kernel_rfl
                      case h2_d2 => kernel_rfl
                      case h3_d2 => rfl
                      clear hfr
                      intro z w1 hb hd ho K hK
                      clear hd ho
                      go_simp
                      have hh := hK.out (.slice la ll lc) _ (Below.refl _ _) rfl
                      simp only [Act.put, List.setIfInBounds_toArray, List.set_cons_zero, List.set_cons_succ] at hh
                      exact hh
                    refine Rgn.AllOb.cons (j := 4) (by kernel_rfl) ?_ ?_
                    · refine' Rgn.ob_body (fr := _) ?hf_d3 ?h1_d3 ?h2_d3 ?h3_d3 ?h_d3
                      case hf_d3 => exact hfr
                      case h1_d3 => kernel_rfl
                      case h2_d3 => kernel_rfl
                      case h3_d3 => rfl
                      clear hfr
                      intro z w1 hb hd ho K hK
                      clear hd ho
                      go_simp
                      have hh := hK.out (.slice ha hl hc) _ (Below.refl _ _) rfl
                      simp only [Act.put, List.setIfInBounds_toArray, List.set_cons_zero, List.set_cons_succ] at hh
                      exact hh
                    refine Rgn.AllOb.cons (j := 5) (by kernel_rfl) ?_ ?_
                    · refine' Rgn.ob_body (fr := _) ?hf_d4 ?h1_d4 ?h2_d4 ?h3_d4 ?h_d4
                      case hf_d4 => exact hfr
                      case h1_d4 => kernel_rfl
                      case h2_d4 => kernel_rfl
                      case h3_d4 => rfl
                      clear hfr
                      intro z w1 hb hd ho K hK
                      have e2 : z 2 = .slice la ll lc := hd.out 2 (by kernel_rfl)
                      have e3 : z 3 = .slice ha hl hc := hd.out 3 (by kernel_rfl)
                      clear hd ho
                      go_simp
                      refine (l01Plus_any _ _ (X * (XN * DB)) ((E - X) * (YN * DA)) _ (hLeft.out.keep hb) (hRight.out.keep hb) (by omega) (by omega)).mono ?_
                      rintro e w2 ⟨r, rfl, hr, b⟩
                      have hh := hK.out _ _ b hr
                      simp only [Act.put, List.setIfInBounds_toArray, List.set_cons_zero, List.set_cons_succ, e2, e3] at hh
                      exact hh
                    refine Rgn.AllOb.cons (j := 6) (by kernel_rfl) ?_ ?_
                    · refine' Rgn.ob_body (fr := _) ?hf_d5 ?h1_d5 ?h2_d5 ?h3_d5 ?h_d5
                      case hf_d5 => exact hfr
                      case h1_d5 => kernel_rfl
                      case h2_d5 => kernel_rfl
                      case h3_d5 => rfl
                      clear hfr
                      intro z w1 hb hd ho K hK
                      have e4 : LongS w1 (z 4) (X * (XN * DB) + (E - X) * (YN * DA)) := hd.out 4 (by kernel_rfl)
                      clear hd ho
                      go_simp
                      refine (cut_long _ _ _ e4).mono ?_
                      rintro e w2 ⟨r, rfl, hr, b⟩
                      have hh := hK.out _ _ b hr
                      simp only [Act.put, List.setIfInBounds_toArray, List.set_cons_zero, List.set_cons_succ] at hh
                      exact hh
                    refine Rgn.AllOb.cons (j := 7) (by kernel_rfl) ?_ ?_
                    · refine' Rgn.ob_body (fr := _) ?hf_d6 ?h1_d6 ?h2_d6 ?h3_d6 ?h_d6
                      case hf_d6 => exact hfr
                      case h1_d6 => kernel_rfl
                      case h2_d6 => kernel_rfl
                      case h3_d6 => rfl
                      clear hfr
                      intro z w1 hb hd ho K hK
                      have e5 : LongS w1 (z 5) (X * (XN * DB) + (E - X) * (YN * DA)) := hd.out 5 (by kernel_rfl)
                      clear hd ho
                      go_simp
                      obtain ⟨_, pa', pc', e5a⟩ := e5.len
                      rw [e5a] at e5
                      simp only [e5a]
                      go_simp
                      have hh := hK.out (.slice (some ⟨w1.heap.size, 0, none⟩) 1 1) _ (below1 _ (.cells #[.slice pa' (dlen B9 (X * (XN * DB) + (E - X) * (YN * DA))) pc'] 77)) ⟨_, _, rfl, Blk.new _ _ _, e5.keep (below1 _ _)⟩
                      simp only [Act.put, List.setIfInBounds_toArray, List.set_cons_zero, List.set_cons_succ, e5a] at hh
                      exact hh
                    refine Rgn.AllOb.cons (j := 8) (by kernel_rfl) ?_ ?_
                    · refine' Rgn.ob_tail0 (fr := _) ?hf_d7 ?h1_d7 ?h3_d7 ?h_d7
                      case hf_d7 => exact hfr
                      case h1_d7 => kernel_rfl
                      case h3_d7 => rfl
                      clear hfr
                      intro z w1 hb hf hd ho K hK
                      have e1 : z 1 = .slice na k nc := hd.out 1 rfl (by kernel_rfl)
                      obtain ⟨b, p, e6, hXb, hp⟩ : ∃ b p, z 6 = .slice (some ⟨b, 0, none⟩) 1 1 ∧ Blk w1 b #[p] 77 ∧ LongS w1 p (X * (XN * DB) + (E - X) * (YN * DA)) := hf.out 6 (by decide) rfl rfl
                      have hVw := hvec.out.keep hb
                      refine wp_append_long (ops := #[]) rfl _ _ rfl O (.slice na k nc) (MN.take k) (by have := hVw.2.1; rw [hkl.out] at this; exact this) (by simp [Act.eval, e1]) b 1 p _ (by simp [Act.eval, e6]) hXb hp (by rw [hkl.out]; omega) (by have := hVw.1.lt; omega) ?_
                      intro g cap w2 hM hg b2 hkeep
                      rw [hkl.out] at hM ⊢
                      have hh := hK.out (.slice (some ⟨g, 0, none⟩) (k + 1) cap) _ ⟨g, cap, rfl, fun _ => ⟨by have := hVw.1.keep b2 (Nat.lt_succ_self O); rw [hkl.out] at this; exact this, hM, hkeep _ _ hVw.2.2, hg⟩, (fun h => absurd h (by decide)), (fun h => absurd h (by decide)), (below_wt bV.out hb).trans (b2.mono (by have := hOV.out; omega))⟩
                      exact hh
                    refine Rgn.AllOb.cons (j := 9) (by kernel_rfl) ?_ ?_
                    · refine' Rgn.ob_tail (fr := _) ?hf_d8 ?h1_d8 ?h3_d8 ?hp_d8 ?h4_d8 ?h_d8
                      case hp_d8 => exact 1
                      case hf_d8 => exact hfr
                      case h1_d8 => kernel_rfl
                      case h3_d8 => rfl
                      case h4_d8 => kernel_rfl
                      clear hfr
                      intro z w1 hT hd ho K hK
                      obtain ⟨g, cap, e7, h1, _, _, bb⟩ := hT
                      have h1' := h1 (by decide)
                      replace e7 : z 7 = .slice (some ⟨g, 0, none⟩) (k + 1) cap := e7
                      clear hd ho h1
                      go_simp
                      have hh := hK.out (.pointer (some ⟨O, 0, none⟩)) _ ⟨g, cap, e7, fun _ => h1', fun _ => rfl, (fun h => absurd h (by decide)), bb⟩
                      simp only [Act.put, List.setIfInBounds_toArray, List.set_cons_zero, List.set_cons_succ, e7] at hh
                      first | exact hh | (simp only [e7]; exact hh)
                    refine Rgn.AllOb.cons (j := 10) (by kernel_rfl) ?_ ?_
                    · refine' Rgn.ob_tail (fr := _) ?hf_d9 ?h1_d9 ?h3_d9 ?hp_d9 ?h4_d9 ?h_d9
                      case hp_d9 => exact 2
                      case hf_d9 => exact hfr
                      case h1_d9 => kernel_rfl
                      case h3_d9 => rfl
                      case h4_d9 => kernel_rfl
                      clear hfr
                      intro z w1 hT hd ho K hK
                      obtain ⟨g, cap, e7, h1, h8, _, bb⟩ := hT
                      obtain ⟨hX, hM, hD, hg⟩ := h1 (by decide)
                      replace e7 : z 7 = .slice (some ⟨g, 0, none⟩) (k + 1) cap := e7
                      have e8 : z 8 = .pointer (some ⟨O, 0, none⟩) := h8 rfl
                      have y0 := hX.cell 0
                      have f0 := hX.frozen 0
                      simp only [List.getElem?_toArray, List.getElem?_cons_zero] at y0
                      clear hd ho h1 h8
                      go_simp
                      have hst := VecAt.store (R := MN.take k) (by rw [hkl.out]; exact hX) (by rw [hkl.out]; exact hM) hg hD
                      rw [hkl.out] at hst
                      have hh := hK.out undef _ ⟨g, cap, e7, (fun h => absurd h (by decide)), (fun h => absurd h (by decide)), fun _ => hst, bb.setCell (p := ⟨O, 0, none⟩) hOV.out _⟩
                      simp only [Act.put, List.setIfInBounds_toArray, List.set_cons_zero, List.set_cons_succ, e7, e8] at hh
                      exact hh
                    exact Rgn.AllOb.nil
                  case hend_d =>
                    intro hfr
                    refine' Rgn.end_tails (fr := _) ?g1_d ?g2_d ?g3_d
                    case g1_d => exact hfr
                    case g2_d => rfl
                    clear hfr
                    intro z w9 hT hg
                    obtain ⟨g, cap, e7, _, _, h2, bb⟩ := hT
                    have hnew := Lib.hid (h2 rfl)
                    replace bb := Lib.hid bb
                    clear hg e7 h2 hvec bV hLeft hRight cO0
                    go_wp2
                    go_roundw
                    case rel => exact ⟨k + 1, _, _, by have := hlt'.out; omega, by go_num, by rw [hnx.out]; exact hnew, bb⟩
                    case measure => have := hlt'.out; simp [intOf]; omega
            · obtain rfl : k = rn := by omega
              have hall : MN.take k = MN := by rw [← mlen.out]; exact List.take_length
              rw [hall] at hvec
              have hB := hvec.out.1
              have hM := hvec.out.2.1.done
              have hD := hvec.out.2.2
              have hsz := msz.out
              have htold := Lib.hid (told_any O na da MN.length nc dl dc MN (E * (DA * DB)) wr hB rfl hM hD pos.out (fun i hi => Nat.le_trans (hsz i hi) (by omega)) (by omega) (by rw [mlen.out]; omega))
              have bel := Lib.hid (below_wt BV.out bV.out)
              have hlt' : ¬ (k : Int) < (k : Int) := by omega
              clear hB hM hD hsz hvec hrow hrow2 cX0 cX1 cA0 cA1 cB0 cB1 hX hDA hDB hRest hE pos msz nx bV hall
              go_wp2_with fail
              (with_reducible refine htold.out.mono ?_)
              rintro e w7 ⟨v, rfl, hown, b7⟩
              have hfin := Lib.hid (hown.wide (lo' := w.heap.size) (hi' := w7.heap.size) bel.out.size (Nat.le_refl _))
              have Bf := Lib.hid (below_wt bel.out b7)
              clear hown b7 htold
              go_wp2
              go_ret2
              exact ⟨v, by rw [hvl.out]; rfl, by rw [hvl.out]; exact hfin.out, Bf.out⟩
    · have hr := Lib.hid (mixR_len (s := (sn, sd)) hok (by rw [← hnp'.out, ← hnq'.out]; exact hlen))
      have hfin := Lib.hid (frOwn_none (w3.alloc (.cells #[.slice xa xl xc, .slice ea el ec] 79)) w.heap.size _ B3b.out.size (by simp) : FrOwn _ w.heap.size ((w3.alloc (.cells #[.slice xa xl xc, .slice ea el ec] 79)).alloc (.cells #[] 25)).heap.size _ [])
      have Bf := Lib.hid (below_wt B3b.out (below1 _ (.cells #[] 25)))
      rw [ho1, ho2, ho3]
      have hd1 : ¬ (np : Int) = (nq : Int) := by omega
      clear ho1 ho2 ho3 hok hval' hvl2' hvl3' hXb hA3 hB3 bA b23
      simp only [World.size_alloc] at hfin
      go_wp2
      go_ret2
      exact ⟨.slice (some ⟨w3.heap.size + 1, 0, none⟩) 0 0, by rw [hr.out]; rfl, by rw [hr.out]; have := hfin.out; simpa using this, Bf.out⟩
end Go.Proofs.YtcbpbhaimjhelaaGreatDoor
