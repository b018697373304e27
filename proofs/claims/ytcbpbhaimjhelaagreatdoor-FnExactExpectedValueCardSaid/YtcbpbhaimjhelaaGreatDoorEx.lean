/- ExpectedValue of both sides. Conditions: at most 2 * 10^6 values. -/
import Derived.Test.YtcbpbhaimjhelaaGreatDoorMx
import Derived.Test.YtcbpbhaimjhelaaGreatDoorRg
import Derived.Test.YtcbpbhaimjhelaaGreatDoorOpsG
namespace Go.Proofs.YtcbpbhaimjhelaaGreatDoor
open Go.RowKit Go.Deep
set_option linter.unusedVariables false
set_option linter.unusedSimpArgs false

/-- what ExpectedValue hands back -/
def expR (p q : List (ByteArray × ByteArray)) : ByteArray × ByteArray × Int :=
  if (spreadB p && frsOk q) = true then (if p.length = q.length then (toldN (lowP (sumR (prodP (numP p) (numP q)))).1 (lowP (sumR (prodP (numP p) (numP q)))).2, toldD (lowP (sumR (prodP (numP p) (numP q)))).1 (lowP (sumR (prodP (numP p) (numP q)))).2, toldC (lowP (sumR (prodP (numP p) (numP q)))).1 (lowP (sumR (prodP (numP p) (numP q)))).2)
    else (⟨#[]⟩, ⟨#[]⟩, 2)) else (⟨#[]⟩, ⟨#[]⟩, 1)
theorem spreadB_frs {p : List (ByteArray × ByteArray)} (h : spreadB p = true) : frsOk p = true ∧ 1 ≤ p.length ∧ p.length ≤ 6 := by
  unfold spreadB at h
  simp only [Bool.and_eq_true, decide_eq_true_eq] at h
  exact ⟨h.2.1, h.1⟩
/-- what both sides need of a spread and a list -/
structure ExpF (p q : List (ByteArray × ByteArray)) (n : Nat) (R1 R2 : List Nat) (D1 D2 XR : Nat) (tn td : ByteArray) (tcd : Int) : Prop where
  n6 : n ≤ 6
  l1 : R1.length = n
  l2 : R2.length = n
  s1 : ∀ i, i < n → dlen B9 (R1.getD i 0) ≤ 3300
  s2 : ∀ i, i < n → dlen B9 (R2.getD i 0) ≤ 3300
  d1 : dlen B9 D1 ≤ 3000
  d2 : dlen B9 D2 ≤ 3000
  pos : 0 < D1 * D2
  nx : ∀ k, k < n → sumL ((prodN R1 R2).take (k + 1)) = sumL ((prodN R1 R2).take k) + R1.getD k 0 * R2.getD k 0
  sz : ∀ k, k ≤ n → dlen B9 (sumL ((prodN R1 R2).take k)) ≤ 6600 + k
  all : sumL ((prodN R1 R2).take n) = XR
  etn : toldN (XR / Nat.gcd XR (D1 * D2)) ((D1 * D2) / Nat.gcd XR (D1 * D2)) = tn
  etd : toldD (XR / Nat.gcd XR (D1 * D2)) ((D1 * D2) / Nat.gcd XR (D1 * D2)) = td
  etc : toldC (XR / Nat.gcd XR (D1 * D2)) ((D1 * D2) / Nat.gcd XR (D1 * D2)) = tcd
  val : expR p q = (tn, td, tcd)
theorem expF_of (p q : List (ByteArray × ByteArray)) (h1 : spreadB p = true) (h2 : frsOk q = true) (hl : p.length = q.length) :
    ∃ XR tn td tcd, ExpF p q p.length (comN (comD (numP p)) (numP p)) (comN (comD (numP q)) (numP q)) (comD (numP p)) (comD (numP q)) XR tn td tcd := by
  obtain ⟨f1, a1, a2⟩ := spreadB_frs h1
  have pl := numP_length p
  have ql := numP_length q
  have e1 := comD_len9 (numP p) 300 (numP_len9 f1)
  have e2 := comD_len9 (numP q) 300 (numP_len9 h2)
  have g1 : dlen B9 (comD (numP p)) ≤ 3000 := by rw [pl] at e1; omega
  have g2 : dlen B9 (comD (numP q)) ≤ 3000 := by rw [ql] at e2; omega
  have r1 := comN_len (numP p) 300 _ 3000 (numP_len9 f1) g1
  have r2 := comN_len (numP q) 300 _ 3000 (numP_len9 h2) g2
  have p1 := comD_pos (numP p) (numP_den f1) _ (Nat.le_refl _)
  have p2 := comD_pos (numP q) (numP_den h2) _ (Nat.le_refl _)
  rw [List.take_length] at p1 p2
  have L1 : (comN (comD (numP p)) (numP p)).length = p.length := by rw [comN_length, pl]
  have L2 : (comN (comD (numP q)) (numP q)).length = p.length := by rw [comN_length, ql, hl]
  have hps := prods_same (numP p) (numP q) (by rw [pl, ql, hl]) (numP_den f1) (numP_den h2)
  have hval : expR p q = (toldN (lowP (sumR (prodP (numP p) (numP q)))).1 (lowP (sumR (prodP (numP p) (numP q)))).2, toldD (lowP (sumR (prodP (numP p) (numP q)))).1 (lowP (sumR (prodP (numP p) (numP q)))).2, toldC (lowP (sumR (prodP (numP p) (numP q)))).1 (lowP (sumR (prodP (numP p) (numP q)))).2) := by
    unfold expR; rw [if_pos (by rw [h1, h2]; rfl), if_pos hl]
  rw [hps] at hval
  have hPl : (prodN (comN (comD (numP p)) (numP p)) (comN (comD (numP q)) (numP q))).length = p.length := by rw [prodN_length, L1]
  refine ⟨_, _, _, _, ⟨a2, L1, L2, fun i hi => r1 i (by rw [L1]; exact hi), fun i hi => r2 i (by rw [L2]; exact hi), g1, g2, Nat.mul_pos p1 p2, fun k hk => ?_, fun k hk => ?_, ?_, rfl, rfl, rfl, hval⟩⟩
  · rw [prodN_take _ _ _ (by rw [L1]; exact hk), sumL_add]
  · refine sumL_len _ 6600 (fun i hi => ?_) k (by rw [hPl]; exact hk)
    rw [hPl] at hi
    rw [prodN_get _ _ _ (by rw [L1]; exact hi)]
    exact mul_dlen' (r1 i (by rw [L1]; exact hi)) (r2 i (by rw [L2]; exact hi))
  · rw [← hPl, List.take_length]
theorem expR_bad {p q : List (ByteArray × ByteArray)} (h : (spreadB p && frsOk q) = false) : expR p q = (⟨#[]⟩, ⟨#[]⟩, 1) := by
  unfold expR; rw [if_neg (by rw [h]; decide)]
theorem expR_len {p q : List (ByteArray × ByteArray)} (h1 : spreadB p = true) (h2 : frsOk q = true) (h : ¬ p.length = q.length) : expR p q = (⟨#[]⟩, ⟨#[]⟩, 2) := by
  unfold expR; rw [if_pos (by rw [h1, h2]; rfl), if_neg h]

set_option maxRecDepth 100000 in
set_option maxHeartbeats 8000000 in
theorem ExpectedValue_spec (v1 v2 : Value) (p q : List (ByteArray × ByteArray)) (w : World) (h1 : FrL w v1 p) (h2 : FrL w v2 q) (hq : q.length ≤ 2000000) :
    Calls Tryz.prog 45 #[v1, v2] w fun e w' => e = .returned (opV (expR p q)) ∧ Below w.heap.size w w' := by
  obtain ⟨hm1, va, vc, rfl, _⟩ := id h1
  obtain ⟨hm2, ua, uc, rfl, _⟩ := id h2
  unfold maxLen at hm1 hm2
  have hZ := Blk.new w #[.string ⟨#[]⟩, .string ⟨#[]⟩] 25
  have b0 := below1 w (.cells #[.string ⟨#[]⟩, .string ⟨#[]⟩] 25)
  have hs := Lib.hid (l01Spread_any (.slice va p.length vc) p _ (h1.keep b0))
  have h2' := Lib.hid (h2.keep b0)
  obtain ⟨np, hnp⟩ : ∃ n, n = p.length := ⟨_, rfl⟩
  obtain ⟨nq, hnq⟩ : ∃ n, n = q.length := ⟨_, rfl⟩
  rw [← hnp] at hm1 hs ⊢
  rw [← hnq] at hm2 hq h2' ⊢
  have hnp' := Lib.hid hnp
  have hnq' := Lib.hid hnq
  clear h1 h2 hnp hnq
  go_enter Tryz.func45, Tryz.ntmps45
  go_wp2_with fail
  (with_reducible refine hs.out.mono ?_)
  rintro e w1 ⟨pa, qa, pn, pc, ql, qc, rfl, b1, hval⟩
  have bx := below1 w1 (.cells #[.slice pa pn pc, .slice qa ql qc] 104)
  have hV := Blk.new w1 #[.slice pa pn pc, .slice qa ql qc] 104
  have hl := Lib.hid (l01List_any (.slice ua nq uc) q _ (by rw [hnq'.out] at h2' ⊢; exact (h2'.out.keep b1).keep bx) (by rw [← hnq'.out]; exact hq))
  have hval' := Lib.hid hval
  have hlt1 := (hZ.keep b1 hZ.lt).lt
  have hZ1 := (hZ.keep b1 hZ.lt).alloc (.cells #[.slice pa pn pc, .slice qa ql qc] 104)
  have B1b := Lib.hid (below_wt (below_wt b0 b1) bx)
  clear hval hZ b0 b1 hs h2' bx
  go_wp2_with fail
  (with_reducible refine hl.out.mono ?_)
  rintro e w2 ⟨la, ln, lc, rfl, b2, hlist⟩
  have hlist' := Lib.hid hlist
  have hZ2 := hZ1.keep b2 hZ1.lt
  have hV2 := hV.keep b2 hV.lt
  have B2b := Lib.hid (below_wt B1b.out b2)
  clear hlist hZ1 hV hl
  have hne : w.heap.size ≠ w1.heap.size := Nat.ne_of_lt hlt1
  obtain ⟨z0, z1⟩ := (⟨hZ2.cell 0, hZ2.cell 1⟩ : _ ∧ _)
  have f0 := hZ2.frozen 0
  have f1 := hZ2.frozen 1
  simp only [List.getElem?_toArray, List.getElem?_cons_zero, List.getElem?_cons_succ] at z0 z1
  have hBz := Lib.hid (fun x y => (B2b.out.setCell (p := ⟨w.heap.size, 0, none⟩) (Nat.le_refl _) x).setCell (p := ⟨w.heap.size, 1, none⟩) (Nat.le_refl _) y)
  rcases hok : (spreadB p && frsOk q) with _ | _
  · have hr := Lib.hid (expR_bad hok)
    clear hlist' hval' hV2 hZ2
    rcases ho1 : spreadB p with _ | _
    · go_wp2
      refine bodyPost_ret (v := .tuple #[.agg #[.string ⟨#[]⟩, .string ⟨#[]⟩], .int .i64 1]) (by simp [results, Tryz.results45, go_sem, z0, z1]) rfl ?_
      exact ⟨by rw [hr.out]; rfl, hBz.out _ _⟩
    · have ho2 : frsOk q = false := by rw [ho1] at hok; simpa using hok
      rw [ho2]
      clear ho1 ho2 hok
      go_wp2
      refine bodyPost_ret (v := .tuple #[.agg #[.string ⟨#[]⟩, .string ⟨#[]⟩], .int .i64 1]) (by simp [results, Tryz.results45, go_sem, z0, z1]) rfl ?_
      exact ⟨by rw [hr.out]; rfl, hBz.out _ _⟩
  · obtain ⟨ho1, ho2⟩ : spreadB p = true ∧ frsOk q = true := by simpa using hok
    by_cases hlen : np = nq
    · obtain ⟨hrow, hden⟩ := hval'.out ho1
      obtain ⟨hln, hpair⟩ := hlist'.out ho2
      obtain ⟨XR, tn, td, tcd, ef⟩ := expF_of p q ho1 ho2 (by rw [← hnp'.out, ← hnq'.out]; exact hlen)
      have h6 : nq ≤ 6 := by have := ef.n6; rw [← hnp'.out] at this; omega
      have hcm := Lib.hid (l01Common_any (.slice la ln lc) (numP q) 300 w2 hpair (numP_len9 ho2) (numP_den ho2) (by rw [numP_length, ← hnq'.out]; omega) (by rw [numP_length, ← hnq'.out]; omega))
      rw [← hnp'.out] at ef
      obtain ⟨n6, l1, l2, s1, s2, d1, d2, pos, nx, sz, allX, htn, htd, htc, hvl⟩ := ef
      have hpn : pn = np := by
        obtain ⟨a', c', e⟩ := hrow.shape
        injection e with _ e2 _
        rw [e2, l1]
      subst hpn
      obtain rfl : pn = nq := hlen
      rw [ho1, ho2]
      obtain ⟨R1, hR1⟩ : ∃ R, comN (comD (numP p)) (numP p) = R := ⟨_, rfl⟩
      obtain ⟨R2, hR2⟩ : ∃ R, comN (comD (numP q)) (numP q) = R := ⟨_, rfl⟩
      rw [hR1] at hrow l1 s1 nx sz allX
      rw [hR2] at hcm l2 s2 nx sz allX
      obtain ⟨DA, hDA⟩ : ∃ D, comD (numP p) = D := ⟨_, rfl⟩
      obtain ⟨DB, hDB⟩ : ∃ D, comD (numP q) = D := ⟨_, rfl⟩
      rw [hDA] at hden d1 pos htn htd htc
      rw [hDB] at hcm d2 pos htn htd htc
      replace htn := Lib.hid htn; replace htd := Lib.hid htd; replace htc := Lib.hid htc; replace hvl := Lib.hid hvl
      replace nx := Lib.hid nx; replace sz := Lib.hid sz; replace allX := Lib.hid allX; replace s1 := Lib.hid s1; replace s2 := Lib.hid s2
      replace l1 := Lib.hid l1; replace l2 := Lib.hid l2
      have hpos := Lib.hid pos
      clear hR1 hR2 hDA hDB ho1 ho2 hok hlist' hval' hpair pos z0 z1 f0 f1 hBz
      have hln' := Lib.hid hln
      clear hln
      go_wp2_with fail
      (with_reducible refine hcm.out.mono ?_)
      rintro e w3 ⟨rv, tv, rfl, hrow2, hden2, b3, _⟩
      obtain ⟨ra, rc, rfl⟩ := hrow2.shape
      rw [l2.out] at hrow2 ⊢
      obtain ⟨_, ta, tc, rfl⟩ := hden2.len
      obtain ⟨tl, htl⟩ : ∃ l, dlen B9 DB = l := ⟨_, rfl⟩
      rw [htl] at hden2 ⊢
      clear htl
      have bY := below2 w3 (.cells #[.slice ra pn rc, .slice ta tl tc] 104) (.cells #[] 2)
      have hV3 := ((Blk.new w3 #[.slice ra pn rc, .slice ta tl tc] 104).alloc (.cells #[] 2))
      have h0s := zero_long0 (w3.alloc (.cells #[.slice ra pn rc, .slice ta tl tc] 104))
      simp only [World.size_alloc] at h0s
      have h0 := Lib.hid (show LongS _ _ (sumL ((prodN R1 R2).take 0)) from h0s)
      have hRb := Lib.hid ((hZ2.keep b3 hZ2.lt).keep bY (by have := (hZ2.keep b3 hZ2.lt).lt; exact this))
      have hV1 := Lib.hid ((hV2.keep b3 hV2.lt).keep bY (hV2.keep b3 hV2.lt).lt)
      replace hV3 := Lib.hid hV3
      replace hrow := Lib.hid (((hrow.keep likeS (below_wt (below1 w1 _) b2)).keep likeS b3).keep likeS bY)
      replace hrow2 := Lib.hid (hrow2.keep likeS bY)
      have hqd := Lib.hid (((hden.keep (below_wt (below1 w1 _) b2)).keep b3).keep bY)
      have ht := Lib.hid (hden2.keep bY)
      have BV := Lib.hid (below_wt (below_wt B2b.out b3) bY)
      clear h0s hZ2 hV2 hden hden2 b3 bY B2b B1b b2 hcm
      obtain ⟨V, hVe⟩ : ∃ V, (w3.alloc (.cells #[.slice ra pn rc, .slice ta tl tc] 104)).alloc (.cells #[] 2) = V := ⟨_, rfl⟩
      rw [hVe] at h0 hRb hV1 hV3 hrow hrow2 hqd ht BV
      have hVe' := Lib.hid hVe
      clear hVe
      go_upto_region 9 with fail
      rw [hVe'.out]
      clear hVe'
      generalize w1.heap.size = B1 at *
      generalize w3.heap.size = B2 at *
      have BV0 := Lib.hid (Below.refl V.heap.size V)
      go_wp2
      go_loopw [11, 12] (fun s i wr => ∃ (k sl sc : Nat) (sa : Option Addr), k ≤ pn ∧ i = .int .i64 (k : Int) ∧ s = .slice sa sl sc ∧ Hid (LongS wr (.slice sa sl sc) (sumL ((prodN R1 R2).take k))) ∧ Hid (Below V.heap.size V wr)) (fun _ i _ => pn - (intOf i).toNat)
      case atStart => exact ⟨0, _, _, _, Nat.zero_le _, rfl, rfl, h0, BV0⟩
      case round =>
        obtain ⟨k, sl, sc, sa, hk, rfl, rfl, hsum, bV⟩ := hrel
        have hV1' := hV1.out.keep bV.out hV1.out.lt
        have hV3' := hV3.out.keep bV.out hV3.out.lt
        by_cases hlt : k < pn
        · obtain ⟨b1, o1, x, rfl, q2, hx0⟩ := (hrow.out.keep likeS bV.out).at k (by rw [l1.out]; exact hlt)
          obtain ⟨b2, o2, y, rfl, q3, hy0⟩ := (hrow2.out.keep likeS bV.out).at k (by rw [l2.out]; exact hlt)
          obtain ⟨_, xa, xc, rfl⟩ := hx0.len
          obtain ⟨_, ya, yc, rfl⟩ := hy0.len
          have t1 := s1.out k hlt
          have t2 := s2.out k hlt
          have t3 := sz.out k hk
          have hnx := Lib.hid (nx.out k hlt)
          generalize R1.getD k 0 = XN at *
          generalize R2.getD k 0 = YN at *
          generalize sumL ((prodN R1 R2).take k) = SN at *
          have t4 := mul_dlen' t1 t2
          have c0 := Lib.hid (fun w1 (hb : Below wr.heap.size wr w1) => (show w1.cell? ⟨B1, 0, none⟩ = some (.slice (some ⟨b1, o1, none⟩) pn pc) from (hV1'.keep hb hV1'.lt).cell 0))
          have c1 := Lib.hid (fun w1 (hb : Below wr.heap.size wr w1) => (show w1.cell? ⟨B2, 0, none⟩ = some (.slice (some ⟨b2, o2, none⟩) pn rc) from (hV3'.keep hb hV3'.lt).cell 0))
          have c2 := Lib.hid (fun w1 (hb : Below wr.heap.size wr w1) => (hb.cell (p := ⟨b1, o1 + k, none⟩) (block_lt q2)).trans q2)
          have c3 := Lib.hid (fun w1 (hb : Below wr.heap.size wr w1) => (hb.cell (p := ⟨b2, o2 + k, none⟩) (block_lt q3)).trans q3)
          have hx := Lib.hid hx0
          have hy := Lib.hid hy0
          have i1 : (0 : Int) ≤ (k : Int) := by omega
          have i2 : (k : Int) < (pn : Int) := by omega
          have hlt' := Lib.hid hlt
          clear hx0 hy0 q2 q3 hV1' hV3'
          go_upto_region 12 with fail
          refine' region_by 14 (fun _ => false) (fun i _ v w' => match i with
              | 0 => v = .slice sa sl sc
              | 1 => v = .pointer (some ⟨B1, 0, none⟩)
              | 2 => v = .slice (some ⟨b1, o1, none⟩) pn pc
              | 3 => v = .int .i64 (k : Int)
              | 4 => v = .pointer (some ⟨b1, o1 + k, none⟩)
              | 5 => v = .slice xa (dlen B9 XN) xc
              | 6 => v = .pointer (some ⟨B2, 0, none⟩)
              | 7 => v = .slice (some ⟨b2, o2, none⟩) pn rc
              | 8 => v = .int .i64 (k : Int)
              | 9 => v = .pointer (some ⟨b2, o2 + k, none⟩)
              | 10 => v = .slice ya (dlen B9 YN) yc
              | 11 => LongS w' v (XN * YN)
              | 12 => LongS w' v (SN + XN * YN)
              | 13 => LongS w' v (SN + XN * YN)
              | _ => True) (fun i _ v => match i with
              | 0 => v = .slice sa sl sc
              | 1 => v = .pointer (some ⟨B1, 0, none⟩)
              | 2 => v = .slice (some ⟨b1, o1, none⟩) pn pc
              | 3 => v = .int .i64 (k : Int)
              | 4 => v = .pointer (some ⟨b1, o1 + k, none⟩)
              | 5 => v = .slice xa (dlen B9 XN) xc
              | 6 => v = .pointer (some ⟨B2, 0, none⟩)
              | 7 => v = .slice (some ⟨b2, o2, none⟩) pn rc
              | 8 => v = .int .i64 (k : Int)
              | 9 => v = .pointer (some ⟨b2, o2 + k, none⟩)
              | 10 => v = .slice ya (dlen B9 YN) yc
              | 11 => True
              | 12 => True
              | 13 => True
              | _ => True)
              (fun _ _ _ => True) (by kernel_rfl) (by kernel_rfl) (by kernel_rfl) ?hst_b ?hG_b _ ?hfr_b ?hob_b ?hend_b
          case hfr_b =>
            intro z
            simp only [fillAll, Act.put, List.setIfInBounds_toArray, List.set_cons_zero, List.set_cons_succ, Nat.reduceAdd, Nat.zero_add]
            exact rfl
          case hst_b =>
            intro i z v w1 w2 hi hb hx
            rcases i with _ | i
            · exact hx
            rcases i with _ | i
            · exact hx
            rcases i with _ | i
            · exact hx
            rcases i with _ | i
            · exact hx
            rcases i with _ | i
            · exact hx
            rcases i with _ | i
            · exact hx
            rcases i with _ | i
            · exact hx
            rcases i with _ | i
            · exact hx
            rcases i with _ | i
            · exact hx
            rcases i with _ | i
            · exact hx
            rcases i with _ | i
            · exact hx
            rcases i with _ | i
            · exact (fun v w1 w2 hb h => h.keep hb) v w1 w2 hb hx
            rcases i with _ | i
            · exact (fun v w1 w2 hb h => h.keep hb) v w1 w2 hb hx
            rcases i with _ | i
            · exact (fun v w1 w2 hb h => h.keep hb) v w1 w2 hb hx
            exact absurd hi (by omega)
          case hG_b =>
            intro i z v w1 hi hx
            rcases i with _ | i
            · exact hx
            rcases i with _ | i
            · exact hx
            rcases i with _ | i
            · exact hx
            rcases i with _ | i
            · exact hx
            rcases i with _ | i
            · exact hx
            rcases i with _ | i
            · exact hx
            rcases i with _ | i
            · exact hx
            rcases i with _ | i
            · exact hx
            rcases i with _ | i
            · exact hx
            rcases i with _ | i
            · exact hx
            rcases i with _ | i
            · exact hx
            rcases i with _ | i
            · trivial
            rcases i with _ | i
            · trivial
            rcases i with _ | i
            · trivial
            exact absurd hi (by omega)
          case hob_b =>
            intro hfr
            refine AllOb.cons (j := 1) (by kernel_rfl) ?_ ?_
            · refine' ob_body (fr := _) ?hf_b0 ?h1_b0 ?h2_b0 ?h3_b0 ?h_b0
              case hf_b0 => exact hfr
              case h1_b0 => kernel_rfl
              case h2_b0 => kernel_rfl
              case h3_b0 => rfl
              clear hfr
              intro z w1 hb hd ho K hK
              have o13 : z 13 = .slice sa sl sc := ho.out 13 (by kernel_rfl)
              clear hd ho
              go_simp
              have hh := hK.out (.slice sa sl sc) _ (Below.refl _ _) rfl
              simp only [Act.put, List.setIfInBounds_toArray, List.set_cons_zero, List.set_cons_succ, o13] at hh
              exact hh
            refine AllOb.cons (j := 2) (by kernel_rfl) ?_ ?_
            · refine' ob_body (fr := _) ?hf_b1 ?h1_b1 ?h2_b1 ?h3_b1 ?h_b1
              case hf_b1 => exact hfr
              case h1_b1 => kernel_rfl
              case h2_b1 => kernel_rfl
              case h3_b1 => rfl
              clear hfr
              intro z w1 hb hd ho K hK
              clear hd ho
              go_simp
              have hh := hK.out (.pointer (some ⟨B1, 0, none⟩)) _ (Below.refl _ _) rfl
              simp only [Act.put, List.setIfInBounds_toArray, List.set_cons_zero, List.set_cons_succ] at hh
              exact hh
            refine AllOb.cons (j := 3) (by kernel_rfl) ?_ ?_
            · refine' ob_body (fr := _) ?hf_b2 ?h1_b2 ?h2_b2 ?h3_b2 ?h_b2
              case hf_b2 => exact hfr
              case h1_b2 => kernel_rfl
              case h2_b2 => kernel_rfl
              case h3_b2 => rfl
              clear hfr
              intro z w1 hb hd ho K hK
              have e1 : z 1 = .pointer (some ⟨B1, 0, none⟩) := hd.out 1 (by kernel_rfl)
              clear hd ho
              have x0 := c0.out w1 hb
              go_simp
              have hh := hK.out (.slice (some ⟨b1, o1, none⟩) pn pc) _ (Below.refl _ _) rfl
              simp only [Act.put, List.setIfInBounds_toArray, List.set_cons_zero, List.set_cons_succ, e1] at hh
              exact hh
            refine AllOb.cons (j := 4) (by kernel_rfl) ?_ ?_
            · refine' ob_body (fr := _) ?hf_b3 ?h1_b3 ?h2_b3 ?h3_b3 ?h_b3
              case hf_b3 => exact hfr
              case h1_b3 => kernel_rfl
              case h2_b3 => kernel_rfl
              case h3_b3 => rfl
              clear hfr
              intro z w1 hb hd ho K hK
              clear hd ho
              go_simp
              have hh := hK.out (.int .i64 (k : Int)) _ (Below.refl _ _) rfl
              simp only [Act.put, List.setIfInBounds_toArray, List.set_cons_zero, List.set_cons_succ] at hh
              exact hh
            refine AllOb.cons (j := 5) (by kernel_rfl) ?_ ?_
            · refine' ob_body (fr := _) ?hf_b4 ?h1_b4 ?h2_b4 ?h3_b4 ?h_b4
              case hf_b4 => exact hfr
              case h1_b4 => kernel_rfl
              case h2_b4 => kernel_rfl
              case h3_b4 => rfl
              clear hfr
              intro z w1 hb hd ho K hK
              have e2 : z 2 = .slice (some ⟨b1, o1, none⟩) pn pc := hd.out 2 (by kernel_rfl)
              have e3 : z 3 = .int .i64 (k : Int) := hd.out 3 (by kernel_rfl)
              clear hd ho
              go_simp
              have hh := hK.out (.pointer (some ⟨b1, o1 + k, none⟩)) _ (Below.refl _ _) rfl
              simp only [Act.put, List.setIfInBounds_toArray, List.set_cons_zero, List.set_cons_succ, e2, e3] at hh
              exact hh
            refine AllOb.cons (j := 6) (by kernel_rfl) ?_ ?_
            · refine' ob_body (fr := _) ?hf_b5 ?h1_b5 ?h2_b5 ?h3_b5 ?h_b5
              case hf_b5 => exact hfr
              case h1_b5 => kernel_rfl
              case h2_b5 => kernel_rfl
              case h3_b5 => rfl
              clear hfr
              intro z w1 hb hd ho K hK
              have e4 : z 4 = .pointer (some ⟨b1, o1 + k, none⟩) := hd.out 4 (by kernel_rfl)
              clear hd ho
              have x0 := c2.out w1 hb
              go_simp
              have hh := hK.out (.slice xa (dlen B9 XN) xc) _ (Below.refl _ _) rfl
              simp only [Act.put, List.setIfInBounds_toArray, List.set_cons_zero, List.set_cons_succ, e4] at hh
              exact hh
            refine AllOb.cons (j := 7) (by kernel_rfl) ?_ ?_
            · refine' ob_body (fr := _) ?hf_b6 ?h1_b6 ?h2_b6 ?h3_b6 ?h_b6
              case hf_b6 => exact hfr
              case h1_b6 => kernel_rfl
              case h2_b6 => kernel_rfl
              case h3_b6 => rfl
              clear hfr
              intro z w1 hb hd ho K hK
              clear hd ho
              go_simp
              have hh := hK.out (.pointer (some ⟨B2, 0, none⟩)) _ (Below.refl _ _) rfl
              simp only [Act.put, List.setIfInBounds_toArray, List.set_cons_zero, List.set_cons_succ] at hh
              exact hh
            refine AllOb.cons (j := 8) (by kernel_rfl) ?_ ?_
            · refine' ob_body (fr := _) ?hf_b7 ?h1_b7 ?h2_b7 ?h3_b7 ?h_b7
              case hf_b7 => exact hfr
              case h1_b7 => kernel_rfl
              case h2_b7 => kernel_rfl
              case h3_b7 => rfl
              clear hfr
              intro z w1 hb hd ho K hK
              have e6 : z 6 = .pointer (some ⟨B2, 0, none⟩) := hd.out 6 (by kernel_rfl)
              clear hd ho
              have x0 := c1.out w1 hb
              go_simp
              have hh := hK.out (.slice (some ⟨b2, o2, none⟩) pn rc) _ (Below.refl _ _) rfl
              simp only [Act.put, List.setIfInBounds_toArray, List.set_cons_zero, List.set_cons_succ, e6] at hh
              exact hh
            refine AllOb.cons (j := 9) (by kernel_rfl) ?_ ?_
            · refine' ob_body (fr := _) ?hf_b8 ?h1_b8 ?h2_b8 ?h3_b8 ?h_b8
              case hf_b8 => exact hfr
              case h1_b8 => kernel_rfl
              case h2_b8 => kernel_rfl
              case h3_b8 => rfl
              clear hfr
              intro z w1 hb hd ho K hK
              clear hd ho
              go_simp
              have hh := hK.out (.int .i64 (k : Int)) _ (Below.refl _ _) rfl
              simp only [Act.put, List.setIfInBounds_toArray, List.set_cons_zero, List.set_cons_succ] at hh
              exact hh
            refine AllOb.cons (j := 10) (by kernel_rfl) ?_ ?_
            · refine' ob_body (fr := _) ?hf_b9 ?h1_b9 ?h2_b9 ?h3_b9 ?h_b9
              case hf_b9 => exact hfr
              case h1_b9 => kernel_rfl
              case h2_b9 => kernel_rfl
              case h3_b9 => rfl
              clear hfr
              intro z w1 hb hd ho K hK
              have e7 : z 7 = .slice (some ⟨b2, o2, none⟩) pn rc := hd.out 7 (by kernel_rfl)
              have e8 : z 8 = .int .i64 (k : Int) := hd.out 8 (by kernel_rfl)
              clear hd ho
              go_simp
              have hh := hK.out (.pointer (some ⟨b2, o2 + k, none⟩)) _ (Below.refl _ _) rfl
              simp only [Act.put, List.setIfInBounds_toArray, List.set_cons_zero, List.set_cons_succ, e7, e8] at hh
              exact hh
            refine AllOb.cons (j := 11) (by kernel_rfl) ?_ ?_
            · refine' ob_body (fr := _) ?hf_b10 ?h1_b10 ?h2_b10 ?h3_b10 ?h_b10
              case hf_b10 => exact hfr
              case h1_b10 => kernel_rfl
              case h2_b10 => kernel_rfl
              case h3_b10 => rfl
              clear hfr
              intro z w1 hb hd ho K hK
              have e9 : z 9 = .pointer (some ⟨b2, o2 + k, none⟩) := hd.out 9 (by kernel_rfl)
              clear hd ho
              have x0 := c3.out w1 hb
              go_simp
              have hh := hK.out (.slice ya (dlen B9 YN) yc) _ (Below.refl _ _) rfl
              simp only [Act.put, List.setIfInBounds_toArray, List.set_cons_zero, List.set_cons_succ, e9] at hh
              exact hh
            refine AllOb.cons (j := 12) (by kernel_rfl) ?_ ?_
            · refine' ob_body (fr := _) ?hf_b11 ?h1_b11 ?h2_b11 ?h3_b11 ?h_b11
              case hf_b11 => exact hfr
              case h1_b11 => kernel_rfl
              case h2_b11 => kernel_rfl
              case h3_b11 => rfl
              clear hfr
              intro z w1 hb hd ho K hK
              have e5 : z 5 = .slice xa (dlen B9 XN) xc := hd.out 5 (by kernel_rfl)
              have e10 : z 10 = .slice ya (dlen B9 YN) yc := hd.out 10 (by kernel_rfl)
              clear hd ho
              go_simp
              refine (l01Product_any _ _ XN YN _ (hx.out.keep hb) (hy.out.keep hb) (by omega) (by omega)).mono ?_
              rintro e w2 ⟨r, rfl, hr, b⟩
              have hh := hK.out _ _ b (hr)
              simp only [Act.put, List.setIfInBounds_toArray, List.set_cons_zero, List.set_cons_succ, e5, e10] at hh
              exact hh
            refine AllOb.cons (j := 13) (by kernel_rfl) ?_ ?_
            · refine' ob_body (fr := _) ?hf_b12 ?h1_b12 ?h2_b12 ?h3_b12 ?h_b12
              case hf_b12 => exact hfr
              case h1_b12 => kernel_rfl
              case h2_b12 => kernel_rfl
              case h3_b12 => rfl
              clear hfr
              intro z w1 hb hd ho K hK
              have e0 : z 0 = .slice sa sl sc := hd.out 0 (by kernel_rfl)
              have e11 : LongS w1 (z 11) (XN * YN) := hd.out 11 (by kernel_rfl)
              clear hd ho
              go_simp
              refine (l01Plus_any _ _ SN (XN * YN) _ (hsum.out.keep hb) e11 (by omega) (by omega)).mono ?_
              rintro e w2 ⟨r, rfl, hr, b⟩
              have hh := hK.out _ _ b (hr)
              simp only [Act.put, List.setIfInBounds_toArray, List.set_cons_zero, List.set_cons_succ, e0] at hh
              exact hh
            refine AllOb.cons (j := 14) (by kernel_rfl) ?_ ?_
            · refine' ob_body (fr := _) ?hf_b13 ?h1_b13 ?h2_b13 ?h3_b13 ?h_b13
              case hf_b13 => exact hfr
              case h1_b13 => kernel_rfl
              case h2_b13 => kernel_rfl
              case h3_b13 => rfl
              clear hfr
              intro z w1 hb hd ho K hK
              have e12 : LongS w1 (z 12) (SN + XN * YN) := hd.out 12 (by kernel_rfl)
              clear hd ho
              go_simp
              have hh := hK.out _ _ (Below.refl _ _) e12
              simp only [Act.put, List.setIfInBounds_toArray, List.set_cons_zero, List.set_cons_succ] at hh
              exact hh
            exact AllOb.nil
          case hend_b =>
            intro hfr
            refine' end_plain (fr := _) ?g1 ?g2 ?g3
            case g1 => exact hfr
            case g2 => kernel_rfl
            clear hfr
            intro z w4 hb hf
            have h13 : LongS w4 (z 13) (SN + XN * YN) := hf.out 13 (by decide)
            obtain ⟨_, a', c', e13⟩ := h13.len
            rw [e13] at h13
            simp only [e13]
            have hnew := Lib.hid h13
            have bn := Lib.hid (below_wt bV.out hb)
            clear e13 hf h13 hb hsum bV
            go_wp2
            go_roundw
            case rel => exact ⟨k + 1, _, _, _, by have := hlt'.out; omega, by go_num, rfl, by rw [hnx.out]; exact hnew, bn⟩
            case measure => have := hlt'.out; simp [intOf]; omega
        · obtain rfl : k = pn := by omega
          have t0 := sz.out k (Nat.le_refl _)
          rw [allX.out] at hsum t0
          have u1 := mul_dlen' d1 d2
          have u2 := dlen_mono b9 (Nat.div_le_self XR (Nat.gcd XR (DA * DB)))
          have u3 := dlen_mono b9 (Nat.div_le_self (DA * DB) (Nat.gcd XR (DA * DB)))
          have c0 := Lib.hid (fun w1 (hb : Below wr.heap.size wr w1) => (show w1.cell? ⟨B1, 1, none⟩ = some (.slice qa ql qc) from (hV1'.keep hb hV1'.lt).cell 1))
          have c1 := Lib.hid (fun w1 (hb : Below wr.heap.size wr w1) => (show w1.cell? ⟨B2, 1, none⟩ = some (.slice ta tl tc) from (hV3'.keep hb hV3'.lt).cell 1))
          replace hRb := Lib.hid (hRb.out.keep bV.out hRb.out.lt)
          replace hqd := Lib.hid (hqd.out.keep bV.out)
          replace ht := Lib.hid (ht.out.keep bV.out)
          have bel := Lib.hid (below_wt BV.out bV.out)
          have hlt' : ¬ (k : Int) < (k : Int) := by omega
          clear hlt hV1' hV3' hV1 hV3 hrow hrow2 BV bV
          go_upto_region 13 with fail
          refine' region_by 11 (fun i => i == 10) (fun i _ v w' => match i with
              | 0 => v = .slice sa sl sc
              | 1 => LongS w' v XR
              | 2 => v = .pointer (some ⟨B1, 1, none⟩)
              | 3 => v = .slice qa ql qc
              | 4 => v = .pointer (some ⟨B2, 1, none⟩)
              | 5 => v = .slice ta tl tc
              | 6 => LongS w' v (DA * DB)
              | 7 => ∃ p q, v = .agg #[p, q] ∧ LongS w' p (XR / Nat.gcd XR (DA * DB)) ∧ LongS w' q ((DA * DB) / Nat.gcd XR (DA * DB))
              | 8 => v = .tuple #[.agg #[.string tn, .string td], .int .i64 tcd]
              | 9 => v = .agg #[.string tn, .string td]
              | 10 => v = .int .i64 tcd
              | _ => True) (fun i _ v => match i with
              | 0 => v = .slice sa sl sc
              | 1 => True
              | 2 => v = .pointer (some ⟨B1, 1, none⟩)
              | 3 => v = .slice qa ql qc
              | 4 => v = .pointer (some ⟨B2, 1, none⟩)
              | 5 => v = .slice ta tl tc
              | 6 => True
              | 7 => True
              | 8 => v = .tuple #[.agg #[.string tn, .string td], .int .i64 tcd]
              | 9 => v = .agg #[.string tn, .string td]
              | 10 => v = .int .i64 tcd
              | _ => True)
              (fun p z w' => Blk w' w.heap.size #[.string tn, .string td] 25 ∧ Below w.heap.size w w' ∧ (p = 2 → z 12 = .int .i64 tcd)) (by kernel_rfl) (by kernel_rfl) (by kernel_rfl) ?hst_c ?hG_c _ ?hfr_c ?hob_c ?hend_c
          case hfr_c =>
            intro z
            simp only [fillAll, Act.put, List.setIfInBounds_toArray, List.set_cons_zero, List.set_cons_succ, Nat.reduceAdd, Nat.zero_add]
            exact rfl
          case hst_c =>
            intro i z v w1 w2 hi hb hx
            rcases i with _ | i
            · exact hx
            rcases i with _ | i
            · exact (fun v w1 w2 hb h => h.keep hb) v w1 w2 hb hx
            rcases i with _ | i
            · exact hx
            rcases i with _ | i
            · exact hx
            rcases i with _ | i
            · exact hx
            rcases i with _ | i
            · exact hx
            rcases i with _ | i
            · exact (fun v w1 w2 hb h => h.keep hb) v w1 w2 hb hx
            rcases i with _ | i
            · exact (fun v w1 w2 hb h => h.elim fun p h => h.elim fun q h => ⟨p, q, h.1, h.2.1.keep hb, h.2.2.keep hb⟩) v w1 w2 hb hx
            rcases i with _ | i
            · exact (fun v w1 w2 hb h => h) v w1 w2 hb hx
            rcases i with _ | i
            · exact hx
            rcases i with _ | i
            · exact hx
            exact absurd hi (by omega)
          case hG_c =>
            intro i z v w1 hi hx
            rcases i with _ | i
            · exact hx
            rcases i with _ | i
            · trivial
            rcases i with _ | i
            · exact hx
            rcases i with _ | i
            · exact hx
            rcases i with _ | i
            · exact hx
            rcases i with _ | i
            · exact hx
            rcases i with _ | i
            · trivial
            rcases i with _ | i
            · trivial
            rcases i with _ | i
            · exact hx
            rcases i with _ | i
            · exact hx
            rcases i with _ | i
            · exact hx
            exact absurd hi (by omega)
          case hob_c =>
            intro hfr
            refine AllOb.cons (j := 1) (by kernel_rfl) ?_ ?_
            · refine' ob_body (fr := _) ?hf_c0 ?h1_c0 ?h2_c0 ?h3_c0 ?h_c0
              case hf_c0 => exact hfr
              case h1_c0 => kernel_rfl
              case h2_c0 => kernel_rfl
              case h3_c0 => rfl
              clear hfr
              intro z w1 hb hd ho K hK
              clear hd ho
              go_simp
              have hh := hK.out (.slice sa sl sc) _ (Below.refl _ _) rfl
              simp only [Act.put, List.setIfInBounds_toArray, List.set_cons_zero, List.set_cons_succ] at hh
              exact hh
            refine AllOb.cons (j := 2) (by kernel_rfl) ?_ ?_
            · refine' ob_body (fr := _) ?hf_c1 ?h1_c1 ?h2_c1 ?h3_c1 ?h_c1
              case hf_c1 => exact hfr
              case h1_c1 => kernel_rfl
              case h2_c1 => kernel_rfl
              case h3_c1 => rfl
              clear hfr
              intro z w1 hb hd ho K hK
              have e0 : z 0 = .slice sa sl sc := hd.out 0 (by kernel_rfl)
              clear hd ho
              go_simp
              refine (cut_long _ XR _ (hsum.out.keep hb)).mono ?_
              rintro e w2 ⟨r, rfl, hr, b⟩
              have hh := hK.out _ _ b (hr)
              simp only [Act.put, List.setIfInBounds_toArray, List.set_cons_zero, List.set_cons_succ, e0] at hh
              exact hh
            refine AllOb.cons (j := 3) (by kernel_rfl) ?_ ?_
            · refine' ob_body (fr := _) ?hf_c2 ?h1_c2 ?h2_c2 ?h3_c2 ?h_c2
              case hf_c2 => exact hfr
              case h1_c2 => kernel_rfl
              case h2_c2 => kernel_rfl
              case h3_c2 => rfl
              clear hfr
              intro z w1 hb hd ho K hK
              clear hd ho
              go_simp
              have hh := hK.out (.pointer (some ⟨B1, 1, none⟩)) _ (Below.refl _ _) rfl
              simp only [Act.put, List.setIfInBounds_toArray, List.set_cons_zero, List.set_cons_succ] at hh
              exact hh
            refine AllOb.cons (j := 4) (by kernel_rfl) ?_ ?_
            · refine' ob_body (fr := _) ?hf_c3 ?h1_c3 ?h2_c3 ?h3_c3 ?h_c3
              case hf_c3 => exact hfr
              case h1_c3 => kernel_rfl
              case h2_c3 => kernel_rfl
              case h3_c3 => rfl
              clear hfr
              intro z w1 hb hd ho K hK
              have e2 : z 2 = .pointer (some ⟨B1, 1, none⟩) := hd.out 2 (by kernel_rfl)
              clear hd ho
              have x0 := c0.out w1 hb
              go_simp
              have hh := hK.out (.slice qa ql qc) _ (Below.refl _ _) rfl
              simp only [Act.put, List.setIfInBounds_toArray, List.set_cons_zero, List.set_cons_succ, e2] at hh
              exact hh
            refine AllOb.cons (j := 5) (by kernel_rfl) ?_ ?_
            · refine' ob_body (fr := _) ?hf_c4 ?h1_c4 ?h2_c4 ?h3_c4 ?h_c4
              case hf_c4 => exact hfr
              case h1_c4 => kernel_rfl
              case h2_c4 => kernel_rfl
              case h3_c4 => rfl
              clear hfr
              intro z w1 hb hd ho K hK
              clear hd ho
              go_simp
              have hh := hK.out (.pointer (some ⟨B2, 1, none⟩)) _ (Below.refl _ _) rfl
              simp only [Act.put, List.setIfInBounds_toArray, List.set_cons_zero, List.set_cons_succ] at hh
              exact hh
            refine AllOb.cons (j := 6) (by kernel_rfl) ?_ ?_
            · refine' ob_body (fr := _) ?hf_c5 ?h1_c5 ?h2_c5 ?h3_c5 ?h_c5
              case hf_c5 => exact hfr
              case h1_c5 => kernel_rfl
              case h2_c5 => kernel_rfl
              case h3_c5 => rfl
              clear hfr
              intro z w1 hb hd ho K hK
              have e4 : z 4 = .pointer (some ⟨B2, 1, none⟩) := hd.out 4 (by kernel_rfl)
              clear hd ho
              have x0 := c1.out w1 hb
              go_simp
              have hh := hK.out (.slice ta tl tc) _ (Below.refl _ _) rfl
              simp only [Act.put, List.setIfInBounds_toArray, List.set_cons_zero, List.set_cons_succ, e4] at hh
              exact hh
            refine AllOb.cons (j := 7) (by kernel_rfl) ?_ ?_
            · refine' ob_body (fr := _) ?hf_c6 ?h1_c6 ?h2_c6 ?h3_c6 ?h_c6
              case hf_c6 => exact hfr
              case h1_c6 => kernel_rfl
              case h2_c6 => kernel_rfl
              case h3_c6 => rfl
              clear hfr
              intro z w1 hb hd ho K hK
              have e3 : z 3 = .slice qa ql qc := hd.out 3 (by kernel_rfl)
              have e5 : z 5 = .slice ta tl tc := hd.out 5 (by kernel_rfl)
              clear hd ho
              go_simp
              refine (l01Product_any _ _ DA DB _ (hqd.out.keep hb) (ht.out.keep hb) (by omega) (by omega)).mono ?_
              rintro e w2 ⟨r, rfl, hr, b⟩
              have hh := hK.out _ _ b (hr)
              simp only [Act.put, List.setIfInBounds_toArray, List.set_cons_zero, List.set_cons_succ, e3, e5] at hh
              exact hh
            refine AllOb.cons (j := 8) (by kernel_rfl) ?_ ?_
            · refine' ob_body (fr := _) ?hf_c7 ?h1_c7 ?h2_c7 ?h3_c7 ?h_c7
              case hf_c7 => exact hfr
              case h1_c7 => kernel_rfl
              case h2_c7 => kernel_rfl
              case h3_c7 => rfl
              clear hfr
              intro z w1 hb hd ho K hK
              have e1 : LongS w1 (z 1) XR := hd.out 1 (by kernel_rfl)
              have e6 : LongS w1 (z 6) (DA * DB) := hd.out 6 (by kernel_rfl)
              clear hd ho
              go_simp
              refine (l01Over_any _ _ XR (DA * DB) _ e1 e6 hpos.out (by omega) (by omega)).mono ?_
              rintro e w2 ⟨p, q, rfl, hp, hq2, b⟩
              have hh := hK.out _ _ b (⟨p, q, rfl, hp, hq2⟩)
              simp only [Act.put, List.setIfInBounds_toArray, List.set_cons_zero, List.set_cons_succ] at hh
              exact hh
            refine AllOb.cons (j := 9) (by kernel_rfl) ?_ ?_
            · refine' ob_body (fr := _) ?hf_c8 ?h1_c8 ?h2_c8 ?h3_c8 ?h_c8
              case hf_c8 => exact hfr
              case h1_c8 => kernel_rfl
              case h2_c8 => kernel_rfl
              case h3_c8 => rfl
              clear hfr
              intro z w1 hb hd ho K hK
              have e7 : ∃ p q, (z 7) = .agg #[p, q] ∧ LongS w1 p (XR / Nat.gcd XR (DA * DB)) ∧ LongS w1 q ((DA * DB) / Nat.gcd XR (DA * DB)) := hd.out 7 (by kernel_rfl)
              clear hd ho
              go_simp
              obtain ⟨p, q, e7, hp, hq2⟩ := e7
              try rw [e7]
              have hto := l01Told_any p q _ _ w1 hp hq2 (by omega) (by omega)
              rw [htn.out, htd.out, htc.out] at hto
              refine hto.mono ?_
              rintro e w2 ⟨rfl, b⟩
              have hh := hK.out _ _ b (rfl)
              simp only [Act.put, List.setIfInBounds_toArray, List.set_cons_zero, List.set_cons_succ, e7] at hh
              exact hh
            refine AllOb.cons (j := 10) (by kernel_rfl) ?_ ?_
            · refine' ob_body (fr := _) ?hf_c9 ?h1_c9 ?h2_c9 ?h3_c9 ?h_c9
              case hf_c9 => exact hfr
              case h1_c9 => kernel_rfl
              case h2_c9 => kernel_rfl
              case h3_c9 => rfl
              clear hfr
              intro z w1 hb hd ho K hK
              have e8 : (z 8) = .tuple #[.agg #[.string tn, .string td], .int .i64 tcd] := hd.out 8 (by kernel_rfl)
              clear hd ho
              go_simp
              have hh := hK.out (.agg #[.string tn, .string td]) _ (Below.refl _ _) rfl
              simp only [Act.put, List.setIfInBounds_toArray, List.set_cons_zero, List.set_cons_succ, e8] at hh
              exact hh
            refine AllOb.cons (j := 11) (by kernel_rfl) ?_ ?_
            · refine' ob_late (fr := _) ?hf_c10 ?h1_c10 ?h2_c10 ?h3_c10 ?h_c10
              case hf_c10 => exact hfr
              case h1_c10 => kernel_rfl
              case h2_c10 => kernel_rfl
              case h3_c10 => rfl
              clear hfr
              intro z w1 hd ho K hK
              have e8 : (z 8) = .tuple #[.agg #[.string tn, .string td], .int .i64 tcd] := hd.out 8 (by kernel_rfl)
              clear hd ho
              go_simp
              have hh := hK.out (.int .i64 tcd) rfl
              simp only [Act.put, List.setIfInBounds_toArray, List.set_cons_zero, List.set_cons_succ, e8] at hh
              exact hh
            refine AllOb.cons (j := 12) (by kernel_rfl) ?_ ?_
            · refine' ob_tail0 (fr := _) ?hf_c11 ?h1_c11 ?h3_c11 ?h_c11
              case hf_c11 => exact hfr
              case h1_c11 => rfl
              case h3_c11 => rfl
              clear hfr
              intro z w1 hb hf hd ho K hK
              have e9 : z 9 = .agg #[.string tn, .string td] := hf.out 9 (by decide) (by kernel_rfl)
              have hR := hRb.out.keep hb hRb.out.lt
              have y0 := hR.cell 0
              have y1 := hR.cell 1
              have f0 := hR.frozen 0
              have f1 := hR.frozen 1
              simp only [List.getElem?_toArray, List.getElem?_cons_zero, List.getElem?_cons_succ] at y0 y1
              go_simp
              have hh := hK.out undef _ ⟨by have := (hR.set 0 (.string tn)).set 1 (.string td); simpa using this, ((below_wt bel.out hb).setCell (p := ⟨w.heap.size, 0, none⟩) (Nat.le_refl _) _).setCell (p := ⟨w.heap.size, 1, none⟩) (Nat.le_refl _) _, fun h => by cases h⟩
              simp only [Act.put, List.setIfInBounds_toArray, List.set_cons_zero, List.set_cons_succ, e9] at hh
              exact hh
            refine AllOb.cons (j := 13) (by kernel_rfl) ?_ ?_
            · refine' ob_tail (fr := _) ?hf_c12 ?h1_c12 ?h3_c12 1 ?h4_c12 ?h_c12
              case hf_c12 => exact hfr
              case h1_c12 => kernel_rfl
              case h3_c12 => rfl
              case h4_c12 => rfl
              clear hfr
              intro z w1 hT hd ho K hK
              have e10 : z 10 = .int .i64 tcd := hd.out 10 (by decide) (by kernel_rfl)
              obtain ⟨hX, bb, _⟩ := hT
              go_simp
              have hh := hK.out (.int .i64 tcd) _ ⟨hX, bb, fun _ => rfl⟩
              simp only [Act.put, List.setIfInBounds_toArray, List.set_cons_zero, List.set_cons_succ, e10] at hh
              exact hh
            exact AllOb.nil
          case hend_c =>
            intro hfr
            refine' end_tails (fr := _) ?g4 ?g5 2 ?g6 ?g7
            case g4 => exact hfr
            case g5 => kernel_rfl
            case g6 => kernel_rfl
            clear hfr
            intro z w4 hT hg
            obtain ⟨hX, bb, e12⟩ := hT
            replace e12 : z 12 = .int .i64 tcd := e12 rfl
            simp only [e12]
            obtain ⟨z0, z1⟩ := (⟨hX.cell 0, hX.cell 1⟩ : _ ∧ _)
            simp only [List.getElem?_toArray, List.getElem?_cons_zero, List.getElem?_cons_succ] at z0 z1
            clear e12 hg hX
            go_wp2
            refine bodyPost_ret (v := .tuple #[.agg #[.string tn, .string td], .int .i64 tcd]) (by simp [results, Tryz.results45, go_sem, z0, z1]) rfl ?_
            exact ⟨by rw [hvl.out]; rfl, bb⟩
    · have hr := Lib.hid (expR_len ho1 ho2 (by rw [← hnp'.out, ← hnq'.out]; exact hlen))
      rw [ho1, ho2]
      have hd1 : ¬ (np : Int) = (nq : Int) := by omega
      clear ho1 ho2 hok hlist' hval' hV2 hZ2
      go_wp2
      refine bodyPost_ret (v := .tuple #[.agg #[.string ⟨#[]⟩, .string ⟨#[]⟩], .int .i64 2]) (by simp [results, Tryz.results45, go_sem, z0, z1]) rfl ?_
      exact ⟨by rw [hr.out]; rfl, hBz.out _ _⟩
end Go.Proofs.YtcbpbhaimjhelaaGreatDoor
