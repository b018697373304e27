/- ExpectedValue of the project. Conditions: at most 2 * 10^6 values. -/
import Derived.Test.YtcbpbhaimjhelaaGreatDoorEx
import Derived.Test.YtcbpbhaimjhelaaGreatDoorPr
namespace Go.Proofs.YtcbpbhaimjhelaaGreatDoor
open Go.RowKit Go.Deep
set_option linter.unusedVariables false
set_option linter.unusedSimpArgs false

/-- what the project needs of a spread and a list -/
structure ExpI (p q : List (ByteArray × ByteArray)) (n : Nat) (PL : List (Nat × Nat)) (tn td : ByteArray) (tcd : Int) : Prop where
  n6 : n ≤ 6
  pl : PL.length = n
  nx : ∀ k, k < n → PL.take (k + 1) = PL.take k ++ [(((numP p).getD k (0, 0)).1 * ((numP q).getD k (0, 0)).1, ((numP p).getD k (0, 0)).2 * ((numP q).getD k (0, 0)).2)]
  s1 : ∀ i, i < n → dlen W32 ((numP p).getD i (0, 0)).1 ≤ 300 ∧ dlen W32 ((numP p).getD i (0, 0)).2 ≤ 300
  s2 : ∀ i, i < n → dlen W32 ((numP q).getD i (0, 0)).1 ≤ 300 ∧ dlen W32 ((numP q).getD i (0, 0)).2 ≤ 300
  sz : ∀ i, i < PL.length → dlen W32 (PL.getD i (0, 0)).1 ≤ 600 ∧ dlen W32 (PL.getD i (0, 0)).2 ≤ 600
  pos : 0 < (sumR PL).2
  z1 : dlen W32 (sumR PL).1 ≤ 1000000
  z2 : dlen W32 (sumR PL).2 ≤ 1000000
  etn : toldN ((sumR PL).1 / Nat.gcd (sumR PL).1 (sumR PL).2) ((sumR PL).2 / Nat.gcd (sumR PL).1 (sumR PL).2) = tn
  etd : toldD ((sumR PL).1 / Nat.gcd (sumR PL).1 (sumR PL).2) ((sumR PL).2 / Nat.gcd (sumR PL).1 (sumR PL).2) = td
  etc : toldC ((sumR PL).1 / Nat.gcd (sumR PL).1 (sumR PL).2) ((sumR PL).2 / Nat.gcd (sumR PL).1 (sumR PL).2) = tcd
  val : expR p q = (tn, td, tcd)
theorem expI_of (p q : List (ByteArray × ByteArray)) (h1 : spreadB p = true) (h2 : frsOk q = true) (hl : p.length = q.length) :
    ∃ tn td tcd, ExpI p q p.length (prodP (numP p) (numP q)) tn td tcd := by
  obtain ⟨f1, a1, a2⟩ := spreadB_frs h1
  have pl := numP_length p
  have ql := numP_length q
  have e1 := numP_len f1
  have e2 := numP_len h2
  have L1 : (prodP (numP p) (numP q)).length = p.length := by rw [prodP_length, pl]
  have S : ∀ i, i < (prodP (numP p) (numP q)).length → dlen W32 ((prodP (numP p) (numP q)).getD i (0, 0)).1 ≤ 600 ∧ dlen W32 ((prodP (numP p) (numP q)).getD i (0, 0)).2 ≤ 600 := fun i hi => by
    rw [L1] at hi
    rw [prodP_get _ _ _ (by rw [pl]; exact hi)]
    have g1 := e1 i (by rw [pl]; exact hi)
    have g2 := e2 i (by rw [ql]; omega)
    exact ⟨mul_dlen w32 g1.1 g2.1, mul_dlen w32 g1.2 g2.2⟩
  have Z := sumR_len _ 600 S _ (Nat.le_refl _)
  have D := sumR_pos (prodP (numP p) (numP q)) (fun i hi => by
    rw [L1] at hi
    rw [prodP_get _ _ _ (by rw [pl]; exact hi)]
    exact Nat.mul_pos (numP_den f1 i (by rw [pl]; exact hi)) (numP_den h2 i (by rw [ql]; omega))) _ (Nat.le_refl _)
  rw [List.take_length] at Z D
  have hval : expR p q = (toldN (lowP (sumR (prodP (numP p) (numP q)))).1 (lowP (sumR (prodP (numP p) (numP q)))).2, toldD (lowP (sumR (prodP (numP p) (numP q)))).1 (lowP (sumR (prodP (numP p) (numP q)))).2, toldC (lowP (sumR (prodP (numP p) (numP q)))).1 (lowP (sumR (prodP (numP p) (numP q)))).2) := by
    unfold expR; rw [if_pos (by rw [h1, h2]; rfl), if_pos hl]
  rw [L1] at Z
  exact ⟨_, _, _, ⟨a2, L1, fun k hk => prodP_take _ _ _ (by rw [pl]; exact hk), fun i hi => e1 i (by rw [pl]; exact hi), fun i hi => e2 i (by rw [ql]; omega), S, D, by omega, by omega, rfl, rfl, rfl, hval⟩⟩

set_option maxRecDepth 100000 in
set_option maxHeartbeats 4000000 in
theorem ExpectedValue_impl (v1 v2 : Value) (p q : List (ByteArray × ByteArray)) (w : World) (h1 : FrL w v1 p) (h2 : FrL w v2 q) (hq : q.length ≤ 2000000) (htab : Tab10 w) :
    Calls Tryz.prog 46 #[v1, v2] w fun e w' => e = .returned (opV (expR p q)) ∧ Below w.heap.size w w' := by
  obtain ⟨hm1, va, vc, rfl, _⟩ := id h1
  obtain ⟨hm2, ua, uc, rfl, _⟩ := id h2
  unfold maxLen at hm1 hm2
  have hZ := Blk.new w #[.string ⟨#[]⟩, .string ⟨#[]⟩] 25
  have b0 := below1 w (.cells #[.string ⟨#[]⟩, .string ⟨#[]⟩] 25)
  have hs := Lib.hid (readSpread_any (.slice va p.length vc) p _ (h1.keep b0))
  have h2' := Lib.hid (h2.keep b0)
  have htab' := Lib.hid htab
  obtain ⟨np, hnp⟩ : ∃ n, n = p.length := ⟨_, rfl⟩
  obtain ⟨nq, hnq⟩ : ∃ n, n = q.length := ⟨_, rfl⟩
  rw [← hnp] at hm1 hs ⊢
  rw [← hnq] at hm2 hq h2' ⊢
  have hnp' := Lib.hid hnp
  have hnq' := Lib.hid hnq
  clear h1 h2 hnp hnq htab
  go_enter Tryz.func46, Tryz.ntmps46
  go_wp2_with fail
  (with_reducible refine hs.out.mono ?_)
  rintro e w1 ⟨aa, an, ca, rfl, b1, hval⟩
  have hl := Lib.hid (readFractions_any (.slice ua nq uc) q w1 (by rw [hnq'.out] at h2' ⊢; exact h2'.out.keep b1) (by rw [← hnq'.out]; exact hq))
  have hval' := Lib.hid hval
  have hZ1 := hZ.keep b1 hZ.lt
  have B1b := Lib.hid (below_wt b0 b1)
  clear hval hZ b0 b1 hs h2'
  go_wp2_with fail
  (with_reducible refine hl.out.mono ?_)
  rintro e w2 ⟨la, ln, cb, rfl, b2, hlist⟩
  have hlist' := Lib.hid hlist
  have hZ2 := hZ1.keep b2 hZ1.lt
  have B2b := Lib.hid (below_wt B1b.out b2)
  clear hlist hZ1 hl
  obtain ⟨z0, z1⟩ := (⟨hZ2.cell 0, hZ2.cell 1⟩ : _ ∧ _)
  have f0 := hZ2.frozen 0
  have f1 := hZ2.frozen 1
  simp only [List.getElem?_toArray, List.getElem?_cons_zero, List.getElem?_cons_succ] at z0 z1
  have hBz := Lib.hid (fun x y => (B2b.out.setCell (p := ⟨w.heap.size, 0, none⟩) (Nat.le_refl _) x).setCell (p := ⟨w.heap.size, 1, none⟩) (Nat.le_refl _) y)
  rcases hok : (spreadB p && frsOk q) with _ | _
  · have hr := Lib.hid (expR_bad hok)
    clear hlist' hval' hZ2
    rcases ho1 : spreadB p with _ | _
    · go_wp2
      refine bodyPost_ret (v := .tuple #[.agg #[.string ⟨#[]⟩, .string ⟨#[]⟩], .int .i64 1]) (by simp [results, Tryz.results46, go_sem, z0, z1]) rfl ?_
      exact ⟨by rw [hr.out]; rfl, hBz.out _ _⟩
    · have ho2 : frsOk q = false := by rw [ho1] at hok; simpa using hok
      rw [ho2]
      clear ho1 ho2 hok
      go_wp2
      refine bodyPost_ret (v := .tuple #[.agg #[.string ⟨#[]⟩, .string ⟨#[]⟩], .int .i64 1]) (by simp [results, Tryz.results46, go_sem, z0, z1]) rfl ?_
      exact ⟨by rw [hr.out]; rfl, hBz.out _ _⟩
  · obtain ⟨ho1, ho2⟩ : spreadB p = true ∧ frsOk q = true := by simpa using hok
    by_cases hlen : np = nq
    · obtain ⟨han, hP1⟩ := hval'.out ho1
      obtain ⟨hln, hP2⟩ := hlist'.out ho2
      obtain ⟨tn, td, tcd, ef⟩ := expI_of p q ho1 ho2 (by rw [← hnp'.out, ← hnq'.out]; exact hlen)
      rw [← hnp'.out] at ef
      obtain ⟨n6, pl, nx, s1, s2, sz, pos, t1, t2, htn, htd, htc, hvl⟩ := ef
      obtain rfl : an = np := by rw [han, hnp'.out]
      obtain rfl : ln = an := by rw [hln, ← hnq'.out, hlen]
      obtain rfl : ln = nq := hlen
      rw [ho1, ho2]
      have hp1l := Lib.hid (show (numP p).length = ln by rw [numP_length, hnp'.out])
      have hp2l := Lib.hid (show (numP q).length = ln by rw [numP_length, hnq'.out])
      have hkl0 := Lib.hid (fun k (h : k ≤ ln) => (show ((prodP (numP p) (numP q)).take k).length = k by rw [List.length_take, pl]; omega))
      have hmk := fun W => make_rats ln (by omega) W
      have hst := Lib.hid (show MadeP LongI 72 _ w2.heap.size _ ((prodP (numP p) (numP q)).take 0) from made_rats ln (by omega) w2)
      have bM := Lib.hid (below1 w2 (.cells (madeCells #[.slice none 0 0, .slice none 0 0] (ln * 2)) 72))
      have hM1 := Lib.hid (hP1.keep likeI b2)
      have hM2 := Lib.hid hP2
      have hRb := Lib.hid hZ2
      have hall := Lib.hid (show (prodP (numP p) (numP q)).take ln = prodP (numP p) (numP q) by rw [← pl, List.take_length])
      obtain ⟨PL, hPL⟩ : ∃ PL, prodP (numP p) (numP q) = PL := ⟨_, rfl⟩
      rw [hPL] at nx sz pos t1 t2 htn htd htc hst hkl0 pl hall
      replace nx := Lib.hid nx; replace s1 := Lib.hid s1; replace s2 := Lib.hid s2; replace sz := Lib.hid sz
      replace htn := Lib.hid htn; replace htd := Lib.hid htd; replace htc := Lib.hid htc; replace hvl := Lib.hid hvl; replace pl := Lib.hid pl
      have hpos := Lib.hid pos
      clear hPL ho1 ho2 hok hlist' hval' hP1 hP2 han hln pos hZ2 hBz z0 z1 f0 f1 b2 hnp' hnq'
      go_wp2
      go_loopw [10, 40] (fun s i wr => ∃ (k c : Nat) (a : Option Addr), k ≤ ln ∧ i = .int .i64 (k : Int) ∧ s = .slice a k c ∧ Hid (MadeP LongI 72 wr w2.heap.size (.slice a k c) (PL.take k)) ∧ Hid (Below w2.heap.size w2 wr)) (fun _ i _ => ln - (intOf i).toNat)
      case atStart => exact ⟨0, _, _, Nat.zero_le _, rfl, rfl, hst, bM⟩
      case round =>
        obtain ⟨k, c, a, hk, rfl, rfl, hmade, bel⟩ := hrel
        clear hst bM hmk
        by_cases hlt : k < ln
        · obtain ⟨b1, o1, x0, x1, rfl, q0, q1, hx0, hx1⟩ := (hM1.out.keep likeI bel.out).at k (by rw [hp1l.out]; exact hlt)
          obtain ⟨b2, o2, y0, y1, rfl, q2, q3, hy0, hy1⟩ := (hM2.out.keep likeI bel.out).at k (by rw [hp2l.out]; exact hlt)
          obtain ⟨xa0, xl0, xc0, rfl⟩ := likeI.shape hx0
          obtain ⟨xa1, xl1, xc1, rfl⟩ := likeI.shape hx1
          obtain ⟨ya0, yl0, yc0, rfl⟩ := likeI.shape hy0
          obtain ⟨ya1, yl1, yc1, rfl⟩ := likeI.shape hy1
          obtain ⟨u1, u2⟩ := s1.out k hlt
          obtain ⟨u3, u4⟩ := s2.out k hlt
          have hnx := Lib.hid (nx.out k hlt)
          have hkl := Lib.hid (hkl0.out k hk)
          generalize ((numP p).getD k (0, 0)).1 = N1 at *
          generalize ((numP p).getD k (0, 0)).2 = D1 at *
          generalize ((numP q).getD k (0, 0)).1 = N2 at *
          generalize ((numP q).getD k (0, 0)).2 = D2 at *
          have c0 := Lib.hid (fun w1 (hb : Below wr.heap.size wr w1) => (hb.cell (p := ⟨b1, o1 + k * 2, none⟩) (block_lt q0)).trans q0)
          have c1 := Lib.hid (fun w1 (hb : Below wr.heap.size wr w1) => (hb.cell (p := ⟨b1, o1 + k * 2 + 1, none⟩) (block_lt q1)).trans q1)
          have c2 := Lib.hid (fun w1 (hb : Below wr.heap.size wr w1) => (hb.cell (p := ⟨b2, o2 + k * 2, none⟩) (block_lt q2)).trans q2)
          have c3 := Lib.hid (fun w1 (hb : Below wr.heap.size wr w1) => (hb.cell (p := ⟨b2, o2 + k * 2 + 1, none⟩) (block_lt q3)).trans q3)
          replace hx0 := Lib.hid hx0; replace hx1 := Lib.hid hx1; replace hy0 := Lib.hid hy0; replace hy1 := Lib.hid hy1
          have i1 : (0 : Int) ≤ (k : Int) := by omega
          have i2 : (k : Int) < (ln : Int) := by omega
          have hlt' := Lib.hid hlt
          clear q0 q1 q2 q3
          go_upto_region 11 with fail
          refine' region_by 11 (fun _ => false) (fun i _ v w' => match i with
              | 0 => v = .slice a k c
              | 1 => v = .slice (some ⟨b1, o1, none⟩) ln ca
              | 2 => v = .int .i64 (k : Int)
              | 3 => v = .pointer (some ⟨b1, o1 + k * 2, none⟩)
              | 4 => v = .agg #[.slice xa0 xl0 xc0, .slice xa1 xl1 xc1]
              | 5 => v = .slice (some ⟨b2, o2, none⟩) ln cb
              | 6 => v = .int .i64 (k : Int)
              | 7 => v = .pointer (some ⟨b2, o2 + k * 2, none⟩)
              | 8 => v = .agg #[.slice ya0 yl0 yc0, .slice ya1 yl1 yc1]
              | 9 => ∃ p q, v = .agg #[p, q] ∧ LongI w' p (N1 * N2) ∧ LongI w' q (D1 * D2)
              | 10 => ∃ b p q, v = .slice (some ⟨b, 0, none⟩) 1 1 ∧ Blk w' b #[p, q] 72 ∧ LongI w' p (N1 * N2) ∧ LongI w' q (D1 * D2)
              | _ => True) (fun i _ v => match i with
              | 0 => v = .slice a k c
              | 1 => v = .slice (some ⟨b1, o1, none⟩) ln ca
              | 2 => v = .int .i64 (k : Int)
              | 3 => v = .pointer (some ⟨b1, o1 + k * 2, none⟩)
              | 4 => v = .agg #[.slice xa0 xl0 xc0, .slice xa1 xl1 xc1]
              | 5 => v = .slice (some ⟨b2, o2, none⟩) ln cb
              | 6 => v = .int .i64 (k : Int)
              | 7 => v = .pointer (some ⟨b2, o2 + k * 2, none⟩)
              | 8 => v = .agg #[.slice ya0 yl0 yc0, .slice ya1 yl1 yc1]
              | 9 => True
              | 10 => True
              | _ => True)
              (fun p z w' => ∃ g cap, z 11 = .slice (some ⟨g, 0, none⟩) (k + 1) cap ∧ MadeP LongI 72 w' w2.heap.size (.slice (some ⟨g, 0, none⟩) (k + 1) cap) (PL.take k ++ [(N1 * N2, D1 * D2)]) ∧ Below w2.heap.size w2 w' ∧ (p = 2 → z 12 = .slice (some ⟨g, 0, none⟩) (k + 1) cap)) (by kernel_rfl) (by kernel_rfl) (by kernel_rfl) ?hst_q ?hG_q _ ?hfr_q ?hob_q ?hend_q
          case hfr_q =>
            intro z
            simp only [fillAll, Act.put, List.setIfInBounds_toArray, List.set_cons_zero, List.set_cons_succ, Nat.reduceAdd, Nat.zero_add]
            exact rfl
          case hst_q =>
            intro i z v w1 w2 hi hb hx
            rcases i with _ | i
            · exact hx
            rcases i with _ | i
            · exact hx
            rcases i with _ | i
            · exact hx
            rcases i with _ | i
            · exact hx
            rcases i with _ | i
            · exact hx
            rcases i with _ | i
            · exact hx
            rcases i with _ | i
            · exact hx
            rcases i with _ | i
            · exact hx
            rcases i with _ | i
            · exact hx
            rcases i with _ | i
            · exact (fun v w1 w2 hb h => h.elim fun p h => h.elim fun q h => ⟨p, q, h.1, h.2.1.keep hb, h.2.2.keep hb⟩) v w1 w2 hb hx
            rcases i with _ | i
            · exact (fun v w1 w2 hb h => h.elim fun b h => h.elim fun p h => h.elim fun q h => ⟨b, p, q, h.1, h.2.1.step hb, h.2.2.1.keep hb, h.2.2.2.keep hb⟩) v w1 w2 hb hx
            exact absurd hi (by omega)
          case hG_q =>
            intro i z v w1 hi hx
            rcases i with _ | i
            · exact hx
            rcases i with _ | i
            · exact hx
            rcases i with _ | i
            · exact hx
            rcases i with _ | i
            · exact hx
            rcases i with _ | i
            · exact hx
            rcases i with _ | i
            · exact hx
            rcases i with _ | i
            · exact hx
            rcases i with _ | i
            · exact hx
            rcases i with _ | i
            · exact hx
            rcases i with _ | i
            · trivial
            rcases i with _ | i
            · trivial
            exact absurd hi (by omega)
          case hob_q =>
            intro hfr
            refine AllOb.cons (j := 1) (by kernel_rfl) ?_ ?_
            · refine' ob_body (fr := _) ?hf_q0 ?h1_q0 ?h2_q0 ?h3_q0 ?h_q0
              case hf_q0 => exact hfr
              case h1_q0 => kernel_rfl
              case h2_q0 => kernel_rfl
              case h3_q0 => rfl
              clear hfr
              intro z w1 hb hd ho K hK
              have o12 : z 12 = .slice a k c := ho.out 12 (by kernel_rfl)
              clear hd ho
              go_simp
              have hh := hK.out (.slice a k c) _ (Below.refl _ _) rfl
              simp only [Act.put, List.setIfInBounds_toArray, List.set_cons_zero, List.set_cons_succ, o12] at hh
              exact hh
            refine AllOb.cons (j := 2) (by kernel_rfl) ?_ ?_
            · refine' ob_body (fr := _) ?hf_q1 ?h1_q1 ?h2_q1 ?h3_q1 ?h_q1
              case hf_q1 => exact hfr
              case h1_q1 => kernel_rfl
              case h2_q1 => kernel_rfl
              case h3_q1 => rfl
              clear hfr
              intro z w1 hb hd ho K hK
              clear hd ho
              go_simp
              have hh := hK.out (.slice (some ⟨b1, o1, none⟩) ln ca) _ (Below.refl _ _) rfl
              simp only [Act.put, List.setIfInBounds_toArray, List.set_cons_zero, List.set_cons_succ] at hh
              exact hh
            refine AllOb.cons (j := 3) (by kernel_rfl) ?_ ?_
            · refine' ob_body (fr := _) ?hf_q2 ?h1_q2 ?h2_q2 ?h3_q2 ?h_q2
              case hf_q2 => exact hfr
              case h1_q2 => kernel_rfl
              case h2_q2 => kernel_rfl
              case h3_q2 => rfl
              clear hfr
              intro z w1 hb hd ho K hK
              clear hd ho
              go_simp
              have hh := hK.out (.int .i64 (k : Int)) _ (Below.refl _ _) rfl
              simp only [Act.put, List.setIfInBounds_toArray, List.set_cons_zero, List.set_cons_succ] at hh
              exact hh
            refine AllOb.cons (j := 4) (by kernel_rfl) ?_ ?_
            · refine' ob_body (fr := _) ?hf_q3 ?h1_q3 ?h2_q3 ?h3_q3 ?h_q3
              case hf_q3 => exact hfr
              case h1_q3 => kernel_rfl
              case h2_q3 => kernel_rfl
              case h3_q3 => rfl
              clear hfr
              intro z w1 hb hd ho K hK
              have e1 : z 1 = .slice (some ⟨b1, o1, none⟩) ln ca := hd.out 1 (by kernel_rfl)
              have e2 : z 2 = .int .i64 (k : Int) := hd.out 2 (by kernel_rfl)
              clear hd ho
              go_simp
              have hh := hK.out (.pointer (some ⟨b1, o1 + k * 2, none⟩)) _ (Below.refl _ _) rfl
              simp only [Act.put, List.setIfInBounds_toArray, List.set_cons_zero, List.set_cons_succ, e1, e2] at hh
              exact hh
            refine AllOb.cons (j := 5) (by kernel_rfl) ?_ ?_
            · refine' ob_body (fr := _) ?hf_q4 ?h1_q4 ?h2_q4 ?h3_q4 ?h_q4
              case hf_q4 => exact hfr
              case h1_q4 => kernel_rfl
              case h2_q4 => kernel_rfl
              case h3_q4 => rfl
              clear hfr
              intro z w1 hb hd ho K hK
              have e3 : z 3 = .pointer (some ⟨b1, o1 + k * 2, none⟩) := hd.out 3 (by kernel_rfl)
              clear hd ho
              have x0 := c0.out w1 hb; have x1 := c1.out w1 hb
              go_simp
              have hh := hK.out (.agg #[.slice xa0 xl0 xc0, .slice xa1 xl1 xc1]) _ (Below.refl _ _) rfl
              simp only [Act.put, List.setIfInBounds_toArray, List.set_cons_zero, List.set_cons_succ, e3] at hh
              exact hh
            refine AllOb.cons (j := 6) (by kernel_rfl) ?_ ?_
            · refine' ob_body (fr := _) ?hf_q5 ?h1_q5 ?h2_q5 ?h3_q5 ?h_q5
              case hf_q5 => exact hfr
              case h1_q5 => kernel_rfl
              case h2_q5 => kernel_rfl
              case h3_q5 => rfl
              clear hfr
              intro z w1 hb hd ho K hK
              clear hd ho
              go_simp
              have hh := hK.out (.slice (some ⟨b2, o2, none⟩) ln cb) _ (Below.refl _ _) rfl
              simp only [Act.put, List.setIfInBounds_toArray, List.set_cons_zero, List.set_cons_succ] at hh
              exact hh
            refine AllOb.cons (j := 7) (by kernel_rfl) ?_ ?_
            · refine' ob_body (fr := _) ?hf_q6 ?h1_q6 ?h2_q6 ?h3_q6 ?h_q6
              case hf_q6 => exact hfr
              case h1_q6 => kernel_rfl
              case h2_q6 => kernel_rfl
              case h3_q6 => rfl
              clear hfr
              intro z w1 hb hd ho K hK
              clear hd ho
              go_simp
              have hh := hK.out (.int .i64 (k : Int)) _ (Below.refl _ _) rfl
              simp only [Act.put, List.setIfInBounds_toArray, List.set_cons_zero, List.set_cons_succ] at hh
              exact hh
            refine AllOb.cons (j := 8) (by kernel_rfl) ?_ ?_
            · refine' ob_body (fr := _) ?hf_q7 ?h1_q7 ?h2_q7 ?h3_q7 ?h_q7
              case hf_q7 => exact hfr
              case h1_q7 => kernel_rfl
              case h2_q7 => kernel_rfl
              case h3_q7 => rfl
              clear hfr
              intro z w1 hb hd ho K hK
              have e5 : z 5 = .slice (some ⟨b2, o2, none⟩) ln cb := hd.out 5 (by kernel_rfl)
              have e6 : z 6 = .int .i64 (k : Int) := hd.out 6 (by kernel_rfl)
              clear hd ho
              go_simp
              have hh := hK.out (.pointer (some ⟨b2, o2 + k * 2, none⟩)) _ (Below.refl _ _) rfl
              simp only [Act.put, List.setIfInBounds_toArray, List.set_cons_zero, List.set_cons_succ, e5, e6] at hh
              exact hh
            refine AllOb.cons (j := 9) (by kernel_rfl) ?_ ?_
            · refine' ob_body (fr := _) ?hf_q8 ?h1_q8 ?h2_q8 ?h3_q8 ?h_q8
              case hf_q8 => exact hfr
              case h1_q8 => kernel_rfl
              case h2_q8 => kernel_rfl
              case h3_q8 => rfl
              clear hfr
              intro z w1 hb hd ho K hK
              have e7 : z 7 = .pointer (some ⟨b2, o2 + k * 2, none⟩) := hd.out 7 (by kernel_rfl)
              clear hd ho
              have x0 := c2.out w1 hb; have x1 := c3.out w1 hb
              go_simp
              have hh := hK.out (.agg #[.slice ya0 yl0 yc0, .slice ya1 yl1 yc1]) _ (Below.refl _ _) rfl
              simp only [Act.put, List.setIfInBounds_toArray, List.set_cons_zero, List.set_cons_succ, e7] at hh
              exact hh
            refine AllOb.cons (j := 10) (by kernel_rfl) ?_ ?_
            · refine' ob_body (fr := _) ?hf_q9 ?h1_q9 ?h2_q9 ?h3_q9 ?h_q9
              case hf_q9 => exact hfr
              case h1_q9 => kernel_rfl
              case h2_q9 => kernel_rfl
              case h3_q9 => rfl
              clear hfr
              intro z w1 hb hd ho K hK
              have e4 : z 4 = .agg #[.slice xa0 xl0 xc0, .slice xa1 xl1 xc1] := hd.out 4 (by kernel_rfl)
              have e8 : z 8 = .agg #[.slice ya0 yl0 yc0, .slice ya1 yl1 yc1] := hd.out 8 (by kernel_rfl)
              clear hd ho
              go_simp
              refine (ratioTimes _ _ _ _ N1 D1 N2 D2 _ (hx0.out.keep hb) (hx1.out.keep hb) (hy0.out.keep hb) (hy1.out.keep hb) (by omega) (by omega) (by omega) (by omega)).mono ?_
              rintro e w2 ⟨p, q, rfl, hp, hq2, b⟩
              have hh := hK.out _ _ b ⟨p, q, rfl, hp, hq2⟩
              simp only [Act.put, List.setIfInBounds_toArray, List.set_cons_zero, List.set_cons_succ, e4, e8] at hh
              exact hh
            refine AllOb.cons (j := 11) (by kernel_rfl) ?_ ?_
            · refine' ob_body (fr := _) ?hf_q10 ?h1_q10 ?h2_q10 ?h3_q10 ?h_q10
              case hf_q10 => exact hfr
              case h1_q10 => kernel_rfl
              case h2_q10 => kernel_rfl
              case h3_q10 => rfl
              clear hfr
              intro z w1 hb hd ho K hK
              have e9 : ∃ p q, (z 9) = .agg #[p, q] ∧ LongI w1 p (N1 * N2) ∧ LongI w1 q (D1 * D2) := hd.out 9 (by kernel_rfl)
              clear hd ho
              go_simp
              obtain ⟨p, q, e9, hp, hq2⟩ := e9
              obtain ⟨_, pa, pc, rfl⟩ := hp.len
              obtain ⟨_, qa, qc, rfl⟩ := hq2.len
              rw [e9]
              go_simp
              have hh := hK.out (.slice (some ⟨w1.heap.size, 0, none⟩) 1 1) _ (below1 _ (.cells #[.slice pa (dlen W32 (N1 * N2)) pc, .slice qa (dlen W32 (D1 * D2)) qc] 72)) ⟨_, _, _, rfl, Blk.new _ _ _, hp.keep (below1 _ _), hq2.keep (below1 _ _)⟩
              simp only [Act.put, List.setIfInBounds_toArray, List.set_cons_zero, List.set_cons_succ, e9] at hh
              exact hh
            refine AllOb.cons (j := 12) (by kernel_rfl) ?_ ?_
            · refine' ob_tail0 (fr := _) ?hf_q11 ?h1_q11 ?h3_q11 ?h_q11
              case hf_q11 => exact hfr
              case h1_q11 => rfl
              case h3_q11 => rfl
              clear hfr
              intro z w1 hb hf hd ho K hK
              have e0 : z 0 = .slice a k c := hd.out 0 (by decide) (by kernel_rfl)
              obtain ⟨b, p, q, e10, hX, hp, hq2⟩ : ∃ b p q, z 10 = .slice (some ⟨b, 0, none⟩) 1 1 ∧ Blk w1 b #[p, q] 72 ∧ LongI w1 p (N1 * N2) ∧ LongI w1 q (D1 * D2) := hf.out 10 (by decide) (by kernel_rfl)
              refine wp_append_pair (ops := #[]) (w0 := w2) rfl _ _ rfl w2.heap.size (.slice a k c) (PL.take k) (hmade.out.keep likeI hb) (by simp [Act.eval, e0]) b 1 p q (N1 * N2) (D1 * D2) (by simp [Act.eval, e10]) hX hp hq2 (by rw [hkl.out]; omega) (by have := bel.out.size; have := hb.size; omega) (below_wt bel.out hb) ?_
              intro g cap w2 hM b2
              rw [hkl.out] at hM ⊢
              have hh := hK.out (.slice (some ⟨g, 0, none⟩) (k + 1) cap) _ ⟨g, cap, rfl, hM, b2, fun h => by cases h⟩
              exact hh
            refine AllOb.cons (j := 13) (by kernel_rfl) ?_ ?_
            · refine' ob_tail (fr := _) ?hf_q12 ?h1_q12 ?h3_q12 1 ?h4_q12 ?h_q12
              case hf_q12 => exact hfr
              case h1_q12 => kernel_rfl
              case h3_q12 => rfl
              case h4_q12 => rfl
              clear hfr
              intro z w1 hT hd ho K hK
              obtain ⟨g, cap, e11, hM, bb, _⟩ := hT
              replace e11 : z 11 = .slice (some ⟨g, 0, none⟩) (k + 1) cap := e11
              go_simp
              have hh := hK.out (.slice (some ⟨g, 0, none⟩) (k + 1) cap) _ ⟨g, cap, e11, hM, bb, fun _ => rfl⟩
              simp only [Act.put, List.setIfInBounds_toArray, List.set_cons_zero, List.set_cons_succ, e11] at hh
              exact hh
            exact AllOb.nil
          case hend_q =>
            intro hfr
            refine' end_tails (fr := _) ?g1 ?g2 2 ?g3 ?g4
            case g1 => exact hfr
            case g2 => kernel_rfl
            case g3 => kernel_rfl
            clear hfr
            intro z w4 hT hg
            obtain ⟨g, cap, e11, hM, bb, e12⟩ := hT
            replace e12 : z 12 = .slice (some ⟨g, 0, none⟩) (k + 1) cap := e12 rfl
            simp only [e12]
            have hnew := Lib.hid hM
            have bn := Lib.hid bb
            clear e11 e12 hg hM bb hmade bel
            go_wp2
            go_roundw
            case rel => exact ⟨k + 1, _, _, by have := hlt'.out; omega, by go_num, rfl, by rw [hnx.out]; exact hnew, bn⟩
            case measure => have := hlt'.out; simp [intOf]; omega
        · obtain rfl : k = ln := by omega
          have hd := hmade.out.done
          rw [hall.out] at hd
          have hsu := Lib.hid (sumOfRatios_any (.slice a k c) PL 600 wr hd sz.out (by rw [pl.out]; omega) (by omega) (by rw [pl.out]; omega))
          have hlt' : ¬ (k : Int) < (k : Int) := by omega
          have hR2 := hRb.out.keep bel.out hRb.out.lt
          have BW := Lib.hid (below_wt B2b.out bel.out)
          clear hd hmade bel hlt hM1 hM2 hRb
          go_wp2_with fail
          (with_reducible refine hsu.out.mono ?_)
          rintro e w3 ⟨sp, sq, rfl, hsp, hsq, b3⟩
          have hfr := Lib.hid (fraction_any sp sq (sumR PL).1 (sumR PL).2 w3 hsp hsq hpos.out t1 t2 (htab'.out.keep (below_wt BW.out b3)))
          rw [htn.out, htd.out, htc.out] at hfr
          obtain ⟨_, spa, spc, rfl⟩ := hsp.len
          obtain ⟨_, sqa, sqc, rfl⟩ := hsq.len
          have hR3 := hR2.keep b3 hR2.lt
          have BX := Lib.hid (below_wt BW.out b3)
          clear hsp hsq b3 hR2 hsu
          go_wp2_with fail
          (with_reducible refine hfr.out.mono ?_)
          rintro e w4 ⟨rfl, b4⟩
          have hR4 := hR3.keep b4 hR3.lt
          obtain ⟨z0, z1⟩ := (⟨hR4.cell 0, hR4.cell 1⟩ : _ ∧ _)
          have f0 := hR4.frozen 0
          have f1 := hR4.frozen 1
          simp only [List.getElem?_toArray, List.getElem?_cons_zero, List.getElem?_cons_succ] at z0 z1
          have BY := Lib.hid (below_wt BX.out b4)
          clear hR3 hR4 b4 hfr
          go_wp2
          refine bodyPost_ret (v := .tuple #[.agg #[.string tn, .string td], .int .i64 tcd]) (by simp [results, Tryz.results46, go_sem, z0, z1]) rfl ?_
          exact ⟨by rw [hvl.out]; rfl, (BY.out.setCell (p := ⟨w.heap.size, 0, none⟩) (Nat.le_refl _) _).setCell (p := ⟨w.heap.size, 1, none⟩) (Nat.le_refl _) _⟩
    · have hr := Lib.hid (expR_len ho1 ho2 (by rw [← hnp'.out, ← hnq'.out]; exact hlen))
      rw [ho1, ho2]
      have hd1 : ¬ (np : Int) = (nq : Int) := by omega
      clear ho1 ho2 hok hlist' hval' hZ2
      go_wp2
      refine bodyPost_ret (v := .tuple #[.agg #[.string ⟨#[]⟩, .string ⟨#[]⟩], .int .i64 2]) (by simp [results, Tryz.results46, go_sem, z0, z1]) rfl ?_
      exact ⟨by rw [hr.out]; rfl, hBz.out _ _⟩
end Go.Proofs.YtcbpbhaimjhelaaGreatDoor
