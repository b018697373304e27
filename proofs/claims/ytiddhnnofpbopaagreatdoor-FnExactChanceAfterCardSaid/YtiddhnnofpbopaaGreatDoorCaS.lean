/- The chance to be in a state after some steps: the specification's function. Conditions: told by the code. -/
import Derived.Test.YtiddhnnofpbopaaGreatDoorCa
import Derived.Test.YtiddhnnofpbopaaGreatDoorSaS
namespace Go.Proofs.YtiddhnnofpbopaaGreatDoor
open Go.RowKit Go.Deep
set_option linter.unusedVariables false
set_option linter.unusedSimpArgs false

set_option maxRecDepth 100000 in
set_option maxHeartbeats 40000000 in
theorem ChanceAfter_spec (cv : Value) (c : Ch) (si ti mi : Int) (w : World) (hc : ChR w cv c) :
    Calls Tryz.prog 10 #[cv, .int .i64 si, .int .i64 ti, .int .i64 mi] w fun e w' => e = .returned (.tuple #[.agg #[.string (caR c si ti mi).1.1, .string (caR c si ti mi).1.2], .int .i64 (caR c si ti mi).2]) ∧ Below w.heap.size w w' := by
  obtain ⟨ca, ccap, hcv, hcr⟩ : ∃ a cap, cv = .agg #[.int .i64 c.n, .int .i64 c.t, .slice a c.w.length cap] ∧ Rows2 w (.slice a c.w.length cap) c.w := by
    obtain ⟨v, rfl, hr⟩ := hc
    obtain ⟨_, a, cap, rfl⟩ := hr.len
    exact ⟨a, cap, rfl, hr⟩
  subst hcv
  have b1 := below1 w (.cells #[.int .i64 c.n, .int .i64 c.t, .slice ca c.w.length ccap] 26)
  have b2 := below1 (w.alloc (.cells #[.int .i64 c.n, .int .i64 c.t, .slice ca c.w.length ccap] 26)) (.cells #[.string ⟨#[]⟩, .string ⟨#[]⟩] 30)
  have b12 := below_wt b1 b2
  have hB := (Blk.new w #[.int .i64 c.n, .int .i64 c.t, .slice ca c.w.length ccap] 26).keep b2 (Blk.new _ _ _).lt
  have hRb := Blk.new (w.alloc (.cells #[.int .i64 c.n, .int .i64 c.t, .slice ca c.w.length ccap] 26)) #[.string ⟨#[]⟩, .string ⟨#[]⟩] 30
  simp only [World.size_alloc] at hRb
  have hW0 := hcr.keep b12
  have hP : ChP ((w.alloc (.cells #[.int .i64 c.n, .int .i64 c.t, .slice ca c.w.length ccap] 26)).alloc (.cells #[.string ⟨#[]⟩, .string ⟨#[]⟩] 30)) w.heap.size c := ⟨_, hB.cell 0, hB.cell 1, hB.cell 2, hW0⟩
  have hok1 := Lib.hid (l01Ok_any w.heap.size c _ hP)
  replace hW0 := Lib.hid hW0
  replace b12 := Lib.hid b12
  replace hB := Lib.hid hB
  replace hRb := Lib.hid hRb
  clear hc hcr b1 b2 hP
  go_enter Tryz.func10, Tryz.ntmps10
  go_wp2_with fail
  (with_reducible refine hok1.out.mono ?_)
  rintro e w2 ⟨rfl, k, hk⟩
  have bk : Below ((w.alloc (.cells #[.int .i64 c.n, .int .i64 c.t, .slice ca c.w.length ccap] 26)).alloc (.cells #[.string ⟨#[]⟩, .string ⟨#[]⟩] 30)).heap.size ((w.alloc (.cells #[.int .i64 c.n, .int .i64 c.t, .slice ca c.w.length ccap] 26)).alloc (.cells #[.string ⟨#[]⟩, .string ⟨#[]⟩] 30)) w2 := by rw [hk]; exact below_drewN (Below.refl _ _) k
  have hB2 := hB.out.keep bk hB.out.lt
  have hR2 := hRb.out.keep bk hRb.out.lt
  have hW2 := Lib.hid (hW0.out.keep bk)
  have B2 := Lib.hid (below_wt b12.out bk)
  obtain ⟨q0, q1, q2⟩ := (⟨hB2.cell 0, hB2.cell 1, hB2.cell 2⟩ : _ ∧ _ ∧ _)
  obtain ⟨z0, z1⟩ := (⟨hR2.cell 0, hR2.cell 1⟩ : _ ∧ _)
  have f0 := hR2.frozen 0
  have f1 := hR2.frozen 1
  simp only [List.getElem?_toArray, List.getElem?_cons_zero, List.getElem?_cons_succ] at z0 z1 q0 q1 q2
  have Bf := Lib.hid ((B2.out.setCell (p := ⟨w.heap.size + 1, 0, none⟩) (Nat.le_succ _) (.string ⟨#[]⟩)).setCell (p := ⟨w.heap.size + 1, 1, none⟩) (Nat.le_succ _) (.string ⟨#[]⟩))
  clear hk bk hB hRb hW0 b12 hok1
  rcases hok : chOk c with _ | _
  · have hr := Lib.hid (caR_bad (s := si) (t := ti) (m := mi) hok)
    clear hok hB2 hR2 hW2 B2 q0 q1 q2
    go_wp2
    refine bodyPost_ret (v := .tuple #[.agg #[.string ⟨#[]⟩, .string ⟨#[]⟩], .int .i64 1]) (by simp [results, Tryz.results10, go_sem, z0, z1]) rfl ?_
    exact ⟨by rw [hr.out]; first | done | rfl, Bf.out⟩
  · have hcf := chF_of hok
    have n1 : 1 ≤ c.n := by have := hcf.n1; omega
    have n6 : c.n ≤ 6 := by have := hcf.n6; have := hcf.nn; omega
    have hi1 := Lib.hid (l00In_any si 0 (c.n - 1) w2)
    have hi2 := Lib.hid (l00In_any ti 0 (c.n - 1) w2)
    have hi3 := Lib.hid (l01Steps_is mi w2)
    have hok' := Lib.hid hok
    clear hok hcf
    go_wp2_with fail
    (with_reducible refine hi1.out.mono ?_)
    rintro e w3 ⟨rfl, rfl⟩
    rcases hs : inB si 0 (c.n - 1) with _ | _
    · have hr := Lib.hid (caR_out (t := ti) (m := mi) hok'.out (by rw [hs]; rfl))
      clear hB2 hR2 hW2 B2 hs hi1 hi2 hi3 q0 q1 q2 n1 n6
      go_wp2
      refine bodyPost_ret (v := .tuple #[.agg #[.string ⟨#[]⟩, .string ⟨#[]⟩], .int .i64 2]) (by simp [results, Tryz.results10, go_sem, z0, z1]) rfl ?_
      exact ⟨by rw [hr.out]; first | done | rfl, Bf.out⟩
    · have hs' := Lib.hid hs
      clear hs
      go_wp2_with fail
      (with_reducible refine hi2.out.mono ?_)
      rintro e w3 ⟨rfl, rfl⟩
      have hRc := Lib.hid (fun (h : (inB ti 0 (c.n - 1) && inB mi 0 40) = false) => (show caR c si ti mi = ((⟨#[]⟩, ⟨#[]⟩), 2) from caR_out hok'.out (by rw [hs'.out]; exact h)))
      rcases ht : inB ti 0 (c.n - 1) with _ | _
      · have hr := Lib.hid (hRc.out (by rw [ht]; rfl))
        clear hB2 hR2 hW2 B2 ht hi1 hi2 hi3 q0 q1 q2 n1 n6 hRc
        go_wp2
        refine bodyPost_ret (v := .tuple #[.agg #[.string ⟨#[]⟩, .string ⟨#[]⟩], .int .i64 2]) (by simp [results, Tryz.results10, go_sem, z0, z1]) rfl ?_
        exact ⟨by rw [hr.out]; first | done | rfl, Bf.out⟩
      · rcases hm : inB mi 0 40 with _ | _
        · have hr := Lib.hid (hRc.out (by rw [ht, hm]; rfl))
          rw [hm] at hi3
          clear hB2 hR2 hW2 B2 ht hi1 hi2 q0 q1 q2 n1 n6 hRc hm
          go_wp2_with fail
          (with_reducible refine hi3.out.mono ?_)
          rintro e w3 ⟨rfl, rfl⟩
          go_wp2
          refine bodyPost_ret (v := .tuple #[.agg #[.string ⟨#[]⟩, .string ⟨#[]⟩], .int .i64 2]) (by simp [results, Tryz.results10, go_sem, z0, z1]) rfl ?_
          exact ⟨by rw [hr.out]; first | done | rfl, Bf.out⟩
        · have u1 := inB_iff.1 hs'.out
          have u2 := inB_iff.1 ht
          have u3 := inB_iff.1 hm
          obtain ⟨s, rfl⟩ : ∃ x : Nat, si = x := ⟨si.toNat, by omega⟩
          obtain ⟨t, rfl⟩ : ∃ x : Nat, ti = x := ⟨ti.toNat, by omega⟩
          obtain ⟨m, rfl⟩ : ∃ x : Nat, mi = x := ⟨mi.toNat, by omega⟩
          rw [hm] at hi3
          obtain ⟨n, T, hF⟩ := caF_of c s t m hok'.out hs'.out ht hm
          obtain ⟨⟨n1, n6, t1, t2, hcn, hct, hcl, hrow⟩, hsn, htn, m40, a9, aW, bl, bn, n9, nW, e0, e9, eW, hval⟩ := hF
          have hmn : m * (1 + n) ≤ 40 * 7 := Nat.mul_le_mul m40 (by omega)
          rw [hcn, hct, hcl] at hB2
          rw [hcl] at hW2
          rw [hcn] at q0
          have hsu := Lib.hid (l01Sure_any n s w2 (by omega) (by omega))
          have haf := Lib.hid (fun w3 (nv dv : Value) (hb : Below w2.heap.size w2 w3) (h1 : RowL LongS w3 nv (sureN n s)) (h2 : LongS w3 dv 1) => l01After_any w.heap.size nv dv (.slice ca n ccap) (sureN n s) 1 n 1 T m c.w w3 ((hB2.keep hb hB2.lt).cell 0) ((hB2.keep hb hB2.lt).cell 1) ((hB2.keep hb hB2.lt).cell 2) h1 h2 (hW2.out.keep hb) (sureN_length n s) n1 (by omega) hcl hrow t1 (by omega) a9 (dlen_le b9 (by decide)) (by omega) (by omega))
          obtain ⟨B, hBe⟩ : ∃ B, afterN c.w (sureN n s) n m = B := ⟨_, rfl⟩
          obtain ⟨E, hEe⟩ : ∃ E, 1 * T ^ m = E := ⟨_, rfl⟩
          obtain ⟨N, hNe⟩ : ∃ N, (afterN c.w (sureN n s) n m).getD t 0 = N := ⟨_, rfl⟩
          rw [hBe] at haf bl hNe
          rw [hEe] at haf
          simp only [hBe, hEe] at hval e0 e9 eW n9 nW
          simp only [hNe] at hval n9 nW
          obtain ⟨x, hx⟩ : ∃ x, toldN (N / Nat.gcd N E) (E / Nat.gcd N E) = x := ⟨_, rfl⟩
          obtain ⟨y, hy⟩ : ∃ x, toldD (N / Nat.gcd N E) (E / Nat.gcd N E) = x := ⟨_, rfl⟩
          obtain ⟨CC, hCC⟩ : ∃ x, toldC (N / Nat.gcd N E) (E / Nat.gcd N E) = x := ⟨_, rfl⟩
          have htl := Lib.hid (fun w3 (a b : Value) (h1 : LongS w3 a (N / Nat.gcd N E)) (h2 : LongS w3 b (E / Nat.gcd N E)) => l01Told_any a b _ _ w3 h1 h2 (Nat.le_trans (dlen_mono b9 (Nat.div_le_self _ _)) (Nat.le_trans n9 (by omega))) (Nat.le_trans (dlen_mono b9 (Nat.div_le_self _ _)) (Nat.le_trans e9 (by omega))))
          rw [hx, hy, hCC] at htl
          unfold vecOne at hval
          rw [hx, hy, hCC] at hval
          replace hval := Lib.hid hval
          replace hR2 := Lib.hid hR2
          replace bl := Lib.hid bl
          have hbn := Lib.hid hNe
          clear bn
          replace hB2 := Lib.hid hB2
          clear hok' hs' ht hm u1 u2 u3 hcn hct hcl hrow a9 aW nW eW hBe hEe hNe hx hy hCC hW2 hRc Bf z0 z1 f0 f1 q1 q2 hi1 hi2
          go_wp2_with fail
          (with_reducible refine hi3.out.mono ?_)
          rintro e w3 ⟨rfl, rfl⟩
          go_wp2_with fail
          (with_reducible refine hsu.out.mono ?_)
          rintro e w4 ⟨a4, c4, d4, rfl, h41, h42, b4⟩
          have haf' := Lib.hid (haf.out w4 _ _ b4 h41 h42)
          have hR4 := Lib.hid (hR2.out.keep b4 hR2.out.lt)
          have B4 := Lib.hid (below_wt B2.out b4)
          clear hsu haf h41 h42 b4 hR2 B2 q0 hB2 hi3
          go_wp2_with fail
          (with_reducible refine haf'.out.mono ?_)
          rintro e w5 ⟨a5, c5, d5, rfl, _, h51, h52, b5⟩
          obtain ⟨da, dl, dc, rfl⟩ := likeS.shape h52
          obtain ⟨bb, bo, xv, rfl, hcX, hX0⟩ := h51.at t (by rw [bl.out]; exact htn)
          obtain ⟨xa, xn, xc, rfl⟩ := likeS.shape hX0
          rw [hbn.out] at hX0
          have bO := below1 w5 (.cells #[.slice (some ⟨bb, bo, none⟩) n c5, .slice da dl dc] 77)
          have hO := Blk.new w5 #[.slice (some ⟨bb, bo, none⟩) n c5, .slice da dl dc] 77
          have hcX' := Lib.hid ((bO.cell (p := ⟨bb, bo + t, none⟩) (block_lt hcX)).trans hcX)
          have hX := Lib.hid (hX0.keep bO)
          have hD := Lib.hid (h52.keep bO)
          have hRb := Lib.hid ((hR4.out.keep b5 hR4.out.lt).keep bO (hR4.out.keep b5 hR4.out.lt).lt)
          have BV := Lib.hid (below_wt (below_wt B4.out b5) bO)
          replace hO := Lib.hid hO
          have i1 : (0 : Int) ≤ (t : Int) := by omega
          have i2 : (t : Int) < (n : Int) := by omega
          clear h51 h52 b5 hcX hX0 bO hR4 B4 haf'
          go_upto_region 6 with fail
          generalize hV : w5.alloc (.cells #[.slice (some ⟨bb, bo, none⟩) n c5, .slice da dl dc] 77) = V at *
          generalize w5.heap.size = O at *
          have cO0 := Lib.hid (fun w1 (hb : Below V.heap.size V w1) => (show w1.cell? ⟨O, 0, none⟩ = some (.slice (some ⟨bb, bo, none⟩) n c5) from (hO.out.keep hb hO.out.lt).cell 0))
          have cO1 := Lib.hid (fun w1 (hb : Below V.heap.size V w1) => (show w1.cell? ⟨O, 1, none⟩ = some (.slice da dl dc) from (hO.out.keep hb hO.out.lt).cell 1))
          have cX := Lib.hid (fun w1 (hb : Below V.heap.size V w1) => (hb.cell (p := ⟨bb, bo + t, none⟩) (block_lt hcX'.out)).trans hcX'.out)
          clear hV hO hcX'
          refine' Rgn.region_by (fun i => match i with | 11 => 1 | 12 => 2 | _ => 0) 2 (fun _ => false) (fun i _ v w' => match i with
              | 0 => v = .pointer (some ⟨O, 0, none⟩)
              | 1 => v = .slice (some ⟨bb, bo, none⟩) n c5
              | 2 => v = .int .i64 (t : Int)
              | 3 => v = .pointer (some ⟨bb, bo + t, none⟩)
              | 4 => v = .slice xa xn xc
              | 5 => v = .pointer (some ⟨O, 1, none⟩)
              | 6 => v = .slice da dl dc
              | 7 => ∃ p q, v = .agg #[p, q] ∧ LongS w' p (N / Nat.gcd N E) ∧ LongS w' q (E / Nat.gcd N E)
              | 8 => v = .tuple #[.agg #[.string x, .string y], .int .i64 CC]
              | 9 => v = .agg #[.string x, .string y]
              | 10 => v = .int .i64 CC
              | _ => True) (fun i _ v => match i with
              | 0 => v = .pointer (some ⟨O, 0, none⟩)
              | 1 => v = .slice (some ⟨bb, bo, none⟩) n c5
              | 2 => v = .int .i64 (t : Int)
              | 3 => v = .pointer (some ⟨bb, bo + t, none⟩)
              | 4 => v = .slice xa xn xc
              | 5 => v = .pointer (some ⟨O, 1, none⟩)
              | 6 => v = .slice da dl dc
              | 7 => True
              | 8 => v = .tuple #[.agg #[.string x, .string y], .int .i64 CC]
              | 9 => v = .agg #[.string x, .string y]
              | 10 => v = .int .i64 CC
              | _ => True)
              (fun p z w' => Blk w' (w.heap.size + 1) #[.string x, .string y] 30 ∧ Below w.heap.size w w' ∧ (p = 2 → z 12 = .int .i64 CC)) (by kernel_rfl) (by kernel_rfl) (by kernel_rfl) ?hst_a ?hG_a _ ?hfr_a ?hob_a ?hend_a
          case hfr_a =>
            intro z
            simp only [Rgn.fillAll, Act.put, List.setIfInBounds_toArray, List.set_cons_zero, List.set_cons_succ, Nat.reduceAdd, Nat.zero_add]
            exact rfl
          case hst_a =>
            intro i z v w1 w2 hi hb hx
            rcases i with _ | i
            · exact hx
            rcases i with _ | i
            · exact hx
            rcases i with _ | i
            · exact hx
            rcases i with _ | i
            · exact hx
            rcases i with _ | i
            · exact hx
            rcases i with _ | i
            · exact hx
            rcases i with _ | i
            · exact hx
            rcases i with _ | i
            · exact (fun v w1 w2 hb h => h.elim fun p h => h.elim fun q h => ⟨p, q, h.1, h.2.1.keep hb, h.2.2.keep hb⟩) v w1 w2 hb hx
            rcases i with _ | i
            · exact (fun v w1 w2 hb h => h) v w1 w2 hb hx
            rcases i with _ | i
            · exact hx
            rcases i with _ | i
            · exact hx
            rcases i with _ | i
            · exact trivial
            rcases i with _ | i
            · exact trivial
            exact trivial
          case hG_a =>
            intro i z v w1 hi hx
            rcases i with _ | i
            · exact hx
            rcases i with _ | i
            · exact hx
            rcases i with _ | i
            · exact hx
            rcases i with _ | i
            · exact hx
            rcases i with _ | i
            · exact hx
            rcases i with _ | i
            · exact hx
            rcases i with _ | i
            · exact hx
            rcases i with _ | i
            · trivial
            rcases i with _ | i
            · exact hx
            rcases i with _ | i
            · exact hx
            rcases i with _ | i
            · exact hx
            rcases i with _ | i
            · exact trivial
            rcases i with _ | i
            · exact trivial
            exact trivial
          case hob_a =>
            intro hfr
            refine Rgn.AllOb.cons (j := 1) (by kernel_rfl) ?_ ?_
            · refine' Rgn.ob_body (fr := _) ?hf_a0 ?h1_a0 ?h2_a0 ?h3_a0 ?h_a0
              case hf_a0 => exact hfr
              case h1_a0 => kernel_rfl
              case h2_a0 => kernel_rfl
              case h3_a0 => rfl
              clear hfr
              intro z w1 hb hd ho K hK
              clear hd ho
              go_simp
              have hh := hK.out (.pointer (some ⟨O, 0, none⟩)) _ (Below.refl _ _) rfl
              simp only [Act.put, List.setIfInBounds_toArray, List.set_cons_zero, List.set_cons_succ] at hh
              exact hh
            refine Rgn.AllOb.cons (j := 2) (by kernel_rfl) ?_ ?_
            · refine' Rgn.ob_body (fr := _) ?hf_a1 ?h1_a1 ?h2_a1 ?h3_a1 ?h_a1
              case hf_a1 => exact hfr
              case h1_a1 => kernel_rfl
              case h2_a1 => kernel_rfl
              case h3_a1 => rfl
              clear hfr
              intro z w1 hb hd ho K hK
              have e0 : z 0 = .pointer (some ⟨O, 0, none⟩) := hd.out 0 (by kernel_rfl)
              clear hd ho
              have x0 := cO0.out w1 hb
              go_simp
              have hh := hK.out (.slice (some ⟨bb, bo, none⟩) n c5) _ (Below.refl _ _) rfl
              simp only [Act.put, List.setIfInBounds_toArray, List.set_cons_zero, List.set_cons_succ, e0] at hh
              exact hh
            refine Rgn.AllOb.cons (j := 3) (by kernel_rfl) ?_ ?_
            · refine' Rgn.ob_body (fr := _) ?hf_a2 ?h1_a2 ?h2_a2 ?h3_a2 ?h_a2
              case hf_a2 => exact hfr
              case h1_a2 => kernel_rfl
              case h2_a2 => kernel_rfl
              case h3_a2 => rfl
              clear hfr
              intro z w1 hb hd ho K hK
              clear hd ho
              go_simp
              have hh := hK.out (.int .i64 (t : Int)) _ (Below.refl _ _) rfl
              simp only [Act.put, List.setIfInBounds_toArray, List.set_cons_zero, List.set_cons_succ] at hh
              exact hh
            refine Rgn.AllOb.cons (j := 4) (by kernel_rfl) ?_ ?_
            · refine' Rgn.ob_body (fr := _) ?hf_a3 ?h1_a3 ?h2_a3 ?h3_a3 ?h_a3
              case hf_a3 => exact hfr
              case h1_a3 => kernel_rfl
              case h2_a3 => kernel_rfl
              case h3_a3 => rfl
              clear hfr
              intro z w1 hb hd ho K hK
              have e1 : z 1 = .slice (some ⟨bb, bo, none⟩) n c5 := hd.out 1 (by kernel_rfl)
              have e2 : z 2 = .int .i64 (t : Int) := hd.out 2 (by kernel_rfl)
              clear hd ho
              go_simp
              have hh := hK.out (.pointer (some ⟨bb, bo + t, none⟩)) _ (Below.refl _ _) rfl
              simp only [Act.put, List.setIfInBounds_toArray, List.set_cons_zero, List.set_cons_succ, e1, e2] at hh
              exact hh
            refine Rgn.AllOb.cons (j := 5) (by kernel_rfl) ?_ ?_
            · refine' Rgn.ob_body (fr := _) ?hf_a4 ?h1_a4 ?h2_a4 ?h3_a4 ?h_a4
              case hf_a4 => exact hfr
              case h1_a4 => kernel_rfl
              case h2_a4 => kernel_rfl
              case h3_a4 => rfl
              clear hfr
              intro z w1 hb hd ho K hK
              have e3 : z 3 = .pointer (some ⟨bb, bo + t, none⟩) := hd.out 3 (by kernel_rfl)
              clear hd ho
              have x0 := cX.out w1 hb
              go_simp
              have hh := hK.out (.slice xa xn xc) _ (Below.refl _ _) rfl
              simp only [Act.put, List.setIfInBounds_toArray, List.set_cons_zero, List.set_cons_succ, e3] at hh
              exact hh
            refine Rgn.AllOb.cons (j := 6) (by kernel_rfl) ?_ ?_
            · refine' Rgn.ob_body (fr := _) ?hf_a5 ?h1_a5 ?h2_a5 ?h3_a5 ?h_a5
              case hf_a5 => exact hfr
              case h1_a5 => kernel_rfl
              case h2_a5 => kernel_rfl
              case h3_a5 => rfl
              clear hfr
              intro z w1 hb hd ho K hK
              clear hd ho
              go_simp
              have hh := hK.out (.pointer (some ⟨O, 1, none⟩)) _ (Below.refl _ _) rfl
              simp only [Act.put, List.setIfInBounds_toArray, List.set_cons_zero, List.set_cons_succ] at hh
              exact hh
            refine Rgn.AllOb.cons (j := 7) (by kernel_rfl) ?_ ?_
            · refine' Rgn.ob_body (fr := _) ?hf_a6 ?h1_a6 ?h2_a6 ?h3_a6 ?h_a6
              case hf_a6 => exact hfr
              case h1_a6 => kernel_rfl
              case h2_a6 => kernel_rfl
              case h3_a6 => rfl
              clear hfr
              intro z w1 hb hd ho K hK
              have e5 : z 5 = .pointer (some ⟨O, 1, none⟩) := hd.out 5 (by kernel_rfl)
              clear hd ho
              have x0 := cO1.out w1 hb
              go_simp
              have hh := hK.out (.slice da dl dc) _ (Below.refl _ _) rfl
              simp only [Act.put, List.setIfInBounds_toArray, List.set_cons_zero, List.set_cons_succ, e5] at hh
              exact hh
            refine Rgn.AllOb.cons (j := 8) (by kernel_rfl) ?_ ?_
            · refine' Rgn.ob_body (fr := _) ?hf_a7 ?h1_a7 ?h2_a7 ?h3_a7 ?h_a7
              case hf_a7 => exact hfr
              case h1_a7 => kernel_rfl
              case h2_a7 => kernel_rfl
              case h3_a7 => rfl
              clear hfr
              intro z w1 hb hd ho K hK
              have e4 : z 4 = .slice xa xn xc := hd.out 4 (by kernel_rfl)
              have e6 : z 6 = .slice da dl dc := hd.out 6 (by kernel_rfl)
              clear hd ho
              go_simp
              refine (l01Over_any _ _ N E w1 (hX.out.keep hb) (hD.out.keep hb) e0 (by omega) (by omega)).mono ?_
              rintro e w2 ⟨p, q, rfl, hp, hq2, b⟩
              have hh := hK.out _ _ b ⟨p, q, rfl, hp, hq2⟩
              simp only [Act.put, List.setIfInBounds_toArray, List.set_cons_zero, List.set_cons_succ, e4, e6] at hh
              exact hh
            refine Rgn.AllOb.cons (j := 9) (by kernel_rfl) ?_ ?_
            · refine' Rgn.ob_body (fr := _) ?hf_a8 ?h1_a8 ?h2_a8 ?h3_a8 ?h_a8
              case hf_a8 => exact hfr
              case h1_a8 => kernel_rfl
              case h2_a8 => kernel_rfl
              case h3_a8 => rfl
              clear hfr
              intro z w1 hb hd ho K hK
              have e7 : ∃ p q, (z 7) = .agg #[p, q] ∧ LongS w1 p (N / Nat.gcd N E) ∧ LongS w1 q (E / Nat.gcd N E) := hd.out 7 (by kernel_rfl)
              clear hd ho
              go_simp
              obtain ⟨p, q, e7, hp, hq2⟩ := e7
              simp only [e7]
              refine (htl.out w1 p q hp hq2).mono ?_
              rintro e w2 ⟨rfl, b⟩
              have hh := hK.out _ _ b rfl
              simp only [Act.put, List.setIfInBounds_toArray, List.set_cons_zero, List.set_cons_succ, e7] at hh
              exact hh
            refine Rgn.AllOb.cons (j := 10) (by kernel_rfl) ?_ ?_
            · refine' Rgn.ob_body (fr := _) ?hf_a9 ?h1_a9 ?h2_a9 ?h3_a9 ?h_a9
              case hf_a9 => exact hfr
              case h1_a9 => kernel_rfl
              case h2_a9 => kernel_rfl
              case h3_a9 => rfl
              clear hfr
              intro z w1 hb hd ho K hK
              have e8 : (z 8) = .tuple #[.agg #[.string x, .string y], .int .i64 CC] := hd.out 8 (by kernel_rfl)
              clear hd ho
              go_simp
              have hh := hK.out (.agg #[.string x, .string y]) _ (Below.refl _ _) rfl
              simp only [Act.put, List.setIfInBounds_toArray, List.set_cons_zero, List.set_cons_succ, e8] at hh
              exact hh
            refine Rgn.AllOb.cons (j := 11) (by kernel_rfl) ?_ ?_
            · refine' Rgn.ob_body (fr := _) ?hf_a10 ?h1_a10 ?h2_a10 ?h3_a10 ?h_a10
              case hf_a10 => exact hfr
              case h1_a10 => kernel_rfl
              case h2_a10 => kernel_rfl
              case h3_a10 => rfl
              clear hfr
              intro z w1 hb hd ho K hK
              have e8 : (z 8) = .tuple #[.agg #[.string x, .string y], .int .i64 CC] := hd.out 8 (by kernel_rfl)
              clear hd ho
              go_simp
              have hh := hK.out (.int .i64 CC) _ (Below.refl _ _) rfl
              simp only [Act.put, List.setIfInBounds_toArray, List.set_cons_zero, List.set_cons_succ, e8] at hh
              exact hh
            refine Rgn.AllOb.cons (j := 12) (by kernel_rfl) ?_ ?_
            · refine' Rgn.ob_tail0 (fr := _) ?hf_a11 ?h1_a11 ?h3_a11 ?h_a11
              case hf_a11 => exact hfr
              case h1_a11 => kernel_rfl
              case h3_a11 => rfl
              clear hfr
              intro z w1 hb hf hd ho K hK
              have e9 : z 9 = .agg #[.string x, .string y] := hf.out 9 (by decide) rfl rfl
              have hX1 := hRb.out.keep hb hRb.out.lt
              have y0 := hX1.cell 0
              have y1 := hX1.cell 1
              have f0 := hX1.frozen 0
              have f1 := hX1.frozen 1
              simp only [List.getElem?_toArray, List.getElem?_cons_zero, List.getElem?_cons_succ] at y0 y1
              clear hf hd ho
              go_simp
              have hh := hK.out undef _ ⟨by have := (hX1.set 0 (.string x)).set 1 (.string y); simpa using this, ((below_wt BV.out hb).setCell (p := ⟨w.heap.size + 1, 0, none⟩) (Nat.le_succ _) _).setCell (p := ⟨w.heap.size + 1, 1, none⟩) (Nat.le_succ _) _, fun h => absurd h (by decide)⟩
              simp only [Act.put, List.setIfInBounds_toArray, List.set_cons_zero, List.set_cons_succ, e9] at hh
              exact hh
            refine Rgn.AllOb.cons (j := 13) (by kernel_rfl) ?_ ?_
            · refine' Rgn.ob_tail (fr := _) ?hf_a12 ?h1_a12 ?h3_a12 ?hp_a12 ?h4_a12 ?h_a12
              case hp_a12 => exact 1
              case hf_a12 => exact hfr
              case h1_a12 => kernel_rfl
              case h3_a12 => rfl
              case h4_a12 => kernel_rfl
              clear hfr
              intro z w1 hT hd ho K hK
              obtain ⟨h1, h2, _⟩ := hT
              have e11 : z 10 = .int .i64 CC := hd.out 10 rfl (by kernel_rfl)
              clear hd ho
              go_simp
              have hh := hK.out (.int .i64 CC) _ ⟨h1, h2, fun _ => rfl⟩
              simp only [Act.put, List.setIfInBounds_toArray, List.set_cons_zero, List.set_cons_succ, e11] at hh
              exact hh
            exact Rgn.AllOb.nil
          case hend_a =>
            intro hfr
            refine' Rgn.end_tails (fr := _) ?g1_a ?g2_a ?g3_a
            case g1_a => exact hfr
            case g2_a => rfl
            clear hfr
            intro z w6 hT hg
            obtain ⟨hR6, b6, h13⟩ := hT
            have e12 : z 12 = .int .i64 CC := h13 rfl
            obtain ⟨z0, z1⟩ := (⟨hR6.cell 0, hR6.cell 1⟩ : _ ∧ _)
            simp only [List.getElem?_toArray, List.getElem?_cons_zero, List.getElem?_cons_succ] at z0 z1
            replace b6 := Lib.hid b6
            simp only [e12]
            clear hg hR6 e12 h13 cO0 cO1 cX hRb
            go_wp2
            refine bodyPost_ret (v := .tuple #[.agg #[.string x, .string y], .int .i64 CC]) (by simp [results, Tryz.results10, go_sem, z0, z1]) rfl ?_
            exact ⟨by rw [hval.out]; first | done | rfl, b6.out⟩
end Go.Proofs.YtiddhnnofpbopaaGreatDoor
