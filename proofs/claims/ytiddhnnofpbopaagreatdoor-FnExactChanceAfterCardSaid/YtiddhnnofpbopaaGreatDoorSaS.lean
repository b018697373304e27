/- The spread after some steps: the specification's function. Conditions: told by the code. -/
import Derived.Test.YtiddhnnofpbopaaGreatDoorSa
import Derived.Test.YtiddhnnofpbopaaGreatDoorStH
import Derived.Test.YtiddhnnofpbopaaGreatDoorFsG
namespace Go.Proofs.YtiddhnnofpbopaaGreatDoor
open Go.RowKit Go.Deep
set_option linter.unusedVariables false
set_option linter.unusedSimpArgs false

theorem l01Steps_is (k : Int) (w : World) : Calls Tryz.prog 41 #[.int .i64 k] w fun e w' => e = .returned (.bool (inB k 0 40)) ∧ w = w' := by
  go_enter Tryz.func41, Tryz.ntmps41
  go_wp2_with fail
  refine (l00In_any _ _ _ _).mono ?_
  rintro e w' ⟨rfl, rfl⟩
  go_wp2
  go_ret
  exact ⟨rfl, rfl⟩
theorem frOwn_none (w : World) (B hi : Nat) (h1 : B ≤ w.heap.size) (h2 : w.heap.size < hi) : FrOwn (w.alloc (.cells #[] 30)) B hi (.slice (some ⟨w.heap.size, 0, none⟩) 0 0) [] :=
  ⟨by simp, Or.inr ⟨w.heap.size, 0, #[], rfl, h1, h2, Blk.new _ _ _, by simp, fun i hi => by simp at hi⟩⟩

set_option maxRecDepth 100000 in
set_option maxHeartbeats 40000000 in
theorem SpreadAfter_spec (cv pv : Value) (c : Ch) (p : List (ByteArray × ByteArray)) (mi : Int) (w : World) (hc : ChR w cv c) (hp : FrL w pv p) :
    Calls Tryz.prog 19 #[cv, pv, .int .i64 mi] w fun e w' => ∃ v, e = .returned (.tuple #[v, .int .i64 (saR c p mi).2]) ∧ FrOwn w' w.heap.size w'.heap.size v (saR c p mi).1 ∧ Below w.heap.size w w' := by
  obtain ⟨hm1, va, vc, rfl, _⟩ := id hp
  unfold maxLen at hm1
  obtain ⟨ca, ccap, hcv, hcr⟩ : ∃ a cap, cv = .agg #[.int .i64 c.n, .int .i64 c.t, .slice a c.w.length cap] ∧ Rows2 w (.slice a c.w.length cap) c.w := by
    obtain ⟨v, rfl, hr⟩ := hc
    obtain ⟨_, a, cap, rfl⟩ := hr.len
    exact ⟨a, cap, rfl, hr⟩
  subst hcv
  have b0 := below1 w (.cells #[.int .i64 c.n, .int .i64 c.t, .slice ca c.w.length ccap] 26)
  have hB := Blk.new w #[.int .i64 c.n, .int .i64 c.t, .slice ca c.w.length ccap] 26
  have hrs := Lib.hid (l01Spread_any (.slice va p.length vc) p _ (hp.keep b0))
  have hW0 := Lib.hid (hcr.keep b0)
  obtain ⟨L, hL⟩ : ∃ L, L = p.length := ⟨_, rfl⟩
  rw [← hL] at hm1 hrs ⊢
  have hL' := Lib.hid hL
  clear hc hp hcr hL
  go_enter Tryz.func19, Tryz.ntmps19
  go_wp2_with fail
  (with_reducible refine hrs.out.mono ?_)
  rintro e w1 ⟨pa, qa, pn, pc, qn, qc, rfl, b1, hval⟩
  have bv := below1 w1 (.cells #[.slice pa pn pc, .slice qa qn qc] 77)
  have hV := Blk.new w1 #[.slice pa pn pc, .slice qa qn qc] 77
  have hB1 := hB.keep b1 hB.lt
  have hne := Lib.hid (show w.heap.size < w1.heap.size from hB1.lt)
  have hB2 := hB1.keep bv hB1.lt
  have hW2 := (hW0.out.keep b1).keep bv
  have B2 := below_wt (below_wt b0 b1) bv
  have hP : ChP (w1.alloc (.cells #[.slice pa pn pc, .slice qa qn qc] 77)) w.heap.size c := ⟨_, hB2.cell 0, hB2.cell 1, hB2.cell 2, hW2⟩
  have hok1 := Lib.hid (l01Ok_any w.heap.size c _ hP)
  have hval' := Lib.hid hval
  replace hV := Lib.hid hV; replace hB2 := Lib.hid hB2; replace hW2 := Lib.hid hW2; replace B2 := Lib.hid B2; replace bv := Lib.hid bv
  clear hval b1 hB hB1 hrs hW0 b0 hP
  go_wp2_with fail
  (with_reducible refine hok1.out.mono ?_)
  rintro e w2 ⟨rfl, k, hk⟩
  have bk : Below (w1.alloc (.cells #[.slice pa pn pc, .slice qa qn qc] 77)).heap.size (w1.alloc (.cells #[.slice pa pn pc, .slice qa qn qc] 77)) w2 := by rw [hk]; exact below_drewN (Below.refl _ _) k
  have hV3 := Lib.hid (hV.out.keep bk hV.out.lt)
  have hB3 := Lib.hid (hB2.out.keep bk hB2.out.lt)
  have hW3 := Lib.hid (hW2.out.keep bk)
  have B3 := Lib.hid (below_wt B2.out bk)
  have hval3 := Lib.hid (fun h => (show RowL LongS w2 (.slice pa pn pc) (comN (comD (numP p)) (numP p)) ∧ LongS w2 (.slice qa qn qc) (comD (numP p)) from ⟨((hval'.out h).1.keep likeS bv.out).keep likeS bk, ((hval'.out h).2.keep bv.out).keep bk⟩))
  have hpa := Lib.hid (fun h g o (e : pa = some ⟨g, o, none⟩) (hl : 0 < (comN (comD (numP p)) (numP p)).length) => (show g < w1.heap.size from by
    obtain ⟨b', off, x, ha, hx, _⟩ := (hval'.out h).1.at 0 hl
    rw [e] at ha; injection ha with ha; injection ha with e1 _ _; rw [e1]; exact block_lt hx))
  clear hk bk hV hB2 hW2 B2 hval' hok1 bv
  have hfin := Lib.hid (frOwn_none w2 w.heap.size (w2.heap.size + 1) B3.out.size (Nat.lt_succ_self _))
  have Bf := Lib.hid (below_wt B3.out (below1 w2 (.cells #[] 30)))
  rcases hok : (spreadB p && chOk c) with _ | _
  · have hr := Lib.hid (saR_bad (m := mi) hok)
    clear hV3 hB3 hW3 hval3 hpa B3
    rcases ho2 : chOk c with _ | _
    · clear hok
      go_wp2
      go_ret2
      exact ⟨.slice (some ⟨w2.heap.size, 0, none⟩) 0 0, by rw [hr.out]; first | done | rfl, by rw [hr.out]; have := hfin.out; simpa using this, Bf.out⟩
    · rw [ho2] at hok
      have ho1 : spreadB p = false := by simpa using hok
      rw [ho1]
      clear hok ho1
      go_wp2
      go_ret2
      exact ⟨.slice (some ⟨w2.heap.size, 0, none⟩) 0 0, by rw [hr.out]; first | done | rfl, by rw [hr.out]; have := hfin.out; simpa using this, Bf.out⟩
  · have hok2 := hok
    simp only [Bool.and_eq_true] at hok2
    obtain ⟨ho1, ho2⟩ := hok2
    obtain ⟨b0', b1', b2'⟩ := (⟨hB3.out.cell 0, hB3.out.cell 1, hB3.out.cell 2⟩ : _ ∧ _ ∧ _)
    simp only [List.getElem?_toArray, List.getElem?_cons_zero, List.getElem?_cons_succ] at b0' b1' b2'
    rw [ho1, ho2]
    by_cases hl : (p.length : Int) = c.n
    · have hLc : (L : Int) = c.n := by rw [hL'.out]; exact hl
      have hlne : ((L : Int) != c.n) = false := by simpa using hLc
      have hst0 := Lib.hid (fun W => l01Steps_is mi W)
      rcases hmi : inB mi 0 40 with _ | _
      · have hr := Lib.hid (saR_steps hok hmi)
        rw [hmi] at hst0
        clear hok ho1 ho2 hV3 hB3 hW3 hval3 hpa hl hmi hLc B3
        go_wp2_with fail
        (with_reducible refine (hst0.out _).mono ?_)
        rintro e w3 ⟨rfl, rfl⟩
        go_wp2
        go_ret2
        exact ⟨.slice (some ⟨w2.heap.size, 0, none⟩) 0 0, by rw [hr.out]; first | done | rfl, by rw [hr.out]; have := hfin.out; simpa using this, Bf.out⟩
      · obtain ⟨m0, m1⟩ := inB_iff.1 hmi
        obtain ⟨m, rfl⟩ : ∃ m : Nat, mi = m := ⟨mi.toNat, by omega⟩
        obtain ⟨t, hF⟩ := saF_of c p m ho1 ho2 hl (by omega)
        obtain ⟨hch, hpn, m40, al, bl, a9, aW, d9, dW, e0, b9', e9, bW, eW, hval⟩ := hF
        rw [← hL'.out] at hch al bl a9 aW hval b9'
        obtain ⟨n1, n6, t1, t2, hcn, hct, hcl, hrow⟩ := hch
        obtain ⟨hrowA, hdenD⟩ := hval3.out ho1
        have hpa1 := hpa.out ho1
        rw [hmi] at hst0
        obtain ⟨A, hA⟩ : ∃ A, comN (comD (numP p)) (numP p) = A := ⟨_, rfl⟩
        obtain ⟨D, hD⟩ : ∃ D, comD (numP p) = D := ⟨_, rfl⟩
        rw [hA] at hrowA hpa1 hval al a9 bl b9'
        rw [hD] at hdenD hval d9 e0 e9
        have hmn : m * (1 + L) ≤ 40 * 7 := Nat.mul_le_mul m40 (by omega)
        have hk0 := b0'
        have hk1 := b1'
        have hk2 := b2'
        rw [hcn] at hk0
        rw [hct] at hk1
        have hWw := hW3.out
        have haf := Lib.hid (l01After_any w.heap.size (.slice pa pn pc) (.slice qa qn qc) (.slice ca c.w.length ccap) A D L 3300 t m c.w w2 hk0 hk1 hk2 hrowA hdenD hWw al n1 (by omega) hcl hrow t1 (by omega) a9 d9 (by omega) (by omega))
        have hpa2 := Lib.hid (fun g o e => hpa1 g o e (by omega))
        obtain ⟨B, hBe⟩ : ∃ B, afterN c.w A L m = B := ⟨_, rfl⟩
        obtain ⟨E, hEe⟩ : ∃ E, D * t ^ m = E := ⟨_, rfl⟩
        rw [hBe] at haf hval bl b9'
        rw [hEe] at haf hval e0 e9
        obtain ⟨v0, v1⟩ := (⟨hV3.out.cell 0, hV3.out.cell 1⟩ : _ ∧ _)
        simp only [List.getElem?_toArray, List.getElem?_cons_zero, List.getElem?_cons_succ] at v0 v1
        replace hval := Lib.hid hval
        replace bl := Lib.hid bl
        replace b9' := Lib.hid b9'
        clear hok ho1 ho2 hl hmi hA hD hBe hEe hrowA hdenD hpa1 hval3 hpa hrow hcl hcn hct hk0 hk1 hk2 hWw al a9 aW bW eW dW d9 hpn hmn hLc hfin Bf hW3
        go_wp2_with fail
        (with_reducible refine (hst0.out _).mono ?_)
        rintro e w3 ⟨rfl, rfl⟩
        go_wp2_with fail
        (with_reducible refine haf.out.mono ?_)
        rintro e w5 ⟨a, c5, dv5, rfl, hg5, N5, L5, b5⟩
        obtain ⟨sa, sn, sc, rfl⟩ := likeS.shape L5
        have hV5 := hV3.out.keep b5 hV3.out.lt
        have hne5 : ∀ g o, a = some ⟨g, o, none⟩ → g ≠ w1.heap.size := fun g o e => by
          rcases hg5 g o e with h | ⟨o', n', c', h⟩
          · have := hV3.out.lt; omega
          · injection h with h _ _
            have := hpa2.out g o' h
            omega
        have N6 := Lib.hid ((N5.setBoxS hV5 hne5 0 (.slice a L c5)).setBoxS (hV5.set 0 _) hne5 1 (.slice sa sn sc))
        have L6 := Lib.hid ((L5.setBox hV5 0 (.slice a L c5)).setBox (hV5.set 0 _) 1 (.slice sa sn sc))
        have hV6 := Lib.hid (show Blk _ w1.heap.size #[.slice a L c5, .slice sa sn sc] 77 from by have := (hV5.set 0 (.slice a L c5)).set 1 (.slice sa sn sc); simpa using this)
        have B6 := Lib.hid (((below_wt B3.out b5).setCell (p := ⟨w1.heap.size, 0, none⟩) (Nat.le_of_lt hne.out) (.slice a L c5)).setCell (p := ⟨w1.heap.size, 1, none⟩) (Nat.le_of_lt hne.out) (.slice sa sn sc))
        have htl := Lib.hid (told_any w1.heap.size a sa L c5 sn sc B E _ hV6.out bl.out.symm N6.out L6.out e0 b9'.out e9 (by omega))
        obtain ⟨q0, q1⟩ := (⟨hV5.cell 0, hV5.cell 1⟩ : _ ∧ _)
        have f0 := hV5.frozen 0
        have f1 := hV5.frozen 1
        simp only [List.getElem?_toArray, List.getElem?_cons_zero, List.getElem?_cons_succ] at q0 q1
        clear N5 L5 b5 hV5 hne5 hg5 hV3 hB3 haf hpa2 B3
        go_wp2_with fail
        (with_reducible refine htl.out.mono ?_)
        rintro e w7 ⟨v, rfl, hown, b7⟩
        have hfin := Lib.hid (hown.wide (lo' := w.heap.size) (hi' := w7.heap.size) B6.out.size (Nat.le_refl _))
        have Bf := Lib.hid (below_wt B6.out b7)
        clear hown b7 htl q0 q1 f0 f1
        go_wp2
        go_ret2
        exact ⟨v, by rw [hval.out]; first | done | rfl, by rw [hval.out]; exact hfin.out, Bf.out⟩
    · have hr := Lib.hid (saR_len (m := mi) hok hl)
      have hLc : ¬ (L : Int) = c.n := by rw [hL'.out]; exact hl
      have hlne : ((L : Int) != c.n) = true := by simpa using hLc
      clear hok ho1 ho2 hV3 hB3 hW3 hval3 hpa hl hLc B3
      go_wp2
      go_ret2
      exact ⟨.slice (some ⟨w2.heap.size, 0, none⟩) 0 0, by rw [hr.out]; first | done | rfl, by rw [hr.out]; have := hfin.out; simpa using this, Bf.out⟩
end Go.Proofs.YtiddhnnofpbopaaGreatDoor
