/- writeFractions of the project: a list of fractions, in lowest terms, as texts. Conditions: at most 10^6 values of at most 10^6 words. -/
import Derived.Test.YtiddhnnofpbopaaGreatDoorFsG
import Derived.Test.YtiddhnnofpbopaaGreatDoorDigG
import Derived.Test.YtiddhnnofpbopaaGreatDoorListG
namespace Go.Proofs.YtiddhnnofpbopaaGreatDoor
open Go.RowKit Go.Deep
set_option linter.unusedVariables false
set_option linter.unusedSimpArgs false

/-- a fraction in lowest terms -/
def lowP (c : Nat × Nat) : Nat × Nat := (c.1 / Nat.gcd c.1 c.2, c.2 / Nat.gcd c.1 c.2)
theorem lowP_same {a b : Nat × Nat} (h1 : 0 < a.2) (h2 : 0 < b.2) (h : a.1 * b.2 = b.1 * a.2) : lowP a = lowP b := by
  obtain ⟨N, D⟩ := a
  obtain ⟨M, E⟩ := b
  simp only at h1 h2 h
  have g1 : 0 < Nat.gcd N D := Nat.gcd_pos_of_pos_right _ h1
  have g2 : 0 < Nat.gcd M E := Nat.gcd_pos_of_pos_right _ h2
  have eN := (Nat.div_mul_cancel (Nat.gcd_dvd_left N D)).symm
  have eD := (Nat.div_mul_cancel (Nat.gcd_dvd_right N D)).symm
  have eM := (Nat.div_mul_cancel (Nat.gcd_dvd_left M E)).symm
  have eE := (Nat.div_mul_cancel (Nat.gcd_dvd_right M E)).symm
  have c1 : Nat.gcd (N / Nat.gcd N D) (D / Nat.gcd N D) = 1 := Nat.gcd_div_gcd_div_gcd_of_pos_right h1
  have c2 : Nat.gcd (M / Nat.gcd M E) (E / Nat.gcd M E) = 1 := Nat.gcd_div_gcd_div_gcd_of_pos_right h2
  have d1 : 0 < D / Nat.gcd N D := Nat.div_pos (Nat.le_of_dvd h1 (Nat.gcd_dvd_right N D)) g1
  have d2 : 0 < E / Nat.gcd M E := Nat.div_pos (Nat.le_of_dvd h2 (Nat.gcd_dvd_right M E)) g2
  unfold lowP
  simp only
  generalize Nat.gcd N D = g at *
  generalize Nat.gcd M E = g' at *
  generalize N / g = n at *
  generalize D / g = d at *
  generalize M / g' = m at *
  generalize E / g' = e at *
  subst eN eD eM eE
  have h' : (n * e) * (g * g') = (m * d) * (g * g') := by grind
  have h3 := Nat.eq_of_mul_eq_mul_right (Nat.mul_pos g1 g2) h'
  have a1 : d ∣ e := by
    have : d ∣ n * e := ⟨m, by rw [h3, Nat.mul_comm]⟩
    exact Nat.Coprime.dvd_of_dvd_mul_left (by rw [Nat.Coprime, Nat.gcd_comm]; exact c1) this
  have a2 : e ∣ d := by
    have : e ∣ m * d := ⟨n, by rw [← h3, Nat.mul_comm]⟩
    exact Nat.Coprime.dvd_of_dvd_mul_left (by rw [Nat.Coprime, Nat.gcd_comm]; exact c2) this
  have e1 : d = e := Nat.dvd_antisymm a1 a2
  subst e1
  have e2 := Nat.eq_of_mul_eq_mul_right d1 h3
  subst e2
  rfl

def ratOk (l : List (Nat × Nat)) : Bool := l.all fun c => vecGood c.1 c.2
def ratT (l : List (Nat × Nat)) : List (ByteArray × ByteArray) := if ratOk l = true then l.map fun c => vecOne c.1 c.2 else []
def ratC (l : List (Nat × Nat)) : Int := if ratOk l = true then 0 else 3
theorem ratT_length (l : List (Nat × Nat)) : (ratT l).length ≤ l.length := by unfold ratT; split <;> simp
theorem ratOk_no {l : List (Nat × Nat)} {k : Nat} (h : k < l.length) (hk : vecGood (l.getD k (0, 0)).1 (l.getD k (0, 0)).2 = false) : ratOk l = false := by
  rw [Bool.eq_false_iff]; intro hc
  have := List.all_eq_true.1 hc (l.getD k (0, 0)) (by simp [List.getD, h])
  rw [hk] at this; cases this
theorem ratOk_next {l : List (Nat × Nat)} {k : Nat} (h : k < l.length) (h1 : ratOk (l.take k) = true) (hk : vecGood (l.getD k (0, 0)).1 (l.getD k (0, 0)).2 = true) : ratOk (l.take (k + 1)) = true := by
  unfold ratOk at *
  rw [List.take_add_one, List.getElem?_eq_getElem h, List.all_append, h1]
  simpa [List.getD, h] using hk
theorem rat_take (l : List (Nat × Nat)) (k : Nat) (h : k < l.length) : (l.take (k + 1)).map (fun c => vecOne c.1 c.2) = (l.take k).map (fun c => vecOne c.1 c.2) ++ [vecOne (l.getD k (0, 0)).1 (l.getD k (0, 0)).2] := by
  rw [List.take_add_one, List.getElem?_eq_getElem h, List.map_append]
  congr 1
  simp [List.getD, h]
theorem ratOk_low (l : List (Nat × Nat)) : ratOk l = (l.map lowP).all fun c => toldB c.1 c.2 := by
  unfold ratOk; rw [List.all_map]; rfl
theorem ratM_low (l : List (Nat × Nat)) : (l.map fun c => vecOne c.1 c.2) = (l.map lowP).map fun c => (toldN c.1 c.2, toldD c.1 c.2) := by
  rw [List.map_map]; rfl
/-- the same fractions, in whatever terms, have the same texts -/
theorem rat_same {l l' : List (Nat × Nat)} (h : l.map lowP = l'.map lowP) : ratT l = ratT l' ∧ ratC l = ratC l' := by
  unfold ratT ratC
  rw [ratOk_low, ratOk_low, ratM_low, ratM_low, h]
  exact ⟨rfl, rfl⟩
theorem low_same_list {l l' : List (Nat × Nat)} (hl : l.length = l'.length) (h : ∀ i, i < l.length → 0 < (l.getD i (0, 0)).2 ∧ 0 < (l'.getD i (0, 0)).2 ∧ (l.getD i (0, 0)).1 * (l'.getD i (0, 0)).2 = (l'.getD i (0, 0)).1 * (l.getD i (0, 0)).2) : l.map lowP = l'.map lowP := by
  apply List.ext_getElem
  · simp [hl]
  · intro i h1 h2
    simp only [List.length_map] at h1 h2
    obtain ⟨a, b, c⟩ := h i h1
    simp only [List.getElem_map]
    simp only [List.getD, List.getElem?_eq_getElem h1, List.getElem?_eq_getElem h2, Option.getD_some] at a b c
    exact lowP_same a b c
theorem vec_rat (R : List Nat) (D : Nat) : vecT R D = ratT (R.map fun n => (n, D)) ∧ vecC R D = ratC (R.map fun n => (n, D)) := by
  have h : vecOk R D = ratOk (R.map fun n => (n, D)) := by unfold vecOk ratOk; rw [List.all_map]; rfl
  unfold vecT ratT vecC ratC
  rw [h, List.map_map]
  exact ⟨rfl, rfl⟩

theorem make_frT (n : Nat) (hb : n ≤ 1000000) (w : World) :
    (Instr.makeSlice 43 (.int .i64 0) (.int .i64 (n : Int))).run Tryz.prog w = .ok (.slice (some ⟨w.heap.size, 0, none⟩) 0 n) (w.alloc (.cells (madeCells #[.string ⟨#[]⟩, .string ⟨#[]⟩] (n * 2)) 30)) := by
  obtain ⟨i0, hi, hz0, hz1, hz2⟩ := info_parts Tryz.infoFrV
  have := run_make (P := Tryz.prog) w 43 30 i0 (.agg #[.string ⟨#[]⟩, .string ⟨#[]⟩]) Tryz.underlying43 hi hz0 .i64 .i64 0 (n : Int) (Int.le_refl _) (by omega) (by rw [hz2]; omega) (by omega)
  rw [this, hz1, Int.toNat_natCast]
  rfl
theorem made_frT (n : Nat) (hb : n ≤ 1000000) (w : World) : MadeT (w.alloc (.cells (madeCells #[.string ⟨#[]⟩, .string ⟨#[]⟩] (n * 2)) 30)) w.heap.size (.slice (some ⟨w.heap.size, 0, none⟩) 0 n) [] :=
  ⟨[], World.ownsRow_made w _ n (Nat.le_refl _) (by unfold maxLen; omega) (by simp [madeCells]), fun i hi => by simp at hi⟩

set_option maxRecDepth 100000 in
set_option maxHeartbeats 8000000 in
theorem writeFractions_any (v : Value) (l : List (Nat × Nat)) (w : World) (hv : PairL LongI w v l) (hd : ∀ i, i < l.length → 0 < (l.getD i (0, 0)).2) (hs : ∀ i, i < l.length → dlen W32 (l.getD i (0, 0)).1 ≤ 1000000 ∧ dlen W32 (l.getD i (0, 0)).2 ≤ 1000000)
    (hb : l.length ≤ 1000000) (htab : Tab10 w) :
    Calls Tryz.prog 62 #[v] w fun e w' => ∃ v', e = .returned (.tuple #[v', .int .i64 (ratC l)]) ∧ FrOwn w' w.heap.size w'.heap.size v' (ratT l) ∧ Below w.heap.size w w' := by
  have hv0 := Lib.hid hv
  obtain ⟨va, vc, rfl, _⟩ := id hv
  have htab' := Lib.hid htab
  have hsz := Lib.hid hs
  have hdp := Lib.hid hd
  have hmk := fun W => make_frT l.length hb W
  have hst := Lib.hid (show MadeT _ w.heap.size _ ((l.take 0).map fun c => vecOne c.1 c.2) from made_frT l.length hb w)
  have hno := Lib.hid (fun k h h2 => ratOk_no (l := l) (k := k) h h2)
  have hnx := Lib.hid (fun k h h1 h2 => ratOk_next (l := l) (k := k) h h1 h2)
  have hvt := Lib.hid (fun k h => rat_take l k h)
  have hall := Lib.hid (show l.take l.length = l from List.take_length)
  have hkl := Lib.hid (fun k (h : k ≤ l.length) => (show ((l.take k).map fun c => vecOne c.1 c.2).length = k by rw [List.length_map, List.length_take]; omega))
  have h0 := Lib.hid (show ratOk (l.take 0) = true by rfl)
  have B1 := Lib.hid (below1 w (.cells (madeCells #[.string ⟨#[]⟩, .string ⟨#[]⟩] (l.length * 2)) 30))
  obtain ⟨i0, hi, hz0, hz1, hz2⟩ := info_parts Tryz.infoFrV
  have hi' := Lib.hid hi; have hz0' := Lib.hid hz0; have hz1' := Lib.hid hz1; have hz2' := Lib.hid hz2
  obtain ⟨L, hL⟩ : ∃ L, L = l.length := ⟨_, rfl⟩
  rw [← hL] at hmk hst hno hnx hvt hall hkl hsz hdp hb B1 ⊢
  have hv2 := Lib.hid (show PairL LongI w (.slice va L vc) l by rw [hL]; exact hv0.out)
  replace hL := Lib.hid hL
  clear hv hv0 hs hd htab hi hz0 hz1 hz2
  go_enter Tryz.func62, Tryz.ntmps62
  go_wp2_with fail
  go_loopw [4, 14] (fun s i wr => ∃ (k c : Nat) (a : Option Addr), k ≤ L ∧ i = .int .i64 (k : Int) ∧ s = .slice a k c ∧ Hid (ratOk (l.take k) = true) ∧ Hid (MadeT wr w.heap.size (.slice a k c) ((l.take k).map fun c => vecOne c.1 c.2)) ∧ Hid (Below w.heap.size w wr)) (fun _ i _ => L - (intOf i).toNat)
  case atStart => exact ⟨0, _, _, Nat.zero_le _, rfl, rfl, h0, hst, B1⟩
  case round =>
    obtain ⟨k, c, a, hk, rfl, rfl, hok, hmade, bel⟩ := hrel
    by_cases hlt : k < L
    · obtain ⟨b, off, x, y, rfl, q0, q1, hx, hy⟩ := (hv2.out.keep likeI bel.out).at k (by rw [← hL.out]; exact hlt)
      obtain ⟨xa, xl, xc, rfl⟩ := likeI.shape hx
      obtain ⟨ya, yl, yc, rfl⟩ := likeI.shape hy
      obtain ⟨s3, s4⟩ := hsz.out k hlt
      have hyp := hdp.out k hlt
      have hno1 := Lib.hid (hno.out k (by first | exact hlt | (rw [← hL.out]; exact hlt)))
      have hnx1 := Lib.hid (hnx.out k (by first | exact hlt | (rw [← hL.out]; exact hlt)) hok.out)
      have hvt1 := Lib.hid (hvt.out k (by first | exact hlt | (rw [← hL.out]; exact hlt)))
      have hlt' := Lib.hid hlt
      generalize (l.getD k (0, 0)).1 = XN at *
      generalize (l.getD k (0, 0)).2 = YN at *
      have bb := below1 wr (.cells #[.slice xa xl xc, .slice ya yl yc] 64)
      have hf := Lib.hid (fraction_any (.slice xa xl xc) (.slice ya yl yc) XN YN _ (hx.keep bb) (hy.keep bb) hyp s3 s4 (htab'.out.keep (below_wt bel.out bb)))
      have bel1 := Lib.hid (below_wt bel.out bb)
      have hm1 := Lib.hid (hmade.out.keep bb)
      clear hx hy s3 s4 hyp bb hmade bel
      go_wp2_with fail
      (with_reducible refine hf.out.mono ?_)
      rintro e w1 ⟨rfl, b1⟩
      have B2 := Lib.hid (below_wt bel1.out b1)
      have hm2 := Lib.hid (hm1.out.keep b1)
      clear b1 q0 q1 hf hm1 bel1
      rcases hgd : vecGood XN YN with _ | _
      · have hc := Lib.hid (told_code' hgd)
        have hbad := hno1.out hgd
        have hcv := Lib.hid (show ratC l = 3 by unfold ratC; rw [if_neg (by rw [hbad]; decide)])
        have hct := Lib.hid (show ratT l = [] by unfold ratT; rw [if_neg (by rw [hbad]; decide)])
        generalize toldN (XN / Nat.gcd XN YN) (YN / Nat.gcd XN YN) = tn at *
        generalize toldD (XN / Nat.gcd XN YN) (YN / Nat.gcd XN YN) = td at *
        have B3 := Lib.hid (below_wt B2.out (below1 w1 (.cells #[.string tn, .string td] 30)))
        rw [hc.out]
        clear hbad hgd
        go_wp2
        go_ret2
        exact ⟨_, by rw [hcv.out]; rfl, by rw [hct.out]; exact ⟨by simp, Or.inl ⟨0, rfl, rfl⟩⟩, B3.out⟩
      · have hc := Lib.hid (told_code hgd)
        have hok1 := Lib.hid (hnx1.out hgd)
        have hvt2 := hvt1.out
        rw [show vecOne XN YN = (toldN (XN / Nat.gcd XN YN) (YN / Nat.gcd XN YN), toldD (XN / Nat.gcd XN YN) (YN / Nat.gcd XN YN)) from rfl] at hvt2
        have hvt3 := Lib.hid hvt2
        rw [hc.out]
        clear hvt2 hgd
        generalize toldN (XN / Nat.gcd XN YN) (YN / Nat.gcd XN YN) = tn at *
        generalize toldD (XN / Nat.gcd XN YN) (YN / Nat.gcd XN YN) = td at *
        have bA := below2 w1 (.cells #[.string tn, .string td] 30) (.cells #[.string tn, .string td] 30)
        obtain ⟨xs, ho, hcx⟩ := hm2.out.keep bA
        have hcx' := Lib.hid hcx
        have hkl1 := hkl.out k hk
        rw [hkl1] at ho
        have hxl := Lib.hid (show xs.length = k * 2 from ho.1)
        have ho' := Lib.hid ho
        have sB := B2.out.size
        have B3 := Lib.hid (below_wt B2.out bA)
        clear ho hcx bA
        go_wp2_with (at_builtin; (refine wpList_append_lies _ rfl _ _ 43 rfl w.heap.size 30 i0 (.agg #[.string ⟨#[]⟩, .string ⟨#[]⟩]) 2 32 Tryz.underlying43 hi'.out hz0'.out hz1'.out hz2'.out rfl (by decide) _ _ _ rfl ho'.out ⟨w1.heap.size + 1, 0, none⟩ 1 1 [.string tn, .string td] rfl rfl (fun j u hu => by have := two_new (w1.alloc (.cells #[.string tn, .string td] 30)) (.string tn) (.string td) 30 j u hu; simpa using this) (by simp [Value.oneCell']) (by omega) (by unfold maxLen; omega) (by omega) (by simp; omega) (w1.heap.size + 2) (by simp) ?_); intro gg cap2 w5 hown5 hgr5 hal5 hlt5)
        have B5 := Lib.hid (B3.out.grown hgr5 (by simp; omega) (fun k' hk' => by have := (ho'.out.lt k' hk').1; omega))
        have hM5 := Lib.hid (show MadeT w5 w.heap.size (.slice (some ⟨gg, 0, none⟩) (k + 1) cap2) ((l.take (k + 1)).map fun c => vecOne c.1 c.2) by
          rw [hvt3.out]
          exact MadeT.step hcx'.out (by rw [hkl1]; exact hxl.out) (by rw [hkl1]; exact hown5))
        clear hgr5 hal5 hown5 hkl1
        go_wp2
        go_roundw
        case rel => exact ⟨k + 1, cap2, some ⟨gg, 0, none⟩, by have := hlt'.out; omega, by go_num, rfl, hok1, hM5, B5⟩
        case measure => have := hlt'.out; simp [intOf]; omega
    · obtain rfl : k = L := by omega
      have hM := hmade.out
      have hO := hok.out
      rw [hall.out] at hM hO
      have hcv := Lib.hid (show ratC l = 0 by unfold ratC; rw [if_pos hO])
      have hfin := Lib.hid (show FrOwn wr w.heap.size wr.heap.size (.slice a k c) (ratT l) by
        have e : ratT l = l.map fun c => vecOne c.1 c.2 := by unfold ratT; rw [if_pos hO]
        rw [e]
        exact hM.own (by rw [List.length_map, ← hL.out]; omega))
      have hlt' : ¬ (k : Int) < (k : Int) := by omega
      clear hM hO hmade hok hlt
      go_wp2
      go_ret2
      exact ⟨_, by rw [hcv.out]; rfl, hfin.out, bel.out⟩
end Go.Proofs.YtiddhnnofpbopaaGreatDoor
