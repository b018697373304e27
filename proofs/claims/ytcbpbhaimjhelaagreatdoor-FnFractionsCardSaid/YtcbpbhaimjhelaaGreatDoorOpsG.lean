/- OpsG: several texts in one (FAdd, FLess, FMul, FDiv, Whole, Nv, Fq). Conditions: told in each. -/
import Derived.Test.YtcbpbhaimjhelaaGreatDoorDigG
import Derived.Test.YtcbpbhaimjhelaaGreatDoorNtxG
import Derived.Test.YtcbpbhaimjhelaaGreatDoorReadG
/- AddFraction of both sides. Conditions: none but, of the project's, that strconv's table of powers lies as its text has it. -/
namespace Go.Proofs.YtcbpbhaimjhelaaGreatDoor
open Go.RowKit Go.Deep
set_option linter.unusedVariables false
set_option linter.unusedSimpArgs false

/-- what an operation on two fractions returns -/
def opR (ok bad : Bool) (N D : Nat) : ByteArray × ByteArray × Int :=
  match ok, bad with
  | false, _ => (⟨#[]⟩, ⟨#[]⟩, 1)
  | true, true => (⟨#[]⟩, ⟨#[]⟩, 4)
  | true, false => (toldN (N / Nat.gcd N D) (D / Nat.gcd N D), toldD (N / Nat.gcd N D) (D / Nat.gcd N D), toldC (N / Nat.gcd N D) (D / Nat.gcd N D))
def opV (r : ByteArray × ByteArray × Int) : Value := .tuple #[.agg #[.string r.1, .string r.2.1], .int .i64 r.2.2]
theorem frOk_den {n d : ByteArray} (h : frOk n d = true) : 0 < numV d := by
  unfold frOk at h
  simp only [Bool.and_eq_true] at h
  exact of_decide_eq_true h.2.2.1
theorem len_n9 {s : ByteArray} (h : numB s = true) : dlen B9 (numV s) ≤ 1000000 := Nat.le_trans (numV_len9 h) (by decide)
theorem len_n32 {s : ByteArray} (h : numB s = true) : dlen W32 (numV s) ≤ 1000000 := Nat.le_trans (numV_len h) (by decide)
theorem low9 {N D L : Nat} (h : dlen B9 N ≤ L) : dlen B9 (N / Nat.gcd N D) ≤ L := Nat.le_trans (dlen_mono b9 (Nat.div_le_self _ _)) h
theorem low9' {N D L : Nat} (h : dlen B9 D ≤ L) : dlen B9 (D / Nat.gcd N D) ≤ L := Nat.le_trans (dlen_mono b9 (Nat.div_le_self _ _)) h
theorem prod9 {a b : Nat} (h1 : dlen B9 a ≤ 300) (h2 : dlen B9 b ≤ 300) : dlen B9 (a * b) ≤ 1000 := by have := mul_dlen9 h1 h2; omega
theorem prod32 {a b : Nat} (h1 : dlen W32 a ≤ 300) (h2 : dlen W32 b ≤ 300) : dlen W32 (a * b) ≤ 1000 := by have := mul_dlen w32 h1 h2; omega
theorem no_digits {n : Nat} (h : dlen B9 n = 0) : n = 0 := by
  have := lt_dlen b9 n
  rw [h, Nat.pow_zero] at this; omega
set_option maxHeartbeats 2000000 in
theorem isZero_any (a : Value) (N : Nat) (w : World) (ha : LongI w a N) :
    Calls Tryz.prog 60 #[a] w fun e w' => e = .returned (.bool (decide (N = 0))) ∧ Below w.heap.size w w' := by
  obtain ⟨_, a0, k0, rfl⟩ := ha.len
  have h : ((dlen W32 N : Int) == 0) = decide (N = 0) := by
    by_cases h0 : N = 0
    · rw [h0, dlen_zero]; rfl
    · have : ¬ dlen W32 N = 0 := fun e => h0 (no_words e)
      rw [decide_eq_false h0]; simp; omega
  clear ha
  generalize decide (N = 0) = Z at *
  generalize dlen W32 N = L at *
  go_enter Tryz.func60, Tryz.ntmps60
  go_wp2
  go_ret
  exact ⟨by first | rfl | rw [h], Below.refl _ _⟩
theorem sum9 {a b : Nat} (h1 : dlen B9 a ≤ 1000) (h2 : dlen B9 b ≤ 1000) : dlen B9 (a + b) ≤ 2000 := by have := plus_len b9 h1 h2; omega
theorem sum32 {a b : Nat} (h1 : dlen W32 a ≤ 1000) (h2 : dlen W32 b ≤ 1000) : dlen W32 (a + b) ≤ 2000 := by have := plus_len w32 h1 h2; omega
theorem gap9 {a b : Nat} (h1 : dlen B9 a ≤ 1000) : dlen B9 (a - b) ≤ 2000 := by have := dlen_mono b9 (Nat.sub_le a b); omega
theorem gap32 {a b : Nat} (h1 : dlen W32 a ≤ 1000) : dlen W32 (a - b) ≤ 2000 := by have := dlen_mono w32 (Nat.sub_le a b); omega

set_option maxRecDepth 100000 in
set_option maxHeartbeats 4000000 in
theorem AddFraction_spec (n1 d1 n2 d2 : ByteArray) (w : World) : Calls Tryz.prog 13 #[.agg #[.string n1, .string d1], .agg #[.string n2, .string d2]] w fun e w' => e = .returned (opV (opR (frOk n1 d1 && frOk n2 d2) (false) (numV n1 * numV d2 + numV n2 * numV d1) (numV d1 * numV d2))) ∧ Below w.heap.size w w' := by
  have hp1 := Lib.hid (fun W => parse_form n1 d1 W)
  have hp2 := Lib.hid (fun W => parse_form n2 d2 W)
  have bel := below3 w (.cells #[.string n1, .string d1] 25) (.cells #[.string n2, .string d2] 25) (.cells #[.string ⟨#[]⟩, .string ⟨#[]⟩] 25)
  have hB1 := (Blk.new (w.alloc (.cells #[.string n1, .string d1] 25)) #[.string n2, .string d2] 25).alloc (.cells #[.string ⟨#[]⟩, .string ⟨#[]⟩] 25)
  have hR := Blk.new ((w.alloc (.cells #[.string n1, .string d1] 25)).alloc (.cells #[.string n2, .string d2] 25)) #[.string ⟨#[]⟩, .string ⟨#[]⟩] 25
  simp only [World.size_alloc] at hB1 hR
  go_enter Tryz.func13, Tryz.ntmps13
  go_wp2_with fail
  generalize hW : ((w.alloc _).alloc _).alloc _ = W at *
  clear hW
  (with_reducible refine (hp1.out _).mono ?_)
  rintro e w1 ⟨a0, a1, x0, x1, k0, k1, rfl, b1, hv1⟩
  have hC1 := (hB1.keep b1 hB1.lt).alloc (.cells #[.slice a0 x0 k0, .slice a1 x1 k1] 79)
  have hF1 := Blk.new w1 #[.slice a0 x0 k0, .slice a1 x1 k1] 79
  have q0 := hC1.cell 0
  have q1 := hC1.cell 1
  simp only [List.getElem?_toArray, List.getElem?_cons_zero, List.getElem?_cons_succ] at q0 q1
  have hv1' := Lib.hid hv1
  clear hv1
  generalize hok1 : frOk n1 d1 = ok1 at *
  replace hok1 := Lib.hid hok1
  go_wp2_with fail
  (with_reducible refine (hp2.out _).mono ?_)
  rintro e w2 ⟨c0, c1, y0, y1, l0, l1, rfl, b2, hv2⟩
  have hF1' := (hF1.keep b2 hF1.lt).alloc (.cells #[.slice c0 y0 l0, .slice c1 y1 l1] 79)
  have hF2' := Blk.new w2 #[.slice c0 y0 l0, .slice c1 y1 l1] 79
  have z0 := hF1'.cell 0
  have z1 := hF1'.cell 1
  simp only [List.getElem?_toArray, List.getElem?_cons_zero, List.getElem?_cons_succ] at z0 z1
  have hv2' := Lib.hid hv2
  have b12 : Below W.heap.size W (w2.alloc (.cells #[.slice c0 y0 l0, .slice c1 y1 l1] 79)) := below_wt (below_wt (below_wt b1 (below1 _ _)) b2) (below1 _ _)
  have B2 := Lib.hid (below_wt bel b12)
  have hR2 := hR.keep b12 hR.lt
  have ltR := hR2.lt
  have r0 := hR2.cell 0
  have r1 := hR2.cell 1
  have f0 := hR2.frozen 0
  have f1 := hR2.frozen 1
  simp only [List.getElem?_toArray, List.getElem?_cons_zero, List.getElem?_cons_succ] at r0 r1
  have hbl : Hid (w.heap.size ≤ w.heap.size + 1 + 1) := Lib.hid (by omega)
  clear hv2 q0 q1
  generalize hok2 : frOk n2 d2 = ok2 at *
  replace hok2 := Lib.hid hok2
  rcases ok1 with _ | _
  · go_wp2_with fail
    refine bodyPost_ret (v := .tuple #[.agg #[.string ⟨#[]⟩, .string ⟨#[]⟩], .int .i64 1]) (by simp [results, Tryz.results13, go_sem, r0, r1]) rfl ?_
    exact ⟨by rw [hok1.out]; rfl, (B2.out.setCell (p := ⟨w.heap.size + 1 + 1, 0, none⟩) hbl.out _).setCell (p := ⟨w.heap.size + 1 + 1, 1, none⟩) hbl.out _⟩
  · rcases ok2 with _ | _
    · go_wp2_with fail
      refine bodyPost_ret (v := .tuple #[.agg #[.string ⟨#[]⟩, .string ⟨#[]⟩], .int .i64 1]) (by simp [results, Tryz.results13, go_sem, r0, r1]) rfl ?_
      exact ⟨by rw [hok1.out, hok2.out]; rfl, (B2.out.setCell (p := ⟨w.heap.size + 1 + 1, 0, none⟩) hbl.out _).setCell (p := ⟨w.heap.size + 1 + 1, 1, none⟩) hbl.out _⟩
    · obtain ⟨rfl, rfl, m1, m2⟩ := hv1'.out rfl
      obtain ⟨rfl, rfl, m3, m4⟩ := hv2'.out rfl
      have sz1 := frOk_num hok1.out
      have sz2 := frOk_num hok2.out
      have dp1 := frOk_den hok1.out
      have dp2 := frOk_den hok2.out
      have bb := below_wt (below_wt (below1 w1 (.cells #[.slice a0 (dlen B9 (numV n1)) k0, .slice a1 (dlen B9 (numV d1)) k1] 79)) b2) (below1 w2 (.cells #[.slice c0 (dlen B9 (numV n2)) l0, .slice c1 (dlen B9 (numV d2)) l1] 79))
      have M1 := m1.keep bb
      have M2 := m2.keep bb
      have M3 := m3.keep (below1 w2 (.cells #[.slice c0 (dlen B9 (numV n2)) l0, .slice c1 (dlen B9 (numV d2)) l1] 79))
      have M4 := m4.keep (below1 w2 (.cells #[.slice c0 (dlen B9 (numV n2)) l0, .slice c1 (dlen B9 (numV d2)) l1] 79))
      have hzz0 := hF2'.cell 0
      have hzz1 := hF2'.cell 1
      simp only [List.getElem?_toArray, List.getElem?_cons_zero, List.getElem?_cons_succ] at hzz0 hzz1
      clear m1 m2 m3 m4 bb b1 b2 bel b12 hv1' hv2' hp1 hp2
      clear hF1 hF1' hF2'
      have hop := Lib.hid (fracPlus _ _ _ _ (numV n1) (numV d1) (numV n2) (numV d2) _ M1 M2 M3 M4 (len_n9 sz1.1) (len_n9 sz1.2) (len_n9 sz2.1) (len_n9 sz2.2) (Nat.mul_pos dp1 dp2))
      have stN := Lib.hid (low9 (D := numV d1 * numV d2) (sum9 (prod9 (numV_len9 sz1.1) (numV_len9 sz2.2)) (prod9 (numV_len9 sz2.1) (numV_len9 sz1.2))))
      have stD := Lib.hid (low9' (N := numV n1 * numV d2 + numV n2 * numV d1) (prod9 (numV_len9 sz1.2) (numV_len9 sz2.2)))
      have hq := Lib.hid (show opR true (false) (numV n1 * numV d2 + numV n2 * numV d1) (numV d1 * numV d2) = (toldN ((numV n1 * numV d2 + numV n2 * numV d1) / Nat.gcd (numV n1 * numV d2 + numV n2 * numV d1) (numV d1 * numV d2)) ((numV d1 * numV d2) / Nat.gcd (numV n1 * numV d2 + numV n2 * numV d1) (numV d1 * numV d2)), toldD ((numV n1 * numV d2 + numV n2 * numV d1) / Nat.gcd (numV n1 * numV d2 + numV n2 * numV d1) (numV d1 * numV d2)) ((numV d1 * numV d2) / Nat.gcd (numV n1 * numV d2 + numV n2 * numV d1) (numV d1 * numV d2)), toldC ((numV n1 * numV d2 + numV n2 * numV d1) / Nat.gcd (numV n1 * numV d2 + numV n2 * numV d1) (numV d1 * numV d2)) ((numV d1 * numV d2) / Nat.gcd (numV n1 * numV d2 + numV n2 * numV d1) (numV d1 * numV d2))) by rfl)
      clear M1 M2 M3 M4
      generalize (numV n1 * numV d2 + numV n2 * numV d1) / Nat.gcd (numV n1 * numV d2 + numV n2 * numV d1) (numV d1 * numV d2) = NN at *
      generalize (numV d1 * numV d2) / Nat.gcd (numV n1 * numV d2 + numV n2 * numV d1) (numV d1 * numV d2) = DD at *
      go_wp2_with fail
      (with_reducible refine hop.out.mono ?_)
      rintro e w5 ⟨p, q, rfl, hp, hq', b5⟩
      have ht := Lib.hid (l01Told_any p q NN DD w5 hp hq' (Nat.le_trans stN.out (by decide)) (Nat.le_trans stD.out (by decide)))
      obtain ⟨_, pa, pc, rfl⟩ := hp.len
      obtain ⟨_, qa, qc, rfl⟩ := hq'.len
      have B5 := Lib.hid (below_wt B2.out b5)
      have hR5 := hR2.keep b5 ltR
      clear hp hq' b5
      go_wp2_with fail
      (with_reducible refine ht.out.mono ?_)
      rintro e w6 ⟨rfl, b6⟩
      have hR6 := hR5.keep b6 hR5.lt
      replace r0 := hR6.cell 0
      replace r1 := hR6.cell 1
      replace f0 := hR6.frozen 0
      replace f1 := hR6.frozen 1
      simp only [List.getElem?_toArray, List.getElem?_cons_zero, List.getElem?_cons_succ] at r0 r1
      have B6 := Lib.hid (below_wt B5.out b6)
      clear b6 ht
      generalize toldN NN DD = TN at *
      generalize toldD NN DD = TD at *
      generalize toldC NN DD = TC at *
      go_wp2
      refine bodyPost_ret (v := .tuple #[.agg #[.string TN, .string TD], .int .i64 TC]) (by simp [results, Tryz.results13, go_sem, r0, r1]) rfl ?_
      exact ⟨by rw [hok1.out, hok2.out, Bool.and_self, hq.out]; rfl, (B6.out.setCell (p := ⟨w.heap.size + 1 + 1, 0, none⟩) hbl.out _).setCell (p := ⟨w.heap.size + 1 + 1, 1, none⟩) hbl.out _⟩

set_option maxRecDepth 100000 in
set_option maxHeartbeats 4000000 in
theorem AddFraction_impl (n1 d1 n2 d2 : ByteArray) (w : World) (htab : Tab10 w) : Calls Tryz.prog 11 #[.agg #[.string n1, .string d1], .agg #[.string n2, .string d2]] w fun e w' => e = .returned (opV (opR (frOk n1 d1 && frOk n2 d2) (false) (numV n1 * numV d2 + numV n2 * numV d1) (numV d1 * numV d2))) ∧ Below w.heap.size w w' := by
  have hp := Lib.hid (fun W => readTwo_any n1 d1 n2 d2 W)
  have bel := below3 w (.cells #[.string n1, .string d1] 25) (.cells #[.string n2, .string d2] 25) (.cells #[.string ⟨#[]⟩, .string ⟨#[]⟩] 25)
  have hR := Blk.new ((w.alloc (.cells #[.string n1, .string d1] 25)).alloc (.cells #[.string n2, .string d2] 25)) #[.string ⟨#[]⟩, .string ⟨#[]⟩] 25
  simp only [World.size_alloc] at hR
  have htab' := Lib.hid htab
  clear htab
  go_enter Tryz.func11, Tryz.ntmps11
  go_wp2_with fail
  generalize hW : ((w.alloc _).alloc _).alloc _ = W at *
  clear hW
  (with_reducible refine (hp.out _).mono ?_)
  rintro e w1 ⟨a0, a1, c0, c1, x0, x1, k0, k1, y0, y1, l0, l1, rfl, b1, hv⟩
  have hv' := Lib.hid hv
  have bb := below2 w1 (.cells #[.slice a0 x0 k0, .slice a1 x1 k1] 72) (.cells #[.slice c0 y0 l0, .slice c1 y1 l1] 72)
  have B2 := Lib.hid (below_wt (below_wt bel b1) bb)
  have hF1 := (Blk.new w1 #[.slice a0 x0 k0, .slice a1 x1 k1] 72).alloc (.cells #[.slice c0 y0 l0, .slice c1 y1 l1] 72)
  have hF2 := Blk.new (w1.alloc (.cells #[.slice a0 x0 k0, .slice a1 x1 k1] 72)) #[.slice c0 y0 l0, .slice c1 y1 l1] 72
  simp only [World.size_alloc] at hF2
  have hR2 := hR.keep (below_wt b1 bb) hR.lt
  have ltR := hR2.lt
  have r0 := hR2.cell 0
  have r1 := hR2.cell 1
  have f0 := hR2.frozen 0
  have f1 := hR2.frozen 1
  have z0 := hF1.cell 0
  have z1 := hF1.cell 1
  have hzz0 := hF2.cell 0
  have hzz1 := hF2.cell 1
  simp only [List.getElem?_toArray, List.getElem?_cons_zero, List.getElem?_cons_succ] at r0 r1 z0 z1 hzz0 hzz1
  have hbl : Hid (w.heap.size ≤ w.heap.size + 1 + 1) := Lib.hid (by omega)
  clear hv hF1 hF2 bel b1 bb
  rcases hok : (frOk n1 d1 && frOk n2 d2) with _ | _
  · replace hok := Lib.hid hok
    go_wp2_with fail
    refine bodyPost_ret (v := .tuple #[.agg #[.string ⟨#[]⟩, .string ⟨#[]⟩], .int .i64 1]) (by simp [results, Tryz.results11, go_sem, r0, r1]) rfl ?_
    exact ⟨by first | rfl | (rw [hok.out]; rfl), (B2.out.setCell (p := ⟨w.heap.size + 1 + 1, 0, none⟩) hbl.out _).setCell (p := ⟨w.heap.size + 1 + 1, 1, none⟩) hbl.out _⟩
  · obtain ⟨rfl, rfl, rfl, rfl, m1, m2, m3, m4⟩ := hv'.out hok
    rw [Bool.and_eq_true] at hok
    have sz1 := frOk_num hok.1
    have sz2 := frOk_num hok.2
    have dp1 := frOk_den hok.1
    have dp2 := frOk_den hok.2
    have hok' := Lib.hid (show (frOk n1 d1 && frOk n2 d2) = true by rw [hok.1, hok.2]; rfl)
    have bb := below2 w1 (.cells #[.slice a0 (dlen W32 (numV n1)) k0, .slice a1 (dlen W32 (numV d1)) k1] 72) (.cells #[.slice c0 (dlen W32 (numV n2)) l0, .slice c1 (dlen W32 (numV d2)) l1] 72)
    have M1 := m1.keep bb
    have M2 := m2.keep bb
    have M3 := m3.keep bb
    have M4 := m4.keep bb
    clear m1 m2 m3 m4 bb hv' hp hok
    have hop := Lib.hid (ratioPlus _ _ _ _ (numV n1) (numV d1) (numV n2) (numV d2) _ M1 M2 M3 M4 (len_n32 sz1.1) (len_n32 sz1.2) (len_n32 sz2.1) (len_n32 sz2.2))
    have stN := Lib.hid (sum32 (prod32 (numV_len sz1.1) (numV_len sz2.2)) (prod32 (numV_len sz2.1) (numV_len sz1.2)))
    have stD := Lib.hid (prod32 (numV_len sz1.2) (numV_len sz2.2))
    have dps := Lib.hid (Nat.mul_pos dp1 dp2)
    have hq := Lib.hid (show ∀ x y, (numV n1 * numV d2 + numV n2 * numV d1) = x → (numV d1 * numV d2) = y → opR true (false) (numV n1 * numV d2 + numV n2 * numV d1) (numV d1 * numV d2) = (toldN (x / Nat.gcd x y) (y / Nat.gcd x y), toldD (x / Nat.gcd x y) (y / Nat.gcd x y), toldC (x / Nat.gcd x y) (y / Nat.gcd x y)) by rintro x y rfl rfl; rfl)
    clear M1 M2 M3 M4
    generalize hNN : numV n1 * numV d2 + numV n2 * numV d1 = NN at hop stN
    generalize hDD : numV d1 * numV d2 = DD at hop stD dps
    replace hNN := Lib.hid hNN
    replace hDD := Lib.hid hDD
    go_wp2_with fail
    (with_reducible refine hop.out.mono ?_)
    rintro e w5 ⟨p, q, rfl, hp, hq', b5⟩
    have ht := Lib.hid (fraction_any p q NN DD w5 hp hq' dps.out (Nat.le_trans stN.out (by decide)) (Nat.le_trans stD.out (by decide)) (htab'.out.keep (below_wt B2.out b5)))
    obtain ⟨_, pa, pc, rfl⟩ := hp.len
    obtain ⟨_, qa, qc, rfl⟩ := hq'.len
    have B5 := Lib.hid (below_wt B2.out b5)
    have hR5 := hR2.keep b5 ltR
    clear hp hq' b5
    go_wp2_with fail
    (with_reducible refine ht.out.mono ?_)
    rintro e w6 ⟨rfl, b6⟩
    have hR6 := hR5.keep b6 hR5.lt
    replace r0 := hR6.cell 0
    replace r1 := hR6.cell 1
    replace f0 := hR6.frozen 0
    replace f1 := hR6.frozen 1
    simp only [List.getElem?_toArray, List.getElem?_cons_zero, List.getElem?_cons_succ] at r0 r1
    have B6 := Lib.hid (below_wt B5.out b6)
    clear b6 ht
    replace hq := Lib.hid (hq.out _ _ hNN.out hDD.out)
    generalize toldN (NN / Nat.gcd NN DD) (DD / Nat.gcd NN DD) = TN at *
    generalize toldD (NN / Nat.gcd NN DD) (DD / Nat.gcd NN DD) = TD at *
    generalize toldC (NN / Nat.gcd NN DD) (DD / Nat.gcd NN DD) = TC at *
    go_wp2
    refine bodyPost_ret (v := .tuple #[.agg #[.string TN, .string TD], .int .i64 TC]) (by simp [results, Tryz.results11, go_sem, r0, r1]) rfl ?_
    exact ⟨by first | (rw [hok'.out, hq.out]; rfl) | (rw [hq.out]; rfl), (B6.out.setCell (p := ⟨w.heap.size + 1 + 1, 0, none⟩) hbl.out _).setCell (p := ⟨w.heap.size + 1 + 1, 1, none⟩) hbl.out _⟩
end Go.Proofs.YtcbpbhaimjhelaaGreatDoor

/- LessFraction of both sides. Conditions: none but, of the project's, that strconv's table of powers lies as its text has it. -/
namespace Go.Proofs.YtcbpbhaimjhelaaGreatDoor
open Go.RowKit Go.Deep
set_option linter.unusedVariables false
set_option linter.unusedSimpArgs false

set_option maxRecDepth 100000 in
set_option maxHeartbeats 4000000 in
theorem LessFraction_impl (n1 d1 n2 d2 : ByteArray) (w : World) (htab : Tab10 w) : Calls Tryz.prog 16 #[.agg #[.string n1, .string d1], .agg #[.string n2, .string d2]] w fun e w' => e = .returned (opV (opR (frOk n1 d1 && frOk n2 d2) (decide (numV n1 * numV d2 < numV n2 * numV d1)) (numV n1 * numV d2 - numV n2 * numV d1) (numV d1 * numV d2))) ∧ Below w.heap.size w w' := by
  have hp := Lib.hid (fun W => readTwo_any n1 d1 n2 d2 W)
  have bel := below3 w (.cells #[.string n1, .string d1] 25) (.cells #[.string n2, .string d2] 25) (.cells #[.string ⟨#[]⟩, .string ⟨#[]⟩] 25)
  have hR := Blk.new ((w.alloc (.cells #[.string n1, .string d1] 25)).alloc (.cells #[.string n2, .string d2] 25)) #[.string ⟨#[]⟩, .string ⟨#[]⟩] 25
  simp only [World.size_alloc] at hR
  have htab' := Lib.hid htab
  clear htab
  go_enter Tryz.func16, Tryz.ntmps16
  go_wp2_with fail
  generalize hW : ((w.alloc _).alloc _).alloc _ = W at *
  clear hW
  (with_reducible refine (hp.out _).mono ?_)
  rintro e w1 ⟨a0, a1, c0, c1, x0, x1, k0, k1, y0, y1, l0, l1, rfl, b1, hv⟩
  have hv' := Lib.hid hv
  have bb := below2 w1 (.cells #[.slice a0 x0 k0, .slice a1 x1 k1] 72) (.cells #[.slice c0 y0 l0, .slice c1 y1 l1] 72)
  have B2 := Lib.hid (below_wt (below_wt bel b1) bb)
  have hF1 := (Blk.new w1 #[.slice a0 x0 k0, .slice a1 x1 k1] 72).alloc (.cells #[.slice c0 y0 l0, .slice c1 y1 l1] 72)
  have hF2 := Blk.new (w1.alloc (.cells #[.slice a0 x0 k0, .slice a1 x1 k1] 72)) #[.slice c0 y0 l0, .slice c1 y1 l1] 72
  simp only [World.size_alloc] at hF2
  have hR2 := hR.keep (below_wt b1 bb) hR.lt
  have ltR := hR2.lt
  have r0 := hR2.cell 0
  have r1 := hR2.cell 1
  have f0 := hR2.frozen 0
  have f1 := hR2.frozen 1
  have z0 := hF1.cell 0
  have z1 := hF1.cell 1
  have hzz0 := hF2.cell 0
  have hzz1 := hF2.cell 1
  simp only [List.getElem?_toArray, List.getElem?_cons_zero, List.getElem?_cons_succ] at r0 r1 z0 z1 hzz0 hzz1
  have hbl : Hid (w.heap.size ≤ w.heap.size + 1 + 1) := Lib.hid (by omega)
  clear hv hF1 hF2 bel b1 bb
  rcases hok : (frOk n1 d1 && frOk n2 d2) with _ | _
  · replace hok := Lib.hid hok
    go_wp2_with fail
    refine bodyPost_ret (v := .tuple #[.agg #[.string ⟨#[]⟩, .string ⟨#[]⟩], .int .i64 1]) (by simp [results, Tryz.results16, go_sem, r0, r1]) rfl ?_
    exact ⟨by first | rfl | (rw [hok.out]; rfl), (B2.out.setCell (p := ⟨w.heap.size + 1 + 1, 0, none⟩) hbl.out _).setCell (p := ⟨w.heap.size + 1 + 1, 1, none⟩) hbl.out _⟩
  · obtain ⟨rfl, rfl, rfl, rfl, m1, m2, m3, m4⟩ := hv'.out hok
    rw [Bool.and_eq_true] at hok
    have sz1 := frOk_num hok.1
    have sz2 := frOk_num hok.2
    have dp1 := frOk_den hok.1
    have dp2 := frOk_den hok.2
    have hok' := Lib.hid (show (frOk n1 d1 && frOk n2 d2) = true by rw [hok.1, hok.2]; rfl)
    have bb := below2 w1 (.cells #[.slice a0 (dlen W32 (numV n1)) k0, .slice a1 (dlen W32 (numV d1)) k1] 72) (.cells #[.slice c0 (dlen W32 (numV n2)) l0, .slice c1 (dlen W32 (numV d2)) l1] 72)
    have M1 := m1.keep bb
    have M2 := m2.keep bb
    have M3 := m3.keep bb
    have M4 := m4.keep bb
    clear m1 m2 m3 m4 bb hv' hp hok
    have hcm := Lib.hid (cmp_impl a0 a1 c0 c1 k0 k1 l0 l1 _ _ _ _ _ M1 M2 M3 M4 (numV_len sz1.1) (numV_len sz1.2) (numV_len sz2.1) (numV_len sz2.2))
    by_cases hlt : numV n1 * numV d2 < numV n2 * numV d1
    · rw [cmpI_lt hlt] at hcm
      have hq := Lib.hid (show opR true (decide (numV n1 * numV d2 < numV n2 * numV d1)) (numV n1 * numV d2 - numV n2 * numV d1) (numV d1 * numV d2) = (⟨#[]⟩, ⟨#[]⟩, 4) by rw [decide_eq_true hlt]; rfl)
      clear hlt M1 M2 M3 M4
      go_wp2_with fail
      (with_reducible refine hcm.out.mono ?_)
      rintro e w5 ⟨rfl, b5⟩
      have hR6 := hR2.keep b5 ltR
      replace r0 := hR6.cell 0
      replace r1 := hR6.cell 1
      replace f0 := hR6.frozen 0
      replace f1 := hR6.frozen 1
      simp only [List.getElem?_toArray, List.getElem?_cons_zero, List.getElem?_cons_succ] at r0 r1
      have B6 := Lib.hid (below_wt B2.out b5)
      clear b5
      go_wp2
      refine bodyPost_ret (v := .tuple #[.agg #[.string ⟨#[]⟩, .string ⟨#[]⟩], .int .i64 4]) (by simp [results, Tryz.results16, go_sem, r0, r1]) rfl ?_
      exact ⟨by first | (rw [hok'.out, hq.out]; rfl) | (rw [hq.out]; rfl), (B6.out.setCell (p := ⟨w.heap.size + 1 + 1, 0, none⟩) hbl.out _).setCell (p := ⟨w.heap.size + 1 + 1, 1, none⟩) hbl.out _⟩
    · have hc0 : ¬ cmpI (numV n1 * numV d2) (numV n2 * numV d1) < 0 := by
        unfold cmpI; rw [if_neg hlt]; split <;> decide
      have hle := Lib.hid (show numV n2 * numV d1 ≤ numV n1 * numV d2 by omega)
      have hdn := Lib.hid (decide_eq_false hlt)
      clear hlt
      generalize cmpI (numV n1 * numV d2) (numV n2 * numV d1) = cv at hcm hc0
      have hM1 := Lib.hid M1; have hM2 := Lib.hid M2; have hM3 := Lib.hid M3; have hM4 := Lib.hid M4
      clear M1 M2 M3 M4
      go_wp2_with fail
      (with_reducible refine hcm.out.mono ?_)
      rintro e w5 ⟨rfl, b5⟩
      have M1 := hM1.out.keep b5; have M2 := hM2.out.keep b5; have M3 := hM3.out.keep b5; have M4 := hM4.out.keep b5
      replace z0 := (b5.cell (block_lt z0)).trans z0
      replace z1 := (b5.cell (block_lt z1)).trans z1
      replace hzz0 := (b5.cell (block_lt hzz0)).trans hzz0
      replace hzz1 := (b5.cell (block_lt hzz1)).trans hzz1
      replace hR2 := hR2.keep b5 ltR
      replace ltR := hR2.lt
      replace B2 := Lib.hid (below_wt B2.out b5)
      clear b5 r0 r1 f0 f1
      have r0 : True := trivial; have r1 : True := trivial; have f0 : True := trivial; have f1 : True := trivial
      have hop := Lib.hid (ratioMinus _ _ _ _ (numV n1) (numV d1) (numV n2) (numV d2) _ M1 M2 M3 M4 (len_n32 sz1.1) (len_n32 sz1.2) (len_n32 sz2.1) (len_n32 sz2.2) hle)
      have stN := Lib.hid (gap32 (b := numV n2 * numV d1) (prod32 (numV_len sz1.1) (numV_len sz2.2)))
      have stD := Lib.hid (prod32 (numV_len sz1.2) (numV_len sz2.2))
      have dps := Lib.hid (Nat.mul_pos dp1 dp2)
      have hq := Lib.hid (show ∀ x y, (numV n1 * numV d2 - numV n2 * numV d1) = x → (numV d1 * numV d2) = y → opR true (decide (numV n1 * numV d2 < numV n2 * numV d1)) (numV n1 * numV d2 - numV n2 * numV d1) (numV d1 * numV d2) = (toldN (x / Nat.gcd x y) (y / Nat.gcd x y), toldD (x / Nat.gcd x y) (y / Nat.gcd x y), toldC (x / Nat.gcd x y) (y / Nat.gcd x y)) by rintro x y rfl rfl; rw [hdn.out]; rfl)
      clear M1 M2 M3 M4
      generalize hNN : numV n1 * numV d2 - numV n2 * numV d1 = NN at hop stN
      generalize hDD : numV d1 * numV d2 = DD at hop stD dps
      replace hNN := Lib.hid hNN
      replace hDD := Lib.hid hDD
      go_wp2_with fail
      (with_reducible refine hop.out.mono ?_)
      rintro e w5 ⟨p, q, rfl, hp, hq', b5⟩
      have ht := Lib.hid (fraction_any p q NN DD w5 hp hq' dps.out (Nat.le_trans stN.out (by decide)) (Nat.le_trans stD.out (by decide)) (htab'.out.keep (below_wt B2.out b5)))
      obtain ⟨_, pa, pc, rfl⟩ := hp.len
      obtain ⟨_, qa, qc, rfl⟩ := hq'.len
      have B5 := Lib.hid (below_wt B2.out b5)
      have hR5 := hR2.keep b5 ltR
      clear hp hq' b5
      go_wp2_with fail
      (with_reducible refine ht.out.mono ?_)
      rintro e w6 ⟨rfl, b6⟩
      have hR6 := hR5.keep b6 hR5.lt
      replace r0 := hR6.cell 0
      replace r1 := hR6.cell 1
      replace f0 := hR6.frozen 0
      replace f1 := hR6.frozen 1
      simp only [List.getElem?_toArray, List.getElem?_cons_zero, List.getElem?_cons_succ] at r0 r1
      have B6 := Lib.hid (below_wt B5.out b6)
      clear b6 ht
      replace hq := Lib.hid (hq.out _ _ hNN.out hDD.out)
      generalize toldN (NN / Nat.gcd NN DD) (DD / Nat.gcd NN DD) = TN at *
      generalize toldD (NN / Nat.gcd NN DD) (DD / Nat.gcd NN DD) = TD at *
      generalize toldC (NN / Nat.gcd NN DD) (DD / Nat.gcd NN DD) = TC at *
      go_wp2
      refine bodyPost_ret (v := .tuple #[.agg #[.string TN, .string TD], .int .i64 TC]) (by simp [results, Tryz.results16, go_sem, r0, r1]) rfl ?_
      exact ⟨by first | (rw [hok'.out, hq.out]; rfl) | (rw [hq.out]; rfl), (B6.out.setCell (p := ⟨w.heap.size + 1 + 1, 0, none⟩) hbl.out _).setCell (p := ⟨w.heap.size + 1 + 1, 1, none⟩) hbl.out _⟩
end Go.Proofs.YtcbpbhaimjhelaaGreatDoor

/- MulFraction of both sides. Conditions: none but, of the project's, that strconv's table of powers lies as its text has it. -/
namespace Go.Proofs.YtcbpbhaimjhelaaGreatDoor
open Go.RowKit Go.Deep
set_option linter.unusedVariables false
set_option linter.unusedSimpArgs false

set_option maxRecDepth 100000 in
set_option maxHeartbeats 4000000 in
theorem MulFraction_spec (n1 d1 n2 d2 : ByteArray) (w : World) : Calls Tryz.prog 14 #[.agg #[.string n1, .string d1], .agg #[.string n2, .string d2]] w fun e w' => e = .returned (opV (opR (frOk n1 d1 && frOk n2 d2) (false) (numV n1 * numV n2) (numV d1 * numV d2))) ∧ Below w.heap.size w w' := by
  have hp1 := Lib.hid (fun W => parse_form n1 d1 W)
  have hp2 := Lib.hid (fun W => parse_form n2 d2 W)
  have bel := below3 w (.cells #[.string n1, .string d1] 25) (.cells #[.string n2, .string d2] 25) (.cells #[.string ⟨#[]⟩, .string ⟨#[]⟩] 25)
  have hB1 := (Blk.new (w.alloc (.cells #[.string n1, .string d1] 25)) #[.string n2, .string d2] 25).alloc (.cells #[.string ⟨#[]⟩, .string ⟨#[]⟩] 25)
  have hR := Blk.new ((w.alloc (.cells #[.string n1, .string d1] 25)).alloc (.cells #[.string n2, .string d2] 25)) #[.string ⟨#[]⟩, .string ⟨#[]⟩] 25
  simp only [World.size_alloc] at hB1 hR
  go_enter Tryz.func14, Tryz.ntmps14
  go_wp2_with fail
  generalize hW : ((w.alloc _).alloc _).alloc _ = W at *
  clear hW
  (with_reducible refine (hp1.out _).mono ?_)
  rintro e w1 ⟨a0, a1, x0, x1, k0, k1, rfl, b1, hv1⟩
  have hC1 := (hB1.keep b1 hB1.lt).alloc (.cells #[.slice a0 x0 k0, .slice a1 x1 k1] 79)
  have hF1 := Blk.new w1 #[.slice a0 x0 k0, .slice a1 x1 k1] 79
  have q0 := hC1.cell 0
  have q1 := hC1.cell 1
  simp only [List.getElem?_toArray, List.getElem?_cons_zero, List.getElem?_cons_succ] at q0 q1
  have hv1' := Lib.hid hv1
  clear hv1
  generalize hok1 : frOk n1 d1 = ok1 at *
  replace hok1 := Lib.hid hok1
  go_wp2_with fail
  (with_reducible refine (hp2.out _).mono ?_)
  rintro e w2 ⟨c0, c1, y0, y1, l0, l1, rfl, b2, hv2⟩
  have hF1' := (hF1.keep b2 hF1.lt).alloc (.cells #[.slice c0 y0 l0, .slice c1 y1 l1] 79)
  have hF2' := Blk.new w2 #[.slice c0 y0 l0, .slice c1 y1 l1] 79
  have z0 := hF1'.cell 0
  have z1 := hF1'.cell 1
  simp only [List.getElem?_toArray, List.getElem?_cons_zero, List.getElem?_cons_succ] at z0 z1
  have hv2' := Lib.hid hv2
  have b12 : Below W.heap.size W (w2.alloc (.cells #[.slice c0 y0 l0, .slice c1 y1 l1] 79)) := below_wt (below_wt (below_wt b1 (below1 _ _)) b2) (below1 _ _)
  have B2 := Lib.hid (below_wt bel b12)
  have hR2 := hR.keep b12 hR.lt
  have ltR := hR2.lt
  have r0 := hR2.cell 0
  have r1 := hR2.cell 1
  have f0 := hR2.frozen 0
  have f1 := hR2.frozen 1
  simp only [List.getElem?_toArray, List.getElem?_cons_zero, List.getElem?_cons_succ] at r0 r1
  have hbl : Hid (w.heap.size ≤ w.heap.size + 1 + 1) := Lib.hid (by omega)
  clear hv2 q0 q1
  generalize hok2 : frOk n2 d2 = ok2 at *
  replace hok2 := Lib.hid hok2
  rcases ok1 with _ | _
  · go_wp2_with fail
    refine bodyPost_ret (v := .tuple #[.agg #[.string ⟨#[]⟩, .string ⟨#[]⟩], .int .i64 1]) (by simp [results, Tryz.results14, go_sem, r0, r1]) rfl ?_
    exact ⟨by rw [hok1.out]; rfl, (B2.out.setCell (p := ⟨w.heap.size + 1 + 1, 0, none⟩) hbl.out _).setCell (p := ⟨w.heap.size + 1 + 1, 1, none⟩) hbl.out _⟩
  · rcases ok2 with _ | _
    · go_wp2_with fail
      refine bodyPost_ret (v := .tuple #[.agg #[.string ⟨#[]⟩, .string ⟨#[]⟩], .int .i64 1]) (by simp [results, Tryz.results14, go_sem, r0, r1]) rfl ?_
      exact ⟨by rw [hok1.out, hok2.out]; rfl, (B2.out.setCell (p := ⟨w.heap.size + 1 + 1, 0, none⟩) hbl.out _).setCell (p := ⟨w.heap.size + 1 + 1, 1, none⟩) hbl.out _⟩
    · obtain ⟨rfl, rfl, m1, m2⟩ := hv1'.out rfl
      obtain ⟨rfl, rfl, m3, m4⟩ := hv2'.out rfl
      have sz1 := frOk_num hok1.out
      have sz2 := frOk_num hok2.out
      have dp1 := frOk_den hok1.out
      have dp2 := frOk_den hok2.out
      have bb := below_wt (below_wt (below1 w1 (.cells #[.slice a0 (dlen B9 (numV n1)) k0, .slice a1 (dlen B9 (numV d1)) k1] 79)) b2) (below1 w2 (.cells #[.slice c0 (dlen B9 (numV n2)) l0, .slice c1 (dlen B9 (numV d2)) l1] 79))
      have M1 := m1.keep bb
      have M2 := m2.keep bb
      have M3 := m3.keep (below1 w2 (.cells #[.slice c0 (dlen B9 (numV n2)) l0, .slice c1 (dlen B9 (numV d2)) l1] 79))
      have M4 := m4.keep (below1 w2 (.cells #[.slice c0 (dlen B9 (numV n2)) l0, .slice c1 (dlen B9 (numV d2)) l1] 79))
      have hzz0 := hF2'.cell 0
      have hzz1 := hF2'.cell 1
      simp only [List.getElem?_toArray, List.getElem?_cons_zero, List.getElem?_cons_succ] at hzz0 hzz1
      clear m1 m2 m3 m4 bb b1 b2 bel b12 hv1' hv2' hp1 hp2
      clear hF1 hF1' hF2'
      have hop := Lib.hid (fracTimes _ _ _ _ (numV n1) (numV d1) (numV n2) (numV d2) _ M1 M2 M3 M4 (len_n9 sz1.1) (len_n9 sz1.2) (len_n9 sz2.1) (len_n9 sz2.2) (Nat.mul_pos dp1 dp2))
      have stN := Lib.hid (low9 (D := numV d1 * numV d2) (prod9 (numV_len9 sz1.1) (numV_len9 sz2.1)))
      have stD := Lib.hid (low9' (N := numV n1 * numV n2) (prod9 (numV_len9 sz1.2) (numV_len9 sz2.2)))
      have hq := Lib.hid (show opR true (false) (numV n1 * numV n2) (numV d1 * numV d2) = (toldN ((numV n1 * numV n2) / Nat.gcd (numV n1 * numV n2) (numV d1 * numV d2)) ((numV d1 * numV d2) / Nat.gcd (numV n1 * numV n2) (numV d1 * numV d2)), toldD ((numV n1 * numV n2) / Nat.gcd (numV n1 * numV n2) (numV d1 * numV d2)) ((numV d1 * numV d2) / Nat.gcd (numV n1 * numV n2) (numV d1 * numV d2)), toldC ((numV n1 * numV n2) / Nat.gcd (numV n1 * numV n2) (numV d1 * numV d2)) ((numV d1 * numV d2) / Nat.gcd (numV n1 * numV n2) (numV d1 * numV d2))) by rfl)
      clear M1 M2 M3 M4
      generalize (numV n1 * numV n2) / Nat.gcd (numV n1 * numV n2) (numV d1 * numV d2) = NN at *
      generalize (numV d1 * numV d2) / Nat.gcd (numV n1 * numV n2) (numV d1 * numV d2) = DD at *
      go_wp2_with fail
      (with_reducible refine hop.out.mono ?_)
      rintro e w5 ⟨p, q, rfl, hp, hq', b5⟩
      have ht := Lib.hid (l01Told_any p q NN DD w5 hp hq' (Nat.le_trans stN.out (by decide)) (Nat.le_trans stD.out (by decide)))
      obtain ⟨_, pa, pc, rfl⟩ := hp.len
      obtain ⟨_, qa, qc, rfl⟩ := hq'.len
      have B5 := Lib.hid (below_wt B2.out b5)
      have hR5 := hR2.keep b5 ltR
      clear hp hq' b5
      go_wp2_with fail
      (with_reducible refine ht.out.mono ?_)
      rintro e w6 ⟨rfl, b6⟩
      have hR6 := hR5.keep b6 hR5.lt
      replace r0 := hR6.cell 0
      replace r1 := hR6.cell 1
      replace f0 := hR6.frozen 0
      replace f1 := hR6.frozen 1
      simp only [List.getElem?_toArray, List.getElem?_cons_zero, List.getElem?_cons_succ] at r0 r1
      have B6 := Lib.hid (below_wt B5.out b6)
      clear b6 ht
      generalize toldN NN DD = TN at *
      generalize toldD NN DD = TD at *
      generalize toldC NN DD = TC at *
      go_wp2
      refine bodyPost_ret (v := .tuple #[.agg #[.string TN, .string TD], .int .i64 TC]) (by simp [results, Tryz.results14, go_sem, r0, r1]) rfl ?_
      exact ⟨by rw [hok1.out, hok2.out, Bool.and_self, hq.out]; rfl, (B6.out.setCell (p := ⟨w.heap.size + 1 + 1, 0, none⟩) hbl.out _).setCell (p := ⟨w.heap.size + 1 + 1, 1, none⟩) hbl.out _⟩

set_option maxRecDepth 100000 in
set_option maxHeartbeats 4000000 in
theorem MulFraction_impl (n1 d1 n2 d2 : ByteArray) (w : World) (htab : Tab10 w) : Calls Tryz.prog 12 #[.agg #[.string n1, .string d1], .agg #[.string n2, .string d2]] w fun e w' => e = .returned (opV (opR (frOk n1 d1 && frOk n2 d2) (false) (numV n1 * numV n2) (numV d1 * numV d2))) ∧ Below w.heap.size w w' := by
  have hp := Lib.hid (fun W => readTwo_any n1 d1 n2 d2 W)
  have bel := below3 w (.cells #[.string n1, .string d1] 25) (.cells #[.string n2, .string d2] 25) (.cells #[.string ⟨#[]⟩, .string ⟨#[]⟩] 25)
  have hR := Blk.new ((w.alloc (.cells #[.string n1, .string d1] 25)).alloc (.cells #[.string n2, .string d2] 25)) #[.string ⟨#[]⟩, .string ⟨#[]⟩] 25
  simp only [World.size_alloc] at hR
  have htab' := Lib.hid htab
  clear htab
  go_enter Tryz.func12, Tryz.ntmps12
  go_wp2_with fail
  generalize hW : ((w.alloc _).alloc _).alloc _ = W at *
  clear hW
  (with_reducible refine (hp.out _).mono ?_)
  rintro e w1 ⟨a0, a1, c0, c1, x0, x1, k0, k1, y0, y1, l0, l1, rfl, b1, hv⟩
  have hv' := Lib.hid hv
  have bb := below2 w1 (.cells #[.slice a0 x0 k0, .slice a1 x1 k1] 72) (.cells #[.slice c0 y0 l0, .slice c1 y1 l1] 72)
  have B2 := Lib.hid (below_wt (below_wt bel b1) bb)
  have hF1 := (Blk.new w1 #[.slice a0 x0 k0, .slice a1 x1 k1] 72).alloc (.cells #[.slice c0 y0 l0, .slice c1 y1 l1] 72)
  have hF2 := Blk.new (w1.alloc (.cells #[.slice a0 x0 k0, .slice a1 x1 k1] 72)) #[.slice c0 y0 l0, .slice c1 y1 l1] 72
  simp only [World.size_alloc] at hF2
  have hR2 := hR.keep (below_wt b1 bb) hR.lt
  have ltR := hR2.lt
  have r0 := hR2.cell 0
  have r1 := hR2.cell 1
  have f0 := hR2.frozen 0
  have f1 := hR2.frozen 1
  have z0 := hF1.cell 0
  have z1 := hF1.cell 1
  have hzz0 := hF2.cell 0
  have hzz1 := hF2.cell 1
  simp only [List.getElem?_toArray, List.getElem?_cons_zero, List.getElem?_cons_succ] at r0 r1 z0 z1 hzz0 hzz1
  have hbl : Hid (w.heap.size ≤ w.heap.size + 1 + 1) := Lib.hid (by omega)
  clear hv hF1 hF2 bel b1 bb
  rcases hok : (frOk n1 d1 && frOk n2 d2) with _ | _
  · replace hok := Lib.hid hok
    go_wp2_with fail
    refine bodyPost_ret (v := .tuple #[.agg #[.string ⟨#[]⟩, .string ⟨#[]⟩], .int .i64 1]) (by simp [results, Tryz.results12, go_sem, r0, r1]) rfl ?_
    exact ⟨by first | rfl | (rw [hok.out]; rfl), (B2.out.setCell (p := ⟨w.heap.size + 1 + 1, 0, none⟩) hbl.out _).setCell (p := ⟨w.heap.size + 1 + 1, 1, none⟩) hbl.out _⟩
  · obtain ⟨rfl, rfl, rfl, rfl, m1, m2, m3, m4⟩ := hv'.out hok
    rw [Bool.and_eq_true] at hok
    have sz1 := frOk_num hok.1
    have sz2 := frOk_num hok.2
    have dp1 := frOk_den hok.1
    have dp2 := frOk_den hok.2
    have hok' := Lib.hid (show (frOk n1 d1 && frOk n2 d2) = true by rw [hok.1, hok.2]; rfl)
    have bb := below2 w1 (.cells #[.slice a0 (dlen W32 (numV n1)) k0, .slice a1 (dlen W32 (numV d1)) k1] 72) (.cells #[.slice c0 (dlen W32 (numV n2)) l0, .slice c1 (dlen W32 (numV d2)) l1] 72)
    have M1 := m1.keep bb
    have M2 := m2.keep bb
    have M3 := m3.keep bb
    have M4 := m4.keep bb
    clear m1 m2 m3 m4 bb hv' hp hok
    have hop := Lib.hid (ratioTimes _ _ _ _ (numV n1) (numV d1) (numV n2) (numV d2) _ M1 M2 M3 M4 (len_n32 sz1.1) (len_n32 sz1.2) (len_n32 sz2.1) (len_n32 sz2.2))
    have stN := Lib.hid (prod32 (numV_len sz1.1) (numV_len sz2.1))
    have stD := Lib.hid (prod32 (numV_len sz1.2) (numV_len sz2.2))
    have dps := Lib.hid (Nat.mul_pos dp1 dp2)
    have hq := Lib.hid (show ∀ x y, (numV n1 * numV n2) = x → (numV d1 * numV d2) = y → opR true (false) (numV n1 * numV n2) (numV d1 * numV d2) = (toldN (x / Nat.gcd x y) (y / Nat.gcd x y), toldD (x / Nat.gcd x y) (y / Nat.gcd x y), toldC (x / Nat.gcd x y) (y / Nat.gcd x y)) by rintro x y rfl rfl; rfl)
    clear M1 M2 M3 M4
    generalize hNN : numV n1 * numV n2 = NN at hop stN
    generalize hDD : numV d1 * numV d2 = DD at hop stD dps
    replace hNN := Lib.hid hNN
    replace hDD := Lib.hid hDD
    go_wp2_with fail
    (with_reducible refine hop.out.mono ?_)
    rintro e w5 ⟨p, q, rfl, hp, hq', b5⟩
    have ht := Lib.hid (fraction_any p q NN DD w5 hp hq' dps.out (Nat.le_trans stN.out (by decide)) (Nat.le_trans stD.out (by decide)) (htab'.out.keep (below_wt B2.out b5)))
    obtain ⟨_, pa, pc, rfl⟩ := hp.len
    obtain ⟨_, qa, qc, rfl⟩ := hq'.len
    have B5 := Lib.hid (below_wt B2.out b5)
    have hR5 := hR2.keep b5 ltR
    clear hp hq' b5
    go_wp2_with fail
    (with_reducible refine ht.out.mono ?_)
    rintro e w6 ⟨rfl, b6⟩
    have hR6 := hR5.keep b6 hR5.lt
    replace r0 := hR6.cell 0
    replace r1 := hR6.cell 1
    replace f0 := hR6.frozen 0
    replace f1 := hR6.frozen 1
    simp only [List.getElem?_toArray, List.getElem?_cons_zero, List.getElem?_cons_succ] at r0 r1
    have B6 := Lib.hid (below_wt B5.out b6)
    clear b6 ht
    replace hq := Lib.hid (hq.out _ _ hNN.out hDD.out)
    generalize toldN (NN / Nat.gcd NN DD) (DD / Nat.gcd NN DD) = TN at *
    generalize toldD (NN / Nat.gcd NN DD) (DD / Nat.gcd NN DD) = TD at *
    generalize toldC (NN / Nat.gcd NN DD) (DD / Nat.gcd NN DD) = TC at *
    go_wp2
    refine bodyPost_ret (v := .tuple #[.agg #[.string TN, .string TD], .int .i64 TC]) (by simp [results, Tryz.results12, go_sem, r0, r1]) rfl ?_
    exact ⟨by first | (rw [hok'.out, hq.out]; rfl) | (rw [hq.out]; rfl), (B6.out.setCell (p := ⟨w.heap.size + 1 + 1, 0, none⟩) hbl.out _).setCell (p := ⟨w.heap.size + 1 + 1, 1, none⟩) hbl.out _⟩
end Go.Proofs.YtcbpbhaimjhelaaGreatDoor

/- DivFraction of both sides. Conditions: none but, of the project's, that strconv's table of powers lies as its text has it. -/
namespace Go.Proofs.YtcbpbhaimjhelaaGreatDoor
open Go.RowKit Go.Deep
set_option linter.unusedVariables false
set_option linter.unusedSimpArgs false

set_option maxRecDepth 100000 in
set_option maxHeartbeats 4000000 in
theorem DivFraction_impl (n1 d1 n2 d2 : ByteArray) (w : World) (htab : Tab10 w) : Calls Tryz.prog 17 #[.agg #[.string n1, .string d1], .agg #[.string n2, .string d2]] w fun e w' => e = .returned (opV (opR (frOk n1 d1 && frOk n2 d2) (decide (numV n2 = 0)) (numV n1 * numV d2) (numV d1 * numV n2))) ∧ Below w.heap.size w w' := by
  have hp := Lib.hid (fun W => readTwo_any n1 d1 n2 d2 W)
  have bel := below3 w (.cells #[.string n1, .string d1] 25) (.cells #[.string n2, .string d2] 25) (.cells #[.string ⟨#[]⟩, .string ⟨#[]⟩] 25)
  have hR := Blk.new ((w.alloc (.cells #[.string n1, .string d1] 25)).alloc (.cells #[.string n2, .string d2] 25)) #[.string ⟨#[]⟩, .string ⟨#[]⟩] 25
  simp only [World.size_alloc] at hR
  have htab' := Lib.hid htab
  clear htab
  go_enter Tryz.func17, Tryz.ntmps17
  go_wp2_with fail
  generalize hW : ((w.alloc _).alloc _).alloc _ = W at *
  clear hW
  (with_reducible refine (hp.out _).mono ?_)
  rintro e w1 ⟨a0, a1, c0, c1, x0, x1, k0, k1, y0, y1, l0, l1, rfl, b1, hv⟩
  have hv' := Lib.hid hv
  have bb := below2 w1 (.cells #[.slice a0 x0 k0, .slice a1 x1 k1] 72) (.cells #[.slice c0 y0 l0, .slice c1 y1 l1] 72)
  have B2 := Lib.hid (below_wt (below_wt bel b1) bb)
  have hF1 := (Blk.new w1 #[.slice a0 x0 k0, .slice a1 x1 k1] 72).alloc (.cells #[.slice c0 y0 l0, .slice c1 y1 l1] 72)
  have hF2 := Blk.new (w1.alloc (.cells #[.slice a0 x0 k0, .slice a1 x1 k1] 72)) #[.slice c0 y0 l0, .slice c1 y1 l1] 72
  simp only [World.size_alloc] at hF2
  have hR2 := hR.keep (below_wt b1 bb) hR.lt
  have ltR := hR2.lt
  have r0 := hR2.cell 0
  have r1 := hR2.cell 1
  have f0 := hR2.frozen 0
  have f1 := hR2.frozen 1
  have z0 := hF1.cell 0
  have z1 := hF1.cell 1
  have hzz0 := hF2.cell 0
  have hzz1 := hF2.cell 1
  simp only [List.getElem?_toArray, List.getElem?_cons_zero, List.getElem?_cons_succ] at r0 r1 z0 z1 hzz0 hzz1
  have hbl : Hid (w.heap.size ≤ w.heap.size + 1 + 1) := Lib.hid (by omega)
  clear hv hF1 hF2 bel b1 bb
  rcases hok : (frOk n1 d1 && frOk n2 d2) with _ | _
  · replace hok := Lib.hid hok
    go_wp2_with fail
    refine bodyPost_ret (v := .tuple #[.agg #[.string ⟨#[]⟩, .string ⟨#[]⟩], .int .i64 1]) (by simp [results, Tryz.results17, go_sem, r0, r1]) rfl ?_
    exact ⟨by first | rfl | (rw [hok.out]; rfl), (B2.out.setCell (p := ⟨w.heap.size + 1 + 1, 0, none⟩) hbl.out _).setCell (p := ⟨w.heap.size + 1 + 1, 1, none⟩) hbl.out _⟩
  · obtain ⟨rfl, rfl, rfl, rfl, m1, m2, m3, m4⟩ := hv'.out hok
    rw [Bool.and_eq_true] at hok
    have sz1 := frOk_num hok.1
    have sz2 := frOk_num hok.2
    have dp1 := frOk_den hok.1
    have dp2 := frOk_den hok.2
    have hok' := Lib.hid (show (frOk n1 d1 && frOk n2 d2) = true by rw [hok.1, hok.2]; rfl)
    have bb := below2 w1 (.cells #[.slice a0 (dlen W32 (numV n1)) k0, .slice a1 (dlen W32 (numV d1)) k1] 72) (.cells #[.slice c0 (dlen W32 (numV n2)) l0, .slice c1 (dlen W32 (numV d2)) l1] 72)
    have M1 := m1.keep bb
    have M2 := m2.keep bb
    have M3 := m3.keep bb
    have M4 := m4.keep bb
    clear m1 m2 m3 m4 bb hv' hp hok
    have hcm := Lib.hid (isZero_any _ _ _ M3)
    by_cases hlt : numV n2 = 0
    · rw [decide_eq_true hlt] at hcm
      have hq := Lib.hid (show opR true (decide (numV n2 = 0)) (numV n1 * numV d2) (numV d1 * numV n2) = (⟨#[]⟩, ⟨#[]⟩, 4) by rw [decide_eq_true hlt]; rfl)
      clear hlt M1 M2 M3 M4
      go_wp2_with fail
      (with_reducible refine hcm.out.mono ?_)
      rintro e w5 ⟨rfl, b5⟩
      have hR6 := hR2.keep b5 ltR
      replace r0 := hR6.cell 0
      replace r1 := hR6.cell 1
      replace f0 := hR6.frozen 0
      replace f1 := hR6.frozen 1
      simp only [List.getElem?_toArray, List.getElem?_cons_zero, List.getElem?_cons_succ] at r0 r1
      have B6 := Lib.hid (below_wt B2.out b5)
      clear b5
      go_wp2
      refine bodyPost_ret (v := .tuple #[.agg #[.string ⟨#[]⟩, .string ⟨#[]⟩], .int .i64 4]) (by simp [results, Tryz.results17, go_sem, r0, r1]) rfl ?_
      exact ⟨by first | (rw [hok'.out, hq.out]; rfl) | (rw [hq.out]; rfl), (B6.out.setCell (p := ⟨w.heap.size + 1 + 1, 0, none⟩) hbl.out _).setCell (p := ⟨w.heap.size + 1 + 1, 1, none⟩) hbl.out _⟩
    · rw [decide_eq_false hlt] at hcm
      have hdn := Lib.hid (decide_eq_false hlt)
      have hnp := Lib.hid (Nat.pos_of_ne_zero hlt)
      clear hlt
      have hM1 := Lib.hid M1; have hM2 := Lib.hid M2; have hM3 := Lib.hid M3; have hM4 := Lib.hid M4
      clear M1 M2 M3 M4
      go_wp2_with fail
      (with_reducible refine hcm.out.mono ?_)
      rintro e w5 ⟨rfl, b5⟩
      have M1 := hM1.out.keep b5; have M2 := hM2.out.keep b5; have M3 := hM3.out.keep b5; have M4 := hM4.out.keep b5
      replace z0 := (b5.cell (block_lt z0)).trans z0
      replace z1 := (b5.cell (block_lt z1)).trans z1
      replace hzz0 := (b5.cell (block_lt hzz0)).trans hzz0
      replace hzz1 := (b5.cell (block_lt hzz1)).trans hzz1
      replace hR2 := hR2.keep b5 ltR
      replace ltR := hR2.lt
      replace B2 := Lib.hid (below_wt B2.out b5)
      clear b5 r0 r1 f0 f1
      have r0 : True := trivial; have r1 : True := trivial; have f0 : True := trivial; have f1 : True := trivial
      have hop := Lib.hid (ratioOver _ _ _ _ (numV n1) (numV d1) (numV n2) (numV d2) _ M1 M2 M3 M4 (len_n32 sz1.1) (len_n32 sz1.2) (len_n32 sz2.1) (len_n32 sz2.2))
      have stN := Lib.hid (prod32 (numV_len sz1.1) (numV_len sz2.2))
      have stD := Lib.hid (prod32 (numV_len sz1.2) (numV_len sz2.1))
      have dps := Lib.hid (Nat.mul_pos dp1 hnp.out)
      have hq := Lib.hid (show ∀ x y, (numV n1 * numV d2) = x → (numV d1 * numV n2) = y → opR true (decide (numV n2 = 0)) (numV n1 * numV d2) (numV d1 * numV n2) = (toldN (x / Nat.gcd x y) (y / Nat.gcd x y), toldD (x / Nat.gcd x y) (y / Nat.gcd x y), toldC (x / Nat.gcd x y) (y / Nat.gcd x y)) by rintro x y rfl rfl; rw [hdn.out]; rfl)
      clear M1 M2 M3 M4
      generalize hNN : numV n1 * numV d2 = NN at hop stN
      generalize hDD : numV d1 * numV n2 = DD at hop stD dps
      replace hNN := Lib.hid hNN
      replace hDD := Lib.hid hDD
      go_wp2_with fail
      (with_reducible refine hop.out.mono ?_)
      rintro e w5 ⟨p, q, rfl, hp, hq', b5⟩
      have ht := Lib.hid (fraction_any p q NN DD w5 hp hq' dps.out (Nat.le_trans stN.out (by decide)) (Nat.le_trans stD.out (by decide)) (htab'.out.keep (below_wt B2.out b5)))
      obtain ⟨_, pa, pc, rfl⟩ := hp.len
      obtain ⟨_, qa, qc, rfl⟩ := hq'.len
      have B5 := Lib.hid (below_wt B2.out b5)
      have hR5 := hR2.keep b5 ltR
      clear hp hq' b5
      go_wp2_with fail
      (with_reducible refine ht.out.mono ?_)
      rintro e w6 ⟨rfl, b6⟩
      have hR6 := hR5.keep b6 hR5.lt
      replace r0 := hR6.cell 0
      replace r1 := hR6.cell 1
      replace f0 := hR6.frozen 0
      replace f1 := hR6.frozen 1
      simp only [List.getElem?_toArray, List.getElem?_cons_zero, List.getElem?_cons_succ] at r0 r1
      have B6 := Lib.hid (below_wt B5.out b6)
      clear b6 ht
      replace hq := Lib.hid (hq.out _ _ hNN.out hDD.out)
      generalize toldN (NN / Nat.gcd NN DD) (DD / Nat.gcd NN DD) = TN at *
      generalize toldD (NN / Nat.gcd NN DD) (DD / Nat.gcd NN DD) = TD at *
      generalize toldC (NN / Nat.gcd NN DD) (DD / Nat.gcd NN DD) = TC at *
      go_wp2
      refine bodyPost_ret (v := .tuple #[.agg #[.string TN, .string TD], .int .i64 TC]) (by simp [results, Tryz.results17, go_sem, r0, r1]) rfl ?_
      exact ⟨by first | (rw [hok'.out, hq.out]; rfl) | (rw [hq.out]; rfl), (B6.out.setCell (p := ⟨w.heap.size + 1 + 1, 0, none⟩) hbl.out _).setCell (p := ⟨w.heap.size + 1 + 1, 1, none⟩) hbl.out _⟩
end Go.Proofs.YtcbpbhaimjhelaaGreatDoor

/- l01Whole and l01Small of the specification, and FractionOf of both sides. Conditions: told by the code. -/
namespace Go.Proofs.YtcbpbhaimjhelaaGreatDoor
open Go.RowKit Go.Deep
set_option linter.unusedVariables false
set_option linter.unusedSimpArgs false

theorem three_ints (w : World) (x y z : Nat) : Ints (w.alloc (.cells #[.int .i64 (x : Int), .int .i64 (y : Int), .int .i64 (z : Int)] 2)) (.slice (some ⟨w.heap.size, 0, none⟩) 3 3) (nats [x, y, z]) := by
  have hB := Blk.new w #[.int .i64 (x : Int), .int .i64 (y : Int), .int .i64 (z : Int)] 2
  refine ⟨by unfold maxLen; simp [nats, ints], _, 3, rfl, ⟨by simp [nats, ints], by unfold maxLen; omega⟩, fun i hi => ⟨_, 0, rfl, ?_⟩⟩
  simp only [nats, ints, List.map_cons, List.map_nil, List.length_cons, List.length_nil] at hi
  have : i = 0 ∨ i = 1 ∨ i = 2 := by omega
  rcases this with rfl | rfl | rfl
  · exact hB.cell 0
  · exact hB.cell 1
  · exact hB.cell 2

theorem LongS.setBlk {w : World} {v : Value} {n b : Nat} {cs : Array Value} {t : TypeId} (h : LongS w v n) (hB : Blk w b cs t) (hno : ∀ (j : Nat) (x : Int), cs[j]? ≠ some (.int .i64 x)) (j : Nat) (u : Value) : LongS (w.setCell ⟨b, j, none⟩ u) v n := by
  obtain ⟨hm, a, cap, rfl, hk, hc⟩ := h
  refine ⟨hm, a, cap, rfl, hk, fun i hi => ?_⟩
  obtain ⟨b', off, ha, hcell⟩ := hc i hi
  refine ⟨b', off, ha, ?_⟩
  have hne : b' ≠ b := by
    rintro rfl
    rw [hB.cell] at hcell
    have hi' : i < (longS n).length := by simpa [ints] using hi
    rw [ints_getD (longS n) i hi'] at hcell
    exact hno _ _ hcell
  rw [World.cell?_of_block (w := w) (Below.heap_setCell w ⟨b, j, none⟩ u b' hne)]
  exact hcell
theorem no_int2 {v1 : Bool} {a : Option Addr} {l c : Nat} : ∀ (j : Nat) (x : Int), (#[Value.bool v1, .slice a l c])[j]? ≠ some (.int .i64 x)
  | 0, x, h => by simp at h
  | 1, x, h => by simp at h
  | j + 2, x, h => by simp at h

set_option maxRecDepth 100000 in
set_option maxHeartbeats 2000000 in
theorem l01Whole_any (n : Nat) (w : World) (hn : n ≤ 9223372036854775807) :
    Calls Tryz.prog 155 #[.int .i64 (n : Int)] w fun e w' => ∃ v, e = .returned (.agg #[.bool false, v]) ∧ LongS w' v n ∧ Below w.heap.size w w' := by
  have hr : (n : Int).tmod 1000000000 = ((n % 1000000000 : Nat) : Int) := by rw [Int.tmod_eq_emod_of_nonneg (by omega)]; rfl
  have hq : (n : Int).tdiv 1000000000 = ((n / 1000000000 : Nat) : Int) := by rw [Int.tdiv_eq_ediv_of_nonneg (by omega)]; rfl
  have hr2 : ((n / 1000000000 : Nat) : Int).tmod 1000000000 = ((n / 1000000000 % 1000000000 : Nat) : Int) := by rw [Int.tmod_eq_emod_of_nonneg (by omega)]; rfl
  have hq2 : ((n / 1000000000 : Nat) : Int).tdiv 1000000000 = ((n / 1000000000 / 1000000000 : Nat) : Int) := by rw [Int.tdiv_eq_ediv_of_nonneg (by omega)]; rfl
  have hv : val B9 [n % 1000000000, n / 1000000000 % 1000000000, n / 1000000000 / 1000000000] = n := by simp only [val, B9]; omega
  have hd : ∀ x ∈ [n % 1000000000, n / 1000000000 % 1000000000, n / 1000000000 / 1000000000], x < B9 := by
    intro x hx; simp only [B9]; simp at hx; rcases hx with rfl | rfl | rfl <;> omega
  have k1 : n / 1000000000 ≤ 9223372037 := by omega
  have k2 : n % 1000000000 < 1000000000 := by omega
  have k3 : n / 1000000000 % 1000000000 < 1000000000 := by omega
  have k4 : n / 1000000000 / 1000000000 ≤ 10 := by omega
  generalize n / 1000000000 % 1000000000 = y at *
  generalize n / 1000000000 / 1000000000 = z at *
  generalize n / 1000000000 = q at *
  generalize n % 1000000000 = x at *
  have hT := l01Cut_any _ [x, y, z] _ (three_ints (w.alloc (.cells #[.bool false, .slice none 0 0] 187)) x y z) hd
  rw [hv] at hT
  have hT' := Lib.hid hT
  have hZ := (Blk.new w #[.bool false, .slice none 0 0] 187).alloc (.cells #[.int .i64 (x : Int), .int .i64 (y : Int), .int .i64 (z : Int)] 2)
  have bel := below2 w (.cells #[.bool false, .slice none 0 0] 187) (.cells #[.int .i64 (x : Int), .int .i64 (y : Int), .int .i64 (z : Int)] 2)
  have hn' : n < 9223372036854775808 := by omega
  clear hT hd hv hn
  simp only [World.size_alloc] at hT'
  go_enter Tryz.func155, Tryz.ntmps155
  go_wp2_with fail
  generalize hW : (w.alloc _).alloc _ = W at *
  clear hW
  refine hT'.out.mono ?_
  rintro e w' ⟨⟨v, rfl, hL⟩, k, rfl⟩
  obtain ⟨_, va, vc, rfl⟩ := hL.len
  have bk := below_drewN (Below.refl W.heap.size W) k
  have hZ2 := hZ.keep bk hZ.lt
  have hL2 := hL.keep bk
  have B2 := below_wt bel bk
  have z0 := hZ2.cell 0
  have z1 := hZ2.cell 1
  have f0 := hZ2.frozen 0
  have f1 := hZ2.frozen 1
  simp only [List.getElem?_toArray, List.getElem?_cons_zero, List.getElem?_cons_succ] at z0 z1
  generalize W.drewN k = U at *
  have hf := Lib.hid ((hL2.setBlk hZ2 no_int2 0 (.bool false)).setBlk (hZ2.set 0 (.bool false)) no_int2 1 (.slice va (dlen B9 n) vc))
  have hb := Lib.hid ((B2.setCell (p := ⟨w.heap.size, 0, none⟩) (Nat.le_refl _) (.bool false)).setCell (p := ⟨w.heap.size, 1, none⟩) (Nat.le_refl _) (.slice va (dlen B9 n) vc))
  clear hL2 hL hZ hZ2 bk B2 bel
  go_wp2
  refine bodyPost_ret (v := .agg #[.bool false, .slice va (dlen B9 n) vc]) (by simp [results, Tryz.results155, go_sem, z0, z1]) rfl ?_
  exact ⟨_, rfl, hf.out, hb.out⟩

set_option maxRecDepth 100000 in
set_option maxHeartbeats 2000000 in
theorem l01Small_any (n d : Nat) (w : World) (hn : n ≤ 9223372036854775807) (hd : d ≤ 9223372036854775807) (hd0 : 0 < d) :
    Calls Tryz.prog 119 #[.int .i64 (n : Int), .int .i64 (d : Int)] w fun e w' => ∃ p q, e = .returned (.agg #[p, q]) ∧ LongS w' p (n / Nat.gcd n d) ∧ LongS w' q (d / Nat.gcd n d) ∧ Below w.heap.size w w' := by
  have sn : dlen B9 n ≤ 3 := dlen_le b9 (by simp only [B9]; omega)
  have sd : dlen B9 d ≤ 3 := dlen_le b9 (by simp only [B9]; omega)
  have h1 := Lib.hid (fun W => l01Whole_any n W hn)
  have h2 := Lib.hid (fun W => l01Whole_any d W hd)
  have hov := Lib.hid (fun a b W ha hb => l01Over_any a b n d W ha hb hd0 (by omega) (by omega))
  have hZ := Blk.new w #[.slice none 0 0, .slice none 0 0] 79
  have bel := below1 w (.cells #[.slice none 0 0, .slice none 0 0] 79)
  have hfd := Lib.hid (fun (a : Option Addr) (l c : Nat) (u : World) => (show (Instr.field 187 (.agg #[.bool false, .slice a l c]) 1).run Tryz.prog u = .ok (.slice a l c) u by kernel_rfl))
  generalize n / Nat.gcd n d = N at *
  generalize d / Nat.gcd n d = D at *
  go_enter Tryz.func119, Tryz.ntmps119
  go_wp2_with fail
  generalize hW : w.alloc _ = W at *
  clear hW
  (with_reducible refine (h1.out _).mono ?_)
  rintro e w1 ⟨a, rfl, ha, b1⟩
  obtain ⟨_, aa, ac, rfl⟩ := ha.len
  have fd1 := hfd.out aa (dlen B9 n) ac
  have ha' := Lib.hid ha
  clear ha
  go_wp2_with fail
  (with_reducible refine (h2.out _).mono ?_)
  rintro e w2 ⟨b, rfl, hb, b2⟩
  obtain ⟨_, ba, bc, rfl⟩ := hb.len
  have fd2 := hfd.out ba (dlen B9 d) bc
  have hov' := Lib.hid (hov.out _ _ w2 (ha'.out.keep b2) hb)
  clear hb
  go_wp2_with fail
  (with_reducible refine hov'.out.mono ?_)
  rintro e w3 ⟨p, q, rfl, hp, hq, b3⟩
  obtain ⟨_, pa, pc, rfl⟩ := hp.len
  obtain ⟨_, qa, qc, rfl⟩ := hq.len
  have b13 := below_wt (below_wt b1 b2) b3
  have hZ3 := hZ.keep b13 hZ.lt
  have B3 := below_wt bel b13
  have z0 := hZ3.cell 0
  have z1 := hZ3.cell 1
  have f0 := hZ3.frozen 0
  have f1 := hZ3.frozen 1
  simp only [List.getElem?_toArray, List.getElem?_cons_zero, List.getElem?_cons_succ] at z0 z1
  have hfp := Lib.hid ((hp.setBox hZ3 0 (.slice pa (dlen B9 N) pc)).setBox (hZ3.set 0 (.slice pa (dlen B9 N) pc)) 1 (.slice qa (dlen B9 D) qc))
  have hfq := Lib.hid ((hq.setBox hZ3 0 (.slice pa (dlen B9 N) pc)).setBox (hZ3.set 0 (.slice pa (dlen B9 N) pc)) 1 (.slice qa (dlen B9 D) qc))
  have hBf := Lib.hid ((B3.setCell (p := ⟨w.heap.size, 0, none⟩) (Nat.le_refl _) (.slice pa (dlen B9 N) pc)).setCell (p := ⟨w.heap.size, 1, none⟩) (Nat.le_refl _) (.slice qa (dlen B9 D) qc))
  clear hp hq hZ3 hZ B3 b1 b2 b3 b13 fd1 fd2 bel
  go_wp2
  refine bodyPost_ret (v := .agg #[.slice pa (dlen B9 N) pc, .slice qa (dlen B9 D) qc]) (by simp [results, Tryz.results119, go_sem, z0, z1]) rfl ?_
  exact ⟨_, _, rfl, hfp.out, hfq.out, hBf.out⟩

/-- what FractionOf returns -/
def ofR (a b : Int) : ByteArray × ByteArray × Int :=
  if 0 ≤ a ∧ 1 ≤ b then (toldN (a.toNat / Nat.gcd a.toNat b.toNat) (b.toNat / Nat.gcd a.toNat b.toNat), toldD (a.toNat / Nat.gcd a.toNat b.toNat) (b.toNat / Nat.gcd a.toNat b.toNat), toldC (a.toNat / Nat.gcd a.toNat b.toNat) (b.toNat / Nat.gcd a.toNat b.toNat))
  else (⟨#[]⟩, ⟨#[]⟩, 2)
theorem ofR_no {a b : Int} (h : ¬ (0 ≤ a ∧ 1 ≤ b)) : ofR a b = (⟨#[]⟩, ⟨#[]⟩, 2) := if_neg h
theorem ofR_yes {n d : Nat} (h : 0 < d) : ofR n d = (toldN (n / Nat.gcd n d) (d / Nat.gcd n d), toldD (n / Nat.gcd n d) (d / Nat.gcd n d), toldC (n / Nat.gcd n d) (d / Nat.gcd n d)) := by
  unfold ofR; rw [if_pos (by omega)]; rfl
theorem small9 {n : Nat} (h : n ≤ 9223372036854775807) (g : Nat) : dlen B9 (n / g) ≤ 10000000 := Nat.le_trans (dlen_mono b9 (Nat.div_le_self _ _)) (Nat.le_trans (dlen_le b9 (L := 3) (by simp only [B9]; omega)) (by decide))

set_option maxRecDepth 100000 in
set_option maxHeartbeats 2000000 in
theorem FractionOf_spec (a b : Int) (w : World) (ha : -9223372036854775808 ≤ a ∧ a ≤ 9223372036854775807) (hb : -9223372036854775808 ≤ b ∧ b ≤ 9223372036854775807) :
    Calls Tryz.prog 62 #[.int .i64 a, .int .i64 b] w fun e w' => e = .returned (opV (ofR a b)) ∧ Below w.heap.size w w' := by
  have hZ := Blk.new w #[.string ⟨#[]⟩, .string ⟨#[]⟩] 25
  have bel := below1 w (.cells #[.string ⟨#[]⟩, .string ⟨#[]⟩] 25)
  by_cases h0 : 0 ≤ a
  · by_cases h1 : 1 ≤ b
    · obtain ⟨n, rfl⟩ : ∃ n : Nat, a = n := ⟨a.toNat, by omega⟩
      obtain ⟨d, rfl⟩ : ∃ d : Nat, b = d := ⟨b.toNat, by omega⟩
      have hn : n ≤ 9223372036854775807 := by omega
      have hd : d ≤ 9223372036854775807 := by omega
      have hd0 : 0 < d := by omega
      have hr := Lib.hid (ofR_yes (n := n) hd0)
      have hsm := Lib.hid (fun W => l01Small_any n d W hn hd hd0)
      have tn := Lib.hid (small9 hn (Nat.gcd n d))
      have td := Lib.hid (small9 hd (Nat.gcd n d))
      have i1 : ¬ (n : Int) < 0 := by omega
      have i2 : ¬ (d : Int) < 1 := by omega
      generalize n / Nat.gcd n d = N at *
      generalize d / Nat.gcd n d = D at *
      clear ha hb hn hd hd0 h0 h1
      go_enter Tryz.func62, Tryz.ntmps62
      go_wp2_with fail
      generalize hW : w.alloc _ = W at *
      clear hW
      (with_reducible refine (hsm.out _).mono ?_)
      rintro e w1 ⟨p, q, rfl, hp, hq, b1⟩
      have ht := Lib.hid (l01Told_any p q N D w1 hp hq tn.out td.out)
      obtain ⟨_, pa, pc, rfl⟩ := hp.len
      obtain ⟨_, qa, qc, rfl⟩ := hq.len
      clear hp hq
      go_wp2_with fail
      (with_reducible refine ht.out.mono ?_)
      rintro e w2 ⟨rfl, b2⟩
      have b12 := below_wt b1 b2
      have hZ2 := hZ.keep b12 hZ.lt
      have z0 := hZ2.cell 0
      have z1 := hZ2.cell 1
      have f0 := hZ2.frozen 0
      have f1 := hZ2.frozen 1
      simp only [List.getElem?_toArray, List.getElem?_cons_zero, List.getElem?_cons_succ] at z0 z1
      have B2 := Lib.hid (below_wt bel b12)
      clear b1 b2 b12 bel ht hZ hZ2
      generalize toldN N D = TN at *
      generalize toldD N D = TD at *
      generalize toldC N D = TC at *
      go_wp2
      refine bodyPost_ret (v := .tuple #[.agg #[.string TN, .string TD], .int .i64 TC]) (by simp [results, Tryz.results62, go_sem, z0, z1]) rfl ?_
      exact ⟨by rw [hr.out]; rfl, (B2.out.setCell (p := ⟨w.heap.size, 0, none⟩) (Nat.le_refl _) _).setCell (p := ⟨w.heap.size, 1, none⟩) (Nat.le_refl _) _⟩
    · have hr := Lib.hid (ofR_no (a := a) (b := b) (by omega))
      have i1 : ¬ a < 0 := by omega
      have i2 : b < 1 := by omega
      clear h0 h1
      go_enter Tryz.func62, Tryz.ntmps62
      go_wp2
      refine bodyPost_ret (v := .tuple #[.agg #[.string ⟨#[]⟩, .string ⟨#[]⟩], .int .i64 2]) (by simp [results, Tryz.results62, go_sem]) rfl ?_
      exact ⟨by rw [hr.out]; rfl, bel⟩
  · have hr := Lib.hid (ofR_no (a := a) (b := b) (by omega))
    have i1 : a < 0 := by omega
    clear h0
    go_enter Tryz.func62, Tryz.ntmps62
    go_wp2
    refine bodyPost_ret (v := .tuple #[.agg #[.string ⟨#[]⟩, .string ⟨#[]⟩], .int .i64 2]) (by simp [results, Tryz.results62, go_sem]) rfl ?_
    exact ⟨by rw [hr.out]; rfl, bel⟩

theorem two64 {n : Nat} (h : n ≤ 9223372036854775807) : dlen W32 n ≤ 1000000 := Nat.le_trans (dlen_le w32 (L := 2) (by simp only [W32]; omega)) (by decide)
end Go.Proofs.YtcbpbhaimjhelaaGreatDoor

/- What the text of a number is worth. Conditions: none: plain lemmas. -/
namespace Go.Proofs.YtcbpbhaimjhelaaGreatDoor
set_option linter.unusedVariables false

/-- what a list of digits is worth -/
def valW (l : List UInt8) : Nat := l.foldl (fun a b => a * 10 + (b.toNat - 48)) 0
theorem foldW (l : List UInt8) : ∀ x : Nat, l.foldl (fun a b => a * 10 + (b.toNat - 48)) x = x * 10 ^ l.length + valW l := by
  induction l with
  | nil => intro x; simp [valW]
  | cons b l ih =>
    intro x
    unfold valW
    simp only [List.foldl_cons, List.length_cons, Nat.zero_mul, Nat.zero_add]
    rw [ih (x * 10 + (b.toNat - 48)), ih (b.toNat - 48), Nat.pow_succ]
    grind
theorem valW_app (a b : List UInt8) : valW (a ++ b) = valW a * 10 ^ b.length + valW b := by
  rw [valW, List.foldl_append, foldW]; rfl
theorem valW_one (b : UInt8) : valW [b] = b.toNat - 48 := by simp [valW]
theorem valW_zeros (k : Nat) : valW (List.replicate k 48) = 0 := by
  induction k with
  | zero => rfl
  | succ k ih => rw [List.replicate_succ', valW_app, ih, valW_one]; rfl
theorem dig_byte {d : Nat} (h : d < 10) : (UInt8.ofNat (48 + d)).toNat = 48 + d := by
  simp only [UInt8.toNat_ofNat']; omega
theorem valW_dec (n : Nat) : valW (decW n) = n := by
  induction n using Nat.strongRecOn with
  | _ n ih =>
    by_cases h : n < 10
    · rw [decW_small h, valW_one, dig_byte h]; omega
    · rw [decW_more h, valW_app, ih (n / 10) (by omega), valW_one, dig_byte (Nat.mod_lt _ (by omega))]
      simp only [List.length_singleton]; omega
theorem valW_pad (n : Nat) : valW (pad9 n) = n := by
  rw [pad9, valW_app, valW_zeros, valW_dec]; omega
theorem valW_num (n : Nat) : valW (numW n) = n := by
  induction n using Nat.strongRecOn with
  | _ n ih =>
    by_cases h : n < B9
    · rw [numW_small h, valW_dec]
    · have h9 : n % B9 < B9 := Nat.mod_lt _ (by decide)
      rw [numW_more h, valW_app, ih (n / B9) (Nat.div_lt_self (by unfold B9 at h; omega) (by decide)), valW_pad, pad9_len h9]
      have e : (10 : Nat) ^ 9 = B9 := by decide
      rw [e, Nat.mul_comm]; exact Nat.div_add_mod n B9
theorem decV_take (s : ByteArray) : ∀ k, k ≤ s.data.toList.length → decV s k = valW (s.data.toList.take k)
  | 0, _ => by simp [decV, valW]
  | k + 1, h => by
    rw [decV, decV_take s k (by omega), List.take_succ_eq_append_getElem (by omega), valW_app, valW_one]
    simp only [List.length_singleton, Nat.pow_one, byteAt]
    rw [List.getD, List.getElem?_map, List.getElem?_eq_getElem (by omega)]; simp
theorem numV_val (s : ByteArray) : numV s = valW s.data.toList := by
  have e : s.size = s.data.toList.length := Array.length_toList.symm
  rw [numV, e, decV_take s _ (Nat.le_refl _), List.take_length]
theorem numV_num (n : Nat) : numV (numT n) = n := by rw [numV_val]; simp [numT, valW_num]
/-- digits alone -/
def DigW (l : List UInt8) : Prop := ∀ b ∈ l, 48 ≤ b.toNat ∧ b.toNat ≤ 57
theorem digW_dec (n : Nat) : DigW (decW n) := by
  induction n using Nat.strongRecOn with
  | _ n ih =>
    by_cases h : n < 10
    · rw [decW_small h]; intro b hb; rw [List.mem_singleton] at hb; rw [hb, dig_byte h]; omega
    · rw [decW_more h]; intro b hb
      rcases List.mem_append.1 hb with hb | hb
      · exact ih (n / 10) (by omega) b hb
      · rw [List.mem_singleton] at hb; rw [hb, dig_byte (Nat.mod_lt _ (by omega))]; omega
theorem digW_pad (n : Nat) : DigW (pad9 n) := by
  intro b hb
  rcases List.mem_append.1 hb with hb | hb
  · have := List.eq_of_mem_replicate hb; subst this; decide
  · exact digW_dec n b hb
theorem digW_num (n : Nat) : DigW (numW n) := by
  induction n using Nat.strongRecOn with
  | _ n ih =>
    by_cases h : n < B9
    · rw [numW_small h]; exact digW_dec n
    · rw [numW_more h]; intro b hb
      rcases List.mem_append.1 hb with hb | hb
      · exact ih (n / B9) (Nat.div_lt_self (by unfold B9 at h; omega) (by decide)) b hb
      · exact digW_pad _ b hb
theorem getD_left {a b : List Nat} {i : Nat} (h : i < a.length) : (a ++ b).getD i 0 = a.getD i 0 := by
  simp only [List.getD, List.getElem?_append_left h]
/-- no zero ahead -/
theorem head_dec (n : Nat) (h : 1 ≤ n) : ((decW n).map UInt8.toNat).getD 0 0 ≠ 48 := by
  induction n using Nat.strongRecOn with
  | _ n ih =>
    by_cases hl : n < 10
    · rw [decW_small hl]; simp only [List.map_cons, List.getD_cons_zero, dig_byte hl]; omega
    · have h1 := ih (n / 10) (by omega) (by omega)
      have hp : 0 < ((decW (n / 10)).map UInt8.toNat).length := by
        rw [List.length_map]
        by_cases h2 : n / 10 < 10
        · rw [decW_small h2]; simp
        · rw [decW_more h2]; simp
      rw [decW_more hl, List.map_append, getD_left hp]
      exact h1
theorem head_num (n : Nat) (h : 1 ≤ n) : ((numW n).map UInt8.toNat).getD 0 0 ≠ 48 := by
  induction n using Nat.strongRecOn with
  | _ n ih =>
    by_cases hl : n < B9
    · rw [numW_small hl]; exact head_dec n h
    · have h1 := ih (n / B9) (Nat.div_lt_self (by unfold B9 at hl; omega) (by decide)) (by unfold B9 at hl ⊢; omega)
      rw [numW_more hl, List.map_append, getD_left (by rw [List.length_map]; exact numW_pos _)]
      exact h1
theorem numB_num {n : Nat} (h : (numT n).size ≤ 300) : numB (numT n) = true := by
  have hs : (numT n).size = (numW n).length := by simp [numT, ByteArray.size]
  have hb : ∀ i, byteAt (numT n) i = ((numW n).map UInt8.toNat).getD i 0 := fun i => by simp [byteAt, numT]
  unfold numB
  rw [Bool.and_eq_true, decide_eq_true_iff]
  refine ⟨⟨by rw [hs]; exact numW_pos n, h, ?_⟩, ?_⟩
  · rintro ⟨h1, h2⟩
    rw [hb] at h1
    by_cases hn : 1 ≤ n
    · exact head_num n hn h1
    · obtain rfl : n = 0 := by omega
      rw [hs, numW_small (by decide), decW_small (by omega)] at h2
      simp at h2
  · rw [List.all_eq_true]
    intro i hi
    have hi' : i < (numW n).length := by rw [← hs]; simpa using hi
    rw [hb, List.getD, List.getElem?_map, List.getElem?_eq_getElem hi']
    have := digW_num n (numW n)[i] (List.getElem_mem hi')
    simp [digB, this.1, this.2]
theorem numT_inj {n m : Nat} (h : numT n = numT m) : n = m := by rw [← numV_num n, h, numV_num]
theorem frOk_numT {n d : Nat} (h1 : (numT n).size ≤ 300) (h2 : (numT d).size ≤ 300) (h3 : 0 < d) (h4 : Nat.gcd n d = 1) : frOk (numT n) (numT d) = true := by
  unfold frOk
  rw [numB_num h1, numB_num h2, numV_num, numV_num, decide_eq_true h3, decide_eq_true h4]; rfl
end Go.Proofs.YtcbpbhaimjhelaaGreatDoor

/- Fractions in lowest terms as texts: what the four operations make of them. Conditions: bounds on the numbers. -/
namespace Go.Proofs.YtcbpbhaimjhelaaGreatDoor
open Go.RowKit Go.Deep
set_option linter.unusedVariables false
set_option linter.unusedSimpArgs false

/-- a fraction in lowest terms, as texts -/
def FrP (N D : Nat) : ByteArray × ByteArray := (numT (N / Nat.gcd N D), numT (D / Nat.gcd N D))
theorem low_parts {N D : Nat} (h : 0 < D) : ∃ g n d, 0 < g ∧ 0 < d ∧ N = n * g ∧ D = d * g ∧ Nat.gcd n d = 1 ∧ Nat.gcd N D = g ∧ N / Nat.gcd N D = n ∧ D / Nat.gcd N D = d := by
  have hg : 0 < Nat.gcd N D := Nat.gcd_pos_of_pos_right _ h
  refine ⟨Nat.gcd N D, N / Nat.gcd N D, D / Nat.gcd N D, hg, ?_, (Nat.div_mul_cancel (Nat.gcd_dvd_left N D)).symm, (Nat.div_mul_cancel (Nat.gcd_dvd_right N D)).symm, Nat.gcd_div_gcd_div_gcd_of_pos_right h, rfl, rfl, rfl⟩
  exact Nat.div_pos (Nat.le_of_dvd h (Nat.gcd_dvd_right N D)) hg
theorem low_same {n d m e : Nat} (h1 : Nat.gcd n d = 1) (h2 : Nat.gcd m e = 1) (hd : 0 < d) (he : 0 < e) (h : n * e = m * d) : n = m ∧ d = e := by
  have a : d ∣ e := by
    have : d ∣ n * e := ⟨m, by rw [h, Nat.mul_comm]⟩
    exact (Nat.Coprime.dvd_of_dvd_mul_left (by rw [Nat.Coprime, Nat.gcd_comm]; exact h1) this)
  have b : e ∣ d := by
    have : e ∣ m * d := ⟨n, by rw [← h, Nat.mul_comm]⟩
    exact (Nat.Coprime.dvd_of_dvd_mul_left (by rw [Nat.Coprime, Nat.gcd_comm]; exact h2) this)
  have e1 : d = e := Nat.dvd_antisymm a b
  subst e1
  exact ⟨Nat.eq_of_mul_eq_mul_right hd h, rfl⟩
theorem FrP_iff {N D N' D' : Nat} (h1 : 0 < D) (h2 : 0 < D') : FrP N D = FrP N' D' ↔ N * D' = N' * D := by
  obtain ⟨g, n, d, g0, d0, e1, e2, c, _, f1, f2⟩ := low_parts (N := N) h1
  obtain ⟨g', n', d', g0', d0', e1', e2', c', _, f1', f2'⟩ := low_parts (N := N') h2
  unfold FrP
  rw [f1, f2, f1', f2']
  constructor
  · intro h
    have a := numT_inj (congrArg Prod.fst h)
    have b := numT_inj (congrArg Prod.snd h)
    subst a; subst b
    rw [e1, e2, e1', e2']; grind
  · intro h
    rw [e1, e2, e1', e2'] at h
    have h' : (n * d') * (g * g') = (n' * d) * (g * g') := by grind
    obtain ⟨rfl, rfl⟩ := low_same c c' d0 d0' (Nat.eq_of_mul_eq_mul_right (Nat.mul_pos g0 g0') h')
    rfl
theorem numT_le20 {n : Nat} (h : n < B9 ^ 20) : (numT n).size ≤ 300 := by
  rw [numT_size]; have := numW_len 19 n h; omega
theorem FrP_vals (N D : Nat) : numV (FrP N D).1 = N / Nat.gcd N D ∧ numV (FrP N D).2 = D / Nat.gcd N D := ⟨numV_num _, numV_num _⟩
theorem FrP_ok {N D : Nat} (h : 0 < D) (hN : N < B9 ^ 20) (hD : D < B9 ^ 20) : frOk (FrP N D).1 (FrP N D).2 = true := by
  obtain ⟨g, n, d, g0, d0, e1, e2, c, _, f1, f2⟩ := low_parts (N := N) h
  have l1 : N / Nat.gcd N D ≤ N := Nat.div_le_self _ _
  have l2 : D / Nat.gcd N D ≤ D := Nat.div_le_self _ _
  exact frOk_numT (numT_le20 (Nat.lt_of_le_of_lt l1 hN)) (numT_le20 (Nat.lt_of_le_of_lt l2 hD)) (by rw [f2]; exact d0) (by rw [f1, f2]; exact c)
theorem opR_ok {N D : Nat} (h : 0 < D) (hN : N < B9 ^ 20) (hD : D < B9 ^ 20) : opR true false N D = ((FrP N D).1, (FrP N D).2, 0) := by
  have l1 : N / Nat.gcd N D ≤ N := Nat.div_le_self _ _
  have l2 : D / Nat.gcd N D ≤ D := Nat.div_le_self _ _
  obtain ⟨a, b, c⟩ := told_yes (numT_le20 (Nat.lt_of_le_of_lt l1 hN)) (numT_le20 (Nat.lt_of_le_of_lt l2 hD))
  simp only [opR, a, b, c, FrP]
theorem mul_lt20 {a b : Nat} (h1 : a < B9 ^ 9) (h2 : b < B9 ^ 9) : a * b < B9 ^ 18 := by
  have : a * b ≤ (B9 ^ 9 - 1) * (B9 ^ 9 - 1) := Nat.mul_le_mul (by omega) (by omega)
  have h : (B9 ^ 9 - 1) * (B9 ^ 9 - 1) < B9 ^ 18 := by decide +kernel
  omega
theorem up20 {a : Nat} (h : a < B9 ^ 9) : a < B9 ^ 20 := Nat.lt_of_lt_of_le h (by decide +kernel)
theorem up18 {a : Nat} (h : a < B9 ^ 18) : a < B9 ^ 20 := Nat.lt_of_lt_of_le h (by decide +kernel)
theorem low_lt {N D L : Nat} (h : N < L) : N / Nat.gcd N D < L := Nat.lt_of_le_of_lt (Nat.div_le_self _ _) h
theorem low_lt' {N D L : Nat} (h : D < L) : D / Nat.gcd N D < L := Nat.lt_of_le_of_lt (Nat.div_le_self _ _) h
theorem FrP_add {N D N' D' : Nat} (h1 : 0 < D) (h2 : 0 < D') (b1 : N < B9 ^ 9) (b2 : D < B9 ^ 9) (b3 : N' < B9 ^ 9) (b4 : D' < B9 ^ 9) :
    opR (frOk (FrP N D).1 (FrP N D).2 && frOk (FrP N' D').1 (FrP N' D').2) false (numV (FrP N D).1 * numV (FrP N' D').2 + numV (FrP N' D').1 * numV (FrP N D).2) (numV (FrP N D).2 * numV (FrP N' D').2) = ((FrP (N * D' + N' * D) (D * D')).1, (FrP (N * D' + N' * D) (D * D')).2, 0) := by
  rw [FrP_ok h1 (up20 b1) (up20 b2), FrP_ok h2 (up20 b3) (up20 b4), (FrP_vals N D).1, (FrP_vals N D).2, (FrP_vals N' D').1, (FrP_vals N' D').2]
  have m1 := mul_lt20 (low_lt (D := D) b1) (low_lt' (N := N') b4)
  have m2 := mul_lt20 (low_lt (D := D') b3) (low_lt' (N := N) b2)
  have m3 := mul_lt20 (low_lt' (N := N) b2) (low_lt' (N := N') b4)
  obtain ⟨g, n, d, g0, d0, e1, e2, c, _, f1, f2⟩ := low_parts (N := N) h1
  obtain ⟨g', n', d', g0', d0', e1', e2', c', _, f1', f2'⟩ := low_parts (N := N') h2
  simp only [f1, f2, f1', f2'] at m1 m2 m3 ⊢
  have hs : n * d' + n' * d < B9 ^ 20 := by
    have : B9 ^ 18 + B9 ^ 18 < B9 ^ 20 := by decide +kernel
    omega
  rw [Bool.and_self, opR_ok (Nat.mul_pos d0 d0') hs (up18 m3)]
  have e : FrP (n * d' + n' * d) (d * d') = FrP (N * D' + N' * D) (D * D') := by
    rw [FrP_iff (Nat.mul_pos d0 d0') (Nat.mul_pos h1 h2), e1, e2, e1', e2']; grind
  rw [e]
theorem FrP_mul {N D N' D' : Nat} (h1 : 0 < D) (h2 : 0 < D') (b1 : N < B9 ^ 9) (b2 : D < B9 ^ 9) (b3 : N' < B9 ^ 9) (b4 : D' < B9 ^ 9) :
    opR (frOk (FrP N D).1 (FrP N D).2 && frOk (FrP N' D').1 (FrP N' D').2) false (numV (FrP N D).1 * numV (FrP N' D').1) (numV (FrP N D).2 * numV (FrP N' D').2) = ((FrP (N * N') (D * D')).1, (FrP (N * N') (D * D')).2, 0) := by
  rw [FrP_ok h1 (up20 b1) (up20 b2), FrP_ok h2 (up20 b3) (up20 b4), (FrP_vals N D).1, (FrP_vals N D).2, (FrP_vals N' D').1, (FrP_vals N' D').2]
  have m1 := mul_lt20 (low_lt (D := D) b1) (low_lt (D := D') b3)
  have m3 := mul_lt20 (low_lt' (N := N) b2) (low_lt' (N := N') b4)
  obtain ⟨g, n, d, g0, d0, e1, e2, c, _, f1, f2⟩ := low_parts (N := N) h1
  obtain ⟨g', n', d', g0', d0', e1', e2', c', _, f1', f2'⟩ := low_parts (N := N') h2
  simp only [f1, f2, f1', f2'] at m1 m3 ⊢
  rw [Bool.and_self, opR_ok (Nat.mul_pos d0 d0') (up18 m1) (up18 m3)]
  have e : FrP (n * n') (d * d') = FrP (N * N') (D * D') := by
    rw [FrP_iff (Nat.mul_pos d0 d0') (Nat.mul_pos h1 h2), e1, e2, e1', e2']; grind
  rw [e]
theorem FrP_lt_iff {N D N' D' : Nat} (h1 : 0 < D) (h2 : 0 < D') : numV (FrP N D).1 * numV (FrP N' D').2 < numV (FrP N' D').1 * numV (FrP N D).2 ↔ N * D' < N' * D := by
  rw [(FrP_vals N D).1, (FrP_vals N D).2, (FrP_vals N' D').1, (FrP_vals N' D').2]
  obtain ⟨g, n, d, g0, d0, e1, e2, c, _, f1, f2⟩ := low_parts (N := N) h1
  obtain ⟨g', n', d', g0', d0', e1', e2', c', _, f1', f2'⟩ := low_parts (N := N') h2
  rw [f1, f2, f1', f2', e1, e2, e1', e2']
  have x1 : n * g * (d' * g') = (n * d') * (g * g') := by grind
  have x2 : n' * g' * (d * g) = (n' * d) * (g * g') := by grind
  rw [x1, x2]
  exact (Nat.mul_lt_mul_right (Nat.mul_pos g0 g0')).symm
theorem FrP_less {N D N' D' : Nat} (h1 : 0 < D) (h2 : 0 < D') (b1 : N < B9 ^ 9) (b2 : D < B9 ^ 9) (b3 : N' < B9 ^ 9) (b4 : D' < B9 ^ 9) (hle : N' * D ≤ N * D') :
    opR (frOk (FrP N D).1 (FrP N D).2 && frOk (FrP N' D').1 (FrP N' D').2) (decide (numV (FrP N D).1 * numV (FrP N' D').2 < numV (FrP N' D').1 * numV (FrP N D).2)) (numV (FrP N D).1 * numV (FrP N' D').2 - numV (FrP N' D').1 * numV (FrP N D).2) (numV (FrP N D).2 * numV (FrP N' D').2) = ((FrP (N * D' - N' * D) (D * D')).1, (FrP (N * D' - N' * D) (D * D')).2, 0) := by
  rw [decide_eq_false (fun h => by have := (FrP_lt_iff h1 h2).1 h; omega)]
  rw [FrP_ok h1 (up20 b1) (up20 b2), FrP_ok h2 (up20 b3) (up20 b4), (FrP_vals N D).1, (FrP_vals N D).2, (FrP_vals N' D').1, (FrP_vals N' D').2]
  have m1 := mul_lt20 (low_lt (D := D) b1) (low_lt' (N := N') b4)
  have m3 := mul_lt20 (low_lt' (N := N) b2) (low_lt' (N := N') b4)
  obtain ⟨g, n, d, g0, d0, e1, e2, c, _, f1, f2⟩ := low_parts (N := N) h1
  obtain ⟨g', n', d', g0', d0', e1', e2', c', _, f1', f2'⟩ := low_parts (N := N') h2
  simp only [f1, f2, f1', f2'] at m1 m3 ⊢
  have hs : n * d' - n' * d < B9 ^ 18 := by omega
  rw [Bool.and_self, opR_ok (Nat.mul_pos d0 d0') (up18 hs) (up18 m3)]
  have e : FrP (n * d' - n' * d) (d * d') = FrP (N * D' - N' * D) (D * D') := by
    rw [FrP_iff (Nat.mul_pos d0 d0') (Nat.mul_pos h1 h2), e1, e2, e1', e2']
    have x1 : n * g * (d' * g') - n' * g' * (d * g) = (n * d' - n' * d) * (g * g') := by
      rw [Nat.sub_mul]
      have y1 : n * g * (d' * g') = n * d' * (g * g') := by grind
      have y2 : n' * g' * (d * g) = n' * d * (g * g') := by grind
      rw [y1, y2]
    rw [x1]
    generalize n * d' - n' * d = x
    grind
  rw [e]
theorem FrP_less_no {N D N' D' : Nat} (h1 : 0 < D) (h2 : 0 < D') (b1 : N < B9 ^ 9) (b2 : D < B9 ^ 9) (b3 : N' < B9 ^ 9) (b4 : D' < B9 ^ 9) (hlt : N * D' < N' * D) (x y : Nat) :
    opR (frOk (FrP N D).1 (FrP N D).2 && frOk (FrP N' D').1 (FrP N' D').2) (decide (numV (FrP N D).1 * numV (FrP N' D').2 < numV (FrP N' D').1 * numV (FrP N D).2)) x y = (⟨#[]⟩, ⟨#[]⟩, 4) := by
  rw [decide_eq_true ((FrP_lt_iff h1 h2).2 hlt), FrP_ok h1 (up20 b1) (up20 b2), FrP_ok h2 (up20 b3) (up20 b4)]; rfl
theorem FrP_div {N D N' D' : Nat} (h1 : 0 < D) (h2 : 0 < D') (h3 : 0 < N') (b1 : N < B9 ^ 9) (b2 : D < B9 ^ 9) (b3 : N' < B9 ^ 9) (b4 : D' < B9 ^ 9) :
    opR (frOk (FrP N D).1 (FrP N D).2 && frOk (FrP N' D').1 (FrP N' D').2) (decide (numV (FrP N' D').1 = 0)) (numV (FrP N D).1 * numV (FrP N' D').2) (numV (FrP N D).2 * numV (FrP N' D').1) = ((FrP (N * D') (D * N')).1, (FrP (N * D') (D * N')).2, 0) := by
  rw [FrP_ok h1 (up20 b1) (up20 b2), FrP_ok h2 (up20 b3) (up20 b4), (FrP_vals N D).1, (FrP_vals N D).2, (FrP_vals N' D').1, (FrP_vals N' D').2]
  have m1 := mul_lt20 (low_lt (D := D) b1) (low_lt' (N := N') b4)
  have m3 := mul_lt20 (low_lt' (N := N) b2) (low_lt (D := D') b3)
  obtain ⟨g, n, d, g0, d0, e1, e2, c, _, f1, f2⟩ := low_parts (N := N) h1
  obtain ⟨g', n', d', g0', d0', e1', e2', c', _, f1', f2'⟩ := low_parts (N := N') h2
  simp only [f1, f2, f1', f2'] at m1 m3 ⊢
  have n0' : 0 < n' := by
    rcases Nat.eq_zero_or_pos n' with h | h
    · rw [h, Nat.zero_mul] at e1'; omega
    · exact h
  rw [decide_eq_false (show ¬ n' = 0 by omega), Bool.and_self, opR_ok (Nat.mul_pos d0 n0') (up18 m1) (up18 m3)]
  have e : FrP (n * d') (d * n') = FrP (N * D') (D * N') := by
    rw [FrP_iff (Nat.mul_pos d0 n0') (Nat.mul_pos h1 h3), e1, e2, e1', e2']; grind
  rw [e]
theorem FrP_div_no {N D D' : Nat} (h1 : 0 < D) (h2 : 0 < D') (b1 : N < B9 ^ 9) (b2 : D < B9 ^ 9) (b4 : D' < B9 ^ 9) (x y : Nat) :
    opR (frOk (FrP N D).1 (FrP N D).2 && frOk (FrP 0 D').1 (FrP 0 D').2) (decide (numV (FrP 0 D').1 = 0)) x y = (⟨#[]⟩, ⟨#[]⟩, 4) := by
  rw [FrP_ok h1 (up20 b1) (up20 b2), FrP_ok h2 (up20 (by decide +kernel)) (up20 b4), (FrP_vals 0 D').1, decide_eq_true (show 0 / Nat.gcd 0 D' = 0 from Nat.zero_div _)]; rfl
end Go.Proofs.YtcbpbhaimjhelaaGreatDoor
