/- For every two lists of fractions and every share the project's MixSpreads and the specification's answer alike, change nothing, and what is handed back is shared with nothing.
   Conditions: none beyond the row's own (every input that can be read as data); the listed tables hold what their texts say. -/
import Derived.Test.YtcbpbhaimjhelaaGreatDoorMsI
import Derived.Test.YtcbpbhaimjhelaaGreatDoorFsG
import Derived.Test.YtcbpbhaimjhelaaGreatDoorTab
namespace Go.Proofs.YtcbpbhaimjhelaaGreatDoor.fnExactMixSpreads
open Go.ChangeShapes Go.WideShapes Go.ChangeAt Go.RowKit Go.Deep Go.Joins
open Go.ChangeMaps (open_string shut_string)
set_option linter.unusedVariables false
set_option linter.unusedSimpArgs false

theorem own : ownKnob Tryz.prog.godebug = none := by kernel_rfl
theorem laidOut : laidOutB Tryz.prog = true := by kernel_rfl

theorem mark1 (v : Value) (l : List (ByteArray × ByteArray)) (lo hi : Nat) (w : World) (hv : FrOwn w lo hi v l) (h1 : 1 + l.length * 2 ≤ 1099511627776) :
    Calls Tryz.prog 36 #[v, .int .i64 1] w fun e w' => e = .returned (.int .i64 ((1 + l.length * 2 : Nat) : Int)) ∧ FrOwn w' lo hi v (markL 1 l.length) ∧ Touched lo hi w w' := markFractionS_any v l 1 lo hi w hv (by decide) h1
theorem held1 (v : Value) (n : Nat) (w : World) (hv : FrL w v (markL 1 n)) (h1 : 1 + n * 2 ≤ 1099511627776) :
    Calls Tryz.prog 37 #[v, .int .i64 1] w fun e w' => e = .returned (.int .i64 ((1 + n * 2 : Nat) : Int)) ∧ Below w.heap.size w w' := heldFractionS_any v 1 n w hv (by decide) h1

set_option maxRecDepth 100000 in
set_option maxHeartbeats 40000000 in
theorem walk {w : World} (htab : Tab10 w) (v0 : Value) (p : List (ByteArray × ByteArray)) (h0 : FrsIn w v0 p) (v1 : Value) (q : List (ByteArray × ByteArray)) (h1 : FrsIn w v1 q) (v2 : Value) (c2 : ByteArray × ByteArray) (h2 : FrR w v2 c2) :
    Calls Tryz.prog 5 #[v0, v1, v2] w fun e w' => e = .returned (.bool true) ∧ Below w.heap.size w w' := by
  obtain ⟨sn, sd⟩ := c2
  obtain ⟨rfl, s1, s2⟩ := h2
  simp only at s1 s2 ⊢
  obtain ⟨_, va, vc, rfl, _⟩ := id h0.1
  obtain ⟨_, ua, uc, rfl, _⟩ := id h1.1
  have b0 := below1 w (.cells #[.string sn, .string sd] 45)
  have hS := Blk.new w #[.string sn, .string sd] 45
  have H0 := Lib.hid h0
  have H1 := Lib.hid h1
  have htab' := Lib.hid htab
  have hz1 := Lib.hid (szFractionS_any _ p 1048576 _ (h0.keep b0) (by decide) (by decide))
  have B0 := Lib.hid b0
  replace hS := Lib.hid hS
  clear h0 h1 htab b0
  go_enter Tryz.func5, Tryz.ntmps5
  go_wp2_with fail
  (with_reducible refine hz1.out.mono ?_)
  rintro e w1 ⟨⟨L, rfl, hL, hL2⟩, b1⟩
  have hS1 := hS.out.keep b1 hS.out.lt
  have B1 := Lib.hid (below_wt B0.out b1)
  clear hS b1 B0 hz1
  by_cases hn : L < 0
  · clear hL2 hS1
    go_wp2
    go_ret
    exact ⟨rfl, B1.out⟩
  · have n1 : p.length ≤ 1048576 := hL2 (by omega)
    clear hL2
    have hz2 := Lib.hid (szFractionS_any _ q L w1 (H1.out.keep B1.out) (by omega) hL)
    go_wp2_with fail
    (with_reducible refine hz2.out.mono ?_)
    rintro e w2 ⟨⟨L2, rfl, hM, hM2⟩, b2⟩
    have hS2 := hS1.keep b2 hS1.lt
    have B2 := Lib.hid (below_wt B1.out b2)
    clear hS1 b2 B1 hz2
    by_cases hn2 : L2 < 0
    · clear hM2 hS2
      go_wp2
      go_ret
      exact ⟨rfl, B2.out⟩
    · have n2 : q.length ≤ 1048576 := hM2 (by omega)
      clear hM2
      have hz3 := Lib.hid (szFraction_any sn sd L2 w2 (by omega) hM s1 s2)
      obtain ⟨x0, x1⟩ := (⟨hS2.cell 0, hS2.cell 1⟩ : _ ∧ _)
      simp only [List.getElem?_toArray, List.getElem?_cons_zero, List.getElem?_cons_succ] at x0 x1
      generalize frLeft L2 (sn.size + sd.size) = L3 at hz3
      go_wp2_with fail
      (with_reducible refine hz3.out.mono ?_)
      rintro e V ⟨rfl, b3⟩
      have hS3 := hS2.keep b3 hS2.lt
      have BV := Lib.hid (below_wt B2.out b3)
      clear hS2 b3 B2 x0 x1 hz3
      by_cases hn3 : L3 < 0
      · clear hS3
        go_wp2
        go_ret
        exact ⟨rfl, BV.out⟩
      · have t0 := Lib.hid (fun W (h : Below w.heap.size w W) => toFractionS_any (.slice va p.length vc) p W (H0.out.1.keep h) (by omega))
        have t1 := Lib.hid (fun W (h : Below w.heap.size w W) => toFractionS_any (.slice ua q.length uc) q W (H1.out.1.keep h) (by omega))
        have m0 := Lib.hid (fun W (h : Below w.heap.size w W) => toFractionS_own (.slice va p.length vc) p W (H0.out.1.keep h) (by omega))
        have m1 := Lib.hid (fun W (h : Below w.heap.size w W) => toFractionS_own (.slice ua q.length uc) q W (H1.out.1.keep h) (by omega))
        have hs := (fun W v v' (h3 : FrL W v p) (h4 : FrL W v' q) => MixSpreads_spec v v' p q sn sd W h3 h4)
        have hi := (fun W v v' (h3 : FrL W v p) (h4 : FrL W v' q) ht => MixSpreads_impl v v' p q sn sd W h3 h4 ht)
        generalize mixR p q (sn, sd) = r at hs hi
        obtain ⟨R, C⟩ := r
        simp only at hs hi
        replace hs := Lib.hid hs
        replace hi := Lib.hid hi
        have cS0 := Lib.hid (fun w1 (hb : Below V.heap.size V w1) => (show w1.cell? ⟨w.heap.size, 0, none⟩ = some (.string sn) from (hS3.keep hb hS3.lt).cell 0))
        have cS1 := Lib.hid (fun w1 (hb : Below V.heap.size V w1) => (show w1.cell? ⟨w.heap.size, 1, none⟩ = some (.string sd) from (hS3.keep hb hS3.lt).cell 1))
        have hSV := Lib.hid hS3
        obtain ⟨np, hnp⟩ : ∃ n, p.length = n := ⟨_, rfl⟩
        obtain ⟨nq, hnq⟩ : ∃ n, q.length = n := ⟨_, rfl⟩
        rw [hnp] at n1 t0 m0 ⊢
        rw [hnq] at n2 t1 m1 ⊢
        replace hnp := Lib.hid hnp
        replace hnq := Lib.hid hnq
        clear hS3 s1 s2 hn hn2 hL hM H0 H1
        go_upto_region 11 with fail
        refine' Rgn.region_by (fun _ => 0) 0 (fun _ => false) (fun i _ v w' => match i with
            | 0 => v = .slice va np vc
            | 1 => FrL w' v p
            | 2 => v = .slice ua nq uc
            | 3 => FrL w' v q
            | 4 => v = .agg #[.string sn, .string sd]
            | 5 => v = .agg #[.string sn, .string sd]
            | 6 => ∃ (y : Value) (hi : Nat), v = .tuple #[y, .int .i64 C] ∧ FrOwn w' V.heap.size hi y R ∧ hi ≤ w'.heap.size
            | 7 => ∃ (y : Value) (hi : Nat), v = .tuple #[y, .int .i64 C] ∧ FrOwn w' V.heap.size hi y R ∧ hi ≤ w'.heap.size
            | 8 => ∃ (hi : Nat), FrOwn w' V.heap.size hi v R ∧ hi ≤ w'.heap.size
            | 9 => v = .int .i64 C
            | 10 => ∃ (hi : Nat), FrOwn w' V.heap.size hi v R ∧ hi ≤ w'.heap.size
            | 11 => v = .int .i64 C
            | _ => True) (fun i _ v => match i with
            | 0 => v = .slice va np vc
            | 1 => True
            | 2 => v = .slice ua nq uc
            | 3 => True
            | 4 => v = .agg #[.string sn, .string sd]
            | 5 => True
            | 6 => True
            | 7 => True
            | 8 => True
            | 9 => True
            | 10 => True
            | 11 => v = .int .i64 C
            | _ => True)
            (fun _ _ _ => True) (by kernel_rfl) (by kernel_rfl) (by kernel_rfl) ?hst_a ?hG_a _ ?hfr_a ?hob_a ?hend_a
        case hfr_a =>
          intro z
          simp only [Rgn.fillAll, Act.put, List.setIfInBounds_toArray, List.set_cons_zero, List.set_cons_succ, Nat.reduceAdd, Nat.zero_add]
          exact rfl
        case hst_a =>
          intro i z v w1 w2 hi hb hx
          rcases i with _ | i
          · exact hx
          rcases i with _ | i
          · exact (fun v w1 w2 hb h => h.keep hb) v w1 w2 hb hx
          rcases i with _ | i
          · exact hx
          rcases i with _ | i
          · exact (fun v w1 w2 hb h => h.keep hb) v w1 w2 hb hx
          rcases i with _ | i
          · exact hx
          rcases i with _ | i
          · exact (fun v w1 w2 hb h => h) v w1 w2 hb hx
          rcases i with _ | i
          · exact (fun v w1 w2 hb h => h.elim fun v' h => h.elim fun hi h => ⟨v', hi, h.1, h.2.1.keep hb, Nat.le_trans h.2.2 hb.size⟩) v w1 w2 hb hx
          rcases i with _ | i
          · exact (fun v w1 w2 hb h => h.elim fun v' h => h.elim fun hi h => ⟨v', hi, h.1, h.2.1.keep hb, Nat.le_trans h.2.2 hb.size⟩) v w1 w2 hb hx
          rcases i with _ | i
          · exact (fun v w1 w2 hb h => h.elim fun hi h => ⟨hi, h.1.keep hb, Nat.le_trans h.2 hb.size⟩) v w1 w2 hb hx
          rcases i with _ | i
          · exact (fun v w1 w2 hb h => h) v w1 w2 hb hx
          rcases i with _ | i
          · exact (fun v w1 w2 hb h => h.elim fun hi h => ⟨hi, h.1.keep hb, Nat.le_trans h.2 hb.size⟩) v w1 w2 hb hx
          rcases i with _ | i
          · exact hx
          exact trivial
        case hG_a =>
          intro i z v w1 hi hx
          rcases i with _ | i
          · exact hx
          rcases i with _ | i
          · trivial
          rcases i with _ | i
          · exact hx
          rcases i with _ | i
          · trivial
          rcases i with _ | i
          · exact hx
          rcases i with _ | i
          · trivial
          rcases i with _ | i
          · trivial
          rcases i with _ | i
          · trivial
          rcases i with _ | i
          · trivial
          rcases i with _ | i
          · trivial
          rcases i with _ | i
          · trivial
          rcases i with _ | i
          · exact hx
          exact trivial
        case hob_a =>
          intro hfr
          refine Rgn.AllOb.cons (j := 1) (by kernel_rfl) ?_ ?_
          · refine' Rgn.ob_body (fr := _) ?hf_a0 ?h1_a0 ?h2_a0 ?h3_a0 ?h_a0
            case hf_a0 => exact hfr
            case h1_a0 => kernel_rfl
            case h2_a0 => kernel_rfl
            case h3_a0 => rfl
            clear hfr
            intro z w1 hb hd ho K hK
            clear hd ho
            go_simp
            have hh := hK.out (.slice va np vc) _ (Below.refl _ _) rfl
            simp only [Act.put, List.setIfInBounds_toArray, List.set_cons_zero, List.set_cons_succ] at hh
            exact hh
          refine Rgn.AllOb.cons (j := 2) (by kernel_rfl) ?_ ?_
          · refine' Rgn.ob_body (fr := _) ?hf_a1 ?h1_a1 ?h2_a1 ?h3_a1 ?h_a1
            case hf_a1 => exact hfr
            case h1_a1 => kernel_rfl
            case h2_a1 => kernel_rfl
            case h3_a1 => rfl
            clear hfr
            intro z w1 hb hd ho K hK
            have e0 : z 0 = .slice va np vc := hd.out 0 (by kernel_rfl)
            clear hd ho
            go_simp
            refine (t0.out w1 (below_wt BV.out hb)).mono ?_
            rintro e w2 ⟨a, cap, rfl, F, b⟩
            have hh := hK.out _ _ b F
            simp only [Act.put, List.setIfInBounds_toArray, List.set_cons_zero, List.set_cons_succ, e0] at hh
            exact hh
          refine Rgn.AllOb.cons (j := 3) (by kernel_rfl) ?_ ?_
          · refine' Rgn.ob_body (fr := _) ?hf_a2 ?h1_a2 ?h2_a2 ?h3_a2 ?h_a2
            case hf_a2 => exact hfr
            case h1_a2 => kernel_rfl
            case h2_a2 => kernel_rfl
            case h3_a2 => rfl
            clear hfr
            intro z w1 hb hd ho K hK
            clear hd ho
            go_simp
            have hh := hK.out (.slice ua nq uc) _ (Below.refl _ _) rfl
            simp only [Act.put, List.setIfInBounds_toArray, List.set_cons_zero, List.set_cons_succ] at hh
            exact hh
          refine Rgn.AllOb.cons (j := 4) (by kernel_rfl) ?_ ?_
          · refine' Rgn.ob_body (fr := _) ?hf_a3 ?h1_a3 ?h2_a3 ?h3_a3 ?h_a3
            case hf_a3 => exact hfr
            case h1_a3 => kernel_rfl
            case h2_a3 => kernel_rfl
            case h3_a3 => rfl
            clear hfr
            intro z w1 hb hd ho K hK
            have e2 : z 2 = .slice ua nq uc := hd.out 2 (by kernel_rfl)
            clear hd ho
            go_simp
            refine (t1.out w1 (below_wt BV.out hb)).mono ?_
            rintro e w2 ⟨a, cap, rfl, F, b⟩
            have hh := hK.out _ _ b F
            simp only [Act.put, List.setIfInBounds_toArray, List.set_cons_zero, List.set_cons_succ, e2] at hh
            exact hh
          refine Rgn.AllOb.cons (j := 5) (by kernel_rfl) ?_ ?_
          · refine' Rgn.ob_body (fr := _) ?hf_a4 ?h1_a4 ?h2_a4 ?h3_a4 ?h_a4
            case hf_a4 => exact hfr
            case h1_a4 => kernel_rfl
            case h2_a4 => kernel_rfl
            case h3_a4 => rfl
            clear hfr
            intro z w1 hb hd ho K hK
            clear hd ho
            have x0 := cS0.out w1 hb; have x1 := cS1.out w1 hb
            go_simp
            have hh := hK.out (.agg #[.string sn, .string sd]) _ (Below.refl _ _) rfl
            simp only [Act.put, List.setIfInBounds_toArray, List.set_cons_zero, List.set_cons_succ] at hh
            exact hh
          refine Rgn.AllOb.cons (j := 6) (by kernel_rfl) ?_ ?_
          · refine' Rgn.ob_body (fr := _) ?hf_a5 ?h1_a5 ?h2_a5 ?h3_a5 ?h_a5
            case hf_a5 => exact hfr
            case h1_a5 => kernel_rfl
            case h2_a5 => kernel_rfl
            case h3_a5 => rfl
            clear hfr
            intro z w1 hb hd ho K hK
            have e4 : z 4 = .agg #[.string sn, .string sd] := hd.out 4 (by kernel_rfl)
            clear hd ho
            go_simp
            refine (toFraction_any sn sd w1).mono ?_
            rintro e w2 ⟨rfl, b⟩
            have hh := hK.out _ _ b rfl
            simp only [Act.put, List.setIfInBounds_toArray, List.set_cons_zero, List.set_cons_succ, e4] at hh
            exact hh
          refine Rgn.AllOb.cons (j := 7) (by kernel_rfl) ?_ ?_
          · refine' Rgn.ob_body (fr := _) ?hf_a6 ?h1_a6 ?h2_a6 ?h3_a6 ?h_a6
            case hf_a6 => exact hfr
            case h1_a6 => kernel_rfl
            case h2_a6 => kernel_rfl
            case h3_a6 => rfl
            clear hfr
            intro z w1 hb hd ho K hK
            have e1 : FrL w1 (z 1) p := hd.out 1 (by kernel_rfl)
            have e3 : FrL w1 (z 3) q := hd.out 3 (by kernel_rfl)
            have e5 : (z 5) = .agg #[.string sn, .string sd] := hd.out 5 (by kernel_rfl)
            clear hd ho
            go_simp
            refine (hs.out w1 _ _ e1 e3).mono ?_
            rintro e w2 ⟨v', rfl, F, b⟩
            have hh := hK.out _ _ b ⟨v', _, rfl, F.wide hb.size (Nat.le_refl _), Nat.le_refl _⟩
            simp only [Act.put, List.setIfInBounds_toArray, List.set_cons_zero, List.set_cons_succ, e5] at hh
            exact hh
          refine Rgn.AllOb.cons (j := 8) (by kernel_rfl) ?_ ?_
          · refine' Rgn.ob_body (fr := _) ?hf_a7 ?h1_a7 ?h2_a7 ?h3_a7 ?h_a7
            case hf_a7 => exact hfr
            case h1_a7 => kernel_rfl
            case h2_a7 => kernel_rfl
            case h3_a7 => rfl
            clear hfr
            intro z w1 hb hd ho K hK
            have e6 : ∃ (y : Value) (hi : Nat), (z 6) = .tuple #[y, .int .i64 C] ∧ FrOwn w1 V.heap.size hi y R ∧ hi ≤ w1.heap.size := hd.out 6 (by kernel_rfl)
            clear hd ho
            go_simp
            have hh := hK.out (z 6) _ (Below.refl _ _) e6
            simp only [Act.put, List.setIfInBounds_toArray, List.set_cons_zero, List.set_cons_succ] at hh
            exact hh
          refine Rgn.AllOb.cons (j := 9) (by kernel_rfl) ?_ ?_
          · refine' Rgn.ob_body (fr := _) ?hf_a8 ?h1_a8 ?h2_a8 ?h3_a8 ?h_a8
            case hf_a8 => exact hfr
            case h1_a8 => kernel_rfl
            case h2_a8 => kernel_rfl
            case h3_a8 => rfl
            clear hfr
            intro z w1 hb hd ho K hK
            have e7 : ∃ (y : Value) (hi : Nat), (z 7) = .tuple #[y, .int .i64 C] ∧ FrOwn w1 V.heap.size hi y R ∧ hi ≤ w1.heap.size := hd.out 7 (by kernel_rfl)
            clear hd ho
            go_simp
            obtain ⟨v', hi, e7, F, hle⟩ := e7
            simp only [e7]
            go_simp
            have hh := hK.out v' _ (Below.refl _ _) ⟨hi, F, hle⟩
            simp only [Act.put, List.setIfInBounds_toArray, List.set_cons_zero, List.set_cons_succ, e7] at hh
            exact hh
          refine Rgn.AllOb.cons (j := 10) (by kernel_rfl) ?_ ?_
          · refine' Rgn.ob_body (fr := _) ?hf_a9 ?h1_a9 ?h2_a9 ?h3_a9 ?h_a9
            case hf_a9 => exact hfr
            case h1_a9 => kernel_rfl
            case h2_a9 => kernel_rfl
            case h3_a9 => rfl
            clear hfr
            intro z w1 hb hd ho K hK
            have e7 : ∃ (y : Value) (hi : Nat), (z 7) = .tuple #[y, .int .i64 C] ∧ FrOwn w1 V.heap.size hi y R ∧ hi ≤ w1.heap.size := hd.out 7 (by kernel_rfl)
            clear hd ho
            go_simp
            obtain ⟨v', hi, e7, F, hle⟩ := e7
            simp only [e7]
            go_simp
            have hh := hK.out (.int .i64 C) _ (Below.refl _ _) rfl
            simp only [Act.put, List.setIfInBounds_toArray, List.set_cons_zero, List.set_cons_succ, e7] at hh
            exact hh
          refine Rgn.AllOb.cons (j := 11) (by kernel_rfl) ?_ ?_
          · refine' Rgn.ob_body (fr := _) ?hf_a10 ?h1_a10 ?h2_a10 ?h3_a10 ?h_a10
            case hf_a10 => exact hfr
            case h1_a10 => kernel_rfl
            case h2_a10 => kernel_rfl
            case h3_a10 => rfl
            clear hfr
            intro z w1 hb hd ho K hK
            have e8 : ∃ (hi : Nat), FrOwn w1 V.heap.size hi (z 8) R ∧ hi ≤ w1.heap.size := hd.out 8 (by kernel_rfl)
            clear hd ho
            go_simp
            have hh := hK.out (z 8) _ (Below.refl _ _) e8
            simp only [Act.put, List.setIfInBounds_toArray, List.set_cons_zero, List.set_cons_succ] at hh
            exact hh
          refine Rgn.AllOb.cons (j := 12) (by kernel_rfl) ?_ ?_
          · refine' Rgn.ob_body (fr := _) ?hf_a11 ?h1_a11 ?h2_a11 ?h3_a11 ?h_a11
            case hf_a11 => exact hfr
            case h1_a11 => kernel_rfl
            case h2_a11 => kernel_rfl
            case h3_a11 => rfl
            clear hfr
            intro z w1 hb hd ho K hK
            have e9 : (z 9) = .int .i64 C := hd.out 9 (by kernel_rfl)
            clear hd ho
            go_simp
            have hh := hK.out (.int .i64 C) _ (Below.refl _ _) rfl
            simp only [Act.put, List.setIfInBounds_toArray, List.set_cons_zero, List.set_cons_succ, e9] at hh
            exact hh
          exact Rgn.AllOb.nil
        case hend_a =>
          intro hfr
          refine' Rgn.end_plain (fr := _) ?g1_a ?g2_a ?g3_a
          case g1_a => exact hfr
          case g2_a => kernel_rfl
          clear hfr
          intro z w4 b4 hf
          obtain ⟨h4, F4, l4⟩ : ∃ (hi : Nat), FrOwn w4 V.heap.size hi (z 10) R ∧ hi ≤ w4.heap.size := hf.out 10 (by decide)
          have e11 : z 11 = .int .i64 C := hf.out 11 (by decide)
          simp only [e11]
          generalize z 10 = r0 at *
          have B4 := below_wt BV.out b4
          have hS4 := hSV.out.keep b4 hSV.out.lt
          have zV := b4.size
          clear hf e11 b4 cS0 cS1
          obtain ⟨x0, x1⟩ := (⟨hS4.cell 0, hS4.cell 1⟩ : _ ∧ _)
          simp only [List.getElem?_toArray, List.getElem?_cons_zero, List.getElem?_cons_succ] at x0 x1
          go_wp2_with fail
          (with_reducible refine (m0.out _ B4).mono ?_)
          rintro e w5 ⟨p5, rfl, X5, b5⟩
          have B5 := below_wt B4 b5
          have z5 := b5.size
          replace F4 := F4.keep b5
          replace hS4 := hS4.keep b5 hS4.lt
          clear x0 x1 b5
          go_wp2_with fail
          (with_reducible refine (m1.out _ B5).mono ?_)
          rintro e w6 ⟨p6, rfl, Y6, b6⟩
          have B6 := below_wt B5 b6
          have z6 := b6.size
          replace F4 := F4.keep b6
          replace X5 := X5.keep b6
          replace hS4 := hS4.keep b6 hS4.lt
          obtain ⟨x0, x1⟩ := (⟨hS4.cell 0, hS4.cell 1⟩ : _ ∧ _)
          simp only [List.getElem?_toArray, List.getElem?_cons_zero, List.getElem?_cons_succ] at x0 x1
          clear b6
          go_wp2_with fail
          (with_reducible refine (toFraction_any sn sd w6).mono ?_)
          rintro e w7 ⟨rfl, b7⟩
          have B7 := below_wt B6 b7
          have z7 := b7.size
          replace F4 := F4.keep b7
          replace X5 := X5.keep b7
          replace Y6 := Y6.keep b7
          replace hS4 := hS4.keep b7 hS4.lt
          clear x0 x1 b7
          go_wp2_with fail
          (with_reducible refine (hi.out w7 _ _ X5.frl Y6.frl (htab'.out.keep B7)).mono ?_)
          rintro e w8 ⟨g8, rfl, G8, b8⟩
          have B8 := below_wt B7 b8
          have z8 := b8.size
          replace F4 := F4.keep b8
          replace X5 := X5.keep b8
          replace Y6 := Y6.keep b8
          replace hS4 := hS4.keep b8 hS4.lt
          clear b8
          go_wp2_with fail
          (with_reducible refine (eqFractionS_same _ _ R _ G8.frl F4.frl).mono ?_)
          rintro e w9 ⟨rfl, b9⟩
          have B9 := below_wt B8 b9
          have z9 := b9.size
          replace F4 := F4.keep b9
          replace X5 := X5.keep b9
          replace Y6 := Y6.keep b9
          replace G8 := G8.keep b9
          replace hS4 := hS4.keep b9 hS4.lt
          clear b9
          go_wp2_with fail
          (with_reducible refine (t0.out _ B9).mono ?_)
          rintro e w10 ⟨a10, c10, rfl, E10, b10⟩
          have B10 := below_wt B9 b10
          have z10 := b10.size
          replace F4 := F4.keep b10
          replace X5 := X5.keep b10
          replace Y6 := Y6.keep b10
          replace G8 := G8.keep b10
          replace hS4 := hS4.keep b10 hS4.lt
          clear b10
          go_wp2_with fail
          (with_reducible refine (eqFractionS_same _ _ p _ X5.frl E10).mono ?_)
          rintro e w11 ⟨rfl, b11⟩
          have B11 := below_wt B10 b11
          have z11 := b11.size
          replace F4 := F4.keep b11
          replace X5 := X5.keep b11
          replace Y6 := Y6.keep b11
          replace G8 := G8.keep b11
          replace hS4 := hS4.keep b11 hS4.lt
          clear b11 E10
          go_wp2_with fail
          (with_reducible refine (t1.out _ B11).mono ?_)
          rintro e w12 ⟨a12, c12, rfl, E12, b12⟩
          have B12 := below_wt B11 b12
          have z12 := b12.size
          replace F4 := F4.keep b12
          replace X5 := X5.keep b12
          replace Y6 := Y6.keep b12
          replace G8 := G8.keep b12
          replace hS4 := hS4.keep b12 hS4.lt
          clear b12
          go_wp2_with fail
          (with_reducible refine (eqFractionS_same _ _ q _ Y6.frl E12).mono ?_)
          rintro e w13 ⟨rfl, b13⟩
          have B13 := below_wt B12 b13
          have z13 := b13.size
          replace F4 := F4.keep b13
          replace X5 := X5.keep b13
          replace Y6 := Y6.keep b13
          replace G8 := G8.keep b13
          replace hS4 := hS4.keep b13 hS4.lt
          clear b13 E12
          have sB := BV.out.size
          have sS := hSV.out.lt
          go_wp2_with fail
          (with_reducible refine (mark1 _ p _ _ w13 X5 (by rw [hnp.out]; omega)).mono ?_)
          rintro e w14 ⟨rfl, X14, t14⟩
          obtain ⟨k1, hk1⟩ : ∃ k : Int, ((1 + np * 2 : Nat) : Int) = k := ⟨_, rfl⟩
          rw [hnp.out, hk1]
          have z14 := t14.size
          have B14 := B13.trans (t14.below' w.heap.size (by omega) B13.size)
          replace F4 := F4.untouched t14 (Or.inl (by omega))
          replace Y6 := Y6.untouched t14 (Or.inr (by omega))
          replace G8 := G8.untouched t14 (Or.inr (by omega))
          replace hS4 := hS4.touch t14 (Or.inl (by omega))
          clear t14 X14 X5
          have hmk2 := markFractionS_any _ q (1 + np * 2) _ _ w14 Y6 (by omega) (by rw [hnq.out]; omega)
          rw [hk1, hnq.out] at hmk2
          have hk : ¬ (((1 + np * 2 + nq * 2 : Nat) : Int) < 0) := by omega
          generalize ((1 + np * 2 + nq * 2 : Nat) : Int) = kk at hmk2 hk
          replace hmk2 := Lib.hid hmk2
          clear hk1
          go_wp2_with fail
          (with_reducible refine hmk2.out.mono ?_)
          rintro e w15 ⟨rfl, X15, t15⟩
          have z15 := t15.size
          have B15 := B14.trans (t15.below' w.heap.size (by omega) B14.size)
          replace F4 := F4.untouched t15 (Or.inl (by omega))
          replace G8 := G8.untouched t15 (Or.inr (by omega))
          replace hS4 := hS4.touch t15 (Or.inl (by omega))
          clear t15 X15 Y6 hmk2
          go_wp2_with fail
          (with_reducible refine (eqFractionS_same _ _ R _ G8.frl F4.frl).mono ?_)
          rintro e w16 ⟨rfl, b16⟩
          have B16 := below_wt B15 b16
          have z16 := b16.size
          replace F4 := F4.keep b16
          replace G8 := G8.keep b16
          replace hS4 := hS4.keep b16 hS4.lt
          clear b16
          have hRl : R.length ≤ 2097152 := G8.1
          go_wp2_with fail
          (with_reducible refine (mark1 _ R _ _ w16 G8 (by omega)).mono ?_)
          rintro e w17 ⟨rfl, G17, t17⟩
          have z17 := t17.size
          have B17 := B16.trans (t17.below' w.heap.size (by omega) B16.size)
          replace F4 := F4.untouched t17 (Or.inl (by omega))
          replace hS4 := hS4.touch t17 (Or.inl (by omega))
          clear t17 G8
          have hm : ¬ (((1 + R.length * 2 : Nat) : Int) < 0) := by omega
          obtain ⟨mk, hmk⟩ : ∃ k : Int, ((1 + R.length * 2 : Nat) : Int) = k := ⟨_, rfl⟩
          rw [hmk] at hm ⊢
          have hh1 := Lib.hid (fun W h => held1 g8 R.length W h (by omega))
          rw [hmk] at hh1
          clear hmk
          go_wp2_with fail
          (with_reducible refine (hh1.out _ G17.frl).mono ?_)
          rintro e U ⟨rfl, b18⟩
          replace F4 := Lib.hid (F4.keep b18)
          replace G17 := Lib.hid (G17.keep b18)
          have hSU := hS4.keep b18 hS4.lt
          have B18 := Lib.hid (below_wt B17 b18)
          have cS0 := Lib.hid (fun w1 (hb : Below U.heap.size U w1) => (show w1.cell? ⟨w.heap.size, 0, none⟩ = some (.string sn) from (hSU.keep hb hSU.lt).cell 0))
          have cS1 := Lib.hid (fun w1 (hb : Below U.heap.size U w1) => (show w1.cell? ⟨w.heap.size, 1, none⟩ = some (.string sd) from (hSU.keep hb hSU.lt).cell 1))
          clear b18 hS4 hSU B4 B5 B6 B7 B8 B9 B10 B11 B12 B13 B14 B15 B16 B17 z5 z6 z7 z8 z9 z10 z11 z12 z13 z14 z15 z16 z17 zV l4 sB hn3 BV hSV n1 n2
          go_upto_region 34 with fail
          refine' Rgn.region_by (fun _ => 0) 0 (fun _ => false) (fun i _ v w' => match i with
              | 0 => v = .slice va np vc
              | 1 => FrL w' v p
              | 2 => v = .slice ua nq uc
              | 3 => FrL w' v q
              | 4 => v = .agg #[.string sn, .string sd]
              | 5 => v = .agg #[.string sn, .string sd]
              | 6 => ∃ (y : Value) (hi : Nat), v = .tuple #[y, .int .i64 C] ∧ FrOwn w' U.heap.size hi y R ∧ hi ≤ w'.heap.size
              | 7 => ∃ (y : Value) (hi : Nat), v = .tuple #[y, .int .i64 C] ∧ FrOwn w' U.heap.size hi y R ∧ hi ≤ w'.heap.size
              | 8 => ∃ (hi : Nat), FrOwn w' U.heap.size hi v R ∧ hi ≤ w'.heap.size
              | 9 => v = .int .i64 C
              | 10 => ∃ (hi : Nat), FrOwn w' U.heap.size hi v R ∧ hi ≤ w'.heap.size
              | 11 => v = .int .i64 C
              | _ => True) (fun i _ v => match i with
              | 0 => v = .slice va np vc
              | 1 => True
              | 2 => v = .slice ua nq uc
              | 3 => True
              | 4 => v = .agg #[.string sn, .string sd]
              | 5 => True
              | 6 => True
              | 7 => True
              | 8 => True
              | 9 => True
              | 10 => True
              | 11 => v = .int .i64 C
              | _ => True)
              (fun _ _ _ => True) (by kernel_rfl) (by kernel_rfl) (by kernel_rfl) ?hst_b ?hG_b _ ?hfr_b ?hob_b ?hend_b
          case hfr_b =>
            intro z
            simp only [Rgn.fillAll, Act.put, List.setIfInBounds_toArray, List.set_cons_zero, List.set_cons_succ, Nat.reduceAdd, Nat.zero_add]
            exact rfl
          case hst_b =>
            intro i z v w1 w2 hi hb hx
            rcases i with _ | i
            · exact hx
            rcases i with _ | i
            · exact (fun v w1 w2 hb h => h.keep hb) v w1 w2 hb hx
            rcases i with _ | i
            · exact hx
            rcases i with _ | i
            · exact (fun v w1 w2 hb h => h.keep hb) v w1 w2 hb hx
            rcases i with _ | i
            · exact hx
            rcases i with _ | i
            · exact (fun v w1 w2 hb h => h) v w1 w2 hb hx
            rcases i with _ | i
            · exact (fun v w1 w2 hb h => h.elim fun v' h => h.elim fun hi h => ⟨v', hi, h.1, h.2.1.keep hb, Nat.le_trans h.2.2 hb.size⟩) v w1 w2 hb hx
            rcases i with _ | i
            · exact (fun v w1 w2 hb h => h.elim fun v' h => h.elim fun hi h => ⟨v', hi, h.1, h.2.1.keep hb, Nat.le_trans h.2.2 hb.size⟩) v w1 w2 hb hx
            rcases i with _ | i
            · exact (fun v w1 w2 hb h => h.elim fun hi h => ⟨hi, h.1.keep hb, Nat.le_trans h.2 hb.size⟩) v w1 w2 hb hx
            rcases i with _ | i
            · exact (fun v w1 w2 hb h => h) v w1 w2 hb hx
            rcases i with _ | i
            · exact (fun v w1 w2 hb h => h.elim fun hi h => ⟨hi, h.1.keep hb, Nat.le_trans h.2 hb.size⟩) v w1 w2 hb hx
            rcases i with _ | i
            · exact hx
            exact trivial
          case hG_b =>
            intro i z v w1 hi hx
            rcases i with _ | i
            · exact hx
            rcases i with _ | i
            · trivial
            rcases i with _ | i
            · exact hx
            rcases i with _ | i
            · trivial
            rcases i with _ | i
            · exact hx
            rcases i with _ | i
            · trivial
            rcases i with _ | i
            · trivial
            rcases i with _ | i
            · trivial
            rcases i with _ | i
            · trivial
            rcases i with _ | i
            · trivial
            rcases i with _ | i
            · trivial
            rcases i with _ | i
            · exact hx
            exact trivial
          case hob_b =>
            intro hfr
            refine Rgn.AllOb.cons (j := 1) (by kernel_rfl) ?_ ?_
            · refine' Rgn.ob_body (fr := _) ?hf_b0 ?h1_b0 ?h2_b0 ?h3_b0 ?h_b0
              case hf_b0 => exact hfr
              case h1_b0 => kernel_rfl
              case h2_b0 => kernel_rfl
              case h3_b0 => rfl
              clear hfr
              intro z w1 hb hd ho K hK
              clear hd ho
              go_simp
              have hh := hK.out (.slice va np vc) _ (Below.refl _ _) rfl
              simp only [Act.put, List.setIfInBounds_toArray, List.set_cons_zero, List.set_cons_succ] at hh
              exact hh
            refine Rgn.AllOb.cons (j := 2) (by kernel_rfl) ?_ ?_
            · refine' Rgn.ob_body (fr := _) ?hf_b1 ?h1_b1 ?h2_b1 ?h3_b1 ?h_b1
              case hf_b1 => exact hfr
              case h1_b1 => kernel_rfl
              case h2_b1 => kernel_rfl
              case h3_b1 => rfl
              clear hfr
              intro z w1 hb hd ho K hK
              have e0 : z 0 = .slice va np vc := hd.out 0 (by kernel_rfl)
              clear hd ho
              go_simp
              refine (t0.out w1 (below_wt B18.out hb)).mono ?_
              rintro e w2 ⟨a, cap, rfl, F, b⟩
              have hh := hK.out _ _ b F
              simp only [Act.put, List.setIfInBounds_toArray, List.set_cons_zero, List.set_cons_succ, e0] at hh
              exact hh
            refine Rgn.AllOb.cons (j := 3) (by kernel_rfl) ?_ ?_
            · refine' Rgn.ob_body (fr := _) ?hf_b2 ?h1_b2 ?h2_b2 ?h3_b2 ?h_b2
              case hf_b2 => exact hfr
              case h1_b2 => kernel_rfl
              case h2_b2 => kernel_rfl
              case h3_b2 => rfl
              clear hfr
              intro z w1 hb hd ho K hK
              clear hd ho
              go_simp
              have hh := hK.out (.slice ua nq uc) _ (Below.refl _ _) rfl
              simp only [Act.put, List.setIfInBounds_toArray, List.set_cons_zero, List.set_cons_succ] at hh
              exact hh
            refine Rgn.AllOb.cons (j := 4) (by kernel_rfl) ?_ ?_
            · refine' Rgn.ob_body (fr := _) ?hf_b3 ?h1_b3 ?h2_b3 ?h3_b3 ?h_b3
              case hf_b3 => exact hfr
              case h1_b3 => kernel_rfl
              case h2_b3 => kernel_rfl
              case h3_b3 => rfl
              clear hfr
              intro z w1 hb hd ho K hK
              have e2 : z 2 = .slice ua nq uc := hd.out 2 (by kernel_rfl)
              clear hd ho
              go_simp
              refine (t1.out w1 (below_wt B18.out hb)).mono ?_
              rintro e w2 ⟨a, cap, rfl, F, b⟩
              have hh := hK.out _ _ b F
              simp only [Act.put, List.setIfInBounds_toArray, List.set_cons_zero, List.set_cons_succ, e2] at hh
              exact hh
            refine Rgn.AllOb.cons (j := 5) (by kernel_rfl) ?_ ?_
            · refine' Rgn.ob_body (fr := _) ?hf_b4 ?h1_b4 ?h2_b4 ?h3_b4 ?h_b4
              case hf_b4 => exact hfr
              case h1_b4 => kernel_rfl
              case h2_b4 => kernel_rfl
              case h3_b4 => rfl
              clear hfr
              intro z w1 hb hd ho K hK
              clear hd ho
              have x0 := cS0.out w1 hb; have x1 := cS1.out w1 hb
              go_simp
              have hh := hK.out (.agg #[.string sn, .string sd]) _ (Below.refl _ _) rfl
              simp only [Act.put, List.setIfInBounds_toArray, List.set_cons_zero, List.set_cons_succ] at hh
              exact hh
            refine Rgn.AllOb.cons (j := 6) (by kernel_rfl) ?_ ?_
            · refine' Rgn.ob_body (fr := _) ?hf_b5 ?h1_b5 ?h2_b5 ?h3_b5 ?h_b5
              case hf_b5 => exact hfr
              case h1_b5 => kernel_rfl
              case h2_b5 => kernel_rfl
              case h3_b5 => rfl
              clear hfr
              intro z w1 hb hd ho K hK
              have e4 : z 4 = .agg #[.string sn, .string sd] := hd.out 4 (by kernel_rfl)
              clear hd ho
              go_simp
              refine (toFraction_any sn sd w1).mono ?_
              rintro e w2 ⟨rfl, b⟩
              have hh := hK.out _ _ b rfl
              simp only [Act.put, List.setIfInBounds_toArray, List.set_cons_zero, List.set_cons_succ, e4] at hh
              exact hh
            refine Rgn.AllOb.cons (j := 7) (by kernel_rfl) ?_ ?_
            · refine' Rgn.ob_body (fr := _) ?hf_b6 ?h1_b6 ?h2_b6 ?h3_b6 ?h_b6
              case hf_b6 => exact hfr
              case h1_b6 => kernel_rfl
              case h2_b6 => kernel_rfl
              case h3_b6 => rfl
              clear hfr
              intro z w1 hb hd ho K hK
              have e1 : FrL w1 (z 1) p := hd.out 1 (by kernel_rfl)
              have e3 : FrL w1 (z 3) q := hd.out 3 (by kernel_rfl)
              have e5 : (z 5) = .agg #[.string sn, .string sd] := hd.out 5 (by kernel_rfl)
              clear hd ho
              go_simp
              refine (hi.out w1 _ _ e1 e3 (htab'.out.keep (below_wt B18.out hb))).mono ?_
              rintro e w2 ⟨v', rfl, F, b⟩
              have hh := hK.out _ _ b ⟨v', _, rfl, F.wide hb.size (Nat.le_refl _), Nat.le_refl _⟩
              simp only [Act.put, List.setIfInBounds_toArray, List.set_cons_zero, List.set_cons_succ, e5] at hh
              exact hh
            refine Rgn.AllOb.cons (j := 8) (by kernel_rfl) ?_ ?_
            · refine' Rgn.ob_body (fr := _) ?hf_b7 ?h1_b7 ?h2_b7 ?h3_b7 ?h_b7
              case hf_b7 => exact hfr
              case h1_b7 => kernel_rfl
              case h2_b7 => kernel_rfl
              case h3_b7 => rfl
              clear hfr
              intro z w1 hb hd ho K hK
              have e6 : ∃ (y : Value) (hi : Nat), (z 6) = .tuple #[y, .int .i64 C] ∧ FrOwn w1 U.heap.size hi y R ∧ hi ≤ w1.heap.size := hd.out 6 (by kernel_rfl)
              clear hd ho
              go_simp
              have hh := hK.out (z 6) _ (Below.refl _ _) e6
              simp only [Act.put, List.setIfInBounds_toArray, List.set_cons_zero, List.set_cons_succ] at hh
              exact hh
            refine Rgn.AllOb.cons (j := 9) (by kernel_rfl) ?_ ?_
            · refine' Rgn.ob_body (fr := _) ?hf_b8 ?h1_b8 ?h2_b8 ?h3_b8 ?h_b8
              case hf_b8 => exact hfr
              case h1_b8 => kernel_rfl
              case h2_b8 => kernel_rfl
              case h3_b8 => rfl
              clear hfr
              intro z w1 hb hd ho K hK
              have e7 : ∃ (y : Value) (hi : Nat), (z 7) = .tuple #[y, .int .i64 C] ∧ FrOwn w1 U.heap.size hi y R ∧ hi ≤ w1.heap.size := hd.out 7 (by kernel_rfl)
              clear hd ho
              go_simp
              obtain ⟨v', hi, e7, F, hle⟩ := e7
              simp only [e7]
              go_simp
              have hh := hK.out v' _ (Below.refl _ _) ⟨hi, F, hle⟩
              simp only [Act.put, List.setIfInBounds_toArray, List.set_cons_zero, List.set_cons_succ, e7] at hh
              exact hh
            refine Rgn.AllOb.cons (j := 10) (by kernel_rfl) ?_ ?_
            · refine' Rgn.ob_body (fr := _) ?hf_b9 ?h1_b9 ?h2_b9 ?h3_b9 ?h_b9
              case hf_b9 => exact hfr
              case h1_b9 => kernel_rfl
              case h2_b9 => kernel_rfl
              case h3_b9 => rfl
              clear hfr
              intro z w1 hb hd ho K hK
              have e7 : ∃ (y : Value) (hi : Nat), (z 7) = .tuple #[y, .int .i64 C] ∧ FrOwn w1 U.heap.size hi y R ∧ hi ≤ w1.heap.size := hd.out 7 (by kernel_rfl)
              clear hd ho
              go_simp
              obtain ⟨v', hi, e7, F, hle⟩ := e7
              simp only [e7]
              go_simp
              have hh := hK.out (.int .i64 C) _ (Below.refl _ _) rfl
              simp only [Act.put, List.setIfInBounds_toArray, List.set_cons_zero, List.set_cons_succ, e7] at hh
              exact hh
            refine Rgn.AllOb.cons (j := 11) (by kernel_rfl) ?_ ?_
            · refine' Rgn.ob_body (fr := _) ?hf_b10 ?h1_b10 ?h2_b10 ?h3_b10 ?h_b10
              case hf_b10 => exact hfr
              case h1_b10 => kernel_rfl
              case h2_b10 => kernel_rfl
              case h3_b10 => rfl
              clear hfr
              intro z w1 hb hd ho K hK
              have e8 : ∃ (hi : Nat), FrOwn w1 U.heap.size hi (z 8) R ∧ hi ≤ w1.heap.size := hd.out 8 (by kernel_rfl)
              clear hd ho
              go_simp
              have hh := hK.out (z 8) _ (Below.refl _ _) e8
              simp only [Act.put, List.setIfInBounds_toArray, List.set_cons_zero, List.set_cons_succ] at hh
              exact hh
            refine Rgn.AllOb.cons (j := 12) (by kernel_rfl) ?_ ?_
            · refine' Rgn.ob_body (fr := _) ?hf_b11 ?h1_b11 ?h2_b11 ?h3_b11 ?h_b11
              case hf_b11 => exact hfr
              case h1_b11 => kernel_rfl
              case h2_b11 => kernel_rfl
              case h3_b11 => rfl
              clear hfr
              intro z w1 hb hd ho K hK
              have e9 : (z 9) = .int .i64 C := hd.out 9 (by kernel_rfl)
              clear hd ho
              go_simp
              have hh := hK.out (.int .i64 C) _ (Below.refl _ _) rfl
              simp only [Act.put, List.setIfInBounds_toArray, List.set_cons_zero, List.set_cons_succ, e9] at hh
              exact hh
            exact Rgn.AllOb.nil
          case hend_b =>
            intro hfr
            refine' Rgn.end_plain (fr := _) ?g1_b ?g2_b ?g3_b
            case g1_b => exact hfr
            case g2_b => kernel_rfl
            clear hfr
            intro z w20 b20 hf
            obtain ⟨h20, F20, l20⟩ : ∃ (hi : Nat), FrOwn w20 U.heap.size hi (z 10) R ∧ hi ≤ w20.heap.size := hf.out 10 (by decide)
            have e11 : z 11 = .int .i64 C := hf.out 11 (by decide)
            simp only [e11]
            generalize z 10 = r20 at *
            have B20 := below_wt B18.out b20
            have G20 := G17.out.keep b20
            have F4' := F4.out.keep b20
            clear hf e11 b20 cS0 cS1 G17 F4
            go_wp2_with fail
            (with_reducible refine (eqFractionS_same _ _ R _ F20.frl F4'.frl).mono ?_)
            rintro e w21 ⟨rfl, b21⟩
            have B21 := below_wt B20 b21
            replace G20 := G20.keep b21
            clear b21 F20 F4'
            go_wp2_with fail
            (with_reducible refine (hh1.out _ G20.frl).mono ?_)
            rintro e w22 ⟨rfl, b22⟩
            have B22 := below_wt B21 b22
            clear b22
            go_wp2
            go_ret
            exact ⟨rfl, B22⟩

set_option maxRecDepth 100000 in
theorem lifted (os : Os) (started : os.Started) (H : Type) (enc : TypeId × Value → H) :
    ReturnsInHanded {} Tryz.checked os 5 .any (fun w args => (Rows.fnExactMixSpreadsSpec.pre enc Tryz.prog Tryz.f5 [] false w args ∧ laidMetH Tryz.prog laidL w) ∧ sizedMet enc Tryz.prog Tryz.f5 (OpenSpec.ofChange Rows.fnExactMixSpreadsSpec) false w args)
      (Rows.fnExactMixSpreadsSpec.post enc Tryz.prog Tryz.f5 false true false false) := by
  refine returnsInHanded_of_change_and (C := Tryz.checked) (X := fun w _ => laidMetH Tryz.prog laidL w) (fun _ _ _ hh h => h.of_heap hh) own started (by kernel_rfl) Tryz.func5
    (ChangeSpec.witness_shaped (enc := enc) (C := Tryz.checked) (os := os) (X := fun w _ => laidMetH Tryz.prog laidL w) false (World.doorLaid Tryz.prog 400 os) #[.slice none 0 0, .slice none 0 0, .agg #[.string .empty, .string .empty]] 8 rfl (World.shaped_of_RefB (by kernel_rfl) (by kernel_rfl)) (by kernel_rfl) (by kernel_rfl) (by kernel_rfl) (door_met os _)) ?_
  intro W base args ds gs before hval0 hW _ _ hL _
  have htab : Tab10 W := tab10_of hL
  have hval : ∀ (j : Nat) t v, Tryz.f5.params[j]? = some t → args[j]? = some v → Value.okWide Tryz.prog W .any base t v := hval0
  have hW' := hW
  obtain ⟨p, q, hA0, hV, rfl, hfz, hnd⟩ := hW
  have hA : DataW.TrodAll enc Tryz.prog W 0 (fun _ => true) true Tryz.f5.params.toList args.toList ds p := hA0
  rw [Tryz.params5] at hA hval
  obtain ⟨v0, vs0, d0, ds0, p0, q0, hargs, rfl, rfl, h0, r0⟩ := trodAll_cons hA
  obtain ⟨v1, vs1, d1, ds1, p1, q1, rfl, rfl, rfl, h1, r1⟩ := trodAll_cons r0
  obtain ⟨v2, vs2, d2, ds2, p2, q2, rfl, rfl, rfl, h2, r2⟩ := trodAll_cons r1
  obtain ⟨rfl, rfl, rfl⟩ := trodAll_nil r2
  obtain rfl : args = #[v0, v1, v2] := by cases args; simp_all
  obtain ⟨rfl, rfl⟩ := trodVars_none hV
  have k0 := h0
  have lt0 : ∀ x ∈ p0, x.block < W.heap.size := by obtain ⟨m, hm⟩ := k0; exact DataW.trod_lt m _ _ _ hm
  obtain ⟨c0, w0⟩ := open_fracs (hval 0 44 v0 rfl rfl) h0
  have k1 := h1
  have lt1 : ∀ x ∈ p1, x.block < W.heap.size := by obtain ⟨m, hm⟩ := k1; exact DataW.trod_lt m _ _ _ hm
  obtain ⟨c1, w1⟩ := open_fracs (hval 1 44 v1 rfl rfl) h1
  have k2 := h2
  have lt2 : ∀ x ∈ p2, x.block < W.heap.size := by obtain ⟨m, hm⟩ := k2; exact DataW.trod_lt m _ _ _ hm
  obtain ⟨c2, w2⟩ := open_frac (hval 2 45 v2 rfl rfl) h2
  clear hA0 hval0
  refine (walk htab v0 c0 w0 v1 c1 w1 v2 c2 w2).mono fun e W' ⟨he, bel⟩ => ?_
  subst he
  exact ⟨_, rfl, _, _, _, [], _, [], hW', trodAll_mk1 (shut_bool Tryz.underlying4 _), (trodAll_cons_mk (Below.trod laidOut (by kernel_rfl) (of_decide_eq_true (by kernel_rfl)) k0 bel lt0) (trodAll_cons_mk (Below.trod laidOut (by kernel_rfl) (of_decide_eq_true (by kernel_rfl)) k1 bel lt1) (trodAll_cons_mk (Below.trod laidOut (by kernel_rfl) (of_decide_eq_true (by kernel_rfl)) k2 bel lt2) trodAll_mk0))), rfl, bel.frame _, fun h => by cases h⟩

theorem over : Rows.FnExactMixSpreadsSaid :=
  OpenClaim.holds_of_wide 5 Tryz.f5 rfl rfl rfl rfl rfl rfl rfl ⟨rfl, rfl, rfl, rfl, rfl⟩ rfl rfl rfl rfl rfl (by kernel_rfl) Tryz.func5 (by kernel_rfl)
    (of_decide_eq_true (by kernel_rfl)) (by unfold Func.isWrapper; first | (rw [if_pos (by decide +kernel)]; kernel_rfl) | (rw [if_neg (by decide +kernel)]; exact ⟨rfl, rfl⟩))
    (fun os started H enc _ => lifted os started H enc)

/-- the statement: the tied card -/
theorem proved : Rows.FnExactMixSpreadsCardSaid :=
  Claim7.holds_tied_plain_at .later [] [.data, .data, .data] true (true, "45f2684c3a7f54e46425a959a6a4822fb9a02b91778fd407763758523c5094de") false
    over (fun _ h => by cases h) (by kernel_rfl) (fun _ h => by cases h) fnExactMixSpreads_row_tie rfl ⟨rfl, rfl⟩ (by kernel_rfl) rfl
    (fun f fn hf hfn => by
      obtain rfl : f = 5 := Option.some.inj ((show Tryz.prog.funcNamed "loop.example/g01118/laws.FnExactMixSpreads" = some 5 by kernel_rfl).symm.trans hf) |>.symm
      obtain rfl : fn = Tryz.f5 := (Option.some.inj (Tryz.func5.symm.trans hfn)).symm
      exact ⟨by kernel_rfl, fun j t ht => by
        rw [Tryz.params5] at ht
        have hm : t ∈ [44, 44, 45] := by simpa using Array.mem_of_getElem? ht
        have hall : ([44, 44, 45].all fun u => !Tryz.prog.wantsStandIn u) = true := by kernel_rfl
        exact (show Tryz.prog.wantsStandIn t = false by simpa using List.all_eq_true.1 hall t hm)⟩)
    (by kernel_rfl)
end Go.Proofs.YtcbpbhaimjhelaaGreatDoor.fnExactMixSpreads
