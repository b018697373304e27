/- StH: several texts in one (StS, SurS). Conditions: told in each. -/
import Derived.Test.YtiddhnnofpbopaaStG
import Derived.Test.YtiddhnnofpbopaaVec
import Derived.Test.YtiddhnnofpbopaaChainH
/- A step of the specification's vector of chances. Conditions: at most 1000 states, weights up to 3600, numbers of at most 100000 digits. -/
namespace Go.Proofs.Ytiddhnnofpbopaa
open Go.RowKit Go.Deep
set_option linter.unusedVariables false
set_option linter.unusedSimpArgs false

theorem RowL.setBoxS {w : World} {a : Option Addr} {n c : Nat} {l : List Nat} (h : RowL LongS w (.slice a n c) l) {b : Nat} {a1 a2 : Option Addr} {l1 c1 l2 c2 : Nat} {t : TypeId} (hB : Blk w b #[.slice a1 l1 c1, .slice a2 l2 c2] t)
    (hne : ∀ g o, a = some ⟨g, o, none⟩ → g ≠ b) (j : Nat) (u : Value) : RowL LongS (w.setCell ⟨b, j, none⟩ u) (.slice a n c) l := by
  obtain ⟨a', cap, hv, hc⟩ := h
  injection hv with e1 e2 e3
  subst e1 e2 e3
  refine ⟨_, _, rfl, fun i hi => ?_⟩
  obtain ⟨g', off, x, ha, hx, h1⟩ := hc i hi
  have := hne g' off ha
  exact ⟨g', off, x, ha, by rw [World.cell?_setCell_other _ _ _ _ (fun e => by injection e with e1 _ _; omega)]; exact hx, LongS.setBox h1 hB j u⟩

end Go.Proofs.Ytiddhnnofpbopaa

/- The vector of one state (the specification's). Conditions: at most 1000 states. -/
namespace Go.Proofs.Ytiddhnnofpbopaa
open Go.RowKit Go.Deep
set_option linter.unusedVariables false
set_option linter.unusedSimpArgs false

theorem l00Max_max (x y : Int) (w : World) : Calls Try.prog 42 #[.int .i64 x, .int .i64 y] w fun e w' => e = .returned (.int .i64 (max x y)) ∧ w = w' := by
  go_enter Try.func42, Try.ntmps42
  by_cases h : y < x
  · have hq := Lib.hid (show max x y = x by omega)
    go_wp2
    go_ret
    exact ⟨ret_int hq.out.symm, rfl⟩
  · have hq := Lib.hid (show max x y = y by omega)
    go_wp2
    go_ret
    exact ⟨ret_int hq.out.symm, rfl⟩
theorem cut_one (a : Value) (d : Nat) (w : World) (ha : Ints w a (nats [d])) (hd : d < B9) :
    Calls Try.prog 40 #[a] w fun e w' => ∃ v, e = .returned v ∧ LongS w' v d ∧ Below w.heap.size w w' := by
  have h := l01Cut_any a [d] w ha (by simpa using hd)
  rw [show val B9 [d] = d by simp [val]] at h
  refine h.mono ?_
  rintro e w' ⟨⟨v, rfl, hv⟩, k, rfl⟩
  have b := below_drewN (Below.refl w.heap.size w) k
  exact ⟨v, rfl, hv.keep b, b⟩
/-- the numbers of one state -/
def sureN (n s : Nat) : List Nat := (List.replicate n 0).set s 1
theorem sureN_length (n s : Nat) : (sureN n s).length = n := by simp [sureN]
theorem sureN_get (n s i : Nat) (h : i < n) : (sureN n s).getD i 0 = if i = s then 1 else 0 := by
  unfold sureN
  by_cases e : s = i
  · subst e; simp [List.getD, h]
  · have e' : ¬ i = s := fun h => e h.symm
    simp [List.getD, e, e', h]
theorem sureN_take (n s k : Nat) (h : k < n) : (sureN n s).take (k + 1) = (sureN n s).take k ++ [if k = s then 1 else 0] := by
  rw [List.take_add_one, List.getElem?_eq_getElem (by rw [sureN_length]; exact h)]
  have := sureN_get n s k h
  simp only [List.getD, List.getElem?_eq_getElem (show k < (sureN n s).length by rw [sureN_length]; exact h), Option.getD_some] at this
  rw [this]; rfl
theorem delta_eq (k s : Nat) (d q : Int) (hd : (k : Int) - (s : Int) = d) (hq : d * d = q) : min 1 (max 0 (1 - q)) = ((if k = s then 1 else 0 : Nat) : Int) := by
  by_cases e : k = s
  · subst e
    obtain rfl : d = 0 := by omega
    have : q = 0 := by omega
    subst this; rw [if_pos rfl]; decide
  · rw [if_neg e]
    have h1 : 1 ≤ q := by
      rw [← hq]
      rcases Int.lt_or_gt_of_ne (show d ≠ 0 by omega) with h | h
      · have := Int.mul_le_mul (show (1 : Int) ≤ -d by omega) (show (1 : Int) ≤ -d by omega) (by omega) (by omega)
        rw [Int.neg_mul_neg] at this
        simpa using this
      · have := Int.mul_le_mul (show (1 : Int) ≤ d by omega) (show (1 : Int) ≤ d by omega) (by omega) (by omega)
        simpa using this
    simp; omega
theorem sq_bound (d : Int) (h1 : -1000 ≤ d) (h2 : d ≤ 1000) : 0 ≤ d * d ∧ d * d ≤ 1000000 := by
  refine ⟨by rcases Int.le_total 0 d with h | h
             · exact Int.mul_nonneg h h
             · have := Int.mul_nonneg (show 0 ≤ -d by omega) (show 0 ≤ -d by omega); rwa [Int.neg_mul_neg] at this, ?_⟩
  rcases Int.le_total 0 d with h | h
  · have := Int.mul_le_mul h2 h2 h (by omega); simpa using this
  · have := Int.mul_le_mul (show -d ≤ 1000 by omega) (show -d ≤ 1000 by omega) (by omega) (by omega)
    rw [Int.neg_mul_neg] at this; simpa using this

set_option maxRecDepth 100000 in
set_option maxHeartbeats 4000000 in
theorem l01Sure_any (n s : Nat) (w : World) (hn : n ≤ 1000) (hs : s ≤ 1000) :
    Calls Try.prog 18 #[.int .i64 (n : Int), .int .i64 (s : Int)] w fun e w' => ∃ a c dv', e = .returned (.agg #[.slice a n c, dv']) ∧ RowL LongS w' (.slice a n c) (sureN n s) ∧ LongS w' dv' 1 ∧ Below w.heap.size w w' := by
  have b1 := below1 w (.cells #[.slice none 0 0, .slice none 0 0] 44)
  have hR := Blk.new w #[.slice none 0 0, .slice none 0 0] 44
  have h1 := one_long1 (w.alloc (.cells #[.slice none 0 0, .slice none 0 0] 44))
  have b2 := below1 (w.alloc (.cells #[.slice none 0 0, .slice none 0 0] 44)) (.cells #[.int .i64 1] 2)
  have b3 := below1 ((w.alloc (.cells #[.slice none 0 0, .slice none 0 0] 44)).alloc (.cells #[.int .i64 1] 2)) (.cells #[.slice none 0 0, .slice (some ⟨w.heap.size + 1, 0, none⟩) 1 1] 44)
  have hO := Blk.new ((w.alloc (.cells #[.slice none 0 0, .slice none 0 0] 44)).alloc (.cells #[.int .i64 1] 2)) #[.slice none 0 0, .slice (some ⟨w.heap.size + 1, 0, none⟩) 1 1] 44
  have h13 := h1.keep b3
  have b12 := below_wt b1 b2
  have hR2 := hR.keep b2 hR.lt
  simp only [World.size_alloc] at hO h13
  have hvec := Lib.hid (show VecAt _ (w.heap.size + 1 + 1) ((sureN n s).take 0) none 0 (.slice (some ⟨w.heap.size + 1, 0, none⟩) 1 1) 1 from ⟨hO, MadeL.nil _ _ _, h13⟩)
  have hR' := Lib.hid hR2
  have b12' := Lib.hid b12
  have b3' := Lib.hid b3
  have hOV := Lib.hid (show ((w.alloc (.cells #[.slice none 0 0, .slice none 0 0] 44)).alloc (.cells #[.int .i64 1] 2)).heap.size ≤ w.heap.size + 1 + 1 by simp only [World.size_alloc]; exact Nat.le_refl _)
  have hBO := Lib.hid (show w.heap.size < w.heap.size + 1 + 1 by omega)
  have hkl0 := Lib.hid (fun k (h : k ≤ n) => (show ((sureN n s).take k).length = k by rw [List.length_take, sureN_length]; omega))
  have hnx := Lib.hid (fun k (h : k < n) => sureN_take n s k h)
  clear hR hR2 b1 h1 b2 b3 hO h13 b12
  go_enter Try.func18, Try.ntmps18
  go_wp2_with fail
  generalize hV : (w.alloc (.cells #[.slice none 0 0, .slice none 0 0] 44)).alloc (.cells #[.int .i64 1] 2) = V at *
  generalize w.heap.size + 1 + 1 = O at *
  clear hV
  go_loopw [6] (fun i wr => ∃ (k : Nat) (na : Option Addr) (nc2 : Nat) (da2 : Option Addr) (dl2 dc2 : Nat), k ≤ n ∧ i = .int .i64 (k : Int) ∧ Hid (VecAt wr O ((sureN n s).take k) na nc2 (.slice da2 dl2 dc2) 1) ∧ Hid (Below V.heap.size V wr)) (fun i _ => n - (intOf i).toNat)
  case atStart => exact ⟨0, _, _, _, _, _, Nat.zero_le _, rfl, hvec, b3'⟩
  case round =>
    clear hvec b3'
    obtain ⟨k, na, nc2, da2, dl2, dc2, hk, rfl, hvec, bV⟩ := hrel
    by_cases hlt : k < n
    · have i1 : (k : Int) < (n : Int) := by omega
      have hlt' := Lib.hid hlt
      have hRl := Lib.hid (hkl0.out k hk)
      have hnxk := Lib.hid (hnx.out k hlt)
      obtain ⟨d, hd0⟩ : ∃ d : Int, (k : Int) - (s : Int) = d := ⟨_, rfl⟩
      have hdb : -1000 ≤ d ∧ d ≤ 1000 := by omega
      obtain ⟨q, hq0⟩ : ∃ q : Int, d * d = q := ⟨_, rfl⟩
      have hqb := sq_bound d hdb.1 hdb.2
      rw [hq0] at hqb
      obtain ⟨hqb1, hqb2⟩ := hqb
      obtain ⟨δ, hδe⟩ : ∃ x : Nat, (if k = s then 1 else 0) = x := ⟨_, rfl⟩
      have hδ := Lib.hid (show min 1 (max 0 (1 - q)) = (δ : Int) by rw [delta_eq k s d q hd0 hq0, hδe])
      have hδ9 : δ < B9 := by rw [← hδe]; split <;> decide
      rw [hδe] at hnxk
      replace hd0 := Lib.hid hd0
      replace hq0 := Lib.hid hq0
      generalize (sureN n s).take k = R at *
      have cO0 := Lib.hid (fun w1 (hb : Below wr.heap.size wr w1) => (show w1.cell? ⟨O, 0, none⟩ = some (.slice na k nc2) from by have := (hvec.out.keep hb).1.cell 0; rw [hRl.out] at this; exact this))
      clear hlt hδe hdb
      go_upto_region 5 with fail
      refine' Rgn.region_by (fun i => match i with | 15 => 1 | 16 => 2 | 17 => 3 | _ => 0) 3 (fun _ => false) (fun i _ v w' => match i with
          | 0 => v = .pointer (some ⟨O, 0, none⟩)
          | 1 => v = .slice na k nc2
          | 2 => v = .int .i64 (k : Int)
          | 3 => v = .int .i64 (s : Int)
          | 4 => v = .int .i64 d
          | 5 => v = .int .i64 (k : Int)
          | 6 => v = .int .i64 (s : Int)
          | 7 => v = .int .i64 d
          | 8 => v = .int .i64 q
          | 9 => v = .int .i64 (1 - q)
          | 10 => v = .int .i64 (max 0 (1 - q))
          | 11 => v = .int .i64 (δ : Int)
          | 12 => Ints w' v (nats [δ])
          | 13 => LongS w' v (δ)
          | 14 => ∃ b p, v = .slice (some ⟨b, 0, none⟩) 1 1 ∧ Blk w' b #[p] 42 ∧ LongS w' p (δ)
          | _ => True) (fun i _ v => match i with
          | 0 => v = .pointer (some ⟨O, 0, none⟩)
          | 1 => v = .slice na k nc2
          | 2 => v = .int .i64 (k : Int)
          | 3 => v = .int .i64 (s : Int)
          | 4 => v = .int .i64 d
          | 5 => v = .int .i64 (k : Int)
          | 6 => v = .int .i64 (s : Int)
          | 7 => v = .int .i64 d
          | 8 => v = .int .i64 q
          | 9 => v = .int .i64 (1 - q)
          | 10 => True
          | 11 => True
          | 12 => True
          | 13 => True
          | 14 => True
          | _ => True)
          (fun p z w' => ∃ g cap, z 15 = .slice (some ⟨g, 0, none⟩) (k + 1) cap ∧ (p ≤ 2 → Blk w' O #[.slice na k nc2, .slice da2 dl2 dc2] 44 ∧ MadeL LongS 42 w' (O + 1) (.slice (some ⟨g, 0, none⟩) (k + 1) cap) (R ++ [δ]) ∧ LongS w' (.slice da2 dl2 dc2) 1 ∧ O + 1 ≤ g) ∧ (p = 2 → z 16 = .pointer (some ⟨O, 0, none⟩)) ∧ (p = 3 → VecAt w' O (R ++ [δ]) (some ⟨g, 0, none⟩) cap (.slice da2 dl2 dc2) 1) ∧ Below V.heap.size V w') (by kernel_rfl) (by kernel_rfl) (by kernel_rfl) ?hst_c ?hG_c _ ?hfr_c ?hob_c ?hend_c
      case hfr_c =>
        intro z
        simp only [Rgn.fillAll, Act.put, List.setIfInBounds_toArray, List.set_cons_zero, List.set_cons_succ, Nat.reduceAdd, Nat.zero_add]
        exact rfl
      case hst_c =>
        intro i z v w1 w2 hi hb hx
        rcases i with _ | i
        · exact hx
        rcases i with _ | i
        · exact hx
        rcases i with _ | i
        · exact hx
        rcases i with _ | i
        · exact hx
        rcases i with _ | i
        · exact hx
        rcases i with _ | i
        · exact hx
        rcases i with _ | i
        · exact hx
        rcases i with _ | i
        · exact hx
        rcases i with _ | i
        · exact hx
        rcases i with _ | i
        · exact hx
        rcases i with _ | i
        · exact (fun v w1 w2 hb h => h) v w1 w2 hb hx
        rcases i with _ | i
        · exact (fun v w1 w2 hb h => h) v w1 w2 hb hx
        rcases i with _ | i
        · exact (fun v w1 w2 hb h => h.keep hb) v w1 w2 hb hx
        rcases i with _ | i
        · exact (fun v w1 w2 hb h => h.keep hb) v w1 w2 hb hx
        rcases i with _ | i
        · exact (fun v w1 w2 hb h => h.elim fun b h => h.elim fun p h => ⟨b, p, h.1, h.2.1.step hb, h.2.2.keep hb⟩) v w1 w2 hb hx
        rcases i with _ | i
        · exact trivial
        rcases i with _ | i
        · exact trivial
        rcases i with _ | i
        · exact trivial
        exact trivial
      case hG_c =>
        intro i z v w1 hi hx
        rcases i with _ | i
        · exact hx
        rcases i with _ | i
        · exact hx
        rcases i with _ | i
        · exact hx
        rcases i with _ | i
        · exact hx
        rcases i with _ | i
        · exact hx
        rcases i with _ | i
        · exact hx
        rcases i with _ | i
        · exact hx
        rcases i with _ | i
        · exact hx
        rcases i with _ | i
        · exact hx
        rcases i with _ | i
        · exact hx
        rcases i with _ | i
        · trivial
        rcases i with _ | i
        · trivial
        rcases i with _ | i
        · trivial
        rcases i with _ | i
        · trivial
        rcases i with _ | i
        · trivial
        rcases i with _ | i
        · exact trivial
        rcases i with _ | i
        · exact trivial
        rcases i with _ | i
        · exact trivial
        exact trivial
      case hob_c =>
        intro hfr
        refine Rgn.AllOb.cons (j := 1) (by kernel_rfl) ?_ ?_
        · refine' Rgn.ob_body (fr := _) ?hf_c0 ?h1_c0 ?h2_c0 ?h3_c0 ?h_c0
          case hf_c0 => exact hfr
          case h1_c0 => kernel_rfl
          case h2_c0 => kernel_rfl
          case h3_c0 => rfl
          clear hfr
          intro z w1 hb hd ho K hK
          clear hd ho
          go_simp
          have hh := hK.out (.pointer (some ⟨O, 0, none⟩)) _ (Below.refl _ _) rfl
          simp only [Act.put, List.setIfInBounds_toArray, List.set_cons_zero, List.set_cons_succ] at hh
          exact hh
        refine Rgn.AllOb.cons (j := 2) (by kernel_rfl) ?_ ?_
        · refine' Rgn.ob_body (fr := _) ?hf_c1 ?h1_c1 ?h2_c1 ?h3_c1 ?h_c1
          case hf_c1 => exact hfr
          case h1_c1 => kernel_rfl
          case h2_c1 => kernel_rfl
          case h3_c1 => rfl
          clear hfr
          intro z w1 hb hd ho K hK
          have e0 : z 0 = .pointer (some ⟨O, 0, none⟩) := hd.out 0 (by kernel_rfl)
          clear hd ho
          have x0 := cO0.out w1 hb
          go_simp
          have hh := hK.out (.slice na k nc2) _ (Below.refl _ _) rfl
          simp only [Act.put, List.setIfInBounds_toArray, List.set_cons_zero, List.set_cons_succ, e0] at hh
          exact hh
        refine Rgn.AllOb.cons (j := 3) (by kernel_rfl) ?_ ?_
        · refine' Rgn.ob_body (fr := _) ?hf_c2 ?h1_c2 ?h2_c2 ?h3_c2 ?h_c2
          case hf_c2 => exact hfr
          case h1_c2 => kernel_rfl
          case h2_c2 => kernel_rfl
          case h3_c2 => rfl
          clear hfr
          intro z w1 hb hd ho K hK
          clear hd ho
          go_simp
          have hh := hK.out (.int .i64 (k : Int)) _ (Below.refl _ _) rfl
          simp only [Act.put, List.setIfInBounds_toArray, List.set_cons_zero, List.set_cons_succ] at hh
          exact hh
        refine Rgn.AllOb.cons (j := 4) (by kernel_rfl) ?_ ?_
        · refine' Rgn.ob_body (fr := _) ?hf_c3 ?h1_c3 ?h2_c3 ?h3_c3 ?h_c3
          case hf_c3 => exact hfr
          case h1_c3 => kernel_rfl
          case h2_c3 => kernel_rfl
          case h3_c3 => rfl
          clear hfr
          intro z w1 hb hd ho K hK
          clear hd ho
          go_simp
          have hh := hK.out (.int .i64 (s : Int)) _ (Below.refl _ _) rfl
          simp only [Act.put, List.setIfInBounds_toArray, List.set_cons_zero, List.set_cons_succ] at hh
          exact hh
        refine Rgn.AllOb.cons (j := 5) (by kernel_rfl) ?_ ?_
        · refine' Rgn.ob_body (fr := _) ?hf_c4 ?h1_c4 ?h2_c4 ?h3_c4 ?h_c4
          case hf_c4 => exact hfr
          case h1_c4 => kernel_rfl
          case h2_c4 => kernel_rfl
          case h3_c4 => rfl
          clear hfr
          intro z w1 hb hd ho K hK
          have e2 : z 2 = .int .i64 (k : Int) := hd.out 2 (by kernel_rfl)
          have e3 : z 3 = .int .i64 (s : Int) := hd.out 3 (by kernel_rfl)
          clear hd ho
          have hwp : IntKind.i64.wrap ((k : Int) - (s : Int)) = d := by rw [IntWalk.i64_in _ (by omega)]; exact hd0.out
          go_simp
          have hh := hK.out (.int .i64 d) _ (Below.refl _ _) rfl
          simp only [Act.put, List.setIfInBounds_toArray, List.set_cons_zero, List.set_cons_succ, e2, e3] at hh
          exact hh
        refine Rgn.AllOb.cons (j := 6) (by kernel_rfl) ?_ ?_
        · refine' Rgn.ob_body (fr := _) ?hf_c5 ?h1_c5 ?h2_c5 ?h3_c5 ?h_c5
          case hf_c5 => exact hfr
          case h1_c5 => kernel_rfl
          case h2_c5 => kernel_rfl
          case h3_c5 => rfl
          clear hfr
          intro z w1 hb hd ho K hK
          clear hd ho
          go_simp
          have hh := hK.out (.int .i64 (k : Int)) _ (Below.refl _ _) rfl
          simp only [Act.put, List.setIfInBounds_toArray, List.set_cons_zero, List.set_cons_succ] at hh
          exact hh
        refine Rgn.AllOb.cons (j := 7) (by kernel_rfl) ?_ ?_
        · refine' Rgn.ob_body (fr := _) ?hf_c6 ?h1_c6 ?h2_c6 ?h3_c6 ?h_c6
          case hf_c6 => exact hfr
          case h1_c6 => kernel_rfl
          case h2_c6 => kernel_rfl
          case h3_c6 => rfl
          clear hfr
          intro z w1 hb hd ho K hK
          clear hd ho
          go_simp
          have hh := hK.out (.int .i64 (s : Int)) _ (Below.refl _ _) rfl
          simp only [Act.put, List.setIfInBounds_toArray, List.set_cons_zero, List.set_cons_succ] at hh
          exact hh
        refine Rgn.AllOb.cons (j := 8) (by kernel_rfl) ?_ ?_
        · refine' Rgn.ob_body (fr := _) ?hf_c7 ?h1_c7 ?h2_c7 ?h3_c7 ?h_c7
          case hf_c7 => exact hfr
          case h1_c7 => kernel_rfl
          case h2_c7 => kernel_rfl
          case h3_c7 => rfl
          clear hfr
          intro z w1 hb hd ho K hK
          have e5 : z 5 = .int .i64 (k : Int) := hd.out 5 (by kernel_rfl)
          have e6 : z 6 = .int .i64 (s : Int) := hd.out 6 (by kernel_rfl)
          clear hd ho
          have hwp : IntKind.i64.wrap ((k : Int) - (s : Int)) = d := by rw [IntWalk.i64_in _ (by omega)]; exact hd0.out
          go_simp
          have hh := hK.out (.int .i64 d) _ (Below.refl _ _) rfl
          simp only [Act.put, List.setIfInBounds_toArray, List.set_cons_zero, List.set_cons_succ, e5, e6] at hh
          exact hh
        refine Rgn.AllOb.cons (j := 9) (by kernel_rfl) ?_ ?_
        · refine' Rgn.ob_body (fr := _) ?hf_c8 ?h1_c8 ?h2_c8 ?h3_c8 ?h_c8
          case hf_c8 => exact hfr
          case h1_c8 => kernel_rfl
          case h2_c8 => kernel_rfl
          case h3_c8 => rfl
          clear hfr
          intro z w1 hb hd ho K hK
          have e4 : z 4 = .int .i64 d := hd.out 4 (by kernel_rfl)
          have e7 : z 7 = .int .i64 d := hd.out 7 (by kernel_rfl)
          clear hd ho
          have hqe := hq0.out; have hwp : IntKind.i64.wrap q = q := IntWalk.i64_in _ (by omega)
          go_simp
          have hh := hK.out (.int .i64 q) _ (Below.refl _ _) rfl
          simp only [Act.put, List.setIfInBounds_toArray, List.set_cons_zero, List.set_cons_succ, e4, e7] at hh
          exact hh
        refine Rgn.AllOb.cons (j := 10) (by kernel_rfl) ?_ ?_
        · refine' Rgn.ob_body (fr := _) ?hf_c9 ?h1_c9 ?h2_c9 ?h3_c9 ?h_c9
          case hf_c9 => exact hfr
          case h1_c9 => kernel_rfl
          case h2_c9 => kernel_rfl
          case h3_c9 => rfl
          clear hfr
          intro z w1 hb hd ho K hK
          have e8 : z 8 = .int .i64 q := hd.out 8 (by kernel_rfl)
          clear hd ho
          have hwp : IntKind.i64.wrap (1 - q) = 1 - q := IntWalk.i64_in _ (by omega)
          go_simp
          have hh := hK.out (.int .i64 (1 - q)) _ (Below.refl _ _) rfl
          simp only [Act.put, List.setIfInBounds_toArray, List.set_cons_zero, List.set_cons_succ, e8] at hh
          exact hh
        refine Rgn.AllOb.cons (j := 11) (by kernel_rfl) ?_ ?_
        · refine' Rgn.ob_body (fr := _) ?hf_c10 ?h1_c10 ?h2_c10 ?h3_c10 ?h_c10
          case hf_c10 => exact hfr
          case h1_c10 => kernel_rfl
          case h2_c10 => kernel_rfl
          case h3_c10 => rfl
          clear hfr
          intro z w1 hb hd ho K hK
          have e9 : z 9 = .int .i64 (1 - q) := hd.out 9 (by kernel_rfl)
          clear hd ho
          go_simp
          refine (l00Max_max 0 (1 - q) w1).mono ?_
          rintro e w2 ⟨rfl, rfl⟩
          have hh := hK.out _ _ (Below.refl _ _) rfl
          simp only [Act.put, List.setIfInBounds_toArray, List.set_cons_zero, List.set_cons_succ, e9] at hh
          exact hh
        refine Rgn.AllOb.cons (j := 12) (by kernel_rfl) ?_ ?_
        · refine' Rgn.ob_body (fr := _) ?hf_c11 ?h1_c11 ?h2_c11 ?h3_c11 ?h_c11
          case hf_c11 => exact hfr
          case h1_c11 => kernel_rfl
          case h2_c11 => kernel_rfl
          case h3_c11 => rfl
          clear hfr
          intro z w1 hb hd ho K hK
          have e10 : (z 10) = .int .i64 (max 0 (1 - q)) := hd.out 10 (by kernel_rfl)
          clear hd ho
          go_simp
          refine (l00Min_any 1 (max 0 (1 - q)) w1).mono ?_
          rintro e w2 ⟨rfl, rfl⟩
          rw [hδ.out]
          have hh := hK.out _ _ (Below.refl _ _) rfl
          simp only [Act.put, List.setIfInBounds_toArray, List.set_cons_zero, List.set_cons_succ, e10] at hh
          exact hh
        refine Rgn.AllOb.cons (j := 13) (by kernel_rfl) ?_ ?_
        · refine' Rgn.ob_body (fr := _) ?hf_c12 ?h1_c12 ?h2_c12 ?h3_c12 ?h_c12
          case hf_c12 => exact hfr
          case h1_c12 => kernel_rfl
          case h2_c12 => kernel_rfl
          case h3_c12 => rfl
          clear hfr
          intro z w1 hb hd ho K hK
          have e11 : (z 11) = .int .i64 (δ : Int) := hd.out 11 (by kernel_rfl)
          clear hd ho
          go_simp
          have hh := hK.out (.slice (some ⟨w1.heap.size, 0, none⟩) 1 1) _ (below1 _ (.cells #[.int .i64 (δ : Int)] 2)) (one_ints w1 δ)
          simp only [Act.put, List.setIfInBounds_toArray, List.set_cons_zero, List.set_cons_succ, e11] at hh
          exact hh
        refine Rgn.AllOb.cons (j := 14) (by kernel_rfl) ?_ ?_
        · refine' Rgn.ob_body (fr := _) ?hf_c13 ?h1_c13 ?h2_c13 ?h3_c13 ?h_c13
          case hf_c13 => exact hfr
          case h1_c13 => kernel_rfl
          case h2_c13 => kernel_rfl
          case h3_c13 => rfl
          clear hfr
          intro z w1 hb hd ho K hK
          have e12 : Ints w1 (z 12) (nats [δ]) := hd.out 12 (by kernel_rfl)
          clear hd ho
          go_simp
          refine (cut_one _ δ w1 e12 hδ9).mono ?_
          rintro e w2 ⟨r, rfl, hr, b⟩
          have hh := hK.out _ _ b hr
          simp only [Act.put, List.setIfInBounds_toArray, List.set_cons_zero, List.set_cons_succ] at hh
          exact hh
        refine Rgn.AllOb.cons (j := 15) (by kernel_rfl) ?_ ?_
        · refine' Rgn.ob_body (fr := _) ?hf_c14 ?h1_c14 ?h2_c14 ?h3_c14 ?h_c14
          case hf_c14 => exact hfr
          case h1_c14 => kernel_rfl
          case h2_c14 => kernel_rfl
          case h3_c14 => rfl
          clear hfr
          intro z w1 hb hd ho K hK
          have e13 : LongS w1 (z 13) (δ) := hd.out 13 (by kernel_rfl)
          clear hd ho
          go_simp
          obtain ⟨_, pa', pc', e3a⟩ := e13.len
          rw [e3a] at e13
          simp only [e3a]
          go_simp
          have hh := hK.out (.slice (some ⟨w1.heap.size, 0, none⟩) 1 1) _ (below1 _ (.cells #[.slice pa' (dlen B9 δ) pc'] 42)) ⟨_, _, rfl, Blk.new _ _ _, e13.keep (below1 _ _)⟩
          simp only [Act.put, List.setIfInBounds_toArray, List.set_cons_zero, List.set_cons_succ, e3a] at hh
          exact hh
        refine Rgn.AllOb.cons (j := 16) (by kernel_rfl) ?_ ?_
        · refine' Rgn.ob_tail0 (fr := _) ?hf_c15 ?h1_c15 ?h3_c15 ?h_c15
          case hf_c15 => exact hfr
          case h1_c15 => kernel_rfl
          case h3_c15 => rfl
          clear hfr
          intro z w1 hb hf hd ho K hK
          have e1 : z 1 = .slice na k nc2 := hd.out 1 rfl (by kernel_rfl)
          obtain ⟨b, p, e4, hXb, hp⟩ : ∃ b p, z 14 = .slice (some ⟨b, 0, none⟩) 1 1 ∧ Blk w1 b #[p] 42 ∧ LongS w1 p (δ) := hf.out 14 (by decide) rfl rfl
          have hVw := hvec.out.keep hb
          refine wp_append_long (ops := #[]) rfl _ _ rfl O (.slice na k nc2) R (by have := hVw.2.1; rw [hRl.out] at this; exact this) (by simp [Act.eval, e1]) b 1 p _ (by simp [Act.eval, e4]) hXb hp (by rw [hRl.out]; omega) (by have := hVw.1.lt; omega) ?_
          intro g cap w2 hM hg b2 hkeep
          rw [hRl.out] at hM ⊢
          have hh := hK.out (.slice (some ⟨g, 0, none⟩) (k + 1) cap) _ ⟨g, cap, rfl, fun _ => ⟨by have := hVw.1.keep b2 (Nat.lt_succ_self O); rw [hRl.out] at this; exact this, hM, hkeep _ _ hVw.2.2, hg⟩, (fun h => absurd h (by decide)), (fun h => absurd h (by decide)), (below_wt bV.out hb).trans (b2.mono (by have := hOV.out; omega))⟩
          exact hh
        refine Rgn.AllOb.cons (j := 17) (by kernel_rfl) ?_ ?_
        · refine' Rgn.ob_tail (fr := _) ?hf_c16 ?h1_c16 ?h3_c16 ?hp_c16 ?h4_c16 ?h_c16
          case hp_c16 => exact 1
          case hf_c16 => exact hfr
          case h1_c16 => kernel_rfl
          case h3_c16 => rfl
          case h4_c16 => kernel_rfl
          clear hfr
          intro z w1 hT hd ho K hK
          obtain ⟨g, cap, e5, h1, _, _, bb⟩ := hT
          have h1' := h1 (by decide)
          replace e5 : z 15 = .slice (some ⟨g, 0, none⟩) (k + 1) cap := e5
          clear hd ho h1
          go_simp
          have hh := hK.out (.pointer (some ⟨O, 0, none⟩)) _ ⟨g, cap, e5, fun _ => h1', fun _ => rfl, (fun h => absurd h (by decide)), bb⟩
          simp only [Act.put, List.setIfInBounds_toArray, List.set_cons_zero, List.set_cons_succ, e5] at hh
          first | exact hh | (simp only [e5]; exact hh)
        refine Rgn.AllOb.cons (j := 18) (by kernel_rfl) ?_ ?_
        · refine' Rgn.ob_tail (fr := _) ?hf_c17 ?h1_c17 ?h3_c17 ?hp_c17 ?h4_c17 ?h_c17
          case hp_c17 => exact 2
          case hf_c17 => exact hfr
          case h1_c17 => kernel_rfl
          case h3_c17 => rfl
          case h4_c17 => kernel_rfl
          clear hfr
          intro z w1 hT hd ho K hK
          obtain ⟨g, cap, e5, h1, h8, _, bb⟩ := hT
          obtain ⟨hX, hM, hD, hg⟩ := h1 (by decide)
          replace e5 : z 15 = .slice (some ⟨g, 0, none⟩) (k + 1) cap := e5
          have e6 : z 16 = .pointer (some ⟨O, 0, none⟩) := h8 rfl
          have y0 := hX.cell 0
          have f0 := hX.frozen 0
          simp only [List.getElem?_toArray, List.getElem?_cons_zero] at y0
          clear hd ho h1 h8
          go_simp
          have hst := VecAt.store (R := R) (by rw [hRl.out]; exact hX) (by rw [hRl.out]; exact hM) hg hD
          rw [hRl.out] at hst
          have hh := hK.out undef _ ⟨g, cap, e5, (fun h => absurd h (by decide)), (fun h => absurd h (by decide)), fun _ => hst, bb.setCell (p := ⟨O, 0, none⟩) hOV.out _⟩
          simp only [Act.put, List.setIfInBounds_toArray, List.set_cons_zero, List.set_cons_succ, e5, e6] at hh
          exact hh
        exact Rgn.AllOb.nil
      case hend_c =>
        intro hfr
        refine' Rgn.end_tails (fr := _) ?g1_c ?g2_c ?g3_c
        case g1_c => exact hfr
        case g2_c => rfl
        clear hfr
        intro z w7 hT hg
        obtain ⟨g, cap, e5, _, _, hv3, bb⟩ := hT
        have hvn := Lib.hid (hv3 rfl)
        have bb' := Lib.hid bb
        rw [← hnxk.out] at hvn
        clear hv3 hg bb hvec cO0 bV
        go_wp2
        go_roundw
        case rel => exact ⟨k + 1, _, _, _, _, _, by have := hlt'.out; omega, by go_num, hvn, bb'⟩
        case measure => have := hlt'.out; simp [intOf]; omega
    · obtain rfl : n = k := by omega
      have hnn : ¬ (n : Int) < (n : Int) := by omega
      have hall : (sureN n s).take n = sureN n s := by
        have := List.take_length (l := sureN n s)
        rwa [sureN_length] at this
      rw [hall] at hvec
      have hRr := hR'.out.keep bV.out hR'.out.lt
      have hO1 := hvec.out.1
      rw [sureN_length] at hO1
      obtain ⟨o0, o1⟩ := (⟨hO1.cell 0, hO1.cell 1⟩ : _ ∧ _)
      obtain ⟨r0, r1⟩ := (⟨hRr.cell 0, hRr.cell 1⟩ : _ ∧ _)
      have f0 := hRr.frozen 0
      have f1 := hRr.frozen 1
      simp only [List.getElem?_toArray, List.getElem?_cons_zero, List.getElem?_cons_succ] at o0 o1 r0 r1
      have hrow0 := hvec.out.2.1.done
      have hown : ∀ g o, na = some ⟨g, o, none⟩ → w.heap.size < g := by
        obtain ⟨xs, how, _⟩ := hvec.out.2.1
        intro g o e
        subst e
        rcases how.2 with ⟨h, _⟩ | ⟨g', c', cur, h, hg', _⟩
        · cases h
        · injection h with h _ _
          injection h with h
          injection h with h _ _
          have := hBO.out
          omega
      rw [sureN_length] at hrow0
      have hfA := Lib.hid ((hrow0.setBoxS hRr (fun g o e => Nat.ne_of_gt (hown g o e)) 0 (.slice na n nc2)).setBoxS (hRr.set 0 _) (fun g o e => Nat.ne_of_gt (hown g o e)) 1 (.slice da2 dl2 dc2))
      have hfD := Lib.hid ((hvec.out.2.2.setBox hRr 0 (.slice na n nc2)).setBox (hRr.set 0 _) 1 (.slice da2 dl2 dc2))
      have hfB := Lib.hid (((below_wt b12'.out bV.out).setCell (p := ⟨w.heap.size, 0, none⟩) (Nat.le_refl _) (.slice na n nc2)).setCell (p := ⟨w.heap.size, 1, none⟩) (Nat.le_refl _) (.slice da2 dl2 dc2))
      clear hvec hRr hO1 hrow0 hown hall bV hlt
      go_wp2
      refine bodyPost_ret (v := .agg #[.slice na n nc2, .slice da2 dl2 dc2]) (by simp [results, Try.results18, go_sem, r0, r1]) rfl ?_
      exact ⟨_, _, _, rfl, hfA.out, hfD.out, hfB.out⟩
end Go.Proofs.Ytiddhnnofpbopaa
