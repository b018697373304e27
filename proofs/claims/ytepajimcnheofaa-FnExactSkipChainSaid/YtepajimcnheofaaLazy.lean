/- LazyChain of the project and of the specification: both return 'lazyOf'. Conditions: none on the chain beyond what is read. -/
import Derived.Test.YtepajimcnheofaaStay
import Derived.Test.YtepajimcnheofaaOpen
namespace Go.Proofs.Ytepajimcnheofaa
open Go.RowKit Go.Deep
set_option linter.unusedVariables false

def lazyOf (c : Ch) : Ch × Int := if chOk c = true then lim (mixCh c (stayCh c.n 1)) else (zeroCh, 1)
def lazyF (c : Ch) (s j : Nat) : Int := if s = j then (c.w.getD s []).getD j 0 + c.t else (c.w.getD s []).getD j 0

theorem rowsOf_getD (n : Nat) (f : Nat → Nat → Int) (s j : Nat) (hs : s < n) (hj : j < n) : ((rowsOf n f).getD s []).getD j 0 = f s j := by
  simp [rowsOf, List.getD, hs, hj]
theorem sum_stay (n s : Nat) (t : Int) (hs : s < n) : ((List.range n).map fun j => stayF t s j).sum = t := by
  induction n with
  | zero => omega
  | succ n ih =>
    rw [List.range_succ, List.map_append, List.sum_append]
    by_cases h : s < n
    · rw [ih h]; simp [stayF]; omega
    · obtain rfl : s = n := by omega
      have : (List.range s).map (fun j => stayF t s j) = (List.range s).map fun _ => (0 : Int) := by
        apply List.map_congr_left
        intro j hj
        simp at hj
        simp [stayF]; omega
      rw [this]
      have z : ∀ k : Nat, ((List.range k).map fun _ => (0 : Int)).sum = 0 := by
        intro k; induction k with
        | zero => rfl
        | succ k ih => rw [List.range_succ, List.map_append, List.sum_append, ih]; rfl
      rw [z]; simp [stayF]
theorem stay_ok (n t : Int) (h1 : 1 ≤ n) (h6 : n ≤ 6) (t1 : 1 ≤ t) (t60 : t ≤ 60) : chOk (stayCh n t) = true := by
  simp only [chOk, stayCh, Bool.and_eq_true, decide_eq_true_eq, List.all_eq_true, inB_iff, rowsOf_length]
  refine ⟨⟨h1, h6⟩, ⟨t1, t60⟩, by omega, fun r hr => ?_⟩
  simp only [rowsOf, List.mem_map, List.mem_range] at hr
  obtain ⟨s, hs, rfl⟩ := hr
  have key : okRow (n.toNat : Nat) t ((List.range n.toNat).map fun j => stayF t s j) = true := by
    refine okRow_of (by simp) (fun x hx => ?_) (sum_stay _ _ _ hs)
    simp only [List.mem_map, List.mem_range] at hx
    obtain ⟨j, hj, rfl⟩ := hx
    simp only [stayF]; split <;> omega
  have e : ((n.toNat : Nat) : Int) = n := by omega
  rw [e] at key
  exact key
theorem lazy_mix {c : Ch} (oc : chOk c = true) : mixCh c (stayCh c.n 1) = ⟨c.n, 2 * c.t, rowsOf c.n.toNat (lazyF c)⟩ := by
  obtain ⟨n1, n2, t1, t2, hlen, hrows⟩ := chOk_all oc
  unfold mixCh
  simp only [stayCh, Int.mul_one, Ch.mk.injEq, true_and]
  unfold rowsOf
  apply List.map_congr_left
  intro s hs
  apply List.map_congr_left
  intro j hj
  simp only [List.mem_range] at hs hj
  simp only [mixF, lazyF]
  have e := rowsOf_getD c.n.toNat (stayF 1) s j hs hj
  unfold rowsOf at e
  rw [e]
  simp only [stayF, Int.mul_one]
  split <;> omega

set_option maxHeartbeats 4000000 in
theorem LazyChain_spec (cv : Value) (c : Ch) (w : World) (hc : ChR w cv c) :
    Calls Try.prog 22 #[cv] w fun e w' => ∃ rv, e = .returned (.tuple #[rv, .int .i64 (lazyOf c).2]) ∧ ChOwn 37 2 w' w.heap.size w'.heap.size rv (lazyOf c).1 ∧ Below w.heap.size w w' := by
  obtain ⟨a, cap, rfl⟩ := hc.shape
  have B0 := below2 w (.cells #[.int .i64 c.n, .int .i64 c.t, .slice a c.w.length cap] 26) (.cells #[.int .i64 0, .int .i64 0, .slice none 0 0] 26)
  have hB := (Blk.new w #[.int .i64 c.n, .int .i64 c.t, .slice a c.w.length cap] 26).alloc (.cells #[.int .i64 0, .int .i64 0, .slice none 0 0] 26)
  have hZ := Blk.new (w.alloc (.cells #[.int .i64 c.n, .int .i64 c.t, .slice a c.w.length cap] 26)) #[.int .i64 0, .int .i64 0, .slice none 0 0] 26
  simp only [World.size_alloc] at hZ
  have Kc := hc.keep B0
  have Pc : ChP ((w.alloc (.cells #[.int .i64 c.n, .int .i64 c.t, .slice a c.w.length cap] 26)).alloc (.cells #[.int .i64 0, .int .i64 0, .slice none 0 0] 26)) w.heap.size c := ⟨_, hB.cell 0, hB.cell 1, hB.cell 2, Kc.rows⟩
  by_cases oc : chOk c = true
  · have hr := Lib.hid (show lazyOf c = lim (mixCh c (stayCh c.n 1)) by simp [lazyOf, oc])
    obtain ⟨n1, n2, t1, t2, -, -⟩ := chOk_all oc
    obtain ⟨N, hN⟩ : ∃ N : Nat, c.n = N := ⟨c.n.toNat, by omega⟩
    have hN' := Lib.hid hN
    have os := stay_ok c.n 1 n1 n2 (by omega) (by omega)
    have hs := l01Stay_any N 1
    rw [← hN] at hs
    have hst := Lib.hid (show (⟨c.n, 1, rowsOf N (stayF 1)⟩ : Ch) = stayCh c.n 1 by simp [stayCh, hN])
    clear hN
    go_enter Try.func22, Try.ntmps22
    go_wp2_with fail
    refine (l01Ok_any _ c _ Pc).mono ?_
    rintro e w1 ⟨rfl, m, rfl⟩
    have bm := below_drewN (Below.refl ((w.alloc (.cells #[.int .i64 c.n, .int .i64 c.t, .slice a c.w.length cap] 26)).alloc (.cells #[.int .i64 0, .int .i64 0, .slice none 0 0] 26)).heap.size ((w.alloc (.cells #[.int .i64 c.n, .int .i64 c.t, .slice a c.w.length cap] 26)).alloc (.cells #[.int .i64 0, .int .i64 0, .slice none 0 0] 26))) m
    have hZ1 : Blk _ _ _ _ := hZ.keep bm hZ.lt
    have hB1 : Blk _ _ _ _ := hB.keep bm hB.lt
    have Kc1 := Kc.keep bm
    have BB := below_wt B0 bm
    clear B0 bm
    obtain ⟨w1, hw1⟩ : ∃ w1, (((w.alloc (.cells #[.int .i64 c.n, .int .i64 c.t, .slice a c.w.length cap] 26)).alloc (.cells #[.int .i64 0, .int .i64 0, .slice none 0 0] 26)).drewN m) = w1 := ⟨_, rfl⟩
    rw [hw1] at hZ1 hB1 Kc1 BB ⊢
    clear hw1 hZ hB Kc Pc
    obtain ⟨q0, q1, q2⟩ := hB1.three
    go_wp2_with fail
    refine (hs w1 (by have := hN'.out; omega) (by have := hN'.out; omega)).mono ?_
    rintro e w2 ⟨sv, rfl, own, b2⟩
    rw [hst.out] at own
    clear q0 q1 q2
    obtain ⟨sa, sac, rfl⟩ := own.shape
    have S := own.mine
    have hsz := b2.size
    have hl := hB1.lt
    have b3 := below1 w2 (.cells #[.int .i64 (stayCh c.n 1).n, .int .i64 (stayCh c.n 1).t, .slice sa (stayCh c.n 1).w.length sac] 26)
    have hS := Blk.new w2 #[.int .i64 (stayCh c.n 1).n, .int .i64 (stayCh c.n 1).t, .slice sa (stayCh c.n 1).w.length sac] 26
    have hZ3 := (hZ1.step b2).step b3
    have hB3 := (hB1.step b2).step b3
    have Kc3 := (Kc1.keep b2).keep b3
    have S3 := S.step b3
    have BB3 := below_wt (below_wt BB b2) b3
    go_upto_region 4 with fail
    obtain ⟨w3, hw3⟩ : ∃ w3, (w2.alloc (.cells #[.int .i64 (stayCh c.n 1).n, .int .i64 (stayCh c.n 1).t, .slice sa (stayCh c.n 1).w.length sac] 26)) = w3 := ⟨_, rfl⟩
    rw [hw3] at hS hZ3 hB3 Kc3 S3 BB3 ⊢
    clear hw3 hZ1 hB1 Kc1 S b3
    have Pc : ChP w3 w.heap.size c := ⟨_, hB3.cell 0, hB3.cell 1, hB3.cell 2, Kc3.rows⟩
    have Ps : ChP w3 w2.heap.size (stayCh c.n 1) := ⟨_, hS.cell 0, hS.cell 1, hS.cell 2, S3.ch.rows⟩
    have hst0 : (stayCh c.n 1).n = c.n := rfl
    have hmx := l01Mixed_any w.heap.size w2.heap.size c (stayCh c.n 1) w3 Pc Ps oc os hst0.symm
    clear hst0
    go_wp2_with fail
    refine hmx.mono ?_
    rintro e w4 ⟨mv, rfl, own4, b4⟩
    have hZ4 := hZ3.step b4
    go_wp2_with fail
    refine (l01Made_any mv _ _ _ _ own4 (Nat.le_refl _)).mono ?_
    rintro e w5 ⟨rv, rfl, chr, b5⟩
    have hZ5 := hZ4.step b5
    have BB5 := below_wt (below_wt BB3 b4) b5
    have hsz5 := b5.size
    have hsz4 := b4.size
    have hlt3 := hS.lt
    generalize lim (mixCh c (stayCh c.n 1)) = r at chr hr
    obtain ⟨rc, rk⟩ := r
    simp only at chr
    obtain ⟨ra, rcap, rfl⟩ := chr.shape
    have g0 := hZ5.cell 0
    have g1 := hZ5.cell 1
    have g2 := hZ5.cell 2
    have f0 := hZ5.frozen 0
    have f1 := hZ5.frozen 1
    have f2 := hZ5.frozen 2
    simp at g0 g1 g2
    go_wp2
    refine bodyPost_ret (v := .tuple #[.agg #[.int .i64 rc.n, .int .i64 rc.t, .slice ra rc.w.length rcap], .int .i64 rk]) (by simp [results, Try.results22, go_sem, g0, g1, g2]) rfl ?_
    rw [hr.out]
    refine ⟨_, rfl, (chr.same ((((SameOn.refl _ _ _).set (Or.inl ?_) _).set (Or.inl ?_) _).set (Or.inl ?_) _)).wide ?_ ?_, ((BB5.setCell ?_ _).setCell ?_ _).setCell ?_ _⟩
    all_goals first | omega | (simp only; omega) | (simp [World.setCell]; done) | (simp [World.setCell]; omega)
  · have oc' : chOk c = false := by simpa using oc
    have hr := Lib.hid (show lazyOf c = (zeroCh, 1) by simp [lazyOf, oc'])
    clear oc
    go_enter Try.func22, Try.ntmps22
    go_wp2_with fail
    refine (l01Ok_any _ c _ Pc).mono ?_
    rintro e w1 ⟨rfl, m, rfl⟩
    have hZ1 : Blk _ _ _ _ := hZ.keep (below_drewN (Below.refl _ _) m) hZ.lt
    go_wp2
    refine bodyPost_ret (v := .tuple #[.agg #[.int .i64 0, .int .i64 0, .slice none 0 0], .int .i64 1]) (by simp [results, Try.results22, go_sem]) rfl ?_
    rw [hr.out]
    refine ⟨_, rfl, zero_own _ _ _, (((below_drewN B0 m).setCell ?_ _).setCell ?_ _).setCell ?_ _⟩
    all_goals (simp only; omega)

set_option maxHeartbeats 4000000 in
theorem lazyF_any (b : Nat) (c : Ch) (s j : Nat) (w : World) (hc : ChP w b c) (oc : chOk c = true) (hs : (s : Int) < c.n) (hj : (j : Int) < c.n) :
    Calls Try.prog 66 #[.int .i64 s, .int .i64 j, .pointer (some ⟨b, 0, none⟩)] w fun e w' => e = .returned (.int .i64 (lazyF c s j)) ∧ ∃ m, w' = w.drewN m := by
  obtain ⟨n1, n2, t1, t2, hlen, hrows⟩ := chOk_all oc
  obtain ⟨vc, c0, c1, c2, Rc⟩ := hc
  have ks : s < c.w.length := by omega
  obtain ⟨xb, xo, xcap, xr, rfl, _, hxc⟩ := Rc.at (by omega)
  obtain ⟨xcell, xrow⟩ := hxc s ks
  obtain ⟨p1, p2, _⟩ := okRow_all (hrows _ (getD_mem (d := []) ks))
  have hm := Lib.hid (show lazyF c s j = if s = j then (c.w.getD s []).getD j 0 + c.t else (c.w.getD s []).getD j 0 from rfl)
  have g1 : (s : Int) < (c.w.length : Int) := by omega
  clear hxc hrows hlen Rc oc
  generalize c.w.getD s [] = rowc at *
  generalize xr s = xv at *
  obtain ⟨qb, qo, qcap, rfl, _, qc⟩ := xrow.at (by omega)
  have e1 := qc j (by omega)
  have e3 := p2 _ (getD_mem (d := 0) (show j < rowc.length by omega))
  have g3 : (j : Int) < (rowc.length : Int) := by omega
  clear qc p2 p1 xrow
  generalize rowc.getD j 0 = x at *
  obtain ⟨x0, x1⟩ := e3
  have z1 : IntKind.i64.wrap (x + c.t) = x + c.t := wrap_id (by omega)
  by_cases h : s = j
  · have hb : ((s : Int) == (j : Int)) = true := beq_iff_eq.2 (by omega)
    have hm2 := Lib.hid (show lazyF c s j = x + c.t by rw [hm.out, if_pos h])
    clear hm h
    go_enter Try.func66, Try.ntmps66
    go_wp2
    go_quiet (fail)
    go_wp2
    go_ret
    exact ⟨ret_int hm2.out.symm, _, rfl⟩
  · have hb : ((s : Int) == (j : Int)) = false := beq_eq_false_iff_ne.2 (by omega)
    have hm2 := Lib.hid (show lazyF c s j = x by rw [hm.out, if_neg h])
    clear hm h
    go_enter Try.func66, Try.ntmps66
    go_wp2
    go_ret
    exact ⟨ret_int hm2.out.symm, 0, rfl⟩

theorem cf_lazy : ∀ args w, (callFunc 66 args).run Try.prog w = .ok (.enter 66 args) w := fun _ _ => by go_simp

set_option maxHeartbeats 8000000 in
theorem LazyChain_impl (cv : Value) (c : Ch) (w : World) (hc : ChR w cv c) :
    Calls Try.prog 23 #[cv] w fun e w' => ∃ rv, e = .returned (.tuple #[rv, .int .i64 (lazyOf c).2]) ∧ ChOwn 37 2 w' w.heap.size w'.heap.size rv (lazyOf c).1 ∧ Below w.heap.size w w' := by
  obtain ⟨a, cap, rfl⟩ := hc.shape
  have B0 := below2 w (.cells #[.int .i64 c.n, .int .i64 c.t, .slice a c.w.length cap] 26) (.cells #[.int .i64 0, .int .i64 0, .slice none 0 0] 26)
  have hB := (Blk.new w #[.int .i64 c.n, .int .i64 c.t, .slice a c.w.length cap] 26).alloc (.cells #[.int .i64 0, .int .i64 0, .slice none 0 0] 26)
  have hZ := Blk.new (w.alloc (.cells #[.int .i64 c.n, .int .i64 c.t, .slice a c.w.length cap] 26)) #[.int .i64 0, .int .i64 0, .slice none 0 0] 26
  simp only [World.size_alloc] at hZ
  have Kc := hc.keep B0
  by_cases oc : chOk c = true
  · obtain ⟨n1, n2, t1, t2, hlen, hrows⟩ := chOk_all oc
    have os := stay_ok c.n 1 n1 n2 (by omega) (by omega)
    have hml := mix_lim oc os rfl
    rw [lazy_mix oc] at hml
    have h1 : (stayCh c.n 1).t = 1 := rfl
    rw [h1, Int.mul_one] at hml
    have hlz : lazyOf c = if 60 < 2 * c.t then (zeroCh, 3) else (⟨c.n, 2 * c.t, rowsOf c.n.toNat (lazyF c)⟩, 0) := by rw [← hml]; simp only [lazyOf, oc, if_true, lazy_mix oc]
    clear hlen hrows hml h1 os
    have hlz' := Lib.hid hlz
    clear hlz
    go_enter Try.func23, Try.ntmps23
    go_wp2_with fail
    refine (ValidChain_impl _ c _ Kc).mono ?_
    rintro e w1 ⟨rfl, b1⟩
    have hB1 := hB.keep b1 hB.lt
    have hZ1 := hZ.keep b1 hZ.lt
    have BB := below_wt B0 b1
    have Pc : ChP w1 w.heap.size c := ⟨_, hB1.cell 0, hB1.cell 1, hB1.cell 2, (Kc.keep b1).rows⟩
    have g0 : w1.cell? ⟨w.heap.size, 0, none⟩ = _ := hB1.cell 0
    have g1 : w1.cell? ⟨w.heap.size, 1, none⟩ = _ := hB1.cell 1
    simp at g0 g1
    by_cases hq : 60 < 2 * c.t
    · have hr := Lib.hid (show lazyOf c = (zeroCh, 3) by rw [hlz'.out, if_pos hq])
      have hmc := makeChain_lim c.n (2 * c.t) 66 #[.pointer (some ⟨w.heap.size, 0, none⟩)] w1 (Or.inr hq)
      go_wp2_with fail
      refine hmc.mono ?_
      rintro e w2 ⟨rfl, b2⟩
      have hZ2 := hZ1.keep b2 hZ1.lt
      have q0 := hZ2.cell 0
      have q1 := hZ2.cell 1
      have q2 := hZ2.cell 2
      have f0 := hZ2.frozen 0
      have f1 := hZ2.frozen 1
      have f2 := hZ2.frozen 2
      simp at q0 q1 q2
      go_wp2
      refine bodyPost_ret (v := .tuple #[.agg #[.int .i64 0, .int .i64 0, .slice none 0 0], .int .i64 3]) (by simp [results, Try.results23, go_sem, q0, q1, q2]) rfl ?_
      rw [hr.out]
      refine ⟨_, rfl, zero_own _ _ _, (((below_wt BB b2).setCell ?_ _).setCell ?_ _).setCell ?_ _⟩
      all_goals (simp only; omega)
    · obtain ⟨N, hN⟩ : ∃ N : Nat, c.n = N := ⟨c.n.toNat, by omega⟩
      have hr := Lib.hid (show lazyOf c = (⟨c.n, 2 * c.t, rowsOf N (lazyF c)⟩, 0) by rw [hlz'.out, if_neg hq, hN]; rfl)
      have hmc := makeChain_any N (2 * c.t) 66 #[.pointer (some ⟨w.heap.size, 0, none⟩)] (lazyF c) w1 (by omega) (by omega) (by omega) cf_lazy
        (fun W s j hW hs hj => lazyF_any w.heap.size c s j W (Pc.keep hW) oc (by omega) (by omega))
      rw [← hN] at hmc
      clear hN
      go_wp2_with fail
      refine hmc.mono ?_
      rintro e w2 ⟨rv, rfl, own2, b2⟩
      have hZ2 := hZ1.keep b2 hZ1.lt
      have q0 := hZ2.cell 0
      have q1 := hZ2.cell 1
      have q2 := hZ2.cell 2
      have f0 := hZ2.frozen 0
      have f1 := hZ2.frozen 1
      have f2 := hZ2.frozen 2
      simp at q0 q1 q2
      have BB2 := below_wt BB b2
      have hsz1 : w.heap.size + 2 ≤ w1.heap.size := by have := hZ1.lt; omega
      have hsz2 := b2.size
      generalize (⟨c.n, 2 * c.t, rowsOf N (lazyF c)⟩ : Ch) = rc at own2 hr
      obtain ⟨ra, rcap, rfl⟩ := own2.shape
      go_wp2
      refine bodyPost_ret (v := .tuple #[.agg #[.int .i64 rc.n, .int .i64 rc.t, .slice ra rc.w.length rcap], .int .i64 0]) (by simp [results, Try.results23, go_sem, q0, q1, q2]) rfl ?_
      rw [hr.out]
      refine ⟨_, rfl, (own2.same ((((SameOn.refl _ _ _).set (Or.inl ?_) _).set (Or.inl ?_) _).set (Or.inl ?_) _)).wide ?_ ?_, ((BB2.setCell ?_ _).setCell ?_ _).setCell ?_ _⟩
      all_goals first | omega | (simp only; omega) | (simp [World.setCell]; done) | (simp [World.setCell]; omega)
  · have oc' : chOk c = false := by simpa using oc
    have hr := Lib.hid (show lazyOf c = (zeroCh, 1) by simp [lazyOf, oc'])
    clear oc
    go_enter Try.func23, Try.ntmps23
    go_wp2_with fail
    refine (ValidChain_impl _ c _ Kc).mono ?_
    rintro e w1 ⟨rfl, b1⟩
    have hZ1 := hZ.keep b1 hZ.lt
    have q0 := hZ1.cell 0
    have q1 := hZ1.cell 1
    have q2 := hZ1.cell 2
    have f0 := hZ1.frozen 0
    have f1 := hZ1.frozen 1
    have f2 := hZ1.frozen 2
    simp at q0 q1 q2
    go_wp2
    refine bodyPost_ret (v := .tuple #[.agg #[.int .i64 0, .int .i64 0, .slice none 0 0], .int .i64 1]) (by simp [results, Try.results23, go_sem, q0, q1, q2]) rfl ?_
    rw [hr.out]
    refine ⟨_, rfl, zero_own _ _ _, (((below_wt B0 b1).setCell ?_ _).setCell ?_ _).setCell ?_ _⟩
    all_goals (simp only; omega)
end Go.Proofs.Ytepajimcnheofaa
