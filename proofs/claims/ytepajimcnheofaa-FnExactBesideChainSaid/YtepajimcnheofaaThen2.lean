/- ThenChain of the project and of the specification: both return 'thenOf'. Conditions: none on the chains beyond what is read. -/
import Derived.Test.YtepajimcnheofaaThen
namespace Go.Proofs.Ytepajimcnheofaa
open Go.RowKit Go.Deep
set_option linter.unusedVariables false

def thenOf (c d : Ch) : Ch × Int := if pairCode c d = 0 then lim (thenCh c d) else (zeroCh, pairCode c d)

theorem sum_psum {c d : Ch} (od : chOk d = true) {N s : Nat} (hN : d.n = N) (hs : (c.w.getD s []).length = N) (m : Nat) (hm : m ≤ N) : ((List.range N).map fun j => psum c d s j m).sum = ((c.w.getD s []).take m).sum * d.t := by
  obtain ⟨m1, m2, u1, u2, hlen2, hrows2⟩ := chOk_all od
  induction m with
  | zero =>
    have z : ∀ k : Nat, ((List.range k).map fun j => psum c d s j 0).sum = 0 := by
      intro k; induction k with
      | zero => rfl
      | succ k ih => rw [List.range_succ, List.map_append, List.sum_append, ih]; simp [psum]
    rw [z]; simp
  | succ m ih =>
    have hmd : m < d.w.length := by omega
    obtain ⟨p1, p2, p3⟩ := okRow_all (hrows2 _ (getD_mem (d := []) hmd))
    simp only [psum]
    rw [sum_map_add, ih (by omega)]
    have e : ((List.range N).map fun j => (c.w.getD s []).getD m 0 * (d.w.getD m []).getD j 0) = ((List.range N).map fun j => (d.w.getD m []).getD j 0 * (c.w.getD s []).getD m 0) := by
      apply List.map_congr_left; intro j _; exact Int.mul_comm _ _
    have e2 : (List.range N).map (fun j => (d.w.getD m []).getD j 0) = d.w.getD m [] := by
      have : N = (d.w.getD m []).length := by omega
      rw [this]; exact map_getD_range _
    rw [e, sum_map_mul, e2, p3, sum_take_succ _ _ (by omega), Int.add_mul, Int.mul_comm d.t]
theorem then_ok {c d : Ch} (oc : chOk c = true) (od : chOk d = true) (hn : c.n = d.n) (ht : c.t * d.t ≤ 60) : chOk (thenCh c d) = true := by
  obtain ⟨n1, n2, t1, t2, hlen, hrows⟩ := chOk_all oc
  obtain ⟨m1, m2, u1, u2, hlen2, hrows2⟩ := chOk_all od
  have hpos : 1 ≤ c.t * d.t := by
    have := Int.mul_le_mul t1 u1 (by omega) (by omega)
    omega
  have hN : (c.n.toNat : Int) = c.n := by omega
  simp only [chOk, thenCh, Bool.and_eq_true, decide_eq_true_eq, List.all_eq_true, inB_iff, rowsOf_length]
  refine ⟨⟨n1, n2⟩, ⟨hpos, ht⟩, hN, fun r hr => ?_⟩
  simp only [rowsOf, List.mem_map, List.mem_range] at hr
  obtain ⟨s, hs, rfl⟩ := hr
  obtain ⟨q1, q2, q3⟩ := okRow_all (hrows _ (getD_mem (d := []) (show s < c.w.length by omega)))
  have key : okRow (c.n.toNat : Nat) (c.t * d.t) ((List.range c.n.toNat).map fun j => thenF c d s j) = true := by
    refine okRow_of (by simp) (fun x hx => ?_) ?_
    · simp only [List.mem_map, List.mem_range] at hx
      obtain ⟨j, hj, rfl⟩ := hx
      exact (psum_bd oc od s j _).1
    · have hl : (c.w.getD s []).length = c.n.toNat := by omega
      have := sum_psum (c := c) od (N := c.n.toNat) (s := s) (by omega) hl c.n.toNat (Nat.le_refl _)
      simp only [thenF]
      rw [this, ← hl, List.take_length, q3]
  rw [hN] at key
  exact key
theorem then_lim {c d : Ch} (oc : chOk c = true) (od : chOk d = true) (hn : c.n = d.n) : lim (thenCh c d) = if 60 < c.t * d.t then (zeroCh, 3) else (thenCh c d, 0) := by
  by_cases h : 60 < c.t * d.t
  · have : chOk (thenCh c d) = false := by
      rw [Bool.eq_false_iff]; intro hc
      have := (chOk_all hc).2.2.2.1
      simp only [thenCh] at this; omega
    simp [lim, this, h]
  · simp [lim, then_ok oc od hn (by omega), h]

set_option maxRecDepth 100000 in
set_option maxHeartbeats 8000000 in
theorem thenF_any (b1 b2 : Nat) (c d : Ch) (s j : Nat) (w : World) (hc : ChP w b1 c) (hd : ChP w b2 d) (oc : chOk c = true) (od : chOk d = true) (hn : c.n = d.n) (hs : (s : Int) < c.n) (hj : (j : Int) < c.n) :
    Calls Try.prog 68 #[.int .i64 s, .int .i64 j, .pointer (some ⟨b1, 0, none⟩), .pointer (some ⟨b2, 0, none⟩)] w fun e w' => e = .returned (.int .i64 (thenF c d s j)) ∧ ∃ m, w' = w.drewN m := by
  obtain ⟨n1, n2, t1, t2, hlen, hrows⟩ := chOk_all oc
  obtain ⟨m1, m2, u1, u2, hlen2, hrows2⟩ := chOk_all od
  obtain ⟨vc, c0, c1, c2, Rc⟩ := hc
  obtain ⟨vd, d0, d1, d2, Rd⟩ := hd
  have ks : s < c.w.length := by omega
  obtain ⟨xb, xo, xcap, xr, rfl, _, hxc⟩ := Rc.at (by omega)
  obtain ⟨yb, yo, ycap, yr, rfl, _, hyc⟩ := Rd.at (by omega)
  obtain ⟨xcell, xrow⟩ := hxc s ks
  obtain ⟨p1, p2, _⟩ := okRow_all (hrows _ (getD_mem (d := []) ks))
  have hbw := Lib.hid (show ∀ m, 0 ≤ (c.w.getD s []).getD m 0 ∧ (c.w.getD s []).getD m 0 ≤ 60 from fun m => ⟨(w_bd oc s m).1, Int.le_trans (w_bd oc s m).2 t2⟩)
  have hbd := Lib.hid (show ∀ m, 0 ≤ (d.w.getD m []).getD j 0 ∧ (d.w.getD m []).getD j 0 ≤ 60 from fun m => ⟨(w_bd od m j).1, Int.le_trans (w_bd od m j).2 u2⟩)
  have hps := Lib.hid (show ∀ m, psum c d s j (m + 1) = psum c d s j m + (c.w.getD s []).getD m 0 * (d.w.getD m []).getD j 0 from fun _ => rfl)
  have hpb := Lib.hid (fun m => psum_bd oc od s j m)
  have hyr := Lib.hid (show ∀ m, m < d.w.length → (d.w.getD m []).length = d.w.length from fun m hm => by have := (okRow_all (hrows2 _ (getD_mem (d := []) hm))).1; omega)
  have hdl := Lib.hid (show d.w.length = c.w.length by omega)
  have hcl := Lib.hid (show c.n.toNat = c.w.length by omega)
  have hlen' := Lib.hid hlen
  have hyc' := Lib.hid hyc
  have g1 : (s : Int) < (c.w.length : Int) := by omega
  have hrl0 := Lib.hid (show (c.w.getD s []).length = c.w.length by omega)
  have hfin := Lib.hid (show thenF c d s j = psum c d s j c.n.toNat from rfl)
  clear hxc hyc hrows hrows2 hlen hlen2 Rc Rd hn
  generalize c.w.getD s [] = rowc at *
  generalize xr s = xv at *
  obtain ⟨qb, qo, qcap, rfl, _, qc⟩ := xrow.at (by omega)
  have qc' := Lib.hid qc
  clear qc p2 p1 xrow oc od
  go_enter Try.func68, Try.ntmps68
  go_wp2
  go_loop [7, 16] (fun v i => ∃ k : Nat, k ≤ rowc.length ∧ i = .int .i64 k ∧ v = .int .i64 (psum c d s j k)) (fun _ i => rowc.length - (intOf i).toNat)
  case atStart => exact ⟨0, Nat.zero_le _, rfl, rfl⟩
  case round =>
    obtain ⟨k, hk, rfl, rfl⟩ := hrel
    by_cases hlt : k < rowc.length
    · have kd : k < d.w.length := by have := hdl.out; have := hrl0.out; omega
      have kdI : (k : Int) < (d.w.length : Int) := by omega
      have krI : (k : Int) < (rowc.length : Int) := by omega
      obtain ⟨ycell, yrow⟩ := hyc'.out k kd
      have hx := qc'.out k hlt
      have bx := hbw.out k
      have by' := hbd.out k
      have hnx := hps.out k
      have bz := hpb.out k
      have hyl := hyr.out k kd
      generalize rowc.getD k 0 = x at hx bx hnx
      generalize d.w.getD k [] = rowd at yrow by' hnx hyl
      generalize yr k = yv at ycell yrow
      obtain ⟨ob, oo, ocap, rfl, _, occ⟩ := yrow.at (by omega)
      have hy := occ j (by have := hlen'.out; have := hdl.out; omega)
      have jI : (j : Int) < (rowd.length : Int) := by have := hlen'.out; have := hdl.out; omega
      generalize rowd.getD j 0 = y at hy by' hnx
      generalize psum c d s j k = z at hnx bz ⊢
      obtain ⟨x0, x1⟩ := bx
      obtain ⟨y0, y1⟩ := by'
      obtain ⟨z0, z1⟩ := bz
      have k6 : k ≤ 6 := by have := hlen'.out; have := hrl0.out; omega
      have v1 := mul_bd x0 x1 y0 y1
      have w1 : IntKind.i64.wrap (x * y) = x * y := wrap_id (by omega)
      have w2 : IntKind.i64.wrap (z + x * y) = z + x * y := wrap_id (by omega)
      have hnx' := Lib.hid hnx
      clear hnx occ yrow v1 hyl
      go_wp2
      go_round
      case rel => exact ⟨k + 1, by omega, by go_num, by rw [hnx'.out]⟩
      case measure => simp [intOf]; omega
    · obtain rfl : k = rowc.length := by omega
      have hf := Lib.hid (show thenF c d s j = psum c d s j rowc.length by rw [hfin.out, hcl.out, hrl0.out])
      go_wp2
      go_ret
      exact ⟨ret_int hf.out.symm, 0, rfl⟩

theorem cf_then : ∀ args w, (callFunc 68 args).run Try.prog w = .ok (.enter 68 args) w := fun _ _ => by go_simp

set_option maxHeartbeats 4000000 in
theorem ThenChain_spec (cv dv : Value) (c d : Ch) (w : World) (hc : ChR w cv c) (hd : ChR w dv d) :
    Calls Try.prog 24 #[cv, dv] w fun e w' => ∃ rv, e = .returned (.tuple #[rv, .int .i64 (thenOf c d).2]) ∧ ChOwn 37 2 w' w.heap.size w'.heap.size rv (thenOf c d).1 ∧ Below w.heap.size w w' := by
  obtain ⟨a, cap, rfl⟩ : ∃ a cap, cv = .agg #[.int .i64 c.n, .int .i64 c.t, .slice a c.w.length cap] := by
    obtain ⟨v, rfl, hr⟩ := hc
    obtain ⟨_, a, cap, rfl⟩ := hr.len
    exact ⟨a, cap, rfl⟩
  obtain ⟨a', cap', rfl⟩ : ∃ a cap, dv = .agg #[.int .i64 d.n, .int .i64 d.t, .slice a d.w.length cap] := by
    obtain ⟨v, rfl, hr⟩ := hd
    obtain ⟨_, a, cap, rfl⟩ := hr.len
    exact ⟨a, cap, rfl⟩
  have B0 := below3 w (.cells #[.int .i64 c.n, .int .i64 c.t, .slice a c.w.length cap] 26) (.cells #[.int .i64 d.n, .int .i64 d.t, .slice a' d.w.length cap'] 26) (.cells #[.int .i64 0, .int .i64 0, .slice none 0 0] 26)
  have hB := ((Blk.new w #[.int .i64 c.n, .int .i64 c.t, .slice a c.w.length cap] 26).alloc (.cells #[.int .i64 d.n, .int .i64 d.t, .slice a' d.w.length cap'] 26)).alloc (.cells #[.int .i64 0, .int .i64 0, .slice none 0 0] 26)
  have hD := (Blk.new (w.alloc (.cells #[.int .i64 c.n, .int .i64 c.t, .slice a c.w.length cap] 26)) #[.int .i64 d.n, .int .i64 d.t, .slice a' d.w.length cap'] 26).alloc (.cells #[.int .i64 0, .int .i64 0, .slice none 0 0] 26)
  have hZ := Blk.new ((w.alloc (.cells #[.int .i64 c.n, .int .i64 c.t, .slice a c.w.length cap] 26)).alloc (.cells #[.int .i64 d.n, .int .i64 d.t, .slice a' d.w.length cap'] 26)) #[.int .i64 0, .int .i64 0, .slice none 0 0] 26
  simp only [World.size_alloc] at hZ hD
  have Pc : ChP (((w.alloc (.cells #[.int .i64 c.n, .int .i64 c.t, .slice a c.w.length cap] 26)).alloc (.cells #[.int .i64 d.n, .int .i64 d.t, .slice a' d.w.length cap'] 26)).alloc (.cells #[.int .i64 0, .int .i64 0, .slice none 0 0] 26)) w.heap.size c := ⟨_, hB.cell 0, hB.cell 1, hB.cell 2, (hc.keep B0).rows⟩
  have Pd : ChP (((w.alloc (.cells #[.int .i64 c.n, .int .i64 c.t, .slice a c.w.length cap] 26)).alloc (.cells #[.int .i64 d.n, .int .i64 d.t, .slice a' d.w.length cap'] 26)).alloc (.cells #[.int .i64 0, .int .i64 0, .slice none 0 0] 26)) (w.heap.size + 1) d := ⟨_, hD.cell 0, hD.cell 1, hD.cell 2, (hd.keep B0).rows⟩
  by_cases h0 : pairCode c d = 0
  · have hr := Lib.hid (show thenOf c d = lim (thenCh c d) by simp [thenOf, h0])
    obtain ⟨oc, od, hn⟩ := pair_zero h0
    have hn' := Lib.hid hn
    clear hn
    go_enter Try.func24, Try.ntmps24
    go_wp2_with fail
    refine (l01Pair_any _ _ c d _ Pc Pd).mono ?_
    rintro e w1 ⟨rfl, m, rfl⟩
    have hZ1 : Blk _ _ _ _ := hZ.keep (below_drewN (Below.refl _ _) m) hZ.lt
    go_wp2_with fail
    refine (l01Then_any _ _ c d _ (Pc.keep (below_drewN (Below.refl _ _) m)) (Pd.keep (below_drewN (Below.refl _ _) m)) oc od hn'.out.symm).mono ?_
    rintro e w2 ⟨mv, rfl, own2, b2⟩
    have hZ2 := hZ1.keep b2 hZ1.lt
    go_wp2_with fail
    refine (l01Made_any mv _ _ _ _ own2 (Nat.le_refl _)).mono ?_
    rintro e w3 ⟨rv, rfl, chr, b3⟩
    have hZ3 := hZ2.keep b3 hZ2.lt
    have BB := below_wt (below_wt (below_drewN B0 m) b2) b3
    have hsz3 := b3.size
    generalize lim (thenCh c d) = r at chr hr
    obtain ⟨rc, rk⟩ := r
    simp only at chr
    obtain ⟨ra, rcap, rfl⟩ : ∃ a cap, rv = .agg #[.int .i64 rc.n, .int .i64 rc.t, .slice a rc.w.length cap] := by
      obtain ⟨v, rfl, hr⟩ := chr
      obtain ⟨_, a, cap, rfl⟩ := hr.rows.len
      exact ⟨a, cap, rfl⟩
    have g0 := hZ3.cell 0
    have g1 := hZ3.cell 1
    have g2 := hZ3.cell 2
    have f0 := hZ3.frozen 0
    have f1 := hZ3.frozen 1
    have f2 := hZ3.frozen 2
    simp at g0 g1 g2
    go_wp2
    refine bodyPost_ret (v := .tuple #[.agg #[.int .i64 rc.n, .int .i64 rc.t, .slice ra rc.w.length rcap], .int .i64 rk]) (by simp [results, Try.results24, go_sem, g0, g1, g2]) rfl ?_
    rw [hr.out]
    refine ⟨_, rfl, (chr.same ((((SameOn.refl _ _ _).set (Or.inl ?_) _).set (Or.inl ?_) _).set (Or.inl ?_) _)).wide ?_ ?_, ((BB.setCell ?_ _).setCell ?_ _).setCell ?_ _⟩
    all_goals (simp [World.setCell, World.drewN] <;> omega)
  · have hr := Lib.hid (show thenOf c d = (zeroCh, pairCode c d) by simp [thenOf, h0])
    have h0' : (pairCode c d != 0) = true := by simpa using h0
    clear h0
    go_enter Try.func24, Try.ntmps24
    go_wp2_with fail
    refine (l01Pair_any _ _ c d _ Pc Pd).mono ?_
    rintro e w1 ⟨rfl, m, rfl⟩
    have hZ1 : Blk _ _ _ _ := hZ.keep (below_drewN (Below.refl _ _) m) hZ.lt
    generalize pairCode c d = pc at h0' hr
    go_wp2
    refine bodyPost_ret (v := .tuple #[.agg #[.int .i64 0, .int .i64 0, .slice none 0 0], .int .i64 pc]) (by simp [results, Try.results24, go_sem]) rfl ?_
    rw [hr.out]
    refine ⟨_, rfl, zero_own _ _ _, (((below_drewN B0 m).setCell ?_ _).setCell ?_ _).setCell ?_ _⟩
    all_goals (simp only; omega)

set_option maxHeartbeats 8000000 in
theorem ThenChain_impl (cv dv : Value) (c d : Ch) (w : World) (hc : ChR w cv c) (hd : ChR w dv d) :
    Calls Try.prog 25 #[cv, dv] w fun e w' => ∃ rv, e = .returned (.tuple #[rv, .int .i64 (thenOf c d).2]) ∧ ChOwn 37 2 w' w.heap.size w'.heap.size rv (thenOf c d).1 ∧ Below w.heap.size w w' := by
  obtain ⟨a, cap, rfl⟩ : ∃ a cap, cv = .agg #[.int .i64 c.n, .int .i64 c.t, .slice a c.w.length cap] := by
    obtain ⟨v, rfl, hr⟩ := hc
    obtain ⟨_, a, cap, rfl⟩ := hr.len
    exact ⟨a, cap, rfl⟩
  obtain ⟨a', cap', rfl⟩ : ∃ a cap, dv = .agg #[.int .i64 d.n, .int .i64 d.t, .slice a d.w.length cap] := by
    obtain ⟨v, rfl, hr⟩ := hd
    obtain ⟨_, a, cap, rfl⟩ := hr.len
    exact ⟨a, cap, rfl⟩
  have B0 := below3 w (.cells #[.int .i64 c.n, .int .i64 c.t, .slice a c.w.length cap] 26) (.cells #[.int .i64 d.n, .int .i64 d.t, .slice a' d.w.length cap'] 26) (.cells #[.int .i64 0, .int .i64 0, .slice none 0 0] 26)
  have hB := ((Blk.new w #[.int .i64 c.n, .int .i64 c.t, .slice a c.w.length cap] 26).alloc (.cells #[.int .i64 d.n, .int .i64 d.t, .slice a' d.w.length cap'] 26)).alloc (.cells #[.int .i64 0, .int .i64 0, .slice none 0 0] 26)
  have hD := (Blk.new (w.alloc (.cells #[.int .i64 c.n, .int .i64 c.t, .slice a c.w.length cap] 26)) #[.int .i64 d.n, .int .i64 d.t, .slice a' d.w.length cap'] 26).alloc (.cells #[.int .i64 0, .int .i64 0, .slice none 0 0] 26)
  have hZ := Blk.new ((w.alloc (.cells #[.int .i64 c.n, .int .i64 c.t, .slice a c.w.length cap] 26)).alloc (.cells #[.int .i64 d.n, .int .i64 d.t, .slice a' d.w.length cap'] 26)) #[.int .i64 0, .int .i64 0, .slice none 0 0] 26
  simp only [World.size_alloc] at hZ hD
  have Kc := hc.keep B0
  have Kd := hd.keep B0
  by_cases h0 : pairCode c d = 0
  · obtain ⟨oc, od, hn⟩ := pair_zero h0
    obtain ⟨n1, n2, t1, t2, hlen, hrows⟩ := chOk_all oc
    obtain ⟨m1, m2, u1, u2, hlen2, hrows2⟩ := chOk_all od
    obtain ⟨hp3, hp4⟩ := mul_bd (show 0 ≤ c.t by omega) t2 (show 0 ≤ d.t by omega) u2
    have hn' := Lib.hid hn
    clear hlen hrows hlen2 hrows2 hn
    go_enter Try.func25, Try.ntmps25
    go_wp2_with fail
    refine (checkTwo_any _ _ c d _ Kc Kd).mono ?_
    rintro e w1 ⟨rfl, b1⟩
    have hB1 := hB.keep b1 hB.lt
    have hD1 := hD.keep b1 hD.lt
    have hZ1 := hZ.keep b1 hZ.lt
    have BB := below_wt B0 b1
    have Pc : ChP w1 w.heap.size c := ⟨_, hB1.cell 0, hB1.cell 1, hB1.cell 2, (Kc.keep b1).rows⟩
    have Pd : ChP w1 (w.heap.size + 1) d := ⟨_, hD1.cell 0, hD1.cell 1, hD1.cell 2, (Kd.keep b1).rows⟩
    have g0 : w1.cell? ⟨w.heap.size, 0, none⟩ = _ := hB1.cell 0
    have g1 : w1.cell? ⟨w.heap.size, 1, none⟩ = _ := hB1.cell 1
    have g2 : w1.cell? ⟨w.heap.size + 1, 1, none⟩ = _ := hD1.cell 1
    simp at g0 g1 g2
    have hml := then_lim oc od hn'.out
    by_cases hq : 60 < c.t * d.t
    · have hr := Lib.hid (show thenOf c d = (zeroCh, 3) by simp [thenOf, h0, hml, hq])
      have hmc := makeChain_lim c.n (c.t * d.t) 68 #[.pointer (some ⟨w.heap.size, 0, none⟩), .pointer (some ⟨w.heap.size + 1, 0, none⟩)] w1 (Or.inr hq)
      go_wp2_with fail
      refine hmc.mono ?_
      rintro e w2 ⟨rfl, b2⟩
      have hZ2 := hZ1.keep b2 hZ1.lt
      have q0 := hZ2.cell 0
      have q1 := hZ2.cell 1
      have q2 := hZ2.cell 2
      have f0 := hZ2.frozen 0
      have f1 := hZ2.frozen 1
      have f2 := hZ2.frozen 2
      simp at q0 q1 q2
      go_wp2
      refine bodyPost_ret (v := .tuple #[.agg #[.int .i64 0, .int .i64 0, .slice none 0 0], .int .i64 3]) (by simp [results, Try.results25, go_sem, q0, q1, q2]) rfl ?_
      rw [hr.out]
      refine ⟨_, rfl, zero_own _ _ _, (((below_wt BB b2).setCell ?_ _).setCell ?_ _).setCell ?_ _⟩
      all_goals (simp only; omega)
    · have hr := Lib.hid (show thenOf c d = (thenCh c d, 0) by simp [thenOf, h0, hml, hq])
      obtain ⟨N, hN⟩ : ∃ N : Nat, c.n = N := ⟨c.n.toNat, by omega⟩
      have hmc := makeChain_any N (c.t * d.t) 68 #[.pointer (some ⟨w.heap.size, 0, none⟩), .pointer (some ⟨w.heap.size + 1, 0, none⟩)] (thenF c d) w1 (by omega) (by omega) (by omega) cf_then
        (fun W s j hW hs hj => thenF_any w.heap.size (w.heap.size + 1) c d s j W (Pc.keep hW) (Pd.keep hW) oc od hn'.out (by omega) (by omega))
      rw [← hN] at hmc
      have hres := Lib.hid (show (⟨c.n, c.t * d.t, rowsOf N (thenF c d)⟩ : Ch) = thenCh c d by unfold thenCh; rw [hN]; rfl)
      clear hml hN
      go_wp2_with fail
      refine hmc.mono ?_
      rintro e w2 ⟨rv, rfl, own2, b2⟩
      rw [hres.out] at own2
      have hZ2 := hZ1.keep b2 hZ1.lt
      have q0 := hZ2.cell 0
      have q1 := hZ2.cell 1
      have q2 := hZ2.cell 2
      have f0 := hZ2.frozen 0
      have f1 := hZ2.frozen 1
      have f2 := hZ2.frozen 2
      simp at q0 q1 q2
      have BB2 := below_wt BB b2
      have hsz1 : w.heap.size + 3 ≤ w1.heap.size := by have := hZ1.lt; omega
      have hsz2 := b2.size
      generalize thenCh c d = rc at own2 hr
      obtain ⟨ra, rcap, rfl⟩ : ∃ a cap, rv = .agg #[.int .i64 rc.n, .int .i64 rc.t, .slice a rc.w.length cap] := by
        obtain ⟨v, rfl, hr⟩ := own2
        obtain ⟨_, a, cap, rfl⟩ := hr.rows.len
        exact ⟨a, cap, rfl⟩
      go_wp2
      refine bodyPost_ret (v := .tuple #[.agg #[.int .i64 rc.n, .int .i64 rc.t, .slice ra rc.w.length rcap], .int .i64 0]) (by simp [results, Try.results25, go_sem, q0, q1, q2]) rfl ?_
      rw [hr.out]
      refine ⟨_, rfl, (own2.same ((((SameOn.refl _ _ _).set (Or.inl ?_) _).set (Or.inl ?_) _).set (Or.inl ?_) _)).wide ?_ ?_, ((BB2.setCell ?_ _).setCell ?_ _).setCell ?_ _⟩
      all_goals first | omega | (simp only; omega) | (simp [World.setCell]; done) | (simp [World.setCell]; omega)
  · have hr := Lib.hid (show thenOf c d = (zeroCh, pairCode c d) by simp [thenOf, h0])
    have h0' : (pairCode c d != 0) = true := by simpa using h0
    clear h0
    go_enter Try.func25, Try.ntmps25
    go_wp2_with fail
    refine (checkTwo_any _ _ c d _ Kc Kd).mono ?_
    rintro e w1 ⟨rfl, b1⟩
    have hZ1 := hZ.keep b1 hZ.lt
    have q0 := hZ1.cell 0
    have q1 := hZ1.cell 1
    have q2 := hZ1.cell 2
    have f0 := hZ1.frozen 0
    have f1 := hZ1.frozen 1
    have f2 := hZ1.frozen 2
    simp at q0 q1 q2
    generalize pairCode c d = pc at h0' hr
    go_wp2
    refine bodyPost_ret (v := .tuple #[.agg #[.int .i64 0, .int .i64 0, .slice none 0 0], .int .i64 pc]) (by simp [results, Try.results25, go_sem, q0, q1, q2]) rfl ?_
    rw [hr.out]
    refine ⟨_, rfl, zero_own _ _ _, (((below_wt B0 b1).setCell ?_ _).setCell ?_ _).setCell ?_ _⟩
    all_goals (simp only; omega)
end Go.Proofs.Ytepajimcnheofaa
