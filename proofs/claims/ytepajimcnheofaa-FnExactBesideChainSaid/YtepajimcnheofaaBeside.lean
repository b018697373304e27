/- BesideChain of the project returns 'besOf'. Conditions: none on the chains beyond what is read. -/
import Derived.Test.YtepajimcnheofaaThen2
import Derived.Test.YtepajimcnheofaaKinds
namespace Go.Proofs.Ytepajimcnheofaa
open Go.RowKit Go.Deep
set_option linter.unusedVariables false

def besF (c d : Ch) (s j : Nat) : Int := (c.w.getD (s / d.n.toNat) []).getD (j / d.n.toNat) 0 * (d.w.getD (s % d.n.toNat) []).getD (j % d.n.toNat) 0
def besCh (c d : Ch) : Ch := ⟨c.n * d.n, c.t * d.t, rowsOf (c.n * d.n).toNat (besF c d)⟩
def besOf (c d : Ch) : Ch × Int := if chOk c = true ∧ chOk d = true then lim (besCh c d) else (zeroCh, 1)

theorem sum_prod (n m : Nat) (hm : 0 < m) (f g : Nat → Int) : ((List.range (n * m)).map fun j => f (j / m) * g (j % m)).sum = ((List.range n).map f).sum * ((List.range m).map g).sum := by
  induction n with
  | zero => simp
  | succ n ih =>
    have e : List.range ((n + 1) * m) = List.range (n * m) ++ (List.range m).map fun b => n * m + b := by
      rw [Nat.add_mul, Nat.one_mul, List.range_add]
    rw [e, List.map_append, List.sum_append, ih, List.range_succ, List.map_append, List.sum_append, List.map_map]
    have e2 : (List.range m).map ((fun j => f (j / m) * g (j % m)) ∘ fun b => n * m + b) = (List.range m).map fun b => g b * f n := by
      apply List.map_congr_left
      intro b hb
      simp only [List.mem_range] at hb
      have h1 : (n * m + b) / m = n := by rw [Nat.mul_comm, Nat.mul_add_div hm, Nat.div_eq_of_lt hb, Nat.add_zero]
      have h2 : (n * m + b) % m = b := by rw [Nat.mul_comm, Nat.mul_add_mod, Nat.mod_eq_of_lt hb]
      simp only [Function.comp, h1, h2, Int.mul_comm]
    rw [e2, sum_map_mul]
    simp only [List.map_cons, List.map_nil, List.sum_cons, List.sum_nil, Int.add_zero, Int.add_mul]
    rw [Int.mul_comm (f n)]
theorem bes_ok {c d : Ch} (oc : chOk c = true) (od : chOk d = true) (h6 : c.n * d.n ≤ 6) (ht : c.t * d.t ≤ 60) : chOk (besCh c d) = true := by
  obtain ⟨n1, n2, t1, t2, hlen, hrows⟩ := chOk_all oc
  obtain ⟨m1, m2, u1, u2, hlen2, hrows2⟩ := chOk_all od
  have hpos : 1 ≤ c.t * d.t := by
    have := Int.mul_le_mul t1 u1 (by omega) (by omega)
    omega
  have hpn : 1 ≤ c.n * d.n := by
    have := Int.mul_le_mul n1 m1 (by omega) (by omega)
    omega
  obtain ⟨N, hN⟩ : ∃ N : Nat, c.n = N := ⟨c.n.toNat, by omega⟩
  obtain ⟨M, hM⟩ : ∃ M : Nat, d.n = M := ⟨d.n.toNat, by omega⟩
  have hNM : (c.n * d.n).toNat = N * M := by rw [hN, hM]; exact_mod_cast Int.toNat_natCast (N * M)
  have hk : (((c.n * d.n).toNat : Nat) : Int) = c.n * d.n := by omega
  simp only [chOk, besCh, Bool.and_eq_true, decide_eq_true_eq, List.all_eq_true, inB_iff, rowsOf_length]
  refine ⟨⟨hpn, h6⟩, ⟨hpos, ht⟩, hk, fun r hr => ?_⟩
  simp only [rowsOf, List.mem_map, List.mem_range] at hr
  obtain ⟨s, hs, rfl⟩ := hr
  have hMp : 0 < M := by omega
  have hMt : d.n.toNat = M := by omega
  rw [hNM] at hs
  have s1 : s / M < N := (Nat.div_lt_iff_lt_mul hMp).2 hs
  have s2 : s % M < M := Nat.mod_lt _ hMp
  obtain ⟨q1, q2, q3⟩ := okRow_all (hrows _ (getD_mem (d := []) (show s / M < c.w.length by omega)))
  obtain ⟨p1, p2, p3⟩ := okRow_all (hrows2 _ (getD_mem (d := []) (show s % M < d.w.length by omega)))
  have key : okRow ((c.n * d.n).toNat : Nat) (c.t * d.t) ((List.range (c.n * d.n).toNat).map fun j => besF c d s j) = true := by
    refine okRow_of (by simp) (fun x hx => ?_) ?_
    · simp only [List.mem_map, List.mem_range] at hx
      obtain ⟨j, hj, rfl⟩ := hx
      exact Int.mul_nonneg (w_bd oc _ _).1 (w_bd od _ _).1
    · rw [hNM]
      simp only [besF, hMt]
      refine (sum_prod N M hMp (fun i => (c.w.getD (s / M) []).getD i 0) (fun i => (d.w.getD (s % M) []).getD i 0)).trans ?_
      have hm : ∀ (row : List Int) (K : Nat), row.length = K → (List.range K).map (fun i => row.getD i 0) = row := fun row K h => by rw [← h]; exact map_getD_range _
      have e1 := hm (c.w.getD (s / M) []) N (by omega)
      have e2 := hm (d.w.getD (s % M) []) M (by omega)
      rw [e1, e2, q3, p3]
  rw [hk] at key
  exact key
theorem bes_lim {c d : Ch} (oc : chOk c = true) (od : chOk d = true) : lim (besCh c d) = if 6 < c.n * d.n ∨ 60 < c.t * d.t then (zeroCh, 3) else (besCh c d, 0) := by
  by_cases h : 6 < c.n * d.n ∨ 60 < c.t * d.t
  · have : chOk (besCh c d) = false := by
      rw [Bool.eq_false_iff]; intro hc
      have h1 := (chOk_all hc).2.1
      have h2 := (chOk_all hc).2.2.2.1
      simp only [besCh] at h1 h2; omega
    simp [lim, this, h]
  · simp [lim, bes_ok oc od (by omega) (by omega), h]

set_option maxHeartbeats 8000000 in
theorem besF_any (b1 b2 b3 : Nat) (c d : Ch) (s j : Nat) (w : World) (hc : ChP w b1 c) (h2 : w.cell? ⟨b2, 0, none⟩ = some (.int .i64 d.n)) (hd : ChP w b3 d) (oc : chOk c = true) (od : chOk d = true) (hs : (s : Int) < c.n * d.n) (hj : (j : Int) < c.n * d.n) :
    Calls Try.prog 72 #[.int .i64 s, .int .i64 j, .pointer (some ⟨b1, 0, none⟩), .pointer (some ⟨b2, 0, none⟩), .pointer (some ⟨b3, 0, none⟩)] w fun e w' => e = .returned (.int .i64 (besF c d s j)) ∧ ∃ m, w' = w.drewN m := by
  obtain ⟨n1, n2, t1, t2, hlen, hrows⟩ := chOk_all oc
  obtain ⟨m1, m2, u1, u2, hlen2, hrows2⟩ := chOk_all od
  obtain ⟨vc, c0, c1, c2, Rc⟩ := hc
  obtain ⟨vd, d0, d1, d2, Rd⟩ := hd
  obtain ⟨N, hN⟩ : ∃ N : Nat, c.n = N := ⟨c.n.toNat, by omega⟩
  obtain ⟨M, hM⟩ : ∃ M : Nat, d.n = M := ⟨d.n.toNat, by omega⟩
  have hMp : 0 < M := by omega
  have hMt : d.n.toNat = M := by omega
  have hs' : s < N * M := by rw [hN, hM] at hs; exact_mod_cast hs
  have hj' : j < N * M := by rw [hN, hM] at hj; exact_mod_cast hj
  have s1 : s / M < N := (Nat.div_lt_iff_lt_mul hMp).2 hs'
  have s2 : s % M < M := Nat.mod_lt _ hMp
  have j1 : j / M < N := (Nat.div_lt_iff_lt_mul hMp).2 hj'
  have j2 : j % M < M := Nat.mod_lt _ hMp
  have hm := Lib.hid (show besF c d s j = (c.w.getD (s / M) []).getD (j / M) 0 * (d.w.getD (s % M) []).getD (j % M) 0 by simp only [besF, hMt])
  have b0 := (w_bd oc (s / M) (j / M))
  have b1' := (w_bd od (s % M) (j % M))
  have v1 := mul_bd b0.1 (Int.le_trans b0.2 t2) b1'.1 (Int.le_trans b1'.2 u2)
  have k1 : (s : Int).tdiv d.n = ((s / M : Nat) : Int) := by rw [hM, Int.tdiv_eq_ediv_of_nonneg (by omega)]; rfl
  have k2 : (j : Int).tdiv d.n = ((j / M : Nat) : Int) := by rw [hM, Int.tdiv_eq_ediv_of_nonneg (by omega)]; rfl
  have k3 : (s : Int).tmod d.n = ((s % M : Nat) : Int) := by rw [hM, Int.tmod_eq_emod_of_nonneg (by omega)]; rfl
  have k4 : (j : Int).tmod d.n = ((j % M : Nat) : Int) := by rw [hM, Int.tmod_eq_emod_of_nonneg (by omega)]; rfl
  generalize s / M = sp at *
  generalize s % M = sq at *
  generalize j / M = jp at *
  generalize j % M = jq at *
  obtain ⟨xb, xo, xcap, xr, rfl, _, hxc⟩ := Rc.at (by omega)
  obtain ⟨yb, yo, ycap, yr, rfl, _, hyc⟩ := Rd.at (by omega)
  obtain ⟨xcell, xrow⟩ := hxc sp (by omega)
  obtain ⟨ycell, yrow⟩ := hyc sq (by omega)
  obtain ⟨p1, p2, _⟩ := okRow_all (hrows _ (getD_mem (d := []) (show sp < c.w.length by omega)))
  obtain ⟨p3, p4, _⟩ := okRow_all (hrows2 _ (getD_mem (d := []) (show sq < d.w.length by omega)))
  have g1 : (sp : Int) < (c.w.length : Int) := by omega
  have g2 : (sq : Int) < (d.w.length : Int) := by omega
  clear hxc hyc hrows hrows2 Rc Rd oc od
  generalize c.w.getD sp [] = rowc at *
  generalize d.w.getD sq [] = rowd at *
  generalize xr sp = xv at *
  generalize yr sq = yv at *
  obtain ⟨qb, qo, qcap, rfl, _, qc⟩ := xrow.at (by omega)
  obtain ⟨ob, oo, ocap, rfl, _, occ⟩ := yrow.at (by omega)
  have e1 := qc jp (by omega)
  have e2 := occ jq (by omega)
  have g3 : (jp : Int) < (rowc.length : Int) := by omega
  have g4 : (jq : Int) < (rowd.length : Int) := by omega
  have dn0 : (d.n == 0) = false := beq_eq_false_iff_ne.2 (by omega)
  have w1 : IntKind.i64.wrap ((sp : Nat) : Int) = sp := wrap_id (by omega)
  have w2 : IntKind.i64.wrap ((sq : Nat) : Int) = sq := wrap_id (by omega)
  have w3 : IntKind.i64.wrap ((jp : Nat) : Int) = jp := wrap_id (by omega)
  have w4 : IntKind.i64.wrap ((jq : Nat) : Int) = jq := wrap_id (by omega)
  clear qc occ p2 p4 p1 p3 xrow yrow hlen hlen2 hMt hN hM
  generalize rowc.getD jp 0 = x at *
  generalize rowd.getD jq 0 = y at *
  have w5 : IntKind.i64.wrap (x * y) = x * y := wrap_id (by omega)
  clear v1 b0 b1' hs hj hs' hj' s1 s2 j1 j2
  go_enter Try.func72, Try.ntmps72
  go_wp2
  go_quiet (fail)
  go_wp2
  go_ret
  exact ⟨ret_int hm.out.symm, _, rfl⟩

theorem cf_bes : ∀ args w, (callFunc 72 args).run Try.prog w = .ok (.enter 72 args) w := fun _ _ => by go_simp

set_option maxHeartbeats 8000000 in
theorem BesideChain_impl (cv dv : Value) (c d : Ch) (w : World) (hc : ChR w cv c) (hd : ChR w dv d) :
    Calls Try.prog 29 #[cv, dv] w fun e w' => ∃ rv, e = .returned (.tuple #[rv, .int .i64 (besOf c d).2]) ∧ ChOwn 37 2 w' w.heap.size w'.heap.size rv (besOf c d).1 ∧ Below w.heap.size w w' := by
  obtain ⟨a, cap, rfl⟩ := hc.shape
  obtain ⟨a', cap', rfl⟩ := hd.shape
  have B0 := below3 w (.cells #[.int .i64 c.n, .int .i64 c.t, .slice a c.w.length cap] 26) (.cells #[.int .i64 d.n, .int .i64 d.t, .slice a' d.w.length cap'] 26) (.cells #[.int .i64 0, .int .i64 0, .slice none 0 0] 26)
  have hB := ((Blk.new w #[.int .i64 c.n, .int .i64 c.t, .slice a c.w.length cap] 26).alloc (.cells #[.int .i64 d.n, .int .i64 d.t, .slice a' d.w.length cap'] 26)).alloc (.cells #[.int .i64 0, .int .i64 0, .slice none 0 0] 26)
  have hD := (Blk.new (w.alloc (.cells #[.int .i64 c.n, .int .i64 c.t, .slice a c.w.length cap] 26)) #[.int .i64 d.n, .int .i64 d.t, .slice a' d.w.length cap'] 26).alloc (.cells #[.int .i64 0, .int .i64 0, .slice none 0 0] 26)
  have hZ := Blk.new ((w.alloc (.cells #[.int .i64 c.n, .int .i64 c.t, .slice a c.w.length cap] 26)).alloc (.cells #[.int .i64 d.n, .int .i64 d.t, .slice a' d.w.length cap'] 26)) #[.int .i64 0, .int .i64 0, .slice none 0 0] 26
  simp only [World.size_alloc] at hZ hD
  have Kc := hc.keep B0
  have Kd := hd.keep B0
  by_cases oc : chOk c = true
  · by_cases od : chOk d = true
    · obtain ⟨n1, n2, t1, t2, -, -⟩ := chOk_all oc
      obtain ⟨m1, m2, u1, u2, -, -⟩ := chOk_all od
      obtain ⟨hp3, hp4⟩ := mul_bd (show 0 ≤ c.t by omega) t2 (show 0 ≤ d.t by omega) u2
      obtain ⟨hp5, hp6⟩ := mul_bd (show 0 ≤ c.n by omega) n2 (show 0 ≤ d.n by omega) m2
      have hml := bes_lim oc od
      have hbo : besOf c d = lim (besCh c d) := by simp [besOf, oc, od]
      rw [hml] at hbo
      have hbo' := Lib.hid hbo
      have oc' := Lib.hid oc
      have od' := Lib.hid od
      clear hml hbo oc od
      go_enter Try.func29, Try.ntmps29
      go_wp2_with fail
      refine (ValidChain_impl _ c _ Kc).mono ?_
      rintro e w1 ⟨rfl, b1⟩
      rw [oc'.out]
      replace hB := hB.step b1
      replace hD := hD.step b1
      replace hZ := hZ.step b1
      obtain ⟨q0, q1, q2⟩ := hD.three
      go_wp2_with fail
      refine (ValidChain_impl _ d _ (Kd.keep b1)).mono ?_
      rintro e w2 ⟨rfl, b2⟩
      rw [od'.out]
      clear q0 q1 q2
      replace hB := hB.step b2
      replace hD := hD.step b2
      replace hZ := hZ.step b2
      have Kc2 := (Kc.keep b1).keep b2
      have Kd2 := (Kd.keep b1).keep b2
      have b3 := below1 w2 (.cells #[.int .i64 d.n] 2)
      have hN := Blk.new w2 #[.int .i64 d.n] 2
      have BB := below_wt (below_wt (below_wt B0 b1) b2) b3
      have hlt2 := hZ.lt
      obtain ⟨p0, p1, p2⟩ := hB.three
      obtain ⟨q0, q1, q2⟩ := hD.three
      go_upto_region 4 with fail
      clear p0 p1 p2 q0 q1 q2
      replace hB := hB.step b3
      replace hD := hD.step b3
      replace hZ := hZ.step b3
      have Kc3 := Kc2.keep b3
      have Kd3 := Kd2.keep b3
      have hsz3 : w2.heap.size < (w2.alloc (.cells #[.int .i64 d.n] 2)).heap.size := by simp
      obtain ⟨w3, hw3⟩ : ∃ w3, w2.alloc (.cells #[.int .i64 d.n] 2) = w3 := ⟨_, rfl⟩
      rw [hw3] at hN BB hB hD hZ Kc3 Kd3 hsz3 ⊢
      clear hw3 b1 b2 b3 Kc Kd Kc2 Kd2 B0
      have Pc : ChP w3 w.heap.size c := ⟨_, hB.cell 0, hB.cell 1, hB.cell 2, Kc3.rows⟩
      have Pd : ChP w3 (w.heap.size + 1) d := ⟨_, hD.cell 0, hD.cell 1, hD.cell 2, Kd3.rows⟩
      obtain ⟨p0, p1, p2⟩ := hB.three
      obtain ⟨q0, q1, q2⟩ := hD.three
      have r0 : w3.cell? ⟨w2.heap.size, 0, none⟩ = _ := hN.cell 0
      simp at r0
      by_cases hq : 6 < c.n * d.n ∨ 60 < c.t * d.t
      · have hr := Lib.hid (show besOf c d = (zeroCh, 3) by rw [hbo'.out, if_pos hq])
        have hmc := makeChain_lim (c.n * d.n) (c.t * d.t) 72 #[.pointer (some ⟨w.heap.size, 0, none⟩), .pointer (some ⟨w2.heap.size, 0, none⟩), .pointer (some ⟨w.heap.size + 1, 0, none⟩)] w3 hq
        clear hq
        go_wp2_with fail
        refine hmc.mono ?_
        rintro e w4 ⟨rfl, b4⟩
        have hZ2 := hZ.step b4
        obtain ⟨z0, z1, z2⟩ := hZ2.three
        have f0 := hZ2.frozen 0
        have f1 := hZ2.frozen 1
        have f2 := hZ2.frozen 2
        go_wp2
        refine bodyPost_ret (v := .tuple #[.agg #[.int .i64 0, .int .i64 0, .slice none 0 0], .int .i64 3]) (by simp [results, Try.results29, go_sem, z0, z1, z2]) rfl ?_
        rw [hr.out]
        exact ⟨_, rfl, zero_own _ _ _, Below.filled (below_wt BB b4) (by omega) _ _ _⟩
      · have hr := Lib.hid (show besOf c d = (besCh c d, 0) by rw [hbo'.out, if_neg hq])
        have hpn : 1 ≤ c.n * d.n := by
          have := Int.mul_le_mul n1 m1 (by omega) (by omega)
          omega
        obtain ⟨K, hK⟩ : ∃ K : Nat, c.n * d.n = K := ⟨(c.n * d.n).toNat, by omega⟩
        have hmc := makeChain_any K (c.t * d.t) 72 #[.pointer (some ⟨w.heap.size, 0, none⟩), .pointer (some ⟨w2.heap.size, 0, none⟩), .pointer (some ⟨w.heap.size + 1, 0, none⟩)] (besF c d) w3 (by omega) (by omega) (by omega) cf_bes
          (fun W s j hW hs hj => besF_any w.heap.size w2.heap.size (w.heap.size + 1) c d s j W (Pc.keep hW) ((hN.keep hW hN.lt).cell 0) (Pd.keep hW) oc'.out od'.out (by omega) (by omega))
        have hres : (⟨(K : Int), c.t * d.t, rowsOf K (besF c d)⟩ : Ch) = besCh c d := by unfold besCh; rw [hK]; rfl
        rw [hres, ← hK] at hmc
        clear hres hK hq
        go_wp2_with fail
        refine hmc.mono ?_
        rintro e w4 ⟨rv, rfl, own4, b4⟩
        have S4 := own4.mine
        have hZ2 := hZ.step b4
        have BB4 := below_wt BB b4
        have hsz4 := b4.size
        obtain ⟨z0, z1, z2⟩ := hZ2.three
        have f0 := hZ2.frozen 0
        have f1 := hZ2.frozen 1
        have f2 := hZ2.frozen 2
        generalize besCh c d = rc at own4 S4 hr
        obtain ⟨ra, rcap, rfl⟩ := own4.shape
        go_wp2
        refine bodyPost_ret (v := .tuple #[.agg #[.int .i64 rc.n, .int .i64 rc.t, .slice ra rc.w.length rcap], .int .i64 0]) (by simp [results, Try.results29, go_sem, z0, z1, z2]) rfl ?_
        rw [hr.out]
        have S5 := S4.filled (b := w.heap.size + 2) (Or.inl (by omega)) (.int .i64 rc.n) (.int .i64 rc.t) (.slice ra rc.w.length rcap)
        exact ⟨_, rfl, S5.own.wide (by omega) S5.le, Below.filled BB4 (by omega) _ _ _⟩
    · have od' : chOk d = false := by simpa using od
      have hr := Lib.hid (show besOf c d = (zeroCh, 1) by simp [besOf, od'])
      have oc' := Lib.hid oc
      have od2 := Lib.hid od'
      clear od oc od'
      go_enter Try.func29, Try.ntmps29
      go_wp2_with fail
      refine (ValidChain_impl _ c _ Kc).mono ?_
      rintro e w1 ⟨rfl, b1⟩
      rw [oc'.out]
      replace hD := hD.step b1
      replace hZ := hZ.step b1
      obtain ⟨q0, q1, q2⟩ := hD.three
      go_wp2_with fail
      refine (ValidChain_impl _ d _ (Kd.keep b1)).mono ?_
      rintro e w2 ⟨rfl, b2⟩
      rw [od2.out]
      clear q0 q1 q2
      replace hZ := hZ.step b2
      have BB := below_wt (below_wt B0 b1) b2
      obtain ⟨z0, z1, z2⟩ := hZ.three
      have f0 := hZ.frozen 0
      have f1 := hZ.frozen 1
      have f2 := hZ.frozen 2
      go_wp2
      refine bodyPost_ret (v := .tuple #[.agg #[.int .i64 0, .int .i64 0, .slice none 0 0], .int .i64 1]) (by simp [results, Try.results29, go_sem, z0, z1, z2]) rfl ?_
      rw [hr.out]
      exact ⟨_, rfl, zero_own _ _ _, Below.filled BB (by omega) _ _ _⟩
  · have oc' : chOk c = false := by simpa using oc
    have hr := Lib.hid (show besOf c d = (zeroCh, 1) by simp [besOf, oc'])
    have oc2 := Lib.hid oc'
    clear oc oc'
    go_enter Try.func29, Try.ntmps29
    go_wp2_with fail
    refine (ValidChain_impl _ c _ Kc).mono ?_
    rintro e w1 ⟨rfl, b1⟩
    rw [oc2.out]
    replace hZ := hZ.step b1
    have BB := below_wt B0 b1
    obtain ⟨z0, z1, z2⟩ := hZ.three
    have f0 := hZ.frozen 0
    have f1 := hZ.frozen 1
    have f2 := hZ.frozen 2
    go_wp2
    refine bodyPost_ret (v := .tuple #[.agg #[.int .i64 0, .int .i64 0, .slice none 0 0], .int .i64 1]) (by simp [results, Try.results29, go_sem, z0, z1, z2]) rfl ?_
    rw [hr.out]
    exact ⟨_, rfl, zero_own _ _ _, Below.filled BB (by omega) _ _ _⟩
end Go.Proofs.Ytepajimcnheofaa
