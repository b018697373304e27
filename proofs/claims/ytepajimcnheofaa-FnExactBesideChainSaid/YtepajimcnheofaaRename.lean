/- RenameStates of the project and of the specification: both return 'renOf'. Conditions: none on the chain and the list beyond what is read. -/
import Derived.Test.YtepajimcnheofaaHas
import Derived.Test.YtepajimcnheofaaMix2
import Derived.Test.YtepajimcnheofaaKinds
namespace Go.Proofs.Ytepajimcnheofaa
open Go.RowKit Go.Deep
set_option linter.unusedVariables false

def renF (c : Ch) (o : List Int) (s j : Nat) : Int := (c.w.getD (o.getD s 0).toNat []).getD (o.getD j 0).toNat 0
def renCh (c : Ch) (o : List Int) : Ch := ⟨c.n, c.t, rowsOf c.n.toNat (renF c o)⟩
def renOf (c : Ch) (o : List Int) : Ch × Int := if chOk c = true then (if isOrd o c.n.toNat = true then (renCh c o, 0) else (zeroCh, 2)) else (zeroCh, 1)

/-! ### the project's -/
set_option maxHeartbeats 4000000 in
theorem renF_any (b1 b2 : Nat) (c : Ch) (o : List Int) (ov : Value) (N s j : Nat) (w : World) (hc : ChP w b1 c) (h2 : w.cell? ⟨b2, 0, none⟩ = some ov) (ho : Ints w ov o) (oc : chOk c = true) (hN : c.n = N) (oo : isOrd o N = true) (hs : s < N) (hj : j < N) :
    Calls Try.prog 75 #[.int .i64 s, .int .i64 j, .pointer (some ⟨b1, 0, none⟩), .pointer (some ⟨b2, 0, none⟩)] w fun e w' => e = .returned (.int .i64 (renF c o s j)) ∧ ∃ m, w' = w.drewN m := by
  obtain ⟨n1, n2, t1, t2, hlen, hrows⟩ := chOk_all oc
  obtain ⟨vc, c0, c1, c2, Rc⟩ := hc
  obtain ⟨p, hp, pl⟩ := isOrd_at oo s hs
  obtain ⟨q, hq, ql⟩ := isOrd_at oo j hj
  have hol : o.length = N := by simp only [isOrd, Bool.and_eq_true, decide_eq_true_eq] at oo; exact oo.1
  have hm := Lib.hid (show renF c o s j = (c.w.getD p []).getD q 0 by simp only [renF, hp, hq, Int.toNat_natCast])
  obtain ⟨xb, xo, xcap, xr, rfl, _, hxc⟩ := Rc.at (by omega)
  obtain ⟨xcell, xrow⟩ := hxc p (by omega)
  obtain ⟨p1, p2, _⟩ := okRow_all (hrows _ (getD_mem (d := []) (show p < c.w.length by omega)))
  obtain ⟨ob, oof, ocap, rfl, _, occ⟩ := ho.at (by omega)
  have e1 := occ s (by omega)
  have e2 := occ j (by omega)
  rw [hp] at e1
  rw [hq] at e2
  have g1 : (p : Int) < (c.w.length : Int) := by omega
  have g5 : (s : Int) < (o.length : Int) := by omega
  have g6 : (j : Int) < (o.length : Int) := by omega
  clear hxc hrows Rc oc oo occ hp hq
  generalize c.w.getD p [] = row at *
  generalize xr p = xv at *
  obtain ⟨qb, qo, qcap, rfl, _, qc⟩ := xrow.at (by omega)
  have e3 := qc q (by omega)
  have g3 : (q : Int) < (row.length : Int) := by omega
  clear qc p1 p2 xrow hlen hol hN
  generalize row.getD q 0 = x at *
  go_enter Try.func75, Try.ntmps75
  go_wp2
  go_quiet (fail)
  go_wp2
  go_ret
  exact ⟨ret_int hm.out.symm, _, rfl⟩

theorem cf_ren : ∀ args w, (callFunc 75 args).run Try.prog w = .ok (.enter 75 args) w := fun _ _ => by go_simp

set_option maxHeartbeats 8000000 in
theorem RenameStates_impl (cv dv : Value) (c : Ch) (o : List Int) (w : World) (hc : ChR w cv c) (hd : Ints w dv o) :
    Calls Try.prog 32 #[cv, dv] w fun e w' => ∃ rv, e = .returned (.tuple #[rv, .int .i64 (renOf c o).2]) ∧ ChOwn 37 2 w' w.heap.size w'.heap.size rv (renOf c o).1 ∧ Below w.heap.size w w' := by
  obtain ⟨a, cap, rfl⟩ := hc.shape
  obtain ⟨da, dcap, rfl⟩ := hd.shape
  have B0 := below3 w (.cells #[.int .i64 c.n, .int .i64 c.t, .slice a c.w.length cap] 26) (.cells #[.slice da o.length dcap] 37) (.cells #[.int .i64 0, .int .i64 0, .slice none 0 0] 26)
  have hB := ((Blk.new w #[.int .i64 c.n, .int .i64 c.t, .slice a c.w.length cap] 26).alloc (.cells #[.slice da o.length dcap] 37)).alloc (.cells #[.int .i64 0, .int .i64 0, .slice none 0 0] 26)
  have hD := (Blk.new (w.alloc (.cells #[.int .i64 c.n, .int .i64 c.t, .slice a c.w.length cap] 26)) #[.slice da o.length dcap] 37).alloc (.cells #[.int .i64 0, .int .i64 0, .slice none 0 0] 26)
  have hZ := Blk.new ((w.alloc (.cells #[.int .i64 c.n, .int .i64 c.t, .slice a c.w.length cap] 26)).alloc (.cells #[.slice da o.length dcap] 37)) #[.int .i64 0, .int .i64 0, .slice none 0 0] 26
  simp only [World.size_alloc] at hZ hD
  have Kc := hc.keep B0
  have Kd := hd.keep B0
  by_cases oc : chOk c = true
  · obtain ⟨n1, n2, t1, t2, hlen, hrows⟩ := chOk_all oc
    clear hlen hrows
    obtain ⟨N, hN⟩ : ∃ N : Nat, c.n = N := ⟨c.n.toNat, by omega⟩
    have hN' := Lib.hid hN
    have hNt : c.n.toNat = N := by omega
    by_cases oo : isOrd o N = true
    · have hr := Lib.hid (show renOf c o = (renCh c o, 0) by simp [renOf, oc, hNt, oo])
      have hio : ∀ W v, Ints W v o → Calls Try.prog 74 #[v, .int .i64 c.n] W fun e w' => e = .returned (.bool true) ∧ W = w' := fun W v hv => by
        have := isOrdering_any v o N W hv (by omega)
        rw [oo] at this; rw [hN]; exact this
      have hio' := Lib.hid hio
      clear hio hN hNt
      go_enter Try.func32, Try.ntmps32
      go_wp2_with fail
      refine (ValidChain_impl _ c _ Kc).mono ?_
      rintro e w1 ⟨rfl, b1⟩
      have hB1 := hB.keep b1 hB.lt
      have hD1 := hD.keep b1 hD.lt
      have hZ1 := hZ.keep b1 hZ.lt
      have Kd1 := Kd.keep b1
      have BB := below_wt B0 b1
      have Pc : ChP w1 w.heap.size c := ⟨_, hB1.cell 0, hB1.cell 1, hB1.cell 2, (Kc.keep b1).rows⟩
      have g0 : w1.cell? ⟨w.heap.size, 0, none⟩ = _ := hB1.cell 0
      have g1 : w1.cell? ⟨w.heap.size, 1, none⟩ = _ := hB1.cell 1
      have g2 : w1.cell? ⟨w.heap.size + 1, 0, none⟩ = _ := hD1.cell 0
      simp at g0 g1 g2
      go_wp2_with fail
      refine (hio'.out _ _ Kd1).mono ?_
      rintro e w2 ⟨rfl, rfl⟩
      have hmc := makeChain_any N c.t 75 #[.pointer (some ⟨w.heap.size, 0, none⟩), .pointer (some ⟨w.heap.size + 1, 0, none⟩)] (renF c o) w1 (by have := hN'.out; omega) (by have := hN'.out; omega) t2 cf_ren
        (fun W s j hW hs hj => renF_any w.heap.size (w.heap.size + 1) c o _ N s j W (Pc.keep hW) ((hD1.keep hW hD1.lt).cell 0) (Kd1.keep hW) oc hN'.out oo hs hj)
      have hres : (⟨(N : Int), c.t, rowsOf N (renF c o)⟩ : Ch) = renCh c o := by unfold renCh; rw [hN'.out]; rfl
      rw [hres, ← hN'.out] at hmc
      clear hres
      go_wp2_with fail
      refine hmc.mono ?_
      rintro e w2 ⟨rv, rfl, own2, b2⟩
      have hZ2 := hZ1.keep b2 hZ1.lt
      have q0 := hZ2.cell 0
      have q1 := hZ2.cell 1
      have q2 := hZ2.cell 2
      have f0 := hZ2.frozen 0
      have f1 := hZ2.frozen 1
      have f2 := hZ2.frozen 2
      simp at q0 q1 q2
      have BB2 := below_wt BB b2
      have hsz1 : w.heap.size + 3 ≤ w1.heap.size := by have := hZ1.lt; omega
      have hsz2 := b2.size
      generalize renCh c o = rc at own2 hr
      obtain ⟨ra, rcap, rfl⟩ := own2.shape
      go_wp2
      refine bodyPost_ret (v := .tuple #[.agg #[.int .i64 rc.n, .int .i64 rc.t, .slice ra rc.w.length rcap], .int .i64 0]) (by simp [results, Try.results32, go_sem, q0, q1, q2]) rfl ?_
      rw [hr.out]
      refine ⟨_, rfl, (own2.same ((((SameOn.refl _ _ _).set (Or.inl ?_) _).set (Or.inl ?_) _).set (Or.inl ?_) _)).wide ?_ ?_, ((BB2.setCell ?_ _).setCell ?_ _).setCell ?_ _⟩
      all_goals first | omega | (simp only; omega) | (simp [World.setCell]; done) | (simp [World.setCell]; omega)
    · have of' : isOrd o N = false := by simpa using oo
      have hr := Lib.hid (show renOf c o = (zeroCh, 2) by simp [renOf, oc, hNt, of'])
      have hio : ∀ W v, Ints W v o → Calls Try.prog 74 #[v, .int .i64 c.n] W fun e w' => e = .returned (.bool false) ∧ W = w' := fun W v hv => by
        have := isOrdering_any v o N W hv (by omega)
        rw [of'] at this; rw [hN]; exact this
      have hio' := Lib.hid hio
      clear hio hN hNt oo of'
      go_enter Try.func32, Try.ntmps32
      go_wp2_with fail
      refine (ValidChain_impl _ c _ Kc).mono ?_
      rintro e w1 ⟨rfl, b1⟩
      have hB1 := hB.keep b1 hB.lt
      have hD1 := hD.keep b1 hD.lt
      have hZ1 := hZ.keep b1 hZ.lt
      have Kd1 := Kd.keep b1
      have g0 : w1.cell? ⟨w.heap.size, 0, none⟩ = _ := hB1.cell 0
      have g2 : w1.cell? ⟨w.heap.size + 1, 0, none⟩ = _ := hD1.cell 0
      simp at g0 g2
      go_wp2_with fail
      refine (hio'.out _ _ Kd1).mono ?_
      rintro e w2 ⟨rfl, rfl⟩
      have q0 := hZ1.cell 0
      have q1 := hZ1.cell 1
      have q2 := hZ1.cell 2
      have f0 := hZ1.frozen 0
      have f1 := hZ1.frozen 1
      have f2 := hZ1.frozen 2
      simp at q0 q1 q2
      go_wp2
      refine bodyPost_ret (v := .tuple #[.agg #[.int .i64 0, .int .i64 0, .slice none 0 0], .int .i64 2]) (by simp [results, Try.results32, go_sem, q0, q1, q2]) rfl ?_
      rw [hr.out]
      refine ⟨_, rfl, zero_own _ _ _, (((below_wt B0 b1).setCell ?_ _).setCell ?_ _).setCell ?_ _⟩
      all_goals (simp only; omega)
  · have oc' : chOk c = false := by simpa using oc
    have hr := Lib.hid (show renOf c o = (zeroCh, 1) by simp [renOf, oc'])
    clear oc
    go_enter Try.func32, Try.ntmps32
    go_wp2_with fail
    refine (ValidChain_impl _ c _ Kc).mono ?_
    rintro e w1 ⟨rfl, b1⟩
    have hZ1 := hZ.keep b1 hZ.lt
    have q0 := hZ1.cell 0
    have q1 := hZ1.cell 1
    have q2 := hZ1.cell 2
    have f0 := hZ1.frozen 0
    have f1 := hZ1.frozen 1
    have f2 := hZ1.frozen 2
    simp at q0 q1 q2
    go_wp2
    refine bodyPost_ret (v := .tuple #[.agg #[.int .i64 0, .int .i64 0, .slice none 0 0], .int .i64 1]) (by simp [results, Try.results32, go_sem, q0, q1, q2]) rfl ?_
    rw [hr.out]
    refine ⟨_, rfl, zero_own _ _ _, (((below_wt B0 b1).setCell ?_ _).setCell ?_ _).setCell ?_ _⟩
    all_goals (simp only; omega)
end Go.Proofs.Ytepajimcnheofaa
