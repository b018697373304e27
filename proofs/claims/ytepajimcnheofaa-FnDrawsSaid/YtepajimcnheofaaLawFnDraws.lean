/- For every two codes, as many draws of the drawn chain lead to a state as the weight says, and a run by draws makes one step after the other.
   Conditions: none beyond the row's own (every input that can be read as data). -/
import Derived.Test.YtepajimcnheofaaKinds
import Derived.Test.YtepajimcnheofaaCount
import Derived.Test.YtepajimcnheofaaOpen
namespace Go.Proofs.Ytepajimcnheofaa.fnDraws
open Go.ChangeShapes Go.WideShapes Go.ChangeAt Go.RowKit Go.Deep Go.Joins
open Go.ChangeMaps (open_string shut_string)
set_option linter.unusedVariables false

theorem own : ownKnob Try.prog.godebug = none := by kernel_rfl
theorem laidOut : laidOutB Try.prog = true := by kernel_rfl

set_option maxRecDepth 100000 in
set_option maxHeartbeats 8000000 in
theorem walk_big {w : World} (v0 : Value) (l0 : Nat) (k0 : Bytes w v0 l0) (v1 : Value) (l1 : Nat) (k1 : Bytes w v1 l1) (hq : 4096 < l0 ∨ (l0 ≤ 4096 ∧ 4096 < l1)) :
    Calls Try.prog 10 #[v0, v1] w fun e w' => e = .returned (.bool true) ∧ Below w.heap.size w w' := by
  obtain ⟨a0, p0, rfl⟩ : ∃ a cap, v0 = .slice a l0 cap := by obtain ⟨_, a, cap, h, _⟩ := k0; exact ⟨a, cap, h⟩
  obtain ⟨a1, p1, rfl⟩ : ∃ a cap, v1 = .slice a l1 cap := by obtain ⟨_, a, cap, h, _⟩ := k1; exact ⟨a, cap, h⟩
  rcases hq with h | ⟨h, h'⟩
  · have hd := Lib.hid (show decide ((4096 : Int) < (l0 : Int)) = true from decide_eq_true (by omega))
    go_enter Try.func10, Try.ntmps10
    go_wp2_with fail
    refine (f6big_any _ l0 w k0).mono ?_
    rintro e w1 ⟨rfl, rfl⟩
    rw [hd.out]
    go_wp2
    go_ret
    exact ⟨rfl, Below.refl _ _⟩
  · have hd := Lib.hid (show decide ((4096 : Int) < (l0 : Int)) = false from decide_eq_false (by omega))
    have hd' := Lib.hid (show decide ((4096 : Int) < (l1 : Int)) = true from decide_eq_true (by omega))
    go_enter Try.func10, Try.ntmps10
    go_wp2_with fail
    refine (f6big_any _ l0 w k0).mono ?_
    rintro e w1 ⟨rfl, rfl⟩
    rw [hd.out]
    go_wp2_with fail
    refine (f6big_any _ l1 w k1).mono ?_
    rintro e w1 ⟨rfl, rfl⟩
    rw [hd'.out]
    go_wp2
    go_ret
    exact ⟨rfl, Below.refl _ _⟩

set_option maxRecDepth 100000 in
set_option maxHeartbeats 16000000 in
theorem walk_ok {w : World} (v0 : Value) (l0 : Nat) (k0 : Bytes w v0 l0) (v1 : Value) (l1 : Nat) (k1 : Bytes w v1 l1) (h0 : l0 ≤ 4096) (h1 : l1 ≤ 4096) :
    Calls Try.prog 10 #[v0, v1] w fun e w' => e = .returned (.bool true) ∧ Below w.heap.size w w' := by
  obtain ⟨a0, p0, rfl⟩ : ∃ a cap, v0 = .slice a l0 cap := by obtain ⟨_, a, cap, h, _⟩ := k0; exact ⟨a, cap, h⟩
  obtain ⟨a1, p1, rfl⟩ : ∃ a cap, v1 = .slice a l1 cap := by obtain ⟨_, a, cap, h, _⟩ := k1; exact ⟨a, cap, h⟩
  have hd := Lib.hid (show decide ((4096 : Int) < (l0 : Int)) = false from decide_eq_false (by omega))
  have hd' := Lib.hid (show decide ((4096 : Int) < (l1 : Int)) = false from decide_eq_false (by omega))
  go_enter Try.func10, Try.ntmps10
  go_wp2_with fail
  refine (f6big_any _ l0 w k0).mono ?_
  rintro e w1 ⟨rfl, rfl⟩
  rw [hd.out]
  go_wp2_with fail
  refine (f6big_any _ l1 w k1).mono ?_
  rintro e w1 ⟨rfl, rfl⟩
  rw [hd'.out]
  go_wp2_with fail
  refine (P6Chain_any _ l0 w k0 h0).mono ?_
  rintro e u1 ⟨cv, c, rfl, C, ok, c4, c6, b1⟩
  obtain ⟨n1, n2, t1, t2, hlen, hrows⟩ := chOk_all ok
  obtain ⟨ca, cac, rfl⟩ := C.shape
  have b2 := below1 u1 (.cells #[.int .i64 c.n, .int .i64 c.t, .slice ca c.w.length cac] 26)
  have hB := Blk.new u1 #[.int .i64 c.n, .int .i64 c.t, .slice ca c.w.length cac] 26
  have C2 := C.step b2
  have BB := below_wt b1 b2
  have hz2 : u1.heap.size < (u1.alloc (.cells #[.int .i64 c.n, .int .i64 c.t, .slice ca c.w.length cac] 26)).heap.size := by simp
  have z1 := b1.size
  have ok' := Lib.hid ok
  have hlen' := Lib.hid hlen
  have hrows' := Lib.hid hrows
  clear hlen hrows ok
  go_upto_region 4 with fail
  obtain ⟨u2, hu2⟩ : ∃ u, u1.alloc (.cells #[.int .i64 c.n, .int .i64 c.t, .slice ca c.w.length cac] 26) = u := ⟨_, rfl⟩
  rw [hu2] at hB C2 BB hz2 ⊢
  clear hu2 b1 b2 C
  obtain ⟨G, hG⟩ : ∃ G, u1.heap.size = G := ⟨_, rfl⟩
  rw [hG] at hB C2 hz2 z1 ⊢
  clear hG
  obtain ⟨q0, q1, q2⟩ := hB.three
  go_wp2_with fail
  refine (P6Pick_any _ l1 c.n u2 (k1.keep BB) h1 n1 (by omega)).mono ?_
  rintro e u3 ⟨s, rfl, s0, s1, b3⟩
  obtain ⟨s, rfl⟩ : ∃ n : Nat, s = n := ⟨s.toNat, by omega⟩
  clear q0 q1 q2
  replace hB := hB.step b3
  replace C2 := C2.step b3
  replace BB := below_wt BB b3
  have z3 := b3.size
  obtain ⟨N, hN⟩ : ∃ N : Nat, c.n = N := ⟨c.n.toNat, by omega⟩
  have hmk := make_len N (by omega) (by omega)
  rw [← hN] at hmk
  have hNt0 : c.n.toNat = N := by omega
  have hown := Own.made u3 (.int .i64 0) N 2 (by unfold maxLen; omega)
  have b4 := below1 u3 (.cells (madeCells #[.int .i64 0] N) 2)
  have hN' := Lib.hid hN
  have scl : s < c.w.length := by have := hlen'.out; omega
  obtain ⟨r1, r2, r3⟩ := okRow_all (hrows'.out _ (getD_mem (d := []) scl))
  have hstep := Lib.hid (fun (d : Int) (d0 : 0 ≤ d) (d1 : d < c.t) => show stepOf c s d = (((pk (c.w.getD s []) d : Nat) : Int), 0) by
    have e1 : inB s 0 (c.n - 1) = true := inB_iff.2 ⟨by omega, by omega⟩
    have e2 : inB d 0 (c.t - 1) = true := inB_iff.2 ⟨by omega, by omega⟩
    simp [stepOf, ok'.out, e1, e2])
  have hrow0 := Lib.hid (show ∃ row, c.w.getD s [] = row ∧ (row.length : Int) = c.n ∧ (∀ x ∈ row, 0 ≤ x) ∧ row.sum = c.t from ⟨_, rfl, r1, fun x hx => (r2 x hx).1, r3⟩)
  clear hN r1 r2 r3 b3
  obtain ⟨row, hr, rl, rn, rs⟩ := hrow0.out
  rw [hr] at hstep
  have hr' := Lib.hid hr
  have rl' := Lib.hid (show row.length = N by have := hN'.out; omega)
  have rn' := Lib.hid rn
  have rs' := Lib.hid rs
  have own0 := Lib.hid (show Own (u3.alloc (.cells (madeCells #[.int .i64 0] N) 2)) u3.heap.size (u3.heap.size + 1) 2 (.slice (some ⟨u3.heap.size, 0, none⟩) N N) (ints (cl row 0)) by
    rw [cl_zero rn, rl'.out]; simpa [ints] using hown)
  clear hr rl rn rs hown hrow0
  have z4 : u3.heap.size < (u3.alloc (.cells (madeCells #[.int .i64 0] N) 2)).heap.size := by simp
  obtain ⟨q0, q1, q2⟩ := hB.three
  go_upto_region 6 with fail
  clear q0 q1 q2 hmk hNt0
  replace hB := hB.step b4
  replace C2 := C2.step b4
  replace BB := below_wt BB b4
  generalize u3.alloc (.cells (madeCells #[.int .i64 0] N) 2) = u4 at *
  clear b4
  obtain ⟨K, hK⟩ : ∃ K, u3.heap.size = K := ⟨_, rfl⟩
  rw [hK] at own0 z4 z3 ⊢
  clear hK
  obtain ⟨T, hT⟩ : ∃ T : Nat, c.t = T := ⟨c.t.toNat, by omega⟩
  have hT' := Lib.hid hT
  have T60 : T ≤ 60 := by omega
  clear hT
  go_wp2
  go_loopw [8] (fun i wr => ∃ k : Nat, k ≤ T ∧ i = .int .i64 k ∧ Own wr K (K + 1) 2 (.slice (some ⟨K, 0, none⟩) N N) (ints (cl row k)) ∧ Blk wr G #[.int .i64 c.n, .int .i64 c.t, .slice ca c.w.length cac] 26 ∧ ChMine 37 2 wr w.heap.size G (.agg #[.int .i64 c.n, .int .i64 c.t, .slice ca c.w.length cac]) c ∧ Below w.heap.size w wr ∧ K < wr.heap.size) (fun i _ => T - (intOf i).toNat)
  case atStart => exact ⟨0, Nat.zero_le _, rfl, own0.out, hB, C2, BB, by omega⟩
  case round =>
    obtain ⟨wo, rfl⟩ : ∃ wo : World, wo = wr := ⟨_, rfl⟩
    obtain ⟨k, hk, rfl, hown, hB1, C1, bel, hKl⟩ := hrel
    clear own0 hB C2 BB z4
    obtain ⟨q0, q1, q2⟩ := hB1.three
    by_cases hlt : k < T
    · have kT : (k : Int) < c.t := by have := hT'.out; omega
      have hst := hstep.out k (by omega) kT
      have hsd := StepByDraw_impl _ c s k wo C1.ch
      rw [hst] at hsd
      have hpl : pk row k < row.length := pk_lt k (by have := rl'.out; have := hN'.out; omega)
      have hcs := cl_step rn'.out (d := k) (by omega) (by have := rs'.out; omega)
      have hcb := cl_bd hpl (k := k) (by omega) (by omega) rn'.out
      obtain ⟨p, hp⟩ : ∃ p, pk row k = p := ⟨_, rfl⟩
      rw [hp] at hsd hpl hcs hcb
      have hcs' := Lib.hid hcs
      clear hst hp hcs
      go_wp2_with fail
      refine hsd.mono ?_
      rintro e w2 ⟨rfl, b5⟩
      have hB2 := hB1.step b5
      have C3 := C1.step b5
      have bel2 := below_wt bel b5
      have own2 := hown.keep (by omega) b5
      have z5 := b5.size
      clear q0 q1 q2 hB1 C1 hown hsd
      obtain ⟨q0, q1, q2⟩ := hB2.three
      obtain ⟨g, gc, hge, -, -, hglt, hgc, hgf⟩ := own2.at (by simp [ints, cl_length, rl'.out]; have := hN'.out; omega)
      simp at hge
      obtain ⟨rfl, -⟩ := hge
      have cp := hgc p (by simp [ints, cl_length]; exact hpl)
      rw [ints_getD _ _ (by rw [cl_length]; exact hpl)] at cp
      have fp := hgf p
      have own3 := own2.set p (.int .i64 ((cl row k).getD p 0 + 1))
      rw [ints_set, hcs'.out] at own3
      have own3' := Lib.hid own3
      have pN : (p : Int) < c.n := by have := rl'.out; have := hN'.out; omega
      have pN2 : (p : Int) < (N : Int) := by have := rl'.out; omega
      have n1a : ¬ ((p : Int) < 0) := by omega
      have n2a : ¬ (c.n ≤ (p : Int)) := by omega
      have n3a : decide ((p : Int) < 0) = false := decide_eq_false n1a
      have n4a : decide (c.n ≤ (p : Int)) = false := decide_eq_false n2a
      obtain ⟨xx, hxx⟩ : ∃ xx, (cl row k).getD p 0 = xx := ⟨_, rfl⟩
      rw [hxx] at cp hcb
      have hxx' := Lib.hid hxx
      obtain ⟨hcb0, hcb1⟩ := hcb
      clear hxx hgc hgf own3 own2
      go_wp2
      go_roundw
      case rel =>
        refine ⟨k + 1, by omega, by go_num, ?_, hB2.setOther (a := ⟨K, p, none⟩) (by show G ≠ K; omega) _, ⟨C3.own.same ((SameOn.refl _ _ _).set (a := ⟨K, p, none⟩) (Or.inr (by show G ≤ K; omega)) _), by have := C3.le; simpa [World.setCell] using this⟩, bel2.setCell (p := ⟨K, p, none⟩) (by show w.heap.size ≤ K; omega) _, by simp [World.setCell]; omega⟩
        have h2 := own3'.out
        rw [hxx'.out] at h2
        exact_mod_cast h2
      case measure => simp [intOf]; omega
    · obtain rfl : k = T := by omega
      have kT : ¬ ((k : Int) < c.t) := by have := hT'.out; omega
      have hcl := Lib.hid (show cl row k = row by have := cl_all rn'.out; rw [rs'.out, hT'.out] at this; exact this)
      rw [hcl.out] at hown
      have CM : IntsMine 2 wo K (K + 1) (.slice (some ⟨K, 0, none⟩) N N) row := ⟨hown, by omega⟩
      clear hown
      go_wp2_with fail
      refine (P6Draws_any _ l1 c.t wo (k1.keep bel) h1 t1 t2).mono ?_
      rintro e w5 ⟨dv, ds, rfl, D, dl, dr, b5⟩
      clear q0 q1 q2
      obtain ⟨da, dac, rfl⟩ := D.shape
      replace hB1 := hB1.step b5
      replace C1 := C1.step b5
      replace CM := CM.step b5
      replace bel := below_wt bel b5
      have hall : allDr c ds = true := by
        simp only [allDr, List.all_eq_true]
        intro d hd
        have := dr d hd
        exact inB_iff.2 ⟨by omega, by omega⟩
      have hrun : runOf c s ds = (runL c s ds (ds.length + 1), 0) := by
        have e1 : inB (s : Int) 0 (c.n - 1) = true := inB_iff.2 ⟨by omega, by omega⟩
        have e2 : ds.length ≤ 200 := by omega
        simp only [runOf, ok'.out, e1, e2, hall]; simp
      obtain ⟨L, hL⟩ : ∃ L, runL c s ds (ds.length + 1) = L := ⟨_, rfl⟩
      have hLl : L.length = ds.length + 1 := by rw [← hL]; simp [runL]
      have hLg := Lib.hid (show ∀ i, i < ds.length + 1 → L.getD i 0 = ((stAt c s ds i : Nat) : Int) from fun i hi => by rw [← hL]; simp [runL, List.getD, hi])
      have hLl' := Lib.hid hLl
      have hdr' := Lib.hid dr
      have hri := RunByDraws_impl _ _ c s ds w5 C1.ch D.ch
      rw [hrun, hL] at hri
      obtain ⟨q0, q1, q2⟩ := hB1.three
      have hrs := Lib.hid (fun (W : World) (hC : ChR W (.agg #[.int .i64 c.n, .int .i64 c.t, .slice ca c.w.length cac]) c) (hD : Ints W (.slice da ds.length dac) ds) => show Calls Try.prog 35 #[.agg #[.int .i64 c.n, .int .i64 c.t, .slice ca c.w.length cac], .int .i64 s, .slice da ds.length dac] W (fun e w' => ∃ rv, e = .returned (.tuple #[rv, .int .i64 0]) ∧ IntsMine 2 w' W.heap.size w'.heap.size rv L ∧ Below W.heap.size W w') by
        have := RunByDraws_spec _ _ c s ds W hC hD
        rw [hrun, hL] at this; exact this)
      clear hall hrun hL dr hLl
      go_wp2_with fail
      refine hri.mono ?_
      rintro e w6 ⟨rv, rfl, R, b6⟩
      clear q0 q1 q2 hri
      obtain ⟨ra, rac, rfl⟩ := R.shape
      replace hB1 := hB1.step b6
      replace C1 := C1.step b6
      replace CM := CM.step b6
      replace D := D.step b6
      replace bel := below_wt bel b6
      obtain ⟨q0, q1, q2⟩ := hB1.three
      go_wp2_with fail
      refine (hrs.out w6 C1.ch D.ch).mono ?_
      rintro e w7 ⟨ev, rfl, E, b7⟩
      clear q0 q1 q2 hrs
      obtain ⟨ea, eac, rfl⟩ := E.shape
      replace hB1 := hB1.step b7
      replace C1 := C1.step b7
      replace CM := CM.step b7
      replace D := D.step b7
      replace R := R.step b7
      replace bel := below_wt bel b7
      have hf := f6ints_any _ _ L L w7 R.ch E.ch
      rw [show decide (L = L) = true by simp] at hf
      go_wp2_with fail
      refine hf.mono ?_
      rintro e w8 ⟨rfl, m8, hw8⟩
      have b8 : Below w7.heap.size w7 w8 := by rw [hw8]; exact below_drewN (Below.refl _ _) m8
      clear hw8 hf R
      replace hB1 := hB1.step b8
      replace C1 := C1.step b8
      replace CM := CM.step b8
      replace D := D.step b8
      replace E := E.step b8
      replace bel := below_wt bel b8
      obtain ⟨xb, xo, xc, xr, hxv, _, hx⟩ := C1.ch.rows.at (by omega)
      simp at hxv
      obtain ⟨rfl, rfl⟩ := hxv
      obtain ⟨xcell, xrow⟩ := hx s scl
      rw [hr'.out] at xrow
      have sI : (s : Int) < (c.w.length : Int) := by omega
      have hf2 := f6ints_any _ _ row row w8 CM.ch xrow
      rw [show decide (row = row) = true by simp] at hf2
      generalize xr s = xv at xcell hf2
      obtain ⟨q0, q1, q2⟩ := hB1.three
      clear hx xrow
      go_wp2_with fail
      have hlr : (N : Int) = N := rfl
      have hsl : (Value.slice (some ⟨K, 0, none⟩) N N) = .slice (some ⟨K, 0, none⟩) N N := rfl
      refine hf2.mono ?_
      rintro e w9 ⟨rfl, m9, hw9⟩
      have b9 : Below w8.heap.size w8 w9 := by rw [hw9]; exact below_drewN (Below.refl _ _) m9
      clear hw9 hf2 q0 q1 q2 xcell CM hlr hsl
      replace hB1 := hB1.step b9
      replace C1 := C1.step b9
      replace D := D.step b9
      replace E := E.step b9
      replace bel := below_wt bel b9
      have hBk := Lib.hid (fun W (h : Below w9.heap.size w9 W) => hB1.step h)
      have hCk := Lib.hid (fun W (h : Below w9.heap.size w9 W) => C1.step h)
      have hDk := Lib.hid (fun W (h : Below w9.heap.size w9 W) => D.step h)
      have hEk := Lib.hid (fun W (h : Below w9.heap.size w9 W) => E.step h)
      clear hB1 C1 D E b5 b6 b7 b8 b9
      go_wp2
      go_loopw [16] (fun i wr => ∃ k : Nat, k ≤ ds.length ∧ i = .int .i64 k ∧ Below w9.heap.size w9 wr) (fun i _ => ds.length - (intOf i).toNat)
      case atStart => exact ⟨0, Nat.zero_le _, rfl, Below.refl _ _⟩
      case round =>
        obtain ⟨wo, rfl⟩ : ∃ wo : World, wo = wr := ⟨_, rfl⟩
        obtain ⟨i, hi, rfl, b10⟩ := hrel
        have hB1 := hBk.out wo b10
        have C1 := hCk.out wo b10
        have D := hDk.out wo b10
        have E := hEk.out wo b10
        obtain ⟨eb, eo, ec, hev, elt, hec⟩ := E.ch.at (by have := hLl'.out; omega)
        simp at hev
        obtain ⟨rfl, rfl⟩ := hev
        by_cases hil : i < ds.length
        · have iI : (i : Int) < (ds.length : Int) := by omega
          have iL : (i : Int) < (L.length : Int) := by have := hLl'.out; omega
          have iL1 : (i : Int) + 1 < (L.length : Int) := by have := hLl'.out; omega
          obtain ⟨db, doff, dc, hdv, dlt, hdc⟩ := D.ch.at (by omega)
          simp at hdv
          obtain ⟨rfl, rfl⟩ := hdv
          have e1 := hec i (by have := hLl'.out; omega)
          have e2 := hec (i + 1) (by have := hLl'.out; omega)
          have e3 := hdc i hil
          rw [hLg.out i (by omega)] at e1
          rw [hLg.out (i + 1) (by omega)] at e2
          have hdi := hdr'.out _ (getD_mem (d := 0) hil)
          have hql := stAt_lt ok'.out scl ds i
          have hsi : stAt c s ds (i + 1) = pk (c.w.getD (stAt c s ds i) []) (ds.getD i 0) := rfl
          rw [hsi] at e2
          obtain ⟨d, hd0⟩ : ∃ d, ds.getD i 0 = d := ⟨_, rfl⟩
          rw [hd0] at e2 e3 hdi
          clear hsi hd0
          generalize stAt c s ds i = q at e1 e2 hql
          have hst : stepOf c q d = (((pk (c.w.getD q []) d : Nat) : Int), 0) := by
            have g1 : inB (q : Int) 0 (c.n - 1) = true := inB_iff.2 ⟨by omega, by have := hlen'.out; omega⟩
            have g2 : inB d 0 (c.t - 1) = true := inB_iff.2 ⟨by omega, by omega⟩
            simp [stepOf, ok'.out, g1, g2]
          have hsd := StepByDraw_impl _ c q d wo.drew (C1.step (below_drew wo)).ch
          rw [hst] at hsd
          generalize pk (c.w.getD q []) d = r at e2 hsd
          have hS := Lib.hid (fun (w' : World) (h : Below wo.heap.size wo w') => show w'.cell? ⟨G, 0, none⟩ = some (.int .i64 c.n) ∧ w'.cell? ⟨G, 1, none⟩ = some (.int .i64 c.t) ∧ w'.cell? ⟨G, 2, none⟩ = some (.slice (some ⟨xb, xo, none⟩) c.w.length cac) ∧ w'.cell? ⟨eb, eo + i, none⟩ = some (.int .i64 q) ∧ w'.cell? ⟨db, doff + i, none⟩ = some (.int .i64 d) from
            ⟨(hB1.step h).cell 0, (hB1.step h).cell 1, (hB1.step h).cell 2, (h.cell (p := ⟨eb, eo + i, none⟩) elt).trans e1, (h.cell (p := ⟨db, doff + i, none⟩) dlt).trans e3⟩)
          obtain ⟨y1, y2, y3, y4, y5⟩ := hS.out wo (Below.refl _ _)
          have hE2 := Lib.hid (fun (w' : World) (h : Below wo.heap.size wo w') => (h.cell (p := ⟨eb, eo + (i + 1), none⟩) elt).trans e2)
          have z1 : IntKind.i64.wrap ((i : Int) + 1) = (i : Int) + 1 := wrap_id (by omega)
          have gol : True := trivial
          clear hst e1 e2 e3 hec hdc
          go_upto_region 21 with fail
          go_region_held3 (fun w' => w'.cell? ⟨G, 0, none⟩ = some (.int .i64 c.n) ∧ w'.cell? ⟨G, 1, none⟩ = some (.int .i64 c.t) ∧ w'.cell? ⟨G, 2, none⟩ = some (.slice (some ⟨xb, xo, none⟩) c.w.length cac) ∧ w'.cell? ⟨eb, eo + i, none⟩ = some (.int .i64 q) ∧ w'.cell? ⟨db, doff + i, none⟩ = some (.int .i64 d))
            (first | exact hS.out _ hb8 | go_keep)
            ((go_at_call 41; (with_reducible refine hsd.mono ?_); rintro e w8 ⟨rfl, b8⟩; have hb8 : Below wo.heap.size wo w8 := below_wt (below_drew wo) b8))
          have e2 := hE2.out w8 hb8
          have b11 := below_wt b10 hb8
          clear y1 y2 y3 y4 y5 z1
          go_wp2
          go_roundw
          case rel => exact ⟨i + 1, by omega, by go_num, b11⟩
          case measure => simp [intOf]; omega
        · obtain rfl : i = ds.length := by omega
          have e0 := hec 0 (by have := hLl'.out; omega)
          rw [hLg.out 0 (by omega)] at e0
          have hs0 : stAt c s ds 0 = s := rfl
          rw [hs0] at e0
          simp at e0
          have hle : ((L.length : Int) == (ds.length : Int) + 1) = true := beq_iff_eq.2 (by have := hLl'.out; omega)
          have L0 : (0 : Int) < (L.length : Int) := by have := hLl'.out; omega
          clear hs0 hec
          go_wp2
          go_ret
          exact ⟨rfl, bel.trans (b10.mono bel.size)⟩

theorem walk {w : World} (v0 : Value) (l0 : Nat) (k0 : Bytes w v0 l0) (v1 : Value) (l1 : Nat) (k1 : Bytes w v1 l1) :
    Calls Try.prog 10 #[v0, v1] w fun e w' => e = .returned (.bool true) ∧ Below w.heap.size w w' := by
  by_cases h0 : l0 ≤ 4096
  · by_cases h1 : l1 ≤ 4096
    · exact walk_ok v0 l0 k0 v1 l1 k1 h0 h1
    · exact walk_big v0 l0 k0 v1 l1 k1 (Or.inr ⟨h0, by omega⟩)
  · exact walk_big v0 l0 k0 v1 l1 k1 (Or.inl (by omega))

set_option maxRecDepth 100000 in
theorem lifted (os : Os) (started : os.Started) (H : Type) (enc : TypeId × Value → H) :
    ReturnsInHanded {} Try.checked os 10 .any (Rows.fnDrawsSpec.pre6 enc Try.prog Try.f10 Rows.fnDrawsRow.domain false) (Rows.fnDrawsSpec.post enc Try.prog Try.f10 false true false false) := by
  refine returnsInHanded_of_change (C := Try.checked) own started (by kernel_rfl) Try.func10
    (ChangeSpec.witness6 (enc := enc) (C := Try.checked) false ⟨#[], #[.slice none 0 0, .slice none 0 0], []⟩ 8 (by kernel_rfl) (by kernel_rfl) (by kernel_rfl) (by kernel_rfl)) ?_
  intro W base args ds gs before hval0 hW hcnd _
  have hval : ∀ (j : Nat) t v, Try.f10.params[j]? = some t → args[j]? = some v → Value.okWide Try.prog W .any base t v := hval0
  have hW' := hW
  obtain ⟨p, q, hA0, hV, rfl, hfz, hnd⟩ := hW
  have hA : DataW.TrodAll enc Try.prog W 0 (fun _ => true) true Try.f10.params.toList args.toList ds p := hA0
  rw [Try.params10] at hA hval
  obtain ⟨v0, vs0, d0, ds0, p0, q0, hargs, rfl, rfl, h0, r0⟩ := trodAll_cons hA
  obtain ⟨v1, vs1, d1, ds1, p1, q1, rfl, rfl, rfl, h1, r1⟩ := trodAll_cons r0
  obtain ⟨rfl, rfl, rfl⟩ := trodAll_nil r1
  obtain rfl : args = #[v0, v1] := by cases args; simp_all
  obtain ⟨rfl, rfl⟩ := trodVars_none hV
  have k0 := h0
  have lt0 : ∀ x ∈ p0, x.block < W.heap.size := by obtain ⟨m, hm⟩ := k0; exact DataW.trod_lt m _ _ _ hm
  obtain ⟨c0, w0⟩ := open_code (hval 0 46 v0 rfl rfl) h0
  have k1 := h1
  have lt1 : ∀ x ∈ p1, x.block < W.heap.size := by obtain ⟨m, hm⟩ := k1; exact DataW.trod_lt m _ _ _ hm
  obtain ⟨c1, w1⟩ := open_code (hval 1 46 v1 rfl rfl) h1
  clear hA0 hval0
  refine (walk v0 c0 w0 v1 c1 w1).mono fun e W' ⟨he, bel⟩ => ?_
  subst he
  exact ⟨_, rfl, _, _, _, [], _, [], hW', trodAll_mk1 (shut_bool Try.underlying4 _), (trodAll_cons_mk (Below.trod laidOut (by kernel_rfl) (of_decide_eq_true (by kernel_rfl)) k0 bel lt0) (trodAll_cons_mk (Below.trod laidOut (by kernel_rfl) (of_decide_eq_true (by kernel_rfl)) k1 bel lt1) trodAll_mk0)), rfl, bel.frame _, fun h => by cases h⟩

theorem over : Rows.fnDrawsRow.holds Try.pinned (OpenSpec.ofChange Rows.fnDrawsSpec) :=
  OpenClaim.holds_of_wide 10 Try.f10 rfl rfl rfl rfl rfl rfl rfl ⟨rfl, rfl, rfl, rfl, rfl⟩ rfl rfl rfl rfl rfl (by kernel_rfl) Try.func10 (by kernel_rfl)
    (of_decide_eq_true (by kernel_rfl)) (by unfold Func.isWrapper; first | (rw [if_pos (by decide +kernel)]; kernel_rfl) | (rw [if_neg (by decide +kernel)]; exact ⟨rfl, rfl⟩))
    (fun os started H enc _ => lifted os started H enc)

/-- the statement -/
theorem proved : Rows.FnDrawsSaid := over
end Go.Proofs.Ytepajimcnheofaa.fnDraws
