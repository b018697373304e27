/- Services as the laws handle them, and ValidService of both sides. Conditions: those of the rows. -/
import Derived.Test.YtnehnlejknieoaaOkS
import Derived.Test.YtnehnlejknieoaaKinds
import Derived.Test.YtnehnlejknieoaaSz
import Derived.Test.YtnehnlejknieoaaTo
import Derived.Test.YtnehnlejknieoaaEq
import Derived.Test.YtnehnlejknieoaaOpen
namespace Go.Proofs.Ytnehnlejknieoaa
open Go.ChangeShapes Go.WideShapes Go.ChangeAt Go.RowKit Go.Deep Go.Joins
set_option linter.unusedVariables false
set_option linter.unusedSimpArgs false

/-- a service: its chain, the base, the samples, the workers -/
structure Sv where
  c : Ch
  b : Int
  s : Int
  k : Int
def svOk (v : Sv) : Bool := chOk v.c && (inB v.s 1 8 && (inB v.k 1 4 && inB v.b 0 999999992))
def SvR (w : World) (cv : Value) (v : Sv) : Prop := ∃ r, cv = .agg #[.int .i64 v.c.n, .int .i64 v.c.t, r, .int .i64 v.b, .int .i64 v.s, .int .i64 v.k] ∧ Rows2 w r v.c.w
theorem SvR.keep {w w' : World} {cv : Value} {c : Sv} (h : SvR w cv c) (hb : Below w.heap.size w w') : SvR w' cv c := by
  obtain ⟨v, hv, hr⟩ := h
  exact ⟨v, hv, hr.keep hb⟩
theorem SvR.shape {w : World} {cv : Value} {c : Sv} (h : SvR w cv c) : ∃ a cap, cv = .agg #[.int .i64 c.c.n, .int .i64 c.c.t, .slice a c.c.w.length cap, .int .i64 c.b, .int .i64 c.s, .int .i64 c.k] := by
  obtain ⟨v, rfl, hr⟩ := h
  obtain ⟨_, a, cap, rfl⟩ := hr.len
  exact ⟨a, cap, rfl⟩
theorem six_of {cs : Array Value} (h : cs.size = 6) : ∃ a b c d e f, cs = #[a, b, c, d, e, f] := by
  obtain ⟨l⟩ := cs
  match l, h with
  | [a, b, c, d, e, f], _ => exact ⟨a, b, c, d, e, f, rfl⟩
set_option maxRecDepth 100000 in
theorem open_service {H : Type} {enc : TypeId × Value → H} {W : World} {base b0 : Nat} {held : Bool} {v : Value} {d : DataW H} {p : List MemPlace}
    (hv : Value.okWide Try.prog W .any base 42 v) (h : DataW.Trod enc Try.prog W b0 (fun _ => true) held 42 v d p) : ∃ c, SvR W v c := by
  obtain ⟨cs, rfl, hsz⟩ := okWide_struct Try.underlying42 hv
  obtain ⟨c0, c1, c2, c3, c4, c5, rfl⟩ := six_of (hsz.trans (by kernel_rfl))
  obtain ⟨fuel, hf⟩ := h
  obtain ⟨y0, y1, y2, y3, n, _, _, h0, h1, h2, h3⟩ := trod_struct4 Try.underlying42 hf
  have k3 : Try.prog.cellsOf 30 = 3 := by kernel_rfl
  have k1 : Try.prog.cellsOf 2 = 1 := by kernel_rfl
  have ks : Try.prog.cellsOf 28 = 1 := by kernel_rfl
  simp only [Value.cells, k3, k1, List.drop_succ_cons, List.drop_zero, List.take_succ_cons, List.take_zero] at h0 h1 h2 h3
  obtain ⟨z0, z1, z2, m, _, _, g0, g1, g2⟩ := trod_struct3 Try.underlying30 h0
  simp only [k1, ks, List.drop_succ_cons, List.drop_zero, List.take_succ_cons, List.take_zero] at g0 g1 g2
  obtain ⟨x0, e0, _, _⟩ := DataW.trod_int Try.underlying2 g0
  obtain ⟨x1, e1, _, _⟩ := DataW.trod_int Try.underlying2 g1
  obtain ⟨xss, hr⟩ := open_rows g2
  obtain ⟨x3, e3, _, _⟩ := DataW.trod_int Try.underlying2 h1
  obtain ⟨x4, e4, _, _⟩ := DataW.trod_int Try.underlying2 h2
  obtain ⟨x5, e5, _, _⟩ := DataW.trod_int Try.underlying2 h3
  simp at e0 e1 e3 e4 e5
  subst e0 e1 e3 e4 e5
  exact ⟨⟨⟨x0, x1, xss⟩, x3, x4, x5⟩, c2, rfl, hr⟩

set_option maxHeartbeats 2000000 in
theorem szService_any (cv : Value) (s : Sv) (left : Int) (w : World) (hv : SvR w cv s) (h0 : 0 ≤ left) (h1 : left ≤ 1048576) :
    Calls Try.prog 23 #[cv, .int .i64 left] w fun e w' => e = .returned (.int .i64 (szLeft left (s.c.w.length + total s.c.w))) ∧ Below w.heap.size w w' := by
  obtain ⟨v, rfl, hr⟩ := hv
  have B1 := below1 w (.cells #[.int .i64 s.c.n, .int .i64 s.c.t, v, .int .i64 s.b, .int .i64 s.s, .int .i64 s.k] 42)
  have hs := Lib.hid (szChain_any (.agg #[.int .i64 s.c.n, .int .i64 s.c.t, v]) s.c left _ ⟨v, rfl, hr.keep B1⟩ h0 h1)
  by_cases h : left < (s.c.w.length + total s.c.w : Nat)
  · have hz := Lib.hid (szLeft_no h)
    have hneg : szLeft left (s.c.w.length + total s.c.w) < 0 := by rw [hz.out]; decide
    generalize szLeft left (s.c.w.length + total s.c.w) = L at *
    go_enter Try.func23, Try.ntmps23
    go_wp2_with fail
    (with_reducible refine hs.out.mono ?_)
    rintro e w1 ⟨rfl, b1⟩
    go_wp2
    go_ret
    exact ⟨ret_int hz.out.symm, below_wt B1 b1⟩
  · have hz := Lib.hid (szLeft_yes (show ((s.c.w.length + total s.c.w : Nat) : Int) ≤ left by omega))
    have hneg : 0 ≤ szLeft left (s.c.w.length + total s.c.w) := by rw [hz.out]; omega
    generalize szLeft left (s.c.w.length + total s.c.w) = L at *
    go_enter Try.func23, Try.ntmps23
    go_wp2_with fail
    (with_reducible refine hs.out.mono ?_)
    rintro e w1 ⟨rfl, b1⟩
    go_wp2
    go_ret
    exact ⟨rfl, below_wt B1 b1⟩

/-- a service that a call made -/
def SvOwn (w : World) (lo hi : Nat) (cv : Value) (s : Sv) : Prop := ∃ r, cv = .agg #[.int .i64 s.c.n, .int .i64 s.c.t, r, .int .i64 s.b, .int .i64 s.s, .int .i64 s.k] ∧ OwnRows 22 2 w lo hi r s.c.w
theorem SvOwn.ch {w : World} {lo hi : Nat} {cv : Value} {c : Sv} (h : SvOwn w lo hi cv c) : SvR w cv c := by
  obtain ⟨v, hv, hr⟩ := h
  exact ⟨v, hv, hr.rows⟩
theorem SvOwn.shape {w : World} {lo hi : Nat} {cv : Value} {c : Sv} (h : SvOwn w lo hi cv c) : ∃ a cap, cv = .agg #[.int .i64 c.c.n, .int .i64 c.c.t, .slice a c.c.w.length cap, .int .i64 c.b, .int .i64 c.s, .int .i64 c.k] := h.ch.shape

set_option maxRecDepth 100000 in
set_option maxHeartbeats 4000000 in
theorem toService_any (cv : Value) (s : Sv) (w : World) (hv : SvR w cv s) (h1 : s.c.w.length + total s.c.w ≤ 2097152) :
    Calls Try.prog 25 #[cv] w fun e w' => ∃ cv', e = .returned cv' ∧ SvOwn w' w.heap.size w'.heap.size cv' s ∧ Below w.heap.size w w' := by
  obtain ⟨v, rfl, hr⟩ := hv
  obtain ⟨⟨n, t, rows⟩, b, ss, k⟩ := s
  simp only at hr h1 ⊢
  have B3 := below3 w (.cells #[.int .i64 n, .int .i64 t, v, .int .i64 b, .int .i64 ss, .int .i64 k] 42) (.cells #[.int .i64 0, .int .i64 0, .slice none 0 0, .int .i64 0, .int .i64 0, .int .i64 0] 46) (.cells #[.int .i64 0, .int .i64 0, .slice none 0 0, .int .i64 0, .int .i64 0, .int .i64 0] 46)
  have hA0 := ((Blk.new w #[.int .i64 n, .int .i64 t, v, .int .i64 b, .int .i64 ss, .int .i64 k] 42).alloc (.cells #[.int .i64 0, .int .i64 0, .slice none 0 0, .int .i64 0, .int .i64 0, .int .i64 0] 46)).alloc (.cells #[.int .i64 0, .int .i64 0, .slice none 0 0, .int .i64 0, .int .i64 0, .int .i64 0] 46)
  have hA1 := (Blk.new (w.alloc (.cells #[.int .i64 n, .int .i64 t, v, .int .i64 b, .int .i64 ss, .int .i64 k] 42)) #[.int .i64 0, .int .i64 0, .slice none 0 0, .int .i64 0, .int .i64 0, .int .i64 0] 46).alloc (.cells #[.int .i64 0, .int .i64 0, .slice none 0 0, .int .i64 0, .int .i64 0, .int .i64 0] 46)
  have hA2 := Blk.new ((w.alloc (.cells #[.int .i64 n, .int .i64 t, v, .int .i64 b, .int .i64 ss, .int .i64 k] 42)).alloc (.cells #[.int .i64 0, .int .i64 0, .slice none 0 0, .int .i64 0, .int .i64 0, .int .i64 0] 46)) #[.int .i64 0, .int .i64 0, .slice none 0 0, .int .i64 0, .int .i64 0, .int .i64 0] 46
  simp only [World.size_alloc] at hA1 hA2
  have hc := Lib.hid (toChain_any (.agg #[.int .i64 n, .int .i64 t, v]) ⟨n, t, rows⟩ _ ⟨v, rfl, hr.keep B3⟩ h1)
  go_enter Try.func25, Try.ntmps25
  go_wp2_with fail
  (with_reducible refine hc.out.mono ?_)
  rintro e w1 ⟨v', rfl, hown, hbel⟩
  obtain ⟨a', cap', rfl⟩ := hown.shape
  have k0 := hA0.keep hbel hA0.lt
  have k1 := hA1.keep hbel hA1.lt
  have k2 := hA2.keep hbel hA2.lt
  have hsz := hbel.size
  simp only [World.size_alloc] at hsz
  obtain ⟨v2, hv2, hown2⟩ := hown
  have B' := Lib.hid (below_wt B3 hbel)
  have o3 := k0.cell 3
  have o4 := k0.cell 4
  have o5 := k0.cell 5
  have f0 := k1.frozen 0
  have f1 := k1.frozen 1
  have f2 := k1.frozen 2
  have f3 := k1.frozen 3
  have f4 := k1.frozen 4
  have f5 := k1.frozen 5
  have g0 := k2.frozen 0
  have g1 := k2.frozen 1
  have g2 := k2.frozen 2
  have g3 := k2.frozen 3
  have g4 := k2.frozen 4
  have g5 := k2.frozen 5
  have c0 := k2.cell 0
  have c1 := k2.cell 1
  have c2 := k2.cell 2
  have c3 := k2.cell 3
  have c4 := k2.cell 4
  have c5 := k2.cell 5
  have d0 := k1.cell 0
  have d1 := k1.cell 1
  have d2 := k1.cell 2
  have d3 := k1.cell 3
  have d4 := k1.cell 4
  have d5 := k1.cell 5
  simp at o3 o4 o5 c0 c1 c2 c3 c4 c5 d0 d1 d2 d3 d4 d5
  have e2 : .slice a' rows.length cap' = v2 := by
    simp only [Value.agg.injEq, Array.mk.injEq, List.cons.injEq, and_true, true_and] at hv2
    exact hv2
  rw [← e2] at hown2
  simp only [World.size_alloc] at hown2
  have hown2' := Lib.hid hown2
  clear hown2 hbel B3 e2 hv2
  go_wp2
  refine bodyPost_ret (v := .agg #[.int .i64 n, .int .i64 t, .slice a' rows.length cap', .int .i64 b, .int .i64 ss, .int .i64 k]) (by simp [results, Try.results25, go_sem, d0, d1, d2, d3, d4, d5]) rfl ?_
  refine ⟨_, rfl, ⟨_, rfl, (hown2'.out.same ?_).wide (by omega) (by simp [World.setCell])⟩, ?_⟩
  · repeat (refine SameOn.set ?_ (by simp only; omega) _)
    exact SameOn.refl _ _ _
  · repeat (refine Below.setCell ?_ (by simp only; omega) _)
    exact B'.out

set_option maxRecDepth 100000 in
set_option maxHeartbeats 4000000 in
theorem eqService_self (x y : Value) (s : Sv) (w : World) (hx : SvR w x s) (hy : SvR w y s) :
    Calls Try.prog 27 #[x, y] w fun e w' => e = .returned (.bool true) ∧ Below w.heap.size w w' := by
  obtain ⟨v1, rfl, h1⟩ := hx
  obtain ⟨v2, rfl, h2⟩ := hy
  obtain ⟨⟨n, t, rows⟩, b, ss, k⟩ := s
  simp only at h1 h2 ⊢
  have B2 := below2 w (.cells #[.int .i64 n, .int .i64 t, v1, .int .i64 b, .int .i64 ss, .int .i64 k] 46) (.cells #[.int .i64 n, .int .i64 t, v2, .int .i64 b, .int .i64 ss, .int .i64 k] 46)
  have hX := (Blk.new w #[.int .i64 n, .int .i64 t, v1, .int .i64 b, .int .i64 ss, .int .i64 k] 46).alloc (.cells #[.int .i64 n, .int .i64 t, v2, .int .i64 b, .int .i64 ss, .int .i64 k] 46)
  have hY := Blk.new (w.alloc (.cells #[.int .i64 n, .int .i64 t, v1, .int .i64 b, .int .i64 ss, .int .i64 k] 46)) #[.int .i64 n, .int .i64 t, v2, .int .i64 b, .int .i64 ss, .int .i64 k] 46
  simp only [World.size_alloc] at hY
  have hc := eqChain_any (.agg #[.int .i64 n, .int .i64 t, v1]) (.agg #[.int .i64 n, .int .i64 t, v2]) ⟨n, t, rows⟩ ⟨n, t, rows⟩ _ ⟨v1, rfl, h1.keep B2⟩ ⟨v2, rfl, h2.keep B2⟩
  rw [chEq_self] at hc
  have hc' := Lib.hid hc
  clear hc
  go_enter Try.func27, Try.ntmps27
  go_wp2_with fail
  (with_reducible refine hc'.out.mono ?_)
  rintro e w1 ⟨rfl, b1⟩
  have X := hX.keep b1 hX.lt
  have Y := hY.keep b1 hY.lt
  have x3 := X.cell 3
  have x4 := X.cell 4
  have x5 := X.cell 5
  have y3 := Y.cell 3
  have y4 := Y.cell 4
  have y5 := Y.cell 5
  simp at x3 x4 x5 y3 y4 y5
  have n3 : (b != b) = false := by simp
  have n4 : (ss != ss) = false := by simp
  have n5 : (k != k) = false := by simp
  go_wp2
  go_ret
  exact ⟨rfl, below_wt B2 b1⟩

set_option maxHeartbeats 4000000 in
theorem l09Ok_any (bp : Nat) (s : Sv) (w : World) (r : Value) (c0 : w.cell? ⟨bp, 0, none⟩ = some (.int .i64 s.c.n)) (c1 : w.cell? ⟨bp, 1, none⟩ = some (.int .i64 s.c.t)) (c2 : w.cell? ⟨bp, 2, none⟩ = some r) (hr : Rows2 w r s.c.w)
    (c3 : w.cell? ⟨bp, 3, none⟩ = some (.int .i64 s.b)) (c4 : w.cell? ⟨bp, 4, none⟩ = some (.int .i64 s.s)) (c5 : w.cell? ⟨bp, 5, none⟩ = some (.int .i64 s.k)) :
    Calls Try.prog 59 #[.pointer (some ⟨bp, 0, none⟩)] w fun e w' => e = .returned (.bool (svOk s)) ∧ ∃ m, w' = w.drewN m := by
  obtain ⟨c, b, ss, k⟩ := s
  simp only at *
  have h0 := l01Ok_any bp c w ⟨r, c0, c1, c2, hr⟩
  have h1 := Lib.hid (fun W => l00In_any ss 1 8 W)
  have h2 := Lib.hid (fun W => l00In_any k 1 4 W)
  have h3 := Lib.hid (fun W => l00In_any b 0 999999992 W)
  have hq : svOk ⟨c, b, ss, k⟩ = (chOk c && (inB ss 1 8 && (inB k 1 4 && inB b 0 999999992))) := rfl
  generalize svOk ⟨c, b, ss, k⟩ = ok at hq ⊢
  generalize chOk c = k0 at h0 hq
  generalize inB ss 1 8 = k1 at h1 hq
  generalize inB k 1 4 = k2 at h2 hq
  generalize inB b 0 999999992 = k3 at h3 hq
  have h0' := Lib.hid h0
  clear h0 hr
  rcases k0 with _ | _
  · obtain rfl : ok = false := by simpa using hq
    clear hq
    go_enter Try.func59, Try.ntmps59
    go_wp2_with fail
    (with_reducible refine h0'.out.mono ?_)
    rintro e w1 ⟨rfl, m, rfl⟩
    go_wp2
    go_ret
    exact ⟨rfl, m, rfl⟩
  · rcases k1 with _ | _
    · obtain rfl : ok = false := by simpa using hq
      clear hq
      go_enter Try.func59, Try.ntmps59
      go_wp2_with fail
      (with_reducible refine h0'.out.mono ?_)
      rintro e w1 ⟨rfl, m, rfl⟩
      go_wp2_with fail
      (with_reducible refine (h1.out _).mono ?_)
      rintro e w1 ⟨rfl, rfl⟩
      go_wp2
      go_ret
      exact ⟨rfl, m, rfl⟩
    · rcases k2 with _ | _
      · obtain rfl : ok = false := by simpa using hq
        clear hq
        go_enter Try.func59, Try.ntmps59
        go_wp2_with fail
        (with_reducible refine h0'.out.mono ?_)
        rintro e w1 ⟨rfl, m, rfl⟩
        go_wp2_with fail
        (with_reducible refine (h1.out _).mono ?_)
        rintro e w1 ⟨rfl, rfl⟩
        go_wp2_with fail
        (with_reducible refine (h2.out _).mono ?_)
        rintro e w1 ⟨rfl, rfl⟩
        go_wp2
        go_ret
        exact ⟨rfl, m, rfl⟩
      · obtain rfl : ok = k3 := by simpa using hq
        clear hq
        go_enter Try.func59, Try.ntmps59
        go_wp2_with fail
        (with_reducible refine h0'.out.mono ?_)
        rintro e w1 ⟨rfl, m, rfl⟩
        go_wp2_with fail
        (with_reducible refine (h1.out _).mono ?_)
        rintro e w1 ⟨rfl, rfl⟩
        go_wp2_with fail
        (with_reducible refine (h2.out _).mono ?_)
        rintro e w1 ⟨rfl, rfl⟩
        go_wp2_with fail
        (with_reducible refine (h3.out _).mono ?_)
        rintro e w1 ⟨rfl, rfl⟩
        go_wp2
        go_ret
        exact ⟨rfl, m, rfl⟩

set_option maxHeartbeats 4000000 in
theorem ValidService_spec (x : Value) (s : Sv) (w : World) (hx : SvR w x s) :
    Calls Try.prog 24 #[x] w fun e w' => e = .returned (.bool (svOk s)) ∧ Below w.heap.size w w' := by
  obtain ⟨r, rfl, hr⟩ := hx
  have B1 := below1 w (.cells #[.int .i64 s.c.n, .int .i64 s.c.t, r, .int .i64 s.b, .int .i64 s.s, .int .i64 s.k] 46)
  have hX := Blk.new w #[.int .i64 s.c.n, .int .i64 s.c.t, r, .int .i64 s.b, .int .i64 s.s, .int .i64 s.k] 46
  have h := Lib.hid (l09Ok_any w.heap.size s _ r (hX.cell 0) (hX.cell 1) (hX.cell 2) (hr.keep B1) (hX.cell 3) (hX.cell 4) (hX.cell 5))
  generalize svOk s = ok at *
  go_enter Try.func24, Try.ntmps24
  go_wp2_with fail
  (with_reducible refine h.out.mono ?_)
  rintro e w1 ⟨rfl, m, rfl⟩
  go_wp2
  go_ret
  exact ⟨rfl, below_drewN B1 m⟩

set_option maxHeartbeats 4000000 in
theorem ValidService_impl (x : Value) (s : Sv) (w : World) (hx : SvR w x s) :
    Calls Try.prog 26 #[x] w fun e w' => e = .returned (.bool (svOk s)) ∧ Below w.heap.size w w' := by
  obtain ⟨r, rfl, hr⟩ := hx
  obtain ⟨c, b, ss, k⟩ := s
  simp only at *
  have B1 := below1 w (.cells #[.int .i64 c.n, .int .i64 c.t, r, .int .i64 b, .int .i64 ss, .int .i64 k] 46)
  have hX := Blk.new w #[.int .i64 c.n, .int .i64 c.t, r, .int .i64 b, .int .i64 ss, .int .i64 k] 46
  have h0 := ValidChain_impl (.agg #[.int .i64 c.n, .int .i64 c.t, r]) c _ ⟨r, rfl, hr.keep B1⟩
  have h1 := Lib.hid (fun W => isIn_any ss 1 8 W)
  have h2 := Lib.hid (fun W => isIn_any k 1 4 W)
  have h3 := Lib.hid (fun W => isIn_any b 0 999999992 W)
  have hq : svOk ⟨c, b, ss, k⟩ = (chOk c && (inB ss 1 8 && (inB k 1 4 && inB b 0 999999992))) := rfl
  generalize svOk ⟨c, b, ss, k⟩ = ok at hq ⊢
  generalize chOk c = k0 at h0 hq
  generalize inB ss 1 8 = k1 at h1 hq
  generalize inB k 1 4 = k2 at h2 hq
  generalize inB b 0 999999992 = k3 at h3 hq
  have h0' := Lib.hid h0
  clear h0 hr
  rcases k0 with _ | _
  · obtain rfl : ok = false := by simpa using hq
    clear hq
    go_enter Try.func26, Try.ntmps26
    go_wp2_with fail
    (with_reducible refine h0'.out.mono ?_)
    rintro e w1 ⟨rfl, b1⟩
    go_wp2
    go_ret
    exact ⟨rfl, below_wt B1 b1⟩
  · rcases k1 with _ | _
    · obtain rfl : ok = false := by simpa using hq
      clear hq
      go_enter Try.func26, Try.ntmps26
      go_wp2_with fail
      (with_reducible refine h0'.out.mono ?_)
      rintro e w1 ⟨rfl, b1⟩
      obtain ⟨x3, x4, x5⟩ : w1.cell? ⟨w.heap.size, 3, none⟩ = some (.int .i64 b) ∧ w1.cell? ⟨w.heap.size, 4, none⟩ = some (.int .i64 ss) ∧ w1.cell? ⟨w.heap.size, 5, none⟩ = some (.int .i64 k) := ⟨(hX.keep b1 hX.lt).cell 3, (hX.keep b1 hX.lt).cell 4, (hX.keep b1 hX.lt).cell 5⟩
      go_wp2_with fail
      (with_reducible refine (h1.out _).mono ?_)
      rintro e w2 ⟨rfl, rfl⟩
      go_wp2
      go_ret
      exact ⟨rfl, below_wt B1 b1⟩
    · rcases k2 with _ | _
      · obtain rfl : ok = false := by simpa using hq
        clear hq
        go_enter Try.func26, Try.ntmps26
        go_wp2_with fail
        (with_reducible refine h0'.out.mono ?_)
        rintro e w1 ⟨rfl, b1⟩
        obtain ⟨x3, x4, x5⟩ : w1.cell? ⟨w.heap.size, 3, none⟩ = some (.int .i64 b) ∧ w1.cell? ⟨w.heap.size, 4, none⟩ = some (.int .i64 ss) ∧ w1.cell? ⟨w.heap.size, 5, none⟩ = some (.int .i64 k) := ⟨(hX.keep b1 hX.lt).cell 3, (hX.keep b1 hX.lt).cell 4, (hX.keep b1 hX.lt).cell 5⟩
        go_wp2_with fail
        (with_reducible refine (h1.out _).mono ?_)
        rintro e w2 ⟨rfl, rfl⟩
        go_wp2_with fail
        (with_reducible refine (h2.out _).mono ?_)
        rintro e w2 ⟨rfl, rfl⟩
        go_wp2
        go_ret
        exact ⟨rfl, below_wt B1 b1⟩
      · obtain rfl : ok = k3 := by simpa using hq
        clear hq
        go_enter Try.func26, Try.ntmps26
        go_wp2_with fail
        (with_reducible refine h0'.out.mono ?_)
        rintro e w1 ⟨rfl, b1⟩
        obtain ⟨x3, x4, x5⟩ : w1.cell? ⟨w.heap.size, 3, none⟩ = some (.int .i64 b) ∧ w1.cell? ⟨w.heap.size, 4, none⟩ = some (.int .i64 ss) ∧ w1.cell? ⟨w.heap.size, 5, none⟩ = some (.int .i64 k) := ⟨(hX.keep b1 hX.lt).cell 3, (hX.keep b1 hX.lt).cell 4, (hX.keep b1 hX.lt).cell 5⟩
        go_wp2_with fail
        (with_reducible refine (h1.out _).mono ?_)
        rintro e w2 ⟨rfl, rfl⟩
        go_wp2_with fail
        (with_reducible refine (h2.out _).mono ?_)
        rintro e w2 ⟨rfl, rfl⟩
        go_wp2_with fail
        (with_reducible refine (h3.out _).mono ?_)
        rintro e w2 ⟨rfl, rfl⟩
        go_wp2
        go_ret
        exact ⟨rfl, below_wt B1 b1⟩
end Go.Proofs.Ytnehnlejknieoaa
