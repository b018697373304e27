/- Rows of coupled chains and how each of the two goes alone: the project's numberOf, row, alone. Conditions: at most 4 states, weights from 0 to 3600. -/
import Derived.Test.YtcijggfbfpfcdaaQr
import Derived.Test.YtcijggfbfpfcdaaIter
import Derived.Test.YtcijggfbfpfcdaaCoP
import Derived.Test.YtcijggfbfpfcdaaMsCh2
import Derived.Deep.DeepCutAuto
namespace Go.Proofs.Ytcijggfbfpfcdaa
open Go.RowKit Go.Deep Go.Shelf Go.Sort
attribute [local go_sem] Oper.semAt_some
set_option linter.unusedVariables false

theorem alloc2_grow (w : World) (a b : Obj) : (w.alloc a).alloc b = grow (w.drewN 0) #[a, b] := by
  rw [alloc_eq_grow w a, alloc_eq_grow, grow_grow]; rfl

theorem grow_both (w : World) (n m : Nat) (os os' : Array Obj) : grow ((grow (w.drewN n) os).drewN m) os' = grow (w.drewN (n + m)) (os ++ os') := by
  show grow (grow ((w.drewN n).drewN m) os) os' = _
  rw [grow_grow, World.drewN_drewN]

set_option maxHeartbeats 2000000 in
theorem numberOf_any (n t p q : Int) (v : Value) (w : World) (h0 : 0 ≤ p * n) (h1 : p * n ≤ 1000000) (h2 : 0 ≤ q) (h3 : q ≤ 1000000) :
    Calls Try.prog 28 #[.agg #[.int .i64 n, .int .i64 t, v], .agg #[.int .i64 p, .int .i64 q]] w fun e w' => e = .returned (.int .i64 (p * n + q)) ∧ ∃ k os, w' = grow (w.drewN k) os := by
  have hw := Lib.hid (alloc2_grow w (.cells #[.int .i64 n, .int .i64 t, v] 32) (.cells #[.int .i64 p, .int .i64 q] 48))
  go_enter Try.func28, Try.ntmps28
  go_wp2
  go_ret
  exact ⟨rfl, 0, _, hw.out⟩

set_option maxRecDepth 100000 in
set_option maxHeartbeats 4000000 in
theorem row_any (n t p q : Int) (k L cap b off : Nat) (rk : Value) (ra : Option Addr) (rl rc : Nat) (w : World) (hrk : rk = .slice ra rl rc) (hcell : w.cell? ⟨b, off + k, none⟩ = some rk) (h0 : 0 ≤ p * n) (h1 : p * n ≤ 1000000) (h2 : 0 ≤ q) (h3 : q ≤ 1000000) (hk : p * n + q = k) (hl : k < L) (hL : L ≤ 1000000) :
    Calls Try.prog 19 #[.agg #[.int .i64 n, .int .i64 t, .slice (some ⟨b, off, none⟩) L cap], .agg #[.int .i64 p, .int .i64 q]] w fun e w' => e = .returned rk ∧ ∃ k os, w' = grow (w.drewN k) os := by
  subst hrk
  have hw := Lib.hid (alloc2_grow w (.cells #[.int .i64 n, .int .i64 t, .slice (some ⟨b, off, none⟩) L cap] 32) (.cells #[.int .i64 p, .int .i64 q] 48))
  have W2 := below2 w (.cells #[.int .i64 n, .int .i64 t, .slice (some ⟨b, off, none⟩) L cap] 32) (.cells #[.int .i64 p, .int .i64 q] 48)
  have B0 := (Blk.new w #[.int .i64 n, .int .i64 t, .slice (some ⟨b, off, none⟩) L cap] 32).alloc (.cells #[.int .i64 p, .int .i64 q] 48)
  have B1 := Blk.new (w.alloc (.cells #[.int .i64 n, .int .i64 t, .slice (some ⟨b, off, none⟩) L cap] 32)) #[.int .i64 p, .int .i64 q] 48
  simp only [World.size_alloc] at B1
  have hcR := (W2.cell (p := ⟨b, off + k, none⟩) (block_lt hcell)).trans hcell
  generalize hV : (w.alloc (.cells #[.int .i64 n, .int .i64 t, .slice (some ⟨b, off, none⟩) L cap] 32)).alloc (.cells #[.int .i64 p, .int .i64 q] 48) = V at *
  have hV' := Lib.hid hV
  clear hV hcell W2
  obtain ⟨c0, c1, c2⟩ := B0.three
  obtain ⟨d0, d1⟩ := B1.two
  have m0 : ∀ n os, (grow (V.drewN n) os).cell? ⟨w.heap.size, 0, none⟩ = _ := fun n os => cell_grown (block_lt c0) c0 n os
  have m1 : ∀ n os, (grow (V.drewN n) os).cell? ⟨w.heap.size, 1, none⟩ = _ := fun n os => cell_grown (block_lt c1) c1 n os
  have m2 : ∀ n os, (grow (V.drewN n) os).cell? ⟨w.heap.size, 2, none⟩ = _ := fun n os => cell_grown (block_lt c2) c2 n os
  have m3 : ∀ n os, (grow (V.drewN n) os).cell? ⟨w.heap.size + 1, 0, none⟩ = _ := fun n os => cell_grown (block_lt d0) d0 n os
  have m4 : ∀ n os, (grow (V.drewN n) os).cell? ⟨w.heap.size + 1, 1, none⟩ = _ := fun n os => cell_grown (block_lt d1) d1 n os
  have m5 : ∀ n os, (grow (V.drewN n) os).cell? ⟨b, off + k, none⟩ = _ := fun n os => cell_grown (block_lt hcR) hcR n os
  have hnum := Lib.hid (fun a os => Calls.grown_of (numberOf_any n t p q (.slice (some ⟨b, off, none⟩) L cap) (grow (V.drewN a) os) h0 h1 h2 h3))
  rw [hk] at hnum
  have i1 : (k : Int) < (L : Int) := by omega
  have i2 : (L : Int) ≤ 1000000 := by omega
  clear c0 c1 c2 d0 d1 B0 B1 hcR h0 h1 h2 h3 hk
  go_enter Try.func19, Try.ntmps19
  go_wp2_with fail
  rw [hV'.out]
  refine wp_region_quiet_grown (by kernel_rfl) (by kernel_rfl) ?_
  repeat (go_big_quiet_step ((go_at_call 28; exact hnum.out _ _)))
  refine wpQuiet_nil ?_
  intro _ hw'
  obtain ⟨⟨n2, os2⟩, hw''⟩ := hw'
  subst hw''
  go_wp2
  go_ret
  refine ⟨rfl, ?_⟩
  rw [hw.out]
  exact ⟨_, _, grow_both _ _ _ _ _⟩

theorem made_zero (N : Nat) : madeCells #[.int .i64 0] N = (ints (List.replicate N 0)).toArray := by
  apply Array.ext'
  rw [toList_madeCells_one]
  simp [ints]
/-- a block that holds numbers -/
def NumB (w : World) (b : Nat) (xs : List Int) : Prop := Blk w b (ints xs).toArray 2
theorem NumB.cell {w : World} {b : Nat} {xs : List Int} (h : NumB w b xs) {i : Nat} (hi : i < xs.length) : w.cell? ⟨b, i, none⟩ = some (.int .i64 (xs.getD i 0)) := by
  have := Blk.cell (show Blk w b (ints xs).toArray 2 from h) i
  rw [this]
  simp [List.getD, hi]
theorem NumB.set {w : World} {b : Nat} {xs : List Int} (h : NumB w b xs) (i : Nat) (x : Int) : NumB (w.setCell ⟨b, i, none⟩ (.int .i64 x)) b (xs.set i x) := by
  have := Blk.set (show Blk w b (ints xs).toArray 2 from h) i (.int .i64 x)
  unfold NumB
  rw [show (ints (xs.set i x)).toArray = ((ints xs).toArray).setIfInBounds i (.int .i64 x) by simp [List.map_set]]
  exact this
theorem NumB.ints {w : World} {b : Nat} {xs : List Int} (h : NumB w b xs) (hl : xs.length ≤ 1000000) : Ints w (.slice (some ⟨b, 0, none⟩) xs.length xs.length) xs := by
  refine ⟨by simp; unfold maxLen; omega, some ⟨b, 0, none⟩, xs.length, by simp, ⟨by simp, by unfold maxLen; omega⟩, fun i hi => ?_⟩
  simp only [List.length_map] at hi
  refine ⟨b, 0, rfl, ?_⟩
  rw [Nat.zero_add, ints_getD xs i hi]
  exact h.cell hi

theorem pair_made (V : World) (p q z N : Nat) (x y u u' : Value) (hp : Blk V p #[u] 42) (hq : Blk V q #[u'] 42) (hpq : p < q) (hV : V.heap.size = z) :
    ∀ W, W = ((((V.setCell ⟨p, 0, none⟩ x).setCell ⟨q, 0, none⟩ y).alloc (.cells (Array.replicate N (.int .i64 0)) 2)).alloc (.cells (Array.replicate N (.int .i64 0)) 2)).drew →
      W.heap.size = z + 2 ∧ NumB W z (List.replicate N 0) ∧ NumB W (z + 1) (List.replicate N 0) ∧ Blk W p #[x] 42 ∧ Blk W q #[y] 42 ∧ Below p V W := by
  rintro W rfl
  have hz : ((V.setCell ⟨p, 0, none⟩ x).setCell ⟨q, 0, none⟩ y).heap.size = z := by simp [World.setCell, hV]
  have e : (ints (List.replicate N 0)).toArray = Array.replicate N (Value.int .i64 0) := by
    apply Array.ext'
    simp [ints]
  have hp1 : Blk ((V.setCell ⟨p, 0, none⟩ x).setCell ⟨q, 0, none⟩ y) p #[x] 42 := (hp.set 0 x).setOther (by simp only; omega) y
  have hq1 : Blk ((V.setCell ⟨p, 0, none⟩ x).setCell ⟨q, 0, none⟩ y) q #[y] 42 := (hq.setOther (a := ⟨p, 0, none⟩) (by simp only; omega) x).set 0 y
  have hb : Below p V ((V.setCell ⟨p, 0, none⟩ x).setCell ⟨q, 0, none⟩ y) := ((Below.refl p V).setCell (p := ⟨p, 0, none⟩) (Nat.le_refl _) x).setCell (p := ⟨q, 0, none⟩) (by simp only; omega) y
  generalize (V.setCell ⟨p, 0, none⟩ x).setCell ⟨q, 0, none⟩ y = X at *
  have n1 := Blk.new X (Array.replicate N (Value.int .i64 0)) 2
  have n2 := Blk.new (X.alloc (.cells (Array.replicate N (.int .i64 0)) 2)) (Array.replicate N (Value.int .i64 0)) 2
  rw [World.size_alloc] at n2
  rw [hz] at n1 n2
  have hlt := hp1.lt
  refine ⟨by show ((X.alloc _).alloc _).heap.size = _; simp [hz], ?_, ?_, (hp1.alloc _).alloc _, (hq1.alloc _).alloc _, ((hb.alloc (by omega) _).alloc (by simp; omega) _).drew⟩
  · unfold NumB; rw [e]; exact n1.alloc _
  · unfold NumB; rw [e]; exact n2

theorem blk_own {β : Type} (b : Nat) (t : TypeId) (f : β → Array Value) : Go.Own (fun s W => Blk W b (f s) t) := fun s X Y row hs hg hr => (grownBy_keeps_cells hg hr hs rfl).trans hs
theorem numB_own {β : Type} (b : Nat) (f : β → List Int) : Go.Own (fun s W => NumB W b (f s)) := blk_own b 2 (fun s => (ints (f s)).toArray)

set_option maxRecDepth 100000 in
set_option maxHeartbeats 8000000 in
theorem alone_any (N M : Nat) (hM : N * N = M) (t : Int) (s f b off cap rb ro rc : Nat) (row : List Int) (w : World) (hN1 : 1 ≤ N) (hN : N ≤ 4) (hs : s < N) (hf : f < N) (hcell : w.cell? ⟨b, off + (s * N + f), none⟩ = some (.slice (some ⟨rb, ro, none⟩) M rc))
    (hrow : ∀ k, k < M → w.cell? ⟨rb, ro + k, none⟩ = some (.int .i64 (row.getD k 0))) (hbd : ∀ y ∈ row, 0 ≤ y ∧ y ≤ 3600) :
    Calls Try.prog 37 #[.agg #[.int .i64 (N : Int), .int .i64 t, .slice (some ⟨b, off, none⟩) M cap], .agg #[.int .i64 (s : Int), .int .i64 (f : Int)]] w
      fun e w' => ∃ lb rbk, e = .returned (.tuple #[.slice (some ⟨lb, 0, none⟩) N N, .slice (some ⟨rbk, 0, none⟩) N N]) ∧ NumB w' lb (margL row N) ∧ NumB w' rbk (margR row N) ∧ Below w.heap.size w w' := by
  have W4 := below4 w (.cells #[.int .i64 (N : Int), .int .i64 t, .slice (some ⟨b, off, none⟩) M cap] 32) (.cells #[.int .i64 (s : Int), .int .i64 (f : Int)] 48) (.cells #[.slice none 0 0] 42) (.cells #[.slice none 0 0] 42)
  have BM := (((Blk.new w #[.int .i64 (N : Int), .int .i64 t, .slice (some ⟨b, off, none⟩) M cap] 32).alloc (.cells #[.int .i64 (s : Int), .int .i64 (f : Int)] 48)).alloc (.cells #[.slice none 0 0] 42)).alloc (.cells #[.slice none 0 0] 42)
  have BP := ((Blk.new (w.alloc (.cells #[.int .i64 (N : Int), .int .i64 t, .slice (some ⟨b, off, none⟩) M cap] 32)) #[.int .i64 (s : Int), .int .i64 (f : Int)] 48).alloc (.cells #[.slice none 0 0] 42)).alloc (.cells #[.slice none 0 0] 42)
  have BL := (Blk.new ((w.alloc (.cells #[.int .i64 (N : Int), .int .i64 t, .slice (some ⟨b, off, none⟩) M cap] 32)).alloc (.cells #[.int .i64 (s : Int), .int .i64 (f : Int)] 48)) #[.slice none 0 0] 42).alloc (.cells #[.slice none 0 0] 42)
  have BR := Blk.new (((w.alloc (.cells #[.int .i64 (N : Int), .int .i64 t, .slice (some ⟨b, off, none⟩) M cap] 32)).alloc (.cells #[.int .i64 (s : Int), .int .i64 (f : Int)] 48)).alloc (.cells #[.slice none 0 0] 42)) #[.slice none 0 0] 42
  have hsz : ((((w.alloc (.cells #[.int .i64 (N : Int), .int .i64 t, .slice (some ⟨b, off, none⟩) M cap] 32)).alloc (.cells #[.int .i64 (s : Int), .int .i64 (f : Int)] 48)).alloc (.cells #[.slice none 0 0] 42)).alloc (.cells #[.slice none 0 0] 42)).heap.size = w.heap.size + 4 := by simp
  simp only [World.size_alloc] at BP BL BR
  generalize hV : (((w.alloc (.cells #[.int .i64 (N : Int), .int .i64 t, .slice (some ⟨b, off, none⟩) M cap] 32)).alloc (.cells #[.int .i64 (s : Int), .int .i64 (f : Int)] 48)).alloc (.cells #[.slice none 0 0] 42)).alloc (.cells #[.slice none 0 0] 42) = V at *
  have hV' := Lib.hid hV
  clear hV
  have hmk := ms_make_len (N : Int) (by omega) (by omega)
  rw [Int.toNat_natCast, made_zero N] at hmk
  obtain ⟨c0, c1, c2⟩ := BM.three
  have l0 := BL.cell 0
  have r0 := BR.cell 0
  have lf := BL.frozen 0
  have rf := BR.frozen 0
  simp only [List.getElem?_toArray, List.getElem?_cons_zero] at l0 r0
  refine (callsIn_wide (n := 3)).1 ?_
  refine callsIn_of_wp_marks Try.func37 rfl trivial ?_ rfl
  simp only [Try.ntmps37, List.size_toArray, List.length_cons, List.length_nil, Nat.reduceAdd, Nat.reduceSub, Array.replicate_succ, Array.replicate_zero, List.push_toArray, List.append_toArray, List.nil_append, List.cons_append]
  refine wpIn_wide.2 ?_
  go_wp2_with fail
  rw [hV'.out]
  go_cut [10, 13] from 8 to 13 (fun s1 s2 wx => ∃ L R, s1 = .slice (some ⟨L, 0, none⟩) N N ∧ s2 = .slice (some ⟨R, 0, none⟩) N N ∧ L ≠ R ∧ w.heap.size + 4 ≤ L ∧ w.heap.size + 4 ≤ R ∧ wx.heap.size = w.heap.size + 6 ∧ NumB wx L (List.replicate N 0) ∧ NumB wx R (List.replicate N 0) ∧ Blk wx (w.heap.size + 1 + 1) #[.slice (some ⟨L, 0, none⟩) N N] 42 ∧ Blk wx (w.heap.size + 1 + 1 + 1) #[.slice (some ⟨R, 0, none⟩) N N] 42 ∧ Below (w.heap.size + 2) V wx)
  case first =>
    go_region
    all_goals (go_wp2_with fail; go_meet)
    · obtain ⟨h1, h2, h3, h4, h5, h6⟩ := pair_made V (w.heap.size + 1 + 1) (w.heap.size + 1 + 1 + 1) (w.heap.size + 4) N (.slice (some ⟨w.heap.size + 4, 0, none⟩) N N) (.slice (some ⟨w.heap.size + 4 + 1, 0, none⟩) N N) _ _ BL BR (by omega) hsz _ rfl
      exact ⟨_, _, rfl, rfl, by omega, by omega, by omega, h1, h2, h3, h4, h5, h6⟩
    · obtain ⟨h1, h2, h3, h4, h5, h6⟩ := pair_made V (w.heap.size + 1 + 1) (w.heap.size + 1 + 1 + 1) (w.heap.size + 4) N (.slice (some ⟨w.heap.size + 4 + 1, 0, none⟩) N N) (.slice (some ⟨w.heap.size + 4, 0, none⟩) N N) _ _ BL BR (by omega) hsz _ rfl
      exact ⟨_, _, rfl, rfl, by omega, by omega, by omega, h1, h3, h2, h4, h5, h6⟩
  case rest =>
    obtain ⟨L, R, rfl, rfl, hLR, hL4, hR4, hszc, nL, nR, bL, bR, bc⟩ := hcut
    have hL6 : L < w.heap.size + 6 := by have := Blk.lt nL; omega
    have hR6 : R < w.heap.size + 6 := by have := Blk.lt nR; omega
    clear hmk c0 c1 c2 l0 r0 lf rf BL BR
    have BMc := BM.keep bc (by omega)
    have BPc := BP.keep bc (by omega)
    obtain ⟨c0, c1, c2⟩ := BMc.three
    have hbw : Below w.heap.size w wc := W4.trans (bc.mono (by omega))
    clear BM BP
    have hpo := Lib.hid (fun u => callsIn_wide.1 (pairsOf_in Fence.wide 3 trivial rfl N u))
    go_wp2_with fail
    refine (hpo.out _).mono ?_
    rintro e w5 ⟨rfl, rfl⟩
    go_wp2_with fail
    have BN := Blk.new wc #[.int .i64 (N : Int)] 2
    rw [hszc] at BN
    have hWc := below1 wc (.cells #[.int .i64 (N : Int)] 2)
    have nL0 := nL.alloc (.cells #[.int .i64 (N : Int)] 2)
    have nR0 := nR.alloc (.cells #[.int .i64 (N : Int)] 2)
    obtain ⟨W0, hW0⟩ : ∃ W0, wc.alloc (.cells #[.int .i64 (N : Int)] 2) = W0 := ⟨_, rfl⟩
    have hsz0 : W0.heap.size = w.heap.size + 7 := by rw [← hW0]; simp [hszc]
    rw [hW0] at BN hWc nL0 nR0 ⊢
    clear hW0 c0 c1 c2 nL nR
    have hwc : Below (w.heap.size + 4) wc W0 := hWc.mono (by omega)
    refine (wpIn_wide (n := 3)).1 ?_
    refine wpIn_rangeFunc_ownH rfl (by decide) (gf := 44) (lb := #[.pointer (some ⟨w.heap.size + 6, 0, none⟩)]) rfl trivial (enters_of Try.func44 (by kernel_rfl) rfl)
      (pairs_stops Fence.wide 2 trivial rfl (by decide) (w.heap.size + 6) N (by omega) W0 BN) boxK_t (boxK_b (w := W0) (by omega)) (Below.refl _ _) (fun _ => rfl)
      (fun pre W => (NumB W L (accL row N pre) ∧ NumB W R (accR row N pre)) ∧ Below (w.heap.size + 4) W0 W)
      (fun _ _ _ => False)
      (OwnFrom.and (OwnFrom.and (Own.from (numB_own L (fun pre => accL row N pre)) _) (Own.from (numB_own R (fun pre => accR row N pre)) _)) (ownFrom_below (by omega) (by omega)))
      (fun _ _ _ _ _ hs _ _ => hs)
      ⟨⟨nL0, nR0⟩, Below.refl _ _⟩
      (fun x a' W => ∃ Bx, w.heap.size + 6 < Bx ∧ Blk W Bx #[.int .i64 ((x.val / N : Nat) : Int), .int .i64 ((x.val % N : Nat) : Int)] 48 ∧ a' = { tmps := #[.agg #[.int .i64 (N : Int), .int .i64 t, .slice (some ⟨b, off, none⟩) M cap], .agg #[.int .i64 (s : Int), .int .i64 (f : Int)], .pointer (some ⟨w.heap.size, 0, none⟩), .pointer (some ⟨w.heap.size + 1, 0, none⟩), .pointer (some ⟨w.heap.size + 1 + 1, 0, none⟩), .pointer (some ⟨w.heap.size + 1 + 1 + 1, 0, none⟩), .pointer (some ⟨Bx, 0, none⟩), undef, u8, u9, .slice (some ⟨L, 0, none⟩) N N, u11, u12, .slice (some ⟨R, 0, none⟩) N N, .pointer (some ⟨w.heap.size, 0, none⟩), .int .i64 (N : Int), .func (.func 44) #[] #[.pointer (some ⟨w.heap.size + 6, 0, none⟩)], pairV N x, undef, undef, undef, undef, undef, undef, undef, undef, undef, undef, undef, undef, undef, undef, undef, undef, undef, undef, undef, undef, undef, undef, undef, undef, undef, undef], defers := [] })
      (fun x a' _ X Y rowx hs hg hr => by
        obtain ⟨Bx, h1, h2, h3⟩ := hs
        exact ⟨Bx, h1, (grownBy_keeps_cells hg (fun r e => (hr r e).2) h2 rfl).trans h2, h3⟩)
      ?assign ?body ?done ?stop
    case assign =>
      rintro l pre x W K ⟨⟨h1, h2⟩, hb1⟩ hK
      have hsW := hb1.size
      unfold pairV at hK ⊢
      generalize x.val / N = S at *
      generalize x.val % N = T at *
      gi_wp2
      exact hK _ _ ((KeepsOthers.alloc _ _).from _) (Below.heap_alloc _ _ _ (by omega)) ⟨⟨h1.alloc _, h2.alloc _⟩, hb1.alloc (by omega) _⟩ ⟨W.heap.size, by omega, Blk.new W _ _, rfl⟩
    case body =>
      rintro l pre x a' W hl ⟨r, hr⟩ ⟨⟨h1, h2⟩, hb1⟩ ⟨Bx, hBx, bX, rfl⟩ hlt
      have hsW := hb1.size
      have hbc : Below (w.heap.size + 4) wc W := hwc.trans hb1
      have bMW := BMc.keep hbc (by omega)
      have bPW := BPc.keep hbc (by omega)
      have bLW := bL.keep hbc (by omega)
      have bRW := bR.keep hbc (by omega)
      have hbW : Below w.heap.size w W := hbw.trans (hbc.mono (by omega))
      obtain ⟨S, hS⟩ : ∃ S, x.val / N = S := ⟨_, rfl⟩
      obtain ⟨T, hT⟩ : ∃ T, x.val % N = T := ⟨_, rfl⟩
      have hSN : S < N := by rw [← hS]; exact Nat.div_lt_of_lt_mul x.isLt
      have hTN : T < N := by rw [← hT]; exact Nat.mod_lt _ (by omega)
      have hx : x.val = S * N + T := by
        have e := Nat.div_add_mod x.val N
        rw [hS, hT] at e
        rw [Nat.mul_comm S N]
        exact e.symm
      have eL := Lib.hid (accL_snoc row N pre x)
      have eR := Lib.hid (accR_snoc row N pre x)
      obtain ⟨aL, aL2⟩ := accL_bd row N hbd pre
      obtain ⟨aR, aR2⟩ := accR_bd row N hbd pre
      have hpl : (pre.length : Int) ≤ 16 := by have : N * N ≤ 4 * 4 := Nat.mul_le_mul hN hN; omega
      have xv : 0 ≤ row.getD x.val 0 ∧ row.getD x.val 0 ≤ 3600 := by
        rcases Nat.lt_or_ge x.val row.length with h | h
        · exact hbd _ (getD_mem h)
        · simp [List.getD, h]
      have y1 := aL2 _ (getD_mem (l := accL row N pre) (d := 0) (k := S) (by omega))
      have y2 := aR2 _ (getD_mem (l := accR row N pre) (d := 0) (k := T) (by omega))
      have k1 := h1.cell (i := S) (by omega)
      have k2 := h2.cell (i := T) (by omega)
      have hxr := hrow x.val (by have := x.isLt; omega)
      rw [hS] at eL
      rw [hT] at eR
      have hxN : x.val < M := by have := x.isLt; omega
      obtain ⟨X, hX⟩ : ∃ X, x.val = X := ⟨_, rfl⟩
      rw [hX] at eL eR hx xv hxr hxN
      unfold pairV
      rw [hS, hT] at bX ⊢
      obtain ⟨c0, c1, c2⟩ := bMW.three
      obtain ⟨d0, d1⟩ := bPW.two
      obtain ⟨e0, e1⟩ := bX.two
      have g0 := (hbW.cell (block_lt hcell)).trans hcell
      have g1 := (hbW.cell (block_lt hxr)).trans hxr
      have l0 := bLW.cell 0
      have r0 := bRW.cell 0
      simp only [List.getElem?_toArray, List.getElem?_cons_zero] at l0 r0
      have fL := Blk.frozen (show Blk W L _ _ from h1) S
      have fR := Blk.frozen (show Blk W R _ _ from h2) T
      obtain ⟨av, hav⟩ : ∃ v, (accL row N pre).getD S 0 = v := ⟨_, rfl⟩
      obtain ⟨cv, hcv⟩ : ∃ v, (accR row N pre).getD T 0 = v := ⟨_, rfl⟩
      obtain ⟨yv, hyv⟩ : ∃ v, row.getD X 0 = v := ⟨_, rfl⟩
      rw [hav] at y1 k1 eL
      rw [hcv] at y2 k2 eR
      rw [hyv] at g1 xv eL eR
      have n1 : ∀ n os, (grow (W.drewN n) os).cell? ⟨w.heap.size, 0, none⟩ = _ := fun n os => cell_grown (block_lt c0) c0 n os
      have n2 : ∀ n os, (grow (W.drewN n) os).cell? ⟨w.heap.size, 1, none⟩ = _ := fun n os => cell_grown (block_lt c1) c1 n os
      have n3 : ∀ n os, (grow (W.drewN n) os).cell? ⟨w.heap.size, 2, none⟩ = _ := fun n os => cell_grown (block_lt c2) c2 n os
      have n4 : ∀ n os, (grow (W.drewN n) os).cell? ⟨w.heap.size + 1, 0, none⟩ = _ := fun n os => cell_grown (block_lt d0) d0 n os
      have n5 : ∀ n os, (grow (W.drewN n) os).cell? ⟨w.heap.size + 1, 1, none⟩ = _ := fun n os => cell_grown (block_lt d1) d1 n os
      have n6 : ∀ n os, (grow (W.drewN n) os).cell? ⟨Bx, 0, none⟩ = _ := fun n os => cell_grown (block_lt e0) e0 n os
      have n7 : ∀ n os, (grow (W.drewN n) os).cell? ⟨Bx, 1, none⟩ = _ := fun n os => cell_grown (block_lt e1) e1 n os
      have n8 : ∀ n os, (grow (W.drewN n) os).cell? ⟨rb, ro + X, none⟩ = _ := fun n os => cell_grown (block_lt g1) g1 n os
      have p0 : (0 : Int) ≤ (s : Int) * (N : Int) ∧ (s : Int) * (N : Int) ≤ 16 := by
        have : s * N ≤ 4 * 4 := Nat.mul_le_mul (by omega) hN
        have e : (s : Int) * (N : Int) = ((s * N : Nat) : Int) := by rw [Int.natCast_mul]
        omega
      have p1 : (0 : Int) ≤ (S : Int) * (N : Int) ∧ (S : Int) * (N : Int) ≤ 16 := by
        have : S * N ≤ 4 * 4 := Nat.mul_le_mul (by omega) hN
        have e : (S : Int) * (N : Int) = ((S * N : Nat) : Int) := by rw [Int.natCast_mul]
        omega
      have hNN : N * N ≤ 16 := Nat.mul_le_mul hN hN
      have hfk : s * N + f < N * N := num_lt hs hf
      have hrw := Lib.hid (fun n os => Calls.grown_of (row_any (N : Int) t (s : Int) (f : Int) (s * N + f) M cap b off _ (some ⟨rb, ro, none⟩) M rc (grow (W.drewN n) os) rfl (cell_grown (block_lt g0) g0 n os) p0.1 (by omega) (by omega) (by omega) (by rw [Int.natCast_add, Int.natCast_mul]) (by omega) (by omega)))
      have hnm := Lib.hid (fun n os => Calls.grown_of (numberOf_any (N : Int) t (S : Int) (T : Int) (.slice (some ⟨b, off, none⟩) M cap) (grow (W.drewN n) os) p1.1 (by omega) (by omega) (by omega)))
      rw [show (S : Int) * (N : Int) + (T : Int) = ((X : Nat) : Int) by rw [hx, Int.natCast_add, Int.natCast_mul]] at hnm
      have i1 : (X : Int) < (M : Int) := by omega
      have i2 : (M : Int) ≤ 16 := by omega
      have Lg := Lib.hid (fun n os => below_grown W n os)
      have Kg := Lib.hid (fun n os => keeps_grown W n os)
      have hltW := Lib.hid (show L < W.heap.size ∧ R < W.heap.size ∧ Bx < W.heap.size ∧ w.heap.size + 1 + 1 + 1 < W.heap.size from ⟨block_lt k1, block_lt k2, block_lt e0, by omega⟩)
      clear p0 p1 hxr hX
      have hMh := Lib.hid hM
      have hfr2 := Lib.hid (bLW.frozen 0)
      clear hM hNN hfk hx hav hcv hyv
      gi_wp2_with fail
      refine region_round_g (by kernel_rfl) (by kernel_rfl) (by kernel_rfl) ?_
      repeat (go_big_quiet_step (first | (go_at_call 19; exact hrw.out _ _) | (go_at_call 28; exact hnm.out _ _)))
      refine wpQuiet_nil ?_
      intro _ hw'
      obtain ⟨⟨nq, osq⟩, hw''⟩ := hw'
      subst hw''
      have hl2 := Lg.out nq osq
      have kk := Lib.hid (Kg.out nq osq)
      obtain ⟨W2, hW2⟩ : ∃ u, grow (W.drewN nq) osq = u := ⟨_, rfl⟩
      rw [hW2] at hl2 kk ⊢
      clear hW2 Lg Kg n1 n2 n3 n4 n5 n6 n7 n8 hrw hnm
      replace l0 := (hl2.cell (block_lt l0)).trans l0
      replace r0 := (hl2.cell (block_lt r0)).trans r0
      replace fL := (hl2.frozen (p := ⟨L, S, none⟩) hltW.out.1).trans fL
      replace fR := (hl2.frozen (p := ⟨R, T, none⟩) hltW.out.2.1).trans fR
      replace k1 := (hl2.cell (block_lt k1)).trans k1
      replace k2 := (hl2.cell (block_lt k2)).trans k2
      replace e0 := (hl2.cell (block_lt e0)).trans e0
      replace e1 := (hl2.cell (block_lt e1)).trans e1
      have N1 : NumB W2 L (accL row N pre) := Blk.keep h1 hl2 hltW.out.1
      have N2 : NumB W2 R (accR row N pre) := Blk.keep h2 hl2 hltW.out.2.1
      have hb2 : Below (w.heap.size + 4) W0 W2 := hb1.trans (hl2.mono (by omega))
      have hfin := Lib.hid (show ∀ a c : Int, KeepsFrom W0.heap.size W ((W2.setCell ⟨L, S, none⟩ (.int .i64 a)).setCell ⟨R, T, none⟩ (.int .i64 c)) ∧ ((W2.setCell ⟨L, S, none⟩ (.int .i64 a)).setCell ⟨R, T, none⟩ (.int .i64 c)).heap[w.heap.size + 6]? = W.heap[w.heap.size + 6]? ∧
          (NumB ((W2.setCell ⟨L, S, none⟩ (.int .i64 a)).setCell ⟨R, T, none⟩ (.int .i64 c)) L ((accL row N pre).set S a) ∧ NumB ((W2.setCell ⟨L, S, none⟩ (.int .i64 a)).setCell ⟨R, T, none⟩ (.int .i64 c)) R ((accR row N pre).set T c)) ∧ Below (w.heap.size + 4) W0 ((W2.setCell ⟨L, S, none⟩ (.int .i64 a)).setCell ⟨R, T, none⟩ (.int .i64 c)) from fun a c => by
        refine ⟨(((kk.out).trans (KeepsOthers.setCell _ _ _)).trans (KeepsOthers.setCell _ _ _)).from _, ?_, ⟨?_, ?_⟩, ?_⟩
        · rw [Below.heap_setCell _ _ _ _ (by simp only; omega), Below.heap_setCell _ _ _ _ (by simp only; omega)]
          exact hl2.block _ (by omega)
        · exact Blk.setOther (N1.set S a) (by simp only; exact hLR) _
        · exact NumB.set (Blk.setOther (a := ⟨L, S, none⟩) N2 (by simp only; exact hLR.symm) _) T c
        · exact (hb2.setCell (p := ⟨L, S, none⟩) (by simp only; omega) _).setCell (p := ⟨R, T, none⟩) (by simp only; omega) _)
      have z1 : ∀ v, (W2.setCell ⟨L, S, none⟩ v).cell? ⟨Bx, 1, none⟩ = some (.int .i64 (T : Int)) := fun v => (World.cell?_of_block (Below.heap_setCell _ _ _ _ (by simp only; omega))).trans e1
      have z2 : ∀ v, (W2.setCell ⟨L, S, none⟩ v).cell? ⟨w.heap.size + 1 + 1 + 1, 0, none⟩ = some (.slice (some ⟨R, 0, none⟩) N N) := fun v => (World.cell?_of_block (Below.heap_setCell _ _ _ _ (by simp only; omega))).trans r0
      have z3 : ∀ v, (W2.setCell ⟨L, S, none⟩ v).cell? ⟨R, T, none⟩ = some (.int .i64 cv) := fun v => (World.cell?_of_block (Below.heap_setCell _ _ _ _ (by simp only; exact hLR.symm))).trans k2
      have z4 : ∀ v, (W2.setCell ⟨L, S, none⟩ v).frozen? ⟨R, T, none⟩ = false := fun v => (World.frozen?_of_block (Below.heap_setCell _ _ _ _ (by simp only; exact hLR.symm))).trans fR
      clear N1 N2 h1 h2
      gi_wp2
      have hf := hfin.out (av + yv) (cv + yv)
      exact ⟨hf.1, hf.2.1, ⟨by rw [eL.out]; exact hf.2.2.1.1, by rw [eR.out]; exact hf.2.2.1.2⟩, hf.2.2.2⟩
    case done =>
      rintro D ys W hD rfl ⟨⟨h1, h2⟩, hb1⟩ hK
      rw [accL_all row N hN] at h1
      rw [accR_all row N hN] at h2
      have q1 := (bL.keep (hwc.trans hb1) (by omega)).cell 0
      have q2 := (bR.keep (hwc.trans hb1) (by omega)).cell 0
      have q3 := (bL.keep (hwc.trans hb1) (by omega)).frozen 0
      have q4 := (bR.keep (hwc.trans hb1) (by omega)).frozen 0
      simp only [List.getElem?_toArray, List.getElem?_cons_zero] at q1 q2
      go_wp2_with fail
      go_region
      all_goals go_wp2
      have hK' := (((KeepsOthers.setCell W ⟨w.heap.size + 1 + 1, 0, none⟩ (.slice (some ⟨L, 0, none⟩) N N)).trans (KeepsOthers.setCell _ ⟨w.heap.size + 1 + 1 + 1, 0, none⟩ (.slice (some ⟨R, 0, none⟩) N N))).trans (KeepsOthers.drew _)).same D _ hK rfl
      have fL : Blk ((W.setCell ⟨w.heap.size + 1 + 1, 0, none⟩ (.slice (some ⟨L, 0, none⟩) N N)).setCell ⟨w.heap.size + 1 + 1 + 1, 0, none⟩ (.slice (some ⟨R, 0, none⟩) N N)).drew (w.heap.size + 1 + 1) #[.slice (some ⟨L, 0, none⟩) N N] 42 := ((bL.keep (hwc.trans hb1) (by omega)).set 0 _).setOther (by simp only; omega) _
      have fR : Blk ((W.setCell ⟨w.heap.size + 1 + 1, 0, none⟩ (.slice (some ⟨L, 0, none⟩) N N)).setCell ⟨w.heap.size + 1 + 1 + 1, 0, none⟩ (.slice (some ⟨R, 0, none⟩) N N)).drew (w.heap.size + 1 + 1 + 1) #[.slice (some ⟨R, 0, none⟩) N N] 42 := ((bR.keep (hwc.trans hb1) (by omega)).setOther (a := ⟨w.heap.size + 1 + 1, 0, none⟩) (by simp only; omega) _).set 0 _
      have gL : NumB ((W.setCell ⟨w.heap.size + 1 + 1, 0, none⟩ (.slice (some ⟨L, 0, none⟩) N N)).setCell ⟨w.heap.size + 1 + 1 + 1, 0, none⟩ (.slice (some ⟨R, 0, none⟩) N N)).drew L (margL row N) := Blk.setOther (Blk.setOther (a := ⟨w.heap.size + 1 + 1, 0, none⟩) h1 (by simp only; omega) _) (a := ⟨w.heap.size + 1 + 1 + 1, 0, none⟩) (by simp only; omega) _
      have gR : NumB ((W.setCell ⟨w.heap.size + 1 + 1, 0, none⟩ (.slice (some ⟨L, 0, none⟩) N N)).setCell ⟨w.heap.size + 1 + 1 + 1, 0, none⟩ (.slice (some ⟨R, 0, none⟩) N N)).drew R (margR row N) := Blk.setOther (Blk.setOther (a := ⟨w.heap.size + 1 + 1, 0, none⟩) h2 (by simp only; omega) _) (a := ⟨w.heap.size + 1 + 1 + 1, 0, none⟩) (by simp only; omega) _
      have bel : Below w.heap.size w ((W.setCell ⟨w.heap.size + 1 + 1, 0, none⟩ (.slice (some ⟨L, 0, none⟩) N N)).setCell ⟨w.heap.size + 1 + 1 + 1, 0, none⟩ (.slice (some ⟨R, 0, none⟩) N N)).drew := (((hbw.trans ((hwc.trans hb1).mono (by omega))).setCell (p := ⟨w.heap.size + 1 + 1, 0, none⟩) (by simp only; omega) _).setCell (p := ⟨w.heap.size + 1 + 1 + 1, 0, none⟩) (by simp only; omega) _).drew
      obtain ⟨Wf, hWf⟩ : ∃ u, ((W.setCell ⟨w.heap.size + 1 + 1, 0, none⟩ (.slice (some ⟨L, 0, none⟩) N N)).setCell ⟨w.heap.size + 1 + 1 + 1, 0, none⟩ (.slice (some ⟨R, 0, none⟩) N N)).drew = u := ⟨_, rfl⟩
      rw [hWf] at hK' fL fR gL gR bel ⊢
      refine ⟨by simp, .inl ⟨_, _, rfl, run_takeDeferred hK', ?_⟩⟩
      have hgo := fun (k : Nat) (c : Array Value) (ty : TypeId) (h : Blk Wf k c ty) => (grownBy_keeps_cells (grownBy_putObj' Wf D (.deferred none)) (fun r e => by cases e; exact ⟨_, hK', rfl⟩) h rfl).trans h
      have hcL := Blk.cell (hgo _ _ _ fL) 0
      have hcR := Blk.cell (hgo _ _ _ fR) 0
      simp only [List.getElem?_toArray, List.getElem?_cons_zero] at hcL hcR
      refine ⟨.tuple #[.slice (some ⟨L, 0, none⟩) N N, .slice (some ⟨R, 0, none⟩) N N], ?_, L, R, rfl, hgo _ _ _ gL, hgo _ _ _ gR, bel.trans (belowK_b (w := w) (Nat.le_refl _) _ D _ _ (by omega) hK' rfl rfl)⟩
      simp [results, Try.f37, go_sem, hcL, hcR]
    case stop =>
      rintro D c pre W _ _ h _
      exact h.elim
end Go.Proofs.Ytcijggfbfpfcdaa
