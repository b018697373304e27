/- For every two chains, the project's BesideChain and the specification's answer alike, with the same code; the chains are left as they were, and the answer owns its memory.
   Conditions: none beyond the row's own (every input that can be read as data). -/
import Derived.Test.YtepajimcnheofaaKinds
import Derived.Test.YtepajimcnheofaaBeside2
import Derived.Test.YtepajimcnheofaaOpen
namespace Go.Proofs.Ytepajimcnheofaa.fnExactBesideChain
open Go.ChangeShapes Go.WideShapes Go.ChangeAt Go.RowKit Go.Deep Go.Joins
open Go.ChangeMaps (open_string shut_string)
set_option linter.unusedVariables false

theorem own : ownKnob Try.prog.godebug = none := by kernel_rfl
theorem laidOut : laidOutB Try.prog = true := by kernel_rfl

theorem total_bd (xss : List (List Int)) (m : Nat) (h : ∀ r ∈ xss, r.length ≤ m) : total xss ≤ m * xss.length := by
  induction xss with
  | nil => simp [total]
  | cons r rs ih =>
    have h1 := h r (by simp)
    have h2 := ih (fun x hx => h x (by simp [hx]))
    simp only [total, List.length_cons, Nat.mul_add]
    omega
theorem lim_small (c : Ch) : total (lim c).1.w ≤ 36 := by
  by_cases oc : chOk c = true
  · obtain ⟨n1, n2, t1, t2, hlen, hrows⟩ := chOk_all oc
    have := total_bd c.w 6 (fun r hr => by have := (okRow_all (hrows r hr)).1; omega)
    simp only [lim, oc, if_true]; omega
  · simp [lim, oc, zeroCh, total]
theorem model_small (c d : Ch) : ∃ rc rk, besOf c d = (rc, rk) ∧ total rc.w ≤ 36 := by
  refine ⟨(besOf c d).1, (besOf c d).2, rfl, ?_⟩
  by_cases h : chOk c = true ∧ chOk d = true
  · simp only [besOf, h, and_self, if_true]; exact lim_small _
  · simp [besOf, h, zeroCh, total]

set_option maxRecDepth 100000 in
set_option maxHeartbeats 16000000 in
theorem walk_long0 {w : World} (v0 : Value) (c0 : Ch) (k0 : ChR w v0 c0) (v1 : Value) (c1 : Ch) (k1 : ChR w v1 c1)  (hq0 : (1048576 : Int) < (((c0.w.length + total c0.w) : Nat) : Int)) :
    Calls Try.prog 7 #[v0, v1] w fun e w' => e = .returned (.bool true) ∧ Below w.heap.size w w' := by
  obtain ⟨a0, a0c, rfl⟩ := k0.shape
  obtain ⟨a1, a1c, rfl⟩ := k1.shape
  have H0 := ((Blk.new w #[.int .i64 c0.n, .int .i64 c0.t, .slice a0 c0.w.length a0c] 24).alloc (.cells #[.int .i64 c1.n, .int .i64 c1.t, .slice a1 c1.w.length a1c] 24))
  have H1 := (Blk.new (w.alloc (.cells #[.int .i64 c0.n, .int .i64 c0.t, .slice a0 c0.w.length a0c] 24)) #[.int .i64 c1.n, .int .i64 c1.t, .slice a1 c1.w.length a1c] 24)
  simp only [World.size_alloc] at H1
  have B0 : Below w.heap.size w ((w.alloc (.cells #[.int .i64 c0.n, .int .i64 c0.t, .slice a0 c0.w.length a0c] 24)).alloc (.cells #[.int .i64 c1.n, .int .i64 c1.t, .slice a1 c1.w.length a1c] 24)) := below2 w (.cells #[.int .i64 c0.n, .int .i64 c0.t, .slice a0 c0.w.length a0c] 24) (.cells #[.int .i64 c1.n, .int .i64 c1.t, .slice a1 c1.w.length a1c] 24)
  have K0 := ChUnder.of (k0.keep B0)
  have K1 := ChUnder.of (k1.keep B0)
  have zu0 : w.heap.size + 2 = ((w.alloc (.cells #[.int .i64 c0.n, .int .i64 c0.t, .slice a0 c0.w.length a0c] 24)).alloc (.cells #[.int .i64 c1.n, .int .i64 c1.t, .slice a1 c1.w.length a1c] 24)).heap.size := by simp
  have SB : Since ((w.alloc (.cells #[.int .i64 c0.n, .int .i64 c0.t, .slice a0 c0.w.length a0c] 24)).alloc (.cells #[.int .i64 c1.n, .int .i64 c1.t, .slice a1 c1.w.length a1c] 24)).heap.size ((w.alloc (.cells #[.int .i64 c0.n, .int .i64 c0.t, .slice a0 c0.w.length a0c] 24)).alloc (.cells #[.int .i64 c1.n, .int .i64 c1.t, .slice a1 c1.w.length a1c] 24)) ((w.alloc (.cells #[.int .i64 c0.n, .int .i64 c0.t, .slice a0 c0.w.length a0c] 24)).alloc (.cells #[.int .i64 c1.n, .int .i64 c1.t, .slice a1 c1.w.length a1c] 24)) := ⟨Below.refl _ _, Nat.le_refl _⟩
  obtain ⟨u0, hu0⟩ : ∃ u, ((w.alloc (.cells #[.int .i64 c0.n, .int .i64 c0.t, .slice a0 c0.w.length a0c] 24)).alloc (.cells #[.int .i64 c1.n, .int .i64 c1.t, .slice a1 c1.w.length a1c] 24)) = u := ⟨_, rfl⟩
  rw [hu0] at H0 H1 K0 K1 B0 zu0 SB
  have zu0' := Lib.hid zu0
  have hu0' := Lib.hid hu0
  have z0a : 2 + w.heap.size ≤ u0.heap.size := by omega
  clear zu0 hu0
  have hn := szLeft_no (left := 1048576) (n := (c0.w.length + total c0.w)) (by omega)
  have hneg : szLeft 1048576 (c0.w.length + total c0.w) < 0 := by rw [hn]; decide
  clear hn
  go_enter Try.func7, Try.ntmps7
  obtain ⟨pH00, pH01, pH02⟩ := H0.three
  go_wp2_with fail
  rw [hu0'.out]
  refine (szChain_any _ c0 1048576 _ K0.now (by omega) (by omega)).mono ?_
  rintro e u1 ⟨rfl, b1⟩
  clear pH00 pH01 pH02
  have zb1 := b1.size
  go_wp2
  go_ret
  replace SB := SB.step b1
  exact ⟨rfl, B0.trans (SB.bel.mono B0.size)⟩

set_option maxRecDepth 100000 in
set_option maxHeartbeats 16000000 in
theorem walk_long1 {w : World} (v0 : Value) (c0 : Ch) (k0 : ChR w v0 c0) (v1 : Value) (c1 : Ch) (k1 : ChR w v1 c1) (hq0 : (((c0.w.length + total c0.w) : Nat) : Int) ≤ (1048576 : Int)) (hq1 : (1048576 : Int) < (((c0.w.length + total c0.w) : Nat) : Int) + (((c1.w.length + total c1.w) : Nat) : Int)) :
    Calls Try.prog 7 #[v0, v1] w fun e w' => e = .returned (.bool true) ∧ Below w.heap.size w w' := by
  obtain ⟨a0, a0c, rfl⟩ := k0.shape
  obtain ⟨a1, a1c, rfl⟩ := k1.shape
  have H0 := ((Blk.new w #[.int .i64 c0.n, .int .i64 c0.t, .slice a0 c0.w.length a0c] 24).alloc (.cells #[.int .i64 c1.n, .int .i64 c1.t, .slice a1 c1.w.length a1c] 24))
  have H1 := (Blk.new (w.alloc (.cells #[.int .i64 c0.n, .int .i64 c0.t, .slice a0 c0.w.length a0c] 24)) #[.int .i64 c1.n, .int .i64 c1.t, .slice a1 c1.w.length a1c] 24)
  simp only [World.size_alloc] at H1
  have B0 : Below w.heap.size w ((w.alloc (.cells #[.int .i64 c0.n, .int .i64 c0.t, .slice a0 c0.w.length a0c] 24)).alloc (.cells #[.int .i64 c1.n, .int .i64 c1.t, .slice a1 c1.w.length a1c] 24)) := below2 w (.cells #[.int .i64 c0.n, .int .i64 c0.t, .slice a0 c0.w.length a0c] 24) (.cells #[.int .i64 c1.n, .int .i64 c1.t, .slice a1 c1.w.length a1c] 24)
  have K0 := ChUnder.of (k0.keep B0)
  have K1 := ChUnder.of (k1.keep B0)
  have zu0 : w.heap.size + 2 = ((w.alloc (.cells #[.int .i64 c0.n, .int .i64 c0.t, .slice a0 c0.w.length a0c] 24)).alloc (.cells #[.int .i64 c1.n, .int .i64 c1.t, .slice a1 c1.w.length a1c] 24)).heap.size := by simp
  have SB : Since ((w.alloc (.cells #[.int .i64 c0.n, .int .i64 c0.t, .slice a0 c0.w.length a0c] 24)).alloc (.cells #[.int .i64 c1.n, .int .i64 c1.t, .slice a1 c1.w.length a1c] 24)).heap.size ((w.alloc (.cells #[.int .i64 c0.n, .int .i64 c0.t, .slice a0 c0.w.length a0c] 24)).alloc (.cells #[.int .i64 c1.n, .int .i64 c1.t, .slice a1 c1.w.length a1c] 24)) ((w.alloc (.cells #[.int .i64 c0.n, .int .i64 c0.t, .slice a0 c0.w.length a0c] 24)).alloc (.cells #[.int .i64 c1.n, .int .i64 c1.t, .slice a1 c1.w.length a1c] 24)) := ⟨Below.refl _ _, Nat.le_refl _⟩
  obtain ⟨u0, hu0⟩ : ∃ u, ((w.alloc (.cells #[.int .i64 c0.n, .int .i64 c0.t, .slice a0 c0.w.length a0c] 24)).alloc (.cells #[.int .i64 c1.n, .int .i64 c1.t, .slice a1 c1.w.length a1c] 24)) = u := ⟨_, rfl⟩
  rw [hu0] at H0 H1 K0 K1 B0 zu0 SB
  have zu0' := Lib.hid zu0
  have hu0' := Lib.hid hu0
  have z0a : 2 + w.heap.size ≤ u0.heap.size := by omega
  clear zu0 hu0
  have hy0 := szLeft_yes (left := 1048576) (n := (c0.w.length + total c0.w)) (by omega)
  have hn := szLeft_no (left := (szLeft 1048576 (c0.w.length + total c0.w))) (n := (c1.w.length + total c1.w)) (by omega)
  have hneg : szLeft (szLeft 1048576 (c0.w.length + total c0.w)) (c1.w.length + total c1.w) < 0 := by rw [hn]; decide
  have g1 : 0 ≤ (szLeft 1048576 (c0.w.length + total c0.w)) := by omega
  have gg1 : (szLeft 1048576 (c0.w.length + total c0.w)) ≤ 1048576 := by omega
  clear hy0 hn
  obtain ⟨L1, hL1⟩ : ∃ l, szLeft 1048576 (c0.w.length + total c0.w) = l := ⟨_, rfl⟩
  rw [hL1] at g1 gg1 hneg
  have hM1 := Lib.hid hL1
  clear hL1
  go_enter Try.func7, Try.ntmps7
  obtain ⟨pH00, pH01, pH02⟩ := H0.three
  go_wp2_with fail
  rw [hu0'.out]
  refine (szChain_any _ c0 1048576 _ K0.now (by omega) (by omega)).mono ?_
  rintro e u1 ⟨rfl, b1⟩
  clear pH00 pH01 pH02
  have zb1 := b1.size
  rw [hM1.out]
  replace K1 := K1.step b1
  replace H1 := H1.step b1
  obtain ⟨pH10, pH11, pH12⟩ := H1.three
  go_wp2_with fail
  refine (szChain_any _ c1 L1 _ K1.now (by omega) (by omega)).mono ?_
  rintro e u2 ⟨rfl, b2⟩
  clear pH10 pH11 pH12
  have zb2 := b2.size
  go_wp2
  go_ret
  have bc0_2 := (below_wt b1 b2)
  replace SB := SB.step bc0_2
  exact ⟨rfl, B0.trans (SB.bel.mono B0.size)⟩

set_option maxRecDepth 100000 in
set_option maxHeartbeats 16000000 in
theorem walk_ok {w : World} (v0 : Value) (c0 : Ch) (k0 : ChR w v0 c0) (v1 : Value) (c1 : Ch) (k1 : ChR w v1 c1) (hq0 : (((c0.w.length + total c0.w) : Nat) : Int) ≤ (1048576 : Int)) (hq1 : (((c0.w.length + total c0.w) : Nat) : Int) + (((c1.w.length + total c1.w) : Nat) : Int) ≤ (1048576 : Int)) :
    Calls Try.prog 7 #[v0, v1] w fun e w' => e = .returned (.bool true) ∧ Below w.heap.size w w' := by
  obtain ⟨a0, a0c, rfl⟩ := k0.shape
  obtain ⟨a1, a1c, rfl⟩ := k1.shape
  have H0 := ((Blk.new w #[.int .i64 c0.n, .int .i64 c0.t, .slice a0 c0.w.length a0c] 24).alloc (.cells #[.int .i64 c1.n, .int .i64 c1.t, .slice a1 c1.w.length a1c] 24))
  have H1 := (Blk.new (w.alloc (.cells #[.int .i64 c0.n, .int .i64 c0.t, .slice a0 c0.w.length a0c] 24)) #[.int .i64 c1.n, .int .i64 c1.t, .slice a1 c1.w.length a1c] 24)
  simp only [World.size_alloc] at H1
  have B0 : Below w.heap.size w ((w.alloc (.cells #[.int .i64 c0.n, .int .i64 c0.t, .slice a0 c0.w.length a0c] 24)).alloc (.cells #[.int .i64 c1.n, .int .i64 c1.t, .slice a1 c1.w.length a1c] 24)) := below2 w (.cells #[.int .i64 c0.n, .int .i64 c0.t, .slice a0 c0.w.length a0c] 24) (.cells #[.int .i64 c1.n, .int .i64 c1.t, .slice a1 c1.w.length a1c] 24)
  have K0 := ChUnder.of (k0.keep B0)
  have K1 := ChUnder.of (k1.keep B0)
  have zu0 : w.heap.size + 2 = ((w.alloc (.cells #[.int .i64 c0.n, .int .i64 c0.t, .slice a0 c0.w.length a0c] 24)).alloc (.cells #[.int .i64 c1.n, .int .i64 c1.t, .slice a1 c1.w.length a1c] 24)).heap.size := by simp
  have SB : Since ((w.alloc (.cells #[.int .i64 c0.n, .int .i64 c0.t, .slice a0 c0.w.length a0c] 24)).alloc (.cells #[.int .i64 c1.n, .int .i64 c1.t, .slice a1 c1.w.length a1c] 24)).heap.size ((w.alloc (.cells #[.int .i64 c0.n, .int .i64 c0.t, .slice a0 c0.w.length a0c] 24)).alloc (.cells #[.int .i64 c1.n, .int .i64 c1.t, .slice a1 c1.w.length a1c] 24)) ((w.alloc (.cells #[.int .i64 c0.n, .int .i64 c0.t, .slice a0 c0.w.length a0c] 24)).alloc (.cells #[.int .i64 c1.n, .int .i64 c1.t, .slice a1 c1.w.length a1c] 24)) := ⟨Below.refl _ _, Nat.le_refl _⟩
  obtain ⟨u0, hu0⟩ : ∃ u, ((w.alloc (.cells #[.int .i64 c0.n, .int .i64 c0.t, .slice a0 c0.w.length a0c] 24)).alloc (.cells #[.int .i64 c1.n, .int .i64 c1.t, .slice a1 c1.w.length a1c] 24)) = u := ⟨_, rfl⟩
  rw [hu0] at H0 H1 K0 K1 B0 zu0 SB
  have zu0' := Lib.hid zu0
  have hu0' := Lib.hid hu0
  have z0a : 2 + w.heap.size ≤ u0.heap.size := by omega
  clear zu0 hu0
  have hy0 := szLeft_yes (left := 1048576) (n := (c0.w.length + total c0.w)) (by omega)
  have hy1 := szLeft_yes (left := (szLeft 1048576 (c0.w.length + total c0.w))) (n := (c1.w.length + total c1.w)) (by omega)
  have g1 : 0 ≤ (szLeft 1048576 (c0.w.length + total c0.w)) := by omega
  have gg1 : (szLeft 1048576 (c0.w.length + total c0.w)) ≤ 1048576 := by omega
  have g2 : 0 ≤ (szLeft (szLeft 1048576 (c0.w.length + total c0.w)) (c1.w.length + total c1.w)) := by omega
  have gg2 : (szLeft (szLeft 1048576 (c0.w.length + total c0.w)) (c1.w.length + total c1.w)) ≤ 1048576 := by omega
  clear hy0 hy1
  obtain ⟨L1, hL1⟩ : ∃ l, szLeft 1048576 (c0.w.length + total c0.w) = l := ⟨_, rfl⟩
  rw [hL1] at g1 gg1 g2 gg2
  have hM1 := Lib.hid hL1
  clear hL1
  obtain ⟨L2, hL2⟩ : ∃ l, szLeft L1 (c1.w.length + total c1.w) = l := ⟨_, rfl⟩
  rw [hL2] at g2 gg2
  have hM2 := Lib.hid hL2
  clear hL2
  have hbd0 : (c0.w.length + total c0.w) ≤ 2097152 := by omega
  have hti0 : ((total c0.w : Nat) : Int) ≤ 2097152 := by omega
  have hbd1 : (c1.w.length + total c1.w) ≤ 2097152 := by omega
  have hti1 : ((total c1.w : Nat) : Int) ≤ 2097152 := by omega
  obtain ⟨rc, rk, hm0, hrt⟩ : ∃ r rk, besOf c0 c1 = (r, rk) ∧ total r.w ≤ 36 := model_small c0 c1
  have hm := Lib.hid hm0
  clear hm0
  go_enter Try.func7, Try.ntmps7
  obtain ⟨pH00, pH01, pH02⟩ := H0.three
  go_wp2_with fail
  rw [hu0'.out]
  refine (szChain_any _ c0 1048576 _ K0.now (by omega) (by omega)).mono ?_
  rintro e u1 ⟨rfl, b1⟩
  clear pH00 pH01 pH02
  have zb1 := b1.size
  rw [hM1.out]
  replace K1 := K1.step b1
  replace H1 := H1.step b1
  obtain ⟨pH10, pH11, pH12⟩ := H1.three
  go_wp2_with fail
  refine (szChain_any _ c1 L1 _ K1.now (by omega) (by omega)).mono ?_
  rintro e u2 ⟨rfl, b2⟩
  clear pH10 pH11 pH12
  have zb2 := b2.size
  rw [hM2.out]
  have bc0_2 := (below_wt b1 b2)
  replace H0 := H0.step bc0_2
  replace H1 := H1.step b2
  replace K0 := K0.step bc0_2
  replace K1 := K1.step b2
  go_upto_region 8 with fail
  go_cut [6, 7] (fun s1 s2 wx => ∃ (B lo hi : Nat) (ra : Option Addr) (rac : Nat), s1 = .pointer (some ⟨B, 0, none⟩) ∧ s2 = .int .i64 rk ∧ Below u2.heap.size u2 wx ∧ Blk wx B #[.int .i64 rc.n, .int .i64 rc.t, .slice ra rc.w.length rac] 26 ∧ ChMine 37 2 wx lo hi (.agg #[.int .i64 rc.n, .int .i64 rc.t, .slice ra rc.w.length rac]) rc ∧ u2.heap.size ≤ lo ∧ u2.heap.size ≤ B ∧ (B < lo ∨ hi ≤ B))
  case first =>
    have bt := below_drew u2
    replace H0 := H0.step bt
    replace H1 := H1.step bt
    replace K0 := K0.step bt
    replace K1 := K1.step bt
    have zd := bt.size
    have nB0 : w.heap.size < u2.drew.heap.size := Nat.lt_of_lt_of_le (by omega) zd
    have nB1 : w.heap.size + 1 < u2.drew.heap.size := Nat.lt_of_lt_of_le (by omega) zd
    go_region_held3 (fun w' => w'.cell? ⟨w.heap.size, 0, none⟩ = some (.int .i64 c0.n) ∧ w'.cell? ⟨w.heap.size, 1, none⟩ = some (.int .i64 c0.t) ∧ w'.cell? ⟨w.heap.size, 2, none⟩ = some (.slice a0 c0.w.length a0c) ∧ w'.cell? ⟨w.heap.size + 1, 0, none⟩ = some (.int .i64 c1.n) ∧ w'.cell? ⟨w.heap.size + 1, 1, none⟩ = some (.int .i64 c1.t) ∧ w'.cell? ⟨w.heap.size + 1, 2, none⟩ = some (.slice a1 c1.w.length a1c))
      (first | with_reducible exact three2 H0 H1 | with_reducible exact three2 (H0.alloc_drew _) (H1.alloc_drew _) | with_reducible exact three2 (H0.alloc _) (H1.alloc _) | with_reducible exact three2 (H0.store3 n0 _ _ _) (H1.store3 n1 _ _ _) | go_keep)
      (first | (have _t := toks2; go_at_call 28; have az : Below es1.heap.size es1 ((es1.alloc (.cells #[.int .i64 0, .int .i64 0, .slice none 0 0] 26))) := below1 es1 (.cells #[.int .i64 0, .int .i64 0, .slice none 0 0] 26); have Z : Blk ((es1.alloc (.cells #[.int .i64 0, .int .i64 0, .slice none 0 0] 26))) es1.heap.size #[.int .i64 0, .int .i64 0, .slice none 0 0] 26 := Blk.new es1 #[.int .i64 0, .int .i64 0, .slice none 0 0] 26; have zz : es1.heap.size < ((es1.alloc (.cells #[.int .i64 0, .int .i64 0, .slice none 0 0] 26))).heap.size := (by first | (simp; done) | (simp [World.drew]; done)); have n0 : w.heap.size ≠ es1.heap.size := Nat.ne_of_lt (by omega); have n1 : w.heap.size + 1 ≠ es1.heap.size := Nat.ne_of_lt (by omega); replace H0 := H0.step az; replace H1 := H1.step az; replace K0 := K0.step az; replace K1 := K1.step az; replace S0 := S0.step az; replace S1 := S1.step az; replace bt := below_wt bt az; have lz : u2.heap.size ≤ es1.heap.size := (by omega); (with_reducible refine (BesideChain_spec _ _ c0 c1 (es1.alloc (.cells #[.int .i64 0, .int .i64 0, .slice none 0 0] 26)) S0.ch S1.ch).mono ?_); rintro e es2 ⟨sr, rfl, osr, bb⟩; rw [hm.out] at osr ⊢; obtain ⟨sra, srac, rfl⟩ := osr.shape; have zb2 := bb.size; replace H0 := H0.step bb; replace H1 := H1.step bb; replace K0 := K0.step bb; replace K1 := K1.step bb; replace S0 := S0.step bb; replace S1 := S1.step bb; replace bt := below_wt bt bb; have SR := osr.mine; replace Z := Z.step bb; (try (obtain ⟨q0, q1, q2⟩ := Z.three; have f0 := Z.frozen 0; have f1 := Z.frozen 1; have f2 := Z.frozen 2)); (try clear pH00 pH01 pH02); (try clear pH10 pH11 pH12); obtain ⟨pH00, pH01, pH02⟩ := H0.three; obtain ⟨pH10, pH11, pH12⟩ := H1.three; clear bb; have toks3 : True := trivial; clear toks2) | (have _t := toks2; go_at_call 28; (with_reducible refine (BesideChain_spec _ _ c0 c1 es1 S0.ch S1.ch).mono ?_); rintro e es2 ⟨sr, rfl, osr, bb⟩; rw [hm.out] at osr ⊢; obtain ⟨sra, srac, rfl⟩ := osr.shape; have zb2 := bb.size; replace H0 := H0.step bb; replace H1 := H1.step bb; replace K0 := K0.step bb; replace K1 := K1.step bb; replace S0 := S0.step bb; replace S1 := S1.step bb; replace bt := below_wt bt bb; have SR := osr.mine; (try replace Z := Z.step bb); (try (obtain ⟨q0, q1, q2⟩ := Z.three; have f0 := Z.frozen 0; have f1 := Z.frozen 1; have f2 := Z.frozen 2)); (try clear pH00 pH01 pH02); (try clear pH10 pH11 pH12); obtain ⟨pH00, pH01, pH02⟩ := H0.three; obtain ⟨pH10, pH11, pH12⟩ := H1.three; clear bb; have toks3 : True := trivial; clear toks2) | (have _t := toks1; go_at_call 17; have az : Below es0.heap.size es0 ((es0.alloc (.cells #[.int .i64 0, .int .i64 0, .slice none 0 0] 26))) := below1 es0 (.cells #[.int .i64 0, .int .i64 0, .slice none 0 0] 26); have Z : Blk ((es0.alloc (.cells #[.int .i64 0, .int .i64 0, .slice none 0 0] 26))) es0.heap.size #[.int .i64 0, .int .i64 0, .slice none 0 0] 26 := Blk.new es0 #[.int .i64 0, .int .i64 0, .slice none 0 0] 26; have zz : es0.heap.size < ((es0.alloc (.cells #[.int .i64 0, .int .i64 0, .slice none 0 0] 26))).heap.size := (by first | (simp; done) | (simp [World.drew]; done)); have n0 : w.heap.size ≠ es0.heap.size := Nat.ne_of_lt (by omega); have n1 : w.heap.size + 1 ≠ es0.heap.size := Nat.ne_of_lt (by omega); replace H0 := H0.step az; replace H1 := H1.step az; replace K0 := K0.step az; replace K1 := K1.step az; replace S0 := S0.step az; replace bt := below_wt bt az; have lz : u2.heap.size ≤ es0.heap.size := (by omega); (with_reducible refine (to_ch _ c1 (es0.alloc (.cells #[.int .i64 0, .int .i64 0, .slice none 0 0] 26)) K1.now hbd1).mono ?_); rintro e es1 ⟨s1, rfl, os1, bb⟩; obtain ⟨s1a, s1ac, rfl⟩ := os1.shape; have zb1 := bb.size; replace H0 := H0.step bb; replace H1 := H1.step bb; replace K0 := K0.step bb; replace K1 := K1.step bb; replace S0 := S0.step bb; replace bt := below_wt bt bb; have S1 := os1; replace Z := Z.step bb; (try clear pH00 pH01 pH02); (try clear pH10 pH11 pH12); obtain ⟨pH00, pH01, pH02⟩ := H0.three; obtain ⟨pH10, pH11, pH12⟩ := H1.three; clear bb; have toks2 : True := trivial; clear toks1) | (have _t := toks1; go_at_call 17; (with_reducible refine (to_ch _ c1 es0 K1.now hbd1).mono ?_); rintro e es1 ⟨s1, rfl, os1, bb⟩; obtain ⟨s1a, s1ac, rfl⟩ := os1.shape; have zb1 := bb.size; replace H0 := H0.step bb; replace H1 := H1.step bb; replace K0 := K0.step bb; replace K1 := K1.step bb; replace S0 := S0.step bb; replace bt := below_wt bt bb; have S1 := os1; (try replace Z := Z.step bb); (try clear pH00 pH01 pH02); (try clear pH10 pH11 pH12); obtain ⟨pH00, pH01, pH02⟩ := H0.three; obtain ⟨pH10, pH11, pH12⟩ := H1.three; clear bb; have toks2 : True := trivial; clear toks1) | (go_at_call 17; have az : Below u2.drew.heap.size u2.drew ((u2.alloc (.cells #[.int .i64 0, .int .i64 0, .slice none 0 0] 26)).drew) := below1 u2.drew (.cells #[.int .i64 0, .int .i64 0, .slice none 0 0] 26); have Z : Blk ((u2.alloc (.cells #[.int .i64 0, .int .i64 0, .slice none 0 0] 26)).drew) u2.heap.size #[.int .i64 0, .int .i64 0, .slice none 0 0] 26 := Blk.new u2.drew #[.int .i64 0, .int .i64 0, .slice none 0 0] 26; have zz : u2.heap.size < ((u2.alloc (.cells #[.int .i64 0, .int .i64 0, .slice none 0 0] 26)).drew).heap.size := (by first | (simp; done) | (simp [World.drew]; done)); have n0 : w.heap.size ≠ u2.heap.size := Nat.ne_of_lt (by omega); have n1 : w.heap.size + 1 ≠ u2.heap.size := Nat.ne_of_lt (by omega); replace H0 := H0.step az; replace H1 := H1.step az; replace K0 := K0.step az; replace K1 := K1.step az; replace bt := below_wt bt az; have lz : u2.heap.size ≤ u2.heap.size := (by omega); (with_reducible refine (to_ch _ c0 ((u2.alloc (.cells #[.int .i64 0, .int .i64 0, .slice none 0 0] 26)).drew) K0.now hbd0).mono ?_); rintro e es0 ⟨s0, rfl, os0, bb⟩; obtain ⟨s0a, s0ac, rfl⟩ := os0.shape; have zb0 := bb.size; replace H0 := H0.step bb; replace H1 := H1.step bb; replace K0 := K0.step bb; replace K1 := K1.step bb; replace bt := below_wt bt bb; have S0 := os0; replace Z := Z.step bb; (try clear pH00 pH01 pH02); (try clear pH10 pH11 pH12); obtain ⟨pH00, pH01, pH02⟩ := H0.three; obtain ⟨pH10, pH11, pH12⟩ := H1.three; clear bb; have toks1 : True := trivial) | (go_at_call 17; (with_reducible refine (to_ch _ c0 u2.drew K0.now hbd0).mono ?_); rintro e es0 ⟨s0, rfl, os0, bb⟩; obtain ⟨s0a, s0ac, rfl⟩ := os0.shape; have zb0 := bb.size; replace H0 := H0.step bb; replace H1 := H1.step bb; replace K0 := K0.step bb; replace K1 := K1.step bb; replace bt := below_wt bt bb; have S0 := os0; (try replace Z := Z.step bb); (try clear pH00 pH01 pH02); (try clear pH10 pH11 pH12); obtain ⟨pH00, pH01, pH02⟩ := H0.three; obtain ⟨pH10, pH11, pH12⟩ := H1.three; clear bb; have toks1 : True := trivial))
    all_goals (go_wp2_with fail; go_meet)
    all_goals (first
      | exact ⟨_, _, _, _, _, rfl, rfl, Below.filled bt (by omega) _ _ _, Z.filled _ _ _, SR.filled (by first | (left; omega) | (right; omega)) _ _ _, by omega, by omega, by first | (left; omega) | (right; omega)⟩
      | exact ⟨_, _, _, _, _, rfl, rfl, below_wt bt (below1 _ _), Blk.new _ _ _, SR.step (below1 _ _), by omega, by omega, by first | (left; omega) | (right; omega)⟩)
  case rest =>
    obtain ⟨sB, slo, shi, sra, srac, rfl, rfl, b3, W0, SR, sz1, sz2, sz3⟩ := hcut
    obtain ⟨u3, hu3⟩ : ∃ u, u = wc := ⟨_, rfl⟩
    subst hu3
    have zb3 := b3.size
    have sz4 := W0.lt
    have sz5 := SR.le
    replace K0 := K0.step b3
    replace H0 := H0.step b3
    obtain ⟨pH00, pH01, pH02⟩ := H0.three
    go_wp2_with fail
    refine (to_ch _ c0 _ K0.now hbd0).mono ?_
    rintro e u4 ⟨x0_, rfl, ox0_, b4⟩
    clear pH00 pH01 pH02
    have zb4 := b4.size
    obtain ⟨x0_a, x0_ac, rfl⟩ := ox0_.shape
    have X0 := ox0_
    have b5 := below1 u4 (.cells #[.int .i64 c0.n, .int .i64 c0.t, .slice x0_a c0.w.length x0_ac] 26)
    have Q0 := Blk.new u4 #[.int .i64 c0.n, .int .i64 c0.t, .slice x0_a c0.w.length x0_ac] 26
    have yb5 : u4.heap.size < (u4.alloc (.cells #[.int .i64 c0.n, .int .i64 c0.t, .slice x0_a c0.w.length x0_ac] 26)).heap.size := by simp
    obtain ⟨u5, hu50⟩ : ∃ u, (u4.alloc (.cells #[.int .i64 c0.n, .int .i64 c0.t, .slice x0_a c0.w.length x0_ac] 26)) = u := ⟨_, rfl⟩
    rw [hu50] at b5 Q0 yb5
    have hu5 := Lib.hid hu50
    clear hu50
    go_upto_region 10 with fail
    rw [hu5.out]
    have bc2_5 := (below_wt (below_wt b3 b4) b5)
    replace K1 := K1.step bc2_5
    replace H1 := H1.step bc2_5
    obtain ⟨pH10, pH11, pH12⟩ := H1.three
    go_wp2_with fail
    refine (to_ch _ c1 _ K1.now hbd1).mono ?_
    rintro e u6 ⟨x1_, rfl, ox1_, b6⟩
    clear pH10 pH11 pH12
    have zb6 := b6.size
    obtain ⟨x1_a, x1_ac, rfl⟩ := ox1_.shape
    have X1 := ox1_
    have b7 := below1 u6 (.cells #[.int .i64 c1.n, .int .i64 c1.t, .slice x1_a c1.w.length x1_ac] 26)
    have Q1 := Blk.new u6 #[.int .i64 c1.n, .int .i64 c1.t, .slice x1_a c1.w.length x1_ac] 26
    have yb7 : u6.heap.size < (u6.alloc (.cells #[.int .i64 c1.n, .int .i64 c1.t, .slice x1_a c1.w.length x1_ac] 26)).heap.size := by simp
    obtain ⟨u7, hu70⟩ : ∃ u, (u6.alloc (.cells #[.int .i64 c1.n, .int .i64 c1.t, .slice x1_a c1.w.length x1_ac] 26)) = u := ⟨_, rfl⟩
    rw [hu70] at b7 Q1 yb7
    have hu7 := Lib.hid hu70
    clear hu70
    go_upto_region 11 with fail
    rw [hu7.out]
    have bc4_7 := (below_wt (below_wt b5 b6) b7)
    replace X0 := X0.step bc4_7
    replace X1 := X1.step b7
    have bc5_7 := (below_wt b6 b7)
    replace Q0 := Q0.step bc5_7
    obtain ⟨pQ00, pQ01, pQ02⟩ := Q0.three
    obtain ⟨pQ10, pQ11, pQ12⟩ := Q1.three
    go_wp2_with fail
    refine (BesideChain_impl _ _ c0 c1 _ X0.ch X1.ch).mono ?_
    rintro e u8 ⟨gr, rfl, ogr, b8⟩
    clear pQ00 pQ01 pQ02
    clear pQ10 pQ11 pQ12
    have zb8 := b8.size
    rw [hm.out] at ogr ⊢
    obtain ⟨gra, grac, rfl⟩ := ogr.shape
    have GR := ogr.mine
    have b9 := below1 u8 (.cells #[.int .i64 rc.n, .int .i64 rc.t, .slice gra rc.w.length grac] 26)
    have G0 := Blk.new u8 #[.int .i64 rc.n, .int .i64 rc.t, .slice gra rc.w.length grac] 26
    have yb9 : u8.heap.size < (u8.alloc (.cells #[.int .i64 rc.n, .int .i64 rc.t, .slice gra rc.w.length grac] 26)).heap.size := by simp
    obtain ⟨u9, hu90⟩ : ∃ u, (u8.alloc (.cells #[.int .i64 rc.n, .int .i64 rc.t, .slice gra rc.w.length grac] 26)) = u := ⟨_, rfl⟩
    rw [hu90] at b9 G0 yb9
    have hu9 := Lib.hid hu90
    clear hu90
    go_upto_region 12 with fail
    rw [hu9.out]
    replace GR := GR.step b9
    have bc3_9 := (below_wt (below_wt (below_wt (below_wt (below_wt b4 b5) b6) b7) b8) b9)
    replace SR := SR.step bc3_9
    replace W0 := W0.step bc3_9
    obtain ⟨pG00, pG01, pG02⟩ := G0.three
    obtain ⟨pW00, pW01, pW02⟩ := W0.three
    go_wp2_with fail
    refine (eq_ch _ _ rc _ GR.ch SR.ch).mono ?_
    rintro e u10 ⟨rfl, b10⟩
    clear pG00 pG01 pG02
    clear pW00 pW01 pW02
    have zb10 := b10.size
    have bc3_10 := (below_wt (below_wt (below_wt (below_wt (below_wt (below_wt b4 b5) b6) b7) b8) b9) b10)
    replace K0 := K0.step bc3_10
    have bc7_10 := (below_wt (below_wt b8 b9) b10)
    replace X0 := X0.step bc7_10
    replace H0 := H0.step bc3_10
    replace Q0 := Q0.step bc7_10
    obtain ⟨pH00, pH01, pH02⟩ := H0.three
    obtain ⟨pQ00, pQ01, pQ02⟩ := Q0.three
    go_wp2_with fail
    have b11 := below_drew u10
    have zb11 := b11.size
    replace H0 := H0.step b11
    replace Q0 := Q0.step b11
    replace K0 := K0.step b11
    replace X0 := X0.step b11
    go_region_held3 (fun w' => w'.cell? ⟨w.heap.size, 0, none⟩ = some (.int .i64 c0.n) ∧ w'.cell? ⟨w.heap.size, 1, none⟩ = some (.int .i64 c0.t) ∧ w'.cell? ⟨w.heap.size, 2, none⟩ = some (.slice a0 c0.w.length a0c) ∧ w'.cell? ⟨u4.heap.size, 0, none⟩ = some (.int .i64 c0.n) ∧ w'.cell? ⟨u4.heap.size, 1, none⟩ = some (.int .i64 c0.t) ∧ w'.cell? ⟨u4.heap.size, 2, none⟩ = some (.slice x0_a c0.w.length x0_ac)) (first | with_reducible exact three2 H0 Q0 | go_keep) (first | (have _t := toky0; go_at_call 19; (with_reducible refine (eq_ch _ _ c0 _ X0.ch oy0.ch).mono ?_); rintro e u13 ⟨rfl, b13⟩; have zb13 := b13.size; replace H0 := H0.step b13; replace Q0 := Q0.step b13; replace K0 := K0.step b13; replace X0 := X0.step b13; clear pH00 pH01 pH02; clear pQ00 pQ01 pQ02; obtain ⟨pH00, pH01, pH02⟩ := H0.three; obtain ⟨pQ00, pQ01, pQ02⟩ := Q0.three; skip) | (go_at_call 17; (with_reducible refine (to_ch _ c0 _ K0.now hbd0).mono ?_); rintro e u12 ⟨y0, rfl, oy0, b12⟩; have zb12 := b12.size; replace H0 := H0.step b12; replace Q0 := Q0.step b12; replace K0 := K0.step b12; replace X0 := X0.step b12; clear pH00 pH01 pH02; clear pQ00 pQ01 pQ02; obtain ⟨pH00, pH01, pH02⟩ := H0.three; obtain ⟨pQ00, pQ01, pQ02⟩ := Q0.three; obtain ⟨y0a, y0ac, rfl⟩ := oy0.shape; have toky0 : True := trivial))
    clear pH00 pH01 pH02
    clear pQ00 pQ01 pQ02
    have bc5_13 := (below_wt (below_wt (below_wt (below_wt (below_wt (below_wt (below_wt b6 b7) b8) b9) b10) b11) b12) b13)
    replace K1 := K1.step bc5_13
    have bc7_13 := (below_wt (below_wt (below_wt (below_wt (below_wt b8 b9) b10) b11) b12) b13)
    replace X1 := X1.step bc7_13
    replace H1 := H1.step bc5_13
    replace Q1 := Q1.step bc7_13
    obtain ⟨pH10, pH11, pH12⟩ := H1.three
    obtain ⟨pQ10, pQ11, pQ12⟩ := Q1.three
    go_wp2_with fail
    have b14 := below_drew u13
    have zb14 := b14.size
    replace H1 := H1.step b14
    replace Q1 := Q1.step b14
    replace K1 := K1.step b14
    replace X1 := X1.step b14
    go_region_held3 (fun w' => w'.cell? ⟨w.heap.size + 1, 0, none⟩ = some (.int .i64 c1.n) ∧ w'.cell? ⟨w.heap.size + 1, 1, none⟩ = some (.int .i64 c1.t) ∧ w'.cell? ⟨w.heap.size + 1, 2, none⟩ = some (.slice a1 c1.w.length a1c) ∧ w'.cell? ⟨u6.heap.size, 0, none⟩ = some (.int .i64 c1.n) ∧ w'.cell? ⟨u6.heap.size, 1, none⟩ = some (.int .i64 c1.t) ∧ w'.cell? ⟨u6.heap.size, 2, none⟩ = some (.slice x1_a c1.w.length x1_ac)) (first | with_reducible exact three2 H1 Q1 | go_keep) (first | (have _t := toky1; go_at_call 19; (with_reducible refine (eq_ch _ _ c1 _ X1.ch oy1.ch).mono ?_); rintro e u16 ⟨rfl, b16⟩; have zb16 := b16.size; replace H1 := H1.step b16; replace Q1 := Q1.step b16; replace K1 := K1.step b16; replace X1 := X1.step b16; clear pH10 pH11 pH12; clear pQ10 pQ11 pQ12; obtain ⟨pH10, pH11, pH12⟩ := H1.three; obtain ⟨pQ10, pQ11, pQ12⟩ := Q1.three; skip) | (go_at_call 17; (with_reducible refine (to_ch _ c1 _ K1.now hbd1).mono ?_); rintro e u15 ⟨y1, rfl, oy1, b15⟩; have zb15 := b15.size; replace H1 := H1.step b15; replace Q1 := Q1.step b15; replace K1 := K1.step b15; replace X1 := X1.step b15; clear pH10 pH11 pH12; clear pQ10 pQ11 pQ12; obtain ⟨pH10, pH11, pH12⟩ := H1.three; obtain ⟨pQ10, pQ11, pQ12⟩ := Q1.three; obtain ⟨y1a, y1ac, rfl⟩ := oy1.shape; have toky1 : True := trivial))
    clear pH10 pH11 pH12
    clear pQ10 pQ11 pQ12
    have bc13_16 := (below_wt (below_wt b14 b15) b16)
    replace X0 := X0.step bc13_16
    replace Q0 := Q0.step bc13_16
    obtain ⟨pQ00, pQ01, pQ02⟩ := Q0.three
    go_wp2_with fail
    refine (mark_mine X0 (by omega) (by omega)).mono ?_
    rintro e u17 ⟨rfl, mx0, b17⟩
    clear pQ00 pQ01 pQ02
    have zb17 := b17.size
    replace X1 := X1.touch b17 (by omega)
    replace Q1 := Q1.touch b17 (by omega)
    obtain ⟨pQ10, pQ11, pQ12⟩ := Q1.three
    go_wp2_with fail
    refine (mark_mine X1 (by omega) (by omega)).mono ?_
    rintro e u18 ⟨rfl, mx1, b18⟩
    clear pQ10 pQ11 pQ12
    have zb18 := b18.size
    have hk1 : 0 ≤ 1 + ((total c0.w : Nat) : Int) + ((total c1.w : Nat) : Int) := by omega
    have bc9_16 := (below_wt (below_wt (below_wt (below_wt (below_wt (below_wt b10 b11) b12) b13) b14) b15) b16)
    replace GR := GR.step bc9_16
    replace GR := GR.touch b17 (by omega)
    replace GR := GR.touch b18 (by omega)
    replace SR := SR.step bc9_16
    replace SR := SR.touch b17 (by omega)
    replace SR := SR.touch b18 (by omega)
    replace G0 := G0.step bc9_16
    replace G0 := G0.touch b17 (by omega)
    replace G0 := G0.touch b18 (by omega)
    replace W0 := W0.step bc9_16
    replace W0 := W0.touch b17 (by omega)
    replace W0 := W0.touch b18 (by omega)
    obtain ⟨pG00, pG01, pG02⟩ := G0.three
    obtain ⟨pW00, pW01, pW02⟩ := W0.three
    go_wp2_with fail
    refine (eq_ch _ _ rc _ GR.ch SR.ch).mono ?_
    rintro e u19 ⟨rfl, b19⟩
    clear pG00 pG01 pG02
    clear pW00 pW01 pW02
    have zb19 := b19.size
    replace GR := GR.step b19
    replace G0 := G0.step b19
    obtain ⟨pG00, pG01, pG02⟩ := G0.three
    go_wp2_with fail
    refine (mark_mine GR (by omega) (by omega)).mono ?_
    rintro e u20 ⟨rfl, mg, b20⟩
    clear pG00 pG01 pG02
    have zb20 := b20.size
    have hk2 : 0 ≤ 1 + ((total rc.w : Nat) : Int) := by omega
    replace G0 := G0.touch b20 (by omega)
    obtain ⟨pG00, pG01, pG02⟩ := G0.three
    go_wp2_with fail
    refine (held_mine mg (by omega) (by omega)).mono ?_
    rintro e u21 ⟨rfl, b21⟩
    clear pG00 pG01 pG02
    have zb21 := b21.size
    replace H0 := H0.step bc13_16
    replace H0 := H0.touch b17 (by omega)
    replace H0 := H0.touch b18 (by omega)
    replace H0 := H0.step b19
    replace H0 := H0.touch b20 (by omega)
    replace H0 := H0.step b21
    replace H1 := H1.touch b17 (by omega)
    replace H1 := H1.touch b18 (by omega)
    replace H1 := H1.step b19
    replace H1 := H1.touch b20 (by omega)
    replace H1 := H1.step b21
    replace K0 := K0.step bc13_16
    replace K0 := K0.touch b17 (by omega)
    replace K0 := K0.touch b18 (by omega)
    replace K0 := K0.step b19
    replace K0 := K0.touch b20 (by omega)
    replace K0 := K0.step b21
    replace K1 := K1.touch b17 (by omega)
    replace K1 := K1.touch b18 (by omega)
    replace K1 := K1.step b19
    replace K1 := K1.touch b20 (by omega)
    replace K1 := K1.step b21
    go_upto_region 31 with fail
    go_cut [15, 16] (fun s1 s2 wx => ∃ (B lo hi : Nat) (ra : Option Addr) (rac : Nat), s1 = .pointer (some ⟨B, 0, none⟩) ∧ s2 = .int .i64 rk ∧ Below u21.heap.size u21 wx ∧ Blk wx B #[.int .i64 rc.n, .int .i64 rc.t, .slice ra rc.w.length rac] 26 ∧ ChMine 37 2 wx lo hi (.agg #[.int .i64 rc.n, .int .i64 rc.t, .slice ra rc.w.length rac]) rc ∧ u21.heap.size ≤ lo ∧ u21.heap.size ≤ B ∧ (B < lo ∨ hi ≤ B))
    case first =>
      have bt := below_drew u21
      replace H0 := H0.step bt
      replace H1 := H1.step bt
      replace K0 := K0.step bt
      replace K1 := K1.step bt
      have zd := bt.size
      have nB0 : w.heap.size < u21.drew.heap.size := Nat.lt_of_lt_of_le (by omega) zd
      have nB1 : w.heap.size + 1 < u21.drew.heap.size := Nat.lt_of_lt_of_le (by omega) zd
      go_region_held3 (fun w' => w'.cell? ⟨w.heap.size, 0, none⟩ = some (.int .i64 c0.n) ∧ w'.cell? ⟨w.heap.size, 1, none⟩ = some (.int .i64 c0.t) ∧ w'.cell? ⟨w.heap.size, 2, none⟩ = some (.slice a0 c0.w.length a0c) ∧ w'.cell? ⟨w.heap.size + 1, 0, none⟩ = some (.int .i64 c1.n) ∧ w'.cell? ⟨w.heap.size + 1, 1, none⟩ = some (.int .i64 c1.t) ∧ w'.cell? ⟨w.heap.size + 1, 2, none⟩ = some (.slice a1 c1.w.length a1c))
        (first | with_reducible exact three2 H0 H1 | with_reducible exact three2 (H0.alloc_drew _) (H1.alloc_drew _) | with_reducible exact three2 (H0.alloc _) (H1.alloc _) | with_reducible exact three2 (H0.store3 n0 _ _ _) (H1.store3 n1 _ _ _) | go_keep)
        (first | (have _t := tokt2; go_at_call 29; have az : Below et1.heap.size et1 ((et1.alloc (.cells #[.int .i64 0, .int .i64 0, .slice none 0 0] 26))) := below1 et1 (.cells #[.int .i64 0, .int .i64 0, .slice none 0 0] 26); have Z : Blk ((et1.alloc (.cells #[.int .i64 0, .int .i64 0, .slice none 0 0] 26))) et1.heap.size #[.int .i64 0, .int .i64 0, .slice none 0 0] 26 := Blk.new et1 #[.int .i64 0, .int .i64 0, .slice none 0 0] 26; have zz : et1.heap.size < ((et1.alloc (.cells #[.int .i64 0, .int .i64 0, .slice none 0 0] 26))).heap.size := (by first | (simp; done) | (simp [World.drew]; done)); have n0 : w.heap.size ≠ et1.heap.size := Nat.ne_of_lt (by omega); have n1 : w.heap.size + 1 ≠ et1.heap.size := Nat.ne_of_lt (by omega); replace H0 := H0.step az; replace H1 := H1.step az; replace K0 := K0.step az; replace K1 := K1.step az; replace T0 := T0.step az; replace T1 := T1.step az; replace bt := below_wt bt az; have lz : u21.heap.size ≤ et1.heap.size := (by omega); (with_reducible refine (BesideChain_impl _ _ c0 c1 (et1.alloc (.cells #[.int .i64 0, .int .i64 0, .slice none 0 0] 26)) T0.ch T1.ch).mono ?_); rintro e et2 ⟨tr, rfl, otr, bb⟩; rw [hm.out] at otr ⊢; obtain ⟨tra, trac, rfl⟩ := otr.shape; have zb2 := bb.size; replace H0 := H0.step bb; replace H1 := H1.step bb; replace K0 := K0.step bb; replace K1 := K1.step bb; replace T0 := T0.step bb; replace T1 := T1.step bb; replace bt := below_wt bt bb; have TR := otr.mine; replace Z := Z.step bb; (try (obtain ⟨q0, q1, q2⟩ := Z.three; have f0 := Z.frozen 0; have f1 := Z.frozen 1; have f2 := Z.frozen 2)); (try clear pH00 pH01 pH02); (try clear pH10 pH11 pH12); obtain ⟨pH00, pH01, pH02⟩ := H0.three; obtain ⟨pH10, pH11, pH12⟩ := H1.three; clear bb; have tokt3 : True := trivial; clear tokt2) | (have _t := tokt2; go_at_call 29; (with_reducible refine (BesideChain_impl _ _ c0 c1 et1 T0.ch T1.ch).mono ?_); rintro e et2 ⟨tr, rfl, otr, bb⟩; rw [hm.out] at otr ⊢; obtain ⟨tra, trac, rfl⟩ := otr.shape; have zb2 := bb.size; replace H0 := H0.step bb; replace H1 := H1.step bb; replace K0 := K0.step bb; replace K1 := K1.step bb; replace T0 := T0.step bb; replace T1 := T1.step bb; replace bt := below_wt bt bb; have TR := otr.mine; (try replace Z := Z.step bb); (try (obtain ⟨q0, q1, q2⟩ := Z.three; have f0 := Z.frozen 0; have f1 := Z.frozen 1; have f2 := Z.frozen 2)); (try clear pH00 pH01 pH02); (try clear pH10 pH11 pH12); obtain ⟨pH00, pH01, pH02⟩ := H0.three; obtain ⟨pH10, pH11, pH12⟩ := H1.three; clear bb; have tokt3 : True := trivial; clear tokt2) | (have _t := tokt1; go_at_call 17; have az : Below et0.heap.size et0 ((et0.alloc (.cells #[.int .i64 0, .int .i64 0, .slice none 0 0] 26))) := below1 et0 (.cells #[.int .i64 0, .int .i64 0, .slice none 0 0] 26); have Z : Blk ((et0.alloc (.cells #[.int .i64 0, .int .i64 0, .slice none 0 0] 26))) et0.heap.size #[.int .i64 0, .int .i64 0, .slice none 0 0] 26 := Blk.new et0 #[.int .i64 0, .int .i64 0, .slice none 0 0] 26; have zz : et0.heap.size < ((et0.alloc (.cells #[.int .i64 0, .int .i64 0, .slice none 0 0] 26))).heap.size := (by first | (simp; done) | (simp [World.drew]; done)); have n0 : w.heap.size ≠ et0.heap.size := Nat.ne_of_lt (by omega); have n1 : w.heap.size + 1 ≠ et0.heap.size := Nat.ne_of_lt (by omega); replace H0 := H0.step az; replace H1 := H1.step az; replace K0 := K0.step az; replace K1 := K1.step az; replace T0 := T0.step az; replace bt := below_wt bt az; have lz : u21.heap.size ≤ et0.heap.size := (by omega); (with_reducible refine (to_ch _ c1 (et0.alloc (.cells #[.int .i64 0, .int .i64 0, .slice none 0 0] 26)) K1.now hbd1).mono ?_); rintro e et1 ⟨t1, rfl, ot1, bb⟩; obtain ⟨t1a, t1ac, rfl⟩ := ot1.shape; have zb1 := bb.size; replace H0 := H0.step bb; replace H1 := H1.step bb; replace K0 := K0.step bb; replace K1 := K1.step bb; replace T0 := T0.step bb; replace bt := below_wt bt bb; have T1 := ot1; replace Z := Z.step bb; (try clear pH00 pH01 pH02); (try clear pH10 pH11 pH12); obtain ⟨pH00, pH01, pH02⟩ := H0.three; obtain ⟨pH10, pH11, pH12⟩ := H1.three; clear bb; have tokt2 : True := trivial; clear tokt1) | (have _t := tokt1; go_at_call 17; (with_reducible refine (to_ch _ c1 et0 K1.now hbd1).mono ?_); rintro e et1 ⟨t1, rfl, ot1, bb⟩; obtain ⟨t1a, t1ac, rfl⟩ := ot1.shape; have zb1 := bb.size; replace H0 := H0.step bb; replace H1 := H1.step bb; replace K0 := K0.step bb; replace K1 := K1.step bb; replace T0 := T0.step bb; replace bt := below_wt bt bb; have T1 := ot1; (try replace Z := Z.step bb); (try clear pH00 pH01 pH02); (try clear pH10 pH11 pH12); obtain ⟨pH00, pH01, pH02⟩ := H0.three; obtain ⟨pH10, pH11, pH12⟩ := H1.three; clear bb; have tokt2 : True := trivial; clear tokt1) | (go_at_call 17; have az : Below u21.drew.heap.size u21.drew ((u21.alloc (.cells #[.int .i64 0, .int .i64 0, .slice none 0 0] 26)).drew) := below1 u21.drew (.cells #[.int .i64 0, .int .i64 0, .slice none 0 0] 26); have Z : Blk ((u21.alloc (.cells #[.int .i64 0, .int .i64 0, .slice none 0 0] 26)).drew) u21.heap.size #[.int .i64 0, .int .i64 0, .slice none 0 0] 26 := Blk.new u21.drew #[.int .i64 0, .int .i64 0, .slice none 0 0] 26; have zz : u21.heap.size < ((u21.alloc (.cells #[.int .i64 0, .int .i64 0, .slice none 0 0] 26)).drew).heap.size := (by first | (simp; done) | (simp [World.drew]; done)); have n0 : w.heap.size ≠ u21.heap.size := Nat.ne_of_lt (by omega); have n1 : w.heap.size + 1 ≠ u21.heap.size := Nat.ne_of_lt (by omega); replace H0 := H0.step az; replace H1 := H1.step az; replace K0 := K0.step az; replace K1 := K1.step az; replace bt := below_wt bt az; have lz : u21.heap.size ≤ u21.heap.size := (by omega); (with_reducible refine (to_ch _ c0 ((u21.alloc (.cells #[.int .i64 0, .int .i64 0, .slice none 0 0] 26)).drew) K0.now hbd0).mono ?_); rintro e et0 ⟨t0, rfl, ot0, bb⟩; obtain ⟨t0a, t0ac, rfl⟩ := ot0.shape; have zb0 := bb.size; replace H0 := H0.step bb; replace H1 := H1.step bb; replace K0 := K0.step bb; replace K1 := K1.step bb; replace bt := below_wt bt bb; have T0 := ot0; replace Z := Z.step bb; (try clear pH00 pH01 pH02); (try clear pH10 pH11 pH12); obtain ⟨pH00, pH01, pH02⟩ := H0.three; obtain ⟨pH10, pH11, pH12⟩ := H1.three; clear bb; have tokt1 : True := trivial) | (go_at_call 17; (with_reducible refine (to_ch _ c0 u21.drew K0.now hbd0).mono ?_); rintro e et0 ⟨t0, rfl, ot0, bb⟩; obtain ⟨t0a, t0ac, rfl⟩ := ot0.shape; have zb0 := bb.size; replace H0 := H0.step bb; replace H1 := H1.step bb; replace K0 := K0.step bb; replace K1 := K1.step bb; replace bt := below_wt bt bb; have T0 := ot0; (try replace Z := Z.step bb); (try clear pH00 pH01 pH02); (try clear pH10 pH11 pH12); obtain ⟨pH00, pH01, pH02⟩ := H0.three; obtain ⟨pH10, pH11, pH12⟩ := H1.three; clear bb; have tokt1 : True := trivial))
      all_goals (go_wp2_with fail; go_meet)
      all_goals (first
        | exact ⟨_, _, _, _, _, rfl, rfl, Below.filled bt (by omega) _ _ _, Z.filled _ _ _, TR.filled (by first | (left; omega) | (right; omega)) _ _ _, by omega, by omega, by first | (left; omega) | (right; omega)⟩
        | exact ⟨_, _, _, _, _, rfl, rfl, below_wt bt (below1 _ _), Blk.new _ _ _, TR.step (below1 _ _), by omega, by omega, by first | (left; omega) | (right; omega)⟩)
    case rest =>
      obtain ⟨tB, tlo, thi, tra, trac, rfl, rfl, b22, T9, TR, tz1, tz2, tz3⟩ := hcut
      obtain ⟨u22, hu22⟩ : ∃ u, u = wc := ⟨_, rfl⟩
      subst hu22
      have zb22 := b22.size
      have tz4 := T9.lt
      have tz5 := TR.le
      replace SR := SR.step b19
      replace SR := SR.touch b20 (by omega)
      have bc20_22 := (below_wt b21 b22)
      replace SR := SR.step bc20_22
      replace W0 := W0.step b19
      replace W0 := W0.touch b20 (by omega)
      replace W0 := W0.step bc20_22
      obtain ⟨pT90, pT91, pT92⟩ := T9.three
      obtain ⟨pW00, pW01, pW02⟩ := W0.three
      go_wp2_with fail
      refine (eq_ch _ _ rc _ TR.ch SR.ch).mono ?_
      rintro e u23 ⟨rfl, b23⟩
      clear pT90 pT91 pT92
      clear pW00 pW01 pW02
      have zb23 := b23.size
      have bc20_23 := (below_wt (below_wt b21 b22) b23)
      replace mg := mg.step bc20_23
      replace G0 := G0.step bc20_23
      obtain ⟨pG00, pG01, pG02⟩ := G0.three
      go_wp2_with fail
      refine (held_mine mg (by omega) (by omega)).mono ?_
      rintro e u24 ⟨rfl, b24⟩
      clear pG00 pG01 pG02
      have zb24 := b24.size
      go_wp2
      go_ret
      have bc0_16 := (below_wt (below_wt (below_wt (below_wt (below_wt (below_wt (below_wt (below_wt (below_wt (below_wt (below_wt (below_wt (below_wt (below_wt (below_wt b1 b2) b3) b4) b5) b6) b7) b8) b9) b10) b11) b12) b13) b14) b15) b16)
      replace SB := SB.step bc0_16
      replace SB := SB.touch b17 (by omega)
      replace SB := SB.touch b18 (by omega)
      replace SB := SB.step b19
      replace SB := SB.touch b20 (by omega)
      have bc20_24 := (below_wt (below_wt (below_wt b21 b22) b23) b24)
      replace SB := SB.step bc20_24
      exact ⟨rfl, B0.trans (SB.bel.mono B0.size)⟩

theorem walk {w : World} (v0 : Value) (c0 : Ch) (k0 : ChR w v0 c0) (v1 : Value) (c1 : Ch) (k1 : ChR w v1 c1) :
    Calls Try.prog 7 #[v0, v1] w fun e w' => e = .returned (.bool true) ∧ Below w.heap.size w w' := by
  by_cases h0 : (((c0.w.length + total c0.w) : Nat) : Int) ≤ (1048576 : Int)
  rotate_left
  · exact walk_long0 v0 c0 k0 v1 c1 k1  (by omega)
  by_cases h1 : (((c0.w.length + total c0.w) : Nat) : Int) + (((c1.w.length + total c1.w) : Nat) : Int) ≤ (1048576 : Int)
  rotate_left
  · exact walk_long1 v0 c0 k0 v1 c1 k1 h0 (by omega)
  exact walk_ok v0 c0 k0 v1 c1 k1 h0 h1

set_option maxRecDepth 100000 in
theorem lifted (os : Os) (started : os.Started) (H : Type) (enc : TypeId × Value → H) :
    ReturnsInHanded {} Try.checked os 7 .any (Rows.fnExactBesideChainSpec.pre6 enc Try.prog Try.f7 Rows.fnExactBesideChainRow.domain false) (Rows.fnExactBesideChainSpec.post enc Try.prog Try.f7 false true false false) := by
  refine returnsInHanded_of_change (C := Try.checked) own started (by kernel_rfl) Try.func7
    (ChangeSpec.witness6 (enc := enc) (C := Try.checked) false ⟨#[], #[.agg #[.int .i64 0, .int .i64 0, .slice none 0 0], .agg #[.int .i64 0, .int .i64 0, .slice none 0 0]], []⟩ 8 (by kernel_rfl) (by kernel_rfl) (by kernel_rfl) (by kernel_rfl)) ?_
  intro W base args ds gs before hval0 hW hcnd _
  have hval : ∀ (j : Nat) t v, Try.f7.params[j]? = some t → args[j]? = some v → Value.okWide Try.prog W .any base t v := hval0
  have hW' := hW
  obtain ⟨p, q, hA0, hV, rfl, hfz, hnd⟩ := hW
  have hA : DataW.TrodAll enc Try.prog W 0 (fun _ => true) true Try.f7.params.toList args.toList ds p := hA0
  rw [Try.params7] at hA hval
  obtain ⟨v0, vs0, d0, ds0, p0, q0, hargs, rfl, rfl, h0, r0⟩ := trodAll_cons hA
  obtain ⟨v1, vs1, d1, ds1, p1, q1, rfl, rfl, rfl, h1, r1⟩ := trodAll_cons r0
  obtain ⟨rfl, rfl, rfl⟩ := trodAll_nil r1
  obtain rfl : args = #[v0, v1] := by cases args; simp_all
  obtain ⟨rfl, rfl⟩ := trodVars_none hV
  have k0 := h0
  have lt0 : ∀ x ∈ p0, x.block < W.heap.size := by obtain ⟨m, hm⟩ := k0; exact DataW.trod_lt m _ _ _ hm
  obtain ⟨c0, w0⟩ := open_chain (hval 0 24 v0 rfl rfl) h0
  have k1 := h1
  have lt1 : ∀ x ∈ p1, x.block < W.heap.size := by obtain ⟨m, hm⟩ := k1; exact DataW.trod_lt m _ _ _ hm
  obtain ⟨c1, w1⟩ := open_chain (hval 1 24 v1 rfl rfl) h1
  clear hA0 hval0
  refine (walk v0 c0 w0 v1 c1 w1).mono fun e W' ⟨he, bel⟩ => ?_
  subst he
  exact ⟨_, rfl, _, _, _, [], _, [], hW', trodAll_mk1 (shut_bool Try.underlying4 _), (trodAll_cons_mk (Below.trod laidOut (by kernel_rfl) (of_decide_eq_true (by kernel_rfl)) k0 bel lt0) (trodAll_cons_mk (Below.trod laidOut (by kernel_rfl) (of_decide_eq_true (by kernel_rfl)) k1 bel lt1) trodAll_mk0)), rfl, bel.frame _, fun h => by cases h⟩

theorem over : Rows.fnExactBesideChainRow.holds Try.pinned (OpenSpec.ofChange Rows.fnExactBesideChainSpec) :=
  OpenClaim.holds_of_wide 7 Try.f7 rfl rfl rfl rfl rfl rfl rfl ⟨rfl, rfl, rfl, rfl, rfl⟩ rfl rfl rfl rfl rfl (by kernel_rfl) Try.func7 (by kernel_rfl)
    (of_decide_eq_true (by kernel_rfl)) (by unfold Func.isWrapper; first | (rw [if_pos (by decide +kernel)]; kernel_rfl) | (rw [if_neg (by decide +kernel)]; exact ⟨rfl, rfl⟩))
    (fun os started H enc _ => lifted os started H enc)

/-- the statement -/
theorem proved : Rows.FnExactBesideChainSaid := over
end Go.Proofs.Ytepajimcnheofaa.fnExactBesideChain
