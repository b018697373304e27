/- SameMaps of the project answers as the model does, for all pairs of maps (at most 2^20 entries, as the law says; larger ones it lets pass).
   Conditions: none beyond the row's own (every input that can be read as data). -/
import Derived.Test.YtgbhkdoejnkmhaaMsSame
import Derived.Test.YtgbhkdoejnkmhaaOpen
namespace Go.Proofs.Ytgbhkdoejnkmhaa.fnExactSameMaps
open Go.ChangeShapes Go.WideShapes Go.ChangeAt Go.RowKit Go.Deep Go.Joins
open Go.ChangeMaps (open_string shut_string)
set_option linter.unusedVariables false

theorem own : ownKnob Try.prog.godebug = none := by kernel_rfl
theorem laidOut : laidOutB Try.prog = true := by kernel_rfl

set_option maxRecDepth 100000 in
set_option maxHeartbeats 8000000 in
theorem walk_a {w : World} (v0 : Value) (c0 : Ms) (k0 : MsR w v0 c0) (v1 : Value) (c1 : Ms) (k1 : MsR w v1 c1) (hq : (1048576 : Int) < ((c0.l.length + tot c0.l) : Nat)) :
    Calls Try.prog 4 #[v0, v1] w fun e w' => e = .returned (.bool true) ∧ Below w.heap.size w w' := by
  obtain ⟨a0, a0c, rfl⟩ := k0.shape
  obtain ⟨a1, a1c, rfl⟩ := k1.shape
  have H0 := (Blk.new w #[.int .i64 c0.n, .int .i64 c0.t, .slice a0 c0.l.length a0c] 24).alloc (.cells #[.int .i64 c1.n, .int .i64 c1.t, .slice a1 c1.l.length a1c] 24)
  have H1 := Blk.new (w.alloc (.cells #[.int .i64 c0.n, .int .i64 c0.t, .slice a0 c0.l.length a0c] 24)) #[.int .i64 c1.n, .int .i64 c1.t, .slice a1 c1.l.length a1c] 24
  simp only [World.size_alloc] at H1
  have B0 := below2 w (.cells #[.int .i64 c0.n, .int .i64 c0.t, .slice a0 c0.l.length a0c] 24) (.cells #[.int .i64 c1.n, .int .i64 c1.t, .slice a1 c1.l.length a1c] 24)
  have K0 := k0.keep B0
  have K1 := k1.keep B0
  have hn := szLeft_no hq
  have hneg : szLeft 1048576 (c0.l.length + tot c0.l) < 0 := by rw [hn]; decide
  clear hn
  go_enter Try.func4, Try.ntmps4
  go_wp2_with fail
  refine (szMaps_any _ c0 1048576 _ K0 (by decide) (by decide)).mono ?_
  rintro e u1 ⟨rfl, b1⟩
  replace H0 := H0.step b1
  replace H1 := H1.step b1
  replace K0 := K0.keep b1
  replace K1 := K1.keep b1
  go_wp2
  go_ret
  exact ⟨rfl, (below_wt B0 b1)⟩

set_option maxRecDepth 100000 in
set_option maxHeartbeats 8000000 in
theorem walk_b {w : World} (v0 : Value) (c0 : Ms) (k0 : MsR w v0 c0) (v1 : Value) (c1 : Ms) (k1 : MsR w v1 c1) (hp : (((c0.l.length + tot c0.l) : Nat) : Int) ≤ 1048576) (hq : (1048576 : Int) < ((c0.l.length + tot c0.l) : Nat) + ((c1.l.length + tot c1.l) : Nat)) :
    Calls Try.prog 4 #[v0, v1] w fun e w' => e = .returned (.bool true) ∧ Below w.heap.size w w' := by
  obtain ⟨a0, a0c, rfl⟩ := k0.shape
  obtain ⟨a1, a1c, rfl⟩ := k1.shape
  have H0 := (Blk.new w #[.int .i64 c0.n, .int .i64 c0.t, .slice a0 c0.l.length a0c] 24).alloc (.cells #[.int .i64 c1.n, .int .i64 c1.t, .slice a1 c1.l.length a1c] 24)
  have H1 := Blk.new (w.alloc (.cells #[.int .i64 c0.n, .int .i64 c0.t, .slice a0 c0.l.length a0c] 24)) #[.int .i64 c1.n, .int .i64 c1.t, .slice a1 c1.l.length a1c] 24
  simp only [World.size_alloc] at H1
  have B0 := below2 w (.cells #[.int .i64 c0.n, .int .i64 c0.t, .slice a0 c0.l.length a0c] 24) (.cells #[.int .i64 c1.n, .int .i64 c1.t, .slice a1 c1.l.length a1c] 24)
  have K0 := k0.keep B0
  have K1 := k1.keep B0
  have hy := szLeft_yes (left := 1048576) (n := (c0.l.length + tot c0.l)) hp
  have hn := szLeft_no (left := szLeft 1048576 (c0.l.length + tot c0.l)) (n := (c1.l.length + tot c1.l)) (by omega)
  have h0 : 0 ≤ szLeft 1048576 (c0.l.length + tot c0.l) := by omega
  have h1 : szLeft 1048576 (c0.l.length + tot c0.l) ≤ 1048576 := by omega
  have hz := szMaps_any _ c0 1048576 _ K0 (by decide) (by decide)
  clear hy
  generalize szLeft 1048576 (c0.l.length + tot c0.l) = L at *
  have hneg : szLeft L (c1.l.length + tot c1.l) < 0 := by rw [hn]; decide
  clear hn
  go_enter Try.func4, Try.ntmps4
  go_wp2_with fail
  refine (hz).mono ?_
  rintro e u1 ⟨rfl, b1⟩
  replace H0 := H0.step b1
  replace H1 := H1.step b1
  replace K0 := K0.keep b1
  replace K1 := K1.keep b1
  obtain ⟨pH10, pH11, pH12⟩ := H1.three
  go_wp2_with fail
  refine (szMaps_any _ c1 L _ K1 (by omega) (by omega)).mono ?_
  rintro e u2 ⟨rfl, b2⟩
  clear pH10 pH11 pH12
  replace H0 := H0.step b2
  replace H1 := H1.step b2
  replace K0 := K0.keep b2
  replace K1 := K1.keep b2
  go_wp2
  go_ret
  exact ⟨rfl, (below_wt (below_wt B0 b1) b2)⟩

set_option maxRecDepth 100000 in
set_option maxHeartbeats 8000000 in
theorem walk_c {w : World} (v0 : Value) (c0 : Ms) (k0 : MsR w v0 c0) (v1 : Value) (c1 : Ms) (k1 : MsR w v1 c1) (hq : (((c0.l.length + tot c0.l) : Nat) : Int) + ((c1.l.length + tot c1.l) : Nat) ≤ 1048576) :
    Calls Try.prog 4 #[v0, v1] w fun e w' => e = .returned (.bool true) ∧ Below w.heap.size w w' := by
  obtain ⟨a0, a0c, rfl⟩ := k0.shape
  obtain ⟨a1, a1c, rfl⟩ := k1.shape
  have H0 := (Blk.new w #[.int .i64 c0.n, .int .i64 c0.t, .slice a0 c0.l.length a0c] 24).alloc (.cells #[.int .i64 c1.n, .int .i64 c1.t, .slice a1 c1.l.length a1c] 24)
  have H1 := Blk.new (w.alloc (.cells #[.int .i64 c0.n, .int .i64 c0.t, .slice a0 c0.l.length a0c] 24)) #[.int .i64 c1.n, .int .i64 c1.t, .slice a1 c1.l.length a1c] 24
  simp only [World.size_alloc] at H1
  have B0 := below2 w (.cells #[.int .i64 c0.n, .int .i64 c0.t, .slice a0 c0.l.length a0c] 24) (.cells #[.int .i64 c1.n, .int .i64 c1.t, .slice a1 c1.l.length a1c] 24)
  have K0 := k0.keep B0
  have K1 := k1.keep B0
  have hy := szLeft_yes (left := 1048576) (n := (c0.l.length + tot c0.l)) (by omega)
  have hy2 := szLeft_yes (left := szLeft 1048576 (c0.l.length + tot c0.l)) (n := (c1.l.length + tot c1.l)) (by omega)
  have h0 : 0 ≤ szLeft 1048576 (c0.l.length + tot c0.l) := by omega
  have h1 : szLeft 1048576 (c0.l.length + tot c0.l) ≤ 1048576 := by omega
  have hbd0 : c0.l.length + tot c0.l ≤ 2097152 := by omega
  have hbd1 : c1.l.length + tot c1.l ≤ 2097152 := by omega
  have hz := szMaps_any _ c0 1048576 _ K0 (by decide) (by decide)
  have h2 : 0 ≤ szLeft (szLeft 1048576 (c0.l.length + tot c0.l)) (c1.l.length + tot c1.l) := by omega
  clear hy hy2
  generalize szLeft 1048576 (c0.l.length + tot c0.l) = L at *
  have he0 := msEq_self c0
  have he1 := msEq_self c1
  go_enter Try.func4, Try.ntmps4
  go_wp2_with fail
  refine (hz).mono ?_
  rintro e u1 ⟨rfl, b1⟩
  replace H0 := H0.step b1
  replace H1 := H1.step b1
  replace K0 := K0.keep b1
  replace K1 := K1.keep b1
  obtain ⟨pH10, pH11, pH12⟩ := H1.three
  go_wp2_with fail
  refine (szMaps_any _ c1 L _ K1 (by omega) (by omega)).mono ?_
  rintro e u2 ⟨rfl, b2⟩
  clear pH10 pH11 pH12
  replace H0 := H0.step b2
  replace H1 := H1.step b2
  replace K0 := K0.keep b2
  replace K1 := K1.keep b2
  obtain ⟨pH00, pH01, pH02⟩ := H0.three
  obtain ⟨pH10, pH11, pH12⟩ := H1.three
  go_wp2_with fail
  have b3 := below_drew u2
  replace H0 := H0.step b3
  replace H1 := H1.step b3
  replace K0 := K0.keep b3
  replace K1 := K1.keep b3
  go_region_held3 (fun w' => w'.cell? ⟨w.heap.size, 0, none⟩ = some (.int .i64 c0.n) ∧ w'.cell? ⟨w.heap.size, 1, none⟩ = some (.int .i64 c0.t) ∧ w'.cell? ⟨w.heap.size, 2, none⟩ = some (.slice a0 c0.l.length a0c) ∧ w'.cell? ⟨w.heap.size + 1, 0, none⟩ = some (.int .i64 c1.n) ∧ w'.cell? ⟨w.heap.size + 1, 1, none⟩ = some (.int .i64 c1.t) ∧ w'.cell? ⟨w.heap.size + 1, 2, none⟩ = some (.slice a1 c1.l.length a1c))
    (go_keep)
    (first | (have _t := tok1; go_at_call 17; refine (toMaps_any _ c1 _ K1 hbd1).mono ?_; rintro e u5 ⟨x2, rfl, o2, b5⟩; replace H0 := H0.step b5; replace H1 := H1.step b5; replace K0 := K0.keep b5; replace K1 := K1.keep b5; replace O1 := O1.step b5; obtain ⟨x2a, x2ac, rfl⟩ := o2.shape; have O2 := o2.mine; obtain ⟨pH00, pH01, pH02⟩ := H0.three; obtain ⟨pH10, pH11, pH12⟩ := H1.three) | (go_at_call 17; refine (toMaps_any _ c0 _ K0 hbd0).mono ?_; rintro e u4 ⟨x1, rfl, o1, b4⟩; replace H0 := H0.step b4; replace H1 := H1.step b4; replace K0 := K0.keep b4; replace K1 := K1.keep b4; obtain ⟨x1a, x1ac, rfl⟩ := o1.shape; have O1 := o1.mine; have tok1 : True := trivial; obtain ⟨pH00, pH01, pH02⟩ := H0.three; obtain ⟨pH10, pH11, pH12⟩ := H1.three) | (go_at_call 20; refine (SameMaps_spec _ _ c0 c1 _ O1.ch O2.ch).mono ?_; rintro e u6 ⟨rfl, b6⟩; replace H0 := H0.step b6; replace H1 := H1.step b6; replace K0 := K0.keep b6; replace K1 := K1.keep b6; replace O1 := O1.step b6; replace O2 := O2.step b6; obtain ⟨pH00, pH01, pH02⟩ := H0.three; obtain ⟨pH10, pH11, pH12⟩ := H1.three))
  obtain ⟨ok, hok0⟩ : ∃ ok, msEq c0 c1 = ok := ⟨_, rfl⟩
  have hok := Lib.hid hok0
  rw [hok0]
  clear hok0
  go_wp2_with fail
  refine (toMaps_any _ c0 _ K0 hbd0).mono ?_
  rintro e u7 ⟨x3, rfl, o3, b7⟩
  replace H0 := H0.step b7
  replace H1 := H1.step b7
  replace K0 := K0.keep b7
  replace K1 := K1.keep b7
  replace O1 := O1.step b7
  replace O2 := O2.step b7
  obtain ⟨x3a, x3ac, rfl⟩ := o3.shape
  have O3 := o3.mine
  have b8 := below1 u7 (.cells #[.int .i64 c0.n, .int .i64 c0.t, .slice x3a c0.l.length x3ac] 29)
  have X0 := Blk.new u7 #[.int .i64 c0.n, .int .i64 c0.t, .slice x3a c0.l.length x3ac] 29
  replace H0 := H0.step b8
  replace H1 := H1.step b8
  replace K0 := K0.keep b8
  replace K1 := K1.keep b8
  replace O1 := O1.step b8
  replace O2 := O2.step b8
  replace O3 := O3.step b8
  obtain ⟨pH10, pH11, pH12⟩ := H1.three
  go_wp2_with fail
  refine (toMaps_any _ c1 _ K1 hbd1).mono ?_
  rintro e u9 ⟨x4, rfl, o4, b9⟩
  clear pH10 pH11 pH12
  replace H0 := H0.step b9
  replace H1 := H1.step b9
  replace K0 := K0.keep b9
  replace K1 := K1.keep b9
  replace O1 := O1.step b9
  replace O2 := O2.step b9
  replace O3 := O3.step b9
  replace X0 := X0.step b9
  obtain ⟨x4a, x4ac, rfl⟩ := o4.shape
  have O4 := o4.mine
  have b10 := below1 u9 (.cells #[.int .i64 c1.n, .int .i64 c1.t, .slice x4a c1.l.length x4ac] 29)
  have X1 := Blk.new u9 #[.int .i64 c1.n, .int .i64 c1.t, .slice x4a c1.l.length x4ac] 29
  replace H0 := H0.step b10
  replace H1 := H1.step b10
  replace K0 := K0.keep b10
  replace K1 := K1.keep b10
  replace O1 := O1.step b10
  replace O2 := O2.step b10
  replace O3 := O3.step b10
  replace X0 := X0.step b10
  replace O4 := O4.step b10
  obtain ⟨pX00, pX01, pX02⟩ := X0.three
  obtain ⟨pX10, pX11, pX12⟩ := X1.three
  go_wp2_with fail
  refine (SameMaps_impl _ _ c0 c1 _ O3.ch O4.ch).mono ?_
  rintro e u11 ⟨rfl, b11⟩
  clear pX00 pX01 pX02
  clear pX10 pX11 pX12
  replace H0 := H0.step b11
  replace H1 := H1.step b11
  replace K0 := K0.keep b11
  replace K1 := K1.keep b11
  replace O1 := O1.step b11
  replace O2 := O2.step b11
  replace O3 := O3.step b11
  replace X0 := X0.step b11
  replace O4 := O4.step b11
  replace X1 := X1.step b11
  rw [hok.out]
  obtain ⟨pH00, pH01, pH02⟩ := H0.three
  obtain ⟨pX00, pX01, pX02⟩ := X0.three
  go_wp2_with fail
  have b12 := below_drew u11
  replace H0 := H0.step b12
  replace H1 := H1.step b12
  replace K0 := K0.keep b12
  replace K1 := K1.keep b12
  replace O1 := O1.step b12
  replace O2 := O2.step b12
  replace O3 := O3.step b12
  replace X0 := X0.step b12
  replace O4 := O4.step b12
  replace X1 := X1.step b12
  go_region_held3 (fun w' => w'.cell? ⟨w.heap.size, 0, none⟩ = some (.int .i64 c0.n) ∧ w'.cell? ⟨w.heap.size, 1, none⟩ = some (.int .i64 c0.t) ∧ w'.cell? ⟨w.heap.size, 2, none⟩ = some (.slice a0 c0.l.length a0c) ∧ w'.cell? ⟨u7.heap.size, 0, none⟩ = some (.int .i64 c0.n) ∧ w'.cell? ⟨u7.heap.size, 1, none⟩ = some (.int .i64 c0.t) ∧ w'.cell? ⟨u7.heap.size, 2, none⟩ = some (.slice x3a c0.l.length x3ac)) (go_keep) (first | (go_at_call 17; refine (toMaps_any _ c0 _ K0 hbd0).mono ?_; rintro e u13 ⟨y12, rfl, q12, b13⟩; replace H0 := H0.step b13; replace H1 := H1.step b13; replace K0 := K0.keep b13; replace K1 := K1.keep b13; replace O1 := O1.step b13; replace O2 := O2.step b13; replace O3 := O3.step b13; replace X0 := X0.step b13; replace O4 := O4.step b13; replace X1 := X1.step b13; have Q := q12.ch; obtain ⟨ya, yac, rfl⟩ := Q.shape; obtain ⟨pH00, pH01, pH02⟩ := H0.three; obtain ⟨pH10, pH11, pH12⟩ := H1.three; obtain ⟨pX00, pX01, pX02⟩ := X0.three; obtain ⟨pX10, pX11, pX12⟩ := X1.three) | (go_at_call 19; refine (eqMaps_any _ _ c0 c0 _ O3.ch Q).mono ?_; rintro e u14 ⟨rfl, b14⟩; replace H0 := H0.step b14; replace H1 := H1.step b14; replace K0 := K0.keep b14; replace K1 := K1.keep b14; replace O1 := O1.step b14; replace O2 := O2.step b14; replace O3 := O3.step b14; replace X0 := X0.step b14; replace O4 := O4.step b14; replace X1 := X1.step b14; replace Q := Q.keep b14; obtain ⟨pH00, pH01, pH02⟩ := H0.three; obtain ⟨pH10, pH11, pH12⟩ := H1.three; obtain ⟨pX00, pX01, pX02⟩ := X0.three; obtain ⟨pX10, pX11, pX12⟩ := X1.three))
  clear Q
  obtain ⟨pH10, pH11, pH12⟩ := H1.three
  obtain ⟨pX10, pX11, pX12⟩ := X1.three
  go_wp2_with fail
  have b15 := below_drew u14
  replace H0 := H0.step b15
  replace H1 := H1.step b15
  replace K0 := K0.keep b15
  replace K1 := K1.keep b15
  replace O1 := O1.step b15
  replace O2 := O2.step b15
  replace O3 := O3.step b15
  replace X0 := X0.step b15
  replace O4 := O4.step b15
  replace X1 := X1.step b15
  go_region_held3 (fun w' => w'.cell? ⟨w.heap.size + 1, 0, none⟩ = some (.int .i64 c1.n) ∧ w'.cell? ⟨w.heap.size + 1, 1, none⟩ = some (.int .i64 c1.t) ∧ w'.cell? ⟨w.heap.size + 1, 2, none⟩ = some (.slice a1 c1.l.length a1c) ∧ w'.cell? ⟨u9.heap.size, 0, none⟩ = some (.int .i64 c1.n) ∧ w'.cell? ⟨u9.heap.size, 1, none⟩ = some (.int .i64 c1.t) ∧ w'.cell? ⟨u9.heap.size, 2, none⟩ = some (.slice x4a c1.l.length x4ac)) (go_keep) (first | (go_at_call 17; refine (toMaps_any _ c1 _ K1 hbd1).mono ?_; rintro e u16 ⟨y15, rfl, q15, b16⟩; replace H0 := H0.step b16; replace H1 := H1.step b16; replace K0 := K0.keep b16; replace K1 := K1.keep b16; replace O1 := O1.step b16; replace O2 := O2.step b16; replace O3 := O3.step b16; replace X0 := X0.step b16; replace O4 := O4.step b16; replace X1 := X1.step b16; have Q := q15.ch; obtain ⟨ya, yac, rfl⟩ := Q.shape; obtain ⟨pH00, pH01, pH02⟩ := H0.three; obtain ⟨pH10, pH11, pH12⟩ := H1.three; obtain ⟨pX00, pX01, pX02⟩ := X0.three; obtain ⟨pX10, pX11, pX12⟩ := X1.three) | (go_at_call 19; refine (eqMaps_any _ _ c1 c1 _ O4.ch Q).mono ?_; rintro e u17 ⟨rfl, b17⟩; replace H0 := H0.step b17; replace H1 := H1.step b17; replace K0 := K0.keep b17; replace K1 := K1.keep b17; replace O1 := O1.step b17; replace O2 := O2.step b17; replace O3 := O3.step b17; replace X0 := X0.step b17; replace O4 := O4.step b17; replace X1 := X1.step b17; replace Q := Q.keep b17; obtain ⟨pH00, pH01, pH02⟩ := H0.three; obtain ⟨pH10, pH11, pH12⟩ := H1.three; obtain ⟨pX00, pX01, pX02⟩ := X0.three; obtain ⟨pX10, pX11, pX12⟩ := X1.three))
  go_wp2
  go_ret
  exact ⟨rfl, (below_wt (below_wt (below_wt (below_wt (below_wt (below_wt (below_wt (below_wt (below_wt (below_wt (below_wt (below_wt (below_wt (below_wt (below_wt (below_wt (below_wt B0 b1) b2) b3) b4) b5) b6) b7) b8) b9) b10) b11) b12) b13) b14) b15) b16) b17)⟩

theorem walk (v0 : Value) (c0 : Ms) {w : World} (k0 : MsR w v0 c0) (v1 : Value) (c1 : Ms) (k1 : MsR w v1 c1) :
    Calls Try.prog 4 #[v0, v1] w fun e w' => e = .returned (.bool true) ∧ Below w.heap.size w w' := by
  by_cases h1 : (((c0.l.length + tot c0.l) : Nat) : Int) ≤ 1048576
  · by_cases h2 : (((c0.l.length + tot c0.l) : Nat) : Int) + ((c1.l.length + tot c1.l) : Nat) ≤ 1048576
    · exact walk_c v0 c0 k0 v1 c1 k1 h2
    · exact walk_b v0 c0 k0 v1 c1 k1 h1 (by omega)
  · exact walk_a v0 c0 k0 v1 c1 k1 (by omega)

set_option maxRecDepth 100000 in
theorem lifted (os : Os) (started : os.Started) (H : Type) (enc : TypeId × Value → H) :
    ReturnsInHanded {} Try.checked os 4 .any (Rows.fnExactSameMapsSpec.pre6 enc Try.prog Try.f4 Rows.fnExactSameMapsRow.domain false) (Rows.fnExactSameMapsSpec.post enc Try.prog Try.f4 false true false false) := by
  refine returnsInHanded_of_change (C := Try.checked) own started (by kernel_rfl) Try.func4
    (ChangeSpec.witness6 (enc := enc) (C := Try.checked) false ⟨#[], #[.agg #[.int .i64 0, .int .i64 0, .slice none 0 0], .agg #[.int .i64 0, .int .i64 0, .slice none 0 0]], []⟩ 8 (by kernel_rfl) (by kernel_rfl) (by kernel_rfl) (by kernel_rfl)) ?_
  intro W base args ds gs before hval0 hW hcnd _
  have hval : ∀ (j : Nat) t v, Try.f4.params[j]? = some t → args[j]? = some v → Value.okWide Try.prog W .any base t v := hval0
  have hW' := hW
  obtain ⟨p, q, hA0, hV, rfl, hfz, hnd⟩ := hW
  have hA : DataW.TrodAll enc Try.prog W 0 (fun _ => true) true Try.f4.params.toList args.toList ds p := hA0
  rw [Try.params4] at hA hval
  obtain ⟨v0, vs0, d0, ds0, p0, q0, hargs, rfl, rfl, h0, r0⟩ := trodAll_cons hA
  obtain ⟨v1, vs1, d1, ds1, p1, q1, rfl, rfl, rfl, h1, r1⟩ := trodAll_cons r0
  obtain ⟨rfl, rfl, rfl⟩ := trodAll_nil r1
  obtain rfl : args = #[v0, v1] := by cases args; simp_all
  obtain ⟨rfl, rfl⟩ := trodVars_none hV
  have k0 := h0
  have lt0 : ∀ x ∈ p0, x.block < W.heap.size := by obtain ⟨m, hm⟩ := k0; exact DataW.trod_lt m _ _ _ hm
  obtain ⟨c0, w0⟩ := open_maps (hval 0 24 v0 rfl rfl) h0
  have k1 := h1
  have lt1 : ∀ x ∈ p1, x.block < W.heap.size := by obtain ⟨m, hm⟩ := k1; exact DataW.trod_lt m _ _ _ hm
  obtain ⟨c1, w1⟩ := open_maps (hval 1 24 v1 rfl rfl) h1
  clear hA0 hval0
  refine (walk v0 c0 w0 v1 c1 w1).mono fun e W' ⟨he, bel⟩ => ?_
  subst he
  exact ⟨_, rfl, _, _, _, [], _, [], hW', trodAll_mk1 (shut_bool Try.underlying4 _), (trodAll_cons_mk (Below.trod laidOut (by kernel_rfl) (of_decide_eq_true (by kernel_rfl)) k0 bel lt0) (trodAll_cons_mk (Below.trod laidOut (by kernel_rfl) (of_decide_eq_true (by kernel_rfl)) k1 bel lt1) trodAll_mk0)), rfl, bel.frame _, fun h => by cases h⟩

theorem over : Rows.fnExactSameMapsRow.holds Try.pinned (OpenSpec.ofChange Rows.fnExactSameMapsSpec) :=
  OpenClaim.holds_of_wide 4 Try.f4 rfl rfl rfl rfl rfl rfl rfl ⟨rfl, rfl, rfl, rfl, rfl⟩ rfl rfl rfl rfl rfl (by kernel_rfl) Try.func4 (by kernel_rfl)
    (of_decide_eq_true (by kernel_rfl)) (by unfold Func.isWrapper; first | (rw [if_pos (by decide +kernel)]; kernel_rfl) | (rw [if_neg (by decide +kernel)]; exact ⟨rfl, rfl⟩))
    (fun os started H enc _ => lifted os started H enc)

/-- the statement -/
theorem proved : Rows.FnExactSameMapsSaid := over
end Go.Proofs.Ytgbhkdoejnkmhaa.fnExactSameMaps
