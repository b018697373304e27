/- guessRemainders of the project: two remainders of long numbers, told by their 64 highest bits. Conditions: the first is not less than the second one. -/
import Derived.BigRegion
import Derived.Test.YtjkekhiceadpgaaWord12
namespace Go.Proofs.Ytjkekhiceadpgaa
open Go.RowKit Go.Deep
set_option linter.unusedVariables false

abbrev rmV (a b : Nat) : Value := .agg #[.int .u64 (a : Int), .int .u64 (b : Int)]
abbrev rmC (a b : Nat) : Array Value := #[.int .u64 (a : Int), .int .u64 (b : Int)]
/-- what guessRemainders returns -/
def GuR (x y : Nat) (w : World) (e : Ending) (w' : World) : Prop :=
  ∃ a0 b0 a1 b1 : Nat, e = .returned (.tuple #[rmV a0 b0, rmV a1 b1]) ∧ (a0 < 18446744073709551616 ∧ b0 < 18446744073709551616 ∧ a1 < 18446744073709551616 ∧ b1 < 18446744073709551616) ∧
    (b0 ≠ 0 → ∃ (even : Bool) (R0 R1 : Nat), Cert x y even a0 b0 a1 b1 R0 R1 ∧ R1 < R0 ∧ R0 ≤ y) ∧ Below w.heap.size w w'
/-- the five boxes -/
structure Boxes (W : World) (B : Nat) (a0 b0 a1 b1 a2 b2 : Nat) : Prop where
  z0 : Blk W B #[.int .u64 0, .int .u64 0] 170
  z1 : Blk W (B + 1) #[.int .u64 0, .int .u64 0] 170
  p0 : Blk W (B + 1 + 1) (rmC a0 b0) 170
  p1 : Blk W (B + 1 + 1 + 1) (rmC a1 b1) 170
  p2 : Blk W (B + 1 + 1 + 1 + 1) (rmC a2 b2) 170

/-- one box filled anew -/
abbrev fillB (W : World) (b : Nat) (x y : Nat) : World := (W.setCell ⟨b, 0, none⟩ (.int .u64 (x : Int))).setCell ⟨b, 1, none⟩ (.int .u64 (y : Int))
theorem Blk.fill {W : World} {b x y x' y' : Nat} {t : TypeId} (h : Blk W b (rmC x y) t) : Blk (fillB W b x' y') b (rmC x' y') t := by
  have := (h.set 0 (.int .u64 (x' : Int))).set 1 (.int .u64 (y' : Int))
  simpa using this
theorem Blk.fillOther {W : World} {b b' x' y' : Nat} {c : Array Value} {t : TypeId} (h : Blk W b c t) (hne : b ≠ b') : Blk (fillB W b' x' y') b c t :=
  (h.setOther (a := ⟨b', 0, none⟩) hne _).setOther (a := ⟨b', 1, none⟩) hne _
theorem Boxes.drew {W : World} {B a0 b0 a1 b1 a2 b2 : Nat} (h : Boxes W B a0 b0 a1 b1 a2 b2) : Boxes W.drew B a0 b0 a1 b1 a2 b2 := ⟨h.z0, h.z1, h.p0, h.p1, h.p2⟩
theorem Boxes.drewN {W : World} {B a0 b0 a1 b1 a2 b2 : Nat} (h : Boxes W B a0 b0 a1 b1 a2 b2) (n : Nat) : Boxes (W.drewN n) B a0 b0 a1 b1 a2 b2 := ⟨h.z0, h.z1, h.p0, h.p1, h.p2⟩
theorem Boxes.step {W : World} {B a0 b0 a1 b1 a2 b2 : Nat} (h : Boxes W B a0 b0 a1 b1 a2 b2) (a3 b3 : Nat) :
    Boxes (fillB (fillB (fillB W (B + 1 + 1) a1 b1) (B + 1 + 1 + 1) a2 b2) (B + 1 + 1 + 1 + 1) a3 b3) B a1 b1 a2 b2 a3 b3 := by
  obtain ⟨z0, z1, p0, p1, p2⟩ := h
  refine ⟨?_, ?_, ?_, ?_, ?_⟩
  · exact Blk.fillOther (Blk.fillOther (Blk.fillOther z0 (by omega)) (by omega)) (by omega)
  · exact Blk.fillOther (Blk.fillOther (Blk.fillOther z1 (by omega)) (by omega)) (by omega)
  · exact Blk.fillOther (Blk.fillOther (Blk.fill p0) (by omega)) (by omega)
  · exact Blk.fillOther (Blk.fill (Blk.fillOther p1 (by omega))) (by omega)
  · exact Blk.fill (Blk.fillOther (Blk.fillOther p2 (by omega)) (by omega))
theorem below_fill {w W : World} {b x y : Nat} (h : Below w.heap.size w W) (hb : w.heap.size ≤ b) : Below w.heap.size w (fillB W b x y) := (h.setCell (p := ⟨b, 0, none⟩) hb _).setCell (p := ⟨b, 1, none⟩) hb _
theorem Boxes.new (w : World) : Boxes (((((w.alloc (.cells #[.int .u64 0, .int .u64 0] 170)).alloc (.cells #[.int .u64 0, .int .u64 0] 170)).alloc (.cells #[.int .u64 0, .int .u64 0] 170)).alloc (.cells #[.int .u64 1, .int .u64 0] 170)).alloc (.cells #[.int .u64 0, .int .u64 1] 170)) w.heap.size 0 0 1 0 0 1 := by
  have h0 := ((((Blk.new w #[.int .u64 0, .int .u64 0] 170).alloc (.cells #[.int .u64 0, .int .u64 0] 170)).alloc (.cells #[.int .u64 0, .int .u64 0] 170)).alloc (.cells #[.int .u64 1, .int .u64 0] 170)).alloc (.cells #[.int .u64 0, .int .u64 1] 170)
  have h1 := (((Blk.new (w.alloc (.cells #[.int .u64 0, .int .u64 0] 170)) #[.int .u64 0, .int .u64 0] 170).alloc (.cells #[.int .u64 0, .int .u64 0] 170)).alloc (.cells #[.int .u64 1, .int .u64 0] 170)).alloc (.cells #[.int .u64 0, .int .u64 1] 170)
  have h2 := ((Blk.new ((w.alloc (.cells #[.int .u64 0, .int .u64 0] 170)).alloc (.cells #[.int .u64 0, .int .u64 0] 170)) #[.int .u64 0, .int .u64 0] 170).alloc (.cells #[.int .u64 1, .int .u64 0] 170)).alloc (.cells #[.int .u64 0, .int .u64 1] 170)
  have h3 := (Blk.new (((w.alloc (.cells #[.int .u64 0, .int .u64 0] 170)).alloc (.cells #[.int .u64 0, .int .u64 0] 170)).alloc (.cells #[.int .u64 0, .int .u64 0] 170)) #[.int .u64 1, .int .u64 0] 170).alloc (.cells #[.int .u64 0, .int .u64 1] 170)
  have h4 := Blk.new ((((w.alloc (.cells #[.int .u64 0, .int .u64 0] 170)).alloc (.cells #[.int .u64 0, .int .u64 0] 170)).alloc (.cells #[.int .u64 0, .int .u64 0] 170)).alloc (.cells #[.int .u64 1, .int .u64 0] 170)) #[.int .u64 0, .int .u64 1] 170
  simp only [World.size_alloc] at h1 h2 h3 h4
  exact ⟨h0, h1, h2, h3, h4⟩

set_option maxRecDepth 100000 in
set_option maxHeartbeats 4000000 in
theorem guessRemainders_any (F x y xh yh xl yl : Nat) (w : World) (hle : yh ≤ xh) (hxh : xh < 18446744073709551616) (ex : x = xh * F + xl) (ey : y = yh * F + yl) (lx : xl < F) (ly : yl < F) :
    Calls Try.prog 108 #[.int .u64 (xh : Int), .int .u64 (yh : Int)] w (GuR x y w) := by
  unfold GuR
  have hstep := Lib.hid (fun (even : Bool) (a0 b0 a1 b1 a2 b2 r1 r2 R1 : Nat) (h : Lehm F x y xh yh even a0 b0 a1 b1 a2 b2 r1 r2 R1) => h.step ex ey lx ly)
  have hstart := Lib.hid (Lehm.start (F := F) (x := x) (y := y) hle)
  clear ex ey lx ly
  go_enter Try.func108, Try.ntmps108
  go_wp2
  go_loopw [0, 1] (fun xv yv wr => ∃ (even : Bool) (a0 b0 a1 b1 a2 b2 r1 r2 R1 : Nat), xv = .int .u64 (r1 : Int) ∧ yv = .int .u64 (r2 : Int) ∧ Hid (Boxes wr w.heap.size a0 b0 a1 b1 a2 b2) ∧ Hid (Lehm F x y xh yh even a0 b0 a1 b1 a2 b2 r1 r2 R1) ∧ Hid (a0 < 18446744073709551616 ∧ b0 < 18446744073709551616 ∧ a1 < 18446744073709551616 ∧ b1 < 18446744073709551616 ∧ a2 < 18446744073709551616 ∧ b2 < 18446744073709551616) ∧ r1 < 18446744073709551616 ∧ Below w.heap.size w wr) (fun _ yv _ => (intOf yv).toNat)
  case atStart => exact ⟨true, 0, 0, 1, 0, 0, 1, xh, yh, x, rfl, rfl, Boxes.new w, hstart.out, Lib.hid (by decide), hxh, (below4 w _ _ _ _).alloc (by simp; omega) _⟩
  case round =>
    obtain ⟨even, a0, b0, a1, b1, a2, b2, r1, r2, R1, rfl, rfl, hB, hL, hb, hr1, bel⟩ := hrel
    have hle2 := hL.out.le
    have z00 := hB.out.z0.cell 0
    have z01 := hB.out.z0.cell 1
    have z10 := hB.out.z1.cell 0
    have z11 := hB.out.z1.cell 1
    have p00 := hB.out.p0.cell 0
    have p01 := hB.out.p0.cell 1
    have p10 := hB.out.p1.cell 0
    have p11 := hB.out.p1.cell 1
    have p20 := hB.out.p2.cell 0
    have p21 := hB.out.p2.cell 1
    simp only [rmC, List.getElem?_toArray, List.getElem?_cons_zero, List.getElem?_cons_succ] at z00 z01 z10 z11 p00 p01 p10 p11 p20 p21
    have fz0 := hB.out.z0.frozen
    have fz1 := hB.out.z1.frozen
    have fp0 := hB.out.p0.frozen
    have fp1 := hB.out.p1.frozen
    have fp2 := hB.out.p2.frozen
    by_cases c1 : b2 ≤ r2
    · have hpos := hL.out.pos
      have hr2 : 1 ≤ r2 := by omega
      obtain ⟨f1, f2, f3⟩ := hL.out.fits hr2
      have f1' : b1 + b2 < 18446744073709551616 := by omega
      by_cases c2 : b1 + b2 ≤ r1 - r2
      · obtain ⟨R2, hL2⟩ := hstep.out _ _ _ _ _ _ _ _ _ _ hL.out c1 c2
        have hL2' := Lib.hid hL2
        have hml := Nat.mod_lt r1 (show 0 < r2 by omega)
        have hbb := hb.out
        have p1I : ((r1 / r2 : Nat) : Int) * (a2 : Int) = ((r1 / r2 * a2 : Nat) : Int) := (Int.natCast_mul _ _).symm
        have p2I : ((r1 / r2 : Nat) : Int) * (b2 : Int) = ((r1 / r2 * b2 : Nat) : Int) := (Int.natCast_mul _ _).symm
        have q1I : (r1 : Int) / (r2 : Int) = ((r1 / r2 : Nat) : Int) := rfl
        have q2I : (r1 : Int).tdiv (r2 : Int) = ((r1 / r2 : Nat) : Int) := by rw [Int.tdiv_eq_ediv_of_nonneg (by omega)]; rfl
        have m1I : (r1 : Int) % (r2 : Int) = ((r1 % r2 : Nat) : Int) := rfl
        have m2I : (r1 : Int).tmod (r2 : Int) = ((r1 % r2 : Nat) : Int) := by rw [Int.tmod_eq_emod_of_nonneg (by omega)]; rfl
        have hqr : r1 / r2 ≤ r1 := Nat.div_le_self _ _
        generalize r1 / r2 = q at *
        generalize r1 % r2 = r3 at *
        obtain ⟨p1, hp1⟩ : ∃ p, q * a2 = p := ⟨_, rfl⟩
        obtain ⟨p2, hp2⟩ : ∃ p, q * b2 = p := ⟨_, rfl⟩
        rw [hp1] at p1I hL2' f3
        rw [hp2] at p2I hL2' f3 f2
        have w1 : IntKind.u64.wrap (p1 : Int) = (p1 : Int) := by rw [IntKind.wrap_u64]; omega
        have w2 : IntKind.u64.wrap (p2 : Int) = (p2 : Int) := by rw [IntKind.wrap_u64]; omega
        obtain ⟨a3, ha3⟩ : ∃ p, a1 + p1 = p := ⟨_, rfl⟩
        obtain ⟨b3, hb3⟩ : ∃ p, b1 + p2 = p := ⟨_, rfl⟩
        have s1 : IntKind.u64.wrap ((a1 : Int) + (p1 : Int)) = (a3 : Int) := by rw [IntKind.wrap_u64]; omega
        have s2 : IntKind.u64.wrap ((b1 : Int) + (p2 : Int)) = (b3 : Int) := by rw [IntKind.wrap_u64]; omega
        have s3 : IntKind.u64.wrap (r3 : Int) = (r3 : Int) := by rw [IntKind.wrap_u64]; omega
        rw [ha3, hb3] at hL2'
        have hbnd := Lib.hid (show a1 < 18446744073709551616 ∧ b1 < 18446744073709551616 ∧ a2 < 18446744073709551616 ∧ b2 < 18446744073709551616 ∧ a3 < 18446744073709551616 ∧ b3 < 18446744073709551616 by omega)
        have z2 : ((r2 : Int) == 0) = false := by simp; omega
        have z3 : ¬ (r2 : Int) = 0 := by omega
        have hBs := Lib.hid (fun n => (hB.out.drewN n).step a3 b3)
        have s0 : IntKind.u64.wrap (q : Int) = (q : Int) := by rw [IntKind.wrap_u64]; omega
        have hmeas := Lib.hid hml
        have hr2b := Lib.hid (show r2 < 18446744073709551616 by omega)
        clear hL2 ha3 hb3 hp1 hp2 f3 f2 hbb hqr hml
        go_wp2
        go_quiet (fail)
        go_wp2
        go_region
        all_goals go_wp2
        go_roundw
        case rel => exact ⟨!even, a1, b1, a2, b2, a3, b3, r2, r3, R2, rfl, rfl, hBs.out _, hL2'.out, hbnd.out, hr2b.out, below_fill (b := w.heap.size + 1 + 1 + 1 + 1) (below_fill (b := w.heap.size + 1 + 1 + 1) (below_fill (b := w.heap.size + 1 + 1) (below_drewN bel _) (by omega)) (by omega)) (by omega)⟩
        case measure => simp [intOf]; exact hmeas.out
      · have c2' : r1 - r2 < b1 + b2 := by omega
        have c3 : ((r1 - r2 : Nat) : Int) = (r1 : Int) - (r2 : Int) := by omega
        have c4 : (r1 : Int) - (r2 : Int) < (b1 : Int) + (b2 : Int) := by omega
        clear c2
        go_wp2
        go_region
        all_goals go_wp2
        refine bodyPost_ret (v := .tuple #[rmV a0 b0, rmV a1 b1]) (by simp [results, Try.results108, go_sem, z00, z01, z10, z11]) rfl ?_
        exact ⟨a0, b0, a1, b1, rfl, ⟨hb.out.1, hb.out.2.1, hb.out.2.2.1, hb.out.2.2.2.1⟩, fun h => by obtain ⟨R0, k1, k2, k3⟩ := hL.out.bef h; exact ⟨_, R0, R1, k1, k2, k3⟩, (below_fill (b := w.heap.size + 1) (below_fill (b := w.heap.size) bel (Nat.le_refl _)) (by omega)).drew⟩
    · have c1' : r2 < b2 := by omega
      clear c1
      go_wp2
      go_region
      all_goals go_wp2
      refine bodyPost_ret (v := .tuple #[rmV a0 b0, rmV a1 b1]) (by simp [results, Try.results108, go_sem, z00, z01, z10, z11]) rfl ?_
      exact ⟨a0, b0, a1, b1, rfl, ⟨hb.out.1, hb.out.2.1, hb.out.2.2.1, hb.out.2.2.2.1⟩, fun h => by obtain ⟨R0, k1, k2, k3⟩ := hL.out.bef h; exact ⟨_, R0, R1, k1, k2, k3⟩, (below_fill (b := w.heap.size + 1) (below_fill (b := w.heap.size) bel (Nat.le_refl _)) (by omega)).drew⟩
end Go.Proofs.Ytjkekhiceadpgaa
