/- guessDigit of the project: a digit of a quotient out of three words by two, or one more. Conditions: the divisor's highest bit is set; told by the code. -/
import Derived.Test.YtjkekhiceadpgaaWord7
namespace Go.Proofs.Ytjkekhiceadpgaa
open Go.RowKit Go.Deep
set_option linter.unusedVariables false

theorem or_words (a b : Nat) (ha : a < 4294967296) (hb : b < 4294967296) : bits .or .u64 ((a : Int) * 4294967296) (b : Int) = ((a * 4294967296 + b : Nat) : Int) := by
  have e := bits_or_u64_nat (a * 4294967296) b (by omega) (by omega)
  rw [show ((a : Int) * 4294967296) = ((a * 4294967296 : Nat) : Int) by omega, e, show a * 4294967296 = a * 2 ^ 32 by rfl, or_low a b 32 (by simpa using hb)]

theorem guess_first {B H p0 y1 y0 q : Nat} (hy : 0 < y1) (l0 : p0 < B) (hge : ∀ G, H * B + p0 < G * (y1 * B + y0) → q < G) : q ≤ H / y1 := by
  have h1 := Nat.div_add_mod H y1
  have h2 := Nat.mod_lt H hy
  apply Nat.le_of_lt_succ
  apply hge
  generalize H / y1 = u at *
  generalize H % y1 = v at *
  have h3 : (y1 * u + v + 1) * B ≤ (y1 * u + y1) * B := Nat.mul_le_mul_right _ (by omega)
  have e : u.succ * (y1 * B + y0) = (y1 * u + y1) * B + u.succ * y0 := by rw [Nat.succ_eq_add_one]; grind
  rw [e, ← h1]
  rw [Nat.add_mul (y1 * u + v), Nat.one_mul] at h3
  omega
/-- what the guess is -/
def GuessI (q p2 p1 p0 y1 y0 : Nat) (w : World) (e : Ending) (w' : World) : Prop :=
  ∃ G : Nat, e = .returned (.int .u64 (G : Int)) ∧ q ≤ G ∧ G ≤ 4294967296 ∧ G * (y1 * 4294967296 + y0) ≤ (p2 * 4294967296 + p1) * 4294967296 + p0 ∧ ∃ k, w' = w.drewN k

set_option maxRecDepth 100000 in
set_option maxHeartbeats 4000000 in
theorem guess_any (g i pc by' oy yc n n1 n0 p2 p1 p0 y1 y0 q : Nat) (w : World) (e1 : n = n1 + 1) (e0 : n1 = n0 + 1)
    (hn : n < 1000000000000) (c2 : w.cell? ⟨g, i + n, none⟩ = some (.int .u32 (p2 : Int))) (c1 : w.cell? ⟨g, i + n1, none⟩ = some (.int .u32 (p1 : Int))) (c0 : w.cell? ⟨g, i + n0, none⟩ = some (.int .u32 (p0 : Int)))
    (d1 : w.cell? ⟨by', oy + n1, none⟩ = some (.int .u32 (y1 : Int))) (d0 : w.cell? ⟨by', oy + n0, none⟩ = some (.int .u32 (y0 : Int)))
    (l2 : p2 < 4294967296) (l1 : p1 < 4294967296) (l0 : p0 < 4294967296) (m1 : y1 < 4294967296) (m0 : y0 < 4294967296) (hy : 4294967296 ≤ 2 * y1) (hst : (p2 * 4294967296 + p1) / y1 ≤ 4294967297)
    (hq : q < 4294967296) (hge : ∀ G, (p2 * 4294967296 + p1) * 4294967296 + p0 < G * (y1 * 4294967296 + y0) → q < G) :
    Calls Try.prog 143 #[.slice (some ⟨g, i, none⟩) (n + 1) pc, .slice (some ⟨by', oy, none⟩) n yc] w (GuessI q p2 p1 p0 y1 y0 w) := by
  have hor := or_words p2 p1 l2 l1
  have hH : p2 * 4294967296 + p1 < 18446744073709551616 := by omega
  have hle0 : q ≤ (p2 * 4294967296 + p1) / y1 := guess_first (show 0 < y1 by omega) l0 hge
  have hrem := Nat.mod_lt (p2 * 4294967296 + p1) (show 0 < y1 by omega)
  have hsum : (p2 * 4294967296 + p1) / y1 * y1 + (p2 * 4294967296 + p1) % y1 = p2 * 4294967296 + p1 := by rw [Nat.mul_comm]; exact Nat.div_add_mod _ _
  have yd1 : ((p2 * 4294967296 + p1 : Nat) : Int) / (y1 : Int) = (((p2 * 4294967296 + p1) / y1 : Nat) : Int) := rfl
  have yd2 : ((p2 * 4294967296 + p1 : Nat) : Int) % (y1 : Int) = (((p2 * 4294967296 + p1) % y1 : Nat) : Int) := rfl
  have yd3 : ((p2 * 4294967296 + p1 : Nat) : Int).tdiv (y1 : Int) = (((p2 * 4294967296 + p1) / y1 : Nat) : Int) := by rw [Int.tdiv_eq_ediv_of_nonneg (by omega)]; exact yd1
  have yd4 : ((p2 * 4294967296 + p1 : Nat) : Int).tmod (y1 : Int) = (((p2 * 4294967296 + p1) % y1 : Nat) : Int) := by rw [Int.tmod_eq_emod_of_nonneg (by omega)]; exact yd2
  unfold GuessI
  obtain ⟨H, hHH⟩ : ∃ H, p2 * 4294967296 + p1 = H := ⟨_, rfl⟩
  rw [hHH] at hor hH hle0 hrem hsum yd1 yd2 yd3 yd4 hst hge
  rw [hHH]
  replace hHH := Lib.hid hHH
  have hge' := Lib.hid hge
  have i1 : (n : Int) - 1 = (n1 : Int) := by omega
  have i0 : (n : Int) - 2 = (n0 : Int) := by omega
  have k0 : n < n + 1 := by omega
  have k1 : n1 < n + 1 := by omega
  have k2 : n0 < n + 1 := by omega
  have k3 : n1 < n := by omega
  have k4 : n0 < n := by omega
  have z0 : ((y1 : Int) == 0) = false := by simp; omega
  have z1 : ¬ (y1 : Int) = 0 := by omega
  generalize hg0 : H / y1 = g0 at *
  generalize hr0 : H % y1 = r0 at *
  have e1' := Lib.hid e1
  have e0' := Lib.hid e0
  have hsum' := Lib.hid hsum
  clear hge e1 e0 hg0 hr0 hsum
  go_enter Try.func143, Try.ntmps143
  go_wp2
  go_quiet (fail)
  go_wp2
  go_quiet (fail)
  go_wp2
  go_loopw [7, 8] (fun gv rv wr => ∃ gs r j : Nat, gv = .int .u64 (gs : Int) ∧ rv = .int .u64 (r : Int) ∧ wr = w.drewN j ∧ Hid (gs * y1 + r = H) ∧ q ≤ gs ∧ gs ≤ 4294967297 ∧ (gs ≤ 4294967296 ∨ r < 4294967296) ∧ r < 8589934592) (fun gv _ _ => (intOf gv).toNat)
  case atStart => exact ⟨g0, r0, _, rfl, rfl, World.drewN_drewN _ _ _, hsum'.out, hle0, hst, Or.inr (by omega), by omega⟩
  case round =>
    obtain ⟨gs, r, j, rfl, rfl, rfl, hs, hqs, hgs, hor2, hr⟩ := hrel
    by_cases hlt : r < 4294967296
    · by_cases hgl : gs < 4294967296
      · have hI : (r : Int) < 4294967296 := by omega
        have hJ : (gs : Int) < 4294967296 := by omega
        have hD : decide ((gs : Int) < 4294967296) = true := decide_eq_true hJ
        have hor3 := or_words r p0 hlt l0
        have hm := Nat.mul_le_mul (show gs ≤ 4294967295 by omega) (show y0 ≤ 4294967295 by omega)
        have hm2 : gs * y0 ≤ 18446744065119617025 := by omega
        clear hm
        have hpI : (gs : Int) * (y0 : Int) = ((gs * y0 : Nat) : Int) := (Int.natCast_mul _ _).symm
        obtain ⟨Q, hQe⟩ : ∃ Q, r * 4294967296 + p0 = Q := ⟨_, rfl⟩
        rw [hQe] at hor3
        by_cases hb : gs * y0 ≤ r * 4294967296 + p0
        · have hbr := Lib.hid (guess_break hs.out hb)
          have hQ : r * 4294967296 + p0 < 18446744073709551616 := by omega
          generalize gs * y0 = pr at *
          rw [hQe] at hQ hb
          clear hQe
          have hgB := Lib.hid (show gs ≤ 4294967296 by omega)
          have hw1 : IntKind.u64.wrap (pr : Int) = (pr : Int) := by rw [IntKind.wrap_u64]; omega
          obtain ⟨RS, hRS⟩ : ∃ RS : Int, (r : Int) * 4294967296 = RS := ⟨_, rfl⟩
          have hw2 : IntKind.u64.wrap ((r : Int) * 4294967296) = RS := by rw [IntKind.wrap_u64]; omega
          rw [hRS] at hor3
          clear hRS
          have hcm : decide (pr ≤ Q) = true := decide_eq_true (by omega)
          clear hor2 hlt hgl hgs hr hJ
          go_wp2
          go_quiet (fail)
          go_wp2
          go_ret
          exact ⟨gs, rfl, hqs, hgB.out, hbr.out, _, by first | rfl | rw [World.drewN_drewN]⟩
        · have hbr := Lib.hid (guess_go hs.out (show r * 4294967296 + p0 < gs * y0 by omega))
          replace hb : r * 4294967296 + p0 < gs * y0 := by omega
          have hQ : r * 4294967296 + p0 < 18446744073709551616 := by omega
          have hg1 := hge'.out gs hbr.out
          have hs2 := Lib.hid (show (gs - 1) * y1 + (r + y1) = H by
            obtain ⟨u, rfl⟩ : ∃ u, gs = u + 1 := ⟨gs - 1, by omega⟩
            have := hs.out
            rw [Nat.add_mul, Nat.one_mul] at this
            rw [Nat.add_sub_cancel]; omega)
          generalize gs * y0 = pr at *
          rw [hQe] at hQ hb
          clear hQe
          obtain ⟨g2, hg2⟩ : ∃ g2, gs - 1 = g2 := ⟨_, rfl⟩
          obtain ⟨r2, hr2⟩ : ∃ r2, r + y1 = r2 := ⟨_, rfl⟩
          have hx1 : IntKind.u64.wrap ((gs : Int) - 1) = (g2 : Int) := by rw [IntKind.wrap_u64]; omega
          have hx2 : IntKind.u64.wrap ((r : Int) + (y1 : Int)) = (r2 : Int) := by rw [IntKind.wrap_u64]; omega
          rw [hg2, hr2] at hs2
          have hA1 := Lib.hid (show q ≤ g2 ∧ g2 ≤ 4294967297 ∧ g2 ≤ 4294967296 ∧ r2 < 8589934592 ∧ g2 < gs by omega)
          have hw1 : IntKind.u64.wrap (pr : Int) = (pr : Int) := by rw [IntKind.wrap_u64]; omega
          obtain ⟨RS, hRS⟩ : ∃ RS : Int, (r : Int) * 4294967296 = RS := ⟨_, rfl⟩
          have hw2 : IntKind.u64.wrap ((r : Int) * 4294967296) = RS := by rw [IntKind.wrap_u64]; omega
          rw [hRS] at hor3
          have hcm : decide (pr ≤ Q) = false := decide_eq_false (by omega)
          clear hRS hor2 hlt hgl hgs hr hJ hg2 hr2
          go_wp2
          go_quiet (fail)
          clear hI hD hw1 hw2 hor3 hpI hm2 hQ hb hg1
          go_wp2
          go_roundw
          case rel => exact ⟨g2, r2, _, rfl, rfl, by first | rfl | rw [World.drewN_drewN], hs2, hA1.out.1, hA1.out.2.1, Or.inl hA1.out.2.2.1, hA1.out.2.2.2.1⟩
          case measure => simp [intOf]; exact hA1.out.2.2.2.2
      · have hJ : ¬ (gs : Int) < 4294967296 := by omega
        have hg9 : 1 ≤ gs := by omega
        have hs2 := Lib.hid (show (gs - 1) * y1 + (r + y1) = H by
          obtain ⟨u, rfl⟩ : ∃ u, gs = u + 1 := ⟨gs - 1, by omega⟩
          have := hs.out
          rw [Nat.add_mul, Nat.one_mul] at this
          rw [Nat.add_sub_cancel]; omega)
        have hA1 := Lib.hid (show q ≤ gs - 1 ∧ gs - 1 ≤ 4294967297 ∧ gs - 1 ≤ 4294967296 ∧ r + y1 < 8589934592 by omega)
        have hI : (r : Int) < 4294967296 := by omega
        have hD : decide ((gs : Int) < 4294967296) = false := decide_eq_false hJ
        clear hor2 hgl hlt hr hJ
        go_wp2
        go_quiet (fail)
        go_wp2
        go_roundw
        case rel => exact ⟨gs - 1, r + y1, _, by go_num, by go_num, by first | rfl | rw [World.drewN_drewN], hs2, hA1.out.1, hA1.out.2.1, Or.inl hA1.out.2.2.1, hA1.out.2.2.2⟩
        case measure => simp [intOf]; omega
    · have hI : ¬ (r : Int) < 4294967296 := by omega
      have hgl : gs ≤ 4294967296 := by omega
      have hfin := Lib.hid (guess_break (p0 := p0) hs.out (show gs * y0 ≤ r * 4294967296 + p0 by
        have := Nat.mul_le_mul hgl (show y0 ≤ 4294967296 by omega)
        omega))
      clear hor2 hlt
      go_wp2
      go_ret
      exact ⟨gs, rfl, hqs, hgl, hfin.out, _, rfl⟩
end Go.Proofs.Ytjkekhiceadpgaa
