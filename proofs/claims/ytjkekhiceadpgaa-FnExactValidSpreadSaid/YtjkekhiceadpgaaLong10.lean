/- l01Gcd of the specification. Conditions: at most 10^9 digits. -/
import Derived.Test.YtjkekhiceadpgaaLong9
import Derived.Deep.LoopGhost
namespace Go.Proofs.Ytjkekhiceadpgaa
open Go.RowKit Go.Deep
set_option linter.unusedVariables false

theorem dlen_zero_iff {n : Nat} (h : dlen B9 n = 0) : n = 0 := by
  have := lt_dlen b9 n
  rw [h, Nat.pow_zero] at this; omega

set_option maxRecDepth 100000 in
set_option maxHeartbeats 4000000 in
theorem l01Gcd_any (a b : Value) (m n : Nat) (w : World) (ha : LongS w a m) (hb : LongS w b n) (sm : dlen B9 m ≤ 1000000000) (sn : dlen B9 n ≤ 1000000000) :
    Calls Try.prog 97 #[a, b] w fun e w' => ∃ v, e = .returned v ∧ LongS w' v (Nat.gcd m n) ∧ Below w.heap.size w w' := by
  obtain ⟨_, a1, cap1, rfl⟩ := ha.len
  obtain ⟨_, a2, cap2, rfl⟩ := hb.len
  have ha' := Lib.hid ha
  have hb' := Lib.hid hb
  obtain ⟨lm, hlm⟩ : ∃ l, l = dlen B9 m := ⟨_, rfl⟩
  obtain ⟨ln, hln⟩ : ∃ l, l = dlen B9 n := ⟨_, rfl⟩
  have hlm' := Lib.hid hlm
  have hln' := Lib.hid hln
  rw [← hlm] at ha' sm ⊢
  rw [← hln] at hb' sn ⊢
  clear ha hb hlm hln
  go_enter Try.func97, Try.ntmps97
  go_wp2
  go_loopg [0, 1] n (fun k av bv wr => ∃ (x lx lk cx ck : Nat) (ax ak : Option Addr), av = .slice ax lx cx ∧ bv = .slice ak lk ck ∧ Hid (lx = dlen B9 x) ∧ Hid (lk = dlen B9 k) ∧ lx ≤ 1000000000 ∧ lk ≤ 1000000000 ∧ Hid (LongS wr (.slice ax lx cx) x) ∧ Hid (LongS wr (.slice ak lk ck) k) ∧ Hid (Nat.gcd x k = Nat.gcd m n) ∧ Below w.heap.size w wr)
  case atStart => exact ⟨m, lm, ln, cap1, cap2, a1, a2, rfl, rfl, hlm', hln', sm, sn, ha', hb', Lib.hid rfl, Below.refl _ _⟩
  case round =>
    obtain ⟨x, lx, lk, cx, ck, ax, ak, rfl, rfl, hlx, hlk, sx, sk, hx, hk, hg, bel⟩ := hrel
    by_cases h0 : lk = 0
    · have hgk := dlen_zero_iff (hlk.out.symm.trans h0)
      have hr := Lib.hid (show LongS wr (.slice ax lx cx) (Nat.gcd m n) by rw [← hg.out, hgk, Nat.gcd_zero_right]; exact hx.out)
      have hn0 : ¬ (0 : Int) < (lk : Int) := by omega
      clear h0 hgk
      go_wp2
      go_ret
      exact ⟨_, rfl, hr.out, bel⟩
    · have hp : (0 : Int) < (lk : Int) := by omega
      have hgp : 0 < gk := by
        rcases Nat.eq_zero_or_pos gk with h | h
        · exfalso; apply h0; rw [hlk.out, h, dlen_zero]
        · exact h
      have hgp' := Lib.hid hgp
      have hdv := Lib.hid (l01Divide_any _ _ x gk wr hx.out hk.out hgp (by rw [← hlx.out]; exact sx) (by rw [← hlk.out]; exact sk))
      have hml := Lib.hid (dlen_mono b9 (Nat.le_of_lt (Nat.mod_lt x hgp)))
      clear h0 hgp
      go_wp2_with fail
      refine hdv.out.mono ?_
      rintro e w1 ⟨q, r, rfl, hq, hr, b1⟩
      obtain ⟨_, qa, qc, rfl⟩ := hq.len
      obtain ⟨_, ra, rc, rfl⟩ := hr.len
      have hk1 := Lib.hid (hk.out.keep b1)
      have hr1 := Lib.hid hr
      have B1 := Lib.hid (below_wt bel b1)
      obtain ⟨lr, hlr⟩ : ∃ l, l = dlen B9 (x % gk) := ⟨_, rfl⟩
      rw [← hlr] at hr1 ⊢
      have hlr' := Lib.hid hlr
      have slr : lr ≤ 1000000000 := by have := hml.out; rw [← hlr, ← hlk.out] at this; omega
      have hgg := Lib.hid (show Nat.gcd gk (x % gk) = Nat.gcd m n by rw [← hg.out, Nat.gcd_comm x gk, Nat.gcd_rec gk x, Nat.gcd_comm])
      clear hlr hr hq b1 hdv
      go_wp2
      go_roundg (x % gk)
      case measure => exact Nat.mod_lt x hgp'.out
      case rel => exact ⟨gk, lk, lr, ck, rc, ak, ra, rfl, rfl, hlk, hlr', sk, slr, hk1, hr1, hgg, B1.out⟩
end Go.Proofs.Ytjkekhiceadpgaa
