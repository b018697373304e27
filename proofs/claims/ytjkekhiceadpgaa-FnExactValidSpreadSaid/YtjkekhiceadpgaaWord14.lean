/- divisorWith of the project: the greatest common divisor of two long numbers. Conditions: at most 10^9 words. -/
import Derived.Test.YtjkekhiceadpgaaWord13
namespace Go.Proofs.Ytjkekhiceadpgaa
open Go.RowKit Go.Deep
set_option linter.unusedVariables false

theorem bits_small {n : Nat} (h : ¬ 64 < bitsN n) : n < 18446744073709551616 := by
  rcases Nat.eq_zero_or_pos n with rfl | h0
  · omega
  · obtain ⟨a1, a2, a3⟩ := bitsN_bounds h0
    have := Nat.pow_le_pow_right (n := 2) (by omega) (show bitsN n ≤ 64 by omega)
    have e : (2 : Nat) ^ 64 = 18446744073709551616 := by decide
    omega
/-- the highest 64 bits of the greater one, and what lies at the same place in the lesser one -/
theorem top_bits {x y : Nat} (hle : y ≤ x) (hb : 64 < bitsN y) :
    ∃ f s : Nat, s < 32 ∧ 32 * f + s + 64 = bitsN x ∧ x / 2 ^ (32 * f + s) < 18446744073709551616 ∧ y / 2 ^ (32 * f + s) ≤ x / 2 ^ (32 * f + s) := by
  have hm := bitsN_mono hle
  have h0 : 0 < x := by
    rcases Nat.eq_zero_or_pos x with rfl | h
    · have : y = 0 := by omega
      subst this; rw [bitsN_zero] at hb; omega
    · exact h
  obtain ⟨a1, a2, a3⟩ := bitsN_bounds h0
  refine ⟨(bitsN x - 64) / 32, (bitsN x - 64) % 32, by omega, by omega, ?_, Nat.div_le_div_right hle⟩
  rw [show 32 * ((bitsN x - 64) / 32) + (bitsN x - 64) % 32 = bitsN x - 64 by omega]
  apply (Nat.div_lt_iff_lt_mul (Nat.two_pow_pos _)).2
  have e : (18446744073709551616 : Nat) = 2 ^ 64 := by decide
  rw [e, ← Nat.pow_add, show 64 + (bitsN x - 64) = bitsN x by omega]
  exact a3
theorem LongI.wd {w : World} {v : Value} {n : Nat} (h : LongI w v n) : Wd w v (dgs W32 n (dlen W32 n)) := h
/-- a window of a long number -/
theorem window_long (v : Value) (n f s : Nat) (w : World) (h : LongI w v n) (hs : s < 32) (hf : f < 1099511627776) :
    Calls Try.prog 109 #[v, .int .i64 ((32 * f + s : Nat) : Int)] w fun e w' => e = .returned (.int .u64 (n / 2 ^ (32 * f + s) % 18446744073709551616 : Nat)) ∧ ∃ k, w' = w.drewN k := by
  have := window_any v _ f s w h.wd (dgs_lt w32 _ _) hs hf
  rwa [val_dgs_small (lt_dlen w32 n)] at this
theorem window_zero (v : Value) (n : Nat) (w : World) (h : LongI w v n) (hn : n < 18446744073709551616) :
    Calls Try.prog 109 #[v, .int .i64 0] w fun e w' => e = .returned (.int .u64 (n : Int)) ∧ ∃ k, w' = w.drewN k := by
  have := window_long v n 0 0 w h (by omega) (by omega)
  rw [show 32 * 0 + 0 = 0 by rfl, Nat.pow_zero, Nat.div_one, Nat.mod_eq_of_lt hn] at this
  exact this
theorem dlen_zero_iff' {n : Nat} (h : dlen W32 n = 0) : n = 0 := by
  have := lt_dlen w32 n
  rw [h, Nat.pow_zero] at this; omega

set_option maxRecDepth 100000 in
set_option maxHeartbeats 4000000 in
theorem divisor_ge (a b : Value) (m n : Nat) (w : World) (ha : LongI w a m) (hb : LongI w b n) (hle : n ≤ m) (sm : dlen W32 m ≤ 1000000000) :
    Calls Try.prog 83 #[a, b] w fun e w' => ∃ v, e = .returned v ∧ LongI w' v (Nat.gcd m n) ∧ Below w.heap.size w w' := by
  have hcmp := compare_any a b m n w ha hb
  obtain ⟨c, hc1, hc2⟩ : ∃ c : Int, cmpI m n = c ∧ ¬ c < 0 := ⟨_, rfl, by unfold cmpI; rw [if_neg (by omega)]; split <;> omega⟩
  rw [hc1] at hcmp
  have sn := Nat.le_trans (dlen_mono w32 hle) sm
  obtain ⟨_, a1, cap1, rfl⟩ := ha.len
  obtain ⟨_, a2, cap2, rfl⟩ := hb.len
  have ha' := Lib.hid ha
  have hb' := Lib.hid hb
  have hle' := Lib.hid hle
  obtain ⟨lm, hlm⟩ : ∃ l, l = dlen W32 m := ⟨_, rfl⟩
  obtain ⟨ln, hln⟩ : ∃ l, l = dlen W32 n := ⟨_, rfl⟩
  have hlm' := Lib.hid hlm
  have hln' := Lib.hid hln
  rw [← hlm] at ha' sm hcmp ⊢
  rw [← hln] at hb' sn hcmp ⊢
  have hcmp' := Lib.hid hcmp
  clear ha hb hlm hln hle hc1 hcmp
  go_enter Try.func83, Try.ntmps83
  go_wp2_with fail
  (with_reducible refine hcmp'.out.mono ?_)
  rintro e w1 ⟨rfl, j0, rfl⟩
  go_wp2_with fail
  go_loopg [0, 1] n (fun k av bv wr => ∃ (x lx lk cx ck : Nat) (ax ak : Option Addr), av = .slice ax lx cx ∧ bv = .slice ak lk ck ∧ Hid (lx = dlen W32 x) ∧ Hid (lk = dlen W32 k) ∧ lx ≤ 1000000000 ∧ lk ≤ 1000000000 ∧ Hid (LongI wr (.slice ax lx cx) x) ∧ Hid (LongI wr (.slice ak lk ck) k) ∧ Hid (k ≤ x) ∧ Hid (Nat.gcd x k = Nat.gcd m n) ∧ Below w.heap.size w wr)
  case atStart => exact ⟨m, lm, ln, cap1, cap2, a1, a2, rfl, rfl, hlm', hln', sm, sn, ha'.out.keep (below_drewN (Below.refl _ _) j0), hb'.out.keep (below_drewN (Below.refl _ _) j0), hle', Lib.hid rfl, below_drewN (Below.refl _ _) j0⟩
  case round =>
    obtain ⟨x, lx, lk, cx, ck, ax, ak, rfl, rfl, hlx, hlk, sx, sk, hx, hk, hkx, hg, bel⟩ := hrel
    have hbl := Lib.hid (bitLen_any _ gk wr hk.out (by rw [← hlk.out]; exact sk))
    by_cases hbt : 64 < bitsN gk
    · obtain ⟨f, s, hs, hfs, hx64, hyx⟩ := top_bits hkx.out hbt
      have hF : f < 1099511627776 := by
        have := bitsN_le (n := x)
        rw [← hlx.out] at this
        omega
      have hfb : 32 * f + s ≤ 32000000000 := by
        have := bitsN_le (n := x)
        rw [← hlx.out] at this
        omega
      have hwx := Lib.hid (window_long _ x f s wr hx.out hs hF)
      have hwy := Lib.hid (fun j => window_long _ gk f s (wr.drewN j) (hk.out.keep (below_drewN (Below.refl _ _) j)) hs hF)
      have hblx := Lib.hid (bitLen_any _ x wr hx.out (by rw [← hlx.out]; exact sx))
      have hyx64 : gk / 2 ^ (32 * f + s) < 18446744073709551616 := Nat.lt_of_le_of_lt hyx hx64
      rw [Nat.mod_eq_of_lt hx64] at hwx
      rw [Nat.mod_eq_of_lt hyx64] at hwy
      have hgu := Lib.hid (fun W => guessRemainders_any (2 ^ (32 * f + s)) x gk (x / 2 ^ (32 * f + s)) (gk / 2 ^ (32 * f + s)) (x % 2 ^ (32 * f + s)) (gk % 2 ^ (32 * f + s)) W hyx hx64 (by rw [Nat.mul_comm]; exact (Nat.div_add_mod _ _).symm) (by rw [Nat.mul_comm]; exact (Nat.div_add_mod _ _).symm) (Nat.mod_lt _ (Nat.two_pow_pos _)) (Nat.mod_lt _ (Nat.two_pow_pos _)))
      have hfr : ((bitsN x : Nat) : Int) - 64 = ((32 * f + s : Nat) : Int) := by omega
      have hbt' : (64 : Int) < ((bitsN gk : Nat) : Int) := by omega
      generalize x / 2 ^ (32 * f + s) = xh at *
      generalize gk / 2 ^ (32 * f + s) = yh at *
      generalize 32 * f + s = fr at *
      generalize bitsN x = bx at *
      generalize hbk : bitsN gk = bk at *
      have hbk0 := Lib.hid hbk
      clear hbt hbk hfs
      go_wp2_with fail
      (with_reducible refine hbl.out.mono ?_)
      rintro e wr ⟨rfl, rfl⟩
      go_wp2_with fail
      (with_reducible refine hblx.out.mono ?_)
      rintro e wr ⟨rfl, rfl⟩
      go_wp2_with fail
      (with_reducible refine hwx.out.mono ?_)
      rintro e w1 ⟨rfl, j1, rfl⟩
      go_wp2_with fail
      (with_reducible refine (hwy.out j1).mono ?_)
      rintro e w1 ⟨rfl, j2, rfl⟩
      go_wp2_with fail
      (with_reducible refine (hgu.out _).mono ?_)
      rintro e w5 ⟨a0, b0, a1, b1, rfl, ⟨la0, lb0, la1, lb1⟩, hcert, b5⟩
      have B5 : Below wr.heap.size wr w5 := (below_drewN (Below.refl _ wr) _).trans b5
      have B7 : Below wr.heap.size wr ((w5.alloc (.cells (rmC a0 b0) 170)).alloc (.cells (rmC a1 b1) 170)) := below_wt B5 (below2 w5 _ _)
      have fx := hx.out.keep B7
      have fy := hk.out.keep B7
      have hZ0 := (Blk.new w5 (rmC a0 b0) 170).alloc (.cells (rmC a1 b1) 170)
      have hZ1 := Blk.new (w5.alloc (.cells (rmC a0 b0) 170)) (rmC a1 b1) 170
      simp only [World.size_alloc] at hZ1
      have C7 := below_wt bel B7
      by_cases hb0 : b0 = 0
      · have hz1 : ((b0 : Int) == 0) = true := by simp [hb0]
        have hz2 : Hid (b0 = 0) := Lib.hid hb0
        have hkp : 0 < gk := by
          rcases Nat.eq_zero_or_pos gk with h | h
          · subst h; exfalso; have h2 := hbk0.out; rw [bitsN_zero] at h2; omega
          · exact h
        have hdv := Lib.hid (divide_any _ _ x gk _ fx fy hkp (by rw [← hlx.out]; exact sx))
        have hml := Lib.hid (Nat.mod_lt x hkp)
        have hgg := Lib.hid (show Nat.gcd gk (x % gk) = Nat.gcd m n by rw [← hg.out, Nat.gcd_comm x gk, Nat.gcd_rec gk x, Nat.gcd_comm])
        have fy' := Lib.hid fy
        obtain ⟨lr, hlr⟩ : ∃ l, l = dlen W32 (x % gk) := ⟨_, rfl⟩
        have slr : lr ≤ 1000000000 := by have := dlen_mono w32 (Nat.le_of_lt hml.out); rw [← hlr, ← hlk.out] at this; omega
        have hlr' := Lib.hid hlr
        clear fx fy hcert hkp hb0
        go_wp2_with fail
        (with_reducible refine hdv.out.mono ?_)
        rintro e w8 ⟨q, r, rfl, hq, hr, b8⟩
        obtain ⟨_, qa, qc, rfl⟩ := hq.len
        obtain ⟨_, ra, rc, rfl⟩ := hr.len
        rw [← hlr] at hr ⊢
        have hr8 := Lib.hid hr
        have hk8 := Lib.hid (fy'.out.keep b8)
        have B8 := Lib.hid (below_wt C7 b8)
        clear hq hr b8 hdv hlr
        go_wp2
        go_roundg (x % gk)
        case measure => exact hml.out
        case rel => exact ⟨gk, lk, lr, ck, rc, ak, ra, rfl, rfl, hlk, hlr', sk, slr, hk8, hr8, Nat.le_of_lt hml.out, hgg, B8.out⟩
      · obtain ⟨even, R0, R1, ct, ct1, ct2⟩ := hcert hb0
        have hgg := Lib.hid (show Nat.gcd R0 R1 = Nat.gcd m n by rw [ct.gcd]; exact hg.out)
        obtain ⟨gp0, gp1⟩ := ct.gaps
        have ct1' := Lib.hid ct1
        have hml := Lib.hid (show R1 < gk by omega)
        have hp0 : ¬ (b0 : Int) = 0 := by omega
        have hp1 : ((b0 : Int) == 0) = false := by simp; omega
        have s0 : dlen W32 R0 ≤ 1000000000 := by have := dlen_mono w32 ct2; rw [← hlk.out] at this; omega
        have s1 : dlen W32 R1 ≤ 1000000000 := Nat.le_trans (dlen_mono w32 (Nat.le_of_lt ct1)) s0
        have hg0 := Lib.hid (fun (W : World) (h1 : LongI W (.slice ax lx cx) x) (h2 : LongI W (.slice ak lk ck) gk) => gap_any _ _ x gk a0 b0 W h1 h2 la0 lb0 (by rw [← hlx.out]; exact sx) (by rw [← hlk.out]; exact sk))
        have hg1 := Lib.hid (fun (W : World) (h1 : LongI W (.slice ax lx cx) x) (h2 : LongI W (.slice ak lk ck) gk) => gap_any _ _ x gk a1 b1 W h1 h2 la1 lb1 (by rw [← hlx.out]; exact sx) (by rw [← hlk.out]; exact sk))
        rw [show gapN x gk a0 b0 = R0 from gp0] at hg0
        rw [show gapN x gk a1 b1 = R1 from gp1] at hg1
        have d0 := hZ0.cell 0
        have d1 := hZ0.cell 1
        have e0 := hZ1.cell 0
        have e1 := hZ1.cell 1
        simp only [rmC, List.getElem?_toArray, List.getElem?_cons_zero, List.getElem?_cons_succ] at d0 d1 e0 e1
        clear hcert gp0 gp1 ct ct1 ct2 hb0
        go_wp2_with fail
        generalize hW7 : (w5.alloc _).alloc _ = W7 at *
        have fx := fx.keep (Below.refl _ W7).drew
        have fy := fy.keep (Below.refl _ W7).drew
        have C8 := C7.drew
        replace d0 : W7.drew.cell? ⟨w5.heap.size, 0, none⟩ = some (.int .u64 (a0 : Int)) := d0
        replace d1 : W7.drew.cell? ⟨w5.heap.size, 1, none⟩ = some (.int .u64 (b0 : Int)) := d1
        replace e0 : W7.drew.cell? ⟨w5.heap.size + 1, 0, none⟩ = some (.int .u64 (a1 : Int)) := e0
        replace e1 : W7.drew.cell? ⟨w5.heap.size + 1, 1, none⟩ = some (.int .u64 (b1 : Int)) := e1
        clear hZ0 hZ1 C7 B7 hW7
        go_region_held3 (fun w' => w'.cell? ⟨w5.heap.size, 0, none⟩ = some (.int .u64 (a0 : Int)) ∧ w'.cell? ⟨w5.heap.size, 1, none⟩ = some (.int .u64 (b0 : Int)) ∧ w'.cell? ⟨w5.heap.size + 1, 0, none⟩ = some (.int .u64 (a1 : Int)) ∧ w'.cell? ⟨w5.heap.size + 1, 1, none⟩ = some (.int .u64 (b1 : Int)))
          (go_keep)
          (first
            | (go_at_call 110; first
                | ((with_reducible refine (hg0.out _ fx fy).mono ?_); rintro e u1 ⟨v0, rfl, p0, b1'⟩; replace fx := fx.keep b1'; replace fy := fy.keep b1'; (try replace p1 := p1.keep b1'); replace C8 := below_wt C8 b1'; replace d0 := (b1'.cell (p := ⟨w5.heap.size, 0, none⟩) (block_lt d0)).trans d0; replace d1 := (b1'.cell (p := ⟨w5.heap.size, 1, none⟩) (block_lt d1)).trans d1; replace e0 := (b1'.cell (p := ⟨w5.heap.size + 1, 0, none⟩) (block_lt e0)).trans e0; replace e1 := (b1'.cell (p := ⟨w5.heap.size + 1, 1, none⟩) (block_lt e1)).trans e1)
                | ((with_reducible refine (hg1.out _ fx fy).mono ?_); rintro e u2 ⟨v1, rfl, p1, b2'⟩; replace fx := fx.keep b2'; replace fy := fy.keep b2'; (try replace p0 := p0.keep b2'); replace C8 := below_wt C8 b2'; replace d0 := (b2'.cell (p := ⟨w5.heap.size, 0, none⟩) (block_lt d0)).trans d0; replace d1 := (b2'.cell (p := ⟨w5.heap.size, 1, none⟩) (block_lt d1)).trans d1; replace e0 := (b2'.cell (p := ⟨w5.heap.size + 1, 0, none⟩) (block_lt e0)).trans e0; replace e1 := (b2'.cell (p := ⟨w5.heap.size + 1, 1, none⟩) (block_lt e1)).trans e1)))
        all_goals
          obtain ⟨_, pa0, pc0, rfl⟩ := p0.len
          obtain ⟨_, pa1, pc1, rfl⟩ := p1.len
        all_goals
          have ps0 := Lib.hid p0
          have ps1 := Lib.hid p1
          have B9 := Lib.hid C8
          clear p0 p1 fx fy C8 d0 d1 e0 e1
          go_wp2
          go_roundg R1
        case measure => exact hml.out
        case rel => exact ⟨R0, _, _, pc0, pc1, pa0, pa1, rfl, rfl, Lib.hid rfl, Lib.hid rfl, s0, s1, ps0, ps1, Nat.le_of_lt ct1'.out, hgg, B9.out⟩
    · have hks := bits_small hbt
      have hbt' : ¬ (64 : Int) < ((bitsN gk : Nat) : Int) := by omega
      generalize bitsN gk = bk at *
      clear hbt
      go_wp2_with fail
      (with_reducible refine hbl.out.mono ?_)
      rintro e wr ⟨rfl, rfl⟩
      by_cases h0 : lk = 0
      · have hgk := dlen_zero_iff' (hlk.out.symm.trans h0)
        have hr := Lib.hid (show LongI wr (.slice ax lx cx) (Nat.gcd m n) by rw [← hg.out, hgk, Nat.gcd_zero_right]; exact hx.out)
        have hz : ((lk : Int) == 0) = true := by simp [h0]
        clear h0 hgk
        go_wp2
        go_ret
        exact ⟨_, rfl, hr.out, bel⟩
      · have hz : ((lk : Int) == 0) = false := by simp; omega
        have hkp : 0 < gk := by
          rcases Nat.eq_zero_or_pos gk with h | h
          · exfalso; apply h0; rw [hlk.out, h, dlen_zero]
          · exact h
        have hdv := Lib.hid (divide_any _ _ x gk wr hx.out hk.out hkp (by rw [← hlx.out]; exact sx))
        have hml := Nat.mod_lt x hkp
        have hgg := Lib.hid (show Nat.gcd gk (x % gk) = Nat.gcd m n by rw [← hg.out, Nat.gcd_comm x gk, Nat.gcd_rec gk x, Nat.gcd_comm])
        have hcd := Lib.hid (fun W => commonDivisor_any gk (x % gk) W hks (by omega))
        have hlo := Lib.hid (fun W => longOf_any (Nat.gcd gk (x % gk)) W (Nat.lt_of_le_of_lt (Nat.gcd_le_left _ hkp) hks))
        have hr64 : x % gk < 18446744073709551616 := by omega
        have hr64' := Lib.hid hr64
        have hks' := Lib.hid hks
        rw [hgg.out] at hcd hlo
        generalize hrr : x % gk = rr at *
        replace hrr := Lib.hid hrr
        clear h0 hml hks hr64 hkp
        go_wp2_with (go_at_call 56; go_in)
        (with_reducible refine hdv.out.mono ?_)
        rintro e w8 ⟨q, r, rfl, hq, hr, b8⟩
        rw [hrr.out] at hr
        obtain ⟨_, qa, qc, rfl⟩ := hq.len
        obtain ⟨_, ra, rc, rfl⟩ := hr.len
        have hw1 := Lib.hid (window_zero _ gk w8 (hk.out.keep b8) hks'.out)
        have hw2 := Lib.hid (fun j => window_zero _ rr (w8.drewN j) (hr.keep (below_drewN (Below.refl _ _) j)) hr64'.out)
        have B8 := Lib.hid (below_wt bel b8)
        clear hq hr b8 hdv
        go_wp2_with fail
        (with_reducible refine hw1.out.mono ?_)
        rintro e w9 ⟨rfl, j1, rfl⟩
        go_wp2_with fail
        (with_reducible refine (hw2.out j1).mono ?_)
        rintro e w9 ⟨rfl, j2, rfl⟩
        go_wp2_with fail
        (with_reducible refine (hcd.out _).mono ?_)
        rintro e w9 ⟨rfl, j3, rfl⟩
        go_wp2_with fail
        (with_reducible refine (hlo.out _).mono ?_)
        rintro e w9 ⟨v9, rfl, hL9, b9⟩
        have hL9' := Lib.hid hL9
        have b9' := Lib.hid b9
        clear hL9 b9
        go_wp2
        go_ret
        exact ⟨_, rfl, hL9'.out, below_wt B8.out ((below_drewN (Below.refl _ w8) _).trans b9'.out)⟩
set_option maxRecDepth 100000 in
set_option maxHeartbeats 4000000 in
theorem divisor_lt (a b : Value) (m n : Nat) (w : World) (ha : LongI w a m) (hb : LongI w b n) (hlt0 : n < m) (sm : dlen W32 m ≤ 1000000000) :
    Calls Try.prog 83 #[b, a] w fun e w' => ∃ v, e = .returned v ∧ LongI w' v (Nat.gcd m n) ∧ Below w.heap.size w w' := by
  have hle : n ≤ m := Nat.le_of_lt hlt0
  have hcmp := compare_any b a n m w hb ha
  rw [cmpI_lt hlt0] at hcmp
  have sn := Nat.le_trans (dlen_mono w32 hle) sm
  obtain ⟨_, a1, cap1, rfl⟩ := ha.len
  obtain ⟨_, a2, cap2, rfl⟩ := hb.len
  have ha' := Lib.hid ha
  have hb' := Lib.hid hb
  have hle' := Lib.hid hle
  obtain ⟨lm, hlm⟩ : ∃ l, l = dlen W32 m := ⟨_, rfl⟩
  obtain ⟨ln, hln⟩ : ∃ l, l = dlen W32 n := ⟨_, rfl⟩
  have hlm' := Lib.hid hlm
  have hln' := Lib.hid hln
  rw [← hlm] at ha' sm hcmp ⊢
  rw [← hln] at hb' sn hcmp ⊢
  have hcmp' := Lib.hid hcmp
  clear ha hb hlm hln hle hcmp hlt0
  go_enter Try.func83, Try.ntmps83
  go_wp2_with fail
  (with_reducible refine hcmp'.out.mono ?_)
  rintro e w1 ⟨rfl, j0, rfl⟩
  go_wp2_with fail
  go_loopg [0, 1] n (fun k av bv wr => ∃ (x lx lk cx ck : Nat) (ax ak : Option Addr), av = .slice ax lx cx ∧ bv = .slice ak lk ck ∧ Hid (lx = dlen W32 x) ∧ Hid (lk = dlen W32 k) ∧ lx ≤ 1000000000 ∧ lk ≤ 1000000000 ∧ Hid (LongI wr (.slice ax lx cx) x) ∧ Hid (LongI wr (.slice ak lk ck) k) ∧ Hid (k ≤ x) ∧ Hid (Nat.gcd x k = Nat.gcd m n) ∧ Below w.heap.size w wr)
  case atStart => exact ⟨m, lm, ln, cap1, cap2, a1, a2, rfl, rfl, hlm', hln', sm, sn, ha'.out.keep (below_drewN (Below.refl _ _) j0), hb'.out.keep (below_drewN (Below.refl _ _) j0), hle', Lib.hid rfl, below_drewN (Below.refl _ _) j0⟩
  case round =>
    obtain ⟨x, lx, lk, cx, ck, ax, ak, rfl, rfl, hlx, hlk, sx, sk, hx, hk, hkx, hg, bel⟩ := hrel
    have hbl := Lib.hid (bitLen_any _ gk wr hk.out (by rw [← hlk.out]; exact sk))
    by_cases hbt : 64 < bitsN gk
    · obtain ⟨f, s, hs, hfs, hx64, hyx⟩ := top_bits hkx.out hbt
      have hF : f < 1099511627776 := by
        have := bitsN_le (n := x)
        rw [← hlx.out] at this
        omega
      have hfb : 32 * f + s ≤ 32000000000 := by
        have := bitsN_le (n := x)
        rw [← hlx.out] at this
        omega
      have hwx := Lib.hid (window_long _ x f s wr hx.out hs hF)
      have hwy := Lib.hid (fun j => window_long _ gk f s (wr.drewN j) (hk.out.keep (below_drewN (Below.refl _ _) j)) hs hF)
      have hblx := Lib.hid (bitLen_any _ x wr hx.out (by rw [← hlx.out]; exact sx))
      have hyx64 : gk / 2 ^ (32 * f + s) < 18446744073709551616 := Nat.lt_of_le_of_lt hyx hx64
      rw [Nat.mod_eq_of_lt hx64] at hwx
      rw [Nat.mod_eq_of_lt hyx64] at hwy
      have hgu := Lib.hid (fun W => guessRemainders_any (2 ^ (32 * f + s)) x gk (x / 2 ^ (32 * f + s)) (gk / 2 ^ (32 * f + s)) (x % 2 ^ (32 * f + s)) (gk % 2 ^ (32 * f + s)) W hyx hx64 (by rw [Nat.mul_comm]; exact (Nat.div_add_mod _ _).symm) (by rw [Nat.mul_comm]; exact (Nat.div_add_mod _ _).symm) (Nat.mod_lt _ (Nat.two_pow_pos _)) (Nat.mod_lt _ (Nat.two_pow_pos _)))
      have hfr : ((bitsN x : Nat) : Int) - 64 = ((32 * f + s : Nat) : Int) := by omega
      have hbt' : (64 : Int) < ((bitsN gk : Nat) : Int) := by omega
      generalize x / 2 ^ (32 * f + s) = xh at *
      generalize gk / 2 ^ (32 * f + s) = yh at *
      generalize 32 * f + s = fr at *
      generalize bitsN x = bx at *
      generalize hbk : bitsN gk = bk at *
      have hbk0 := Lib.hid hbk
      clear hbt hbk hfs
      go_wp2_with fail
      (with_reducible refine hbl.out.mono ?_)
      rintro e wr ⟨rfl, rfl⟩
      go_wp2_with fail
      (with_reducible refine hblx.out.mono ?_)
      rintro e wr ⟨rfl, rfl⟩
      go_wp2_with fail
      (with_reducible refine hwx.out.mono ?_)
      rintro e w1 ⟨rfl, j1, rfl⟩
      go_wp2_with fail
      (with_reducible refine (hwy.out j1).mono ?_)
      rintro e w1 ⟨rfl, j2, rfl⟩
      go_wp2_with fail
      (with_reducible refine (hgu.out _).mono ?_)
      rintro e w5 ⟨a0, b0, a1, b1, rfl, ⟨la0, lb0, la1, lb1⟩, hcert, b5⟩
      have B5 : Below wr.heap.size wr w5 := (below_drewN (Below.refl _ wr) _).trans b5
      have B7 : Below wr.heap.size wr ((w5.alloc (.cells (rmC a0 b0) 170)).alloc (.cells (rmC a1 b1) 170)) := below_wt B5 (below2 w5 _ _)
      have fx := hx.out.keep B7
      have fy := hk.out.keep B7
      have hZ0 := (Blk.new w5 (rmC a0 b0) 170).alloc (.cells (rmC a1 b1) 170)
      have hZ1 := Blk.new (w5.alloc (.cells (rmC a0 b0) 170)) (rmC a1 b1) 170
      simp only [World.size_alloc] at hZ1
      have C7 := below_wt bel B7
      by_cases hb0 : b0 = 0
      · have hz1 : ((b0 : Int) == 0) = true := by simp [hb0]
        have hz2 : Hid (b0 = 0) := Lib.hid hb0
        have hkp : 0 < gk := by
          rcases Nat.eq_zero_or_pos gk with h | h
          · subst h; exfalso; have h2 := hbk0.out; rw [bitsN_zero] at h2; omega
          · exact h
        have hdv := Lib.hid (divide_any _ _ x gk _ fx fy hkp (by rw [← hlx.out]; exact sx))
        have hml := Lib.hid (Nat.mod_lt x hkp)
        have hgg := Lib.hid (show Nat.gcd gk (x % gk) = Nat.gcd m n by rw [← hg.out, Nat.gcd_comm x gk, Nat.gcd_rec gk x, Nat.gcd_comm])
        have fy' := Lib.hid fy
        obtain ⟨lr, hlr⟩ : ∃ l, l = dlen W32 (x % gk) := ⟨_, rfl⟩
        have slr : lr ≤ 1000000000 := by have := dlen_mono w32 (Nat.le_of_lt hml.out); rw [← hlr, ← hlk.out] at this; omega
        have hlr' := Lib.hid hlr
        clear fx fy hcert hkp hb0
        go_wp2_with fail
        (with_reducible refine hdv.out.mono ?_)
        rintro e w8 ⟨q, r, rfl, hq, hr, b8⟩
        obtain ⟨_, qa, qc, rfl⟩ := hq.len
        obtain ⟨_, ra, rc, rfl⟩ := hr.len
        rw [← hlr] at hr ⊢
        have hr8 := Lib.hid hr
        have hk8 := Lib.hid (fy'.out.keep b8)
        have B8 := Lib.hid (below_wt C7 b8)
        clear hq hr b8 hdv hlr
        go_wp2
        go_roundg (x % gk)
        case measure => exact hml.out
        case rel => exact ⟨gk, lk, lr, ck, rc, ak, ra, rfl, rfl, hlk, hlr', sk, slr, hk8, hr8, Nat.le_of_lt hml.out, hgg, B8.out⟩
      · obtain ⟨even, R0, R1, ct, ct1, ct2⟩ := hcert hb0
        have hgg := Lib.hid (show Nat.gcd R0 R1 = Nat.gcd m n by rw [ct.gcd]; exact hg.out)
        obtain ⟨gp0, gp1⟩ := ct.gaps
        have ct1' := Lib.hid ct1
        have hml := Lib.hid (show R1 < gk by omega)
        have hp0 : ¬ (b0 : Int) = 0 := by omega
        have hp1 : ((b0 : Int) == 0) = false := by simp; omega
        have s0 : dlen W32 R0 ≤ 1000000000 := by have := dlen_mono w32 ct2; rw [← hlk.out] at this; omega
        have s1 : dlen W32 R1 ≤ 1000000000 := Nat.le_trans (dlen_mono w32 (Nat.le_of_lt ct1)) s0
        have hg0 := Lib.hid (fun (W : World) (h1 : LongI W (.slice ax lx cx) x) (h2 : LongI W (.slice ak lk ck) gk) => gap_any _ _ x gk a0 b0 W h1 h2 la0 lb0 (by rw [← hlx.out]; exact sx) (by rw [← hlk.out]; exact sk))
        have hg1 := Lib.hid (fun (W : World) (h1 : LongI W (.slice ax lx cx) x) (h2 : LongI W (.slice ak lk ck) gk) => gap_any _ _ x gk a1 b1 W h1 h2 la1 lb1 (by rw [← hlx.out]; exact sx) (by rw [← hlk.out]; exact sk))
        rw [show gapN x gk a0 b0 = R0 from gp0] at hg0
        rw [show gapN x gk a1 b1 = R1 from gp1] at hg1
        have d0 := hZ0.cell 0
        have d1 := hZ0.cell 1
        have e0 := hZ1.cell 0
        have e1 := hZ1.cell 1
        simp only [rmC, List.getElem?_toArray, List.getElem?_cons_zero, List.getElem?_cons_succ] at d0 d1 e0 e1
        clear hcert gp0 gp1 ct ct1 ct2 hb0
        go_wp2_with fail
        generalize hW7 : (w5.alloc _).alloc _ = W7 at *
        have fx := fx.keep (Below.refl _ W7).drew
        have fy := fy.keep (Below.refl _ W7).drew
        have C8 := C7.drew
        replace d0 : W7.drew.cell? ⟨w5.heap.size, 0, none⟩ = some (.int .u64 (a0 : Int)) := d0
        replace d1 : W7.drew.cell? ⟨w5.heap.size, 1, none⟩ = some (.int .u64 (b0 : Int)) := d1
        replace e0 : W7.drew.cell? ⟨w5.heap.size + 1, 0, none⟩ = some (.int .u64 (a1 : Int)) := e0
        replace e1 : W7.drew.cell? ⟨w5.heap.size + 1, 1, none⟩ = some (.int .u64 (b1 : Int)) := e1
        clear hZ0 hZ1 C7 B7 hW7
        go_region_held3 (fun w' => w'.cell? ⟨w5.heap.size, 0, none⟩ = some (.int .u64 (a0 : Int)) ∧ w'.cell? ⟨w5.heap.size, 1, none⟩ = some (.int .u64 (b0 : Int)) ∧ w'.cell? ⟨w5.heap.size + 1, 0, none⟩ = some (.int .u64 (a1 : Int)) ∧ w'.cell? ⟨w5.heap.size + 1, 1, none⟩ = some (.int .u64 (b1 : Int)))
          (go_keep)
          (first
            | (go_at_call 110; first
                | ((with_reducible refine (hg0.out _ fx fy).mono ?_); rintro e u1 ⟨v0, rfl, p0, b1'⟩; replace fx := fx.keep b1'; replace fy := fy.keep b1'; (try replace p1 := p1.keep b1'); replace C8 := below_wt C8 b1'; replace d0 := (b1'.cell (p := ⟨w5.heap.size, 0, none⟩) (block_lt d0)).trans d0; replace d1 := (b1'.cell (p := ⟨w5.heap.size, 1, none⟩) (block_lt d1)).trans d1; replace e0 := (b1'.cell (p := ⟨w5.heap.size + 1, 0, none⟩) (block_lt e0)).trans e0; replace e1 := (b1'.cell (p := ⟨w5.heap.size + 1, 1, none⟩) (block_lt e1)).trans e1)
                | ((with_reducible refine (hg1.out _ fx fy).mono ?_); rintro e u2 ⟨v1, rfl, p1, b2'⟩; replace fx := fx.keep b2'; replace fy := fy.keep b2'; (try replace p0 := p0.keep b2'); replace C8 := below_wt C8 b2'; replace d0 := (b2'.cell (p := ⟨w5.heap.size, 0, none⟩) (block_lt d0)).trans d0; replace d1 := (b2'.cell (p := ⟨w5.heap.size, 1, none⟩) (block_lt d1)).trans d1; replace e0 := (b2'.cell (p := ⟨w5.heap.size + 1, 0, none⟩) (block_lt e0)).trans e0; replace e1 := (b2'.cell (p := ⟨w5.heap.size + 1, 1, none⟩) (block_lt e1)).trans e1)))
        all_goals
          obtain ⟨_, pa0, pc0, rfl⟩ := p0.len
          obtain ⟨_, pa1, pc1, rfl⟩ := p1.len
        all_goals
          have ps0 := Lib.hid p0
          have ps1 := Lib.hid p1
          have B9 := Lib.hid C8
          clear p0 p1 fx fy C8 d0 d1 e0 e1
          go_wp2
          go_roundg R1
        case measure => exact hml.out
        case rel => exact ⟨R0, _, _, pc0, pc1, pa0, pa1, rfl, rfl, Lib.hid rfl, Lib.hid rfl, s0, s1, ps0, ps1, Nat.le_of_lt ct1'.out, hgg, B9.out⟩
    · have hks := bits_small hbt
      have hbt' : ¬ (64 : Int) < ((bitsN gk : Nat) : Int) := by omega
      generalize bitsN gk = bk at *
      clear hbt
      go_wp2_with fail
      (with_reducible refine hbl.out.mono ?_)
      rintro e wr ⟨rfl, rfl⟩
      by_cases h0 : lk = 0
      · have hgk := dlen_zero_iff' (hlk.out.symm.trans h0)
        have hr := Lib.hid (show LongI wr (.slice ax lx cx) (Nat.gcd m n) by rw [← hg.out, hgk, Nat.gcd_zero_right]; exact hx.out)
        have hz : ((lk : Int) == 0) = true := by simp [h0]
        clear h0 hgk
        go_wp2
        go_ret
        exact ⟨_, rfl, hr.out, bel⟩
      · have hz : ((lk : Int) == 0) = false := by simp; omega
        have hkp : 0 < gk := by
          rcases Nat.eq_zero_or_pos gk with h | h
          · exfalso; apply h0; rw [hlk.out, h, dlen_zero]
          · exact h
        have hdv := Lib.hid (divide_any _ _ x gk wr hx.out hk.out hkp (by rw [← hlx.out]; exact sx))
        have hml := Nat.mod_lt x hkp
        have hgg := Lib.hid (show Nat.gcd gk (x % gk) = Nat.gcd m n by rw [← hg.out, Nat.gcd_comm x gk, Nat.gcd_rec gk x, Nat.gcd_comm])
        have hcd := Lib.hid (fun W => commonDivisor_any gk (x % gk) W hks (by omega))
        have hlo := Lib.hid (fun W => longOf_any (Nat.gcd gk (x % gk)) W (Nat.lt_of_le_of_lt (Nat.gcd_le_left _ hkp) hks))
        have hr64 : x % gk < 18446744073709551616 := by omega
        have hr64' := Lib.hid hr64
        have hks' := Lib.hid hks
        rw [hgg.out] at hcd hlo
        generalize hrr : x % gk = rr at *
        replace hrr := Lib.hid hrr
        clear h0 hml hks hr64 hkp
        go_wp2_with (go_at_call 56; go_in)
        (with_reducible refine hdv.out.mono ?_)
        rintro e w8 ⟨q, r, rfl, hq, hr, b8⟩
        rw [hrr.out] at hr
        obtain ⟨_, qa, qc, rfl⟩ := hq.len
        obtain ⟨_, ra, rc, rfl⟩ := hr.len
        have hw1 := Lib.hid (window_zero _ gk w8 (hk.out.keep b8) hks'.out)
        have hw2 := Lib.hid (fun j => window_zero _ rr (w8.drewN j) (hr.keep (below_drewN (Below.refl _ _) j)) hr64'.out)
        have B8 := Lib.hid (below_wt bel b8)
        clear hq hr b8 hdv
        go_wp2_with fail
        (with_reducible refine hw1.out.mono ?_)
        rintro e w9 ⟨rfl, j1, rfl⟩
        go_wp2_with fail
        (with_reducible refine (hw2.out j1).mono ?_)
        rintro e w9 ⟨rfl, j2, rfl⟩
        go_wp2_with fail
        (with_reducible refine (hcd.out _).mono ?_)
        rintro e w9 ⟨rfl, j3, rfl⟩
        go_wp2_with fail
        (with_reducible refine (hlo.out _).mono ?_)
        rintro e w9 ⟨v9, rfl, hL9, b9⟩
        have hL9' := Lib.hid hL9
        have b9' := Lib.hid b9
        clear hL9 b9
        go_wp2
        go_ret
        exact ⟨_, rfl, hL9'.out, below_wt B8.out ((below_drewN (Below.refl _ w8) _).trans b9'.out)⟩

/-- the greatest common divisor -/
theorem divisor_any (a b : Value) (m n : Nat) (w : World) (ha : LongI w a m) (hb : LongI w b n) (sm : dlen W32 m ≤ 1000000000) (sn : dlen W32 n ≤ 1000000000) :
    Calls Try.prog 83 #[a, b] w fun e w' => ∃ v, e = .returned v ∧ LongI w' v (Nat.gcd m n) ∧ Below w.heap.size w w' := by
  rcases Nat.lt_or_ge m n with h | h
  · rw [Nat.gcd_comm]
    exact divisor_lt b a n m w hb ha h sn
  · exact divisor_ge a b m n w ha hb h sm
end Go.Proofs.Ytjkekhiceadpgaa
