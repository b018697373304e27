/- bitLen, over, commonDivisor and gap of the project. Conditions: at most 10^9 words; told by the code. -/
import Derived.Deep.RegionHeld3
import Derived.Test.YtjkekhiceadpgaaNum4
import Derived.Test.YtjkekhiceadpgaaWord11
namespace Go.Proofs.Ytjkekhiceadpgaa
open Go.RowKit Go.Deep
set_option linter.unusedVariables false

/-- how many bits a number has -/
def bitsN (n : Nat) : Nat := if n = 0 then 0 else 32 * dlen W32 n - (32 - Lib.bitLen (dgt W32 n (dlen W32 n - 1)))
theorem bitsN_zero : bitsN 0 = 0 := rfl
theorem bitsN_bounds {n : Nat} (h : 0 < n) : 1 ≤ bitsN n ∧ 2 ^ (bitsN n - 1) ≤ n ∧ n < 2 ^ bitsN n := by
  have hp := dlen_pos h
  have t0 := dgt_top w32 hp
  have hlt := lt_dlen w32 n
  obtain ⟨k, hk⟩ : ∃ k, dlen W32 n = k + 1 := ⟨dlen W32 n - 1, by omega⟩
  unfold bitsN
  rw [if_neg (by omega), hk, Nat.add_sub_cancel]
  rw [hk, Nat.add_sub_cancel] at t0
  rw [hk] at hlt
  have hpk := pow_pos' w32 k
  have ht : dgt W32 n k = n / W32 ^ k := by
    rw [dgt, Nat.mod_eq_of_lt]
    apply (Nat.div_lt_iff_lt_mul hpk).2
    rw [Nat.mul_comm W32, ← pow_succ']; exact hlt
  have t1 := dgt_lt w32 n k
  obtain ⟨b1, b2, b3⟩ := Lib.bitLenAux_bounds 64 (dgt W32 n k) (Nat.lt_trans t1 (by decide)) (by omega)
  have b4 := Lib.bitLen_le (dgt W32 n k) 32 (by omega) (by have e : W32 = 2 ^ 32 := rfl; rw [← e]; exact t1)
  change 1 ≤ Lib.bitLen (dgt W32 n k) at b1
  change 2 ^ (Lib.bitLen (dgt W32 n k) - 1) ≤ dgt W32 n k at b2
  change dgt W32 n k < 2 ^ Lib.bitLen (dgt W32 n k) at b3
  generalize Lib.bitLen (dgt W32 n k) = B at *
  rw [ht] at b2 b3
  have e0 : W32 ^ k = 2 ^ (32 * k) := by rw [show W32 = 2 ^ 32 by rfl, ← Nat.pow_mul]
  have h1 : n / W32 ^ k * W32 ^ k ≤ n := Nat.div_mul_le_self _ _
  have h2 : n < (n / W32 ^ k + 1) * W32 ^ k := by have := Nat.lt_mul_div_succ n hpk; rw [Nat.mul_comm]; exact this
  rw [show 32 * (k + 1) - (32 - B) = 32 * k + B by omega]
  refine ⟨by omega, ?_, ?_⟩
  · rw [show 32 * k + B - 1 = B - 1 + 32 * k by omega, Nat.pow_add, ← e0]
    exact Nat.le_trans (Nat.mul_le_mul_right _ b2) h1
  · rw [Nat.add_comm, Nat.pow_add, ← e0]
    exact Nat.lt_of_lt_of_le h2 (Nat.mul_le_mul_right _ b3)
theorem bitsN_le {n : Nat} : bitsN n ≤ 32 * dlen W32 n := by unfold bitsN; split <;> omega
theorem bitsN_mono {m n : Nat} (h : m ≤ n) : bitsN m ≤ bitsN n := by
  rcases Nat.eq_zero_or_pos m with rfl | h0
  · rw [bitsN_zero]; exact Nat.zero_le _
  · obtain ⟨a1, a2, a3⟩ := bitsN_bounds h0
    obtain ⟨b1, b2, b3⟩ := bitsN_bounds (show 0 < n by omega)
    by_cases c : bitsN m ≤ bitsN n
    · exact c
    · have := Nat.pow_le_pow_right (n := 2) (by omega) (show bitsN n ≤ bitsN m - 1 by omega)
      omega

set_option maxHeartbeats 2000000 in
theorem bitLen_any (a : Value) (n : Nat) (w : World) (ha : LongI w a n) (sm : dlen W32 n ≤ 1000000000) :
    Calls Try.prog 107 #[a] w fun e w' => e = .returned (.int .i64 (bitsN n : Nat)) ∧ w' = w := by
  rcases Nat.eq_zero_or_pos n with rfl | h
  · obtain ⟨hm1, a1, cap1, rfl⟩ := ha.len
    rw [dlen_zero]
    go_enter Try.func107, Try.ntmps107
    go_wp2
    go_ret
    exact ⟨rfl, rfl⟩
  · have hp := dlen_pos h
    obtain ⟨b2, o2, cap2, rfl, hb2, hcell⟩ := ha.at hp
    have t0 := dgt_top w32 hp
    have q0 := hcell (dlen W32 n - 1) (by omega)
    have hlz := Lib.hid (fun W => lz_any (dgt W32 n (dlen W32 n - 1)) W (Nat.pos_of_ne_zero t0) (dgt_lt w32 n _))
    have hb : bitsN n = 32 * dlen W32 n - (32 - Lib.bitLen (dgt W32 n (dlen W32 n - 1))) := by unfold bitsN; rw [if_neg (by omega)]
    have hb2 : 32 - Lib.bitLen (dgt W32 n (dlen W32 n - 1)) ≤ 32 := by omega
    obtain ⟨k, hk⟩ : ∃ k, dlen W32 n = k + 1 := ⟨dlen W32 n - 1, by omega⟩
    rw [hk, Nat.add_sub_cancel] at q0 hlz hb hb2
    rw [hk] at sm ⊢
    generalize 32 - Lib.bitLen (dgt W32 n k) = s at *
    generalize dgt W32 n k = top at *
    have hr : ((k : Int) + 1) * 32 - (s : Int) = ((bitsN n : Nat) : Int) := by rw [hb]; omega
    have hk1 : ((k : Int) + 1) - 1 = (k : Int) := by omega
    clear hb hcell ha t0 hk
    generalize bitsN n = R at *
    go_enter Try.func107, Try.ntmps107
    go_wp2_with (first | (go_at_call 132; ((with_reducible refine (hlz.out _).mono ?_); rintro e w' ⟨rfl, rfl⟩)) | go_in)
    go_ret
    exact ⟨rfl, rfl⟩

set_option maxHeartbeats 2000000 in
theorem over_any (a b : Value) (m d : Nat) (w : World) (ha : LongI w a m) (hb : LongI w b d) (hd : 0 < d) (sm : dlen W32 m ≤ 1000000000) :
    Calls Try.prog 82 #[a, b] w fun e w' => ∃ v, e = .returned v ∧ LongI w' v (m / d) ∧ Below w.heap.size w w' := by
  have hdv := divide_any a b m d w ha hb hd sm
  obtain ⟨hm1, a1, cap1, rfl⟩ := ha.len
  obtain ⟨hm2, a2, cap2, rfl⟩ := hb.len
  have hdv' := Lib.hid hdv
  clear hdv ha hb
  go_enter Try.func82, Try.ntmps82
  go_wp2_with fail
  (with_reducible refine hdv'.out.mono ?_)
  rintro e w1 ⟨q, r, rfl, hq, hr, bel⟩
  have hq' := Lib.hid hq
  clear hq hr
  go_wp2
  go_ret
  exact ⟨_, rfl, hq'.out, bel⟩

set_option maxHeartbeats 2000000 in
theorem commonDivisor_any (x y : Nat) (w : World) (hx : x < 18446744073709551616) (hy : y < 18446744073709551616) :
    Calls Try.prog 111 #[.int .u64 (x : Int), .int .u64 (y : Int)] w fun e w' => e = .returned (.int .u64 (Nat.gcd x y : Nat)) ∧ ∃ k, w' = w.drewN k := by
  go_enter Try.func111, Try.ntmps111
  go_wp2
  go_loopw [0, 1] (fun xv yv wr => ∃ a b j : Nat, xv = .int .u64 (a : Int) ∧ yv = .int .u64 (b : Int) ∧ a < 18446744073709551616 ∧ b < 18446744073709551616 ∧ wr = w.drewN j ∧ Hid (Nat.gcd a b = Nat.gcd x y)) (fun _ yv _ => (intOf yv).toNat)
  case atStart => exact ⟨x, y, 0, rfl, rfl, hx, hy, rfl, Lib.hid rfl⟩
  case round =>
    obtain ⟨a, b, j, rfl, rfl, ha, hb, rfl, hg⟩ := hrel
    rcases Nat.eq_zero_or_pos b with rfl | hpos
    · have hr := Lib.hid (show a = Nat.gcd x y by rw [← hg.out, Nat.gcd_zero_right])
      go_wp2
      go_ret
      exact ⟨by rw [← hr.out]; rfl, _, rfl⟩
    · have hgg := Lib.hid (show Nat.gcd b (a % b) = Nat.gcd x y by rw [← hg.out, Nat.gcd_comm a b, Nat.gcd_rec b a, Nat.gcd_comm])
      have hml := Nat.mod_lt a hpos
      have e1 : (a : Int) % (b : Int) = ((a % b : Nat) : Int) := rfl
      have e2 : (a : Int).tmod (b : Int) = ((a % b : Nat) : Int) := by rw [Int.tmod_eq_emod_of_nonneg (by omega)]; rfl
      have z0 : ((b : Int) == 0) = false := by simp; omega
      have z1 : ¬ (b : Int) = 0 := by omega
      have hp : (0 : Int) < (b : Int) := by omega
      generalize a % b = r at *
      have e3 : IntKind.u64.wrap (r : Int) = (r : Int) := by rw [IntKind.wrap_u64]; omega
      clear hpos
      go_wp2
      go_quiet (fail)
      go_wp2
      go_roundw
      case rel => exact ⟨b, r, _, rfl, rfl, hb, by omega, by first | rfl | rw [World.drewN_drewN], hgg⟩
      case measure => simp [intOf]; omega

theorem times_len' {x a L : Nat} (ha : a < 18446744073709551616) (sx : dlen W32 x ≤ L) : dlen W32 (x * a) ≤ L + 3 := by
  apply dlen_le w32
  have h1 := lt_of_dlen w32 sx
  have h2 : a ≤ W32 ^ 3 := Nat.le_trans (Nat.le_of_lt ha) (by decide)
  rw [Nat.pow_add]
  exact Nat.lt_of_lt_of_le (Nat.mul_lt_mul_of_lt_of_le h1 h2 (pow_pos' w32 3)) (Nat.le_refl _)
theorem times_len {x a : Nat} (ha : a < 18446744073709551616) (sx : dlen W32 x ≤ 1000000000) : dlen W32 (x * a) ≤ 1000000003 := times_len' ha sx
theorem small_len {a : Nat} (ha : a < 18446744073709551616) : dlen W32 a ≤ 2 := dlen_le w32 (by
  have : W32 ^ 2 = 18446744073709551616 := by decide
  omega)

/-- by how much the greater one is greater -/
def gapL (m n : Nat) : Nat := if m < n then n - m else m - n
/-- what the remainder's gap returns -/
def gapN (x y a b : Nat) : Nat := if x * a < y * b then y * b - x * a else x * a - y * b

set_option maxHeartbeats 4000000 in
theorem gapL_any (xv yv : Value) (m n : Nat) (w : World) (hx : LongI w xv m) (hy : LongI w yv n) (sx : dlen W32 m ≤ 1000000000000) (sy : dlen W32 n ≤ 1000000000000) :
    Calls Try.prog 136 #[xv, yv] w fun e w' => ∃ v, e = .returned v ∧ LongI w' v (gapL m n) ∧ Below w.heap.size w w' := by
  have hcm := Lib.hid (compare_any _ _ _ _ w hx hy)
  obtain ⟨_, p1, k1, rfl⟩ := hx.len
  obtain ⟨_, p2, k2, rfl⟩ := hy.len
  have hg : gapL m n = if m < n then n - m else m - n := rfl
  by_cases hlt : m < n
  · rw [if_pos hlt] at hg
    rw [cmpI_lt hlt] at hcm
    have hm := Lib.hid (fun j => minus_any _ _ n m (w.drewN j) (hy.keep (below_drewN (Below.refl _ _) j)) (hx.keep (below_drewN (Below.refl _ _) j)) (Nat.le_of_lt hlt) sy)
    have hg' := Lib.hid hg
    clear hx hy hlt hg sx sy
    go_enter Try.func136, Try.ntmps136
    go_wp2_with fail
    (with_reducible refine hcm.out.mono ?_)
    rintro e w2 ⟨rfl, j, rfl⟩
    go_wp2_with fail
    (with_reducible refine (hm.out j).mono ?_)
    rintro e w3 ⟨v, rfl, hv, b6⟩
    have hv' := Lib.hid hv
    clear hv
    go_wp2
    go_ret
    exact ⟨_, rfl, by rw [hg'.out]; exact hv'.out, below_wt (below_drewN (Below.refl _ _) j) b6⟩
  · rw [if_neg hlt] at hg
    obtain ⟨c, hc1, hc2⟩ : ∃ c : Int, cmpI m n = c ∧ ¬ c < 0 := ⟨_, rfl, by unfold cmpI; rw [if_neg hlt]; split <;> omega⟩
    rw [hc1] at hcm
    have hm := Lib.hid (fun j => minus_any _ _ m n (w.drewN j) (hx.keep (below_drewN (Below.refl _ _) j)) (hy.keep (below_drewN (Below.refl _ _) j)) (by omega) sx)
    have hg' := Lib.hid hg
    clear hx hy hlt hg hc1 sx sy
    go_enter Try.func136, Try.ntmps136
    go_wp2_with fail
    (with_reducible refine hcm.out.mono ?_)
    rintro e w2 ⟨rfl, j, rfl⟩
    go_wp2_with fail
    (with_reducible refine (hm.out j).mono ?_)
    rintro e w3 ⟨v, rfl, hv, b6⟩
    have hv' := Lib.hid hv
    clear hv
    go_wp2
    go_ret
    exact ⟨_, rfl, by rw [hg'.out]; exact hv'.out, below_wt (below_drewN (Below.refl _ _) j) b6⟩

set_option maxRecDepth 100000 in
set_option maxHeartbeats 4000000 in
theorem gap_any (xv yv : Value) (x y a b : Nat) (w : World) (hx : LongI w xv x) (hy : LongI w yv y) (ha : a < 18446744073709551616) (hb : b < 18446744073709551616) (sx : dlen W32 x ≤ 1000000000) (sy : dlen W32 y ≤ 1000000000) :
    Calls Try.prog 110 #[.agg #[.int .u64 (a : Int), .int .u64 (b : Int)], xv, yv] w fun e w' => ∃ v, e = .returned v ∧ LongI w' v (gapN x y a b) ∧ Below w.heap.size w w' := by
  obtain ⟨hm1, a1, cap1, rfl⟩ := hx.len
  obtain ⟨hm2, a2, cap2, rfl⟩ := hy.len
  have fx := (hx.keep (below1 w (.cells #[.int .u64 (a : Int), .int .u64 (b : Int)] 170))).keep ((Below.refl _ _).drew)
  have fy := (hy.keep (below1 w (.cells #[.int .u64 (a : Int), .int .u64 (b : Int)] 170))).keep ((Below.refl _ _).drew)
  have bel : Below w.heap.size w (w.alloc (.cells #[.int .u64 (a : Int), .int .u64 (b : Int)] 170)).drew := (below1 w _).drew
  have hZ := (Blk.new w #[.int .u64 (a : Int), .int .u64 (b : Int)] 170)
  have c0 : (w.alloc (.cells #[.int .u64 (a : Int), .int .u64 (b : Int)] 170)).drew.cell? ⟨w.heap.size, 0, none⟩ = some (.int .u64 (a : Int)) := hZ.cell 0
  have c1 : (w.alloc (.cells #[.int .u64 (a : Int), .int .u64 (b : Int)] 170)).drew.cell? ⟨w.heap.size, 1, none⟩ = some (.int .u64 (b : Int)) := hZ.cell 1
  have sa := times_len ha sx
  have sb := times_len hb sy
  have sxa : dlen W32 (x * a) ≤ 1000000000000 := by omega
  have syb : dlen W32 (y * b) ≤ 1000000000000 := by omega
  clear hx hy hZ
  go_enter Try.func110, Try.ntmps110
  go_wp2
  generalize hW : w.alloc _ = W at *
  clear hW
  go_cut [6] (fun s1 wx => ∃ (p : Option Addr) (n k : Nat), s1 = .slice p n k ∧ LongI wx (.slice p n k) (gapN x y a b) ∧ Below w.heap.size w wx)
  case first =>
    go_region_held3 (fun w' => w'.cell? ⟨w.heap.size, 0, none⟩ = some (.int .u64 (a : Int)) ∧ w'.cell? ⟨w.heap.size, 1, none⟩ = some (.int .u64 (b : Int)))
      (go_keep)
      (first
        | (go_at_call 136; ((with_reducible refine (gapL_any _ _ (x * a) (y * b) _ ta tb sxa syb).mono ?_); rintro e u5 ⟨rg, rfl, tg, b5⟩; replace bel := below_wt bel b5; replace c0 := (b5.cell (p := ⟨w.heap.size, 0, none⟩) (block_lt c0)).trans c0; replace c1 := (b5.cell (p := ⟨w.heap.size, 1, none⟩) (block_lt c1)).trans c1))
        | (go_at_call_of 81 (Value.int IntKind.u64 (a : Int)); ((with_reducible refine (longOf_any a _ ha).mono ?_); rintro e u1 ⟨va, rfl, pa, b1⟩; replace fx := fx.keep b1; replace fy := fy.keep b1; (try replace pb := pb.keep b1); (try replace tb := tb.keep b1); replace bel := below_wt bel b1; replace c0 := (b1.cell (p := ⟨w.heap.size, 0, none⟩) (block_lt c0)).trans c0; replace c1 := (b1.cell (p := ⟨w.heap.size, 1, none⟩) (block_lt c1)).trans c1))
        | (go_at_call_of 81 (Value.int IntKind.u64 (b : Int)); ((with_reducible refine (longOf_any b _ hb).mono ?_); rintro e u2 ⟨vb, rfl, pb, b2⟩; replace fx := fx.keep b2; replace fy := fy.keep b2; (try replace pa := pa.keep b2); (try replace ta := ta.keep b2); replace bel := below_wt bel b2; replace c0 := (b2.cell (p := ⟨w.heap.size, 0, none⟩) (block_lt c0)).trans c0; replace c1 := (b2.cell (p := ⟨w.heap.size, 1, none⟩) (block_lt c1)).trans c1))
        | (go_at_call 84; first
            | ((with_reducible refine (times_any _ _ x a _ fx pa (by omega) (by have := small_len ha; omega)).mono ?_); rintro e u3 ⟨ra, rfl, ta, b3⟩; replace fx := fx.keep b3; replace fy := fy.keep b3; replace pa := pa.keep b3; (try replace pb := pb.keep b3); (try replace tb := tb.keep b3); replace bel := below_wt bel b3; replace c0 := (b3.cell (p := ⟨w.heap.size, 0, none⟩) (block_lt c0)).trans c0; replace c1 := (b3.cell (p := ⟨w.heap.size, 1, none⟩) (block_lt c1)).trans c1)
            | ((with_reducible refine (times_any _ _ y b _ fy pb (by omega) (by have := small_len hb; omega)).mono ?_); rintro e u4 ⟨rb, rfl, tb, b4⟩; replace fx := fx.keep b4; replace fy := fy.keep b4; replace pb := pb.keep b4; (try replace pa := pa.keep b4); (try replace ta := ta.keep b4); replace bel := below_wt bel b4; replace c0 := (b4.cell (p := ⟨w.heap.size, 0, none⟩) (block_lt c0)).trans c0; replace c1 := (b4.cell (p := ⟨w.heap.size, 1, none⟩) (block_lt c1)).trans c1)))
    all_goals (go_wp2_with fail; go_meet)
    all_goals
      obtain ⟨_, pg, kg, rfl⟩ := tg.len
      exact ⟨pg, _, kg, rfl, tg, bel⟩
  case rest =>
    obtain ⟨p, n, k, rfl, hv, bel2⟩ := hcut
    have hv' := Lib.hid hv
    clear hv fx fy c0 c1
    go_wp2
    go_ret
    exact ⟨_, rfl, hv'.out, bel2⟩
end Go.Proofs.Ytjkekhiceadpgaa
