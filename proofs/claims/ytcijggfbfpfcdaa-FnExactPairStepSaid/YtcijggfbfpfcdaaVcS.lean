/- ValidCoupled of the specification. Conditions: none. -/
import Derived.Test.YtcijggfbfpfcdaaVc
namespace Go.Proofs.Ytcijggfbfpfcdaa
open Go.RowKit Go.Deep
set_option linter.unusedVariables false

def psum (row : List Int) (f : Nat → Nat) (k : Nat) : Int := (List.range k).foldl (fun s v => s + row.getD (f v) 0) 0
theorem psum_succ (row : List Int) (f : Nat → Nat) (k : Nat) : psum row f (k + 1) = psum row f k + row.getD (f k) 0 := by unfold psum; rw [List.range_succ, List.foldl_append]; rfl
theorem margL_at (row : List Int) (N u : Nat) (hu : u < N) : (margL row N).getD u 0 = psum row (fun v => u * N + v) N := by simp [margL, psum, List.getD, hu]
theorem margR_at (row : List Int) (N u : Nat) (hu : u < N) : (margR row N).getD u 0 = psum row (fun v => v * N + u) N := by simp [margR, psum, List.getD, hu]

set_option maxRecDepth 100000 in
set_option maxHeartbeats 8000000 in
theorem marginalL_any (bc bm : Nat) (c m : Ch) (v : Value) (row : List Int) (N s : Nat) (w : World) (hc : ChP w bc c) (hm : ChP w bm m) (hv : Ints w v row) (oc : chOk c = true) (hN : c.w.length = N) (hN1 : 1 ≤ N) (hN4 : N ≤ 4) (hrl : row.length = N * N)
    (hbd : ∀ y ∈ row, 0 ≤ y ∧ y ≤ 3600) (hs : s < N) (m1 : 1 ≤ m.t) (m2 : m.t ≤ 3600) :
    Calls Try.prog 31 #[.pointer (some ⟨bc, 0, none⟩), .pointer (some ⟨bm, 0, none⟩), v, .int .i64 (s : Int), .bool true] w fun e w' => e = .returned (.bool (like c s (margL row N) m.t)) ∧ ∃ k, w' = w.drewN k := by
  obtain ⟨n1, n2, t1, t2, hlen, -⟩ := chOk_all oc
  have hcn : c.n = (N : Int) := by omega
  obtain ⟨cv, c0, c1, c2, R⟩ := hc
  obtain ⟨mv, -, d1, -, -⟩ := hm
  obtain ⟨gb, goff, gcap, rfl, hG0⟩ := gridI R hN (by omega) (fun i hi => (chOk_cells oc (s := i) (t := i) (by omega) (by omega)).1.trans hN)
  obtain ⟨rb, ro, rc, g1, g2⟩ := hG0 s hs
  obtain ⟨xb, xo, xc, rfl, -, hcx⟩ := hv.at (by rw [hrl]; exact Nat.mul_pos hN1 hN1)
  have hX := Lib.hid hcx
  have hY := Lib.hid g2
  have hce := Lib.hid (fun t (ht : t < N) => (chOk_cells oc (s := s) (t := t) (by omega) (by omega)).2)
  have hdef := Lib.hid (show like c s (margL row N) m.t = (List.range N).all fun u => decide ((margL row N).getD u 0 * c.t = (c.w.getD s []).getD u 0 * m.t) by unfold like; rw [margL_len])
  have hat := Lib.hid (fun u hu => margL_at row N u hu)
  have hmb := Lib.hid (fun u hu => (marg_bd hN4 hbd (u := u) hu).1)
  have hrb := Lib.hid (show ∀ k, k < N * N → 0 ≤ row.getD k 0 ∧ row.getD k 0 ≤ 3600 from fun k hk => hbd _ (getD_mem (by omega)))
  have hidx := Lib.hid (show ∀ p q, p < N → q < N → p * N + q < N * N from fun p q hp hq => num_lt hp hq)
  have hXl := Lib.hid hrl
  have hM16 : N * N ≤ 16 := Nat.mul_le_mul hN4 hN4
  rw [hcn] at c0
  obtain ⟨M, hM⟩ : ∃ M, N * N = M := ⟨_, rfl⟩
  rw [hM] at hrb hidx hXl hM16
  rw [hXl.out]
  generalize c.t = ct at *
  generalize m.t = mt at *
  clear hcx g2 hG0 R oc hlen hcn hN hv hrl hM hbd
  have j0 : (s : Int) < (N : Int) := by omega
  go_enter Try.func31, Try.ntmps31
  go_wp2
  go_loopw [11] (fun i wr => ∃ u : Nat, u ≤ N ∧ i = .int .i64 u ∧ Hid (∃ j, wr = w.drewN j) ∧ Hid ((List.range u).all (fun u => decide ((margL row N).getD u 0 * ct = (c.w.getD s []).getD u 0 * mt)) = true)) (fun i _ => N - (intOf i).toNat)
  case atStart => exact ⟨0, Nat.zero_le _, rfl, ⟨0, rfl⟩, show _ = _ by simp⟩
  case round =>
    obtain ⟨wo, hwo⟩ : ∃ wo : World, wo = wr := ⟨_, rfl⟩
    subst hwo
    obtain ⟨u, hu, rfl, hw, hall⟩ := hrel
    have k0 : wo.cell? ⟨bc, 0, none⟩ = some (.int .i64 (N : Int)) := by obtain ⟨j, rfl⟩ := hw.out; exact c0
    by_cases hult : u < N
    · have i1 : (u : Int) < (N : Int) := by omega
      go_wp2
      go_loopw [12, 13] (fun a j wr => ∃ (q : Nat) (A : Int), q ≤ N ∧ j = .int .i64 q ∧ a = .int .i64 A ∧ 0 ≤ A ∧ A ≤ 3600 * (q : Int) ∧ Hid (A = psum row (fun v => u * N + v) q) ∧ wr = wo) (fun _ j _ => N - (intOf j).toNat)
      case atStart => exact ⟨0, 0, Nat.zero_le _, rfl, rfl, by omega, by omega, show _ = _ by simp [psum], rfl⟩
      case round =>
        obtain ⟨q, A, hq, rfl, rfl, a1, a2, hA, rfl⟩ := hrel
        by_cases hqlt : q < N
        · have i2 : (q : Int) < (N : Int) := by omega
          have hkM := hidx.out u q hult hqlt
          have hx1 := hX.out (u * N + q) (by rw [hXl.out]; exact hkM)
          have hx2 : wr.cell? ⟨xb, xo + (u * N + q), none⟩ = some (.int .i64 (row.getD (u * N + q) 0)) := by obtain ⟨j, rfl⟩ := hw.out; exact hx1
          obtain ⟨y1, y2⟩ := hrb.out _ hkM
          have hps := Lib.hid (psum_succ row (fun v => u * N + v) q)
          obtain ⟨p, hp0⟩ : ∃ p, u * N = p := ⟨_, rfl⟩
          have hp : (u : Int) * (N : Int) = (p : Int) := by rw [← hp0, Int.natCast_mul]
          obtain ⟨Z, hZ⟩ : ∃ Z, psum row (fun v => u * N + v) (q + 1) = Z := ⟨_, rfl⟩
          have hsum := Lib.hid (show A + row.getD (u * N + q) 0 = Z by rw [← hZ, hps.out, ← hA.out])
          have hZh := Lib.hid hZ
          rw [hp0] at hx2 hkM y1 y2 hsum
          generalize row.getD (p + q) 0 = y at *
          have i3 : (p : Int) + (q : Int) < (M : Int) := by omega
          clear hx1 hp0 hps hZ
          go_wp2
          go_roundw
          case rel => exact ⟨q + 1, A + y, by omega, by go_num, rfl, by omega, by omega, hsum.out.trans hZh.out.symm, by first | rfl | trivial⟩
          case measure => simp [intOf]; omega
        · obtain rfl : q = N := by omega
          have hA2 := Lib.hid (show A = (margL row q).getD u 0 by rw [hA.out]; exact (hat.out u hult).symm)
          obtain ⟨y1, y2⟩ := hce.out u hult
          obtain ⟨x1, x2⟩ := hmb.out u hult
          have q1 : wr.cell? ⟨bc, 1, none⟩ = some (.int .i64 ct) := by obtain ⟨j, rfl⟩ := hw.out; exact c1
          have q2 : wr.cell? ⟨bc, 2, none⟩ = some (.slice (some ⟨gb, goff, none⟩) q gcap) := by obtain ⟨j, rfl⟩ := hw.out; exact c2
          have q3 : wr.cell? ⟨gb, goff + s, none⟩ = some (.slice (some ⟨rb, ro, none⟩) q rc) := by obtain ⟨j, rfl⟩ := hw.out; exact g1
          have q4 : wr.cell? ⟨rb, ro + u, none⟩ = some (.int .i64 ((c.w.getD s []).getD u 0)) := by obtain ⟨j, rfl⟩ := hw.out; exact hY.out u hult
          have q5 : wr.cell? ⟨bm, 1, none⟩ = some (.int .i64 mt) := by obtain ⟨j, rfl⟩ := hw.out; exact d1
          have hyes := Lib.hid (fun h => rngAll_succ (f := fun u => decide ((margL row q).getD u 0 * ct = (c.w.getD s []).getD u 0 * mt)) hall.out (k := u) h)
          have hno := Lib.hid (fun h => hdef.out.trans (rngAll_no (f := fun u => decide ((margL row q).getD u 0 * ct = (c.w.getD s []).getD u 0 * mt)) hult h))
          rw [← hA2.out] at x1 x2 hyes hno
          generalize (c.w.getD s []).getD u 0 = y at *
          obtain ⟨u1, u2⟩ := mul_bd3 x1 x2 (show 0 ≤ ct by omega) t2 (by decide)
          obtain ⟨u3, u4⟩ := mul_bd3 y1 y2 (show 0 ≤ mt by omega) m2 (by decide)
          by_cases he : A * ct = y * mt
          · have he' : (A * ct != y * mt) = false := by simpa using he
            have hn2 := Lib.hid (hyes.out (decide_eq_true he))
            clear he
            go_wp2
            go_quiet (fail)
            go_wp2
            go_roundw
            case rel => exact ⟨u + 1, by omega, by go_num, drawn_more hw.out _, hn2⟩
            case measure => simp [intOf]; omega
          · have he' : (A * ct != y * mt) = true := by simpa using he
            have hfin := Lib.hid (hno.out (decide_eq_false he))
            clear he
            go_wp2
            go_quiet (fail)
            go_wp2
            go_ret
            exact ⟨ret_bool hfin.out.symm, drawn_more hw.out _⟩
    · obtain rfl : u = N := by omega
      have hfin := Lib.hid (hdef.out.trans hall.out)
      go_wp2
      go_ret
      exact ⟨ret_bool hfin.out.symm, hw.out⟩

set_option maxRecDepth 100000 in
set_option maxHeartbeats 8000000 in
theorem marginalR_any (bc bm : Nat) (c m : Ch) (v : Value) (row : List Int) (N s : Nat) (w : World) (hc : ChP w bc c) (hm : ChP w bm m) (hv : Ints w v row) (oc : chOk c = true) (hN : c.w.length = N) (hN1 : 1 ≤ N) (hN4 : N ≤ 4) (hrl : row.length = N * N)
    (hbd : ∀ y ∈ row, 0 ≤ y ∧ y ≤ 3600) (hs : s < N) (m1 : 1 ≤ m.t) (m2 : m.t ≤ 3600) :
    Calls Try.prog 31 #[.pointer (some ⟨bc, 0, none⟩), .pointer (some ⟨bm, 0, none⟩), v, .int .i64 (s : Int), .bool false] w fun e w' => e = .returned (.bool (like c s (margR row N) m.t)) ∧ ∃ k, w' = w.drewN k := by
  obtain ⟨n1, n2, t1, t2, hlen, -⟩ := chOk_all oc
  have hcn : c.n = (N : Int) := by omega
  obtain ⟨cv, c0, c1, c2, R⟩ := hc
  obtain ⟨mv, -, d1, -, -⟩ := hm
  obtain ⟨gb, goff, gcap, rfl, hG0⟩ := gridI R hN (by omega) (fun i hi => (chOk_cells oc (s := i) (t := i) (by omega) (by omega)).1.trans hN)
  obtain ⟨rb, ro, rc, g1, g2⟩ := hG0 s hs
  obtain ⟨xb, xo, xc, rfl, -, hcx⟩ := hv.at (by rw [hrl]; exact Nat.mul_pos hN1 hN1)
  have hX := Lib.hid hcx
  have hY := Lib.hid g2
  have hce := Lib.hid (fun t (ht : t < N) => (chOk_cells oc (s := s) (t := t) (by omega) (by omega)).2)
  have hdef := Lib.hid (show like c s (margR row N) m.t = (List.range N).all fun u => decide ((margR row N).getD u 0 * c.t = (c.w.getD s []).getD u 0 * m.t) by unfold like; rw [margR_len])
  have hat := Lib.hid (fun u hu => margR_at row N u hu)
  have hmb := Lib.hid (fun u hu => (marg_bd hN4 hbd (u := u) hu).2)
  have hrb := Lib.hid (show ∀ k, k < N * N → 0 ≤ row.getD k 0 ∧ row.getD k 0 ≤ 3600 from fun k hk => hbd _ (getD_mem (by omega)))
  have hidx := Lib.hid (show ∀ p q, p < N → q < N → p * N + q < N * N from fun p q hp hq => num_lt hp hq)
  have hXl := Lib.hid hrl
  have hM16 : N * N ≤ 16 := Nat.mul_le_mul hN4 hN4
  rw [hcn] at c0
  obtain ⟨M, hM⟩ : ∃ M, N * N = M := ⟨_, rfl⟩
  rw [hM] at hrb hidx hXl hM16
  rw [hXl.out]
  generalize c.t = ct at *
  generalize m.t = mt at *
  clear hcx g2 hG0 R oc hlen hcn hN hv hrl hM hbd
  have j0 : (s : Int) < (N : Int) := by omega
  go_enter Try.func31, Try.ntmps31
  go_wp2
  go_loopw [11] (fun i wr => ∃ u : Nat, u ≤ N ∧ i = .int .i64 u ∧ Hid (∃ j, wr = w.drewN j) ∧ Hid ((List.range u).all (fun u => decide ((margR row N).getD u 0 * ct = (c.w.getD s []).getD u 0 * mt)) = true)) (fun i _ => N - (intOf i).toNat)
  case atStart => exact ⟨0, Nat.zero_le _, rfl, ⟨0, rfl⟩, show _ = _ by simp⟩
  case round =>
    obtain ⟨wo, hwo⟩ : ∃ wo : World, wo = wr := ⟨_, rfl⟩
    subst hwo
    obtain ⟨u, hu, rfl, hw, hall⟩ := hrel
    have k0 : wo.cell? ⟨bc, 0, none⟩ = some (.int .i64 (N : Int)) := by obtain ⟨j, rfl⟩ := hw.out; exact c0
    by_cases hult : u < N
    · have i1 : (u : Int) < (N : Int) := by omega
      go_wp2
      go_loopw [12, 13] (fun a j wr => ∃ (q : Nat) (A : Int), q ≤ N ∧ j = .int .i64 q ∧ a = .int .i64 A ∧ 0 ≤ A ∧ A ≤ 3600 * (q : Int) ∧ Hid (A = psum row (fun v => v * N + u) q) ∧ wr = wo) (fun _ j _ => N - (intOf j).toNat)
      case atStart => exact ⟨0, 0, Nat.zero_le _, rfl, rfl, by omega, by omega, show _ = _ by simp [psum], rfl⟩
      case round =>
        obtain ⟨q, A, hq, rfl, rfl, a1, a2, hA, rfl⟩ := hrel
        by_cases hqlt : q < N
        · have i2 : (q : Int) < (N : Int) := by omega
          have hkM := hidx.out q u hqlt hult
          have hx1 := hX.out (q * N + u) (by rw [hXl.out]; exact hkM)
          have hx2 : wr.cell? ⟨xb, xo + (q * N + u), none⟩ = some (.int .i64 (row.getD (q * N + u) 0)) := by obtain ⟨j, rfl⟩ := hw.out; exact hx1
          obtain ⟨y1, y2⟩ := hrb.out _ hkM
          have hps := Lib.hid (psum_succ row (fun v => v * N + u) q)
          obtain ⟨p, hp0⟩ : ∃ p, q * N = p := ⟨_, rfl⟩
          have hp : (q : Int) * (N : Int) = (p : Int) := by rw [← hp0, Int.natCast_mul]
          obtain ⟨Z, hZ⟩ : ∃ Z, psum row (fun v => v * N + u) (q + 1) = Z := ⟨_, rfl⟩
          have hsum := Lib.hid (show A + row.getD (q * N + u) 0 = Z by rw [← hZ, hps.out, ← hA.out])
          have hZh := Lib.hid hZ
          rw [hp0] at hx2 hkM y1 y2 hsum
          generalize row.getD (p + u) 0 = y at *
          have i3 : (p : Int) + (u : Int) < (M : Int) := by omega
          clear hx1 hp0 hps hZ
          go_wp2
          go_roundw
          case rel => exact ⟨q + 1, A + y, by omega, by go_num, rfl, by omega, by omega, hsum.out.trans hZh.out.symm, by first | rfl | trivial⟩
          case measure => simp [intOf]; omega
        · obtain rfl : q = N := by omega
          have hA2 := Lib.hid (show A = (margR row q).getD u 0 by rw [hA.out]; exact (hat.out u hult).symm)
          obtain ⟨y1, y2⟩ := hce.out u hult
          obtain ⟨x1, x2⟩ := hmb.out u hult
          have q1 : wr.cell? ⟨bc, 1, none⟩ = some (.int .i64 ct) := by obtain ⟨j, rfl⟩ := hw.out; exact c1
          have q2 : wr.cell? ⟨bc, 2, none⟩ = some (.slice (some ⟨gb, goff, none⟩) q gcap) := by obtain ⟨j, rfl⟩ := hw.out; exact c2
          have q3 : wr.cell? ⟨gb, goff + s, none⟩ = some (.slice (some ⟨rb, ro, none⟩) q rc) := by obtain ⟨j, rfl⟩ := hw.out; exact g1
          have q4 : wr.cell? ⟨rb, ro + u, none⟩ = some (.int .i64 ((c.w.getD s []).getD u 0)) := by obtain ⟨j, rfl⟩ := hw.out; exact hY.out u hult
          have q5 : wr.cell? ⟨bm, 1, none⟩ = some (.int .i64 mt) := by obtain ⟨j, rfl⟩ := hw.out; exact d1
          have hyes := Lib.hid (fun h => rngAll_succ (f := fun u => decide ((margR row q).getD u 0 * ct = (c.w.getD s []).getD u 0 * mt)) hall.out (k := u) h)
          have hno := Lib.hid (fun h => hdef.out.trans (rngAll_no (f := fun u => decide ((margR row q).getD u 0 * ct = (c.w.getD s []).getD u 0 * mt)) hult h))
          rw [← hA2.out] at x1 x2 hyes hno
          generalize (c.w.getD s []).getD u 0 = y at *
          obtain ⟨u1, u2⟩ := mul_bd3 x1 x2 (show 0 ≤ ct by omega) t2 (by decide)
          obtain ⟨u3, u4⟩ := mul_bd3 y1 y2 (show 0 ≤ mt by omega) m2 (by decide)
          by_cases he : A * ct = y * mt
          · have he' : (A * ct != y * mt) = false := by simpa using he
            have hn2 := Lib.hid (hyes.out (decide_eq_true he))
            clear he
            go_wp2
            go_quiet (fail)
            go_wp2
            go_roundw
            case rel => exact ⟨u + 1, by omega, by go_num, drawn_more hw.out _, hn2⟩
            case measure => simp [intOf]; omega
          · have he' : (A * ct != y * mt) = true := by simpa using he
            have hfin := Lib.hid (hno.out (decide_eq_false he))
            clear he
            go_wp2
            go_quiet (fail)
            go_wp2
            go_ret
            exact ⟨ret_bool hfin.out.symm, drawn_more hw.out _⟩
    · obtain rfl : u = N := by omega
      have hfin := Lib.hid (hdef.out.trans hall.out)
      go_wp2
      go_ret
      exact ⟨ret_bool hfin.out.symm, hw.out⟩
end Go.Proofs.Ytcijggfbfpfcdaa
