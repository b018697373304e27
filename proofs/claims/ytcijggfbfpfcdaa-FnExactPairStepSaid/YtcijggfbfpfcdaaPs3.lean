/- PairStep of the specification. Conditions: none. -/
import Derived.Test.YtcijggfbfpfcdaaPs2
namespace Go.Proofs.Ytcijggfbfpfcdaa
open Go.RowKit Go.Deep
set_option linter.unusedVariables false

set_option maxHeartbeats 2000000 in
theorem l01Steps0_any (w : World) : Calls Try.prog 23 #[.int .i64 0] w fun e w' => e = .returned (.bool true) ∧ w = w' := by
  go_enter Try.func23, Try.ntmps23
  go_wp2_with fail
  refine (l00In_any _ _ _ _).mono ?_
  rintro e w' ⟨rfl, rfl⟩
  rw [show inB 0 0 40 = true from rfl]
  go_wp2
  go_ret
  exact ⟨rfl, rfl⟩

set_option maxHeartbeats 4000000 in
theorem l04Asked_any (bc bm : Nat) (c m : Ch) (s t : Int) (w : World) (hc : ChP w bc c) (hm : ChP w bm m) :
    Calls Try.prog 13 #[.pointer (some ⟨bc, 0, none⟩), .pointer (some ⟨bm, 0, none⟩), .int .i64 s, .int .i64 t, .int .i64 0] w fun e w' => e = .returned (.int .i64 (askR c m s t)) ∧ ∃ k, w' = w.drewN k := by
  have hcall := l04Ok_any bc bm c m w hc hm
  have hq := Lib.hid (show ∀ k, (w.drewN k).cell? ⟨bc, 0, none⟩ = some (.int .i64 c.n) from fun k => by obtain ⟨v, c0, -⟩ := hc; exact c0)
  clear hc hm
  rcases hok : coOk c m with _ | _
  · rw [hok] at hcall
    have he := Lib.hid (show askR c m s t = 1 by simp [askR, hok])
    clear hok
    go_enter Try.func13, Try.ntmps13
    go_wp2_with fail
    refine hcall.mono ?_
    rintro e w1 ⟨rfl, k, rfl⟩
    go_wp2
    go_ret
    exact ⟨ret_int he.out.symm, k, rfl⟩
  · rw [hok] at hcall
    obtain ⟨oc, n4, -⟩ := coOk_all hok
    obtain ⟨n1, -⟩ := chOk_all oc
    have he0 := Lib.hid (show askR c m s t = if inB s 0 (c.n - 1) = true ∧ inB t 0 (c.n - 1) = true then 0 else 2 by simp [askR, hok])
    clear hok oc
    rcases hs : inB s 0 (c.n - 1) with _ | _
    · have he := Lib.hid (show askR c m s t = 2 by rw [he0.out, hs]; simp)
      go_enter Try.func13, Try.ntmps13
      go_wp2_with fail
      refine hcall.mono ?_
      rintro e w1 ⟨rfl, k, rfl⟩
      have p0 := hq.out k
      go_wp2_with fail
      refine (l00In_any _ _ _ _).mono ?_
      rintro e w' ⟨rfl, rfl⟩
      rw [hs]
      go_wp2
      go_ret
      exact ⟨ret_int he.out.symm, k, rfl⟩
    · rcases ht : inB t 0 (c.n - 1) with _ | _
      · have he := Lib.hid (show askR c m s t = 2 by rw [he0.out, ht]; simp)
        go_enter Try.func13, Try.ntmps13
        go_wp2_with fail
        refine hcall.mono ?_
        rintro e w1 ⟨rfl, k, rfl⟩
        have p0 := hq.out k
        go_wp2_with fail
        refine (l00In_any _ _ _ _).mono ?_
        rintro e w' ⟨rfl, rfl⟩
        rw [hs]
        go_wp2_with fail
        refine (l00In_any _ _ _ _).mono ?_
        rintro e w' ⟨rfl, rfl⟩
        rw [ht]
        go_wp2
        go_ret
        exact ⟨ret_int he.out.symm, k, rfl⟩
      · have he := Lib.hid (show askR c m s t = 0 by rw [he0.out, hs, ht]; simp)
        go_enter Try.func13, Try.ntmps13
        go_wp2_with fail
        refine hcall.mono ?_
        rintro e w1 ⟨rfl, k, rfl⟩
        have p0 := hq.out k
        go_wp2_with fail
        refine (l00In_any _ _ _ _).mono ?_
        rintro e w' ⟨rfl, rfl⟩
        rw [hs]
        go_wp2_with fail
        refine (l00In_any _ _ _ _).mono ?_
        rintro e w' ⟨rfl, rfl⟩
        rw [ht]
        go_wp2_with fail
        refine (l01Steps0_any _).mono ?_
        rintro e w' ⟨rfl, rfl⟩
        go_wp2
        go_ret
        exact ⟨ret_int he.out.symm, k, rfl⟩

set_option maxHeartbeats 1500000 in
theorem PairStep_spec (cv mv : Value) (c m : Ch) (s t d : Int) (w : World) (hc : ChR w cv c) (hm : ChR w mv m) :
    Calls Try.prog 6 #[cv, mv, .int .i64 s, .int .i64 t, .int .i64 d] w fun e w' => e = .returned (.tuple #[.int .i64 (psOf c m s t d).1, .int .i64 (psOf c m s t d).2.1, .int .i64 (psOf c m s t d).2.2]) ∧ Below w.heap.size w w' := by
  obtain ⟨a, cap, rfl⟩ := hc.shape
  obtain ⟨ma, mcap, rfl⟩ := hm.shape
  have B0 := below2 w (.cells #[.int .i64 c.n, .int .i64 c.t, .slice a c.w.length cap] 30) (.cells #[.int .i64 m.n, .int .i64 m.t, .slice ma m.w.length mcap] 32)
  have hB := (Blk.new w #[.int .i64 c.n, .int .i64 c.t, .slice a c.w.length cap] 30).alloc (.cells #[.int .i64 m.n, .int .i64 m.t, .slice ma m.w.length mcap] 32)
  have hD := Blk.new (w.alloc (.cells #[.int .i64 c.n, .int .i64 c.t, .slice a c.w.length cap] 30)) #[.int .i64 m.n, .int .i64 m.t, .slice ma m.w.length mcap] 32
  simp only [World.size_alloc] at hD
  have Pc : ChP _ w.heap.size c := ⟨_, hB.cell 0, hB.cell 1, hB.cell 2, (hc.keep B0).rows⟩
  have Pm : ChP _ (w.heap.size + 1) m := ⟨_, hD.cell 0, hD.cell 1, hD.cell 2, (hm.keep B0).rows⟩
  have hask := l04Asked_any w.heap.size (w.heap.size + 1) c m s t _ Pc Pm
  have Rm := (hm.keep B0).rows
  by_cases h0 : askR c m s t = 0
  rotate_left
  · have he := Lib.hid (show psOf c m s t d = (0, 0, askR c m s t) by simp [psOf, h0])
    obtain ⟨r, hr⟩ : ∃ r, askR c m s t = r := ⟨_, rfl⟩
    rw [hr] at hask he h0
    have hne : (r != 0) = true := by simpa using h0
    clear hB hD Pc Pm Rm hc hm
    go_enter Try.func6, Try.ntmps6
    go_wp2_with fail
    refine hask.mono ?_
    rintro e w1 ⟨rfl, k, rfl⟩
    go_wp2
    go_ret3
    exact ⟨by (simp only [he.out]; first | done | rfl), below_drewN B0 _⟩
  have hok : coOk c m = true := by
    rcases h : coOk c m with _ | _
    · rw [askR, h] at h0; simp at h0
    · rfl
  have hst : inB s 0 (c.n - 1) = true ∧ inB t 0 (c.n - 1) = true := by
    rw [askR, if_pos hok] at h0
    by_cases h : inB s 0 (c.n - 1) = true ∧ inB t 0 (c.n - 1) = true
    · exact h
    · rw [if_neg h] at h0; simp at h0
  obtain ⟨hs, ht⟩ := hst
  obtain ⟨oc, n4, hn0, t1, t2, hlen, hrows⟩ := coOk_all hok
  clear hn0
  obtain ⟨n1, -⟩ := chOk_all oc
  obtain ⟨s0, s1⟩ := inB_iff.1 hs
  obtain ⟨u0, u1⟩ := inB_iff.1 ht
  rw [h0] at hask
  have hps := Lib.hid (show psOf c m s t d = if inB d 0 (m.t - 1) = true then (((pk (m.w.getD (s * c.n + t).toNat []) d : Nat) : Int) / c.n, ((pk (m.w.getD (s * c.n + t).toNat []) d : Nat) : Int) % c.n, 0) else (0, 0, 2) by simp [psOf, h0])
  clear hok oc hs ht h0
  have hcm := Lib.hid (show ∀ k, (((w.alloc (.cells #[.int .i64 c.n, .int .i64 c.t, .slice a c.w.length cap] 30)).alloc (.cells #[.int .i64 m.n, .int .i64 m.t, .slice ma m.w.length mcap] 32)).drewN k).cell? ⟨w.heap.size, 0, none⟩ = some (.int .i64 c.n) ∧
      (((w.alloc (.cells #[.int .i64 c.n, .int .i64 c.t, .slice a c.w.length cap] 30)).alloc (.cells #[.int .i64 m.n, .int .i64 m.t, .slice ma m.w.length mcap] 32)).drewN k).cell? ⟨w.heap.size + 1, 1, none⟩ = some (.int .i64 m.t) ∧
      (((w.alloc (.cells #[.int .i64 c.n, .int .i64 c.t, .slice a c.w.length cap] 30)).alloc (.cells #[.int .i64 m.n, .int .i64 m.t, .slice ma m.w.length mcap] 32)).drewN k).cell? ⟨w.heap.size + 1, 2, none⟩ = some (.slice ma m.w.length mcap) from fun k => ⟨hB.cell 0, hD.cell 1, hD.cell 2⟩)
  clear hB hD Pc Pm
  by_cases hd : inB d 0 (m.t - 1) = true
  rotate_left
  · have he := Lib.hid (show psOf c m s t d = (0, 0, 2) by rw [hps.out, if_neg hd])
    have hd' : inB d 0 (m.t - 1) = false := by simpa using hd
    clear hd
    go_enter Try.func6, Try.ntmps6
    go_wp2_with fail
    refine hask.mono ?_
    rintro e w1 ⟨rfl, k, rfl⟩
    obtain ⟨p0, p1, p2⟩ := hcm.out k
    go_wp2_with fail
    refine (l00In_any _ _ _ _).mono ?_
    rintro e w2 ⟨rfl, rfl⟩
    rw [hd']
    go_wp2
    go_ret3
    exact ⟨by (simp only [he.out]; first | done | rfl), below_drewN B0 _⟩
  obtain ⟨d0, d1⟩ := inB_iff.1 hd
  obtain ⟨m0, m1, m2, m3, m4⟩ := mul_bd4 s0 (show s < c.n by omega) u0 (show t < c.n by omega) n4
  obtain ⟨k, hk⟩ : ∃ k : Nat, s * c.n + t = k := ⟨(s * c.n + t).toNat, by omega⟩
  have hkl : k < m.w.length := by omega
  have hkt : (s * c.n + t).toNat = k := by omega
  rw [hkt] at hps
  have he := Lib.hid (show psOf c m s t d = (((pk (m.w.getD k []) d : Nat) : Int) / c.n, ((pk (m.w.getD k []) d : Nat) : Int) % c.n, 0) by rw [hps.out, if_pos hd])
  obtain ⟨q1, q2, q3⟩ := okRow_all (hrows _ (getD_mem (d := []) hkl))
  obtain ⟨b, off, cap', rv, hvv, _, hc'⟩ := Rm.at (by omega)
  simp only [Value.slice.injEq] at hvv
  obtain ⟨rfl, -, rfl⟩ := hvv
  obtain ⟨hcell, hrw⟩ := hc' k hkl
  have hL : m.w.length ≤ 16 := by omega
  have hl16 : (m.w.getD k []).length ≤ 16 := by omega
  have hpos : 0 < (m.w.getD k []).length := by
    rcases hh : m.w.getD k [] with _ | ⟨x, r⟩
    · rw [hh] at q3; simp at q3; omega
    · simp
  clear hc' Rm hrows hlen m3 m2 hps hkt m4
  have q2' : ∀ x ∈ m.w.getD k [], 0 ≤ x ∧ x ≤ 3600 := fun x hx => by have := q2 x hx; omega
  have hdq : d < (m.w.getD k []).sum := by omega
  clear q1 q2 q3
  generalize m.w.getD k [] = row at *
  generalize rv k = rk at *
  obtain ⟨rb, ro, rc, rfl, _, hcr⟩ := hrw.at hpos
  have hcr' := Lib.hid hcr
  have q2'' := Lib.hid q2'
  have hdq' := Lib.hid hdq
  have hcell' := Lib.hid hcell
  have hkm : (k : Int) < (m.w.length : Int) := by omega
  have hd1 : d ≤ 3599 := by omega
  clear hcr q2' hdq hc hm hrw
  have hwd := fun W j => (show ∀ p, (World.drewN W j).cell? p = W.cell? p from fun _ => rfl)
  go_enter Try.func6, Try.ntmps6
  go_wp2_with fail
  refine hask.mono ?_
  rintro e w1 ⟨rfl, g, rfl⟩
  obtain ⟨p0, p1, p2⟩ := hcm.out g
  go_wp2_with fail
  refine (l00In_any _ _ _ _).mono ?_
  rintro e w2 ⟨rfl, rfl⟩
  rw [hd]
  have bz := below_drewN B0 g
  have p3 := (hwd _ g _).trans hcell
  obtain ⟨W, hW⟩ : ∃ W, ((w.alloc (.cells #[.int .i64 c.n, .int .i64 c.t, .slice a c.w.length cap] 30)).alloc (.cells #[.int .i64 m.n, .int .i64 m.t, .slice (some ⟨b, off, none⟩) m.w.length mcap] 32)).drewN g = W := ⟨_, rfl⟩
  have hcr2 := Lib.hid (show ∀ j, j < row.length → W.cell? ⟨rb, ro + j, none⟩ = some (.int .i64 (row.getD j 0)) from fun j hj => by rw [← hW]; exact hcr'.out j hj)
  rw [hW] at p0 p1 p2 p3 bz ⊢
  go_wp2
  have kn := Lib.hid (show (c.n : Int) ≠ 0 by omega)
  go_loop [15, 16] (fun s i => ∃ (j : Nat) (S : Int), j ≤ row.length ∧ i = .int .i64 j ∧ s = .int .i64 S ∧ 0 ≤ S ∧ S ≤ 3600 * j ∧ Hid (S = (row.take j).sum) ∧ Hid (∀ l, l + 1 < j → (row.take (l + 1)).sum ≤ d)) (fun _ i => row.length + 1 - (intOf i).toNat)
  case atStart => exact ⟨0, 0, by omega, rfl, rfl, by omega, by omega, show _ = _ by simp, fun l hl => by omega⟩
  case round =>
    obtain ⟨j, S, hj, rfl, rfl, hS0, hS1, hS, hb⟩ := hrel
    by_cases hq : S ≤ d
    · have hlt : j < row.length := by
        rcases Nat.lt_or_ge j row.length with h | h
        · exact h
        · have := hS.out
          rw [List.take_of_length_le h] at this
          have := hdq'.out
          omega
      have hx := hcr2.out j hlt
      have hxb := q2''.out _ (getD_mem (d := 0) hlt)
      have hs1 := Lib.hid (sum_take_succ row j hlt)
      generalize row.getD j 0 = x at hx hxb hs1
      obtain ⟨hx0, hx1⟩ := hxb
      have hji : (j : Int) < (row.length : Int) := by omega
      have hn : Hid (∀ l, l + 1 < j + 1 → (row.take (l + 1)).sum ≤ d) := fun l hl => by
        by_cases e : l + 1 = j
        · rw [e]; have := hS.out; omega
        · exact hb.out l (by omega)
      have hSn := Lib.hid (show S + x = (row.take (j + 1)).sum by rw [hs1.out, hS.out])
      go_wp2
      go_round
      case rel => exact ⟨j + 1, S + x, by omega, by go_num, rfl, by omega, by omega, hSn, hn⟩
      case measure => simp [intOf]; omega
    · have hj1 : 1 ≤ j := by
        rcases j with _ | j
        · have := hS.out; simp at this; omega
        · omega
      obtain ⟨r, rfl⟩ : ∃ r, j = r + 1 := ⟨j - 1, by omega⟩
      have hp := pk_of (row := row) (d := d) (k := r) ⟨by omega, fun l hl => hb.out l (by omega), by rw [← hS.out]; omega⟩
      rw [hp] at he
      have hne : c.n ≠ 0 := kn.out
      have k1 : (r : Int).tdiv c.n = (r : Int) / c.n := Int.tdiv_eq_ediv_of_nonneg (by omega)
      have k2 : (r : Int).tmod c.n = (r : Int) % c.n := Int.tmod_eq_emod_of_nonneg (by omega)
      have bn0 : 0 ≤ (r : Int) / c.n := Int.ediv_nonneg (by omega) (by omega)
      have bn1 : (r : Int) / c.n ≤ 16 := Int.le_trans (Int.ediv_le_self _ (by omega)) (by omega)
      have bm0 : 0 ≤ (r : Int) % c.n := Int.emod_nonneg _ hne
      have bm1 : (r : Int) % c.n < c.n := Int.emod_lt_of_pos _ (by omega)
      have e1 : ((r + 1 : Nat) : Int) - 1 = (r : Int) := by omega
      clear hb hcr2
      have hq' : d < S := by omega
      have hrl : r ≤ 15 := by omega
      go_upto_region 12 with fail
      go_quiet (fail)
      go_wp2
      go_ret3
      exact ⟨by (simp only [he.out]; first | done | rfl), below_drewN bz _⟩
end Go.Proofs.Ytcijggfbfpfcdaa
