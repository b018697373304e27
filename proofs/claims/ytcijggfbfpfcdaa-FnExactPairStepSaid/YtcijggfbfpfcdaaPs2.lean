/- PairStep of the project and of the specification: both answer 'psOf'. Conditions: none. -/
import Derived.Test.YtcijggfbfpfcdaaPs
namespace Go.Proofs.Ytcijggfbfpfcdaa
open Go.RowKit Go.Deep Go.Shelf Go.Sort
set_option linter.unusedVariables false

theorem pk_le (row : List Int) (d : Int) : pk row d ≤ row.length := by
  unfold pk
  rcases h : (List.range row.length).find? (fun k => decide (d < (row.take (k + 1)).sum)) with _ | k
  · simp
  · have := List.mem_of_find?_eq_some h
    simp at this ⊢
    omega

theorem mul_bd4 {a b n : Int} (h0 : 0 ≤ a) (h1 : a < n) (k0 : 0 ≤ b) (k1 : b < n) (hn : n ≤ 4) : 0 ≤ a * n ∧ a * n ≤ 16 ∧ 0 ≤ a * n + b ∧ a * n + b < n * n ∧ n * n ≤ 16 := by
  have : n = 1 ∨ n = 2 ∨ n = 3 ∨ n = 4 := by omega
  rcases this with rfl | rfl | rfl | rfl <;> omega

set_option maxHeartbeats 1500000 in
theorem PairStep_impl (cv mv : Value) (c m : Ch) (s t d : Int) (w : World) (hc : ChR w cv c) (hm : ChR w mv m) :
    Calls Try.prog 9 #[cv, mv, .int .i64 s, .int .i64 t, .int .i64 d] w fun e w' => e = .returned (.tuple #[.int .i64 (psOf c m s t d).1, .int .i64 (psOf c m s t d).2.1, .int .i64 (psOf c m s t d).2.2]) ∧ Below w.heap.size w w' := by
  obtain ⟨a, cap, rfl⟩ := hc.shape
  obtain ⟨ma, mcap, rfl⟩ := hm.shape
  have B0 := below2 w (.cells #[.int .i64 c.n, .int .i64 c.t, .slice a c.w.length cap] 30) (.cells #[.int .i64 m.n, .int .i64 m.t, .slice ma m.w.length mcap] 32)
  have hB := Blk.new (w.alloc (.cells #[.int .i64 c.n, .int .i64 c.t, .slice a c.w.length cap] 30)) #[.int .i64 m.n, .int .i64 m.t, .slice ma m.w.length mcap] 32
  simp only [World.size_alloc] at hB
  have K := hc.keep B0
  have Km := hm.keep B0
  have hask := checkRuns_any _ _ c m s t _ K Km
  by_cases h0 : askR c m s t = 0
  rotate_left
  · have he := Lib.hid (show psOf c m s t d = (0, 0, askR c m s t) by simp [psOf, h0])
    obtain ⟨r, hr⟩ : ∃ r, askR c m s t = r := ⟨_, rfl⟩
    rw [hr] at hask he h0
    have hne : (r != 0) = true := by simpa using h0
    go_enter Try.func9, Try.ntmps9
    go_wp2_with fail
    refine hask.mono ?_
    rintro e w1 ⟨rfl, b1⟩
    go_wp2
    go_ret3
    exact ⟨by (simp only [he.out]; first | done | rfl), below_wt B0 b1⟩
  have hok : coOk c m = true := by
    rcases h : coOk c m with _ | _
    · rw [askR, h] at h0; simp at h0
    · rfl
  have hst : inB s 0 (c.n - 1) = true ∧ inB t 0 (c.n - 1) = true := by
    rw [askR, if_pos hok] at h0
    by_cases h : inB s 0 (c.n - 1) = true ∧ inB t 0 (c.n - 1) = true
    · exact h
    · rw [if_neg h] at h0; simp at h0
  obtain ⟨hs, ht⟩ := hst
  obtain ⟨oc, n4, hn0, t1, t2, hlen, hrows⟩ := coOk_all hok
  have hnh := Lib.hid hn0
  clear hn0
  obtain ⟨n1, -⟩ := chOk_all oc
  obtain ⟨s0, s1⟩ := inB_iff.1 hs
  obtain ⟨u0, u1⟩ := inB_iff.1 ht
  rw [h0] at hask
  have hps := Lib.hid (show psOf c m s t d = if inB d 0 (m.t - 1) = true then (((pk (m.w.getD (s * c.n + t).toNat []) d : Nat) : Int) / c.n, ((pk (m.w.getD (s * c.n + t).toNat []) d : Nat) : Int) % c.n, 0) else (0, 0, 2) by simp [psOf, h0])
  clear hok oc hs ht h0
  by_cases hd : inB d 0 (m.t - 1) = true
  rotate_left
  · have he := Lib.hid (show psOf c m s t d = (0, 0, 2) by rw [hps.out, if_neg hd])
    have hd' : inB d 0 (m.t - 1) = false := by simpa using hd
    clear hd
    go_enter Try.func9, Try.ntmps9
    go_wp2_with fail
    refine hask.mono ?_
    rintro e w1 ⟨rfl, b1⟩
    replace hB := hB.keep b1 hB.lt
    obtain ⟨p0, p1, p2⟩ := hB.three
    go_wp2_with fail
    refine (isIn_any _ _ _ _).mono ?_
    rintro e w2 ⟨rfl, rfl⟩
    rw [hd']
    go_wp2
    go_ret3
    exact ⟨by (simp only [he.out]; first | done | rfl), below_wt B0 b1⟩
  obtain ⟨d0, d1⟩ := inB_iff.1 hd
  obtain ⟨m0, m1, m2, m3, m4⟩ := mul_bd4 s0 (show s < c.n by omega) u0 (show t < c.n by omega) n4
  obtain ⟨k, hk⟩ : ∃ k : Nat, s * c.n + t = k := ⟨(s * c.n + t).toNat, by omega⟩
  have hkl : k < m.w.length := by omega
  have hkt : (s * c.n + t).toNat = k := by omega
  rw [hkt] at hps
  have he := Lib.hid (show psOf c m s t d = (((pk (m.w.getD k []) d : Nat) : Int) / c.n, ((pk (m.w.getD k []) d : Nat) : Int) % c.n, 0) by rw [hps.out, if_pos hd])
  have hrow := okRow_all (hrows _ (getD_mem (d := []) hkl))
  obtain ⟨q1, q2, q3⟩ := hrow
  have hpkb : pk (m.w.getD k []) d ≤ 16 := by have := pk_le (m.w.getD k []) d; omega
  rw [← hnh.out] at he m1 m0 hk n1 n4
  have u1' : t ≤ 1000000 := by omega
  have m1' : s * m.n ≤ 1000000 := by omega
  have hdm : d ≤ 3600 := by omega
  have hrows' := Lib.hid hrows
  have hL : m.w.length ≤ 16 := by omega
  clear hrows hlen m3 m2 hps hkt hd
  go_enter Try.func9, Try.ntmps9
  go_wp2_with fail
  refine hask.mono ?_
  rintro e w1 ⟨rfl, b1⟩
  replace hB := hB.keep b1 hB.lt
  replace Km := Km.keep b1
  obtain ⟨p0, p1, p2⟩ := hB.three
  go_wp2_with fail
  refine (isIn_any _ _ _ _).mono ?_
  rintro e w2 ⟨rfl, rfl⟩
  rw [show inB d 0 (m.t - 1) = true from inB_iff.2 ⟨d0, d1⟩]
  have R := Km.rows
  obtain ⟨b, off, cap', rv, hvv, _, hc'⟩ := R.at (by omega)
  simp only [Value.slice.injEq] at hvv
  obtain ⟨rfl, -, rfl⟩ := hvv
  obtain ⟨hcell, hrw⟩ := hc' k hkl
  clear hc' R
  obtain ⟨hl36, _⟩ : (m.w.getD k []).length ≤ 36 ∧ True := ⟨by omega, trivial⟩
  have q2' : ∀ x ∈ m.w.getD k [], 0 ≤ x ∧ x ≤ 3600 := fun x hx => by have := q2 x hx; omega
  have hdq : d < (m.w.getD k []).sum := by omega
  clear q1 q2 q3
  generalize m.w.getD k [] = row at *
  generalize rv k = rk at *
  obtain ⟨ra, rcap, hrk, -, -⟩ := hrw.caps
  have hrc := row_any m.n m.t s t k m.w.length mcap b off rk ra row.length rcap w1 hrk hcell m0 m1' u0 u1' hk hkl (by omega)
  go_wp2_with fail
  refine hrc.mono ?_
  rintro e w3 ⟨rfl, g, os, rfl⟩
  have bg := below_grown w1 g os
  replace hB := hB.keep bg hB.lt
  clear p0 p1 p2
  obtain ⟨p0, p1, p2⟩ := hB.three
  have hpk := Lib.hid (pick36_any rk row d _ (hrw.keep bg) q2' hl36 d0 hdq)
  generalize pk row d = r at *
  subst hrk
  go_wp2_with fail
  refine hpk.out.mono ?_
  rintro e w4 ⟨rfl, rfl⟩
  obtain ⟨W, hW⟩ : ∃ W, grow (w1.drewN g) os = W := ⟨_, rfl⟩
  rw [hW] at p0 p1 p2 bg ⊢
  have hne : m.n ≠ 0 := by omega
  have k1 : (r : Int).tdiv m.n = (r : Int) / m.n := Int.tdiv_eq_ediv_of_nonneg (by omega)
  have k2 : (r : Int).tmod m.n = (r : Int) % m.n := Int.tmod_eq_emod_of_nonneg (by omega)
  have bnd : 0 ≤ (r : Int) / m.n ∧ (r : Int) / m.n ≤ 16 := ⟨Int.ediv_nonneg (by omega) (by omega), Int.le_trans (Int.ediv_le_self _ (by omega)) (by omega)⟩
  have bnm : 0 ≤ (r : Int) % m.n ∧ (r : Int) % m.n < m.n := ⟨Int.emod_nonneg _ hne, Int.emod_lt_of_pos _ (by omega)⟩
  obtain ⟨bn0, bn1⟩ := bnd
  obtain ⟨bm0, bm1⟩ := bnm
  clear hW m4 m0 m1 m1' hk
  go_upto_region 7 with fail
  go_quiet (fail)
  go_wp2
  go_ret3
  exact ⟨by (simp only [he.out]; first | done | rfl), below_drewN (below_wt (below_wt B0 b1) bg) _⟩
end Go.Proofs.Ytcijggfbfpfcdaa
