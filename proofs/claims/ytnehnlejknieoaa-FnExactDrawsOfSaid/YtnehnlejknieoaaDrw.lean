/- DrawsOf of both sides. Conditions: none. -/
import Derived.Test.YtnehnlejknieoaaRun
namespace Go.Proofs.Ytnehnlejknieoaa
open Go.RowKit Go.Deep
set_option linter.unusedVariables false
set_option linter.unusedSimpArgs false

theorem void_mine (w : World) (lo : Nat) (h : lo ≤ w.heap.size) : IntsMine 2 (w.alloc (.cells #[] 2)) lo (w.alloc (.cells #[] 2)).heap.size (.slice (some ⟨w.heap.size, 0, none⟩) 0 0) [] := by
  have := World.ownsRow_made w (e := 2) (base := lo) (size := 1) #[] 0 h (Nat.zero_le _) (by simp)
  exact ⟨by simpa [ints] using Own.of this (Nat.le_refl _), Nat.le_refl _⟩
/-- the seeds, one behind the other -/
def lcg (x : Int) : Int := (1103515245 * x + 12345) % 2147483648
def lcgK (s : Int) : Nat → Int
  | 0 => s
  | k + 1 => lcg (lcgK s k)
def drL (s t : Int) (k : Nat) : List Int := (List.range k).map fun i => lcgK s (i + 1) / 65536 % t
def drwOk (s t n : Int) : Bool := inB s 0 1000000000 && (inB t 1 60 && inB n 0 64)
def drwOf (s t n : Int) : List Int × Int := if drwOk s t n = true then (drL s t n.toNat, 0) else ([], 2)
theorem lcg_bd (x : Int) : 0 ≤ lcg x ∧ lcg x ≤ 2147483647 := by unfold lcg; omega
theorem lcgK_bd {s : Int} (h0 : 0 ≤ s) (h1 : s ≤ 1000000000) (k : Nat) : 0 ≤ lcgK s k ∧ lcgK s k ≤ 2147483647 := by
  cases k with
  | zero => exact ⟨h0, by show s ≤ _; omega⟩
  | succ k => exact lcg_bd _
theorem drL_len (s t : Int) (k : Nat) : (drL s t k).length = k := by simp [drL]
theorem drL_succ (s t : Int) (k : Nat) : drL s t (k + 1) = drL s t k ++ [lcgK s (k + 1) / 65536 % t] := range_map_succ _ k
theorem drL_in {s t : Int} (ht : 1 ≤ t) (k : Nat) : ∀ x ∈ drL s t k, 0 ≤ x ∧ x ≤ t - 1 := by
  intro x hx
  simp only [drL, List.mem_map] at hx
  obtain ⟨i, _, rfl⟩ := hx
  have h1 := Int.emod_nonneg (lcgK s (i + 1) / 65536) (show t ≠ 0 by omega)
  have h2 := Int.emod_lt_of_pos (lcgK s (i + 1) / 65536) (show 0 < t by omega)
  omega

set_option maxRecDepth 100000 in
set_option maxHeartbeats 4000000 in
theorem l09Draws_any (s t : Int) (N : Nat) (w : World) (s0 : 0 ≤ s) (s1 : s ≤ 1000000000) (t1 : 1 ≤ t) (t2 : t ≤ 60) (hN : N ≤ 64) :
    Calls Try.prog 45 #[.int .i64 s, .int .i64 t, .int .i64 (N : Int)] w fun e w' => ∃ rv, e = .returned rv ∧ w'.ownsRow w.heap.size 2 1 rv (drL s t N).length (ints (drL s t N)) ∧ Below w.heap.size w w' := by
  obtain ⟨i0, hi, hz0, hz1, hz2⟩ := info_parts Try.infoI
  have hi' := Lib.hid hi; have hz0' := Lib.hid hz0; have hz1' := Lib.hid hz1; have hz2' := Lib.hid hz2
  clear hi hz0 hz1 hz2
  have hbd := Lib.hid (fun k => lcgK_bd s0 s1 k)
  have ht0 : (t == 0) = false := by simp; omega
  have ht0' : ¬ t = 0 := by omega
  go_enter Try.func45, Try.ntmps45
  go_wp2
  go_loopw [7, 8, 9] (fun ov xv iv wr => ∃ (k g gc : Nat), k ≤ N ∧ iv = .int .i64 k ∧ xv = .int .i64 (lcgK s k) ∧ ov = .slice (some ⟨g, 0, none⟩) k gc ∧ Hid (wr.ownsRow w.heap.size 2 1 (.slice (some ⟨g, 0, none⟩) k gc) k (ints (drL s t k))) ∧ Below w.heap.size w wr) (fun _ _ i _ => N - (intOf i).toNat)
  case atStart => exact ⟨0, _, _, Nat.zero_le _, rfl, rfl, rfl, Lib.hid (by simpa [drL] using World.ownsRow_made w #[] 0 (Nat.le_refl _) (Nat.zero_le _) (by simp)), below1 _ _⟩
  case round =>
    obtain ⟨wo, rfl⟩ : ∃ wo : World, wo = wr := ⟨_, rfl⟩
    obtain ⟨k, g, gc, hk, rfl, rfl, rfl, hown, bel⟩ := hrel
    by_cases hlt : k < N
    · have hkI : (k : Int) < (N : Int) := by omega
      have hb := hbd.out k
      have hsz := bel.size
      have hsu := Lib.hid (drL_succ s t k)
      have hnx := Lib.hid (show lcgK s (k + 1) = (1103515245 * lcgK s k + 12345) % 2147483648 from rfl)
      generalize lcgK s k = x at hb hnx ⊢
      have hy : 0 ≤ (1103515245 * x + 12345) % 2147483648 ∧ (1103515245 * x + 12345) % 2147483648 ≤ 2147483647 := by omega
      go_wp2_with (at_builtin; (refine wpList_append_own _ rfl _ _ 22 rfl w.heap.size 2 i0 (.int .i64 0) 1 8 Try.underlying22 hi'.out hz0'.out hz1'.out hz2'.out rfl (by decide) _ _ _ rfl (hown.out.alloc _) ⟨wo.heap.size, 0, none⟩ 1 1 [.int .i64 ((1103515245 * x + 12345) % 2147483648 / 65536 % t)] rfl rfl (one_new _ _ _) (by simp [Value.oneCell']) (by unfold maxLen; omega) (by omega) (by simp; omega) ?_); intro v' w2 hown2 hgr2 _; obtain ⟨g2, c2, rfl⟩ := ownsRow_shape hown2 (by omega))
      go_roundw
      case rel =>
        refine ⟨k + 1, g2, c2, by omega, by go_num, by rw [hnx.out], rfl, Lib.hid ?_, (bel.alloc hsz _).grown hgr2 (by simp; omega) (fun k' hk' => (hown.out.lt k' hk').1)⟩
        rw [hsu.out, hnx.out]
        simpa [ints] using hown2
      case measure => simp [intOf]; omega
    · obtain rfl : k = N := by omega
      have hl := Lib.hid (drL_len s t k)
      go_wp2
      go_ret
      exact ⟨_, rfl, by rw [hl.out]; exact hown.out, bel⟩

set_option maxHeartbeats 4000000 in
theorem DrawsOf_spec (s t n : Int) (w : World) :
    Calls Try.prog 10 #[.int .i64 s, .int .i64 t, .int .i64 n] w fun e w' => ∃ rv, e = .returned (.tuple #[rv, .int .i64 (drwOf s t n).2]) ∧ IntsMine 2 w' w.heap.size w'.heap.size rv (drwOf s t n).1 ∧ Below w.heap.size w w' := by
  have hs := Lib.hid (fun W => l00In_any s 0 1000000000 W)
  have ht := Lib.hid (fun W => l00In_any t 1 60 W)
  have hn := Lib.hid (fun W => l00In_any n 0 64 W)
  rcases e1 : inB s 0 1000000000 with _ | _
  · have hr := Lib.hid (show drwOf s t n = ([], 2) by simp [drwOf, drwOk, e1])
    rw [e1] at hs
    go_enter Try.func10, Try.ntmps10
    go_wp2_with fail
    (with_reducible refine (hs.out _).mono ?_)
    rintro e w1 ⟨rfl, rfl⟩
    go_wp2
    go_ret2
    rw [hr.out]
    exact ⟨_, rfl, void_mine _ _ (Nat.le_refl _), below1 _ _⟩
  · rcases e2 : inB t 1 60 with _ | _
    · have hr := Lib.hid (show drwOf s t n = ([], 2) by simp [drwOf, drwOk, e1, e2])
      rw [e1] at hs
      rw [e2] at ht
      go_enter Try.func10, Try.ntmps10
      go_wp2_with fail
      (with_reducible refine (hs.out _).mono ?_)
      rintro e w1 ⟨rfl, rfl⟩
      go_wp2_with fail
      (with_reducible refine (ht.out _).mono ?_)
      rintro e w1 ⟨rfl, rfl⟩
      go_wp2
      go_ret2
      rw [hr.out]
      exact ⟨_, rfl, void_mine _ _ (Nat.le_refl _), below1 _ _⟩
    · rcases e3 : inB n 0 64 with _ | _
      · have hr := Lib.hid (show drwOf s t n = ([], 2) by simp [drwOf, drwOk, e1, e2, e3])
        rw [e1] at hs
        rw [e2] at ht
        rw [e3] at hn
        go_enter Try.func10, Try.ntmps10
        go_wp2_with fail
        (with_reducible refine (hs.out _).mono ?_)
        rintro e w1 ⟨rfl, rfl⟩
        go_wp2_with fail
        (with_reducible refine (ht.out _).mono ?_)
        rintro e w1 ⟨rfl, rfl⟩
        go_wp2_with fail
        (with_reducible refine (hn.out _).mono ?_)
        rintro e w1 ⟨rfl, rfl⟩
        go_wp2
        go_ret2
        rw [hr.out]
        exact ⟨_, rfl, void_mine _ _ (Nat.le_refl _), below1 _ _⟩
      · have hr := Lib.hid (show drwOf s t n = (drL s t n.toNat, 0) by simp [drwOf, drwOk, e1, e2, e3])
        rw [e1] at hs
        rw [e2] at ht
        rw [e3] at hn
        obtain ⟨s0, s1⟩ := inB_iff.1 e1
        obtain ⟨t1, t2⟩ := inB_iff.1 e2
        obtain ⟨n0, n1⟩ := inB_iff.1 e3
        obtain ⟨N, rfl⟩ : ∃ N : Nat, n = N := ⟨n.toNat, by omega⟩
        rw [Int.toNat_natCast] at hr
        have hd := Lib.hid (fun W => l09Draws_any s t N W s0 s1 t1 t2 (by omega))
        generalize drL s t N = out at hd hr
        clear e1 e2 e3
        go_enter Try.func10, Try.ntmps10
        go_wp2_with fail
        (with_reducible refine (hs.out _).mono ?_)
        rintro e w1 ⟨rfl, rfl⟩
        go_wp2_with fail
        (with_reducible refine (ht.out _).mono ?_)
        rintro e w1 ⟨rfl, rfl⟩
        go_wp2_with fail
        (with_reducible refine (hn.out _).mono ?_)
        rintro e w1 ⟨rfl, rfl⟩
        go_wp2_with fail
        (with_reducible refine (hd.out _).mono ?_)
        rintro e w1 ⟨rv, rfl, hown, b1⟩
        go_wp2
        go_ret2
        rw [hr.out]
        exact ⟨_, rfl, (Own.of hown (Nat.le_refl _)).minei, b1⟩

theorem isSeed_any (s : Int) (w : World) : Calls Try.prog 46 #[.int .i64 s] w fun e w' => e = .returned (.bool (inB s 0 1000000000)) ∧ w = w' := by
  go_enter Try.func46, Try.ntmps46
  go_wp2_with fail
  (with_reducible refine (isIn_any _ _ _ _).mono ?_)
  rintro e w1 ⟨rfl, rfl⟩
  go_wp2
  go_ret
  exact ⟨rfl, rfl⟩

set_option maxRecDepth 100000 in
set_option maxHeartbeats 4000000 in
theorem DrawsOf_impl (s t n : Int) (w : World) :
    Calls Try.prog 11 #[.int .i64 s, .int .i64 t, .int .i64 n] w fun e w' => ∃ rv, e = .returned (.tuple #[rv, .int .i64 (drwOf s t n).2]) ∧ IntsMine 2 w' w.heap.size w'.heap.size rv (drwOf s t n).1 ∧ Below w.heap.size w w' := by
  have hs := Lib.hid (fun W => isSeed_any s W)
  have ht := Lib.hid (fun W => isIn_any t 1 60 W)
  have hn := Lib.hid (fun W => isIn_any n 0 64 W)
  rcases e1 : inB s 0 1000000000 with _ | _
  · have hr := Lib.hid (show drwOf s t n = ([], 2) by simp [drwOf, drwOk, e1])
    rw [e1] at hs
    go_enter Try.func11, Try.ntmps11
    go_wp2_with fail
    (with_reducible refine (hs.out _).mono ?_)
    rintro e w1 ⟨rfl, rfl⟩
    go_wp2
    go_ret2
    rw [hr.out]
    exact ⟨_, rfl, nil_mine _ _, Below.refl _ _⟩
  · rcases e2 : inB t 1 60 with _ | _
    · have hr := Lib.hid (show drwOf s t n = ([], 2) by simp [drwOf, drwOk, e1, e2])
      rw [e1] at hs
      rw [e2] at ht
      go_enter Try.func11, Try.ntmps11
      go_wp2_with fail
      (with_reducible refine (hs.out _).mono ?_)
      rintro e w1 ⟨rfl, rfl⟩
      go_wp2_with fail
      (with_reducible refine (ht.out _).mono ?_)
      rintro e w1 ⟨rfl, rfl⟩
      go_wp2
      go_ret2
      rw [hr.out]
      exact ⟨_, rfl, nil_mine _ _, Below.refl _ _⟩
    · rcases e3 : inB n 0 64 with _ | _
      · have hr := Lib.hid (show drwOf s t n = ([], 2) by simp [drwOf, drwOk, e1, e2, e3])
        rw [e1] at hs
        rw [e2] at ht
        rw [e3] at hn
        go_enter Try.func11, Try.ntmps11
        go_wp2_with fail
        (with_reducible refine (hs.out _).mono ?_)
        rintro e w1 ⟨rfl, rfl⟩
        go_wp2_with fail
        (with_reducible refine (ht.out _).mono ?_)
        rintro e w1 ⟨rfl, rfl⟩
        go_wp2_with fail
        (with_reducible refine (hn.out _).mono ?_)
        rintro e w1 ⟨rfl, rfl⟩
        go_wp2
        go_ret2
        rw [hr.out]
        exact ⟨_, rfl, nil_mine _ _, Below.refl _ _⟩
      · have hr := Lib.hid (show drwOf s t n = (drL s t n.toNat, 0) by simp [drwOf, drwOk, e1, e2, e3])
        rw [e1] at hs
        rw [e2] at ht
        rw [e3] at hn
        obtain ⟨s0, s1⟩ := inB_iff.1 e1
        obtain ⟨t1, t2⟩ := inB_iff.1 e2
        obtain ⟨n0, n1⟩ := inB_iff.1 e3
        obtain ⟨N, rfl⟩ : ∃ N : Nat, n = N := ⟨n.toNat, by omega⟩
        rw [Int.toNat_natCast] at hr
        clear e1 e2 e3
        have hmk := make_cap N (by omega) (by omega)
        obtain ⟨i0, hi, hz0, hz1, hz2⟩ := info_parts Try.infoI
        have hi' := Lib.hid hi; have hz0' := Lib.hid hz0; have hz1' := Lib.hid hz1; have hz2' := Lib.hid hz2
        clear hi hz0 hz1 hz2
        have hbd := Lib.hid (fun k => lcgK_bd s0 s1 k)
        have ht0 : (t == 0) = false := by simp; omega
        have ht0' : ¬ t = 0 := by omega
        go_enter Try.func11, Try.ntmps11
        go_wp2_with fail
        (with_reducible refine (hs.out _).mono ?_)
        rintro e w1 ⟨rfl, rfl⟩
        go_wp2_with fail
        (with_reducible refine (ht.out _).mono ?_)
        rintro e w1 ⟨rfl, rfl⟩
        go_wp2_with fail
        (with_reducible refine (hn.out _).mono ?_)
        rintro e w1 ⟨rfl, rfl⟩
        go_wp2
        go_loopw [8, 9, 27] (fun ov xv iv wr => ∃ (k g gc : Nat), k ≤ N ∧ iv = .int .i64 k ∧ xv = .int .i64 (lcgK s k) ∧ ov = .slice (some ⟨g, 0, none⟩) k gc ∧ Hid (wr.ownsRow w.heap.size 2 1 (.slice (some ⟨g, 0, none⟩) k gc) k (ints (drL s t k))) ∧ Below w.heap.size w wr) (fun _ _ i _ => N - (intOf i).toNat)
        case atStart => exact ⟨0, _, _, Nat.zero_le _, rfl, rfl, rfl, Lib.hid (by simpa [drL] using World.ownsRow_made w (madeCells #[.int .i64 0] N) N (Nat.le_refl _) (by unfold maxLen; omega) (by rw [size_madeCells]; omega)), below1 _ _⟩
        case round =>
          obtain ⟨wo, rfl⟩ : ∃ wo : World, wo = wr := ⟨_, rfl⟩
          obtain ⟨k, g, gc, hk, rfl, rfl, rfl, hown, bel⟩ := hrel
          clear hmk
          by_cases hlt : k < N
          · have hkI : (k : Int) < (N : Int) := by omega
            have hb := hbd.out k
            have hsz := bel.size
            have hsu := Lib.hid (drL_succ s t k)
            have hnx := Lib.hid (show lcgK s (k + 1) = (1103515245 * lcgK s k + 12345) % 2147483648 from rfl)
            generalize lcgK s k = x at hb hnx ⊢
            have hy : 0 ≤ (1103515245 * x + 12345) % 2147483648 ∧ (1103515245 * x + 12345) % 2147483648 ≤ 2147483647 := by omega
            go_wp2_with (at_builtin; (refine wpList_append_own _ rfl _ _ 22 rfl w.heap.size 2 i0 (.int .i64 0) 1 8 Try.underlying22 hi'.out hz0'.out hz1'.out hz2'.out rfl (by decide) _ _ _ rfl (hown.out.alloc _) ⟨wo.heap.size, 0, none⟩ 1 1 [.int .i64 ((1103515245 * x + 12345) % 2147483648 / 65536 % t)] rfl rfl (one_new _ _ _) (by simp [Value.oneCell']) (by unfold maxLen; omega) (by omega) (by simp; omega) ?_); intro v' w2 hown2 hgr2 _; obtain ⟨g2, c2, rfl⟩ := ownsRow_shape hown2 (by omega))
            go_roundw
            case rel =>
              refine ⟨k + 1, g2, c2, by omega, by go_num, by rw [hnx.out], rfl, Lib.hid ?_, (bel.alloc hsz _).grown hgr2 (by simp; omega) (fun k' hk' => (hown.out.lt k' hk').1)⟩
              rw [hsu.out, hnx.out]
              simpa [ints] using hown2
            case measure => simp [intOf]; omega
          · obtain rfl : k = N := by omega
            go_wp2
            go_ret2
            rw [hr.out]
            exact ⟨_, rfl, (Own.of hown.out (Nat.le_refl _)).minei, bel⟩
end Go.Proofs.Ytnehnlejknieoaa
