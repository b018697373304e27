/- PairStep, both sides: a step of a coupled chain by a draw. Conditions: none. -/
import Derived.Test.YtcijggfbfpfcdaaVcL
import Derived.Test.YtcijggfbfpfcdaaStep
namespace Go.Proofs.Ytcijggfbfpfcdaa
open Go.RowKit Go.Deep
set_option linter.unusedVariables false

theorem coOk_all {c m : Ch} (h : coOk c m = true) : chOk c = true ∧ c.n ≤ 4 ∧ m.n = c.n ∧ 1 ≤ m.t ∧ m.t ≤ 3600 ∧ (m.w.length : Int) = c.n * c.n ∧ ∀ r ∈ m.w, okRow (c.n * c.n) m.t r = true := by
  simp only [coOk, Bool.and_eq_true, decide_eq_true_eq, inB_iff] at h
  obtain ⟨h1, h2, h3, ⟨h4, h5⟩, h6, h7, -⟩ := h
  exact ⟨h1, h2, h3, h4, h5, h6, fun r hr => List.all_eq_true.1 h7 r hr⟩

set_option maxHeartbeats 4000000 in
theorem pick36_any (v : Value) (row : List Int) (d : Int) (w : World) (hv : Ints w v row) (h : ∀ x ∈ row, 0 ≤ x ∧ x ≤ 3600) (hl : row.length ≤ 36) (hd0 : 0 ≤ d) (hd : d < row.sum) :
    Calls Try.prog 18 #[v, .int .i64 d] w fun e w' => e = .returned (.int .i64 (pk row d)) ∧ w = w' := by
  have hne : 0 < row.length := by
    rcases row with _ | ⟨x, r⟩
    · simp at hd; omega
    · simp
  obtain ⟨a, cap, rfl, hc1, hc2⟩ := hv.caps
  unfold maxLen at hc2
  go_enter Try.func18, Try.ntmps18
  go_wp2
  go_loop [5] (fun i => ∃ k : Nat, k < row.length ∧ i = .int .i64 k ∧ Hid (∀ j, j < k → (row.take (j + 1)).sum ≤ d)) (fun i => row.length - (intOf i).toNat)
  case atStart => exact ⟨0, hne, rfl, fun j hj => by omega⟩
  case round =>
    obtain ⟨k, hk, rfl, hb⟩ := hrel
    have hr := hv.pre (k + 1) (by omega)
    have hcall := sumOf_any _ (row.take (k + 1)) w hr (fun x hx => by have := h x (List.mem_of_mem_take hx); omega) (by simp; omega)
    have hcap : (k : Int) + 1 ≤ (cap : Int) := by omega
    have hlast : row.length = k + 1 → d < (row.take (k + 1)).sum := fun e => by rw [← e, List.take_length]; exact hd
    have hlast' := Lib.hid hlast
    clear hlast
    obtain ⟨s, hs⟩ : ∃ s, (row.take (k + 1)).sum = s := ⟨_, rfl⟩
    rw [hs] at hcall
    have hs' := Lib.hid hs
    clear hs hv
    by_cases hq : s ≤ d
    · have hlt : k + 1 < row.length := by
        have := hlast'.out
        rw [hs'.out] at this
        omega
      have hn : Hid (∀ j, j < k + 1 → (row.take (j + 1)).sum ≤ d) := fun j hj => by
        by_cases e : j = k
        · subst e; rw [hs'.out]; exact hq
        · exact hb.out j (by omega)
      go_wp2_with fail
      refine hcall.mono ?_
      rintro e w' ⟨rfl, rfl⟩
      go_wp2
      go_round
      case rel => exact ⟨k + 1, hlt, by go_num, hn⟩
      case measure => simp [intOf]; omega
    · have hp := Lib.hid (pk_of ⟨hk, hb.out, by rw [hs'.out]; omega⟩)
      go_wp2_with fail
      refine hcall.mono ?_
      rintro e w' ⟨rfl, rfl⟩
      go_wp2
      go_ret
      exact ⟨ret_int (by rw [hp.out]), rfl⟩

/-- what is asked of two runs: the code -/
def askR (c m : Ch) (s t : Int) : Int :=
  if coOk c m = true then (if inB s 0 (c.n - 1) = true ∧ inB t 0 (c.n - 1) = true then 0 else 2) else 1
/-- the answer of PairStep: two states and the code -/
def psOf (c m : Ch) (s t d : Int) : Int × Int × Int :=
  if askR c m s t = 0 then (if inB d 0 (m.t - 1) = true then (((pk (m.w.getD (s * c.n + t).toNat []) d : Nat) : Int) / c.n, ((pk (m.w.getD (s * c.n + t).toNat []) d : Nat) : Int) % c.n, 0) else (0, 0, 2)) else (0, 0, askR c m s t)

set_option maxHeartbeats 4000000 in
theorem checkRuns_any (cv mv : Value) (c m : Ch) (s t : Int) (w : World) (hc : ChR w cv c) (hm : ChR w mv m) :
    Calls Try.prog 16 #[cv, mv, .int .i64 s, .int .i64 t, .int .i64 0] w fun e w' => e = .returned (.int .i64 (askR c m s t)) ∧ Below w.heap.size w w' := by
  obtain ⟨a, cap, rfl⟩ := hc.shape
  obtain ⟨ma, mcap, rfl⟩ := hm.shape
  have B0 := below2 w (.cells #[.int .i64 c.n, .int .i64 c.t, .slice a c.w.length cap] 30) (.cells #[.int .i64 m.n, .int .i64 m.t, .slice ma m.w.length mcap] 32)
  have hB := (Blk.new w #[.int .i64 c.n, .int .i64 c.t, .slice a c.w.length cap] 30).alloc (.cells #[.int .i64 m.n, .int .i64 m.t, .slice ma m.w.length mcap] 32)
  have K := hc.keep B0
  have Km := hm.keep B0
  rcases hok : coOk c m with _ | _
  · have he := Lib.hid (show askR c m s t = 1 by simp [askR, hok])
    have hvc := ValidCoupled_impl _ _ c m _ K Km
    rw [hok] at hvc
    go_enter Try.func16, Try.ntmps16
    go_wp2_with fail
    refine hvc.mono ?_
    rintro e w1 ⟨rfl, b1⟩
    go_wp2
    go_ret
    exact ⟨ret_int he.out.symm, below_wt B0 b1⟩
  · obtain ⟨oc, -⟩ := coOk_all hok
    obtain ⟨n1, n2, t1, t2, -, -⟩ := chOk_all oc
    have hvc := ValidCoupled_impl _ _ c m _ K Km
    rw [hok] at hvc
    have he0 := Lib.hid (show askR c m s t = if inB s 0 (c.n - 1) = true ∧ inB t 0 (c.n - 1) = true then 0 else 2 by simp [askR, hok])
    clear hok oc
    rcases hs : inB s 0 (c.n - 1) with _ | _
    · have he := Lib.hid (show askR c m s t = 2 by rw [he0.out, hs]; simp)
      go_enter Try.func16, Try.ntmps16
      go_wp2_with fail
      refine hvc.mono ?_
      rintro e w1 ⟨rfl, b1⟩
      replace K := K.keep b1
      replace hB := hB.keep b1 hB.lt
      obtain ⟨p0, p1, p2⟩ := hB.three
      go_wp2_with fail
      refine (isState_any _ c _ _ K n1 n2).mono ?_
      rintro e w2 ⟨rfl, b2⟩
      rw [hs]
      go_wp2
      go_ret
      exact ⟨ret_int he.out.symm, below_wt (below_wt B0 b1) b2⟩
    · rcases ht : inB t 0 (c.n - 1) with _ | _
      · have he := Lib.hid (show askR c m s t = 2 by rw [he0.out, ht]; simp)
        go_enter Try.func16, Try.ntmps16
        go_wp2_with fail
        refine hvc.mono ?_
        rintro e w1 ⟨rfl, b1⟩
        replace K := K.keep b1
        replace hB := hB.keep b1 hB.lt
        obtain ⟨p0, p1, p2⟩ := hB.three
        go_wp2_with fail
        refine (isState_any _ c _ _ K n1 n2).mono ?_
        rintro e w2 ⟨rfl, b2⟩
        rw [hs]
        clear p0 p1 p2
        replace K := K.keep b2
        replace hB := hB.keep b2 hB.lt
        obtain ⟨p0, p1, p2⟩ := hB.three
        go_wp2_with fail
        refine (isState_any _ c _ _ K n1 n2).mono ?_
        rintro e w3 ⟨rfl, b3⟩
        rw [ht]
        go_wp2
        go_ret
        exact ⟨ret_int he.out.symm, below_wt (below_wt (below_wt B0 b1) b2) b3⟩
      · have he := Lib.hid (show askR c m s t = 0 by rw [he0.out, hs, ht]; simp)
        go_enter Try.func16, Try.ntmps16
        go_wp2_with fail
        refine hvc.mono ?_
        rintro e w1 ⟨rfl, b1⟩
        replace K := K.keep b1
        replace hB := hB.keep b1 hB.lt
        obtain ⟨p0, p1, p2⟩ := hB.three
        go_wp2_with fail
        refine (isState_any _ c _ _ K n1 n2).mono ?_
        rintro e w2 ⟨rfl, b2⟩
        rw [hs]
        clear p0 p1 p2
        replace K := K.keep b2
        replace hB := hB.keep b2 hB.lt
        obtain ⟨p0, p1, p2⟩ := hB.three
        go_wp2_with fail
        refine (isState_any _ c _ _ K n1 n2).mono ?_
        rintro e w3 ⟨rfl, b3⟩
        rw [ht]
        go_wp2_with fail
        refine (isIn_any _ _ _ _).mono ?_
        rintro e w4 ⟨rfl, rfl⟩
        rw [show inB 0 0 40 = true from rfl]
        go_wp2
        go_ret
        exact ⟨ret_int he.out.symm, below_wt (below_wt (below_wt B0 b1) b2) b3⟩
end Go.Proofs.Ytcijggfbfpfcdaa
