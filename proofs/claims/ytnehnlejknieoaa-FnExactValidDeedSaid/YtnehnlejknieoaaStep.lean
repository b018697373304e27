/- A step by a draw, of the project and of the specification: both answer 'pk'. Conditions: the chain is valid, state and draw are in range (told by the code). -/
import Derived.Test.YtnehnlejknieoaaOkS
namespace Go.Proofs.Ytnehnlejknieoaa
open Go.RowKit Go.Deep

/-- k is the place: the sums before it are at most d, that up to it is greater -/
def IsPick (row : List Int) (d : Int) (k : Nat) : Prop := k < row.length ∧ (∀ j, j < k → (row.take (j + 1)).sum ≤ d) ∧ d < (row.take (k + 1)).sum
def pk (row : List Int) (d : Int) : Nat := ((List.range row.length).find? (fun k => decide (d < (row.take (k + 1)).sum))).getD 0
theorem pk_of {row : List Int} {d : Int} {k : Nat} (h : IsPick row d k) : pk row d = k := by
  obtain ⟨h1, h2, h3⟩ := h
  have : (List.range row.length).find? (fun k => decide (d < (row.take (k + 1)).sum)) = some k := by
    rw [List.find?_range_eq_some]
    refine ⟨by simpa using h3, by simpa using h1, fun j hj => ?_⟩
    have := h2 j hj
    simp; omega
  rw [pk, this]; rfl

theorem okRow_all {n t : Int} {row : List Int} (h : okRow n t row = true) : (row.length : Int) = n ∧ (∀ x ∈ row, 0 ≤ x ∧ x ≤ t) ∧ row.sum = t := by
  simp only [okRow, Bool.and_eq_true, decide_eq_true_eq, List.all_eq_true, inB_iff] at h
  exact ⟨h.1, h.2.1, h.2.2⟩
theorem chOk_all {c : Ch} (h : chOk c = true) : 1 ≤ c.n ∧ c.n ≤ 6 ∧ 1 ≤ c.t ∧ c.t ≤ 60 ∧ (c.w.length : Int) = c.n ∧ ∀ r ∈ c.w, okRow c.n c.t r = true := by
  simp only [chOk, Bool.and_eq_true, decide_eq_true_eq, List.all_eq_true, inB_iff] at h
  exact ⟨h.1.1, h.1.2, h.2.1.1, h.2.1.2, h.2.2.1, h.2.2.2⟩
theorem getD_mem {α : Type} {l : List α} {k : Nat} {d : α} (h : k < l.length) : l.getD k d ∈ l := by simp [List.getD, h]
theorem take_bd {row : List Int} {hi : Int} (h : ∀ x ∈ row, 0 ≤ x ∧ x ≤ hi) (k : Nat) : 0 ≤ (row.take k).sum ∧ (row.take k).sum ≤ hi * (row.take k).length :=
  sum_bd _ _ fun x hx => h x (List.mem_of_mem_take hx)

set_option maxHeartbeats 4000000 in
theorem pick_any (v : Value) (row : List Int) (d : Int) (w : World) (hv : Ints w v row) (h : ∀ x ∈ row, 0 ≤ x ∧ x ≤ 60) (hl : row.length ≤ 36) (hd0 : 0 ≤ d) (hd : d < row.sum) :
    Calls Try.prog 93 #[v, .int .i64 d] w fun e w' => e = .returned (.int .i64 (pk row d)) ∧ w = w' := by
  have hne : 0 < row.length := by
    rcases row with _ | ⟨x, r⟩
    · simp at hd; omega
    · simp
  obtain ⟨a, cap, rfl, hc1, hc2⟩ := hv.caps
  unfold maxLen at hc2
  go_enter Try.func93, Try.ntmps93
  go_wp2
  go_loop [5] (fun i => ∃ k : Nat, k < row.length ∧ i = .int .i64 k ∧ Hid (∀ j, j < k → (row.take (j + 1)).sum ≤ d)) (fun i => row.length - (intOf i).toNat)
  case atStart => exact ⟨0, hne, rfl, fun j hj => by omega⟩
  case round =>
    obtain ⟨k, hk, rfl, hb⟩ := hrel
    have hr := hv.pre (k + 1) (by omega)
    have hcall := sumOf_any _ (row.take (k + 1)) w hr (fun x hx => by have := h x (List.mem_of_mem_take hx); omega) (by simp; omega)
    have hcap : (k : Int) + 1 ≤ (cap : Int) := by omega
    have hlast : row.length = k + 1 → d < (row.take (k + 1)).sum := fun e => by rw [← e, List.take_length]; exact hd
    have hlast' := Lib.hid hlast
    clear hlast
    obtain ⟨s, hs⟩ : ∃ s, (row.take (k + 1)).sum = s := ⟨_, rfl⟩
    rw [hs] at hcall
    have hs' := Lib.hid hs
    clear hs hv
    by_cases hq : s ≤ d
    · have hlt : k + 1 < row.length := by
        have := hlast'.out
        rw [hs'.out] at this
        omega
      have hn : Hid (∀ j, j < k + 1 → (row.take (j + 1)).sum ≤ d) := fun j hj => by
        by_cases e : j = k
        · subst e; rw [hs'.out]; exact hq
        · exact hb.out j (by omega)
      go_wp2_with fail
      refine hcall.mono ?_
      rintro e w' ⟨rfl, rfl⟩
      go_wp2
      go_round
      case rel => exact ⟨k + 1, hlt, by go_num, hn⟩
      case measure => simp [intOf]; omega
    · have hp := Lib.hid (pk_of ⟨hk, hb.out, by rw [hs'.out]; omega⟩)
      go_wp2_with fail
      refine hcall.mono ?_
      rintro e w' ⟨rfl, rfl⟩
      go_wp2
      go_ret
      exact ⟨ret_int (by rw [hp.out]), rfl⟩

/-- the answer of StepByDraw: the state and the code -/
def stepOf (c : Ch) (s d : Int) : Int × Int :=
  if chOk c = true then (if inB s 0 (c.n - 1) = true ∧ inB d 0 (c.t - 1) = true then ((pk (c.w.getD s.toNat []) d : Nat), 0) else (0, 2)) else (0, 1)

set_option maxHeartbeats 2000000 in
theorem isState_any (cv : Value) (c : Ch) (s : Int) (w : World) (hv : ChR w cv c) (h0 : 1 ≤ c.n) (h1 : c.n ≤ 6) :
    Calls Try.prog 130 #[cv, .int .i64 s] w fun e w' => e = .returned (.bool (inB s 0 (c.n - 1))) ∧ Below w.heap.size w w' := by
  obtain ⟨v, rfl, _⟩ := hv
  obtain ⟨n, t, xss⟩ := c
  simp only at h0 h1 ⊢
  go_enter Try.func130, Try.ntmps130
  go_wp2_with fail
  refine (isIn_any _ _ _ _).mono ?_
  rintro e w' ⟨rfl, rfl⟩
  go_wp2
  go_ret
  exact ⟨rfl, below1 _ _⟩
/-! ### the specification's -/
set_option maxRecDepth 100000 in
set_option maxHeartbeats 4000000 in
theorem l01To_any (b : Nat) (c : Ch) (k : Nat) (d : Int) (w : World) (hv : ChP w b c) (hok : chOk c = true) (hk : k < c.w.length) (hd0 : 0 ≤ d) (hd : d < c.t) :
    Calls Try.prog 71 #[.pointer (some ⟨b, 0, none⟩), .int .i64 k, .int .i64 d] w fun e w' => e = .returned (.int .i64 (pk (c.w.getD k []) d)) ∧ w = w' := by
  obtain ⟨v, p0, p1, p2, R⟩ := hv
  obtain ⟨n1, n2, t1, t2, hlen, hrows⟩ := chOk_all hok
  obtain ⟨q1, q2, q3⟩ := okRow_all (hrows _ (getD_mem (d := []) hk))
  obtain ⟨b1, off, cap, rv, rfl, _, hc⟩ := R.at (by omega)
  obtain ⟨hcell, hrow⟩ := hc k hk
  clear hc R hrows hok
  generalize c.w.getD k [] = row at *
  generalize rv k = rk at hrow hcell
  have hrl : (row.length : Int) = c.n := q1
  obtain ⟨rb, ro, rc, rfl, _, hcr⟩ := hrow.at (by omega)
  have q2' := Lib.hid q2
  have q3' := Lib.hid q3
  have hrl' := Lib.hid hrl
  have hcr' := Lib.hid hcr
  have hlen' := Lib.hid hlen
  clear q1 q2 q3 hrl hcr hlen
  go_enter Try.func71, Try.ntmps71
  go_wp2
  go_loop [7, 8] (fun s i => ∃ (j : Nat) (S : Int), j < row.length ∧ i = .int .i64 j ∧ s = .int .i64 S ∧ 0 ≤ S ∧ S ≤ d ∧ Hid (S = (row.take j).sum) ∧ Hid (∀ l, l < j → (row.take (l + 1)).sum ≤ d)) (fun _ i => row.length - (intOf i).toNat)
  case atStart => exact ⟨0, 0, by have := hrl'.out; omega, rfl, rfl, by omega, by omega, show _ = _ by simp, fun l hl => by omega⟩
  case round =>
    obtain ⟨j, S, hj, rfl, rfl, hS0, hS1, hS, hb⟩ := hrel
    have hx := hcr'.out j hj
    have hxb := q2'.out _ (getD_mem (d := 0) hj)
    have hs1 := Lib.hid (sum_take_succ row j hj)
    generalize row.getD j 0 = x at hx hxb hs1
    obtain ⟨hx0, hx1⟩ := hxb
    have hjn : (j : Int) < c.n := by have := hrl'.out; omega
    have hkl : (k : Int) < (c.w.length : Int) := by omega
    by_cases hq : d < S + x
    · have hp := Lib.hid (pk_of ⟨hj, hb.out, by rw [hs1.out]; have := hS.out; omega⟩)
      go_wp2
      go_ret
      exact ⟨ret_int (by rw [hp.out]), rfl⟩
    · have hlt : j + 1 < row.length := by
        by_cases e : j + 1 = row.length
        · have := hs1.out
          rw [e, List.take_length] at this
          have h3 := q3'.out
          have := hS.out
          omega
        · omega
      have hn : Hid (∀ l, l < j + 1 → (row.take (l + 1)).sum ≤ d) := fun l hl => by
        by_cases e : l = j
        · subst e; have := hs1.out; have := hS.out; omega
        · exact hb.out l (by omega)
      have hSn := Lib.hid (show S + x = (row.take (j + 1)).sum by rw [hs1.out, hS.out])
      go_wp2
      go_round
      case rel => exact ⟨j + 1, S + x, hlt, by go_num, rfl, by omega, by omega, hSn, hn⟩
      case measure => simp [intOf]; omega

end Go.Proofs.Ytnehnlejknieoaa
