/- ClassesOf, ClosedClasses and IsConnected of the specification. Conditions: none. -/
import Derived.Test.YtkebfnmepbblnaaClassS
namespace Go.Proofs.Ytkebfnmepbblnaa
open Go.RowKit Go.Deep
set_option linter.unusedVariables false

theorem joined_no {n : Nat} {r : Nat → Nat → Bool} (P : Pre n r) (hn : 0 < n) (h : ¬ ((closedL r n n).length = 1 ∧ ((closedL r n n).getD 0 []).length = n)) : joinedB r n = false := by
  rw [Bool.eq_false_iff]; intro h1; exact h ((joined_spec P hn).1 h1)

set_option maxRecDepth 100000 in
set_option maxHeartbeats 4000000 in
theorem l02Joined_any (b : Nat) (c : Ch) (w : World) (hc : ChP w b c) (oc : chOk c = true) :
    Calls Try.prog 73 #[.pointer (some ⟨b, 0, none⟩)] w fun e w' => e = .returned (.bool (joinedB (rchB c) c.w.length)) ∧ Below w.heap.size w w' := by
  obtain ⟨n1, n2, t1, t2, hlen, hrows⟩ := chOk_all oc
  have hcl := l02Closed_any b c w hc oc
  have hP := pre_rch c
  have hjs := joined_spec hP (by omega)
  have hjn := joined_no hP (by omega)
  obtain ⟨v, k0, k1, k2, R⟩ := hc
  have l0 := block_lt k0
  simp only at l0
  have hnN : c.n = (c.w.length : Int) := by omega
  rw [hnN] at k0
  clear hnN hlen hrows R k1 k2 oc n1 n2 hP
  generalize closedL (rchB c) c.w.length c.w.length = cl at *
  generalize joinedB (rchB c) c.w.length = jb at *
  generalize c.w.length = N at *
  by_cases h1 : cl.length = 1
  · obtain ⟨xs, rfl⟩ : ∃ xs, cl = [xs] := by
      cases cl with
      | nil => simp at h1
      | cons x l => cases l with
        | nil => exact ⟨x, rfl⟩
        | cons y l => simp at h1
    simp only [List.length_cons, List.length_nil, List.getD_cons_zero, Nat.zero_add, true_and] at hjs hjn hcl
    have hj' := Lib.hid (show jb = decide (xs.length = N) by
      by_cases e : xs.length = N
      · rw [hjs.2 e]; simp [e]
      · rw [hjn e]; simp [e])
    clear hjs hjn h1
    go_enter Try.func73, Try.ntmps73
    go_wp2_with fail
    refine hcl.mono ?_
    rintro e w1 ⟨g, gc, rvs, rfl, hM, b1⟩
    have q0 := (b1.cell (p := ⟨b, 0, none⟩) l0).trans k0
    obtain ⟨g', cap', hv, -, -, -, hcell, -⟩ := hM.own.at (by rw [hM.len]; simp)
    simp only [Value.slice.injEq, Option.some.injEq, Addr.mk.injEq] at hv
    obtain ⟨⟨rfl, -, -⟩, -, rfl⟩ := hv
    have c0 := hcell 0 (by rw [hM.len]; simp)
    obtain ⟨hxm, a, cap, hxs⟩ := (show Ints w1 (rvs.getD 0 undef) xs from (hM.rows 0 (by simp)).row).len
    rw [hxs] at c0
    have hq := Lib.hid (natcast_beq xs.length N)
    unfold maxLen at hxm
    clear hM hcell hxs
    go_wp2_with fail
    go_quiet (fail)
    go_wp2
    go_ret
    exact ⟨by rw [hj'.out]; exact ret_bool hq.out, below_drewN b1 _⟩
  · have hj' := Lib.hid (hjn (fun h => h1 h.1))
    have hL1 : ((cl.length : Int) == 1) = false := by simp; omega
    clear hjs hjn h1
    go_enter Try.func73, Try.ntmps73
    go_wp2_with fail
    refine hcl.mono ?_
    rintro e w1 ⟨g, gc, rvs, rfl, hM, b1⟩
    clear hM
    go_wp2_with fail
    go_quiet (fail)
    go_wp2
    go_ret
    exact ⟨ret_bool hj'.out.symm, below_drewN b1 _⟩

def clsOf (c : Ch) : List Int × Int := if chOk c = true then (numL (rchB c) c.w.length, 0) else ([], 1)
def cloOf (c : Ch) : List (List Int) × Int := if chOk c = true then (closedL (rchB c) c.w.length c.w.length, 0) else ([], 1)
def conOf (c : Ch) : Bool × Int := if chOk c = true then (joinedB (rchB c) c.w.length, 0) else (false, 1)
theorem MadeV.ownRows {e2 e1 : TypeId} {w : World} {lo hi : Nat} {v : Value} {rvs : List Value} {xss : List (List Int)} (h : MadeV e2 e1 w lo hi v rvs (xss.map ints)) : OwnRows e2 e1 w lo hi v xss := by
  refine ⟨rvs, h.own, by simpa using h.len, fun i hi => ?_, fun i hi => h.apart i (by simpa using hi), fun i j hi hj => h.far i j (by simpa using hi) (by simpa using hj)⟩
  have := h.rows i (by simpa using hi)
  simpa [List.getD, hi] using this

end Go.Proofs.Ytkebfnmepbblnaa
