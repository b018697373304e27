/- Out of the past by windows. Conditions: told in each. -/
import Derived.Test.YtacnafjmcfcalaaPst2
namespace Go.Proofs.Ytacnafjmcfcalaa
open Go.RowKit Go.Deep
set_option linter.unusedVariables false

def oc1 (k : Nat) : Nat := (k / 2 &&& 6148914691236517205) + (k &&& 6148914691236517205)
def oc2 (k : Nat) : Nat := (oc1 k / 4 &&& 3689348814741910323) + (oc1 k &&& 3689348814741910323)
def oc3 (k : Nat) : Nat := (oc2 k / 16 + oc2 k) &&& 1085102592571150095
def oc4 (k : Nat) : Nat := oc3 k + oc3 k / 256
def oc5 (k : Nat) : Nat := oc4 k + oc4 k / 65536
def oc6 (k : Nat) : Nat := oc5 k + oc5 k / 4294967296
theorem oc1_eq : ∀ k : Fin 201, IntKind.u64.wrap (bits BinOp.and IntKind.u64 ((k.val : Int) / 2) 6148914691236517205 + bits BinOp.and IntKind.u64 (k.val : Int) 6148914691236517205) = ((oc1 k.val : Nat) : Int) := by decide +kernel
theorem oc2_eq : ∀ k : Fin 201, IntKind.u64.wrap (bits BinOp.and IntKind.u64 ((oc1 k.val : Int) / 4) 3689348814741910323 + bits BinOp.and IntKind.u64 (oc1 k.val : Int) 3689348814741910323) = ((oc2 k.val : Nat) : Int) := by decide +kernel
theorem oc3_eq : ∀ k : Fin 201, bits BinOp.and IntKind.u64 (IntKind.u64.wrap ((oc2 k.val : Int) / 16 + (oc2 k.val : Int))) 1085102592571150095 = ((oc3 k.val : Nat) : Int) := by decide +kernel
theorem oc4_eq : ∀ k : Fin 201, IntKind.u64.wrap ((oc3 k.val : Int) + (oc3 k.val : Int) / 256) = ((oc4 k.val : Nat) : Int) := by decide +kernel
theorem oc5_eq : ∀ k : Fin 201, IntKind.u64.wrap ((oc4 k.val : Int) + (oc4 k.val : Int) / 65536) = ((oc5 k.val : Nat) : Int) := by decide +kernel
theorem oc6_eq : ∀ k : Fin 201, IntKind.u64.wrap ((oc5 k.val : Int) + (oc5 k.val : Int) / 4294967296) = ((oc6 k.val : Nat) : Int) := by decide +kernel
theorem oc7_eq : ∀ k : Fin 201, bits BinOp.and IntKind.i64 (wrap64 (oc6 k.val : Int)) 127 = ((Lib.onesCount k.val : Nat) : Int) := by decide +kernel
theorem OnesCount64_any (k : Nat) (w : World) (h : k ≤ 200) :
    Calls Try.prog 158 #[.int .u64 k] w fun e w' => e = .returned (.int .i64 (Lib.onesCount k)) ∧ w = w' := by
  have h1 := oc1_eq ⟨k, by omega⟩
  have h2 := oc2_eq ⟨k, by omega⟩
  have h3 := oc3_eq ⟨k, by omega⟩
  have h4 := oc4_eq ⟨k, by omega⟩
  have h5 := oc5_eq ⟨k, by omega⟩
  have h6 := oc6_eq ⟨k, by omega⟩
  simp only at h1 h2 h3 h4 h5 h6
  have h7 := Lib.hid (oc7_eq ⟨k, by omega⟩)
  go_enter Try.func158, Try.ntmps158
  go_wp2
  go_ret
  exact ⟨congrArg (fun z => Ending.returned (.int .i64 z)) h7.out, rfl⟩
/-- a number of maps that may be taken: 0, 1, 2, 4, 8 .. -/
def mayW (k : Nat) : Bool := decide (Lib.onesCount k ≤ 1)
theorem isWindow_any (k : Nat) (W : World) (h : k ≤ 200) : Calls Try.prog 91 #[.int .i64 k] W fun e W' => e = .returned (.bool (mayW k)) ∧ W = W' := by
  have h1 := OnesCount64_any k W h
  have hw : IntKind.u64.wrap (k : Int) = (k : Int) := by rw [IntKind.wrap_u64]; omega
  by_cases hc : Lib.onesCount k ≤ 1
  · have hr := Lib.hid (show mayW k = true from decide_eq_true hc)
    generalize Lib.onesCount k = z at h1 hc
    have hz : (z : Int) ≤ 1 := by omega
    go_enter Try.func91, Try.ntmps91
    go_wp2_with fail
    refine h1.mono ?_
    rintro e w' ⟨rfl, rfl⟩
    go_wp2
    go_ret
    exact ⟨by rw [hr.out]; try simp, rfl⟩
  · have hr := Lib.hid (show mayW k = false from decide_eq_false hc)
    generalize Lib.onesCount k = z at h1 hc
    have hz : ¬ (z : Int) ≤ 1 := by omega
    go_enter Try.func91, Try.ntmps91
    go_wp2_with fail
    refine h1.mono ?_
    rintro e w' ⟨rfl, rfl⟩
    go_wp2
    go_ret
    exact ⟨by rw [hr.out]; simp; omega, rfl⟩
theorem mayW_pow : ∀ i : Fin 9, mayW (2 ^ i.val) = true := by decide +kernel
theorem mayW_gap : ∀ (i : Fin 8) (j : Fin 201), 2 ^ i.val < j.val → j.val < 2 ^ (i.val + 1) → mayW j.val = false := by decide +kernel
theorem leastF_skip {run : Nat → List Int} {may : Nat → Bool} {L : Nat} : ∀ (d k : Nat), k + d ≤ L + 1 → (∀ j, k ≤ j → j < k + d → may j = false) → leastF run may k (L + 1 - k) = leastF run may (k + d) (L + 1 - (k + d))
  | 0, k, _, _ => rfl
  | d + 1, k, h, hf => by
    rw [leastF_no (by omega) (by rw [hf k (Nat.le_refl _) (by omega)]; simp), leastF_skip d (k + 1) (by omega) (fun j a b => hf j (by omega) (by omega)), show k + 1 + d = k + (d + 1) by omega]
/-- WindowRun's answer -/
def winOf (m : Ms) (ps : List Int) : Int × Int × Int := if askC m ps = 0 then leastF (fun k => backF m ps (allS m.n.toNat) k) mayW 0 (ps.length + 1 - 0) else (0, 0, askC m ps)
theorem win_fin {m : Ms} {ps : List Int} (r : Int × Int × Int) (h : winOf m ps = r) (w w' : World) (hb : Below w.heap.size w w') (e : Ending) (he : e = .returned (.tuple #[.int .i64 r.1, .int .i64 r.2.1, .int .i64 r.2.2])) :
    e = .returned (.tuple #[.int .i64 (winOf m ps).1, .int .i64 (winOf m ps).2.1, .int .i64 (winOf m ps).2.2]) ∧ Below w.heap.size w w' := by
  rw [h]; exact ⟨he, hb⟩
/-- from one window on to the next -/
theorem win_next {run : Nat → List Int} {L i : Nat} (hL : L ≤ 200) (hi : 2 ^ i ≤ L) (e : eqAll (run (2 ^ i)) = false) :
    leastF run mayW (2 ^ i) (L + 1 - 2 ^ i) = leastF run mayW (min (2 ^ (i + 1)) (L + 1)) (L + 1 - min (2 ^ (i + 1)) (L + 1)) := by
  have h8 : i < 8 := by
    rcases Nat.lt_or_ge i 8 with h | h
    · exact h
    · have : 2 ^ 8 ≤ 2 ^ i := Nat.pow_le_pow_right (by decide) h
      omega
  have hp : 2 ^ (i + 1) = 2 * 2 ^ i := by rw [Nat.pow_succ]; omega
  have h1 : 1 ≤ 2 ^ i := Nat.one_le_two_pow
  rw [leastF_no hi (by rw [e]; rfl)]
  obtain ⟨d, hd⟩ : ∃ d, min (2 ^ (i + 1)) (L + 1) = 2 ^ i + 1 + d := ⟨min (2 ^ (i + 1)) (L + 1) - (2 ^ i + 1), by omega⟩
  rw [hd]
  exact leastF_skip d _ (by omega) fun j a b => mayW_gap ⟨i, h8⟩ ⟨j, by omega⟩ (by simp only; omega) (by simp only; omega)
theorem win_zero {m : Ms} {ps : List Int} {N : Nat} (h2 : 2 ≤ N) : leastF (fun k => backF m ps (allS N) k) mayW 0 (ps.length + 1 - 0) = leastF (fun k => backF m ps (allS N) k) mayW (min (2 ^ 0) (ps.length + 1)) (ps.length + 1 - min (2 ^ 0) (ps.length + 1)) := by
  have : eqAll (allS N) = false := by
    rw [Bool.eq_false_iff]
    intro h
    have := eqAll_iff.1 h 1 (by simp [allS]; exact ⟨1, by omega, rfl⟩)
    simp [allS, List.getD, show 0 < N by omega] at this
  rw [leastF_no (k := 0) (by omega) (by show (eqAll (allS N) && mayW 0) = false; rw [this]; rfl)]
  rw [show min (2 ^ 0) (ps.length + 1) = 0 + 1 by simp]
theorem win_one {m : Ms} {ps : List Int} : leastF (fun k => backF m ps (allS 1) k) mayW 0 (ps.length + 1 - 0) = (0, 0, 0) := by
  rw [leastF_yes (k := 0) (by omega) (by show eqAll (allS 1) = true; decide) (by decide)]
  rfl

end Go.Proofs.Ytacnafjmcfcalaa
