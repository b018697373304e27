/- ChainOfMaps of the specification. Conditions: none. -/
import Derived.Test.YtacnafjmcfcalaaMsCh
import Derived.StillTailTactics
import Derived.Deep.DeepCutAuto
namespace Go.Proofs.Ytacnafjmcfcalaa
open Go.RowKit Go.Deep
set_option linter.unusedVariables false

theorem ms_make_len (n : Int) (h0 : 0 ≤ n) (h1 : n ≤ 1000000) : ∀ u : World, (Instr.makeSlice 28 (.int .i64 n) (.int .i64 n)).run Try.prog u =
    .ok (.slice (some ⟨u.heap.size, 0, none⟩) n.toNat n.toNat) (u.alloc (.cells (madeCells #[.int .i64 0] n.toNat) 2)) := fun u => by
  obtain ⟨i0, hi, hz0, hz1, hz2⟩ := info_parts Try.infoI
  have h := run_make (P := Try.prog) u 28 2 i0 (.int .i64 0) Try.underlying28 hi hz0 .i64 .i64 n n h0 (by omega) (by rw [hz2]; omega) (by omega)
  simpa [hz1, Value.cells] using h

/-- the row of s by the first k maps -/
def rowW (l : List Mp) (N s k : Nat) : List Int := (List.range N).map fun j => wto (l.take k) s j
theorem rowW_length (l : List Mp) (N s k : Nat) : (rowW l N s k).length = N := by simp [rowW]
theorem rowW_getD (l : List Mp) (N s k j : Nat) (h : j < N) : (rowW l N s k).getD j 0 = wto (l.take k) s j := by simp [rowW, List.getD, h]
theorem rowW_zero (l : List Mp) (N s : Nat) : rowW l N s 0 = List.replicate N 0 := by
  refine List.ext_getElem (by simp [rowW]) fun i h1 h2 => ?_
  simp [rowW, wto]
theorem rowW_all (l : List Mp) (N s : Nat) : rowW l N s l.length = (List.range N).map fun j => wto l s j := by simp [rowW]
theorem rowW_set (l : List Mp) (N s k m : Nat) (hk : k < l.length) (hm : m < N) (hy : (l.getD k mp0).2.getD s 0 = (m : Int)) :
    (rowW l N s k).set m (wto (l.take k) s m + (l.getD k mp0).1) = rowW l N s (k + 1) := by
  refine List.ext_getElem (by simp [rowW]) fun i h1 h2 => ?_
  have hi : i < N := by simpa [rowW] using h2
  have e2 : (rowW l N s (k + 1))[i] = wto (l.take (k + 1)) s i := by simp [rowW]
  rw [e2, wto_take_succ l s i k hk]
  by_cases e : i = m
  · subst e
    rw [List.getElem_set_self]
    congr 1
    unfold wat
    rw [if_pos (by rw [hy]; simp)]
  · rw [List.getElem_set_ne (Ne.symm e)]
    have e3 : (rowW l N s k)[i]'(by simpa [rowW] using hi) = wto (l.take k) s i := by simp [rowW]
    rw [e3]
    have : wat s i (l.getD k mp0) = 0 := by unfold wat; rw [if_neg (by rw [hy]; simp; omega)]
    omega
theorem wto_bd {l : List Mp} (h : ∀ k, k < l.length → 1 ≤ (l.getD k mp0).1 ∧ (l.getD k mp0).1 ≤ 60) (s j : Nat) : ∀ k, k ≤ l.length → 0 ≤ wto (l.take k) s j ∧ wto (l.take k) s j ≤ 60 * (k : Int)
  | 0, _ => by simp [wto]
  | k + 1, hk => by
    have ih := wto_bd h s j k (by omega)
    have hx := h k (by omega)
    rw [wto_take_succ l s j k (by omega)]
    unfold wat
    split <;> omega

theorem l05Ok_bel (b : Nat) (c : Ms) (w : World) (hv : MsP w b c) :
    Calls Try.prog 94 #[.pointer (some ⟨b, 0, none⟩)] w fun e w' => e = .returned (.bool (msOk c)) ∧ Below w.heap.size w w' :=
  (l05Ok_any b c w hv).mono fun _ _ ⟨h1, m, h2⟩ => ⟨h1, by rw [h2]; exact below_drewN (Below.refl _ _) m⟩

end Go.Proofs.Ytacnafjmcfcalaa
