/- Rows of one length, each cell; 'all' over numbers below k. Pure, but for the cells. Conditions: none. -/
import Derived.Test.YtcijggfbfpfcdaaOkS
import Derived.Test.YtcijggfbfpfcdaaStep
namespace Go.Proofs.Ytcijggfbfpfcdaa
open Go.RowKit Go.Deep
set_option linter.unusedVariables false

theorem rngAll_no {f : Nat → Bool} {k L : Nat} (hk : k < L) (h : f k = false) : (List.range L).all f = false := by
  rw [Bool.eq_false_iff]; intro hc
  rw [List.all_eq_true] at hc
  have := hc k (by simpa using hk)
  rw [h] at this; cases this
theorem rngAll_succ {f : Nat → Bool} {k : Nat} (h : (List.range k).all f = true) (hk : f k = true) : (List.range (k + 1)).all f = true := by
  rw [List.range_succ, List.all_append, h]; simp [hk]
theorem gridI {w : World} {v : Value} {xss : List (List Int)} {N : Nat} (hv : Rows2 w v xss) (hl : xss.length = N) (h0 : 0 < N) (hr : ∀ s, s < N → (xss.getD s []).length = N) :
    ∃ b off cap, v = .slice (some ⟨b, off, none⟩) N cap ∧ ∀ s, s < N → ∃ rb ro rc, w.cell? ⟨b, off + s, none⟩ = some (.slice (some ⟨rb, ro, none⟩) N rc) ∧ ∀ t, t < N → w.cell? ⟨rb, ro + t, none⟩ = some (.int .i64 ((xss.getD s []).getD t 0)) := by
  obtain ⟨b, off, cap, rv, rfl, _, hc⟩ := hv.at (by omega)
  refine ⟨b, off, cap, by rw [hl], fun s hs => ?_⟩
  obtain ⟨h1, h2⟩ := hc s (by omega)
  have hrs := hr s hs
  obtain ⟨rb, ro, rc, hrv, _, h3⟩ := h2.at (by omega)
  rw [hrs] at hrv
  exact ⟨rb, ro, rc, by rw [h1, hrv], fun t ht => h3 t (by omega)⟩
end Go.Proofs.Ytcijggfbfpfcdaa
