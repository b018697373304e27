/- Bytes that came in, opened. Conditions: those of the row. -/
import Derived.Test.YtcbpbhaimjhelaaGreatDoorChainH
import Derived.Test.YtcbpbhaimjhelaaGreatDoorChainG
namespace Go.Proofs.YtcbpbhaimjhelaaGreatDoor
open Go.ChangeShapes Go.WideShapes Go.ChangeAt Go.RowKit Go.Deep Go.Joins
set_option linter.unusedVariables false

set_option maxRecDepth 100000 in
theorem open_code {H : Type} {enc : TypeId × Value → H} {W : World} {base b0 : Nat} {held : Bool} {v : Value} {d : DataW H} {p : List MemPlace}
    (hv : Value.okWide Tryz.prog W .any base 22 v) (h : DataW.Trod enc Tryz.prog W b0 (fun _ => true) held 22 v d p) : ∃ len, Bytes W v len := by
  obtain ⟨sa, sl, sc, rfl⟩ := okWide_slice Tryz.underlying22 hv
  obtain ⟨m, h⟩ := h
  rcases open_ints Tryz.underlying22 Tryz.underlying5 (by kernel_rfl) h with ⟨hcs, _⟩ | ⟨a, len, cap, zs, hcs, _, hl, hm, hz, _, hc, hw⟩
  · simp [Value.cells] at hcs
    obtain ⟨rfl, rfl, rfl⟩ := hcs
    exact ⟨0, by simp [maxLen], none, 0, rfl, fun i hi => by omega⟩
  · simp [Value.cells] at hcs
    obtain ⟨rfl, rfl, rfl⟩ := hcs
    simp only [if_true] at hz
    refine ⟨sl, by omega, some a, sc, rfl, fun i hi => ?_⟩
    have ci := hc i (by omega)
    have hs := spot_none hc (by omega)
    have hwf := hw _ (getD_mem (d := 0) (show i < zs.length by omega))
    rw [hs, add_plain] at ci
    exact ⟨a.block, a.off, zs.getD i 0, by rw [← hs], ci, (bounds_u8 hwf).1, (bounds_u8 hwf).2⟩
end Go.Proofs.YtcbpbhaimjhelaaGreatDoor
