/- MapsByDraws of both sides. Conditions: none. -/
import Derived.Test.YtacnafjmcfcalaaMsMake
import Derived.Test.YtacnafjmcfcalaaMsCh
import Derived.Test.YtacnafjmcfcalaaStep
import Derived.Deep.AppendLies
import Derived.Deep.RegionLaw
namespace Go.Proofs.Ytacnafjmcfcalaa
open Go.RowKit Go.Deep
set_option linter.unusedVariables false

theorem own2_shape {w : World} {lo n size : Nat} {e : TypeId} {v : Value} {vs : List Value} (h : w.ownsRow lo e size v n vs) (hn : 0 < n) : ∃ g cap, v = .slice (some ⟨g, 0, none⟩) n cap := by
  rcases h.2 with ⟨_, h0⟩ | ⟨g, cap, cur, hv, _⟩
  · omega
  · exact ⟨g, cap, hv⟩
/-- the map of a draw -/
def drawTo (c : Ch) (N d : Nat) : List Int := (List.range N).map fun s => ((pk (c.w.getD s []) d : Nat) : Int)
theorem drawTo_length (c : Ch) (N d : Nat) : (drawTo c N d).length = N := by simp [drawTo]
def mbdOf (c : Ch) : Ms × Int := if chOk c = true then (⟨c.n, c.t, (List.range c.t.toNat).map fun d => (1, drawTo c c.n.toNat d)⟩, 0) else (⟨0, 0, []⟩, 1)

end Go.Proofs.Ytacnafjmcfcalaa
