/- The text of a chain by the project. Conditions: none. -/
import Derived.Test.YtgaadcinhaphpaaDoorTxt4
import Derived.Test.YtgaadcinhaphpaaDoorOk
namespace Go.Proofs.YtgaadcinhaphpaaDoor
open Go.RowKit Go.Deep
set_option linter.unusedVariables false

theorem own_head {w : World} {lo n : Nat} {e : TypeId} {v : Value} {vs : List Value} (h : w.ownsRow lo e 1 v n vs) (hn : 0 < n) : ∃ g cap, v = .slice (some ⟨g, 0, none⟩) n cap ∧ lo ≤ g := by
  rcases h.2 with ⟨_, h0⟩ | ⟨g, cap, cur, rfl, hg, _⟩
  · omega
  · exact ⟨g, cap, rfl, hg⟩
theorem text_back {P : Program} {w : World} {B L : Nat} {e src dst : TypeId} {g cap : Nat} {l : List UInt8} (h : w.ownsRow B e 1 (.slice (some ⟨g, 0, none⟩) L cap) L (byc l))
    (hs : P.underlying src = some (.slice e)) (he : P.underlying e = some (.int .u8)) (hd : P.underlying dst = some .string) :
    (convert src dst (.slice (some ⟨g, 0, none⟩) L cap)).run P w = .ok (.string (BA l)) w := by
  have hl : l.length = L := by have := h.1; simpa [byc] using this
  subst hl
  exact run_convert_bytes_back (P := P) w src dst e ⟨g, 0, none⟩ cap l hs he hd (fun j hj => h.cells (g := g) rfl j _ (by simp [byc, List.getElem?_eq_getElem hj]))

theorem rowsT_next (xss : List (List Int)) (k : Nat) (h : k < xss.length) : rowsT (xss.take (k + 1)) = rowsT (xss.take k) ++ lineL [102, 114, 111, 109] (xss.getD k []) := by
  rw [take_next _ [] k h]
  simp [rowsT]

end Go.Proofs.YtgaadcinhaphpaaDoor
