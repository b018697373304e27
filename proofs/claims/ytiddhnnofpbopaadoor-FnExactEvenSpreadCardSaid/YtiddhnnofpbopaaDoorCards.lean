/-
  DERIVED. GIVEN WITH THE SEED: THE CARDS: each row of YtiddhnnofpbopaaDoorRows.lean that lists a variable, with what it lists TIED to the program's text (the seventh form; the later family's looks); each row that meets fmt, with fmt's text TOLD by the authors' own Lean function (tested against real Go, not proved from fmt's source: count such statements apart). THE CARD IS WHAT COUNTS. Prove the row's statement (the work); the ties are given (YtiddhnnofpbopaaDoorTie.lean); close each card by the builder's one call (the guide's Derived/Test/ToyasCard.lean, 'card_holds'). Laid BY PROGRAM, IN A SANDBOX (cutbox-door.mjs). By AI agents, Wed Nov 11 2026. No macro, syntax, notation, axiom, sorry.
-/
import Derived.Test.YtiddhnnofpbopaaDoorRows
import GoSem.ClaimSeven
namespace Go.Proofs.YtiddhnnofpbopaaDoor
namespace Rows

/-- THE TIED CARD OF 'laws.FnExactEvenSpread'. -/
def fnExactEvenSpreadCard : Claim7 := { stood := { row := fnExactEvenSpreadRow, standIns := [], harness := (true, "a95b3ed5dd812b6aafe41d0322d7008a9009dc94826c09ee99f20cebf1c400ed"), looks := false }, kinds := [], alts := [], laidByText := true, laidKinds := [.data, .data, .data], laidTests := true, laidLooks := .later }
def FnExactEvenSpreadCardSaid : Prop := Claim7.holds Tryd.pinned (.plain (OpenSpec.ofChange fnExactEvenSpreadSpec)) fnExactEvenSpreadCard

/-- THE SECOND FORM's CARD OF 'laws.FnExactEvenSpread'. -/
def fnExactEvenSpreadUptoCard : Claim7 := { stood := { row := fnExactEvenSpreadUptoRow, standIns := [], harness := (true, "a95b3ed5dd812b6aafe41d0322d7008a9009dc94826c09ee99f20cebf1c400ed"), looks := false }, kinds := [], alts := [], laidByText := true, laidKinds := [.data, .data, .data], laidTests := true, laidLooks := .later }
def FnExactEvenSpreadUptoCardSaid : Prop := Claim7.holds Tryd.pinned (.plain (OpenSpec.upto fnExactEvenSpreadSpec)) fnExactEvenSpreadUptoCard
end Rows
end Go.Proofs.YtiddhnnofpbopaaDoor
