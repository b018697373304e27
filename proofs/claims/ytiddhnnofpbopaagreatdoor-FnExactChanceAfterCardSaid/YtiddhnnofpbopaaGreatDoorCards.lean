/-
  DERIVED. GIVEN WITH THE SEED: THE CARDS: each row of YtiddhnnofpbopaaGreatDoorRows.lean that lists a variable, with what it lists TIED to the program's text (the seventh form; the later family's looks); each row that meets fmt, with fmt's text TOLD by the authors' own Lean function (tested against real Go, not proved from fmt's source: count such statements apart). THE CARD IS WHAT COUNTS. Prove the row's statement (the work); the ties are given (YtiddhnnofpbopaaGreatDoorTie.lean); close each card by the builder's one call (the guide's Derived/Test/ToyasCard.lean, 'card_holds'). Laid BY PROGRAM, IN A SANDBOX (cutbox-door.mjs). By AI agents, Wed Nov 11 2026. No macro, syntax, notation, axiom, sorry.
-/
import Derived.Test.YtiddhnnofpbopaaGreatDoorRows
import GoSem.ClaimSeven
namespace Go.Proofs.YtiddhnnofpbopaaGreatDoor
namespace Rows

/-- THE TIED CARD OF 'laws.FnSteps'. -/
def fnStepsCard : Claim7 := { stood := { row := fnStepsRow, standIns := [], harness := (true, "9a54face0f94f5f3e59b4fc25abc16c2904610ee29dbbc844e094dabf6e5bc3a"), looks := false }, kinds := [], alts := [], laidByText := true, laidKinds := [.data, .data, .data], laidTests := true, laidLooks := .later }
def FnStepsCardSaid : Prop := Claim7.holds Tryz.pinned (.plain (OpenSpec.ofChange fnStepsSpec)) fnStepsCard

/-- THE TIED CARD OF 'laws.FnExactSpreadAfter'. -/
def fnExactSpreadAfterCard : Claim7 := { stood := { row := fnExactSpreadAfterRow, standIns := [], harness := (true, "9a54face0f94f5f3e59b4fc25abc16c2904610ee29dbbc844e094dabf6e5bc3a"), looks := false }, kinds := [], alts := [], laidByText := true, laidKinds := [.data, .data, .data], laidTests := true, laidLooks := .later }
def FnExactSpreadAfterCardSaid : Prop := Claim7.holds Tryz.pinned (.plain (OpenSpec.ofChange fnExactSpreadAfterSpec)) fnExactSpreadAfterCard

/-- THE TIED CARD OF 'laws.FnExactChanceAfter'. -/
def fnExactChanceAfterCard : Claim7 := { stood := { row := fnExactChanceAfterRow, standIns := [], harness := (true, "9a54face0f94f5f3e59b4fc25abc16c2904610ee29dbbc844e094dabf6e5bc3a"), looks := false }, kinds := [], alts := [], laidByText := true, laidKinds := [.data, .data, .data], laidTests := true, laidLooks := .later }
def FnExactChanceAfterCardSaid : Prop := Claim7.holds Tryz.pinned (.plain (OpenSpec.ofChange fnExactChanceAfterSpec)) fnExactChanceAfterCard

/-- THE SECOND FORM's CARD OF 'laws.FnSteps'. -/
def fnStepsUptoCard : Claim7 := { stood := { row := fnStepsUptoRow, standIns := [], harness := (true, "9a54face0f94f5f3e59b4fc25abc16c2904610ee29dbbc844e094dabf6e5bc3a"), looks := false }, kinds := [], alts := [], laidByText := true, laidKinds := [.data, .data, .data], laidTests := true, laidLooks := .later }
def FnStepsUptoCardSaid : Prop := Claim7.holds Tryz.pinned (.plain (OpenSpec.upto fnStepsSpec)) fnStepsUptoCard

/-- THE SECOND FORM's CARD OF 'laws.FnExactSpreadAfter'. -/
def fnExactSpreadAfterUptoCard : Claim7 := { stood := { row := fnExactSpreadAfterUptoRow, standIns := [], harness := (true, "9a54face0f94f5f3e59b4fc25abc16c2904610ee29dbbc844e094dabf6e5bc3a"), looks := false }, kinds := [], alts := [], laidByText := true, laidKinds := [.data, .data, .data], laidTests := true, laidLooks := .later }
def FnExactSpreadAfterUptoCardSaid : Prop := Claim7.holds Tryz.pinned (.plain (OpenSpec.upto fnExactSpreadAfterSpec)) fnExactSpreadAfterUptoCard

/-- THE SECOND FORM's CARD OF 'laws.FnExactChanceAfter'. -/
def fnExactChanceAfterUptoCard : Claim7 := { stood := { row := fnExactChanceAfterUptoRow, standIns := [], harness := (true, "9a54face0f94f5f3e59b4fc25abc16c2904610ee29dbbc844e094dabf6e5bc3a"), looks := false }, kinds := [], alts := [], laidByText := true, laidKinds := [.data, .data, .data], laidTests := true, laidLooks := .later }
def FnExactChanceAfterUptoCardSaid : Prop := Claim7.holds Tryz.pinned (.plain (OpenSpec.upto fnExactChanceAfterSpec)) fnExactChanceAfterUptoCard
end Rows
end Go.Proofs.YtiddhnnofpbopaaGreatDoor
