/-
  DERIVED. GIVEN WITH THE SEED: THE CARDS: each row of YtcbpbhaimjhelaaGreatDoorRows.lean that lists a variable, with what it lists TIED to the program's text (the seventh form; the later family's looks); each row that meets fmt, with fmt's text TOLD by the authors' own Lean function (tested against real Go, not proved from fmt's source: count such statements apart). THE CARD IS WHAT COUNTS. Prove the row's statement (the work); the ties are given (YtcbpbhaimjhelaaGreatDoorTie.lean); close each card by the builder's one call (the guide's Derived/Test/ToyasCard.lean, 'card_holds'). Laid BY PROGRAM, IN A SANDBOX (cutbox-door.mjs). By AI agents, Wed Nov 11 2026. No macro, syntax, notation, axiom, sorry.
-/
import Derived.Test.YtcbpbhaimjhelaaGreatDoorRows
import GoSem.ClaimSeven
namespace Go.Proofs.YtcbpbhaimjhelaaGreatDoor
namespace Rows

/-- THE TIED CARD OF 'laws.FnFractions'. -/
def fnFractionsCard : Claim7 := { stood := { row := fnFractionsRow, standIns := [], harness := (true, "45f2684c3a7f54e46425a959a6a4822fb9a02b91778fd407763758523c5094de"), looks := false }, kinds := [], alts := [], laidByText := true, laidKinds := [.data, .data, .data], laidTests := true, laidLooks := .later }
def FnFractionsCardSaid : Prop := Claim7.holds Tryz.pinned (.plain (OpenSpec.ofChange fnFractionsSpec)) fnFractionsCard

/-- THE TIED CARD OF 'laws.FnSteps'. -/
def fnStepsCard : Claim7 := { stood := { row := fnStepsRow, standIns := [], harness := (true, "45f2684c3a7f54e46425a959a6a4822fb9a02b91778fd407763758523c5094de"), looks := false }, kinds := [], alts := [], laidByText := true, laidKinds := [.data, .data, .data], laidTests := true, laidLooks := .later }
def FnStepsCardSaid : Prop := Claim7.holds Tryz.pinned (.plain (OpenSpec.ofChange fnStepsSpec)) fnStepsCard

/-- THE TIED CARD OF 'laws.FnExactMixSpreads'. -/
def fnExactMixSpreadsCard : Claim7 := { stood := { row := fnExactMixSpreadsRow, standIns := [], harness := (true, "45f2684c3a7f54e46425a959a6a4822fb9a02b91778fd407763758523c5094de"), looks := false }, kinds := [], alts := [], laidByText := true, laidKinds := [.data, .data, .data], laidTests := true, laidLooks := .later }
def FnExactMixSpreadsCardSaid : Prop := Claim7.holds Tryz.pinned (.plain (OpenSpec.ofChange fnExactMixSpreadsSpec)) fnExactMixSpreadsCard

/-- THE TIED CARD OF 'laws.FnExactSpreadAfter'. -/
def fnExactSpreadAfterCard : Claim7 := { stood := { row := fnExactSpreadAfterRow, standIns := [], harness := (true, "45f2684c3a7f54e46425a959a6a4822fb9a02b91778fd407763758523c5094de"), looks := false }, kinds := [], alts := [], laidByText := true, laidKinds := [.data, .data, .data], laidTests := true, laidLooks := .later }
def FnExactSpreadAfterCardSaid : Prop := Claim7.holds Tryz.pinned (.plain (OpenSpec.ofChange fnExactSpreadAfterSpec)) fnExactSpreadAfterCard

/-- THE TIED CARD OF 'laws.FnExactChanceAfter'. -/
def fnExactChanceAfterCard : Claim7 := { stood := { row := fnExactChanceAfterRow, standIns := [], harness := (true, "45f2684c3a7f54e46425a959a6a4822fb9a02b91778fd407763758523c5094de"), looks := false }, kinds := [], alts := [], laidByText := true, laidKinds := [.data, .data, .data], laidTests := true, laidLooks := .later }
def FnExactChanceAfterCardSaid : Prop := Claim7.holds Tryz.pinned (.plain (OpenSpec.ofChange fnExactChanceAfterSpec)) fnExactChanceAfterCard

/-- THE TIED CARD OF 'laws.FnExactExpectedValue'. -/
def fnExactExpectedValueCard : Claim7 := { stood := { row := fnExactExpectedValueRow, standIns := [], harness := (true, "45f2684c3a7f54e46425a959a6a4822fb9a02b91778fd407763758523c5094de"), looks := false }, kinds := [], alts := [], laidByText := true, laidKinds := [.data, .data, .data], laidTests := true, laidLooks := .later }
def FnExactExpectedValueCardSaid : Prop := Claim7.holds Tryz.pinned (.plain (OpenSpec.ofChange fnExactExpectedValueSpec)) fnExactExpectedValueCard

/-- THE SECOND FORM's CARD OF 'laws.FnFractions'. -/
def fnFractionsUptoCard : Claim7 := { stood := { row := fnFractionsUptoRow, standIns := [], harness := (true, "45f2684c3a7f54e46425a959a6a4822fb9a02b91778fd407763758523c5094de"), looks := false }, kinds := [], alts := [], laidByText := true, laidKinds := [.data, .data, .data], laidTests := true, laidLooks := .later }
def FnFractionsUptoCardSaid : Prop := Claim7.holds Tryz.pinned (.plain (OpenSpec.upto fnFractionsSpec)) fnFractionsUptoCard

/-- THE SECOND FORM's CARD OF 'laws.FnSteps'. -/
def fnStepsUptoCard : Claim7 := { stood := { row := fnStepsUptoRow, standIns := [], harness := (true, "45f2684c3a7f54e46425a959a6a4822fb9a02b91778fd407763758523c5094de"), looks := false }, kinds := [], alts := [], laidByText := true, laidKinds := [.data, .data, .data], laidTests := true, laidLooks := .later }
def FnStepsUptoCardSaid : Prop := Claim7.holds Tryz.pinned (.plain (OpenSpec.upto fnStepsSpec)) fnStepsUptoCard

/-- THE SECOND FORM's CARD OF 'laws.FnExactMixSpreads'. -/
def fnExactMixSpreadsUptoCard : Claim7 := { stood := { row := fnExactMixSpreadsUptoRow, standIns := [], harness := (true, "45f2684c3a7f54e46425a959a6a4822fb9a02b91778fd407763758523c5094de"), looks := false }, kinds := [], alts := [], laidByText := true, laidKinds := [.data, .data, .data], laidTests := true, laidLooks := .later }
def FnExactMixSpreadsUptoCardSaid : Prop := Claim7.holds Tryz.pinned (.plain (OpenSpec.upto fnExactMixSpreadsSpec)) fnExactMixSpreadsUptoCard

/-- THE SECOND FORM's CARD OF 'laws.FnExactSpreadAfter'. -/
def fnExactSpreadAfterUptoCard : Claim7 := { stood := { row := fnExactSpreadAfterUptoRow, standIns := [], harness := (true, "45f2684c3a7f54e46425a959a6a4822fb9a02b91778fd407763758523c5094de"), looks := false }, kinds := [], alts := [], laidByText := true, laidKinds := [.data, .data, .data], laidTests := true, laidLooks := .later }
def FnExactSpreadAfterUptoCardSaid : Prop := Claim7.holds Tryz.pinned (.plain (OpenSpec.upto fnExactSpreadAfterSpec)) fnExactSpreadAfterUptoCard

/-- THE SECOND FORM's CARD OF 'laws.FnExactChanceAfter'. -/
def fnExactChanceAfterUptoCard : Claim7 := { stood := { row := fnExactChanceAfterUptoRow, standIns := [], harness := (true, "45f2684c3a7f54e46425a959a6a4822fb9a02b91778fd407763758523c5094de"), looks := false }, kinds := [], alts := [], laidByText := true, laidKinds := [.data, .data, .data], laidTests := true, laidLooks := .later }
def FnExactChanceAfterUptoCardSaid : Prop := Claim7.holds Tryz.pinned (.plain (OpenSpec.upto fnExactChanceAfterSpec)) fnExactChanceAfterUptoCard

/-- THE SECOND FORM's CARD OF 'laws.FnExactExpectedValue'. -/
def fnExactExpectedValueUptoCard : Claim7 := { stood := { row := fnExactExpectedValueUptoRow, standIns := [], harness := (true, "45f2684c3a7f54e46425a959a6a4822fb9a02b91778fd407763758523c5094de"), looks := false }, kinds := [], alts := [], laidByText := true, laidKinds := [.data, .data, .data], laidTests := true, laidLooks := .later }
def FnExactExpectedValueUptoCardSaid : Prop := Claim7.holds Tryz.pinned (.plain (OpenSpec.upto fnExactExpectedValueSpec)) fnExactExpectedValueUptoCard
end Rows
end Go.Proofs.YtcbpbhaimjhelaaGreatDoor
