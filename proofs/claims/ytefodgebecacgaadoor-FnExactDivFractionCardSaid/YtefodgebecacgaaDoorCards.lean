/-
  DERIVED. GIVEN WITH THE SEED: THE CARDS: each row of YtefodgebecacgaaDoorRows.lean that lists a variable, with what it lists TIED to the program's text (the seventh form; the later family's looks); each row that meets fmt, with fmt's text TOLD by the authors' own Lean function (tested against real Go, not proved from fmt's source: count such statements apart). THE CARD IS WHAT COUNTS. Prove the row's statement (the work); the ties are given (YtefodgebecacgaaDoorTie.lean); close each card by the builder's one call (the guide's Derived/Test/ToyasCard.lean, 'card_holds'). Laid BY PROGRAM, IN A SANDBOX (cutbox-door.mjs). By AI agents, Wed Nov 11 2026. No macro, syntax, notation, axiom, sorry.
-/
import Derived.Test.YtefodgebecacgaaDoorRows
import GoSem.ClaimSeven
namespace Go.Proofs.YtefodgebecacgaaDoor
namespace Rows

/-- THE TIED CARD OF 'laws.FnExactFractionOf'. -/
def fnExactFractionOfCard : Claim7 := { stood := { row := fnExactFractionOfRow, standIns := [], harness := (true, "41521b35d461e1e0389af8480c4e89993f9ca8543f8518c3428bd255f2d70720"), looks := false }, kinds := [], alts := [], laidByText := true, laidKinds := [.data, .data, .data], laidTests := true, laidLooks := .later }
def FnExactFractionOfCardSaid : Prop := Claim7.holds Tryd.pinned (.plain (OpenSpec.ofChange fnExactFractionOfSpec)) fnExactFractionOfCard

/-- THE TIED CARD OF 'laws.FnExactAddFraction'. -/
def fnExactAddFractionCard : Claim7 := { stood := { row := fnExactAddFractionRow, standIns := [], harness := (true, "41521b35d461e1e0389af8480c4e89993f9ca8543f8518c3428bd255f2d70720"), looks := false }, kinds := [], alts := [], laidByText := true, laidKinds := [.data, .data, .data], laidTests := true, laidLooks := .later }
def FnExactAddFractionCardSaid : Prop := Claim7.holds Tryd.pinned (.plain (OpenSpec.ofChange fnExactAddFractionSpec)) fnExactAddFractionCard

/-- THE TIED CARD OF 'laws.FnExactLessFraction'. -/
def fnExactLessFractionCard : Claim7 := { stood := { row := fnExactLessFractionRow, standIns := [], harness := (true, "41521b35d461e1e0389af8480c4e89993f9ca8543f8518c3428bd255f2d70720"), looks := false }, kinds := [], alts := [], laidByText := true, laidKinds := [.data, .data, .data], laidTests := true, laidLooks := .later }
def FnExactLessFractionCardSaid : Prop := Claim7.holds Tryd.pinned (.plain (OpenSpec.ofChange fnExactLessFractionSpec)) fnExactLessFractionCard

/-- THE TIED CARD OF 'laws.FnExactMulFraction'. -/
def fnExactMulFractionCard : Claim7 := { stood := { row := fnExactMulFractionRow, standIns := [], harness := (true, "41521b35d461e1e0389af8480c4e89993f9ca8543f8518c3428bd255f2d70720"), looks := false }, kinds := [], alts := [], laidByText := true, laidKinds := [.data, .data, .data], laidTests := true, laidLooks := .later }
def FnExactMulFractionCardSaid : Prop := Claim7.holds Tryd.pinned (.plain (OpenSpec.ofChange fnExactMulFractionSpec)) fnExactMulFractionCard

/-- THE TIED CARD OF 'laws.FnExactDivFraction'. -/
def fnExactDivFractionCard : Claim7 := { stood := { row := fnExactDivFractionRow, standIns := [], harness := (true, "41521b35d461e1e0389af8480c4e89993f9ca8543f8518c3428bd255f2d70720"), looks := false }, kinds := [], alts := [], laidByText := true, laidKinds := [.data, .data, .data], laidTests := true, laidLooks := .later }
def FnExactDivFractionCardSaid : Prop := Claim7.holds Tryd.pinned (.plain (OpenSpec.ofChange fnExactDivFractionSpec)) fnExactDivFractionCard

/-- THE TIED CARD OF 'laws.FnExactEvenSpread'. -/
def fnExactEvenSpreadCard : Claim7 := { stood := { row := fnExactEvenSpreadRow, standIns := [], harness := (true, "41521b35d461e1e0389af8480c4e89993f9ca8543f8518c3428bd255f2d70720"), looks := false }, kinds := [], alts := [], laidByText := true, laidKinds := [.data, .data, .data], laidTests := true, laidLooks := .later }
def FnExactEvenSpreadCardSaid : Prop := Claim7.holds Tryd.pinned (.plain (OpenSpec.ofChange fnExactEvenSpreadSpec)) fnExactEvenSpreadCard

/-- THE SECOND FORM's CARD OF 'laws.FnExactFractionOf'. -/
def fnExactFractionOfUptoCard : Claim7 := { stood := { row := fnExactFractionOfUptoRow, standIns := [], harness := (true, "41521b35d461e1e0389af8480c4e89993f9ca8543f8518c3428bd255f2d70720"), looks := false }, kinds := [], alts := [], laidByText := true, laidKinds := [.data, .data, .data], laidTests := true, laidLooks := .later }
def FnExactFractionOfUptoCardSaid : Prop := Claim7.holds Tryd.pinned (.plain (OpenSpec.upto fnExactFractionOfSpec)) fnExactFractionOfUptoCard

/-- THE SECOND FORM's CARD OF 'laws.FnExactAddFraction'. -/
def fnExactAddFractionUptoCard : Claim7 := { stood := { row := fnExactAddFractionUptoRow, standIns := [], harness := (true, "41521b35d461e1e0389af8480c4e89993f9ca8543f8518c3428bd255f2d70720"), looks := false }, kinds := [], alts := [], laidByText := true, laidKinds := [.data, .data, .data], laidTests := true, laidLooks := .later }
def FnExactAddFractionUptoCardSaid : Prop := Claim7.holds Tryd.pinned (.plain (OpenSpec.upto fnExactAddFractionSpec)) fnExactAddFractionUptoCard

/-- THE SECOND FORM's CARD OF 'laws.FnExactLessFraction'. -/
def fnExactLessFractionUptoCard : Claim7 := { stood := { row := fnExactLessFractionUptoRow, standIns := [], harness := (true, "41521b35d461e1e0389af8480c4e89993f9ca8543f8518c3428bd255f2d70720"), looks := false }, kinds := [], alts := [], laidByText := true, laidKinds := [.data, .data, .data], laidTests := true, laidLooks := .later }
def FnExactLessFractionUptoCardSaid : Prop := Claim7.holds Tryd.pinned (.plain (OpenSpec.upto fnExactLessFractionSpec)) fnExactLessFractionUptoCard

/-- THE SECOND FORM's CARD OF 'laws.FnExactMulFraction'. -/
def fnExactMulFractionUptoCard : Claim7 := { stood := { row := fnExactMulFractionUptoRow, standIns := [], harness := (true, "41521b35d461e1e0389af8480c4e89993f9ca8543f8518c3428bd255f2d70720"), looks := false }, kinds := [], alts := [], laidByText := true, laidKinds := [.data, .data, .data], laidTests := true, laidLooks := .later }
def FnExactMulFractionUptoCardSaid : Prop := Claim7.holds Tryd.pinned (.plain (OpenSpec.upto fnExactMulFractionSpec)) fnExactMulFractionUptoCard

/-- THE SECOND FORM's CARD OF 'laws.FnExactDivFraction'. -/
def fnExactDivFractionUptoCard : Claim7 := { stood := { row := fnExactDivFractionUptoRow, standIns := [], harness := (true, "41521b35d461e1e0389af8480c4e89993f9ca8543f8518c3428bd255f2d70720"), looks := false }, kinds := [], alts := [], laidByText := true, laidKinds := [.data, .data, .data], laidTests := true, laidLooks := .later }
def FnExactDivFractionUptoCardSaid : Prop := Claim7.holds Tryd.pinned (.plain (OpenSpec.upto fnExactDivFractionSpec)) fnExactDivFractionUptoCard

/-- THE SECOND FORM's CARD OF 'laws.FnExactEvenSpread'. -/
def fnExactEvenSpreadUptoCard : Claim7 := { stood := { row := fnExactEvenSpreadUptoRow, standIns := [], harness := (true, "41521b35d461e1e0389af8480c4e89993f9ca8543f8518c3428bd255f2d70720"), looks := false }, kinds := [], alts := [], laidByText := true, laidKinds := [.data, .data, .data], laidTests := true, laidLooks := .later }
def FnExactEvenSpreadUptoCardSaid : Prop := Claim7.holds Tryd.pinned (.plain (OpenSpec.upto fnExactEvenSpreadSpec)) fnExactEvenSpreadUptoCard
end Rows
end Go.Proofs.YtefodgebecacgaaDoor
