/-
  DERIVED. GIVEN WITH THE SEED: THE CARDS: each row of YtgaadcinhaphpaaDoorRows.lean that lists a variable, with what it lists TIED to the program's text (the seventh form; the later family's looks); each row that meets fmt, with fmt's text TOLD by the authors' own Lean function (tested against real Go, not proved from fmt's source: count such statements apart). THE CARD IS WHAT COUNTS. Prove the row's statement (the work); the ties are given (YtgaadcinhaphpaaDoorTie.lean); close each card by the builder's one call (the guide's Derived/Test/ToyasCard.lean, 'card_holds'). Laid BY PROGRAM, IN A SANDBOX (cutbox-door.mjs). By AI agents, Wed Nov 11 2026. No macro, syntax, notation, axiom, sorry.
-/
import Derived.Test.YtgaadcinhaphpaaDoorRows
import GoSem.ClaimSeven
namespace Go.Proofs.YtgaadcinhaphpaaDoor
namespace Rows

/-- THE TIED CARD OF 'laws.FnExactEvenSpread'. -/
def fnExactEvenSpreadCard : Claim7 := { stood := { row := fnExactEvenSpreadRow, standIns := [], harness := (true, "f2186e0d17d8174651a103b60418ff93ea6ac70de63efffaf2396e8adab74000"), looks := false }, kinds := [], alts := [], laidByText := true, laidKinds := [.data, .data, .data], laidTests := true, laidLooks := .later }
def FnExactEvenSpreadCardSaid : Prop := Claim7.holds Tryd.pinned (.plain (OpenSpec.ofChange fnExactEvenSpreadSpec)) fnExactEvenSpreadCard

/-- THE TIED CARD OF 'laws.FnExactGraphText'. -/
def fnExactGraphTextCard : Claim7 := { stood := { row := fnExactGraphTextRow, standIns := [], harness := (true, "f2186e0d17d8174651a103b60418ff93ea6ac70de63efffaf2396e8adab74000"), looks := false }, kinds := [], alts := [], laidByText := true, laidKinds := [.data, .data, .data], laidTests := true, laidLooks := .later }
def FnExactGraphTextCardSaid : Prop := Claim7.holds Tryd.pinned (.plain (OpenSpec.ofChange fnExactGraphTextSpec)) fnExactGraphTextCard

/-- THE TIED CARD OF 'laws.FnExactMapsText'. -/
def fnExactMapsTextCard : Claim7 := { stood := { row := fnExactMapsTextRow, standIns := [], harness := (true, "f2186e0d17d8174651a103b60418ff93ea6ac70de63efffaf2396e8adab74000"), looks := false }, kinds := [], alts := [], laidByText := true, laidKinds := [.data, .data, .data], laidTests := true, laidLooks := .later }
def FnExactMapsTextCardSaid : Prop := Claim7.holds Tryd.pinned (.plain (OpenSpec.ofChange fnExactMapsTextSpec)) fnExactMapsTextCard

/-- THE TIED CARD OF 'laws.FnExactDeedText'. -/
def fnExactDeedTextCard : Claim7 := { stood := { row := fnExactDeedTextRow, standIns := [], harness := (true, "f2186e0d17d8174651a103b60418ff93ea6ac70de63efffaf2396e8adab74000"), looks := false }, kinds := [], alts := [], laidByText := true, laidKinds := [.data, .data, .data], laidTests := true, laidLooks := .later }
def FnExactDeedTextCardSaid : Prop := Claim7.holds Tryd.pinned (.plain (OpenSpec.ofChange fnExactDeedTextSpec)) fnExactDeedTextCard

/-- THE SECOND FORM's CARD OF 'laws.FnExactEvenSpread'. -/
def fnExactEvenSpreadUptoCard : Claim7 := { stood := { row := fnExactEvenSpreadUptoRow, standIns := [], harness := (true, "f2186e0d17d8174651a103b60418ff93ea6ac70de63efffaf2396e8adab74000"), looks := false }, kinds := [], alts := [], laidByText := true, laidKinds := [.data, .data, .data], laidTests := true, laidLooks := .later }
def FnExactEvenSpreadUptoCardSaid : Prop := Claim7.holds Tryd.pinned (.plain (OpenSpec.upto fnExactEvenSpreadSpec)) fnExactEvenSpreadUptoCard

/-- THE SECOND FORM's CARD OF 'laws.FnExactGraphText'. -/
def fnExactGraphTextUptoCard : Claim7 := { stood := { row := fnExactGraphTextUptoRow, standIns := [], harness := (true, "f2186e0d17d8174651a103b60418ff93ea6ac70de63efffaf2396e8adab74000"), looks := false }, kinds := [], alts := [], laidByText := true, laidKinds := [.data, .data, .data], laidTests := true, laidLooks := .later }
def FnExactGraphTextUptoCardSaid : Prop := Claim7.holds Tryd.pinned (.plain (OpenSpec.upto fnExactGraphTextSpec)) fnExactGraphTextUptoCard

/-- THE SECOND FORM's CARD OF 'laws.FnExactMapsText'. -/
def fnExactMapsTextUptoCard : Claim7 := { stood := { row := fnExactMapsTextUptoRow, standIns := [], harness := (true, "f2186e0d17d8174651a103b60418ff93ea6ac70de63efffaf2396e8adab74000"), looks := false }, kinds := [], alts := [], laidByText := true, laidKinds := [.data, .data, .data], laidTests := true, laidLooks := .later }
def FnExactMapsTextUptoCardSaid : Prop := Claim7.holds Tryd.pinned (.plain (OpenSpec.upto fnExactMapsTextSpec)) fnExactMapsTextUptoCard

/-- THE SECOND FORM's CARD OF 'laws.FnExactDeedText'. -/
def fnExactDeedTextUptoCard : Claim7 := { stood := { row := fnExactDeedTextUptoRow, standIns := [], harness := (true, "f2186e0d17d8174651a103b60418ff93ea6ac70de63efffaf2396e8adab74000"), looks := false }, kinds := [], alts := [], laidByText := true, laidKinds := [.data, .data, .data], laidTests := true, laidLooks := .later }
def FnExactDeedTextUptoCardSaid : Prop := Claim7.holds Tryd.pinned (.plain (OpenSpec.upto fnExactDeedTextSpec)) fnExactDeedTextUptoCard
end Rows
end Go.Proofs.YtgaadcinhaphpaaDoor
