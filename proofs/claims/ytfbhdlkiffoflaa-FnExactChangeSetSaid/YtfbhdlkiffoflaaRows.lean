/-
  No cell of these rows narrows 'for every input' (looked for: loops, veiled, ifaces, maps, wideKeys, modest, calm, conditions, laid).
  DERIVED. THE GIVEN ROWS OF THIS SEAT. 8 by the template 'for every input the law returns true; each argument reads behind the call as it read before'; 0 by the template 'total and deterministic' (their statements: YtfbhdlkiffoflaaTotals.lean).
  GIVEN WITH THE SEED: the statements are not yours to turn. If you find one false, say at which input.
  Laid BY PROGRAM, IN A SANDBOX (cutbox-rows.mjs): the forced cells as the released guide's own fill.sh prints them over the translation 9fecd47441927ba7… (all of the seat's roots in one cut). By AI agents, Wed Nov 11 2026. No macro, syntax, notation, axiom, sorry.
-/
import Derived.Test.YtfbhdlkiffoflaaChecked
import GoSem.Claim
import GoSem.ClaimJoined
import GoSem.ClaimMapViews
import Derived.JoinedTies
import Derived.KernelRfl
namespace Go.Proofs.Ytfbhdlkiffoflaa
/- THE CELL 'sum', in the pinned program and in every row, IS THE sha256 OF THE DUMP (.gsa) THAT YtfbhdlkiffoflaaProg.lean LOADS. Nothing in Lean hashes anything: it is a label: what it is worth is what the hold of that sum in a sandbox is worth. -/
noncomputable def Try.pinned : Pinned := { name := "ytfbhdlkiffoflaa", sum := "9fecd47441927ba7cc603466e6bb87896036657983bdb4838601ecfd1e4840c4", checked := Try.checked }
namespace Rows
def none {H : Type} : Left H := { results := [], args := [] }

/-- 'laws.FnExactValidGraph': WHATEVER THE INPUT: true; the input reads as it did. -/
def fnExactValidGraphSpec : ChangeSpec := { name := "fnExactValidGraph", fn := fun _ => fun
  | [d] => { results := [.lit (.bool true)], args := [d] }
  | _ => none }
def fnExactValidGraphRow : OpenClaim := { program := "ytfbhdlkiffoflaa", sum := "9fecd47441927ba7cc603466e6bb87896036657983bdb4838601ecfd1e4840c4", func := "loop.example/g01118/laws.FnExactValidGraph", spec := "fnExactValidGraph", unfollowed := true, recurses := true, apart := false }
def FnExactValidGraphSaid : Prop := fnExactValidGraphRow.holds Try.pinned (OpenSpec.ofChange fnExactValidGraphSpec)

/-- ITS FALSE NEIGHBOUR: 'it returns false'. Refute it at one input. -/
def fnExactValidGraphWrong : ChangeSpec := { name := "fnExactValidGraph", fn := fun _ => fun
  | [d] => { results := [.lit (.bool false)], args := [d] }
  | _ => none }
def FnExactValidGraphWrongFalsely : Prop := fnExactValidGraphRow.holds Try.pinned (OpenSpec.ofChange fnExactValidGraphWrong)

/-- 'laws.FnExactSameGraph': WHATEVER THE INPUT: true; the input reads as it did. -/
def fnExactSameGraphSpec : ChangeSpec := { name := "fnExactSameGraph", fn := fun _ => fun
  | [d1, d2] => { results := [.lit (.bool true)], args := [d1, d2] }
  | _ => none }
def fnExactSameGraphRow : OpenClaim := { program := "ytfbhdlkiffoflaa", sum := "9fecd47441927ba7cc603466e6bb87896036657983bdb4838601ecfd1e4840c4", func := "loop.example/g01118/laws.FnExactSameGraph", spec := "fnExactSameGraph", unfollowed := true, recurses := true, apart := false }
def FnExactSameGraphSaid : Prop := fnExactSameGraphRow.holds Try.pinned (OpenSpec.ofChange fnExactSameGraphSpec)

/-- ITS FALSE NEIGHBOUR: 'it returns false'. Refute it at one input. -/
def fnExactSameGraphWrong : ChangeSpec := { name := "fnExactSameGraph", fn := fun _ => fun
  | [d1, d2] => { results := [.lit (.bool false)], args := [d1, d2] }
  | _ => none }
def FnExactSameGraphWrongFalsely : Prop := fnExactSameGraphRow.holds Try.pinned (OpenSpec.ofChange fnExactSameGraphWrong)

/-- 'laws.FnExactIsColouring': WHATEVER THE INPUT: true; the input reads as it did. -/
def fnExactIsColouringSpec : ChangeSpec := { name := "fnExactIsColouring", fn := fun _ => fun
  | [d1, d2, d3] => { results := [.lit (.bool true)], args := [d1, d2, d3] }
  | _ => none }
def fnExactIsColouringRow : OpenClaim := { program := "ytfbhdlkiffoflaa", sum := "9fecd47441927ba7cc603466e6bb87896036657983bdb4838601ecfd1e4840c4", func := "loop.example/g01118/laws.FnExactIsColouring", spec := "fnExactIsColouring", unfollowed := true, recurses := true, apart := false }
def FnExactIsColouringSaid : Prop := fnExactIsColouringRow.holds Try.pinned (OpenSpec.ofChange fnExactIsColouringSpec)

/-- ITS FALSE NEIGHBOUR: 'it returns false'. Refute it at one input. -/
def fnExactIsColouringWrong : ChangeSpec := { name := "fnExactIsColouring", fn := fun _ => fun
  | [d1, d2, d3] => { results := [.lit (.bool false)], args := [d1, d2, d3] }
  | _ => none }
def FnExactIsColouringWrongFalsely : Prop := fnExactIsColouringRow.holds Try.pinned (OpenSpec.ofChange fnExactIsColouringWrong)

/-- 'laws.FnExactFreeColours': WHATEVER THE INPUT: true; the input reads as it did. -/
def fnExactFreeColoursSpec : ChangeSpec := { name := "fnExactFreeColours", fn := fun _ => fun
  | [d1, d2, d3, d4] => { results := [.lit (.bool true)], args := [d1, d2, d3, d4] }
  | _ => none }
def fnExactFreeColoursRow : OpenClaim := { program := "ytfbhdlkiffoflaa", sum := "9fecd47441927ba7cc603466e6bb87896036657983bdb4838601ecfd1e4840c4", func := "loop.example/g01118/laws.FnExactFreeColours", spec := "fnExactFreeColours", unfollowed := true, recurses := true, apart := false }
def FnExactFreeColoursSaid : Prop := fnExactFreeColoursRow.holds Try.pinned (OpenSpec.ofChange fnExactFreeColoursSpec)

/-- ITS FALSE NEIGHBOUR: 'it returns false'. Refute it at one input. -/
def fnExactFreeColoursWrong : ChangeSpec := { name := "fnExactFreeColours", fn := fun _ => fun
  | [d1, d2, d3, d4] => { results := [.lit (.bool false)], args := [d1, d2, d3, d4] }
  | _ => none }
def FnExactFreeColoursWrongFalsely : Prop := fnExactFreeColoursRow.holds Try.pinned (OpenSpec.ofChange fnExactFreeColoursWrong)

/-- 'laws.FnExactRecolour': WHATEVER THE INPUT: true; the input reads as it did. -/
def fnExactRecolourSpec : ChangeSpec := { name := "fnExactRecolour", fn := fun _ => fun
  | [d1, d2, d3, d4, d5] => { results := [.lit (.bool true)], args := [d1, d2, d3, d4, d5] }
  | _ => none }
def fnExactRecolourRow : OpenClaim := { program := "ytfbhdlkiffoflaa", sum := "9fecd47441927ba7cc603466e6bb87896036657983bdb4838601ecfd1e4840c4", func := "loop.example/g01118/laws.FnExactRecolour", spec := "fnExactRecolour", unfollowed := true, recurses := true, apart := false }
def FnExactRecolourSaid : Prop := fnExactRecolourRow.holds Try.pinned (OpenSpec.ofChange fnExactRecolourSpec)

/-- ITS FALSE NEIGHBOUR: 'it returns false'. Refute it at one input. -/
def fnExactRecolourWrong : ChangeSpec := { name := "fnExactRecolour", fn := fun _ => fun
  | [d1, d2, d3, d4, d5] => { results := [.lit (.bool false)], args := [d1, d2, d3, d4, d5] }
  | _ => none }
def FnExactRecolourWrongFalsely : Prop := fnExactRecolourRow.holds Try.pinned (OpenSpec.ofChange fnExactRecolourWrong)

/-- 'laws.FnExactIsIndependent': WHATEVER THE INPUT: true; the input reads as it did. -/
def fnExactIsIndependentSpec : ChangeSpec := { name := "fnExactIsIndependent", fn := fun _ => fun
  | [d1, d2] => { results := [.lit (.bool true)], args := [d1, d2] }
  | _ => none }
def fnExactIsIndependentRow : OpenClaim := { program := "ytfbhdlkiffoflaa", sum := "9fecd47441927ba7cc603466e6bb87896036657983bdb4838601ecfd1e4840c4", func := "loop.example/g01118/laws.FnExactIsIndependent", spec := "fnExactIsIndependent", unfollowed := true, recurses := true, apart := false }
def FnExactIsIndependentSaid : Prop := fnExactIsIndependentRow.holds Try.pinned (OpenSpec.ofChange fnExactIsIndependentSpec)

/-- ITS FALSE NEIGHBOUR: 'it returns false'. Refute it at one input. -/
def fnExactIsIndependentWrong : ChangeSpec := { name := "fnExactIsIndependent", fn := fun _ => fun
  | [d1, d2] => { results := [.lit (.bool false)], args := [d1, d2] }
  | _ => none }
def FnExactIsIndependentWrongFalsely : Prop := fnExactIsIndependentRow.holds Try.pinned (OpenSpec.ofChange fnExactIsIndependentWrong)

/-- 'laws.FnExactChangeSet': WHATEVER THE INPUT: true; the input reads as it did. -/
def fnExactChangeSetSpec : ChangeSpec := { name := "fnExactChangeSet", fn := fun _ => fun
  | [d1, d2, d3, d4, d5] => { results := [.lit (.bool true)], args := [d1, d2, d3, d4, d5] }
  | _ => none }
def fnExactChangeSetRow : OpenClaim := { program := "ytfbhdlkiffoflaa", sum := "9fecd47441927ba7cc603466e6bb87896036657983bdb4838601ecfd1e4840c4", func := "loop.example/g01118/laws.FnExactChangeSet", spec := "fnExactChangeSet", unfollowed := true, recurses := true, apart := false }
def FnExactChangeSetSaid : Prop := fnExactChangeSetRow.holds Try.pinned (OpenSpec.ofChange fnExactChangeSetSpec)

/-- ITS FALSE NEIGHBOUR: 'it returns false'. Refute it at one input. -/
def fnExactChangeSetWrong : ChangeSpec := { name := "fnExactChangeSet", fn := fun _ => fun
  | [d1, d2, d3, d4, d5] => { results := [.lit (.bool false)], args := [d1, d2, d3, d4, d5] }
  | _ => none }
def FnExactChangeSetWrongFalsely : Prop := fnExactChangeSetRow.holds Try.pinned (OpenSpec.ofChange fnExactChangeSetWrong)

/-- 'laws.FnExactLineGraph': WHATEVER THE INPUT: true; the input reads as it did. -/
def fnExactLineGraphSpec : ChangeSpec := { name := "fnExactLineGraph", fn := fun _ => fun
  | [d] => { results := [.lit (.bool true)], args := [d] }
  | _ => none }
def fnExactLineGraphRow : OpenClaim := { program := "ytfbhdlkiffoflaa", sum := "9fecd47441927ba7cc603466e6bb87896036657983bdb4838601ecfd1e4840c4", func := "loop.example/g01118/laws.FnExactLineGraph", spec := "fnExactLineGraph", unfollowed := true, recurses := true, apart := false }
def FnExactLineGraphSaid : Prop := fnExactLineGraphRow.holds Try.pinned (OpenSpec.ofChange fnExactLineGraphSpec)

/-- ITS FALSE NEIGHBOUR: 'it returns false'. Refute it at one input. -/
def fnExactLineGraphWrong : ChangeSpec := { name := "fnExactLineGraph", fn := fun _ => fun
  | [d] => { results := [.lit (.bool false)], args := [d] }
  | _ => none }
def FnExactLineGraphWrongFalsely : Prop := fnExactLineGraphRow.holds Try.pinned (OpenSpec.ofChange fnExactLineGraphWrong)

/- THE SECOND FORM. 'bulk': how many values and letters a reading holds, each counted each time it is reached (what is shared counts as often as it is met; a slice's spare places count too). A statement '..UptoSaid' is the law's where the arguments, and the package variables that the reading takes, are together of bulk at most 1048576: NARROWER than '..Said'. Prove '..Said' where nothing that the law and all that it calls make is longer than what came in: it says more and counts as full. Else prove '..UptoSaid'. A law counts once. -/
mutual
def uptoBulk {H : Type} : DataW H → Nat
  | .lit (.string bytes) => bytes.length + 1
  | .lit _ => 1
  | .nil => 1
  | .ptr d => uptoBulk d + 1
  | .slice elems spare => uptoBulkAll elems + uptoBulkAll spare + 1
  | .agg parts => uptoBulkAll parts + 1
  | .iface _ d => uptoBulk d + 1
  | .map entries => uptoBulkEntries entries + 1
  | .held _ => 1
def uptoBulkAll {H : Type} : List (DataW H) → Nat
  | [] => 0
  | d :: r => uptoBulk d + uptoBulkAll r
def uptoBulkEntries {H : Type} : List (Lit × DataW H) → Nat
  | [] => 0
  | x :: r => uptoBulkEntry x + uptoBulkEntries r
def uptoBulkEntry {H : Type} : Lit × DataW H → Nat
  | (.string bytes, d) => bytes.length + uptoBulk d + 1
  | (_, d) => uptoBulk d + 1
 end
def uptoSmall : (H : Type) → List (DataW H) → Bool := fun _ ds => decide (uptoBulkAll ds ≤ 1048576)
def OpenSpec.upto (s : _root_.Go.ChangeSpec) : _root_.Go.OpenSpec := { _root_.Go.OpenSpec.ofChange s with cond := some uptoSmall }

/-- 'laws.FnExactValidGraph', WHERE WHAT IT READS IS OF BULK AT MOST 1048576: true; the input reads as it did. -/
def fnExactValidGraphUptoRow : OpenClaim := { program := "ytfbhdlkiffoflaa", sum := "9fecd47441927ba7cc603466e6bb87896036657983bdb4838601ecfd1e4840c4", func := "loop.example/g01118/laws.FnExactValidGraph", spec := "fnExactValidGraph", unfollowed := true, recurses := true, apart := false, narrowed := true }
def FnExactValidGraphUptoSaid : Prop := fnExactValidGraphUptoRow.holds Try.pinned (OpenSpec.upto fnExactValidGraphSpec)

/-- 'laws.FnExactSameGraph', WHERE WHAT IT READS IS OF BULK AT MOST 1048576: true; the input reads as it did. -/
def fnExactSameGraphUptoRow : OpenClaim := { program := "ytfbhdlkiffoflaa", sum := "9fecd47441927ba7cc603466e6bb87896036657983bdb4838601ecfd1e4840c4", func := "loop.example/g01118/laws.FnExactSameGraph", spec := "fnExactSameGraph", unfollowed := true, recurses := true, apart := false, narrowed := true }
def FnExactSameGraphUptoSaid : Prop := fnExactSameGraphUptoRow.holds Try.pinned (OpenSpec.upto fnExactSameGraphSpec)

/-- 'laws.FnExactIsColouring', WHERE WHAT IT READS IS OF BULK AT MOST 1048576: true; the input reads as it did. -/
def fnExactIsColouringUptoRow : OpenClaim := { program := "ytfbhdlkiffoflaa", sum := "9fecd47441927ba7cc603466e6bb87896036657983bdb4838601ecfd1e4840c4", func := "loop.example/g01118/laws.FnExactIsColouring", spec := "fnExactIsColouring", unfollowed := true, recurses := true, apart := false, narrowed := true }
def FnExactIsColouringUptoSaid : Prop := fnExactIsColouringUptoRow.holds Try.pinned (OpenSpec.upto fnExactIsColouringSpec)

/-- 'laws.FnExactFreeColours', WHERE WHAT IT READS IS OF BULK AT MOST 1048576: true; the input reads as it did. -/
def fnExactFreeColoursUptoRow : OpenClaim := { program := "ytfbhdlkiffoflaa", sum := "9fecd47441927ba7cc603466e6bb87896036657983bdb4838601ecfd1e4840c4", func := "loop.example/g01118/laws.FnExactFreeColours", spec := "fnExactFreeColours", unfollowed := true, recurses := true, apart := false, narrowed := true }
def FnExactFreeColoursUptoSaid : Prop := fnExactFreeColoursUptoRow.holds Try.pinned (OpenSpec.upto fnExactFreeColoursSpec)

/-- 'laws.FnExactRecolour', WHERE WHAT IT READS IS OF BULK AT MOST 1048576: true; the input reads as it did. -/
def fnExactRecolourUptoRow : OpenClaim := { program := "ytfbhdlkiffoflaa", sum := "9fecd47441927ba7cc603466e6bb87896036657983bdb4838601ecfd1e4840c4", func := "loop.example/g01118/laws.FnExactRecolour", spec := "fnExactRecolour", unfollowed := true, recurses := true, apart := false, narrowed := true }
def FnExactRecolourUptoSaid : Prop := fnExactRecolourUptoRow.holds Try.pinned (OpenSpec.upto fnExactRecolourSpec)

/-- 'laws.FnExactIsIndependent', WHERE WHAT IT READS IS OF BULK AT MOST 1048576: true; the input reads as it did. -/
def fnExactIsIndependentUptoRow : OpenClaim := { program := "ytfbhdlkiffoflaa", sum := "9fecd47441927ba7cc603466e6bb87896036657983bdb4838601ecfd1e4840c4", func := "loop.example/g01118/laws.FnExactIsIndependent", spec := "fnExactIsIndependent", unfollowed := true, recurses := true, apart := false, narrowed := true }
def FnExactIsIndependentUptoSaid : Prop := fnExactIsIndependentUptoRow.holds Try.pinned (OpenSpec.upto fnExactIsIndependentSpec)

/-- 'laws.FnExactChangeSet', WHERE WHAT IT READS IS OF BULK AT MOST 1048576: true; the input reads as it did. -/
def fnExactChangeSetUptoRow : OpenClaim := { program := "ytfbhdlkiffoflaa", sum := "9fecd47441927ba7cc603466e6bb87896036657983bdb4838601ecfd1e4840c4", func := "loop.example/g01118/laws.FnExactChangeSet", spec := "fnExactChangeSet", unfollowed := true, recurses := true, apart := false, narrowed := true }
def FnExactChangeSetUptoSaid : Prop := fnExactChangeSetUptoRow.holds Try.pinned (OpenSpec.upto fnExactChangeSetSpec)

/-- 'laws.FnExactLineGraph', WHERE WHAT IT READS IS OF BULK AT MOST 1048576: true; the input reads as it did. -/
def fnExactLineGraphUptoRow : OpenClaim := { program := "ytfbhdlkiffoflaa", sum := "9fecd47441927ba7cc603466e6bb87896036657983bdb4838601ecfd1e4840c4", func := "loop.example/g01118/laws.FnExactLineGraph", spec := "fnExactLineGraph", unfollowed := true, recurses := true, apart := false, narrowed := true }
def FnExactLineGraphUptoSaid : Prop := fnExactLineGraphUptoRow.holds Try.pinned (OpenSpec.upto fnExactLineGraphSpec)

end Rows
end Go.Proofs.Ytfbhdlkiffoflaa
