/-
  No cell of these rows narrows 'for every input' (looked for: loops, veiled, ifaces, maps, wideKeys, modest, calm, conditions, laid).
  DERIVED. THE GIVEN ROWS OF THIS SEAT. 12 by the template 'for every input the law returns true; each argument reads behind the call as it read before'; 0 by the template 'total and deterministic' (their statements: YtacnafjmcfcalaaTotals.lean).
  GIVEN WITH THE SEED: the statements are not yours to turn. If you find one false, say at which input.
  Laid BY PROGRAM, IN A SANDBOX (cutbox-rows.mjs): the forced cells as the released guide's own fill.sh prints them over the translation 15f196693e377490… (all of the seat's roots in one cut). By AI agents, Wed Nov 11 2026. No macro, syntax, notation, axiom, sorry.
-/
import Derived.Test.YtacnafjmcfcalaaChecked
import GoSem.Claim
import GoSem.ClaimJoined
import GoSem.ClaimMapViews
import Derived.JoinedTies
import Derived.KernelRfl
namespace Go.Proofs.Ytacnafjmcfcalaa
/- THE CELL 'sum', in the pinned program and in every row, IS THE sha256 OF THE DUMP (.gsa) THAT YtacnafjmcfcalaaProg.lean LOADS. Nothing in Lean hashes anything: it is a label: what it is worth is what the hold of that sum in a sandbox is worth. -/
noncomputable def Try.pinned : Pinned := { name := "ytacnafjmcfcalaa", sum := "15f196693e3774901e792cc173077f16ee4767081a2df49aa151da1b8552a7ff", checked := Try.checked }
namespace Rows
def none {H : Type} : Left H := { results := [], args := [] }

/-- 'laws.FnForward': WHATEVER THE INPUT: true; the input reads as it did. -/
def fnForwardSpec : ChangeSpec := { name := "fnForward", fn := fun _ => fun
  | [d1, d2] => { results := [.lit (.bool true)], args := [d1, d2] }
  | _ => none }
def fnForwardRow : OpenClaim := { program := "ytacnafjmcfcalaa", sum := "15f196693e3774901e792cc173077f16ee4767081a2df49aa151da1b8552a7ff", func := "loop.example/g01118/laws.FnForward", spec := "fnForward", unfollowed := true, recurses := true, plainKeys := false, apart := false }
def FnForwardSaid : Prop := fnForwardRow.holds Try.pinned (OpenSpec.ofChange fnForwardSpec)

/-- ITS FALSE NEIGHBOUR: 'it returns false'. Refute it at one input. -/
def fnForwardWrong : ChangeSpec := { name := "fnForward", fn := fun _ => fun
  | [d1, d2] => { results := [.lit (.bool false)], args := [d1, d2] }
  | _ => none }
def FnForwardWrongFalsely : Prop := fnForwardRow.holds Try.pinned (OpenSpec.ofChange fnForwardWrong)

/-- 'laws.FnPastRun': WHATEVER THE INPUT: true; the input reads as it did. -/
def fnPastRunSpec : ChangeSpec := { name := "fnPastRun", fn := fun _ => fun
  | [d1, d2] => { results := [.lit (.bool true)], args := [d1, d2] }
  | _ => none }
def fnPastRunRow : OpenClaim := { program := "ytacnafjmcfcalaa", sum := "15f196693e3774901e792cc173077f16ee4767081a2df49aa151da1b8552a7ff", func := "loop.example/g01118/laws.FnPastRun", spec := "fnPastRun", unfollowed := true, recurses := true, plainKeys := false, apart := false }
def FnPastRunSaid : Prop := fnPastRunRow.holds Try.pinned (OpenSpec.ofChange fnPastRunSpec)

/-- ITS FALSE NEIGHBOUR: 'it returns false'. Refute it at one input. -/
def fnPastRunWrong : ChangeSpec := { name := "fnPastRun", fn := fun _ => fun
  | [d1, d2] => { results := [.lit (.bool false)], args := [d1, d2] }
  | _ => none }
def FnPastRunWrongFalsely : Prop := fnPastRunRow.holds Try.pinned (OpenSpec.ofChange fnPastRunWrong)

/-- 'laws.FnExactThenMaps': WHATEVER THE INPUT: true; the input reads as it did. -/
def fnExactThenMapsSpec : ChangeSpec := { name := "fnExactThenMaps", fn := fun _ => fun
  | [d1, d2] => { results := [.lit (.bool true)], args := [d1, d2] }
  | _ => none }
def fnExactThenMapsRow : OpenClaim := { program := "ytacnafjmcfcalaa", sum := "15f196693e3774901e792cc173077f16ee4767081a2df49aa151da1b8552a7ff", func := "loop.example/g01118/laws.FnExactThenMaps", spec := "fnExactThenMaps", unfollowed := true, recurses := true, plainKeys := false, apart := false }
def FnExactThenMapsSaid : Prop := fnExactThenMapsRow.holds Try.pinned (OpenSpec.ofChange fnExactThenMapsSpec)

/-- ITS FALSE NEIGHBOUR: 'it returns false'. Refute it at one input. -/
def fnExactThenMapsWrong : ChangeSpec := { name := "fnExactThenMaps", fn := fun _ => fun
  | [d1, d2] => { results := [.lit (.bool false)], args := [d1, d2] }
  | _ => none }
def FnExactThenMapsWrongFalsely : Prop := fnExactThenMapsRow.holds Try.pinned (OpenSpec.ofChange fnExactThenMapsWrong)

/-- 'laws.FnExactTidyMaps': WHATEVER THE INPUT: true; the input reads as it did. -/
def fnExactTidyMapsSpec : ChangeSpec := { name := "fnExactTidyMaps", fn := fun _ => fun
  | [d] => { results := [.lit (.bool true)], args := [d] }
  | _ => none }
def fnExactTidyMapsRow : OpenClaim := { program := "ytacnafjmcfcalaa", sum := "15f196693e3774901e792cc173077f16ee4767081a2df49aa151da1b8552a7ff", func := "loop.example/g01118/laws.FnExactTidyMaps", spec := "fnExactTidyMaps", unfollowed := true, recurses := true, plainKeys := false, apart := false }
def FnExactTidyMapsSaid : Prop := fnExactTidyMapsRow.holds Try.pinned (OpenSpec.ofChange fnExactTidyMapsSpec)

/-- ITS FALSE NEIGHBOUR: 'it returns false'. Refute it at one input. -/
def fnExactTidyMapsWrong : ChangeSpec := { name := "fnExactTidyMaps", fn := fun _ => fun
  | [d] => { results := [.lit (.bool false)], args := [d] }
  | _ => none }
def FnExactTidyMapsWrongFalsely : Prop := fnExactTidyMapsRow.holds Try.pinned (OpenSpec.ofChange fnExactTidyMapsWrong)

/-- 'laws.FnClasses': WHATEVER THE INPUT: true; the input reads as it did. -/
def fnClassesSpec : ChangeSpec := { name := "fnClasses", fn := fun _ => fun
  | [d1, d2] => { results := [.lit (.bool true)], args := [d1, d2] }
  | _ => none }
def fnClassesRow : OpenClaim := { program := "ytacnafjmcfcalaa", sum := "15f196693e3774901e792cc173077f16ee4767081a2df49aa151da1b8552a7ff", func := "loop.example/g01118/laws.FnClasses", spec := "fnClasses", unfollowed := true, recurses := true, plainKeys := false, apart := false }
def FnClassesSaid : Prop := fnClassesRow.holds Try.pinned (OpenSpec.ofChange fnClassesSpec)

/-- ITS FALSE NEIGHBOUR: 'it returns false'. Refute it at one input. -/
def fnClassesWrong : ChangeSpec := { name := "fnClasses", fn := fun _ => fun
  | [d1, d2] => { results := [.lit (.bool false)], args := [d1, d2] }
  | _ => none }
def FnClassesWrongFalsely : Prop := fnClassesRow.holds Try.pinned (OpenSpec.ofChange fnClassesWrong)

/-- 'laws.FnExactDeckAt': WHATEVER THE INPUT: true; the input reads as it did. -/
def fnExactDeckAtSpec : ChangeSpec := { name := "fnExactDeckAt", fn := fun _ => fun
  | [d1, d2] => { results := [.lit (.bool true)], args := [d1, d2] }
  | _ => none }
def fnExactDeckAtRow : OpenClaim := { program := "ytacnafjmcfcalaa", sum := "15f196693e3774901e792cc173077f16ee4767081a2df49aa151da1b8552a7ff", func := "loop.example/g01118/laws.FnExactDeckAt", spec := "fnExactDeckAt", unfollowed := true, recurses := true, plainKeys := false, apart := false }
def FnExactDeckAtSaid : Prop := fnExactDeckAtRow.holds Try.pinned (OpenSpec.ofChange fnExactDeckAtSpec)

/-- ITS FALSE NEIGHBOUR: 'it returns false'. Refute it at one input. -/
def fnExactDeckAtWrong : ChangeSpec := { name := "fnExactDeckAt", fn := fun _ => fun
  | [d1, d2] => { results := [.lit (.bool false)], args := [d1, d2] }
  | _ => none }
def FnExactDeckAtWrongFalsely : Prop := fnExactDeckAtRow.holds Try.pinned (OpenSpec.ofChange fnExactDeckAtWrong)

/-- 'laws.FnExactDeckNumber': WHATEVER THE INPUT: true; the input reads as it did. -/
def fnExactDeckNumberSpec : ChangeSpec := { name := "fnExactDeckNumber", fn := fun _ => fun
  | [d] => { results := [.lit (.bool true)], args := [d] }
  | _ => none }
def fnExactDeckNumberRow : OpenClaim := { program := "ytacnafjmcfcalaa", sum := "15f196693e3774901e792cc173077f16ee4767081a2df49aa151da1b8552a7ff", func := "loop.example/g01118/laws.FnExactDeckNumber", spec := "fnExactDeckNumber", unfollowed := true, recurses := true, plainKeys := false, apart := false }
def FnExactDeckNumberSaid : Prop := fnExactDeckNumberRow.holds Try.pinned (OpenSpec.ofChange fnExactDeckNumberSpec)

/-- ITS FALSE NEIGHBOUR: 'it returns false'. Refute it at one input. -/
def fnExactDeckNumberWrong : ChangeSpec := { name := "fnExactDeckNumber", fn := fun _ => fun
  | [d] => { results := [.lit (.bool false)], args := [d] }
  | _ => none }
def FnExactDeckNumberWrongFalsely : Prop := fnExactDeckNumberRow.holds Try.pinned (OpenSpec.ofChange fnExactDeckNumberWrong)

/-- 'laws.FnExactRisingRuns': WHATEVER THE INPUT: true; the input reads as it did. -/
def fnExactRisingRunsSpec : ChangeSpec := { name := "fnExactRisingRuns", fn := fun _ => fun
  | [d] => { results := [.lit (.bool true)], args := [d] }
  | _ => none }
def fnExactRisingRunsRow : OpenClaim := { program := "ytacnafjmcfcalaa", sum := "15f196693e3774901e792cc173077f16ee4767081a2df49aa151da1b8552a7ff", func := "loop.example/g01118/laws.FnExactRisingRuns", spec := "fnExactRisingRuns", unfollowed := true, recurses := true, plainKeys := false, apart := false }
def FnExactRisingRunsSaid : Prop := fnExactRisingRunsRow.holds Try.pinned (OpenSpec.ofChange fnExactRisingRunsSpec)

/-- ITS FALSE NEIGHBOUR: 'it returns false'. Refute it at one input. -/
def fnExactRisingRunsWrong : ChangeSpec := { name := "fnExactRisingRuns", fn := fun _ => fun
  | [d] => { results := [.lit (.bool false)], args := [d] }
  | _ => none }
def FnExactRisingRunsWrongFalsely : Prop := fnExactRisingRunsRow.holds Try.pinned (OpenSpec.ofChange fnExactRisingRunsWrong)

/-- 'laws.FnExactStickyCoupled': WHATEVER THE INPUT: true; the input reads as it did. -/
def fnExactStickyCoupledSpec : ChangeSpec := { name := "fnExactStickyCoupled", fn := fun _ => fun
  | [d1, d2] => { results := [.lit (.bool true)], args := [d1, d2] }
  | _ => none }
def fnExactStickyCoupledRow : OpenClaim := { program := "ytacnafjmcfcalaa", sum := "15f196693e3774901e792cc173077f16ee4767081a2df49aa151da1b8552a7ff", func := "loop.example/g01118/laws.FnExactStickyCoupled", spec := "fnExactStickyCoupled", unfollowed := true, recurses := true, plainKeys := false, apart := false }
def FnExactStickyCoupledSaid : Prop := fnExactStickyCoupledRow.holds Try.pinned (OpenSpec.ofChange fnExactStickyCoupledSpec)

/-- ITS FALSE NEIGHBOUR: 'it returns false'. Refute it at one input. -/
def fnExactStickyCoupledWrong : ChangeSpec := { name := "fnExactStickyCoupled", fn := fun _ => fun
  | [d1, d2] => { results := [.lit (.bool false)], args := [d1, d2] }
  | _ => none }
def FnExactStickyCoupledWrongFalsely : Prop := fnExactStickyCoupledRow.holds Try.pinned (OpenSpec.ofChange fnExactStickyCoupledWrong)

/-- 'laws.FnExactFirstPath': WHATEVER THE INPUT: true; the input reads as it did. -/
def fnExactFirstPathSpec : ChangeSpec := { name := "fnExactFirstPath", fn := fun _ => fun
  | [d1, d2, d3] => { results := [.lit (.bool true)], args := [d1, d2, d3] }
  | _ => none }
def fnExactFirstPathRow : OpenClaim := { program := "ytacnafjmcfcalaa", sum := "15f196693e3774901e792cc173077f16ee4767081a2df49aa151da1b8552a7ff", func := "loop.example/g01118/laws.FnExactFirstPath", spec := "fnExactFirstPath", unfollowed := true, recurses := true, plainKeys := false, apart := false }
def FnExactFirstPathSaid : Prop := fnExactFirstPathRow.holds Try.pinned (OpenSpec.ofChange fnExactFirstPathSpec)

/-- ITS FALSE NEIGHBOUR: 'it returns false'. Refute it at one input. -/
def fnExactFirstPathWrong : ChangeSpec := { name := "fnExactFirstPath", fn := fun _ => fun
  | [d1, d2, d3] => { results := [.lit (.bool false)], args := [d1, d2, d3] }
  | _ => none }
def FnExactFirstPathWrongFalsely : Prop := fnExactFirstPathRow.holds Try.pinned (OpenSpec.ofChange fnExactFirstPathWrong)

/-- 'laws.FnExactSurelyMeets': WHATEVER THE INPUT: true; the input reads as it did. -/
def fnExactSurelyMeetsSpec : ChangeSpec := { name := "fnExactSurelyMeets", fn := fun _ => fun
  | [d1, d2, d3, d4] => { results := [.lit (.bool true)], args := [d1, d2, d3, d4] }
  | _ => none }
def fnExactSurelyMeetsRow : OpenClaim := { program := "ytacnafjmcfcalaa", sum := "15f196693e3774901e792cc173077f16ee4767081a2df49aa151da1b8552a7ff", func := "loop.example/g01118/laws.FnExactSurelyMeets", spec := "fnExactSurelyMeets", unfollowed := true, recurses := true, plainKeys := false, apart := false }
def FnExactSurelyMeetsSaid : Prop := fnExactSurelyMeetsRow.holds Try.pinned (OpenSpec.ofChange fnExactSurelyMeetsSpec)

/-- ITS FALSE NEIGHBOUR: 'it returns false'. Refute it at one input. -/
def fnExactSurelyMeetsWrong : ChangeSpec := { name := "fnExactSurelyMeets", fn := fun _ => fun
  | [d1, d2, d3, d4] => { results := [.lit (.bool false)], args := [d1, d2, d3, d4] }
  | _ => none }
def FnExactSurelyMeetsWrongFalsely : Prop := fnExactSurelyMeetsRow.holds Try.pinned (OpenSpec.ofChange fnExactSurelyMeetsWrong)

/-- 'laws.FnExactArePaths': WHATEVER THE INPUT: true; the input reads as it did. -/
def fnExactArePathsSpec : ChangeSpec := { name := "fnExactArePaths", fn := fun _ => fun
  | [d1, d2] => { results := [.lit (.bool true)], args := [d1, d2] }
  | _ => none }
def fnExactArePathsRow : OpenClaim := { program := "ytacnafjmcfcalaa", sum := "15f196693e3774901e792cc173077f16ee4767081a2df49aa151da1b8552a7ff", func := "loop.example/g01118/laws.FnExactArePaths", spec := "fnExactArePaths", unfollowed := true, recurses := true, plainKeys := false, apart := false }
def FnExactArePathsSaid : Prop := fnExactArePathsRow.holds Try.pinned (OpenSpec.ofChange fnExactArePathsSpec)

/-- ITS FALSE NEIGHBOUR: 'it returns false'. Refute it at one input. -/
def fnExactArePathsWrong : ChangeSpec := { name := "fnExactArePaths", fn := fun _ => fun
  | [d1, d2] => { results := [.lit (.bool false)], args := [d1, d2] }
  | _ => none }
def FnExactArePathsWrongFalsely : Prop := fnExactArePathsRow.holds Try.pinned (OpenSpec.ofChange fnExactArePathsWrong)

/- THE SECOND FORM. 'bulk': how many values and letters a reading holds, each counted each time it is reached (what is shared counts as often as it is met; a slice's spare places count too). A statement '..UptoSaid' is the law's where the arguments, and the package variables that the reading takes, are together of bulk at most 1048576: NARROWER than '..Said'. Prove '..Said' where nothing that the law and all that it calls make is longer than what came in: it says more and counts as full. Else prove '..UptoSaid'. A law counts once. -/
mutual
def uptoBulk {H : Type} : DataW H → Nat
  | .lit (.string bytes) => bytes.length + 1
  | .lit _ => 1
  | .nil => 1
  | .ptr d => uptoBulk d + 1
  | .slice elems spare => uptoBulkAll elems + uptoBulkAll spare + 1
  | .agg parts => uptoBulkAll parts + 1
  | .iface _ d => uptoBulk d + 1
  | .map entries => uptoBulkEntries entries + 1
  | .held _ => 1
def uptoBulkAll {H : Type} : List (DataW H) → Nat
  | [] => 0
  | d :: r => uptoBulk d + uptoBulkAll r
def uptoBulkEntries {H : Type} : List (Lit × DataW H) → Nat
  | [] => 0
  | x :: r => uptoBulkEntry x + uptoBulkEntries r
def uptoBulkEntry {H : Type} : Lit × DataW H → Nat
  | (.string bytes, d) => bytes.length + uptoBulk d + 1
  | (_, d) => uptoBulk d + 1
 end
def uptoSmall : (H : Type) → List (DataW H) → Bool := fun _ ds => decide (uptoBulkAll ds ≤ 1048576)
def OpenSpec.upto (s : _root_.Go.ChangeSpec) : _root_.Go.OpenSpec := { _root_.Go.OpenSpec.ofChange s with cond := some uptoSmall }

/-- 'laws.FnForward', WHERE WHAT IT READS IS OF BULK AT MOST 1048576: true; the input reads as it did. -/
def fnForwardUptoRow : OpenClaim := { program := "ytacnafjmcfcalaa", sum := "15f196693e3774901e792cc173077f16ee4767081a2df49aa151da1b8552a7ff", func := "loop.example/g01118/laws.FnForward", spec := "fnForward", unfollowed := true, recurses := true, plainKeys := false, apart := false, narrowed := true }
def FnForwardUptoSaid : Prop := fnForwardUptoRow.holds Try.pinned (OpenSpec.upto fnForwardSpec)

/-- 'laws.FnPastRun', WHERE WHAT IT READS IS OF BULK AT MOST 1048576: true; the input reads as it did. -/
def fnPastRunUptoRow : OpenClaim := { program := "ytacnafjmcfcalaa", sum := "15f196693e3774901e792cc173077f16ee4767081a2df49aa151da1b8552a7ff", func := "loop.example/g01118/laws.FnPastRun", spec := "fnPastRun", unfollowed := true, recurses := true, plainKeys := false, apart := false, narrowed := true }
def FnPastRunUptoSaid : Prop := fnPastRunUptoRow.holds Try.pinned (OpenSpec.upto fnPastRunSpec)

/-- 'laws.FnExactThenMaps', WHERE WHAT IT READS IS OF BULK AT MOST 1048576: true; the input reads as it did. -/
def fnExactThenMapsUptoRow : OpenClaim := { program := "ytacnafjmcfcalaa", sum := "15f196693e3774901e792cc173077f16ee4767081a2df49aa151da1b8552a7ff", func := "loop.example/g01118/laws.FnExactThenMaps", spec := "fnExactThenMaps", unfollowed := true, recurses := true, plainKeys := false, apart := false, narrowed := true }
def FnExactThenMapsUptoSaid : Prop := fnExactThenMapsUptoRow.holds Try.pinned (OpenSpec.upto fnExactThenMapsSpec)

/-- 'laws.FnExactTidyMaps', WHERE WHAT IT READS IS OF BULK AT MOST 1048576: true; the input reads as it did. -/
def fnExactTidyMapsUptoRow : OpenClaim := { program := "ytacnafjmcfcalaa", sum := "15f196693e3774901e792cc173077f16ee4767081a2df49aa151da1b8552a7ff", func := "loop.example/g01118/laws.FnExactTidyMaps", spec := "fnExactTidyMaps", unfollowed := true, recurses := true, plainKeys := false, apart := false, narrowed := true }
def FnExactTidyMapsUptoSaid : Prop := fnExactTidyMapsUptoRow.holds Try.pinned (OpenSpec.upto fnExactTidyMapsSpec)

/-- 'laws.FnClasses', WHERE WHAT IT READS IS OF BULK AT MOST 1048576: true; the input reads as it did. -/
def fnClassesUptoRow : OpenClaim := { program := "ytacnafjmcfcalaa", sum := "15f196693e3774901e792cc173077f16ee4767081a2df49aa151da1b8552a7ff", func := "loop.example/g01118/laws.FnClasses", spec := "fnClasses", unfollowed := true, recurses := true, plainKeys := false, apart := false, narrowed := true }
def FnClassesUptoSaid : Prop := fnClassesUptoRow.holds Try.pinned (OpenSpec.upto fnClassesSpec)

/-- 'laws.FnExactDeckAt', WHERE WHAT IT READS IS OF BULK AT MOST 1048576: true; the input reads as it did. -/
def fnExactDeckAtUptoRow : OpenClaim := { program := "ytacnafjmcfcalaa", sum := "15f196693e3774901e792cc173077f16ee4767081a2df49aa151da1b8552a7ff", func := "loop.example/g01118/laws.FnExactDeckAt", spec := "fnExactDeckAt", unfollowed := true, recurses := true, plainKeys := false, apart := false, narrowed := true }
def FnExactDeckAtUptoSaid : Prop := fnExactDeckAtUptoRow.holds Try.pinned (OpenSpec.upto fnExactDeckAtSpec)

/-- 'laws.FnExactDeckNumber', WHERE WHAT IT READS IS OF BULK AT MOST 1048576: true; the input reads as it did. -/
def fnExactDeckNumberUptoRow : OpenClaim := { program := "ytacnafjmcfcalaa", sum := "15f196693e3774901e792cc173077f16ee4767081a2df49aa151da1b8552a7ff", func := "loop.example/g01118/laws.FnExactDeckNumber", spec := "fnExactDeckNumber", unfollowed := true, recurses := true, plainKeys := false, apart := false, narrowed := true }
def FnExactDeckNumberUptoSaid : Prop := fnExactDeckNumberUptoRow.holds Try.pinned (OpenSpec.upto fnExactDeckNumberSpec)

/-- 'laws.FnExactRisingRuns', WHERE WHAT IT READS IS OF BULK AT MOST 1048576: true; the input reads as it did. -/
def fnExactRisingRunsUptoRow : OpenClaim := { program := "ytacnafjmcfcalaa", sum := "15f196693e3774901e792cc173077f16ee4767081a2df49aa151da1b8552a7ff", func := "loop.example/g01118/laws.FnExactRisingRuns", spec := "fnExactRisingRuns", unfollowed := true, recurses := true, plainKeys := false, apart := false, narrowed := true }
def FnExactRisingRunsUptoSaid : Prop := fnExactRisingRunsUptoRow.holds Try.pinned (OpenSpec.upto fnExactRisingRunsSpec)

/-- 'laws.FnExactStickyCoupled', WHERE WHAT IT READS IS OF BULK AT MOST 1048576: true; the input reads as it did. -/
def fnExactStickyCoupledUptoRow : OpenClaim := { program := "ytacnafjmcfcalaa", sum := "15f196693e3774901e792cc173077f16ee4767081a2df49aa151da1b8552a7ff", func := "loop.example/g01118/laws.FnExactStickyCoupled", spec := "fnExactStickyCoupled", unfollowed := true, recurses := true, plainKeys := false, apart := false, narrowed := true }
def FnExactStickyCoupledUptoSaid : Prop := fnExactStickyCoupledUptoRow.holds Try.pinned (OpenSpec.upto fnExactStickyCoupledSpec)

/-- 'laws.FnExactFirstPath', WHERE WHAT IT READS IS OF BULK AT MOST 1048576: true; the input reads as it did. -/
def fnExactFirstPathUptoRow : OpenClaim := { program := "ytacnafjmcfcalaa", sum := "15f196693e3774901e792cc173077f16ee4767081a2df49aa151da1b8552a7ff", func := "loop.example/g01118/laws.FnExactFirstPath", spec := "fnExactFirstPath", unfollowed := true, recurses := true, plainKeys := false, apart := false, narrowed := true }
def FnExactFirstPathUptoSaid : Prop := fnExactFirstPathUptoRow.holds Try.pinned (OpenSpec.upto fnExactFirstPathSpec)

/-- 'laws.FnExactSurelyMeets', WHERE WHAT IT READS IS OF BULK AT MOST 1048576: true; the input reads as it did. -/
def fnExactSurelyMeetsUptoRow : OpenClaim := { program := "ytacnafjmcfcalaa", sum := "15f196693e3774901e792cc173077f16ee4767081a2df49aa151da1b8552a7ff", func := "loop.example/g01118/laws.FnExactSurelyMeets", spec := "fnExactSurelyMeets", unfollowed := true, recurses := true, plainKeys := false, apart := false, narrowed := true }
def FnExactSurelyMeetsUptoSaid : Prop := fnExactSurelyMeetsUptoRow.holds Try.pinned (OpenSpec.upto fnExactSurelyMeetsSpec)

/-- 'laws.FnExactArePaths', WHERE WHAT IT READS IS OF BULK AT MOST 1048576: true; the input reads as it did. -/
def fnExactArePathsUptoRow : OpenClaim := { program := "ytacnafjmcfcalaa", sum := "15f196693e3774901e792cc173077f16ee4767081a2df49aa151da1b8552a7ff", func := "loop.example/g01118/laws.FnExactArePaths", spec := "fnExactArePaths", unfollowed := true, recurses := true, plainKeys := false, apart := false, narrowed := true }
def FnExactArePathsUptoSaid : Prop := fnExactArePathsUptoRow.holds Try.pinned (OpenSpec.upto fnExactArePathsSpec)

end Rows
end Go.Proofs.Ytacnafjmcfcalaa
