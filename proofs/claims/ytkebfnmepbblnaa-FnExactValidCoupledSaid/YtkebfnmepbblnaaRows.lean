/-
  No cell of these rows narrows 'for every input' (looked for: loops, veiled, ifaces, maps, wideKeys, modest, calm, conditions, laid).
  DERIVED. THE GIVEN ROWS OF THIS SEAT. 12 by the template 'for every input the law returns true; each argument reads behind the call as it read before'; 0 by the template 'total and deterministic' (their statements: YtkebfnmepbblnaaTotals.lean).
  GIVEN WITH THE SEED: the statements are not yours to turn. If you find one false, say at which input.
  Laid BY PROGRAM, IN A SANDBOX (cutbox-rows.mjs): the forced cells as the released guide's own fill.sh prints them over the translation cce65be375a3c826… (all of the seat's roots in one cut). By AI agents, Wed Nov 11 2026. No macro, syntax, notation, axiom, sorry.
-/
import Derived.Test.YtkebfnmepbblnaaChecked
import GoSem.Claim
import GoSem.ClaimJoined
import GoSem.ClaimMapViews
import Derived.JoinedTies
import Derived.KernelRfl
namespace Go.Proofs.Ytkebfnmepbblnaa
/- THE CELL 'sum', in the pinned program and in every row, IS THE sha256 OF THE DUMP (.gsa) THAT YtkebfnmepbblnaaProg.lean LOADS. Nothing in Lean hashes anything: it is a label: what it is worth is what the hold of that sum in a sandbox is worth. -/
noncomputable def Try.pinned : Pinned := { name := "ytkebfnmepbblnaa", sum := "cce65be375a3c826b42a05216a0ea7596d2a649cda62198aa66f785c5f458dcf", checked := Try.checked }
namespace Rows
def none {H : Type} : Left H := { results := [], args := [] }

/-- 'laws.FnExactIsPath': WHATEVER THE INPUT: true; the input reads as it did. -/
def fnExactIsPathSpec : ChangeSpec := { name := "fnExactIsPath", fn := fun _ => fun
  | [d1, d2] => { results := [.lit (.bool true)], args := [d1, d2] }
  | _ => none }
def fnExactIsPathRow : OpenClaim := { program := "ytkebfnmepbblnaa", sum := "cce65be375a3c826b42a05216a0ea7596d2a649cda62198aa66f785c5f458dcf", func := "loop.example/g01118/laws.FnExactIsPath", spec := "fnExactIsPath", unfollowed := true, recurses := true, apart := false }
def FnExactIsPathSaid : Prop := fnExactIsPathRow.holds Try.pinned (OpenSpec.ofChange fnExactIsPathSpec)

/-- ITS FALSE NEIGHBOUR: 'it returns false'. Refute it at one input. -/
def fnExactIsPathWrong : ChangeSpec := { name := "fnExactIsPath", fn := fun _ => fun
  | [d1, d2] => { results := [.lit (.bool false)], args := [d1, d2] }
  | _ => none }
def FnExactIsPathWrongFalsely : Prop := fnExactIsPathRow.holds Try.pinned (OpenSpec.ofChange fnExactIsPathWrong)

/-- 'laws.FnExactArePaths': WHATEVER THE INPUT: true; the input reads as it did. -/
def fnExactArePathsSpec : ChangeSpec := { name := "fnExactArePaths", fn := fun _ => fun
  | [d1, d2] => { results := [.lit (.bool true)], args := [d1, d2] }
  | _ => none }
def fnExactArePathsRow : OpenClaim := { program := "ytkebfnmepbblnaa", sum := "cce65be375a3c826b42a05216a0ea7596d2a649cda62198aa66f785c5f458dcf", func := "loop.example/g01118/laws.FnExactArePaths", spec := "fnExactArePaths", unfollowed := true, recurses := true, apart := false }
def FnExactArePathsSaid : Prop := fnExactArePathsRow.holds Try.pinned (OpenSpec.ofChange fnExactArePathsSpec)

/-- ITS FALSE NEIGHBOUR: 'it returns false'. Refute it at one input. -/
def fnExactArePathsWrong : ChangeSpec := { name := "fnExactArePaths", fn := fun _ => fun
  | [d1, d2] => { results := [.lit (.bool false)], args := [d1, d2] }
  | _ => none }
def FnExactArePathsWrongFalsely : Prop := fnExactArePathsRow.holds Try.pinned (OpenSpec.ofChange fnExactArePathsWrong)

/-- 'laws.FnExactFirstPath': WHATEVER THE INPUT: true; the input reads as it did. -/
def fnExactFirstPathSpec : ChangeSpec := { name := "fnExactFirstPath", fn := fun _ => fun
  | [d1, d2, d3] => { results := [.lit (.bool true)], args := [d1, d2, d3] }
  | _ => none }
def fnExactFirstPathRow : OpenClaim := { program := "ytkebfnmepbblnaa", sum := "cce65be375a3c826b42a05216a0ea7596d2a649cda62198aa66f785c5f458dcf", func := "loop.example/g01118/laws.FnExactFirstPath", spec := "fnExactFirstPath", unfollowed := true, recurses := true, apart := false }
def FnExactFirstPathSaid : Prop := fnExactFirstPathRow.holds Try.pinned (OpenSpec.ofChange fnExactFirstPathSpec)

/-- ITS FALSE NEIGHBOUR: 'it returns false'. Refute it at one input. -/
def fnExactFirstPathWrong : ChangeSpec := { name := "fnExactFirstPath", fn := fun _ => fun
  | [d1, d2, d3] => { results := [.lit (.bool false)], args := [d1, d2, d3] }
  | _ => none }
def FnExactFirstPathWrongFalsely : Prop := fnExactFirstPathRow.holds Try.pinned (OpenSpec.ofChange fnExactFirstPathWrong)

/-- 'laws.FnExactPathsOf': WHATEVER THE INPUT: true; the input reads as it did. -/
def fnExactPathsOfSpec : ChangeSpec := { name := "fnExactPathsOf", fn := fun _ => fun
  | [d] => { results := [.lit (.bool true)], args := [d] }
  | _ => none }
def fnExactPathsOfRow : OpenClaim := { program := "ytkebfnmepbblnaa", sum := "cce65be375a3c826b42a05216a0ea7596d2a649cda62198aa66f785c5f458dcf", func := "loop.example/g01118/laws.FnExactPathsOf", spec := "fnExactPathsOf", unfollowed := true, recurses := true, apart := false }
def FnExactPathsOfSaid : Prop := fnExactPathsOfRow.holds Try.pinned (OpenSpec.ofChange fnExactPathsOfSpec)

/-- ITS FALSE NEIGHBOUR: 'it returns false'. Refute it at one input. -/
def fnExactPathsOfWrong : ChangeSpec := { name := "fnExactPathsOf", fn := fun _ => fun
  | [d] => { results := [.lit (.bool false)], args := [d] }
  | _ => none }
def FnExactPathsOfWrongFalsely : Prop := fnExactPathsOfRow.holds Try.pinned (OpenSpec.ofChange fnExactPathsOfWrong)

/-- 'laws.FnExactStepPaths': WHATEVER THE INPUT: true; the input reads as it did. -/
def fnExactStepPathsSpec : ChangeSpec := { name := "fnExactStepPaths", fn := fun _ => fun
  | [d1, d2] => { results := [.lit (.bool true)], args := [d1, d2] }
  | _ => none }
def fnExactStepPathsRow : OpenClaim := { program := "ytkebfnmepbblnaa", sum := "cce65be375a3c826b42a05216a0ea7596d2a649cda62198aa66f785c5f458dcf", func := "loop.example/g01118/laws.FnExactStepPaths", spec := "fnExactStepPaths", unfollowed := true, recurses := true, apart := false }
def FnExactStepPathsSaid : Prop := fnExactStepPathsRow.holds Try.pinned (OpenSpec.ofChange fnExactStepPathsSpec)

/-- ITS FALSE NEIGHBOUR: 'it returns false'. Refute it at one input. -/
def fnExactStepPathsWrong : ChangeSpec := { name := "fnExactStepPaths", fn := fun _ => fun
  | [d1, d2] => { results := [.lit (.bool false)], args := [d1, d2] }
  | _ => none }
def FnExactStepPathsWrongFalsely : Prop := fnExactStepPathsRow.holds Try.pinned (OpenSpec.ofChange fnExactStepPathsWrong)

/-- 'laws.FnExactValidOrder': WHATEVER THE INPUT: true; the input reads as it did. -/
def fnExactValidOrderSpec : ChangeSpec := { name := "fnExactValidOrder", fn := fun _ => fun
  | [d1, d2] => { results := [.lit (.bool true)], args := [d1, d2] }
  | _ => none }
def fnExactValidOrderRow : OpenClaim := { program := "ytkebfnmepbblnaa", sum := "cce65be375a3c826b42a05216a0ea7596d2a649cda62198aa66f785c5f458dcf", func := "loop.example/g01118/laws.FnExactValidOrder", spec := "fnExactValidOrder", unfollowed := true, recurses := true, apart := false }
def FnExactValidOrderSaid : Prop := fnExactValidOrderRow.holds Try.pinned (OpenSpec.ofChange fnExactValidOrderSpec)

/-- ITS FALSE NEIGHBOUR: 'it returns false'. Refute it at one input. -/
def fnExactValidOrderWrong : ChangeSpec := { name := "fnExactValidOrder", fn := fun _ => fun
  | [d1, d2] => { results := [.lit (.bool false)], args := [d1, d2] }
  | _ => none }
def FnExactValidOrderWrongFalsely : Prop := fnExactValidOrderRow.holds Try.pinned (OpenSpec.ofChange fnExactValidOrderWrong)

/-- 'laws.FnExactEndsOf': WHATEVER THE INPUT: true; the input reads as it did. -/
def fnExactEndsOfSpec : ChangeSpec := { name := "fnExactEndsOf", fn := fun _ => fun
  | [d] => { results := [.lit (.bool true)], args := [d] }
  | _ => none }
def fnExactEndsOfRow : OpenClaim := { program := "ytkebfnmepbblnaa", sum := "cce65be375a3c826b42a05216a0ea7596d2a649cda62198aa66f785c5f458dcf", func := "loop.example/g01118/laws.FnExactEndsOf", spec := "fnExactEndsOf", unfollowed := true, recurses := true, apart := false }
def FnExactEndsOfSaid : Prop := fnExactEndsOfRow.holds Try.pinned (OpenSpec.ofChange fnExactEndsOfSpec)

/-- ITS FALSE NEIGHBOUR: 'it returns false'. Refute it at one input. -/
def fnExactEndsOfWrong : ChangeSpec := { name := "fnExactEndsOf", fn := fun _ => fun
  | [d] => { results := [.lit (.bool false)], args := [d] }
  | _ => none }
def FnExactEndsOfWrongFalsely : Prop := fnExactEndsOfRow.holds Try.pinned (OpenSpec.ofChange fnExactEndsOfWrong)

/-- 'laws.FnExactThenMaps': WHATEVER THE INPUT: true; the input reads as it did. -/
def fnExactThenMapsSpec : ChangeSpec := { name := "fnExactThenMaps", fn := fun _ => fun
  | [d1, d2] => { results := [.lit (.bool true)], args := [d1, d2] }
  | _ => none }
def fnExactThenMapsRow : OpenClaim := { program := "ytkebfnmepbblnaa", sum := "cce65be375a3c826b42a05216a0ea7596d2a649cda62198aa66f785c5f458dcf", func := "loop.example/g01118/laws.FnExactThenMaps", spec := "fnExactThenMaps", unfollowed := true, recurses := true, apart := false }
def FnExactThenMapsSaid : Prop := fnExactThenMapsRow.holds Try.pinned (OpenSpec.ofChange fnExactThenMapsSpec)

/-- ITS FALSE NEIGHBOUR: 'it returns false'. Refute it at one input. -/
def fnExactThenMapsWrong : ChangeSpec := { name := "fnExactThenMaps", fn := fun _ => fun
  | [d1, d2] => { results := [.lit (.bool false)], args := [d1, d2] }
  | _ => none }
def FnExactThenMapsWrongFalsely : Prop := fnExactThenMapsRow.holds Try.pinned (OpenSpec.ofChange fnExactThenMapsWrong)

/-- 'laws.FnExactAreMapsOf': WHATEVER THE INPUT: true; the input reads as it did. -/
def fnExactAreMapsOfSpec : ChangeSpec := { name := "fnExactAreMapsOf", fn := fun _ => fun
  | [d1, d2] => { results := [.lit (.bool true)], args := [d1, d2] }
  | _ => none }
def fnExactAreMapsOfRow : OpenClaim := { program := "ytkebfnmepbblnaa", sum := "cce65be375a3c826b42a05216a0ea7596d2a649cda62198aa66f785c5f458dcf", func := "loop.example/g01118/laws.FnExactAreMapsOf", spec := "fnExactAreMapsOf", unfollowed := true, recurses := true, apart := false }
def FnExactAreMapsOfSaid : Prop := fnExactAreMapsOfRow.holds Try.pinned (OpenSpec.ofChange fnExactAreMapsOfSpec)

/-- ITS FALSE NEIGHBOUR: 'it returns false'. Refute it at one input. -/
def fnExactAreMapsOfWrong : ChangeSpec := { name := "fnExactAreMapsOf", fn := fun _ => fun
  | [d1, d2] => { results := [.lit (.bool false)], args := [d1, d2] }
  | _ => none }
def FnExactAreMapsOfWrongFalsely : Prop := fnExactAreMapsOfRow.holds Try.pinned (OpenSpec.ofChange fnExactAreMapsOfWrong)

/-- 'laws.FnExactValidCoupled': WHATEVER THE INPUT: true; the input reads as it did. -/
def fnExactValidCoupledSpec : ChangeSpec := { name := "fnExactValidCoupled", fn := fun _ => fun
  | [d1, d2] => { results := [.lit (.bool true)], args := [d1, d2] }
  | _ => none }
def fnExactValidCoupledRow : OpenClaim := { program := "ytkebfnmepbblnaa", sum := "cce65be375a3c826b42a05216a0ea7596d2a649cda62198aa66f785c5f458dcf", func := "loop.example/g01118/laws.FnExactValidCoupled", spec := "fnExactValidCoupled", unfollowed := true, recurses := true, apart := false }
def FnExactValidCoupledSaid : Prop := fnExactValidCoupledRow.holds Try.pinned (OpenSpec.ofChange fnExactValidCoupledSpec)

/-- ITS FALSE NEIGHBOUR: 'it returns false'. Refute it at one input. -/
def fnExactValidCoupledWrong : ChangeSpec := { name := "fnExactValidCoupled", fn := fun _ => fun
  | [d1, d2] => { results := [.lit (.bool false)], args := [d1, d2] }
  | _ => none }
def FnExactValidCoupledWrongFalsely : Prop := fnExactValidCoupledRow.holds Try.pinned (OpenSpec.ofChange fnExactValidCoupledWrong)

/-- 'laws.FnForward': WHATEVER THE INPUT: true; the input reads as it did. -/
def fnForwardSpec : ChangeSpec := { name := "fnForward", fn := fun _ => fun
  | [d1, d2] => { results := [.lit (.bool true)], args := [d1, d2] }
  | _ => none }
def fnForwardRow : OpenClaim := { program := "ytkebfnmepbblnaa", sum := "cce65be375a3c826b42a05216a0ea7596d2a649cda62198aa66f785c5f458dcf", func := "loop.example/g01118/laws.FnForward", spec := "fnForward", unfollowed := true, recurses := true, apart := false }
def FnForwardSaid : Prop := fnForwardRow.holds Try.pinned (OpenSpec.ofChange fnForwardSpec)

/-- ITS FALSE NEIGHBOUR: 'it returns false'. Refute it at one input. -/
def fnForwardWrong : ChangeSpec := { name := "fnForward", fn := fun _ => fun
  | [d1, d2] => { results := [.lit (.bool false)], args := [d1, d2] }
  | _ => none }
def FnForwardWrongFalsely : Prop := fnForwardRow.holds Try.pinned (OpenSpec.ofChange fnForwardWrong)

/-- 'laws.FnPastRun': WHATEVER THE INPUT: true; the input reads as it did. -/
def fnPastRunSpec : ChangeSpec := { name := "fnPastRun", fn := fun _ => fun
  | [d1, d2] => { results := [.lit (.bool true)], args := [d1, d2] }
  | _ => none }
def fnPastRunRow : OpenClaim := { program := "ytkebfnmepbblnaa", sum := "cce65be375a3c826b42a05216a0ea7596d2a649cda62198aa66f785c5f458dcf", func := "loop.example/g01118/laws.FnPastRun", spec := "fnPastRun", unfollowed := true, recurses := true, apart := false }
def FnPastRunSaid : Prop := fnPastRunRow.holds Try.pinned (OpenSpec.ofChange fnPastRunSpec)

/-- ITS FALSE NEIGHBOUR: 'it returns false'. Refute it at one input. -/
def fnPastRunWrong : ChangeSpec := { name := "fnPastRun", fn := fun _ => fun
  | [d1, d2] => { results := [.lit (.bool false)], args := [d1, d2] }
  | _ => none }
def FnPastRunWrongFalsely : Prop := fnPastRunRow.holds Try.pinned (OpenSpec.ofChange fnPastRunWrong)

/- THE SECOND FORM. 'bulk': how many values and letters a reading holds, each counted each time it is reached (what is shared counts as often as it is met; a slice's spare places count too). A statement '..UptoSaid' is the law's where the arguments, and the package variables that the reading takes, are together of bulk at most 1048576: NARROWER than '..Said'. Prove '..Said' where nothing that the law and all that it calls make is longer than what came in: it says more and counts as full. Else prove '..UptoSaid'. A law counts once. -/
mutual
def uptoBulk {H : Type} : DataW H → Nat
  | .lit (.string bytes) => bytes.length + 1
  | .lit _ => 1
  | .nil => 1
  | .ptr d => uptoBulk d + 1
  | .slice elems spare => uptoBulkAll elems + uptoBulkAll spare + 1
  | .agg parts => uptoBulkAll parts + 1
  | .iface _ d => uptoBulk d + 1
  | .map entries => uptoBulkEntries entries + 1
  | .held _ => 1
def uptoBulkAll {H : Type} : List (DataW H) → Nat
  | [] => 0
  | d :: r => uptoBulk d + uptoBulkAll r
def uptoBulkEntries {H : Type} : List (Lit × DataW H) → Nat
  | [] => 0
  | x :: r => uptoBulkEntry x + uptoBulkEntries r
def uptoBulkEntry {H : Type} : Lit × DataW H → Nat
  | (.string bytes, d) => bytes.length + uptoBulk d + 1
  | (_, d) => uptoBulk d + 1
 end
def uptoSmall : (H : Type) → List (DataW H) → Bool := fun _ ds => decide (uptoBulkAll ds ≤ 1048576)
def OpenSpec.upto (s : _root_.Go.ChangeSpec) : _root_.Go.OpenSpec := { _root_.Go.OpenSpec.ofChange s with cond := some uptoSmall }

/-- 'laws.FnExactIsPath', WHERE WHAT IT READS IS OF BULK AT MOST 1048576: true; the input reads as it did. -/
def fnExactIsPathUptoRow : OpenClaim := { program := "ytkebfnmepbblnaa", sum := "cce65be375a3c826b42a05216a0ea7596d2a649cda62198aa66f785c5f458dcf", func := "loop.example/g01118/laws.FnExactIsPath", spec := "fnExactIsPath", unfollowed := true, recurses := true, apart := false, narrowed := true }
def FnExactIsPathUptoSaid : Prop := fnExactIsPathUptoRow.holds Try.pinned (OpenSpec.upto fnExactIsPathSpec)

/-- 'laws.FnExactArePaths', WHERE WHAT IT READS IS OF BULK AT MOST 1048576: true; the input reads as it did. -/
def fnExactArePathsUptoRow : OpenClaim := { program := "ytkebfnmepbblnaa", sum := "cce65be375a3c826b42a05216a0ea7596d2a649cda62198aa66f785c5f458dcf", func := "loop.example/g01118/laws.FnExactArePaths", spec := "fnExactArePaths", unfollowed := true, recurses := true, apart := false, narrowed := true }
def FnExactArePathsUptoSaid : Prop := fnExactArePathsUptoRow.holds Try.pinned (OpenSpec.upto fnExactArePathsSpec)

/-- 'laws.FnExactFirstPath', WHERE WHAT IT READS IS OF BULK AT MOST 1048576: true; the input reads as it did. -/
def fnExactFirstPathUptoRow : OpenClaim := { program := "ytkebfnmepbblnaa", sum := "cce65be375a3c826b42a05216a0ea7596d2a649cda62198aa66f785c5f458dcf", func := "loop.example/g01118/laws.FnExactFirstPath", spec := "fnExactFirstPath", unfollowed := true, recurses := true, apart := false, narrowed := true }
def FnExactFirstPathUptoSaid : Prop := fnExactFirstPathUptoRow.holds Try.pinned (OpenSpec.upto fnExactFirstPathSpec)

/-- 'laws.FnExactPathsOf', WHERE WHAT IT READS IS OF BULK AT MOST 1048576: true; the input reads as it did. -/
def fnExactPathsOfUptoRow : OpenClaim := { program := "ytkebfnmepbblnaa", sum := "cce65be375a3c826b42a05216a0ea7596d2a649cda62198aa66f785c5f458dcf", func := "loop.example/g01118/laws.FnExactPathsOf", spec := "fnExactPathsOf", unfollowed := true, recurses := true, apart := false, narrowed := true }
def FnExactPathsOfUptoSaid : Prop := fnExactPathsOfUptoRow.holds Try.pinned (OpenSpec.upto fnExactPathsOfSpec)

/-- 'laws.FnExactStepPaths', WHERE WHAT IT READS IS OF BULK AT MOST 1048576: true; the input reads as it did. -/
def fnExactStepPathsUptoRow : OpenClaim := { program := "ytkebfnmepbblnaa", sum := "cce65be375a3c826b42a05216a0ea7596d2a649cda62198aa66f785c5f458dcf", func := "loop.example/g01118/laws.FnExactStepPaths", spec := "fnExactStepPaths", unfollowed := true, recurses := true, apart := false, narrowed := true }
def FnExactStepPathsUptoSaid : Prop := fnExactStepPathsUptoRow.holds Try.pinned (OpenSpec.upto fnExactStepPathsSpec)

/-- 'laws.FnExactValidOrder', WHERE WHAT IT READS IS OF BULK AT MOST 1048576: true; the input reads as it did. -/
def fnExactValidOrderUptoRow : OpenClaim := { program := "ytkebfnmepbblnaa", sum := "cce65be375a3c826b42a05216a0ea7596d2a649cda62198aa66f785c5f458dcf", func := "loop.example/g01118/laws.FnExactValidOrder", spec := "fnExactValidOrder", unfollowed := true, recurses := true, apart := false, narrowed := true }
def FnExactValidOrderUptoSaid : Prop := fnExactValidOrderUptoRow.holds Try.pinned (OpenSpec.upto fnExactValidOrderSpec)

/-- 'laws.FnExactEndsOf', WHERE WHAT IT READS IS OF BULK AT MOST 1048576: true; the input reads as it did. -/
def fnExactEndsOfUptoRow : OpenClaim := { program := "ytkebfnmepbblnaa", sum := "cce65be375a3c826b42a05216a0ea7596d2a649cda62198aa66f785c5f458dcf", func := "loop.example/g01118/laws.FnExactEndsOf", spec := "fnExactEndsOf", unfollowed := true, recurses := true, apart := false, narrowed := true }
def FnExactEndsOfUptoSaid : Prop := fnExactEndsOfUptoRow.holds Try.pinned (OpenSpec.upto fnExactEndsOfSpec)

/-- 'laws.FnExactThenMaps', WHERE WHAT IT READS IS OF BULK AT MOST 1048576: true; the input reads as it did. -/
def fnExactThenMapsUptoRow : OpenClaim := { program := "ytkebfnmepbblnaa", sum := "cce65be375a3c826b42a05216a0ea7596d2a649cda62198aa66f785c5f458dcf", func := "loop.example/g01118/laws.FnExactThenMaps", spec := "fnExactThenMaps", unfollowed := true, recurses := true, apart := false, narrowed := true }
def FnExactThenMapsUptoSaid : Prop := fnExactThenMapsUptoRow.holds Try.pinned (OpenSpec.upto fnExactThenMapsSpec)

/-- 'laws.FnExactAreMapsOf', WHERE WHAT IT READS IS OF BULK AT MOST 1048576: true; the input reads as it did. -/
def fnExactAreMapsOfUptoRow : OpenClaim := { program := "ytkebfnmepbblnaa", sum := "cce65be375a3c826b42a05216a0ea7596d2a649cda62198aa66f785c5f458dcf", func := "loop.example/g01118/laws.FnExactAreMapsOf", spec := "fnExactAreMapsOf", unfollowed := true, recurses := true, apart := false, narrowed := true }
def FnExactAreMapsOfUptoSaid : Prop := fnExactAreMapsOfUptoRow.holds Try.pinned (OpenSpec.upto fnExactAreMapsOfSpec)

/-- 'laws.FnExactValidCoupled', WHERE WHAT IT READS IS OF BULK AT MOST 1048576: true; the input reads as it did. -/
def fnExactValidCoupledUptoRow : OpenClaim := { program := "ytkebfnmepbblnaa", sum := "cce65be375a3c826b42a05216a0ea7596d2a649cda62198aa66f785c5f458dcf", func := "loop.example/g01118/laws.FnExactValidCoupled", spec := "fnExactValidCoupled", unfollowed := true, recurses := true, apart := false, narrowed := true }
def FnExactValidCoupledUptoSaid : Prop := fnExactValidCoupledUptoRow.holds Try.pinned (OpenSpec.upto fnExactValidCoupledSpec)

/-- 'laws.FnForward', WHERE WHAT IT READS IS OF BULK AT MOST 1048576: true; the input reads as it did. -/
def fnForwardUptoRow : OpenClaim := { program := "ytkebfnmepbblnaa", sum := "cce65be375a3c826b42a05216a0ea7596d2a649cda62198aa66f785c5f458dcf", func := "loop.example/g01118/laws.FnForward", spec := "fnForward", unfollowed := true, recurses := true, apart := false, narrowed := true }
def FnForwardUptoSaid : Prop := fnForwardUptoRow.holds Try.pinned (OpenSpec.upto fnForwardSpec)

/-- 'laws.FnPastRun', WHERE WHAT IT READS IS OF BULK AT MOST 1048576: true; the input reads as it did. -/
def fnPastRunUptoRow : OpenClaim := { program := "ytkebfnmepbblnaa", sum := "cce65be375a3c826b42a05216a0ea7596d2a649cda62198aa66f785c5f458dcf", func := "loop.example/g01118/laws.FnPastRun", spec := "fnPastRun", unfollowed := true, recurses := true, apart := false, narrowed := true }
def FnPastRunUptoSaid : Prop := fnPastRunUptoRow.holds Try.pinned (OpenSpec.upto fnPastRunSpec)

end Rows
end Go.Proofs.Ytkebfnmepbblnaa
