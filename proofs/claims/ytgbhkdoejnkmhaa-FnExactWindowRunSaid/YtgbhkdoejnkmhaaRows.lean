/-
  No cell of these rows narrows 'for every input' (looked for: loops, veiled, ifaces, maps, wideKeys, modest, calm, conditions, laid).
  DERIVED. THE GIVEN ROWS OF THIS SEAT. 12 by the template 'for every input the law returns true; each argument reads behind the call as it read before'; 0 by the template 'total and deterministic' (their statements: YtgbhkdoejnkmhaaTotals.lean).
  GIVEN WITH THE SEED: the statements are not yours to turn. If you find one false, say at which input.
  Laid BY PROGRAM, IN A SANDBOX (cutbox-rows.mjs): the forced cells as the released guide's own fill.sh prints them over the translation bb10a10ce5bd6822… (all of the seat's roots in one cut). By AI agents, Wed Nov 11 2026. No macro, syntax, notation, axiom, sorry.
-/
import Derived.Test.YtgbhkdoejnkmhaaChecked
import GoSem.Claim
import GoSem.ClaimJoined
import GoSem.ClaimMapViews
import Derived.JoinedTies
import Derived.KernelRfl
namespace Go.Proofs.Ytgbhkdoejnkmhaa
/- THE CELL 'sum', in the pinned program and in every row, IS THE sha256 OF THE DUMP (.gsa) THAT YtgbhkdoejnkmhaaProg.lean LOADS. Nothing in Lean hashes anything: it is a label: what it is worth is what the hold of that sum in a sandbox is worth. -/
noncomputable def Try.pinned : Pinned := { name := "ytgbhkdoejnkmhaa", sum := "bb10a10ce5bd6822effb731694f9b3fb36c8a61de7564f956a214deac954c944", checked := Try.checked }
namespace Rows
def none {H : Type} : Left H := { results := [], args := [] }

/-- 'laws.FnExactValidMaps': WHATEVER THE INPUT: true; the input reads as it did. -/
def fnExactValidMapsSpec : ChangeSpec := { name := "fnExactValidMaps", fn := fun _ => fun
  | [d] => { results := [.lit (.bool true)], args := [d] }
  | _ => none }
def fnExactValidMapsRow : OpenClaim := { program := "ytgbhkdoejnkmhaa", sum := "bb10a10ce5bd6822effb731694f9b3fb36c8a61de7564f956a214deac954c944", func := "loop.example/g01118/laws.FnExactValidMaps", spec := "fnExactValidMaps", unfollowed := true, recurses := true, apart := false }
def FnExactValidMapsSaid : Prop := fnExactValidMapsRow.holds Try.pinned (OpenSpec.ofChange fnExactValidMapsSpec)

/-- ITS FALSE NEIGHBOUR: 'it returns false'. Refute it at one input. -/
def fnExactValidMapsWrong : ChangeSpec := { name := "fnExactValidMaps", fn := fun _ => fun
  | [d] => { results := [.lit (.bool false)], args := [d] }
  | _ => none }
def FnExactValidMapsWrongFalsely : Prop := fnExactValidMapsRow.holds Try.pinned (OpenSpec.ofChange fnExactValidMapsWrong)

/-- 'laws.FnExactSameMaps': WHATEVER THE INPUT: true; the input reads as it did. -/
def fnExactSameMapsSpec : ChangeSpec := { name := "fnExactSameMaps", fn := fun _ => fun
  | [d1, d2] => { results := [.lit (.bool true)], args := [d1, d2] }
  | _ => none }
def fnExactSameMapsRow : OpenClaim := { program := "ytgbhkdoejnkmhaa", sum := "bb10a10ce5bd6822effb731694f9b3fb36c8a61de7564f956a214deac954c944", func := "loop.example/g01118/laws.FnExactSameMaps", spec := "fnExactSameMaps", unfollowed := true, recurses := true, apart := false }
def FnExactSameMapsSaid : Prop := fnExactSameMapsRow.holds Try.pinned (OpenSpec.ofChange fnExactSameMapsSpec)

/-- ITS FALSE NEIGHBOUR: 'it returns false'. Refute it at one input. -/
def fnExactSameMapsWrong : ChangeSpec := { name := "fnExactSameMaps", fn := fun _ => fun
  | [d1, d2] => { results := [.lit (.bool false)], args := [d1, d2] }
  | _ => none }
def FnExactSameMapsWrongFalsely : Prop := fnExactSameMapsRow.holds Try.pinned (OpenSpec.ofChange fnExactSameMapsWrong)

/-- 'laws.FnExactChainOfMaps': WHATEVER THE INPUT: true; the input reads as it did. -/
def fnExactChainOfMapsSpec : ChangeSpec := { name := "fnExactChainOfMaps", fn := fun _ => fun
  | [d] => { results := [.lit (.bool true)], args := [d] }
  | _ => none }
def fnExactChainOfMapsRow : OpenClaim := { program := "ytgbhkdoejnkmhaa", sum := "bb10a10ce5bd6822effb731694f9b3fb36c8a61de7564f956a214deac954c944", func := "loop.example/g01118/laws.FnExactChainOfMaps", spec := "fnExactChainOfMaps", unfollowed := true, recurses := true, apart := false }
def FnExactChainOfMapsSaid : Prop := fnExactChainOfMapsRow.holds Try.pinned (OpenSpec.ofChange fnExactChainOfMapsSpec)

/-- ITS FALSE NEIGHBOUR: 'it returns false'. Refute it at one input. -/
def fnExactChainOfMapsWrong : ChangeSpec := { name := "fnExactChainOfMaps", fn := fun _ => fun
  | [d] => { results := [.lit (.bool false)], args := [d] }
  | _ => none }
def FnExactChainOfMapsWrongFalsely : Prop := fnExactChainOfMapsRow.holds Try.pinned (OpenSpec.ofChange fnExactChainOfMapsWrong)

/-- 'laws.FnExactMapsByDraws': WHATEVER THE INPUT: true; the input reads as it did. -/
def fnExactMapsByDrawsSpec : ChangeSpec := { name := "fnExactMapsByDraws", fn := fun _ => fun
  | [d] => { results := [.lit (.bool true)], args := [d] }
  | _ => none }
def fnExactMapsByDrawsRow : OpenClaim := { program := "ytgbhkdoejnkmhaa", sum := "bb10a10ce5bd6822effb731694f9b3fb36c8a61de7564f956a214deac954c944", func := "loop.example/g01118/laws.FnExactMapsByDraws", spec := "fnExactMapsByDraws", unfollowed := true, recurses := true, apart := false }
def FnExactMapsByDrawsSaid : Prop := fnExactMapsByDrawsRow.holds Try.pinned (OpenSpec.ofChange fnExactMapsByDrawsSpec)

/-- ITS FALSE NEIGHBOUR: 'it returns false'. Refute it at one input. -/
def fnExactMapsByDrawsWrong : ChangeSpec := { name := "fnExactMapsByDraws", fn := fun _ => fun
  | [d] => { results := [.lit (.bool false)], args := [d] }
  | _ => none }
def FnExactMapsByDrawsWrongFalsely : Prop := fnExactMapsByDrawsRow.holds Try.pinned (OpenSpec.ofChange fnExactMapsByDrawsWrong)

/-- 'laws.FnExactThenMaps': WHATEVER THE INPUT: true; the input reads as it did. -/
def fnExactThenMapsSpec : ChangeSpec := { name := "fnExactThenMaps", fn := fun _ => fun
  | [d1, d2] => { results := [.lit (.bool true)], args := [d1, d2] }
  | _ => none }
def fnExactThenMapsRow : OpenClaim := { program := "ytgbhkdoejnkmhaa", sum := "bb10a10ce5bd6822effb731694f9b3fb36c8a61de7564f956a214deac954c944", func := "loop.example/g01118/laws.FnExactThenMaps", spec := "fnExactThenMaps", unfollowed := true, recurses := true, apart := false }
def FnExactThenMapsSaid : Prop := fnExactThenMapsRow.holds Try.pinned (OpenSpec.ofChange fnExactThenMapsSpec)

/-- ITS FALSE NEIGHBOUR: 'it returns false'. Refute it at one input. -/
def fnExactThenMapsWrong : ChangeSpec := { name := "fnExactThenMaps", fn := fun _ => fun
  | [d1, d2] => { results := [.lit (.bool false)], args := [d1, d2] }
  | _ => none }
def FnExactThenMapsWrongFalsely : Prop := fnExactThenMapsRow.holds Try.pinned (OpenSpec.ofChange fnExactThenMapsWrong)

/-- 'laws.FnExactApplyPicks': WHATEVER THE INPUT: true; the input reads as it did. -/
def fnExactApplyPicksSpec : ChangeSpec := { name := "fnExactApplyPicks", fn := fun _ => fun
  | [d1, d2] => { results := [.lit (.bool true)], args := [d1, d2] }
  | _ => none }
def fnExactApplyPicksRow : OpenClaim := { program := "ytgbhkdoejnkmhaa", sum := "bb10a10ce5bd6822effb731694f9b3fb36c8a61de7564f956a214deac954c944", func := "loop.example/g01118/laws.FnExactApplyPicks", spec := "fnExactApplyPicks", unfollowed := true, recurses := true, apart := false }
def FnExactApplyPicksSaid : Prop := fnExactApplyPicksRow.holds Try.pinned (OpenSpec.ofChange fnExactApplyPicksSpec)

/-- ITS FALSE NEIGHBOUR: 'it returns false'. Refute it at one input. -/
def fnExactApplyPicksWrong : ChangeSpec := { name := "fnExactApplyPicks", fn := fun _ => fun
  | [d1, d2] => { results := [.lit (.bool false)], args := [d1, d2] }
  | _ => none }
def FnExactApplyPicksWrongFalsely : Prop := fnExactApplyPicksRow.holds Try.pinned (OpenSpec.ofChange fnExactApplyPicksWrong)

/-- 'laws.FnExactPastRun': WHATEVER THE INPUT: true; the input reads as it did. -/
def fnExactPastRunSpec : ChangeSpec := { name := "fnExactPastRun", fn := fun _ => fun
  | [d1, d2] => { results := [.lit (.bool true)], args := [d1, d2] }
  | _ => none }
def fnExactPastRunRow : OpenClaim := { program := "ytgbhkdoejnkmhaa", sum := "bb10a10ce5bd6822effb731694f9b3fb36c8a61de7564f956a214deac954c944", func := "loop.example/g01118/laws.FnExactPastRun", spec := "fnExactPastRun", unfollowed := true, recurses := true, apart := false }
def FnExactPastRunSaid : Prop := fnExactPastRunRow.holds Try.pinned (OpenSpec.ofChange fnExactPastRunSpec)

/-- ITS FALSE NEIGHBOUR: 'it returns false'. Refute it at one input. -/
def fnExactPastRunWrong : ChangeSpec := { name := "fnExactPastRun", fn := fun _ => fun
  | [d1, d2] => { results := [.lit (.bool false)], args := [d1, d2] }
  | _ => none }
def FnExactPastRunWrongFalsely : Prop := fnExactPastRunRow.holds Try.pinned (OpenSpec.ofChange fnExactPastRunWrong)

/-- 'laws.FnExactWindowRun': WHATEVER THE INPUT: true; the input reads as it did. -/
def fnExactWindowRunSpec : ChangeSpec := { name := "fnExactWindowRun", fn := fun _ => fun
  | [d1, d2] => { results := [.lit (.bool true)], args := [d1, d2] }
  | _ => none }
def fnExactWindowRunRow : OpenClaim := { program := "ytgbhkdoejnkmhaa", sum := "bb10a10ce5bd6822effb731694f9b3fb36c8a61de7564f956a214deac954c944", func := "loop.example/g01118/laws.FnExactWindowRun", spec := "fnExactWindowRun", unfollowed := true, recurses := true, apart := false }
def FnExactWindowRunSaid : Prop := fnExactWindowRunRow.holds Try.pinned (OpenSpec.ofChange fnExactWindowRunSpec)

/-- ITS FALSE NEIGHBOUR: 'it returns false'. Refute it at one input. -/
def fnExactWindowRunWrong : ChangeSpec := { name := "fnExactWindowRun", fn := fun _ => fun
  | [d1, d2] => { results := [.lit (.bool false)], args := [d1, d2] }
  | _ => none }
def FnExactWindowRunWrongFalsely : Prop := fnExactWindowRunRow.holds Try.pinned (OpenSpec.ofChange fnExactWindowRunWrong)

/-- 'laws.FnExactForwardRun': WHATEVER THE INPUT: true; the input reads as it did. -/
def fnExactForwardRunSpec : ChangeSpec := { name := "fnExactForwardRun", fn := fun _ => fun
  | [d1, d2] => { results := [.lit (.bool true)], args := [d1, d2] }
  | _ => none }
def fnExactForwardRunRow : OpenClaim := { program := "ytgbhkdoejnkmhaa", sum := "bb10a10ce5bd6822effb731694f9b3fb36c8a61de7564f956a214deac954c944", func := "loop.example/g01118/laws.FnExactForwardRun", spec := "fnExactForwardRun", unfollowed := true, recurses := true, apart := false }
def FnExactForwardRunSaid : Prop := fnExactForwardRunRow.holds Try.pinned (OpenSpec.ofChange fnExactForwardRunSpec)

/-- ITS FALSE NEIGHBOUR: 'it returns false'. Refute it at one input. -/
def fnExactForwardRunWrong : ChangeSpec := { name := "fnExactForwardRun", fn := fun _ => fun
  | [d1, d2] => { results := [.lit (.bool false)], args := [d1, d2] }
  | _ => none }
def FnExactForwardRunWrongFalsely : Prop := fnExactForwardRunRow.holds Try.pinned (OpenSpec.ofChange fnExactForwardRunWrong)

/-- 'laws.FnExactValidOrder': WHATEVER THE INPUT: true; the input reads as it did. -/
def fnExactValidOrderSpec : ChangeSpec := { name := "fnExactValidOrder", fn := fun _ => fun
  | [d1, d2] => { results := [.lit (.bool true)], args := [d1, d2] }
  | _ => none }
def fnExactValidOrderRow : OpenClaim := { program := "ytgbhkdoejnkmhaa", sum := "bb10a10ce5bd6822effb731694f9b3fb36c8a61de7564f956a214deac954c944", func := "loop.example/g01118/laws.FnExactValidOrder", spec := "fnExactValidOrder", unfollowed := true, recurses := true, apart := false }
def FnExactValidOrderSaid : Prop := fnExactValidOrderRow.holds Try.pinned (OpenSpec.ofChange fnExactValidOrderSpec)

/-- ITS FALSE NEIGHBOUR: 'it returns false'. Refute it at one input. -/
def fnExactValidOrderWrong : ChangeSpec := { name := "fnExactValidOrder", fn := fun _ => fun
  | [d1, d2] => { results := [.lit (.bool false)], args := [d1, d2] }
  | _ => none }
def FnExactValidOrderWrongFalsely : Prop := fnExactValidOrderRow.holds Try.pinned (OpenSpec.ofChange fnExactValidOrderWrong)

/-- 'laws.FnExactLineOrder': WHATEVER THE INPUT: true; the input reads as it did. -/
def fnExactLineOrderSpec : ChangeSpec := { name := "fnExactLineOrder", fn := fun _ => fun
  | [d] => { results := [.lit (.bool true)], args := [d] }
  | _ => none }
def fnExactLineOrderRow : OpenClaim := { program := "ytgbhkdoejnkmhaa", sum := "bb10a10ce5bd6822effb731694f9b3fb36c8a61de7564f956a214deac954c944", func := "loop.example/g01118/laws.FnExactLineOrder", spec := "fnExactLineOrder", apart := false }
def FnExactLineOrderSaid : Prop := fnExactLineOrderRow.holds Try.pinned (OpenSpec.ofChange fnExactLineOrderSpec)

/-- ITS FALSE NEIGHBOUR: 'it returns false'. Refute it at one input. -/
def fnExactLineOrderWrong : ChangeSpec := { name := "fnExactLineOrder", fn := fun _ => fun
  | [d] => { results := [.lit (.bool false)], args := [d] }
  | _ => none }
def FnExactLineOrderWrongFalsely : Prop := fnExactLineOrderRow.holds Try.pinned (OpenSpec.ofChange fnExactLineOrderWrong)

/-- 'laws.FnExactEndsOf': WHATEVER THE INPUT: true; the input reads as it did. -/
def fnExactEndsOfSpec : ChangeSpec := { name := "fnExactEndsOf", fn := fun _ => fun
  | [d] => { results := [.lit (.bool true)], args := [d] }
  | _ => none }
def fnExactEndsOfRow : OpenClaim := { program := "ytgbhkdoejnkmhaa", sum := "bb10a10ce5bd6822effb731694f9b3fb36c8a61de7564f956a214deac954c944", func := "loop.example/g01118/laws.FnExactEndsOf", spec := "fnExactEndsOf", unfollowed := true, recurses := true, apart := false }
def FnExactEndsOfSaid : Prop := fnExactEndsOfRow.holds Try.pinned (OpenSpec.ofChange fnExactEndsOfSpec)

/-- ITS FALSE NEIGHBOUR: 'it returns false'. Refute it at one input. -/
def fnExactEndsOfWrong : ChangeSpec := { name := "fnExactEndsOf", fn := fun _ => fun
  | [d] => { results := [.lit (.bool false)], args := [d] }
  | _ => none }
def FnExactEndsOfWrongFalsely : Prop := fnExactEndsOfRow.holds Try.pinned (OpenSpec.ofChange fnExactEndsOfWrong)

/- THE SECOND FORM. 'bulk': how many values and letters a reading holds, each counted each time it is reached (what is shared counts as often as it is met; a slice's spare places count too). A statement '..UptoSaid' is the law's where the arguments, and the package variables that the reading takes, are together of bulk at most 1048576: NARROWER than '..Said'. Prove '..Said' where nothing that the law and all that it calls make is longer than what came in: it says more and counts as full. Else prove '..UptoSaid'. A law counts once. -/
mutual
def uptoBulk {H : Type} : DataW H → Nat
  | .lit (.string bytes) => bytes.length + 1
  | .lit _ => 1
  | .nil => 1
  | .ptr d => uptoBulk d + 1
  | .slice elems spare => uptoBulkAll elems + uptoBulkAll spare + 1
  | .agg parts => uptoBulkAll parts + 1
  | .iface _ d => uptoBulk d + 1
  | .map entries => uptoBulkEntries entries + 1
  | .held _ => 1
def uptoBulkAll {H : Type} : List (DataW H) → Nat
  | [] => 0
  | d :: r => uptoBulk d + uptoBulkAll r
def uptoBulkEntries {H : Type} : List (Lit × DataW H) → Nat
  | [] => 0
  | x :: r => uptoBulkEntry x + uptoBulkEntries r
def uptoBulkEntry {H : Type} : Lit × DataW H → Nat
  | (.string bytes, d) => bytes.length + uptoBulk d + 1
  | (_, d) => uptoBulk d + 1
 end
def uptoSmall : (H : Type) → List (DataW H) → Bool := fun _ ds => decide (uptoBulkAll ds ≤ 1048576)
def OpenSpec.upto (s : _root_.Go.ChangeSpec) : _root_.Go.OpenSpec := { _root_.Go.OpenSpec.ofChange s with cond := some uptoSmall }

/-- 'laws.FnExactValidMaps', WHERE WHAT IT READS IS OF BULK AT MOST 1048576: true; the input reads as it did. -/
def fnExactValidMapsUptoRow : OpenClaim := { program := "ytgbhkdoejnkmhaa", sum := "bb10a10ce5bd6822effb731694f9b3fb36c8a61de7564f956a214deac954c944", func := "loop.example/g01118/laws.FnExactValidMaps", spec := "fnExactValidMaps", unfollowed := true, recurses := true, apart := false, narrowed := true }
def FnExactValidMapsUptoSaid : Prop := fnExactValidMapsUptoRow.holds Try.pinned (OpenSpec.upto fnExactValidMapsSpec)

/-- 'laws.FnExactSameMaps', WHERE WHAT IT READS IS OF BULK AT MOST 1048576: true; the input reads as it did. -/
def fnExactSameMapsUptoRow : OpenClaim := { program := "ytgbhkdoejnkmhaa", sum := "bb10a10ce5bd6822effb731694f9b3fb36c8a61de7564f956a214deac954c944", func := "loop.example/g01118/laws.FnExactSameMaps", spec := "fnExactSameMaps", unfollowed := true, recurses := true, apart := false, narrowed := true }
def FnExactSameMapsUptoSaid : Prop := fnExactSameMapsUptoRow.holds Try.pinned (OpenSpec.upto fnExactSameMapsSpec)

/-- 'laws.FnExactChainOfMaps', WHERE WHAT IT READS IS OF BULK AT MOST 1048576: true; the input reads as it did. -/
def fnExactChainOfMapsUptoRow : OpenClaim := { program := "ytgbhkdoejnkmhaa", sum := "bb10a10ce5bd6822effb731694f9b3fb36c8a61de7564f956a214deac954c944", func := "loop.example/g01118/laws.FnExactChainOfMaps", spec := "fnExactChainOfMaps", unfollowed := true, recurses := true, apart := false, narrowed := true }
def FnExactChainOfMapsUptoSaid : Prop := fnExactChainOfMapsUptoRow.holds Try.pinned (OpenSpec.upto fnExactChainOfMapsSpec)

/-- 'laws.FnExactMapsByDraws', WHERE WHAT IT READS IS OF BULK AT MOST 1048576: true; the input reads as it did. -/
def fnExactMapsByDrawsUptoRow : OpenClaim := { program := "ytgbhkdoejnkmhaa", sum := "bb10a10ce5bd6822effb731694f9b3fb36c8a61de7564f956a214deac954c944", func := "loop.example/g01118/laws.FnExactMapsByDraws", spec := "fnExactMapsByDraws", unfollowed := true, recurses := true, apart := false, narrowed := true }
def FnExactMapsByDrawsUptoSaid : Prop := fnExactMapsByDrawsUptoRow.holds Try.pinned (OpenSpec.upto fnExactMapsByDrawsSpec)

/-- 'laws.FnExactThenMaps', WHERE WHAT IT READS IS OF BULK AT MOST 1048576: true; the input reads as it did. -/
def fnExactThenMapsUptoRow : OpenClaim := { program := "ytgbhkdoejnkmhaa", sum := "bb10a10ce5bd6822effb731694f9b3fb36c8a61de7564f956a214deac954c944", func := "loop.example/g01118/laws.FnExactThenMaps", spec := "fnExactThenMaps", unfollowed := true, recurses := true, apart := false, narrowed := true }
def FnExactThenMapsUptoSaid : Prop := fnExactThenMapsUptoRow.holds Try.pinned (OpenSpec.upto fnExactThenMapsSpec)

/-- 'laws.FnExactApplyPicks', WHERE WHAT IT READS IS OF BULK AT MOST 1048576: true; the input reads as it did. -/
def fnExactApplyPicksUptoRow : OpenClaim := { program := "ytgbhkdoejnkmhaa", sum := "bb10a10ce5bd6822effb731694f9b3fb36c8a61de7564f956a214deac954c944", func := "loop.example/g01118/laws.FnExactApplyPicks", spec := "fnExactApplyPicks", unfollowed := true, recurses := true, apart := false, narrowed := true }
def FnExactApplyPicksUptoSaid : Prop := fnExactApplyPicksUptoRow.holds Try.pinned (OpenSpec.upto fnExactApplyPicksSpec)

/-- 'laws.FnExactPastRun', WHERE WHAT IT READS IS OF BULK AT MOST 1048576: true; the input reads as it did. -/
def fnExactPastRunUptoRow : OpenClaim := { program := "ytgbhkdoejnkmhaa", sum := "bb10a10ce5bd6822effb731694f9b3fb36c8a61de7564f956a214deac954c944", func := "loop.example/g01118/laws.FnExactPastRun", spec := "fnExactPastRun", unfollowed := true, recurses := true, apart := false, narrowed := true }
def FnExactPastRunUptoSaid : Prop := fnExactPastRunUptoRow.holds Try.pinned (OpenSpec.upto fnExactPastRunSpec)

/-- 'laws.FnExactWindowRun', WHERE WHAT IT READS IS OF BULK AT MOST 1048576: true; the input reads as it did. -/
def fnExactWindowRunUptoRow : OpenClaim := { program := "ytgbhkdoejnkmhaa", sum := "bb10a10ce5bd6822effb731694f9b3fb36c8a61de7564f956a214deac954c944", func := "loop.example/g01118/laws.FnExactWindowRun", spec := "fnExactWindowRun", unfollowed := true, recurses := true, apart := false, narrowed := true }
def FnExactWindowRunUptoSaid : Prop := fnExactWindowRunUptoRow.holds Try.pinned (OpenSpec.upto fnExactWindowRunSpec)

/-- 'laws.FnExactForwardRun', WHERE WHAT IT READS IS OF BULK AT MOST 1048576: true; the input reads as it did. -/
def fnExactForwardRunUptoRow : OpenClaim := { program := "ytgbhkdoejnkmhaa", sum := "bb10a10ce5bd6822effb731694f9b3fb36c8a61de7564f956a214deac954c944", func := "loop.example/g01118/laws.FnExactForwardRun", spec := "fnExactForwardRun", unfollowed := true, recurses := true, apart := false, narrowed := true }
def FnExactForwardRunUptoSaid : Prop := fnExactForwardRunUptoRow.holds Try.pinned (OpenSpec.upto fnExactForwardRunSpec)

/-- 'laws.FnExactValidOrder', WHERE WHAT IT READS IS OF BULK AT MOST 1048576: true; the input reads as it did. -/
def fnExactValidOrderUptoRow : OpenClaim := { program := "ytgbhkdoejnkmhaa", sum := "bb10a10ce5bd6822effb731694f9b3fb36c8a61de7564f956a214deac954c944", func := "loop.example/g01118/laws.FnExactValidOrder", spec := "fnExactValidOrder", unfollowed := true, recurses := true, apart := false, narrowed := true }
def FnExactValidOrderUptoSaid : Prop := fnExactValidOrderUptoRow.holds Try.pinned (OpenSpec.upto fnExactValidOrderSpec)

/-- 'laws.FnExactLineOrder', WHERE WHAT IT READS IS OF BULK AT MOST 1048576: true; the input reads as it did. -/
def fnExactLineOrderUptoRow : OpenClaim := { program := "ytgbhkdoejnkmhaa", sum := "bb10a10ce5bd6822effb731694f9b3fb36c8a61de7564f956a214deac954c944", func := "loop.example/g01118/laws.FnExactLineOrder", spec := "fnExactLineOrder", apart := false, narrowed := true }
def FnExactLineOrderUptoSaid : Prop := fnExactLineOrderUptoRow.holds Try.pinned (OpenSpec.upto fnExactLineOrderSpec)

/-- 'laws.FnExactEndsOf', WHERE WHAT IT READS IS OF BULK AT MOST 1048576: true; the input reads as it did. -/
def fnExactEndsOfUptoRow : OpenClaim := { program := "ytgbhkdoejnkmhaa", sum := "bb10a10ce5bd6822effb731694f9b3fb36c8a61de7564f956a214deac954c944", func := "loop.example/g01118/laws.FnExactEndsOf", spec := "fnExactEndsOf", unfollowed := true, recurses := true, apart := false, narrowed := true }
def FnExactEndsOfUptoSaid : Prop := fnExactEndsOfUptoRow.holds Try.pinned (OpenSpec.upto fnExactEndsOfSpec)

end Rows
end Go.Proofs.Ytgbhkdoejnkmhaa
