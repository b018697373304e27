/-
  No cell of these rows narrows 'for every input' (looked for: loops, veiled, ifaces, maps, wideKeys, modest, calm, conditions, laid).
  DERIVED. THE GIVEN ROWS OF THIS SEAT. 12 by the template 'for every input the law returns true; each argument reads behind the call as it read before'; 0 by the template 'total and deterministic' (their statements: YtepajimcnheofaaTotals.lean).
  GIVEN WITH THE SEED: the statements are not yours to turn. If you find one false, say at which input.
  Laid BY PROGRAM, IN A SANDBOX (cutbox-rows.mjs): the forced cells as the released guide's own fill.sh prints them over the translation 8b00e6eb7ae45efc… (all of the seat's roots in one cut). By AI agents, Wed Nov 11 2026. No macro, syntax, notation, axiom, sorry.
-/
import Derived.Test.YtepajimcnheofaaChecked
import GoSem.Claim
import GoSem.ClaimJoined
import GoSem.ClaimMapViews
import Derived.JoinedTies
import Derived.KernelRfl
namespace Go.Proofs.Ytepajimcnheofaa
/- THE CELL 'sum', in the pinned program and in every row, IS THE sha256 OF THE DUMP (.gsa) THAT YtepajimcnheofaaProg.lean LOADS. Nothing in Lean hashes anything: it is a label: what it is worth is what the hold of that sum in a sandbox is worth. -/
noncomputable def Try.pinned : Pinned := { name := "ytepajimcnheofaa", sum := "8b00e6eb7ae45efc152c6fe61577af2784e17c36387d75a394c5f04b86b4a6c7", checked := Try.checked }
namespace Rows
def none {H : Type} : Left H := { results := [], args := [] }

/-- 'laws.FnExactMixChains': WHATEVER THE INPUT: true; the input reads as it did. -/
def fnExactMixChainsSpec : ChangeSpec := { name := "fnExactMixChains", fn := fun _ => fun
  | [d1, d2] => { results := [.lit (.bool true)], args := [d1, d2] }
  | _ => none }
def fnExactMixChainsRow : OpenClaim := { program := "ytepajimcnheofaa", sum := "8b00e6eb7ae45efc152c6fe61577af2784e17c36387d75a394c5f04b86b4a6c7", func := "loop.example/g01118/laws.FnExactMixChains", spec := "fnExactMixChains", unfollowed := true, recurses := true, apart := false }
def FnExactMixChainsSaid : Prop := fnExactMixChainsRow.holds Try.pinned (OpenSpec.ofChange fnExactMixChainsSpec)

/-- ITS FALSE NEIGHBOUR: 'it returns false'. Refute it at one input. -/
def fnExactMixChainsWrong : ChangeSpec := { name := "fnExactMixChains", fn := fun _ => fun
  | [d1, d2] => { results := [.lit (.bool false)], args := [d1, d2] }
  | _ => none }
def FnExactMixChainsWrongFalsely : Prop := fnExactMixChainsRow.holds Try.pinned (OpenSpec.ofChange fnExactMixChainsWrong)

/-- 'laws.FnExactLazyChain': WHATEVER THE INPUT: true; the input reads as it did. -/
def fnExactLazyChainSpec : ChangeSpec := { name := "fnExactLazyChain", fn := fun _ => fun
  | [d] => { results := [.lit (.bool true)], args := [d] }
  | _ => none }
def fnExactLazyChainRow : OpenClaim := { program := "ytepajimcnheofaa", sum := "8b00e6eb7ae45efc152c6fe61577af2784e17c36387d75a394c5f04b86b4a6c7", func := "loop.example/g01118/laws.FnExactLazyChain", spec := "fnExactLazyChain", unfollowed := true, recurses := true, apart := false }
def FnExactLazyChainSaid : Prop := fnExactLazyChainRow.holds Try.pinned (OpenSpec.ofChange fnExactLazyChainSpec)

/-- ITS FALSE NEIGHBOUR: 'it returns false'. Refute it at one input. -/
def fnExactLazyChainWrong : ChangeSpec := { name := "fnExactLazyChain", fn := fun _ => fun
  | [d] => { results := [.lit (.bool false)], args := [d] }
  | _ => none }
def FnExactLazyChainWrongFalsely : Prop := fnExactLazyChainRow.holds Try.pinned (OpenSpec.ofChange fnExactLazyChainWrong)

/-- 'laws.FnExactThenChain': WHATEVER THE INPUT: true; the input reads as it did. -/
def fnExactThenChainSpec : ChangeSpec := { name := "fnExactThenChain", fn := fun _ => fun
  | [d1, d2] => { results := [.lit (.bool true)], args := [d1, d2] }
  | _ => none }
def fnExactThenChainRow : OpenClaim := { program := "ytepajimcnheofaa", sum := "8b00e6eb7ae45efc152c6fe61577af2784e17c36387d75a394c5f04b86b4a6c7", func := "loop.example/g01118/laws.FnExactThenChain", spec := "fnExactThenChain", unfollowed := true, recurses := true, apart := false }
def FnExactThenChainSaid : Prop := fnExactThenChainRow.holds Try.pinned (OpenSpec.ofChange fnExactThenChainSpec)

/-- ITS FALSE NEIGHBOUR: 'it returns false'. Refute it at one input. -/
def fnExactThenChainWrong : ChangeSpec := { name := "fnExactThenChain", fn := fun _ => fun
  | [d1, d2] => { results := [.lit (.bool false)], args := [d1, d2] }
  | _ => none }
def FnExactThenChainWrongFalsely : Prop := fnExactThenChainRow.holds Try.pinned (OpenSpec.ofChange fnExactThenChainWrong)

/-- 'laws.FnExactSkipChain': WHATEVER THE INPUT: true; the input reads as it did. -/
def fnExactSkipChainSpec : ChangeSpec := { name := "fnExactSkipChain", fn := fun _ => fun
  | [d1, d2] => { results := [.lit (.bool true)], args := [d1, d2] }
  | _ => none }
def fnExactSkipChainRow : OpenClaim := { program := "ytepajimcnheofaa", sum := "8b00e6eb7ae45efc152c6fe61577af2784e17c36387d75a394c5f04b86b4a6c7", func := "loop.example/g01118/laws.FnExactSkipChain", spec := "fnExactSkipChain", unfollowed := true, recurses := true, apart := false }
def FnExactSkipChainSaid : Prop := fnExactSkipChainRow.holds Try.pinned (OpenSpec.ofChange fnExactSkipChainSpec)

/-- ITS FALSE NEIGHBOUR: 'it returns false'. Refute it at one input. -/
def fnExactSkipChainWrong : ChangeSpec := { name := "fnExactSkipChain", fn := fun _ => fun
  | [d1, d2] => { results := [.lit (.bool false)], args := [d1, d2] }
  | _ => none }
def FnExactSkipChainWrongFalsely : Prop := fnExactSkipChainRow.holds Try.pinned (OpenSpec.ofChange fnExactSkipChainWrong)

/-- 'laws.FnExactBesideChain': WHATEVER THE INPUT: true; the input reads as it did. -/
def fnExactBesideChainSpec : ChangeSpec := { name := "fnExactBesideChain", fn := fun _ => fun
  | [d1, d2] => { results := [.lit (.bool true)], args := [d1, d2] }
  | _ => none }
def fnExactBesideChainRow : OpenClaim := { program := "ytepajimcnheofaa", sum := "8b00e6eb7ae45efc152c6fe61577af2784e17c36387d75a394c5f04b86b4a6c7", func := "loop.example/g01118/laws.FnExactBesideChain", spec := "fnExactBesideChain", unfollowed := true, recurses := true, apart := false }
def FnExactBesideChainSaid : Prop := fnExactBesideChainRow.holds Try.pinned (OpenSpec.ofChange fnExactBesideChainSpec)

/-- ITS FALSE NEIGHBOUR: 'it returns false'. Refute it at one input. -/
def fnExactBesideChainWrong : ChangeSpec := { name := "fnExactBesideChain", fn := fun _ => fun
  | [d1, d2] => { results := [.lit (.bool false)], args := [d1, d2] }
  | _ => none }
def FnExactBesideChainWrongFalsely : Prop := fnExactBesideChainRow.holds Try.pinned (OpenSpec.ofChange fnExactBesideChainWrong)

/-- 'laws.FnExactRenameStates': WHATEVER THE INPUT: true; the input reads as it did. -/
def fnExactRenameStatesSpec : ChangeSpec := { name := "fnExactRenameStates", fn := fun _ => fun
  | [d1, d2] => { results := [.lit (.bool true)], args := [d1, d2] }
  | _ => none }
def fnExactRenameStatesRow : OpenClaim := { program := "ytepajimcnheofaa", sum := "8b00e6eb7ae45efc152c6fe61577af2784e17c36387d75a394c5f04b86b4a6c7", func := "loop.example/g01118/laws.FnExactRenameStates", spec := "fnExactRenameStates", unfollowed := true, recurses := true, apart := false }
def FnExactRenameStatesSaid : Prop := fnExactRenameStatesRow.holds Try.pinned (OpenSpec.ofChange fnExactRenameStatesSpec)

/-- ITS FALSE NEIGHBOUR: 'it returns false'. Refute it at one input. -/
def fnExactRenameStatesWrong : ChangeSpec := { name := "fnExactRenameStates", fn := fun _ => fun
  | [d1, d2] => { results := [.lit (.bool false)], args := [d1, d2] }
  | _ => none }
def FnExactRenameStatesWrongFalsely : Prop := fnExactRenameStatesRow.holds Try.pinned (OpenSpec.ofChange fnExactRenameStatesWrong)

/-- 'laws.FnExactRunByDraws': WHATEVER THE INPUT: true; the input reads as it did. -/
def fnExactRunByDrawsSpec : ChangeSpec := { name := "fnExactRunByDraws", fn := fun _ => fun
  | [d1, d2, d3] => { results := [.lit (.bool true)], args := [d1, d2, d3] }
  | _ => none }
def fnExactRunByDrawsRow : OpenClaim := { program := "ytepajimcnheofaa", sum := "8b00e6eb7ae45efc152c6fe61577af2784e17c36387d75a394c5f04b86b4a6c7", func := "loop.example/g01118/laws.FnExactRunByDraws", spec := "fnExactRunByDraws", unfollowed := true, recurses := true, apart := false }
def FnExactRunByDrawsSaid : Prop := fnExactRunByDrawsRow.holds Try.pinned (OpenSpec.ofChange fnExactRunByDrawsSpec)

/-- ITS FALSE NEIGHBOUR: 'it returns false'. Refute it at one input. -/
def fnExactRunByDrawsWrong : ChangeSpec := { name := "fnExactRunByDraws", fn := fun _ => fun
  | [d1, d2, d3] => { results := [.lit (.bool false)], args := [d1, d2, d3] }
  | _ => none }
def FnExactRunByDrawsWrongFalsely : Prop := fnExactRunByDrawsRow.holds Try.pinned (OpenSpec.ofChange fnExactRunByDrawsWrong)

/-- 'laws.FnDraws': WHATEVER THE INPUT: true; the input reads as it did. -/
def fnDrawsSpec : ChangeSpec := { name := "fnDraws", fn := fun _ => fun
  | [d1, d2] => { results := [.lit (.bool true)], args := [d1, d2] }
  | _ => none }
def fnDrawsRow : OpenClaim := { program := "ytepajimcnheofaa", sum := "8b00e6eb7ae45efc152c6fe61577af2784e17c36387d75a394c5f04b86b4a6c7", func := "loop.example/g01118/laws.FnDraws", spec := "fnDraws", unfollowed := true, recurses := true, apart := false }
def FnDrawsSaid : Prop := fnDrawsRow.holds Try.pinned (OpenSpec.ofChange fnDrawsSpec)

/-- ITS FALSE NEIGHBOUR: 'it returns false'. Refute it at one input. -/
def fnDrawsWrong : ChangeSpec := { name := "fnDraws", fn := fun _ => fun
  | [d1, d2] => { results := [.lit (.bool false)], args := [d1, d2] }
  | _ => none }
def FnDrawsWrongFalsely : Prop := fnDrawsRow.holds Try.pinned (OpenSpec.ofChange fnDrawsWrong)

/-- 'laws.FnExactCanReach': WHATEVER THE INPUT: true; the input reads as it did. -/
def fnExactCanReachSpec : ChangeSpec := { name := "fnExactCanReach", fn := fun _ => fun
  | [d1, d2] => { results := [.lit (.bool true)], args := [d1, d2] }
  | _ => none }
def fnExactCanReachRow : OpenClaim := { program := "ytepajimcnheofaa", sum := "8b00e6eb7ae45efc152c6fe61577af2784e17c36387d75a394c5f04b86b4a6c7", func := "loop.example/g01118/laws.FnExactCanReach", spec := "fnExactCanReach", unfollowed := true, recurses := true, apart := false }
def FnExactCanReachSaid : Prop := fnExactCanReachRow.holds Try.pinned (OpenSpec.ofChange fnExactCanReachSpec)

/-- ITS FALSE NEIGHBOUR: 'it returns false'. Refute it at one input. -/
def fnExactCanReachWrong : ChangeSpec := { name := "fnExactCanReach", fn := fun _ => fun
  | [d1, d2] => { results := [.lit (.bool false)], args := [d1, d2] }
  | _ => none }
def FnExactCanReachWrongFalsely : Prop := fnExactCanReachRow.holds Try.pinned (OpenSpec.ofChange fnExactCanReachWrong)

/-- 'laws.FnExactClassesOf': WHATEVER THE INPUT: true; the input reads as it did. -/
def fnExactClassesOfSpec : ChangeSpec := { name := "fnExactClassesOf", fn := fun _ => fun
  | [d] => { results := [.lit (.bool true)], args := [d] }
  | _ => none }
def fnExactClassesOfRow : OpenClaim := { program := "ytepajimcnheofaa", sum := "8b00e6eb7ae45efc152c6fe61577af2784e17c36387d75a394c5f04b86b4a6c7", func := "loop.example/g01118/laws.FnExactClassesOf", spec := "fnExactClassesOf", unfollowed := true, recurses := true, apart := false }
def FnExactClassesOfSaid : Prop := fnExactClassesOfRow.holds Try.pinned (OpenSpec.ofChange fnExactClassesOfSpec)

/-- ITS FALSE NEIGHBOUR: 'it returns false'. Refute it at one input. -/
def fnExactClassesOfWrong : ChangeSpec := { name := "fnExactClassesOf", fn := fun _ => fun
  | [d] => { results := [.lit (.bool false)], args := [d] }
  | _ => none }
def FnExactClassesOfWrongFalsely : Prop := fnExactClassesOfRow.holds Try.pinned (OpenSpec.ofChange fnExactClassesOfWrong)

/-- 'laws.FnExactClosedClasses': WHATEVER THE INPUT: true; the input reads as it did. -/
def fnExactClosedClassesSpec : ChangeSpec := { name := "fnExactClosedClasses", fn := fun _ => fun
  | [d] => { results := [.lit (.bool true)], args := [d] }
  | _ => none }
def fnExactClosedClassesRow : OpenClaim := { program := "ytepajimcnheofaa", sum := "8b00e6eb7ae45efc152c6fe61577af2784e17c36387d75a394c5f04b86b4a6c7", func := "loop.example/g01118/laws.FnExactClosedClasses", spec := "fnExactClosedClasses", unfollowed := true, recurses := true, apart := false }
def FnExactClosedClassesSaid : Prop := fnExactClosedClassesRow.holds Try.pinned (OpenSpec.ofChange fnExactClosedClassesSpec)

/-- ITS FALSE NEIGHBOUR: 'it returns false'. Refute it at one input. -/
def fnExactClosedClassesWrong : ChangeSpec := { name := "fnExactClosedClasses", fn := fun _ => fun
  | [d] => { results := [.lit (.bool false)], args := [d] }
  | _ => none }
def FnExactClosedClassesWrongFalsely : Prop := fnExactClosedClassesRow.holds Try.pinned (OpenSpec.ofChange fnExactClosedClassesWrong)

/-- 'laws.FnExactIsConnected': WHATEVER THE INPUT: true; the input reads as it did. -/
def fnExactIsConnectedSpec : ChangeSpec := { name := "fnExactIsConnected", fn := fun _ => fun
  | [d] => { results := [.lit (.bool true)], args := [d] }
  | _ => none }
def fnExactIsConnectedRow : OpenClaim := { program := "ytepajimcnheofaa", sum := "8b00e6eb7ae45efc152c6fe61577af2784e17c36387d75a394c5f04b86b4a6c7", func := "loop.example/g01118/laws.FnExactIsConnected", spec := "fnExactIsConnected", unfollowed := true, recurses := true, apart := false }
def FnExactIsConnectedSaid : Prop := fnExactIsConnectedRow.holds Try.pinned (OpenSpec.ofChange fnExactIsConnectedSpec)

/-- ITS FALSE NEIGHBOUR: 'it returns false'. Refute it at one input. -/
def fnExactIsConnectedWrong : ChangeSpec := { name := "fnExactIsConnected", fn := fun _ => fun
  | [d] => { results := [.lit (.bool false)], args := [d] }
  | _ => none }
def FnExactIsConnectedWrongFalsely : Prop := fnExactIsConnectedRow.holds Try.pinned (OpenSpec.ofChange fnExactIsConnectedWrong)

/- THE SECOND FORM. 'bulk': how many values and letters a reading holds, each counted each time it is reached (what is shared counts as often as it is met; a slice's spare places count too). A statement '..UptoSaid' is the law's where the arguments, and the package variables that the reading takes, are together of bulk at most 1048576: NARROWER than '..Said'. Prove '..Said' where nothing that the law and all that it calls make is longer than what came in: it says more and counts as full. Else prove '..UptoSaid'. A law counts once. -/
mutual
def uptoBulk {H : Type} : DataW H → Nat
  | .lit (.string bytes) => bytes.length + 1
  | .lit _ => 1
  | .nil => 1
  | .ptr d => uptoBulk d + 1
  | .slice elems spare => uptoBulkAll elems + uptoBulkAll spare + 1
  | .agg parts => uptoBulkAll parts + 1
  | .iface _ d => uptoBulk d + 1
  | .map entries => uptoBulkEntries entries + 1
  | .held _ => 1
def uptoBulkAll {H : Type} : List (DataW H) → Nat
  | [] => 0
  | d :: r => uptoBulk d + uptoBulkAll r
def uptoBulkEntries {H : Type} : List (Lit × DataW H) → Nat
  | [] => 0
  | x :: r => uptoBulkEntry x + uptoBulkEntries r
def uptoBulkEntry {H : Type} : Lit × DataW H → Nat
  | (.string bytes, d) => bytes.length + uptoBulk d + 1
  | (_, d) => uptoBulk d + 1
 end
def uptoSmall : (H : Type) → List (DataW H) → Bool := fun _ ds => decide (uptoBulkAll ds ≤ 1048576)
def OpenSpec.upto (s : _root_.Go.ChangeSpec) : _root_.Go.OpenSpec := { _root_.Go.OpenSpec.ofChange s with cond := some uptoSmall }

/-- 'laws.FnExactMixChains', WHERE WHAT IT READS IS OF BULK AT MOST 1048576: true; the input reads as it did. -/
def fnExactMixChainsUptoRow : OpenClaim := { program := "ytepajimcnheofaa", sum := "8b00e6eb7ae45efc152c6fe61577af2784e17c36387d75a394c5f04b86b4a6c7", func := "loop.example/g01118/laws.FnExactMixChains", spec := "fnExactMixChains", unfollowed := true, recurses := true, apart := false, narrowed := true }
def FnExactMixChainsUptoSaid : Prop := fnExactMixChainsUptoRow.holds Try.pinned (OpenSpec.upto fnExactMixChainsSpec)

/-- 'laws.FnExactLazyChain', WHERE WHAT IT READS IS OF BULK AT MOST 1048576: true; the input reads as it did. -/
def fnExactLazyChainUptoRow : OpenClaim := { program := "ytepajimcnheofaa", sum := "8b00e6eb7ae45efc152c6fe61577af2784e17c36387d75a394c5f04b86b4a6c7", func := "loop.example/g01118/laws.FnExactLazyChain", spec := "fnExactLazyChain", unfollowed := true, recurses := true, apart := false, narrowed := true }
def FnExactLazyChainUptoSaid : Prop := fnExactLazyChainUptoRow.holds Try.pinned (OpenSpec.upto fnExactLazyChainSpec)

/-- 'laws.FnExactThenChain', WHERE WHAT IT READS IS OF BULK AT MOST 1048576: true; the input reads as it did. -/
def fnExactThenChainUptoRow : OpenClaim := { program := "ytepajimcnheofaa", sum := "8b00e6eb7ae45efc152c6fe61577af2784e17c36387d75a394c5f04b86b4a6c7", func := "loop.example/g01118/laws.FnExactThenChain", spec := "fnExactThenChain", unfollowed := true, recurses := true, apart := false, narrowed := true }
def FnExactThenChainUptoSaid : Prop := fnExactThenChainUptoRow.holds Try.pinned (OpenSpec.upto fnExactThenChainSpec)

/-- 'laws.FnExactSkipChain', WHERE WHAT IT READS IS OF BULK AT MOST 1048576: true; the input reads as it did. -/
def fnExactSkipChainUptoRow : OpenClaim := { program := "ytepajimcnheofaa", sum := "8b00e6eb7ae45efc152c6fe61577af2784e17c36387d75a394c5f04b86b4a6c7", func := "loop.example/g01118/laws.FnExactSkipChain", spec := "fnExactSkipChain", unfollowed := true, recurses := true, apart := false, narrowed := true }
def FnExactSkipChainUptoSaid : Prop := fnExactSkipChainUptoRow.holds Try.pinned (OpenSpec.upto fnExactSkipChainSpec)

/-- 'laws.FnExactBesideChain', WHERE WHAT IT READS IS OF BULK AT MOST 1048576: true; the input reads as it did. -/
def fnExactBesideChainUptoRow : OpenClaim := { program := "ytepajimcnheofaa", sum := "8b00e6eb7ae45efc152c6fe61577af2784e17c36387d75a394c5f04b86b4a6c7", func := "loop.example/g01118/laws.FnExactBesideChain", spec := "fnExactBesideChain", unfollowed := true, recurses := true, apart := false, narrowed := true }
def FnExactBesideChainUptoSaid : Prop := fnExactBesideChainUptoRow.holds Try.pinned (OpenSpec.upto fnExactBesideChainSpec)

/-- 'laws.FnExactRenameStates', WHERE WHAT IT READS IS OF BULK AT MOST 1048576: true; the input reads as it did. -/
def fnExactRenameStatesUptoRow : OpenClaim := { program := "ytepajimcnheofaa", sum := "8b00e6eb7ae45efc152c6fe61577af2784e17c36387d75a394c5f04b86b4a6c7", func := "loop.example/g01118/laws.FnExactRenameStates", spec := "fnExactRenameStates", unfollowed := true, recurses := true, apart := false, narrowed := true }
def FnExactRenameStatesUptoSaid : Prop := fnExactRenameStatesUptoRow.holds Try.pinned (OpenSpec.upto fnExactRenameStatesSpec)

/-- 'laws.FnExactRunByDraws', WHERE WHAT IT READS IS OF BULK AT MOST 1048576: true; the input reads as it did. -/
def fnExactRunByDrawsUptoRow : OpenClaim := { program := "ytepajimcnheofaa", sum := "8b00e6eb7ae45efc152c6fe61577af2784e17c36387d75a394c5f04b86b4a6c7", func := "loop.example/g01118/laws.FnExactRunByDraws", spec := "fnExactRunByDraws", unfollowed := true, recurses := true, apart := false, narrowed := true }
def FnExactRunByDrawsUptoSaid : Prop := fnExactRunByDrawsUptoRow.holds Try.pinned (OpenSpec.upto fnExactRunByDrawsSpec)

/-- 'laws.FnDraws', WHERE WHAT IT READS IS OF BULK AT MOST 1048576: true; the input reads as it did. -/
def fnDrawsUptoRow : OpenClaim := { program := "ytepajimcnheofaa", sum := "8b00e6eb7ae45efc152c6fe61577af2784e17c36387d75a394c5f04b86b4a6c7", func := "loop.example/g01118/laws.FnDraws", spec := "fnDraws", unfollowed := true, recurses := true, apart := false, narrowed := true }
def FnDrawsUptoSaid : Prop := fnDrawsUptoRow.holds Try.pinned (OpenSpec.upto fnDrawsSpec)

/-- 'laws.FnExactCanReach', WHERE WHAT IT READS IS OF BULK AT MOST 1048576: true; the input reads as it did. -/
def fnExactCanReachUptoRow : OpenClaim := { program := "ytepajimcnheofaa", sum := "8b00e6eb7ae45efc152c6fe61577af2784e17c36387d75a394c5f04b86b4a6c7", func := "loop.example/g01118/laws.FnExactCanReach", spec := "fnExactCanReach", unfollowed := true, recurses := true, apart := false, narrowed := true }
def FnExactCanReachUptoSaid : Prop := fnExactCanReachUptoRow.holds Try.pinned (OpenSpec.upto fnExactCanReachSpec)

/-- 'laws.FnExactClassesOf', WHERE WHAT IT READS IS OF BULK AT MOST 1048576: true; the input reads as it did. -/
def fnExactClassesOfUptoRow : OpenClaim := { program := "ytepajimcnheofaa", sum := "8b00e6eb7ae45efc152c6fe61577af2784e17c36387d75a394c5f04b86b4a6c7", func := "loop.example/g01118/laws.FnExactClassesOf", spec := "fnExactClassesOf", unfollowed := true, recurses := true, apart := false, narrowed := true }
def FnExactClassesOfUptoSaid : Prop := fnExactClassesOfUptoRow.holds Try.pinned (OpenSpec.upto fnExactClassesOfSpec)

/-- 'laws.FnExactClosedClasses', WHERE WHAT IT READS IS OF BULK AT MOST 1048576: true; the input reads as it did. -/
def fnExactClosedClassesUptoRow : OpenClaim := { program := "ytepajimcnheofaa", sum := "8b00e6eb7ae45efc152c6fe61577af2784e17c36387d75a394c5f04b86b4a6c7", func := "loop.example/g01118/laws.FnExactClosedClasses", spec := "fnExactClosedClasses", unfollowed := true, recurses := true, apart := false, narrowed := true }
def FnExactClosedClassesUptoSaid : Prop := fnExactClosedClassesUptoRow.holds Try.pinned (OpenSpec.upto fnExactClosedClassesSpec)

/-- 'laws.FnExactIsConnected', WHERE WHAT IT READS IS OF BULK AT MOST 1048576: true; the input reads as it did. -/
def fnExactIsConnectedUptoRow : OpenClaim := { program := "ytepajimcnheofaa", sum := "8b00e6eb7ae45efc152c6fe61577af2784e17c36387d75a394c5f04b86b4a6c7", func := "loop.example/g01118/laws.FnExactIsConnected", spec := "fnExactIsConnected", unfollowed := true, recurses := true, apart := false, narrowed := true }
def FnExactIsConnectedUptoSaid : Prop := fnExactIsConnectedUptoRow.holds Try.pinned (OpenSpec.upto fnExactIsConnectedSpec)

end Rows
end Go.Proofs.Ytepajimcnheofaa
