/-
  No cell of these rows narrows 'for every input' (looked for: loops, veiled, ifaces, maps, wideKeys, modest, calm, conditions, laid).
  DERIVED. THE GIVEN ROWS OF THIS SEAT. 7 by the template 'for every input the law returns true; each argument reads behind the call as it read before'; 0 by the template 'total and deterministic' (their statements: YtnehnlejknieoaaTotals.lean).
  GIVEN WITH THE SEED: the statements are not yours to turn. If you find one false, say at which input.
  Laid BY PROGRAM, IN A SANDBOX (cutbox-rows.mjs): the forced cells as the released guide's own fill.sh prints them over the translation 2ffd0ac57f83b1ff… (all of the seat's roots in one cut). By AI agents, Wed Nov 11 2026. No macro, syntax, notation, axiom, sorry.
-/
import Derived.Test.YtnehnlejknieoaaChecked
import GoSem.Claim
import GoSem.ClaimJoined
import GoSem.ClaimMapViews
import Derived.JoinedTies
import Derived.KernelRfl
namespace Go.Proofs.Ytnehnlejknieoaa
/- THE CELL 'sum', in the pinned program and in every row, IS THE sha256 OF THE DUMP (.gsa) THAT YtnehnlejknieoaaProg.lean LOADS. Nothing in Lean hashes anything: it is a label: what it is worth is what the hold of that sum in a sandbox is worth. -/
noncomputable def Try.pinned : Pinned := { name := "ytnehnlejknieoaa", sum := "2ffd0ac57f83b1ff94e077ffc1dc2c7038bfdc66700c2b0890e2b74836ba7ad0", checked := Try.checked }
namespace Rows
def none {H : Type} : Left H := { results := [], args := [] }

/-- 'laws.FnExactDrawsOf': WHATEVER THE INPUT: true; the input reads as it did. -/
def fnExactDrawsOfSpec : ChangeSpec := { name := "fnExactDrawsOf", fn := fun _ => fun
  | [d1, d2, d3] => { results := [.lit (.bool true)], args := [d1, d2, d3] }
  | _ => none }
def fnExactDrawsOfRow : OpenClaim := { program := "ytnehnlejknieoaa", sum := "2ffd0ac57f83b1ff94e077ffc1dc2c7038bfdc66700c2b0890e2b74836ba7ad0", func := "loop.example/g01118/laws.FnExactDrawsOf", spec := "fnExactDrawsOf", apart := false }
def FnExactDrawsOfSaid : Prop := fnExactDrawsOfRow.holds Try.pinned (OpenSpec.ofChange fnExactDrawsOfSpec)

/-- ITS FALSE NEIGHBOUR: 'it returns false'. Refute it at one input. -/
def fnExactDrawsOfWrong : ChangeSpec := { name := "fnExactDrawsOf", fn := fun _ => fun
  | [d1, d2, d3] => { results := [.lit (.bool false)], args := [d1, d2, d3] }
  | _ => none }
def FnExactDrawsOfWrongFalsely : Prop := fnExactDrawsOfRow.holds Try.pinned (OpenSpec.ofChange fnExactDrawsOfWrong)

/-- 'laws.FnExactWindowByDraws': WHATEVER THE INPUT: true; the input reads as it did. -/
def fnExactWindowByDrawsSpec : ChangeSpec := { name := "fnExactWindowByDraws", fn := fun _ => fun
  | [d1, d2] => { results := [.lit (.bool true)], args := [d1, d2] }
  | _ => none }
def fnExactWindowByDrawsRow : OpenClaim := { program := "ytnehnlejknieoaa", sum := "2ffd0ac57f83b1ff94e077ffc1dc2c7038bfdc66700c2b0890e2b74836ba7ad0", func := "loop.example/g01118/laws.FnExactWindowByDraws", spec := "fnExactWindowByDraws", unfollowed := true, recurses := true, apart := false }
def FnExactWindowByDrawsSaid : Prop := fnExactWindowByDrawsRow.holds Try.pinned (OpenSpec.ofChange fnExactWindowByDrawsSpec)

/-- ITS FALSE NEIGHBOUR: 'it returns false'. Refute it at one input. -/
def fnExactWindowByDrawsWrong : ChangeSpec := { name := "fnExactWindowByDraws", fn := fun _ => fun
  | [d1, d2] => { results := [.lit (.bool false)], args := [d1, d2] }
  | _ => none }
def FnExactWindowByDrawsWrongFalsely : Prop := fnExactWindowByDrawsRow.holds Try.pinned (OpenSpec.ofChange fnExactWindowByDrawsWrong)

/-- 'laws.FnExactWindowOf': WHATEVER THE INPUT: true; the input reads as it did. -/
def fnExactWindowOfSpec : ChangeSpec := { name := "fnExactWindowOf", fn := fun _ => fun
  | [d1, d2, d3] => { results := [.lit (.bool true)], args := [d1, d2, d3] }
  | _ => none }
def fnExactWindowOfRow : OpenClaim := { program := "ytnehnlejknieoaa", sum := "2ffd0ac57f83b1ff94e077ffc1dc2c7038bfdc66700c2b0890e2b74836ba7ad0", func := "loop.example/g01118/laws.FnExactWindowOf", spec := "fnExactWindowOf", unfollowed := true, recurses := true, apart := false }
def FnExactWindowOfSaid : Prop := fnExactWindowOfRow.holds Try.pinned (OpenSpec.ofChange fnExactWindowOfSpec)

/-- ITS FALSE NEIGHBOUR: 'it returns false'. Refute it at one input. -/
def fnExactWindowOfWrong : ChangeSpec := { name := "fnExactWindowOf", fn := fun _ => fun
  | [d1, d2, d3] => { results := [.lit (.bool false)], args := [d1, d2, d3] }
  | _ => none }
def FnExactWindowOfWrongFalsely : Prop := fnExactWindowOfRow.holds Try.pinned (OpenSpec.ofChange fnExactWindowOfWrong)

/-- 'laws.FnExactValidService': WHATEVER THE INPUT: true; the input reads as it did. -/
def fnExactValidServiceSpec : ChangeSpec := { name := "fnExactValidService", fn := fun _ => fun
  | [d] => { results := [.lit (.bool true)], args := [d] }
  | _ => none }
def fnExactValidServiceRow : OpenClaim := { program := "ytnehnlejknieoaa", sum := "2ffd0ac57f83b1ff94e077ffc1dc2c7038bfdc66700c2b0890e2b74836ba7ad0", func := "loop.example/g01118/laws.FnExactValidService", spec := "fnExactValidService", unfollowed := true, recurses := true, apart := false }
def FnExactValidServiceSaid : Prop := fnExactValidServiceRow.holds Try.pinned (OpenSpec.ofChange fnExactValidServiceSpec)

/-- ITS FALSE NEIGHBOUR: 'it returns false'. Refute it at one input. -/
def fnExactValidServiceWrong : ChangeSpec := { name := "fnExactValidService", fn := fun _ => fun
  | [d] => { results := [.lit (.bool false)], args := [d] }
  | _ => none }
def FnExactValidServiceWrongFalsely : Prop := fnExactValidServiceRow.holds Try.pinned (OpenSpec.ofChange fnExactValidServiceWrong)

/-- 'laws.FnExactValidRecord': WHATEVER THE INPUT: true; the input reads as it did. -/
def fnExactValidRecordSpec : ChangeSpec := { name := "fnExactValidRecord", fn := fun _ => fun
  | [d1, d2] => { results := [.lit (.bool true)], args := [d1, d2] }
  | _ => none }
def fnExactValidRecordRow : OpenClaim := { program := "ytnehnlejknieoaa", sum := "2ffd0ac57f83b1ff94e077ffc1dc2c7038bfdc66700c2b0890e2b74836ba7ad0", func := "loop.example/g01118/laws.FnExactValidRecord", spec := "fnExactValidRecord", unfollowed := true, recurses := true, apart := false }
def FnExactValidRecordSaid : Prop := fnExactValidRecordRow.holds Try.pinned (OpenSpec.ofChange fnExactValidRecordSpec)

/-- ITS FALSE NEIGHBOUR: 'it returns false'. Refute it at one input. -/
def fnExactValidRecordWrong : ChangeSpec := { name := "fnExactValidRecord", fn := fun _ => fun
  | [d1, d2] => { results := [.lit (.bool false)], args := [d1, d2] }
  | _ => none }
def FnExactValidRecordWrongFalsely : Prop := fnExactValidRecordRow.holds Try.pinned (OpenSpec.ofChange fnExactValidRecordWrong)

/-- 'laws.FnExactDeskAfter': WHATEVER THE INPUT: true; the input reads as it did. -/
def fnExactDeskAfterSpec : ChangeSpec := { name := "fnExactDeskAfter", fn := fun _ => fun
  | [d1, d2] => { results := [.lit (.bool true)], args := [d1, d2] }
  | _ => none }
def fnExactDeskAfterRow : OpenClaim := { program := "ytnehnlejknieoaa", sum := "2ffd0ac57f83b1ff94e077ffc1dc2c7038bfdc66700c2b0890e2b74836ba7ad0", func := "loop.example/g01118/laws.FnExactDeskAfter", spec := "fnExactDeskAfter", unfollowed := true, recurses := true, apart := false }
def FnExactDeskAfterSaid : Prop := fnExactDeskAfterRow.holds Try.pinned (OpenSpec.ofChange fnExactDeskAfterSpec)

/-- ITS FALSE NEIGHBOUR: 'it returns false'. Refute it at one input. -/
def fnExactDeskAfterWrong : ChangeSpec := { name := "fnExactDeskAfter", fn := fun _ => fun
  | [d1, d2] => { results := [.lit (.bool false)], args := [d1, d2] }
  | _ => none }
def FnExactDeskAfterWrongFalsely : Prop := fnExactDeskAfterRow.holds Try.pinned (OpenSpec.ofChange fnExactDeskAfterWrong)

/-- 'laws.FnExactValidDeed': WHATEVER THE INPUT: true; the input reads as it did. -/
def fnExactValidDeedSpec : ChangeSpec := { name := "fnExactValidDeed", fn := fun _ => fun
  | [d] => { results := [.lit (.bool true)], args := [d] }
  | _ => none }
def fnExactValidDeedRow : OpenClaim := { program := "ytnehnlejknieoaa", sum := "2ffd0ac57f83b1ff94e077ffc1dc2c7038bfdc66700c2b0890e2b74836ba7ad0", func := "loop.example/g01118/laws.FnExactValidDeed", spec := "fnExactValidDeed", apart := false }
def FnExactValidDeedSaid : Prop := fnExactValidDeedRow.holds Try.pinned (OpenSpec.ofChange fnExactValidDeedSpec)

/-- ITS FALSE NEIGHBOUR: 'it returns false'. Refute it at one input. -/
def fnExactValidDeedWrong : ChangeSpec := { name := "fnExactValidDeed", fn := fun _ => fun
  | [d] => { results := [.lit (.bool false)], args := [d] }
  | _ => none }
def FnExactValidDeedWrongFalsely : Prop := fnExactValidDeedRow.holds Try.pinned (OpenSpec.ofChange fnExactValidDeedWrong)

/- THE SECOND FORM. 'bulk': how many values and letters a reading holds, each counted each time it is reached (what is shared counts as often as it is met; a slice's spare places count too). A statement '..UptoSaid' is the law's where the arguments, and the package variables that the reading takes, are together of bulk at most 1048576: NARROWER than '..Said'. Prove '..Said' where nothing that the law and all that it calls make is longer than what came in: it says more and counts as full. Else prove '..UptoSaid'. A law counts once. -/
mutual
def uptoBulk {H : Type} : DataW H → Nat
  | .lit (.string bytes) => bytes.length + 1
  | .lit _ => 1
  | .nil => 1
  | .ptr d => uptoBulk d + 1
  | .slice elems spare => uptoBulkAll elems + uptoBulkAll spare + 1
  | .agg parts => uptoBulkAll parts + 1
  | .iface _ d => uptoBulk d + 1
  | .map entries => uptoBulkEntries entries + 1
  | .held _ => 1
def uptoBulkAll {H : Type} : List (DataW H) → Nat
  | [] => 0
  | d :: r => uptoBulk d + uptoBulkAll r
def uptoBulkEntries {H : Type} : List (Lit × DataW H) → Nat
  | [] => 0
  | x :: r => uptoBulkEntry x + uptoBulkEntries r
def uptoBulkEntry {H : Type} : Lit × DataW H → Nat
  | (.string bytes, d) => bytes.length + uptoBulk d + 1
  | (_, d) => uptoBulk d + 1
 end
def uptoSmall : (H : Type) → List (DataW H) → Bool := fun _ ds => decide (uptoBulkAll ds ≤ 1048576)
def OpenSpec.upto (s : _root_.Go.ChangeSpec) : _root_.Go.OpenSpec := { _root_.Go.OpenSpec.ofChange s with cond := some uptoSmall }

/-- 'laws.FnExactDrawsOf', WHERE WHAT IT READS IS OF BULK AT MOST 1048576: true; the input reads as it did. -/
def fnExactDrawsOfUptoRow : OpenClaim := { program := "ytnehnlejknieoaa", sum := "2ffd0ac57f83b1ff94e077ffc1dc2c7038bfdc66700c2b0890e2b74836ba7ad0", func := "loop.example/g01118/laws.FnExactDrawsOf", spec := "fnExactDrawsOf", apart := false, narrowed := true }
def FnExactDrawsOfUptoSaid : Prop := fnExactDrawsOfUptoRow.holds Try.pinned (OpenSpec.upto fnExactDrawsOfSpec)

/-- 'laws.FnExactWindowByDraws', WHERE WHAT IT READS IS OF BULK AT MOST 1048576: true; the input reads as it did. -/
def fnExactWindowByDrawsUptoRow : OpenClaim := { program := "ytnehnlejknieoaa", sum := "2ffd0ac57f83b1ff94e077ffc1dc2c7038bfdc66700c2b0890e2b74836ba7ad0", func := "loop.example/g01118/laws.FnExactWindowByDraws", spec := "fnExactWindowByDraws", unfollowed := true, recurses := true, apart := false, narrowed := true }
def FnExactWindowByDrawsUptoSaid : Prop := fnExactWindowByDrawsUptoRow.holds Try.pinned (OpenSpec.upto fnExactWindowByDrawsSpec)

/-- 'laws.FnExactWindowOf', WHERE WHAT IT READS IS OF BULK AT MOST 1048576: true; the input reads as it did. -/
def fnExactWindowOfUptoRow : OpenClaim := { program := "ytnehnlejknieoaa", sum := "2ffd0ac57f83b1ff94e077ffc1dc2c7038bfdc66700c2b0890e2b74836ba7ad0", func := "loop.example/g01118/laws.FnExactWindowOf", spec := "fnExactWindowOf", unfollowed := true, recurses := true, apart := false, narrowed := true }
def FnExactWindowOfUptoSaid : Prop := fnExactWindowOfUptoRow.holds Try.pinned (OpenSpec.upto fnExactWindowOfSpec)

/-- 'laws.FnExactValidService', WHERE WHAT IT READS IS OF BULK AT MOST 1048576: true; the input reads as it did. -/
def fnExactValidServiceUptoRow : OpenClaim := { program := "ytnehnlejknieoaa", sum := "2ffd0ac57f83b1ff94e077ffc1dc2c7038bfdc66700c2b0890e2b74836ba7ad0", func := "loop.example/g01118/laws.FnExactValidService", spec := "fnExactValidService", unfollowed := true, recurses := true, apart := false, narrowed := true }
def FnExactValidServiceUptoSaid : Prop := fnExactValidServiceUptoRow.holds Try.pinned (OpenSpec.upto fnExactValidServiceSpec)

/-- 'laws.FnExactValidRecord', WHERE WHAT IT READS IS OF BULK AT MOST 1048576: true; the input reads as it did. -/
def fnExactValidRecordUptoRow : OpenClaim := { program := "ytnehnlejknieoaa", sum := "2ffd0ac57f83b1ff94e077ffc1dc2c7038bfdc66700c2b0890e2b74836ba7ad0", func := "loop.example/g01118/laws.FnExactValidRecord", spec := "fnExactValidRecord", unfollowed := true, recurses := true, apart := false, narrowed := true }
def FnExactValidRecordUptoSaid : Prop := fnExactValidRecordUptoRow.holds Try.pinned (OpenSpec.upto fnExactValidRecordSpec)

/-- 'laws.FnExactDeskAfter', WHERE WHAT IT READS IS OF BULK AT MOST 1048576: true; the input reads as it did. -/
def fnExactDeskAfterUptoRow : OpenClaim := { program := "ytnehnlejknieoaa", sum := "2ffd0ac57f83b1ff94e077ffc1dc2c7038bfdc66700c2b0890e2b74836ba7ad0", func := "loop.example/g01118/laws.FnExactDeskAfter", spec := "fnExactDeskAfter", unfollowed := true, recurses := true, apart := false, narrowed := true }
def FnExactDeskAfterUptoSaid : Prop := fnExactDeskAfterUptoRow.holds Try.pinned (OpenSpec.upto fnExactDeskAfterSpec)

/-- 'laws.FnExactValidDeed', WHERE WHAT IT READS IS OF BULK AT MOST 1048576: true; the input reads as it did. -/
def fnExactValidDeedUptoRow : OpenClaim := { program := "ytnehnlejknieoaa", sum := "2ffd0ac57f83b1ff94e077ffc1dc2c7038bfdc66700c2b0890e2b74836ba7ad0", func := "loop.example/g01118/laws.FnExactValidDeed", spec := "fnExactValidDeed", apart := false, narrowed := true }
def FnExactValidDeedUptoSaid : Prop := fnExactValidDeedUptoRow.holds Try.pinned (OpenSpec.upto fnExactValidDeedSpec)

end Rows
end Go.Proofs.Ytnehnlejknieoaa
