/- What the listed tables give, and results that are fractions. Conditions: told by the code. -/
import Derived.Test.YtiddhnnofpbopaaDoorDigG
import Derived.Test.YtiddhnnofpbopaaDoorTabL
import Derived.Test.YtiddhnnofpbopaaDoorChainG
import Derived.Test.YtiddhnnofpbopaaDoorTie
import Derived.Test.YtiddhnnofpbopaaDoorCards
import Derived.LaidSub
import Derived.ProofKit
import Derived.LaidMore
import Derived.OpenShut
import Derived.Stop.Joined
import Derived.SevenTiedAt
namespace Go.Proofs.YtiddhnnofpbopaaDoor
open Go.ChangeShapes Go.WideShapes Go.ChangeAt Go.RowKit Go.Deep Go.Joins
set_option linter.unusedVariables false
set_option linter.unusedSimpArgs false

theorem tab10_of {W : World} (h : laidMetH Tryd.prog laidL W) : Tab10 W := by
  rw [MakeChecks.laidMetH_plain _ _ _ (by kernel_rfl)] at h
  have h2 := h.filter (fun x => x.1 == "internal/strconv.uint64pow10")
  have e : laidL.filter (fun x => x.1 == "internal/strconv.uint64pow10") = [("internal/strconv.uint64pow10", Lib.tabData .u64 Lib.pow10Tab)] := by kernel_rfl
  rw [e] at h2
  exact Lib.tabIs_of_head (g := 0) (t := 122) (n := 20) (by kernel_rfl) (by kernel_rfl) (by kernel_rfl) Tryd.underlying49 (by kernel_rfl) (by kernel_rfl) h2

set_option maxHeartbeats 2000000 in
theorem eqFraction_self (n d : ByteArray) (w : World) : Calls Tryd.prog 14 #[.agg #[.string n, .string d], .agg #[.string n, .string d]] w fun e w' => e = .returned (.bool true) ∧ Below w.heap.size w w' := by
  have bel := below2 w (.cells #[.string n, .string d] 35) (.cells #[.string n, .string d] 35)
  go_enter Tryd.func14, Tryd.ntmps14
  go_wp2
  go_ret
  exact ⟨rfl, bel⟩

/-- a fraction and a code that a call has returned, in a box and a variable -/
def GotF (b wx : World) (n d : ByteArray) (c : Int) (s s' : Value) : Prop := ∃ B : Nat, s = .pointer (some ⟨B, 0, none⟩) ∧ s' = .int .i64 c ∧ Blk wx B #[.string n, .string d] 35 ∧ Below b.heap.size b wx
theorem GotF.new {b u : World} {n d : ByteArray} {c : Int} (h : Below b.heap.size b u) : GotF b (u.alloc (.cells #[.string n, .string d] 35)) n d c (.pointer (some ⟨u.heap.size, 0, none⟩)) (.int .i64 c) :=
  ⟨_, rfl, rfl, Blk.new _ _ _, below_wt h (below1 _ _)⟩
theorem GotF.fill {b u : World} {n d : ByteArray} {c : Int} {B : Nat} (h : Below b.heap.size b u) (Z : Blk u B #[.string ⟨#[]⟩, .string ⟨#[]⟩] 35) (hB : b.heap.size ≤ B) :
    GotF b ((u.setCell ⟨B, 0, none⟩ (.string n)).setCell ⟨B, 1, none⟩ (.string d)) n d c (.pointer (some ⟨B, 0, none⟩)) (.int .i64 c) := by
  refine ⟨B, rfl, rfl, ?_, (h.setCell (p := ⟨B, 0, none⟩) (by simpa using hB) _).setCell (p := ⟨B, 1, none⟩) (by simpa using hB) _⟩
  have := (Z.set 0 (.string n)).set 1 (.string d)
  simpa using this
end Go.Proofs.YtiddhnnofpbopaaDoor
