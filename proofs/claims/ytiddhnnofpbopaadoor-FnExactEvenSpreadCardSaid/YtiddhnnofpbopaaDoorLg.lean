/- The laws' conversions, comparisons, sizes and marks in one form for all kinds (lists of numbers, chains, lists of fractions). Conditions: told in each. -/
import Derived.Test.YtiddhnnofpbopaaDoorChainG
import Derived.Test.YtiddhnnofpbopaaDoorFsG
import Derived.Test.YtiddhnnofpbopaaDoorRg2
namespace Go.Proofs.YtiddhnnofpbopaaDoor
open Go.RowKit Go.Deep
set_option linter.unusedVariables false
set_option linter.unusedSimpArgs false

theorem szLeft_form (left : Int) (n : Nat) (h0 : 0 ≤ left) (h1 : left ≤ 1048576) : szLeft left n ≤ 1048576 ∧ (0 ≤ szLeft left n → n ≤ 2097152) := by
  by_cases h : (n : Int) ≤ left
  · rw [szLeft_yes h]; omega
  · rw [szLeft_no (by omega)]; omega
theorem mkp_frs {w : World} {lo hi : Nat} {v : Value} {l : List (ByteArray × ByteArray)} (k : Nat) (h : FrOwn w lo hi v l) (h0 : 0 < k) (h1 : k ≤ 100000000) (h2 : l.length ≤ 1048576) :
    Calls Tryd.prog 7 #[v, .int .i64 (k : Int)] w fun e w' => (∃ j : Nat, e = .returned (.int .i64 (j : Int)) ∧ k ≤ j ∧ j ≤ k + 4194304) ∧ Touched lo hi w w' :=
  (markFractionS_any v l k lo hi w h h0 (by omega)).mono fun _ _ ⟨he, _, ht⟩ => ⟨⟨k + l.length * 2, he, by omega, by omega⟩, ht⟩
theorem mkr_frs {w : World} {lo hi : Nat} {v : Value} {l : List (ByteArray × ByteArray)} (hv : FrOwn w lo hi v l) (h1 : l.length ≤ 2097152) :
    Calls Tryd.prog 7 #[v, .int .i64 1] w fun e w' => e = .returned (.int .i64 ((1 + l.length * 2 : Nat) : Int)) ∧ FrOwn w' lo hi v (markL 1 l.length) ∧ Touched lo hi w w' := markFractionS_any v l 1 lo hi w hv (by decide) (by omega)
theorem hdr_frs (v : Value) (n : Nat) (w : World) (hv : FrL w v (markL 1 n)) (h1 : n ≤ 2097152) :
    Calls Tryd.prog 8 #[v, .int .i64 1] w fun e w' => e = .returned (.int .i64 ((1 + n * 2 : Nat) : Int)) ∧ Below w.heap.size w w' := heldFractionS_any v 1 n w hv (by decide) (by omega)
end Go.Proofs.YtiddhnnofpbopaaDoor
