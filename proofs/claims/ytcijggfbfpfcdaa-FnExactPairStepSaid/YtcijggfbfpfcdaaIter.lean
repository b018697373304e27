/- The project's iterator over all pairs of states, in the order of their numbers: its contract for whatever loop body, and what it captures. Conditions: at most 1000 states. -/
import Derived.RangeFuncNested
import Derived.RangeFuncBound
import Derived.RangeFuncCalls
import Derived.RangeFuncLeaves
import Derived.Shelf.Abstract
import Derived.Shelf.RegionOpen
import Derived.OwnWalkIn
import Derived.TacticsInMore
import Derived.LoopNIn
import Derived.LoopIn
import Derived.Test.YtcijggfbfpfcdaaKinds
namespace Go.Proofs.Ytcijggfbfpfcdaa
open Go.RowKit Go.Shelf
attribute [local go_sem] Oper.semAt_some

/-- the pair with the number x, as a value -/
def pairV (N : Nat) (x : Fin (N * N)) : Value := .agg #[.int .i64 ((x.val / N : Nat) : Int), .int .i64 ((x.val % N : Nat) : Int)]
/-- the numbers below k -/
def upto (M k : Nat) : List (Fin M) := (List.finRange M).take k
theorem upto_zero (M : Nat) : upto M 0 = [] := by simp [upto]
theorem upto_length (M k : Nat) (h : k ≤ M) : (upto M k).length = k := by simp [upto]; omega
theorem upto_succ (M k : Nat) (h : k < M) : upto M (k + 1) = upto M k ++ [⟨k, h⟩] := by
  unfold upto
  rw [List.take_succ_eq_append_getElem (by simpa using h)]
  simp
theorem upto_all (M : Nat) : upto M M = List.finRange M := by unfold upto; rw [List.take_of_length_le (by simp)]
theorem upto_pre (M k : Nat) : upto M k <+: List.finRange M := List.take_prefix _ _
theorem pairV_at (N s t : Nat) (ht : t < N) (h : s * N + t < N * N) : pairV N ⟨s * N + t, h⟩ = .agg #[.int .i64 (s : Int), .int .i64 (t : Int)] := by
  unfold pairV
  have e1 : (s * N + t) / N = s := by rw [Nat.mul_comm, Nat.mul_add_div (by omega), Nat.div_eq_of_lt ht, Nat.add_zero]
  have e2 : (s * N + t) % N = t := by rw [Nat.mul_comm, Nat.mul_add_mod, Nat.mod_eq_of_lt ht]
  simp only [e1, e2]
theorem num_lt {N s t : Nat} (hs : s < N) (ht : t < N) : s * N + t < N * N := by
  have : (s + 1) * N ≤ N * N := Nat.mul_le_mul_right N hs
  rw [Nat.add_mul] at this; omega

set_option maxRecDepth 100000 in
set_option maxHeartbeats 2000000 in
theorem pairs1_in (F : Fence) (n : Nat) (hf : F.fn 44) (hro : F.round = none) (hn : 1 ≤ n) (l Bn N : Nat) (hN : N ≤ 1000) (J Jx : List (Fin (N * N)) → World → Prop)
    (hY : ∀ pre x W, J pre W → pre.length < N * N → YieldAt F (n - 1) Try.prog l #[pairV N x] W fun e W' =>
      (e = .returned (.bool true) ∧ J (pre ++ [x]) W' ∧ W'.heap[Bn]? = W.heap[Bn]?) ∨ (e = .returned (.bool false) ∧ Jx (pre ++ [x]) W'))
    (W : World) (hB : Blk W Bn #[.int .i64 (N : Int)] 2) (h0 : J [] W) :
    CallsIn F n Try.prog 44 #[.func (.yield l) #[] #[], .pointer (some ⟨Bn, 0, none⟩)] W fun e W' => (∃ v, e = .returned v) ∧
      ((∃ ys, ys = List.finRange (N * N) ∧ J ys W') ∨ (∃ pre, pre <+: List.finRange (N * N) ∧ Jx pre W')) := by
  have c0 : W.cell? ⟨Bn, 0, none⟩ = some (.int .i64 (N : Int)) := hB.cell 0
  refine callsIn_of_wp Try.func44 rfl hf ?_ hro
  simp only [Try.ntmps44, List.size_toArray, List.length_cons, List.length_nil, Nat.reduceAdd, Nat.reduceSub, Array.replicate_succ, Array.replicate_zero, List.push_toArray, List.append_toArray, List.nil_append, List.cons_append]
  gi_wp2
  gi_loopw [6] (fun i wr => ∃ s : Nat, i = .int .i64 (s : Int) ∧ s ≤ N ∧ Hid (Blk wr Bn #[.int .i64 (N : Int)] 2) ∧ Hid (J (upto (N * N) (s * N)) wr)) (fun i _ => N - (intOf i).toNat)
  case atStart => exact ⟨0, rfl, Nat.zero_le _, hB, by rw [Nat.zero_mul, upto_zero]; exact h0⟩
  case round =>
    obtain ⟨s, rfl, hs, hb, hj⟩ := hrel
    have c1 : wr.cell? ⟨Bn, 0, none⟩ = some (.int .i64 (N : Int)) := hb.out.cell 0
    by_cases hlt : s < N
    · gi_wp2
      gi_loopw [10] (fun i wr => ∃ t : Nat, i = .int .i64 (t : Int) ∧ t ≤ N ∧ Hid (Blk wr Bn #[.int .i64 (N : Int)] 2) ∧ Hid (J (upto (N * N) (s * N + t)) wr)) (fun i _ => N - (intOf i).toNat)
      case atStart => exact ⟨0, rfl, Nat.zero_le _, hb, by rw [Nat.add_zero]; exact hj.out⟩
      case round =>
        obtain ⟨t, rfl, ht, hb2, hj2⟩ := hrel
        by_cases hlt2 : t < N
        · have hk := num_lt hlt hlt2
          obtain ⟨fn, tmps, assign, body, hy, hR⟩ := hY _ ⟨s * N + t, hk⟩ _ hj2.out (by rw [upto_length _ _ (Nat.le_of_lt hk)]; exact hk)
          rw [pairV_at N s t hlt2 hk] at hy
          gi_wp2
          refine hR.mono ?_
          rintro e W3 (⟨rfl, hJ3, hk3⟩ | ⟨rfl, hJx3⟩)
          · have hJ3' := Lib.hid hJ3
            clear hJ3
            gi_wp2
            go_roundw
            case rel => exact ⟨t + 1, by go_num, by omega, hk3.trans hb2.out, by rw [← Nat.add_assoc, upto_succ _ _ hk]; exact hJ3'.out⟩
            case measure => simp [intOf]; omega
          · have hJx3' := Lib.hid hJx3
            clear hJx3
            gi_wp2
            refine bodyPost_ret (results_none rfl _ _ _) rfl ?_
            exact ⟨⟨_, rfl⟩, .inr ⟨_, by rw [← upto_succ _ _ hk]; exact upto_pre _ _, hJx3'.out⟩⟩
        · obtain rfl : t = N := by omega
          gi_wp2
          go_roundw
          case rel => exact ⟨s + 1, by go_num, by omega, hb2, by rw [Nat.add_mul, Nat.one_mul]; exact hj2.out⟩
          case measure => simp [intOf]; omega
    · obtain rfl : s = N := by omega
      gi_wp2
      go_end0
      exact ⟨⟨_, rfl⟩, .inl ⟨_, upto_all _, hj.out⟩⟩

set_option maxHeartbeats 1000000 in
theorem pairsOf_in (F : Fence) (n : Nat) (hf : F.fn 36) (hro : F.round = none) (N : Nat) (w : World) :
    CallsIn F n Try.prog 36 #[.int .i64 (N : Int)] w fun e w' => e = .returned (.func (.func 44) #[] #[.pointer (some ⟨w.heap.size, 0, none⟩)]) ∧ w' = w.alloc (.cells #[.int .i64 (N : Int)] 2) := by
  refine callsIn_of_wp Try.func36 rfl hf ?_ hro
  simp only [Try.ntmps36, List.size_toArray, List.length_cons, List.length_nil, Nat.reduceAdd, Nat.reduceSub, Array.replicate_succ, Array.replicate_zero, List.push_toArray, List.append_toArray, List.nil_append, List.cons_append]
  gi_wp2
  go_ret
  exact ⟨rfl, rfl⟩

/-- the iterator over the pairs of N states, whose number lies in block Bn: what a round keeps is that block -/
theorem pairs_stops (F : Fence) (n : Nat) (hf : F.fn 44) (hro : F.round = none) (hn : 1 ≤ n) (Bn N : Nat) (hN : N ≤ 1000) (w : World) (hB : Blk w Bn #[.int .i64 (N : Int)] 2) :
    SeqStopsK F n Try.prog 44 #[.pointer (some ⟨Bn, 0, none⟩)] (fun x : Fin (N * N) => #[pairV N x]) (fun W W' => W'.heap[Bn]? = W.heap[Bn]?) (fun ys => ys = List.finRange (N * N)) (fun pre => pre <+: List.finRange (N * N)) (N * N) w := fun l J Jx W hW _ _ hY h0 =>
  pairs1_in F n hf hro hn l Bn N hN J Jx hY W (hB.keep hW hB.lt) h0
theorem boxK_t {Bn : Nat} {A B C : World} (h : B.heap[Bn]? = A.heap[Bn]?) (k : C.heap[Bn]? = B.heap[Bn]?) : C.heap[Bn]? = A.heap[Bn]? := k.trans h
theorem boxK_b {Bn : Nat} {w : World} (hn : Bn < w.heap.size) (W : World) (l : Nat) (o o' : Obj) (hl : w.heap.size ≤ l) (_ : W.heap[l]? = some o) (_ : o.isCells = false) (_ : o.isWalk = false) : (W.putObj l o').heap[Bn]? = W.heap[Bn]? :=
  World.putObj_heap_other (by omega)
end Go.Proofs.Ytcijggfbfpfcdaa
