/- RunByDraws of the project and of the specification: both return 'runOf'. Conditions: none on the chain, the state and the draws beyond what is read. -/
import Derived.Test.YtacnafjmcfcalaaStep
import Derived.Test.YtacnafjmcfcalaaMix2
import Derived.Test.YtacnafjmcfcalaaKinds
import Derived.Deep.RegionLaw
import Derived.Deep.AppendLies
namespace Go.Proofs.Ytacnafjmcfcalaa
open Go.RowKit Go.Deep
set_option linter.unusedVariables false

/-- the state of a run after so many draws -/
def stAt (c : Ch) (s : Nat) (ds : List Int) : Nat → Nat
  | 0 => s
  | i + 1 => pk (c.w.getD (stAt c s ds i) []) (ds.getD i 0)
def runL (c : Ch) (s : Nat) (ds : List Int) (k : Nat) : List Int := (List.range k).map fun i => ((stAt c s ds i : Nat) : Int)
def allDr (c : Ch) (ds : List Int) : Bool := ds.all fun d => inB d 0 (c.t - 1)
def runOf (c : Ch) (s : Int) (ds : List Int) : List Int × Int :=
  if chOk c = true then (if inB s 0 (c.n - 1) = true ∧ ds.length ≤ 200 ∧ allDr c ds = true then (runL c s.toNat ds (ds.length + 1), 0) else ([], 2)) else ([], 1)
theorem pk_lt {row : List Int} (d : Int) (h : 0 < row.length) : pk row d < row.length := by
  unfold pk
  cases e : (List.range row.length).find? (fun k => decide (d < (row.take (k + 1)).sum)) with
  | none => simpa using h
  | some k => have := List.mem_of_find?_eq_some e; simpa using this
theorem stAt_lt {c : Ch} (oc : chOk c = true) {s : Nat} (hs : s < c.w.length) (ds : List Int) (k : Nat) : stAt c s ds k < c.w.length := by
  obtain ⟨n1, n2, t1, t2, hlen, hrows⟩ := chOk_all oc
  induction k with
  | zero => exact hs
  | succ k ih =>
    have h1 := (okRow_all (hrows _ (getD_mem (d := []) ih))).1
    have := pk_lt (row := c.w.getD (stAt c s ds k) []) (ds.getD k 0) (by omega)
    simp only [stAt]; omega
theorem allDr_at {c : Ch} {ds : List Int} (h : allDr c ds = true) (k : Nat) (hk : k < ds.length) : inB (ds.getD k 0) 0 (c.t - 1) = true := by
  simp only [allDr, List.all_eq_true] at h
  exact h _ (getD_mem hk)
theorem allDr_not {c : Ch} {ds : List Int} {k : Nat} (hk : k < ds.length) (h : inB (ds.getD k 0) 0 (c.t - 1) = false) : allDr c ds = false := by
  rw [Bool.eq_false_iff]; intro ha
  rw [allDr_at ha k hk] at h; cases h
theorem nil_mine (w : World) (lo : Nat) : IntsMine 2 w lo w.heap.size (.slice none 0 0) [] :=
  ⟨⟨World.ownsRow_nil w lo _ _, by simp [ints], fun k hk => by simp [Value.ownBlock] at hk⟩, Nat.le_refl _⟩
theorem runL_succ (c : Ch) (s : Nat) (ds : List Int) (k : Nat) : runL c s ds (k + 1) = runL c s ds k ++ [((stAt c s ds k : Nat) : Int)] := range_map_succ _ k

theorem ownsRow_keep {w w' : World} {lo n size : Nat} {e : TypeId} {v : Value} {vs : List Value} (h : w.ownsRow lo e size v n vs) (hb : Below w.heap.size w w') : w'.ownsRow lo e size v n vs := by
  refine ⟨h.1, ?_⟩
  rcases h.2 with h0 | ⟨g, cap, cur, hv, hgg, hh, r⟩
  · exact Or.inl h0
  · exact Or.inr ⟨g, cap, cur, hv, hgg, by rw [hb.block g (Array.getElem?_eq_some_iff.1 hh).1]; exact hh, r⟩

/-! ### the specification's -/
theorem empty_own (w : World) (lo : Nat) (h : lo ≤ w.heap.size) : IntsMine 2 (w.alloc (.cells #[] 2)) lo (w.alloc (.cells #[] 2)).heap.size (.slice (some ⟨w.heap.size, 0, none⟩) 0 0) [] := by
  refine ⟨⟨⟨by simp [ints], Or.inr ⟨w.heap.size, 0, #[], rfl, h, heap_alloc_new w _, by simp [ints], by simp, by simp, by simp [ints]⟩⟩, by simp [ints], fun k hk => ?_⟩, Nat.le_refl _⟩
  simp [Value.ownBlock] at hk; simp; omega

end Go.Proofs.Ytacnafjmcfcalaa
