/- RsG: several texts in one (Rs, Rs2). Conditions: told in each. -/
import Derived.Test.YtiddhnnofpbopaaDoorListG
import Derived.Deep.RegionHeld3
import Derived.Deep.RegionLaw
/- l01List of the specification. Conditions: at most 10^6 fractions. -/
namespace Go.Proofs.YtiddhnnofpbopaaDoor
open Go.RowKit Go.Deep
set_option linter.unusedVariables false
set_option linter.unusedSimpArgs false

theorem Tryd.infoFrac : (Tryd.prog.info? 44).map (fun i => (i.zero, i.size, i.bytes)) = some (some (.agg #[.slice none 0 0, .slice none 0 0]), 2, 48) := by kernel_rfl
theorem made_fracs (w : World) : MadeP LongS 44 (w.alloc (.cells #[] 44)) w.heap.size (.slice (some ⟨w.heap.size, 0, none⟩) 0 0) [] := by
  refine MadeP.start _ _ _ ?_ ?_
  · exact World.ownsRow_made w #[] 0 (Nat.le_refl _) (Nat.zero_le _) (by simp)
  · intro g hg
    simp only [Value.ownBlock, Option.some.injEq] at hg
    subst hg
    exact ⟨_, _, heap_alloc_new w _, fun x hx => by cases hx⟩

end Go.Proofs.YtiddhnnofpbopaaDoor

/- l01Common of the specification: fractions brought to one denominator. Conditions: no denominator is 0; told by the code. -/
namespace Go.Proofs.YtiddhnnofpbopaaDoor
open Go.RowKit Go.Deep
set_option linter.unusedVariables false
set_option linter.unusedSimpArgs false

def comD (l : List (Nat × Nat)) : Nat := l.foldl (fun d c => d * (c.2 / Nat.gcd d c.2)) 1
def comN (D : Nat) (l : List (Nat × Nat)) : List Nat := l.map fun c => c.1 * (D / c.2)
theorem comD_take (l : List (Nat × Nat)) (k : Nat) (h : k < l.length) : comD (l.take (k + 1)) = comD (l.take k) * ((l.getD k (0, 0)).2 / Nat.gcd (comD (l.take k)) (l.getD k (0, 0)).2) := by
  unfold comD
  rw [List.take_add_one, List.getElem?_eq_getElem h, List.foldl_append]
  simp [List.getD, h]
theorem comN_take (D : Nat) (l : List (Nat × Nat)) (k : Nat) (h : k < l.length) : comN D (l.take (k + 1)) = comN D (l.take k) ++ [(l.getD k (0, 0)).1 * (D / (l.getD k (0, 0)).2)] := by
  unfold comN
  rw [List.take_add_one, List.getElem?_eq_getElem h, List.map_append]
  congr 1
  simp [List.getD, h]
theorem comN_length (D : Nat) (l : List (Nat × Nat)) : (comN D l).length = l.length := by simp [comN]
theorem mul_dlen' {m n L M : Nat} (h1 : dlen B9 m ≤ L) (h2 : dlen B9 n ≤ M) : dlen B9 (m * n) ≤ L + M :=
  dlen_le b9 (by rw [Nat.pow_add]; exact Nat.mul_lt_mul'' (lt_of_dlen b9 h1) (lt_of_dlen b9 h2))
theorem comD_len (l : List (Nat × Nat)) (S : Nat) (hs : ∀ i, i < l.length → dlen B9 (l.getD i (0, 0)).1 ≤ S ∧ dlen B9 (l.getD i (0, 0)).2 ≤ S) : ∀ k, k ≤ l.length → dlen B9 (comD (l.take k)) ≤ S * k + 1
  | 0, _ => by simp only [List.take_zero, comD, List.foldl_nil]; exact Nat.le_trans (dlen_le b9 (L := 1) (by simp only [B9]; omega)) (by omega)
  | k + 1, h => by
    have i1 := comD_len l S hs k (by omega)
    rw [comD_take l k (by omega)]
    have e := mul_dlen' i1 (Nat.le_trans (dlen_mono b9 (Nat.div_le_self (l.getD k (0, 0)).2 (Nat.gcd (comD (l.take k)) (l.getD k (0, 0)).2))) (hs k (by omega)).2)
    have m4 : S * (k + 1) + 1 = S * k + 1 + S := by rw [Nat.mul_succ]; omega
    rw [m4]; exact e
theorem one_s (w : World) : LongS (w.alloc (.cells #[.int .i64 1] 2)) (.slice (some ⟨w.heap.size, 0, none⟩) 1 1) 1 := one_long1 w
theorem sl1 (a : Option Addr) (l c : Nat) : ∀ x ∈ [Value.slice a l c], IsSl x := by
  intro x hx
  simp at hx
  subst hx
  exact ⟨_, _, _, rfl⟩
theorem zero_sl1 : ∀ x ∈ (Value.slice none 0 0).cells.toList, IsSl x := by
  intro x hx
  simp [Value.cells] at hx
  subst hx
  exact ⟨_, _, _, rfl⟩
theorem Tryd.infoRow : (Tryd.prog.info? 29).map (fun i => (i.zero, i.size, i.bytes)) = some (some (.slice none 0 0), 1, 24) := by kernel_rfl

end Go.Proofs.YtiddhnnofpbopaaDoor
