/- Paintings (arrays of ten numbers) in memory, and lists of them. Conditions: few. -/
import Derived.Test.YtfbhdlkiffoflaaNw
import Derived.Test.YtfbhdlkiffoflaaCpI
namespace Go.Proofs.Ytfbhdlkiffoflaa
open Go.RowKit Go.Deep
set_option linter.unusedVariables false

/-- a painting: ten numbers -/
@[reducible] def tenA (f : Nat → Int) : Array Value := #[.int .i64 (f 0), .int .i64 (f 1), .int .i64 (f 2), .int .i64 (f 3), .int .i64 (f 4), .int .i64 (f 5), .int .i64 (f 6), .int .i64 (f 7), .int .i64 (f 8), .int .i64 (f 9)]
theorem ten_get (f : Nat → Int) (i : Nat) (h : i < 10) : (tenA f)[i]? = some (.int .i64 (f i)) := by
  match i, h with
  | 0, _ => rfl
  | 1, _ => rfl
  | 2, _ => rfl
  | 3, _ => rfl
  | 4, _ => rfl
  | 5, _ => rfl
  | 6, _ => rfl
  | 7, _ => rfl
  | 8, _ => rfl
  | 9, _ => rfl
  | n + 10, h => omega
theorem Blk.ten {w : World} {b : Nat} {f : Nat → Int} {t : TypeId} (h : Blk w b (tenA f) t) (i : Nat) (hi : i < 10) : w.cell? ⟨b, i, none⟩ = some (.int .i64 (f i)) := (h.cell i).trans (ten_get f i hi)

/-- so many paintings, one behind the other -/
def pntA (m : Nat) (F : Nat → Nat → Int) : Array Value := ((List.range (m * 10)).map fun t => Value.int .i64 (F (t / 10) (t % 10))).toArray
theorem pntA_size (m : Nat) (F : Nat → Nat → Int) : (pntA m F).size = m * 10 := by simp [pntA]
theorem pntA_get (m : Nat) (F : Nat → Nat → Int) (i j : Nat) (hi : i < m) (hj : j < 10) : (pntA m F)[i * 10 + j]? = some (.int .i64 (F i j)) := by
  simp only [pntA, List.getElem?_toArray, List.getElem?_map]
  rw [List.getElem?_range (by omega)]
  simp only [Option.map_some, Option.some.injEq, Value.int.injEq, true_and]
  rw [show (i * 10 + j) / 10 = i by omega, show (i * 10 + j) % 10 = j by omega]
/-- the first k lists told, zeros behind -/
def pntF (yss : List (List Int)) (k : Nat) (i j : Nat) : Int := if i < k then (yss.getD i []).getD j 0 else 0
theorem pnt_made (yss : List (List Int)) (m : Nat) : madeCells (tenA fun _ => 0) (m * 10) = pntA m (pntF yss 0) := by
  apply Array.ext
  · rw [size_madeCells, pntA_size]
  · intro i h1 h2
    have hi : i < m * 10 := by rw [size_madeCells] at h1; exact h1
    simp only [madeCells, pntA, pntF, Nat.not_lt_zero, if_false]
    simp only [Array.getElem_map, Array.getElem_range, List.getElem_toArray, List.getElem_map]
    have hm : i % 10 < 10 := Nat.mod_lt _ (by omega)
    have e : (tenA fun _ => 0).size = 10 := rfl
    rw [e, getElem!_pos _ _ (by rw [e]; exact hm)]
    have := ten_get (fun _ => 0) (i % 10) hm
    rw [Array.getElem?_eq_getElem (by rw [e]; exact hm)] at this
    simpa using this
theorem pnt_step (yss : List (List Int)) (m k : Nat) (hk : k < m) (cs : List Value) (hcs : cs = ints (yss.getD k [])) (hl : (yss.getD k []).length ≤ 10) :
    ((pntA m (pntF yss k)).toList.take (k * 10) ++ cs ++ (pntA m (pntF yss k)).toList.drop (k * 10 + cs.length)).toArray = pntA m (pntF yss (k + 1)) := by
  subst hcs
  have hlen : (pntA m (pntF yss k)).toList.length = m * 10 := by rw [Array.length_toList, pntA_size]
  have hcl : (ints (yss.getD k [])).length = (yss.getD k []).length := by simp [ints]
  have ht : ((pntA m (pntF yss k)).toList.take (k * 10)).length = k * 10 := by rw [List.length_take, hlen]; omega
  apply Array.ext'
  rw [List.toList_toArray]
  apply List.ext_getElem?
  intro t
  have rhs : (pntA m (pntF yss (k + 1))).toList[t]? = if t < m * 10 then some (.int .i64 (pntF yss (k + 1) (t / 10) (t % 10))) else none := by
    by_cases h : t < m * 10
    · rw [if_pos h]
      have := pntA_get m (pntF yss (k + 1)) (t / 10) (t % 10) (by omega) (Nat.mod_lt _ (by omega))
      rw [show t / 10 * 10 + t % 10 = t by omega] at this
      simpa using this
    · rw [if_neg h, List.getElem?_eq_none]
      rw [Array.length_toList, pntA_size]; omega
  have old : ∀ s, s < m * 10 → (pntA m (pntF yss k)).toList[s]? = some (.int .i64 (pntF yss k (s / 10) (s % 10))) := fun s h => by
    have := pntA_get m (pntF yss k) (s / 10) (s % 10) (by omega) (Nat.mod_lt _ (by omega))
    rw [show s / 10 * 10 + s % 10 = s by omega] at this
    simpa using this
  rw [rhs]
  by_cases h1 : t < k * 10
  · rw [List.append_assoc, List.getElem?_append_left (by omega), List.getElem?_take, if_pos h1, old t (by omega), if_pos (by omega)]
    have : t / 10 < k := by omega
    simp only [pntF]
    rw [if_pos this, if_pos (by omega)]
  · by_cases h2 : t < k * 10 + (yss.getD k []).length
    · rw [List.append_assoc, List.getElem?_append_right (by omega), ht, List.getElem?_append_left (by rw [hcl]; omega), if_pos (by omega)]
      have e1 : t / 10 = k := by omega
      have e2 : t % 10 = t - k * 10 := by omega
      rw [e1, e2]
      simp only [pntF]
      rw [if_pos (by omega)]
      have hlt : t - k * 10 < (yss.getD k []).length := by omega
      generalize yss.getD k [] = row at hlt
      simp [ints, List.getD, hlt]
    · rw [List.getElem?_append_right (by rw [List.length_append, ht, hcl]; omega), List.length_append, ht, hcl, List.getElem?_drop]
      rw [show k * 10 + (yss.getD k []).length + (t - (k * 10 + (yss.getD k []).length)) = t by omega]
      by_cases h3 : t < m * 10
      · rw [old t h3, if_pos h3]
        simp only [pntF]
        by_cases h4 : t / 10 = k
        · rw [if_neg (by omega), if_pos (by omega), h4]
          have hge : (yss.getD k []).length ≤ t % 10 := by omega
          generalize yss.getD k [] = row at hge
          simp [List.getD, List.getElem?_eq_none hge]
        · rw [if_neg (by omega), if_neg (by omega)]
      · rw [if_neg h3, List.getElem?_eq_none (by rw [hlen]; omega)]
theorem Try.infoPt : (Try.prog.info? 74).map (fun i => (i.zero, i.size, i.bytes)) = some (some (.agg (tenA fun _ => 0)), 10, 80) := by kernel_rfl
theorem Try.infoPtS : (Try.prog.info? 74).map (·.size) = some 10 := by kernel_rfl
theorem make_pt (m : Nat) (hb : m ≤ 2097152) (w : World) :
    (Instr.makeSlice 69 (.int .i64 (m : Int)) (.int .i64 (m : Int))).run Try.prog w = .ok (.slice (some ⟨w.heap.size, 0, none⟩) m m) (w.alloc (.cells (pntA m (pntF [] 0)) 74)) := by
  obtain ⟨i0, hi, hz0, hz1, hz2⟩ := info_parts Try.infoPt
  have := run_make (P := Try.prog) w 69 74 i0 (.agg (tenA fun _ => 0)) Try.underlying69 hi hz0 .i64 .i64 (m : Int) (m : Int) (by omega) (Int.le_refl _) (by rw [hz2]; omega) (by omega)
  rw [this, hz1, Int.toNat_natCast, ← pnt_made]
  rfl
end Go.Proofs.Ytfbhdlkiffoflaa
