/- The laws' arguments, opened: a chain that came in reads as a Ch. Conditions: none. -/
import Derived.Test.YtgaadcinhaphpaaDoorMem
import Derived.ProofKit
import Derived.OpenShut
import Derived.ShutString
import Derived.ChangeOld
import Derived.Below
import Derived.Lib.SmallJoins
import Derived.Deep.Matrix
import Derived.Deep.RegionHeld3
namespace Go.Proofs.YtgaadcinhaphpaaDoor
open Go.ChangeShapes Go.WideShapes Go.ChangeAt Go.RowKit Go.Deep Go.Joins

theorem add_plain (b off i : Nat) : (⟨b, off, none⟩ : Addr).add i = ⟨b, off + i, none⟩ := by
  unfold Addr.add; split <;> simp_all
theorem spot_none {w : World} {a : Addr} {n : Nat} {V : Nat → Value} (hc : ∀ i, i < n → w.cell? (a.add i) = some (V i)) (hn : 0 < n) : a = ⟨a.block, a.off, none⟩ := by
  have h := World.cell?_spot (hc 0 hn)
  obtain ⟨b, off, spot⟩ := a
  simp [Addr.add] at h
  rw [h]

theorem row_of_cells {w : World} {a : Addr} {len cap : Nat} {V : Nat → Value} (hm : len ≤ maxLen) (hc : ∀ i, i < len → w.cell? (a.add i) = some (V i)) (hl : len ≤ cap) (hcap : cap ≤ maxLen) :
    Row w (.slice (some a) len cap) ((List.range len).map V) := by
  refine ⟨by simpa using hm, some a, cap, by simp, ⟨by simpa using hl, hcap⟩, fun i hi => ?_⟩
  have hi' : i < len := by simpa using hi
  have h := hc i hi'
  have hs := spot_none hc (by omega)
  rw [hs, add_plain] at h
  refine ⟨a.block, a.off, by rw [← hs], ?_⟩
  have e : ((List.range len).map V).getD i undef = V i := by simp [List.getD, hi']
  rw [e]
  exact h

set_option maxRecDepth 100000 in
/-- the rows of a slice of slices of int64s -/
theorem open_rows {H : Type} {enc : TypeId × Value → H} {W : World} {base : Nat} {held : Bool} {fuel : Nat} {v : Value} {x : DataW H × List MemPlace}
    (h : DataW.trod enc Tryd.prog W base (fun _ => true) held fuel 28 [v] = some x) : ∃ xss, Rows2 W v xss := by
  rcases open_int_rows Tryd.underlying28 Tryd.underlying55 Tryd.underlying2 (by kernel_rfl) (by kernel_rfl) h with ⟨hcs, _⟩ | ⟨a, len, cap, A, L, C, Z, hcs, _, hl, hm, _, hr⟩
  · simp at hcs
    subst hcs
    exact ⟨[], [], ⟨by simp, none, 0, rfl, ⟨Nat.le_refl _, Nat.zero_le _⟩, fun i hi => by simp at hi⟩, rfl, fun i hi => by simp at hi⟩
  · simp at hcs
    subst hcs
    refine ⟨(List.range len).map fun r => (Z r).take (L r), (List.range len).map fun r => .slice (A r) (L r) (C r), row_of_cells (by omega) (fun i hi => (hr i (by omega)).1) hl hm, by simp, fun i hi => ?_⟩
    have hi' : i < len := by simpa using hi
    obtain ⟨_, h1, h2, h3, _, _, h6⟩ := hr i (by omega)
    have e1 : ((List.range len).map fun r => Value.slice (A r) (L r) (C r)).getD i undef = .slice (A i) (L i) (C i) := by simp [List.getD, hi']
    have e2 : ((List.range len).map fun r => (Z r).take (L r)).getD i [] = (Z i).take (L i) := by simp [List.getD, hi']
    rw [e1, e2]
    have hlen : ((Z i).take (L i)).length = L i := by simp; omega
    refine ⟨by simp only [ints, List.length_map, hlen]; omega, A i, C i, by simp only [ints, List.length_map, hlen], ⟨by simp only [ints, List.length_map, hlen]; omega, by omega⟩, fun j hj => ?_⟩
    simp only [ints, List.length_map, hlen] at hj
    cases hA : A i with
    | none => have := (hr i (by omega)).2.2.2.2.2.1 hA; omega
    | some a' =>
      have h := (h6 a' hA).2 j (by omega)
      have hs := spot_none (h6 a' hA).2 (by omega)
      rw [hs, add_plain] at h
      refine ⟨a'.block, a'.off, by rw [← hs], ?_⟩
      rw [ints_getD _ _ (by rw [hlen]; exact hj)]
      have e3 : ((Z i).take (L i)).getD j 0 = (Z i).getD j 0 := by simp [List.getD, hj]
      rw [e3]
      exact h

theorem Blk.three {w : World} {b : Nat} {x y z : Value} {t : TypeId} (h : Blk w b #[x, y, z] t) :
    w.cell? ⟨b, 0, none⟩ = some x ∧ w.cell? ⟨b, 1, none⟩ = some y ∧ w.cell? ⟨b, 2, none⟩ = some z := ⟨h.cell 0, h.cell 1, h.cell 2⟩
theorem ChOwn.shape {e2 e1 : TypeId} {w : World} {lo hi : Nat} {cv : Value} {c : Ch} (h : ChOwn e2 e1 w lo hi cv c) : ∃ a cap, cv = .agg #[.int .i64 c.n, .int .i64 c.t, .slice a c.w.length cap] := by
  obtain ⟨v, rfl, hr⟩ := h
  obtain ⟨_, a, cap, rfl⟩ := hr.rows.len
  exact ⟨a, cap, rfl⟩
theorem ChR.shape {w : World} {cv : Value} {c : Ch} (h : ChR w cv c) : ∃ a cap, cv = .agg #[.int .i64 c.n, .int .i64 c.t, .slice a c.w.length cap] := by
  obtain ⟨v, rfl, hr⟩ := h
  obtain ⟨_, a, cap, rfl⟩ := hr.len
  exact ⟨a, cap, rfl⟩
theorem Blk.drew {w : World} {b : Nat} {c : Array Value} {t : TypeId} (h : Blk w b c t) : Blk w.drew b c t := h
theorem Blk.step {w w' : World} {b : Nat} {c : Array Value} {t : TypeId} (h : Blk w b c t) (hb : Below w.heap.size w w') : Blk w' b c t := h.keep hb h.lt
theorem below_refl' (w : World) : Below w.heap.size w w := Below.refl _ _
theorem below_drew (w : World) : Below w.heap.size w w.drew := (Below.refl _ _).drew

/-- a chain that a call made, told with its blocks' bounds -/
structure ChMine (e2 e1 : TypeId) (w : World) (lo hi : Nat) (cv : Value) (c : Ch) : Prop where
  own : ChOwn e2 e1 w lo hi cv c
  le : hi ≤ w.heap.size
theorem ChMine.step {e2 e1 : TypeId} {w w' : World} {lo hi : Nat} {cv : Value} {c : Ch} (h : ChMine e2 e1 w lo hi cv c) (hb : Below w.heap.size w w') : ChMine e2 e1 w' lo hi cv c :=
  ⟨h.own.keep h.le hb, Nat.le_trans h.le hb.size⟩
theorem ChMine.ch {e2 e1 : TypeId} {w : World} {lo hi : Nat} {cv : Value} {c : Ch} (h : ChMine e2 e1 w lo hi cv c) : ChR w cv c := h.own.ch
theorem ChMine.shape {e2 e1 : TypeId} {w : World} {lo hi : Nat} {cv : Value} {c : Ch} (h : ChMine e2 e1 w lo hi cv c) : ∃ a cap, cv = .agg #[.int .i64 c.n, .int .i64 c.t, .slice a c.w.length cap] := h.own.shape
theorem ChOwn.mine {e2 e1 : TypeId} {w : World} {lo : Nat} {cv : Value} {c : Ch} (h : ChOwn e2 e1 w lo w.heap.size cv c) : ChMine e2 e1 w lo w.heap.size cv c := ⟨h, Nat.le_refl _⟩
end Go.Proofs.YtgaadcinhaphpaaDoor
