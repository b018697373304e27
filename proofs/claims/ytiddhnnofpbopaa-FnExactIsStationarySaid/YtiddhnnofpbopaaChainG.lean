/- ChainG: several texts in one (Open, To, Mark, Touch, Eq, Sz, Kinds). Conditions: told in each. -/
import Derived.Test.YtiddhnnofpbopaaNumG
import Derived.ProofKit
import Derived.OpenShut
import Derived.ShutString
import Derived.ChangeOld
import Derived.Below
import Derived.Lib.SmallJoins
import Derived.Deep.Matrix
import Derived.Deep.RegionHeld3
import Derived.ChangeSlices
import Derived.Deep.DeepCutAuto
/- The laws' arguments, opened: a chain that came in reads as a Ch. Conditions: none. -/
namespace Go.Proofs.Ytiddhnnofpbopaa
open Go.ChangeShapes Go.WideShapes Go.ChangeAt Go.RowKit Go.Deep Go.Joins

theorem add_plain (b off i : Nat) : (⟨b, off, none⟩ : Addr).add i = ⟨b, off + i, none⟩ := by
  unfold Addr.add; split <;> simp_all
theorem spot_none {w : World} {a : Addr} {n : Nat} {V : Nat → Value} (hc : ∀ i, i < n → w.cell? (a.add i) = some (V i)) (hn : 0 < n) : a = ⟨a.block, a.off, none⟩ := by
  have h := World.cell?_spot (hc 0 hn)
  obtain ⟨b, off, spot⟩ := a
  simp [Addr.add] at h
  rw [h]

theorem row_of_cells {w : World} {a : Addr} {len cap : Nat} {V : Nat → Value} (hm : len ≤ maxLen) (hc : ∀ i, i < len → w.cell? (a.add i) = some (V i)) (hl : len ≤ cap) (hcap : cap ≤ maxLen) :
    Row w (.slice (some a) len cap) ((List.range len).map V) := by
  refine ⟨by simpa using hm, some a, cap, by simp, ⟨by simpa using hl, hcap⟩, fun i hi => ?_⟩
  have hi' : i < len := by simpa using hi
  have h := hc i hi'
  have hs := spot_none hc (by omega)
  rw [hs, add_plain] at h
  refine ⟨a.block, a.off, by rw [← hs], ?_⟩
  have e : ((List.range len).map V).getD i undef = V i := by simp [List.getD, hi']
  rw [e]
  exact h

set_option maxRecDepth 100000 in
/-- the rows of a slice of slices of int64s -/
theorem open_rows {H : Type} {enc : TypeId × Value → H} {W : World} {base : Nat} {held : Bool} {fuel : Nat} {v : Value} {x : DataW H × List MemPlace}
    (h : DataW.trod enc Try.prog W base (fun _ => true) held fuel 28 [v] = some x) : ∃ xss, Rows2 W v xss := by
  rcases open_int_rows Try.underlying28 Try.underlying42 Try.underlying2 (by kernel_rfl) (by kernel_rfl) h with ⟨hcs, _⟩ | ⟨a, len, cap, A, L, C, Z, hcs, _, hl, hm, _, hr⟩
  · simp at hcs
    subst hcs
    exact ⟨[], [], ⟨by simp, none, 0, rfl, ⟨Nat.le_refl _, Nat.zero_le _⟩, fun i hi => by simp at hi⟩, rfl, fun i hi => by simp at hi⟩
  · simp at hcs
    subst hcs
    refine ⟨(List.range len).map fun r => (Z r).take (L r), (List.range len).map fun r => .slice (A r) (L r) (C r), row_of_cells (by omega) (fun i hi => (hr i (by omega)).1) hl hm, by simp, fun i hi => ?_⟩
    have hi' : i < len := by simpa using hi
    obtain ⟨_, h1, h2, h3, _, _, h6⟩ := hr i (by omega)
    have e1 : ((List.range len).map fun r => Value.slice (A r) (L r) (C r)).getD i undef = .slice (A i) (L i) (C i) := by simp [List.getD, hi']
    have e2 : ((List.range len).map fun r => (Z r).take (L r)).getD i [] = (Z i).take (L i) := by simp [List.getD, hi']
    rw [e1, e2]
    have hlen : ((Z i).take (L i)).length = L i := by simp; omega
    refine ⟨by simp only [ints, List.length_map, hlen]; omega, A i, C i, by simp only [ints, List.length_map, hlen], ⟨by simp only [ints, List.length_map, hlen]; omega, by omega⟩, fun j hj => ?_⟩
    simp only [ints, List.length_map, hlen] at hj
    cases hA : A i with
    | none => have := (hr i (by omega)).2.2.2.2.2.1 hA; omega
    | some a' =>
      have h := (h6 a' hA).2 j (by omega)
      have hs := spot_none (h6 a' hA).2 (by omega)
      rw [hs, add_plain] at h
      refine ⟨a'.block, a'.off, by rw [← hs], ?_⟩
      rw [ints_getD _ _ (by rw [hlen]; exact hj)]
      have e3 : ((Z i).take (L i)).getD j 0 = (Z i).getD j 0 := by simp [List.getD, hj]
      rw [e3]
      exact h

set_option maxRecDepth 100000 in
theorem open_chain {H : Type} {enc : TypeId × Value → H} {W : World} {base b0 : Nat} {held : Bool} {v : Value} {d : DataW H} {p : List MemPlace}
    (hv : Value.okWide Try.prog W .any base 30 v) (h : DataW.Trod enc Try.prog W b0 (fun _ => true) held 30 v d p) : ∃ c, ChR W v c := by
  obtain ⟨c0, c1, c2, y0, y1, y2, n, rfl, _, _, h0, h1, h2⟩ := open_agg3 Try.underlying30 (by kernel_rfl) (by kernel_rfl) hv h
  obtain ⟨a, e0, _, _⟩ := DataW.trod_int Try.underlying2 h0
  obtain ⟨b, e1, _, _⟩ := DataW.trod_int Try.underlying2 h1
  obtain ⟨xss, hr⟩ := open_rows h2
  simp at e0 e1
  subst e0 e1
  exact ⟨⟨a, b, xss⟩, c2, rfl, hr⟩

theorem Blk.three {w : World} {b : Nat} {x y z : Value} {t : TypeId} (h : Blk w b #[x, y, z] t) :
    w.cell? ⟨b, 0, none⟩ = some x ∧ w.cell? ⟨b, 1, none⟩ = some y ∧ w.cell? ⟨b, 2, none⟩ = some z := ⟨h.cell 0, h.cell 1, h.cell 2⟩
theorem ChOwn.shape {e2 e1 : TypeId} {w : World} {lo hi : Nat} {cv : Value} {c : Ch} (h : ChOwn e2 e1 w lo hi cv c) : ∃ a cap, cv = .agg #[.int .i64 c.n, .int .i64 c.t, .slice a c.w.length cap] := by
  obtain ⟨v, rfl, hr⟩ := h
  obtain ⟨_, a, cap, rfl⟩ := hr.rows.len
  exact ⟨a, cap, rfl⟩
theorem ChR.shape {w : World} {cv : Value} {c : Ch} (h : ChR w cv c) : ∃ a cap, cv = .agg #[.int .i64 c.n, .int .i64 c.t, .slice a c.w.length cap] := by
  obtain ⟨v, rfl, hr⟩ := h
  obtain ⟨_, a, cap, rfl⟩ := hr.len
  exact ⟨a, cap, rfl⟩
theorem Blk.drew {w : World} {b : Nat} {c : Array Value} {t : TypeId} (h : Blk w b c t) : Blk w.drew b c t := h
theorem Blk.step {w w' : World} {b : Nat} {c : Array Value} {t : TypeId} (h : Blk w b c t) (hb : Below w.heap.size w w') : Blk w' b c t := h.keep hb h.lt
theorem below_refl' (w : World) : Below w.heap.size w w := Below.refl _ _
theorem below_drew (w : World) : Below w.heap.size w w.drew := (Below.refl _ _).drew

/-- a chain that a call made, told with its blocks' bounds -/
structure ChMine (e2 e1 : TypeId) (w : World) (lo hi : Nat) (cv : Value) (c : Ch) : Prop where
  own : ChOwn e2 e1 w lo hi cv c
  le : hi ≤ w.heap.size
theorem ChMine.step {e2 e1 : TypeId} {w w' : World} {lo hi : Nat} {cv : Value} {c : Ch} (h : ChMine e2 e1 w lo hi cv c) (hb : Below w.heap.size w w') : ChMine e2 e1 w' lo hi cv c :=
  ⟨h.own.keep h.le hb, Nat.le_trans h.le hb.size⟩
theorem ChMine.ch {e2 e1 : TypeId} {w : World} {lo hi : Nat} {cv : Value} {c : Ch} (h : ChMine e2 e1 w lo hi cv c) : ChR w cv c := h.own.ch
theorem ChMine.shape {e2 e1 : TypeId} {w : World} {lo hi : Nat} {cv : Value} {c : Ch} (h : ChMine e2 e1 w lo hi cv c) : ∃ a cap, cv = .agg #[.int .i64 c.n, .int .i64 c.t, .slice a c.w.length cap] := h.own.shape
theorem ChOwn.mine {e2 e1 : TypeId} {w : World} {lo : Nat} {cv : Value} {c : Ch} (h : ChOwn e2 e1 w lo w.heap.size cv c) : ChMine e2 e1 w lo w.heap.size cv c := ⟨h, Nat.le_refl _⟩
end Go.Proofs.Ytiddhnnofpbopaa

/- The laws' copies of numbers, rows and chains: what they return lies in new memory and reads as what came in. Conditions: at most 2^21 numbers in all. -/
namespace Go.Proofs.Ytiddhnnofpbopaa
open Go.RowKit Go.Deep

theorem Try.infoI : (Try.prog.info? 2).map (fun i => (i.zero, i.size, i.bytes)) = some (some (.int .i64 0), 1, 8) := by kernel_rfl
theorem Try.infoR : (Try.prog.info? 42).map (fun i => (i.zero, i.size, i.bytes)) = some (some (.slice none 0 0), 1, 24) := by kernel_rfl

/-- the first k of xs in front, zeros behind -/
def filled (z : Value) (vs : List Value) (k : Nat) : List Value := vs.take k ++ List.replicate (vs.length - k) z
theorem filled_zero (z : Value) (vs : List Value) : filled z vs 0 = List.replicate vs.length z := by simp [filled]
theorem filled_all (z : Value) (vs : List Value) : filled z vs vs.length = vs := by simp [filled]
theorem filled_length (z : Value) (vs : List Value) (k : Nat) (h : k ≤ vs.length) : (filled z vs k).length = vs.length := by simp [filled]; omega
theorem filled_set (z : Value) (vs : List Value) (k : Nat) (h : k < vs.length) : (filled z vs k).set k (vs.getD k undef) = filled z vs (k + 1) := by
  unfold filled
  have hk : (vs.take k).length = k := by simp; omega
  rw [List.set_append_right _ _ (by omega), hk, Nat.sub_self]
  have e : vs.length - k = (vs.length - (k + 1)) + 1 := by omega
  have e2 : vs.take (k + 1) = vs.take k ++ [vs.getD k undef] := by
    rw [List.take_succ_eq_append_getElem h]; simp [List.getD, h]
  rw [e, List.replicate_succ, List.set_cons_zero, e2, List.append_assoc]
  rfl

set_option maxHeartbeats 2000000 in
theorem toInt64S_any (v : Value) (xs : List Int) (w : World) (hv : Ints w v xs) (h1 : xs.length ≤ 2097152) :
    Calls Try.prog 54 #[v] w fun e w' => e = .returned (.slice (some ⟨w.heap.size, 0, none⟩) xs.length xs.length) ∧ Own w' w.heap.size (w.heap.size + 1) 2 (.slice (some ⟨w.heap.size, 0, none⟩) xs.length xs.length) (ints xs) ∧ Below w.heap.size w w' ∧ w'.heap.size = w.heap.size + 1 := by
  obtain ⟨hm, a, cap, rfl⟩ := hv.len
  unfold maxLen at hm
  have hmk := run_make_row' (P := Try.prog) 42 2 (.int .i64 0) 8 Try.underlying42 Try.infoI rfl .i64 .i64 xs.length (by omega) (by omega)
  go_enter Try.func54, Try.ntmps54
  go_wp2
  go_loopw [4] (fun i wr => ∃ k : Nat, k ≤ xs.length ∧ i = .int .i64 k ∧ Own wr w.heap.size (w.heap.size + 1) 2 (.slice (some ⟨w.heap.size, 0, none⟩) xs.length xs.length) (filled (.int .i64 0) (ints xs) k) ∧ Below w.heap.size w wr ∧ wr.heap.size = w.heap.size + 1) (fun i _ => xs.length - (intOf i).toNat)
  case atStart =>
    refine ⟨0, Nat.zero_le _, rfl, ?_, (Below.refl _ _).alloc (Nat.le_refl _) _, by simp⟩
    rw [filled_zero]
    have := Own.made w (.int .i64 0) xs.length 2 (by unfold maxLen; omega)
    simpa [ints] using this
  case round =>
    obtain ⟨k, hk, rfl, hown, hbel, hsz⟩ := hrel
    have hown' := Lib.hid hown
    have hsz' := Lib.hid hsz
    clear hsz
    by_cases hlt : k < xs.length
    · obtain ⟨b, off, cap', hvv, hb, hc⟩ := hv.at (by omega)
      cases hvv
      have hcell : wr.cell? ⟨b, off + k, none⟩ = some (.int .i64 (xs.getD k 0)) := by rw [hbel.cell hb]; exact hc k hlt
      clear hc
      obtain ⟨g, cap'', hg, _, _, _, hcg, hfg⟩ := hown.at (by rw [filled_length _ _ _ (by simpa [ints] using hk)]; simp [ints]; omega)
      simp only [Value.slice.injEq, Option.some.injEq, Addr.mk.injEq, and_true] at hg
      obtain ⟨rfl, _, _⟩ := hg
      have hcg' := hcg k (by rw [filled_length _ _ _ (by simpa [ints] using hk)]; simpa [ints] using hlt)
      have hfg' := hfg k
      clear hcg hfg
      generalize hx : xs.getD k 0 = x at hcell
      have hx' := Lib.hid hx
      clear hx hown
      go_wp2
      go_roundw
      case rel =>
        refine ⟨k + 1, by omega, by go_num, ?_, hbel.setCell (Nat.le_refl _) _, by rw [← hsz'.out]; simp [World.setCell]⟩
        have := hown'.out.set k (.int .i64 x)
        rw [← hx'.out, ← ints_getD xs k hlt, filled_set _ _ _ (by simpa [ints] using hlt), ints_getD xs k hlt, hx'.out] at this
        exact this
      case measure => simp [intOf]; omega
    · obtain rfl : k = xs.length := by omega
      go_wp2
      go_ret
      refine ⟨rfl, ?_, hbel, hsz'.out⟩
      have := hown'.out
      rw [show xs.length = (ints xs).length from by simp [ints], filled_all] at this
      simpa [ints] using this

/-- rows copied so far: the first k own, the rest nil -/
def OwnTo (w : World) (lo hi : Nat) (v : Value) (xss : List (List Int)) (k : Nat) : Prop :=
  ∃ rvs : List Value, rvs.length = xss.length ∧ Own w lo (lo + 1) 42 v (filled (.slice none 0 0) rvs k) ∧
    (∀ i, i < k → rvs.getD i undef = .slice (some ⟨lo + 1 + i, 0, none⟩) (xss.getD i []).length (xss.getD i []).length ∧ Own w (lo + 1) hi 2 (rvs.getD i undef) (ints (xss.getD i [])))

theorem OwnTo.done {w : World} {lo hi : Nat} {cap : Nat} {xss : List (List Int)} (h : OwnTo w lo hi (.slice (some ⟨lo, 0, none⟩) xss.length cap) xss xss.length) (hh : lo + 1 ≤ hi) :
    OwnRows 42 2 w lo hi (.slice (some ⟨lo, 0, none⟩) xss.length cap) xss := by
  obtain ⟨rvs, hl, ho, hr⟩ := h
  rw [← hl, filled_all, hl] at ho
  refine ⟨rvs, ho.wide (Nat.le_refl _) hh, hl, fun i hi => (hr i hi).2.wide (by omega) (Nat.le_refl _), fun i hi k hk => ?_, fun i j hi hj hne k hk => ?_⟩
  · rw [(hr i hi).1] at hk
    simp [Value.ownBlock] at hk ⊢
    omega
  · rw [(hr i hi).1] at hk
    rw [(hr j hj).1]
    simp [Value.ownBlock] at hk ⊢
    omega

theorem OwnTo.at {w : World} {lo hi cap k : Nat} {xss : List (List Int)} (h : OwnTo w lo hi (.slice (some ⟨lo, 0, none⟩) xss.length cap) xss k) (hk : k < xss.length) :
    ∃ u, w.cell? ⟨lo, k, none⟩ = some u ∧ w.frozen? ⟨lo, k, none⟩ = false := by
  obtain ⟨rvs, hl, ho, _⟩ := h
  have hl' : (filled (.slice none 0 0) rvs k).length = xss.length := by rw [filled_length _ _ _ (by omega), hl]
  obtain ⟨g, c, hv, _, _, _, hc, hf⟩ := ho.at (by omega)
  simp only [Value.slice.injEq, Option.some.injEq, Addr.mk.injEq, and_true] at hv
  obtain ⟨rfl, _, _⟩ := hv
  exact ⟨_, hc k (by omega), hf k⟩

/-- one row more: the callee's copy is stored at k -/
theorem OwnTo.step {w w1 : World} {lo cap k : Nat} {xss : List (List Int)} (h : OwnTo w lo w.heap.size (.slice (some ⟨lo, 0, none⟩) xss.length cap) xss k) (hk : k < xss.length) (hs : w.heap.size = lo + 1 + k)
    (hb : Below w.heap.size w w1) (ho1 : Own w1 w.heap.size (w.heap.size + 1) 2 (.slice (some ⟨w.heap.size, 0, none⟩) (xss.getD k []).length (xss.getD k []).length) (ints (xss.getD k []))) (hs1 : w1.heap.size = w.heap.size + 1) :
    OwnTo (w1.setCell ⟨lo, k, none⟩ (.slice (some ⟨w.heap.size, 0, none⟩) (xss.getD k []).length (xss.getD k []).length)) lo (w1.setCell ⟨lo, k, none⟩ (.slice (some ⟨w.heap.size, 0, none⟩) (xss.getD k []).length (xss.getD k []).length)).heap.size (.slice (some ⟨lo, 0, none⟩) xss.length cap) xss (k + 1) := by
  obtain ⟨rvs, hl, ho, hr⟩ := h
  have hsz : (w1.setCell ⟨lo, k, none⟩ (.slice (some ⟨w.heap.size, 0, none⟩) (xss.getD k []).length (xss.getD k []).length)).heap.size = w.heap.size + 1 := by simp [World.setCell]; omega
  generalize hn : Value.slice (some ⟨w.heap.size, 0, none⟩) (xss.getD k []).length (xss.getD k []).length = nv at *
  have hkr : k < rvs.length := by omega
  refine ⟨rvs.set k nv, by simpa using hl, ?_, fun i hi => ?_⟩
  · have h1 := (ho.keep (by omega) hb).set k nv
    have e : (filled (.slice none 0 0) rvs k).set k nv = filled (.slice none 0 0) (rvs.set k nv) (k + 1) := by
      have := filled_set (.slice none 0 0) (rvs.set k nv) k (by simpa using hkr)
      rw [← this]
      have e1 : (rvs.set k nv).getD k undef = nv := by simp [List.getD, hkr]
      rw [e1]
      congr 1
      unfold filled
      rw [List.take_set_of_le (Nat.le_refl _), List.length_set]
    rw [e] at h1
    exact h1
  · by_cases e : i = k
    · subst e
      have e1 : (rvs.set i nv).getD i undef = nv := by simp [List.getD, hkr]
      rw [e1]
      refine ⟨by rw [← hn, hs], ?_⟩
      have : nv.ownBlock ≠ some lo := by rw [← hn]; simp [Value.ownBlock]; omega
      exact (ho1.setOther (a := ⟨lo, i, none⟩) this nv).wide (by omega) (by omega)
    · have hi' : i < k := by omega
      have e1 : (rvs.set k nv).getD i undef = rvs.getD i undef := by simp [List.getD, Ne.symm e]
      rw [e1]
      obtain ⟨h1, h2⟩ := hr i hi'
      refine ⟨h1, ?_⟩
      have : (rvs.getD i undef).ownBlock ≠ some lo := by rw [h1]; simp [Value.ownBlock]; omega
      exact ((h2.keep (Nat.le_refl _) hb).setOther (a := ⟨lo, k, none⟩) this nv).wide (Nat.le_refl _) (by omega)

set_option maxHeartbeats 4000000 in
theorem toInt64SS_any (v : Value) (xss : List (List Int)) (w : World) (hv : Rows2 w v xss) (h1 : xss.length + total xss ≤ 2097152) :
    Calls Try.prog 32 #[v] w fun e w' => ∃ v', e = .returned v' ∧ OwnRows 42 2 w' w.heap.size w'.heap.size v' xss ∧ Below w.heap.size w w' := by
  obtain ⟨hm, a, cap, rfl⟩ := hv.len
  unfold maxLen at hm
  have hmk := run_make_row' (P := Try.prog) 28 42 (.slice none 0 0) 24 Try.underlying28 Try.infoR rfl .i64 .i64 xss.length (by omega) (by omega)
  go_enter Try.func32, Try.ntmps32
  go_wp2
  go_loopw [4] (fun i wr => ∃ k : Nat, k ≤ xss.length ∧ i = .int .i64 k ∧ OwnTo wr w.heap.size wr.heap.size (.slice (some ⟨w.heap.size, 0, none⟩) xss.length xss.length) xss k ∧ Below w.heap.size w wr ∧ wr.heap.size = w.heap.size + 1 + k) (fun i _ => xss.length - (intOf i).toNat)
  case atStart =>
    refine ⟨0, Nat.zero_le _, rfl, ⟨List.replicate xss.length undef, by simp, ?_, fun i hi => by omega⟩, (Below.refl _ _).alloc (Nat.le_refl _) _, by simp⟩
    rw [filled_zero]
    have := Own.made w (.slice none 0 0) xss.length 42 (by unfold maxLen; omega)
    simpa using this
  case round =>
    obtain ⟨k, hk, rfl, hown, hbel, hsz⟩ := hrel
    have hown' := Lib.hid hown
    have hsz' := Lib.hid hsz
    clear hsz
    by_cases hlt : k < xss.length
    · have hrl := total_row_le xss k hlt
      obtain ⟨b, off, cap', rv, hvv, hb, hc⟩ := hv.at (by omega)
      cases hvv
      obtain ⟨hcell0, hrow0⟩ := hc k hlt
      have hcell : wr.cell? ⟨b, off + k, none⟩ = some (rv k) := by rw [hbel.cell hb]; exact hcell0
      have hrow : Ints wr (rv k) (xss.getD k []) := hrow0.keep hbel
      clear hc hcell0 hrow0
      generalize rv k = rk at hcell hrow
      obtain ⟨row, hx⟩ : ∃ row, row = xss.getD k [] := ⟨_, rfl⟩
      rw [← hx] at hrow hrl
      have hx' := Lib.hid hx
      clear hx
      obtain ⟨u, hcg, hfg⟩ := hown.at hlt
      clear hown
      go_wp2_with fail
      refine (toInt64S_any _ row _ hrow (by omega)).mono ?_
      rintro e w1 ⟨rfl, hown1, hbel1, hsz1⟩
      have hcg1 := (hbel1.cell (p := ⟨w.heap.size, k, none⟩) (by have := hsz'.out; simp only; omega)).trans hcg
      have hfg1 := (hbel1.frozen (p := ⟨w.heap.size, k, none⟩) (by have := hsz'.out; simp only; omega)).trans hfg
      have hsz1' := Lib.hid hsz1
      clear hsz1
      go_wp2
      go_roundw
      case rel =>
        have hs := hsz'.out
        have hs1 := hsz1'.out
        refine ⟨k + 1, by omega, by go_num, ?_, (hbel.trans (hbel1.mono (by omega))).setCell (Nat.le_refl _) _, by simp [World.setCell]; omega⟩
        have := hown'.out.step hlt hs hbel1 (hx'.out ▸ hown1) hs1
        rw [← hx'.out] at this
        exact this
      case measure => simp [intOf]; omega
    · obtain rfl : k = xss.length := by omega
      go_wp2
      go_ret
      exact ⟨_, rfl, hown'.out.done (by have := hsz'.out; omega), hbel⟩

set_option maxHeartbeats 2000000 in
theorem toChain_any (cv : Value) (c : Ch) (w : World) (hv : ChR w cv c) (h1 : c.w.length + total c.w ≤ 2097152) :
    Calls Try.prog 13 #[cv] w fun e w' => ∃ cv', e = .returned cv' ∧ ChOwn 42 2 w' w.heap.size w'.heap.size cv' c ∧ Below w.heap.size w w' := by
  obtain ⟨v, rfl, hr⟩ := hv
  go_enter Try.func13, Try.ntmps13
  go_wp2_with fail
  refine (toInt64SS_any v c.w _ (hr.keep (below3 _ _ _ _)) h1).mono ?_
  rintro e w1 ⟨v', rfl, hown, hbel⟩
  have hB1 := ((Blk.new (w.alloc (.cells #[.int .i64 c.n, .int .i64 c.t, v] 30)) #[.int .i64 0, .int .i64 0, .slice none 0 0] 36).alloc (.cells #[.int .i64 c.n, .int .i64 c.t, .slice none 0 0] 36)).keep hbel (by simp)
  have hB2 := (Blk.new ((w.alloc (.cells #[.int .i64 c.n, .int .i64 c.t, v] 30)).alloc (.cells #[.int .i64 0, .int .i64 0, .slice none 0 0] 36)) #[.int .i64 c.n, .int .i64 c.t, .slice none 0 0] 36).keep hbel (by simp)
  simp only [World.size_alloc] at hB1 hB2 hown hbel
  obtain ⟨_, a', cap', rfl⟩ := hown.rows.len
  have c10 := hB1.cell 0
  have c11 := hB1.cell 1
  have c12 := hB1.cell 2
  have f10 := hB1.frozen 0
  have f11 := hB1.frozen 1
  have f12 := hB1.frozen 2
  have c20 := hB2.cell 0
  have c21 := hB2.cell 1
  have c22 := hB2.cell 2
  have f22 := hB2.frozen 2
  have hbel' := Lib.hid (below_wt (below3 w _ _ _) (by simpa only [World.size_alloc] using hbel))
  clear hbel
  simp at c10 c11 c12 c20 c21 c22
  go_wp2
  refine bodyPost_ret (v := .agg #[.int .i64 c.n, .int .i64 c.t, .slice a' c.w.length cap']) (by simp [results, Try.results13, go_sem, c10, c11, c12]) rfl ?_
  refine ⟨_, rfl, ⟨_, rfl, (hown.same (((((SameOn.refl _ _ _).set ?_ _).set ?_ _).set ?_ _).set ?_ _)).wide (by omega) (by simp [World.setCell])⟩, (((hbel'.out.setCell ?_ _).setCell ?_ _).setCell ?_ _).setCell ?_ _⟩
  all_goals (simp only; omega)
end Go.Proofs.Ytiddhnnofpbopaa

/- The laws' marks: numbers, rows and chains that a call made are filled with k, k + 1, .., and found so again; what lies outside of their blocks is left. Conditions: few numbers (at most 2^40 in all, k at most 2^40). -/
namespace Go.Proofs.Ytiddhnnofpbopaa
open Go.RowKit Go.Deep

/-- only the blocks from lo up to hi may have changed; nothing is new but what is behind -/
structure Touched (lo hi : Nat) (w w' : World) : Prop where
  os : w'.os = w.os
  tape : w'.tape = w.tape
  output : w'.output = w.output
  size : w.heap.size ≤ w'.heap.size
  block : ∀ k, k < w.heap.size → (k < lo ∨ hi ≤ k) → w'.heap[k]? = w.heap[k]?
theorem Touched.refl (lo hi : Nat) (w : World) : Touched lo hi w w := ⟨rfl, rfl, rfl, Nat.le_refl _, fun _ _ _ => rfl⟩
theorem Touched.trans {lo hi : Nat} {a b c : World} (h : Touched lo hi a b) (k : Touched lo hi b c) : Touched lo hi a c :=
  ⟨k.os.trans h.os, k.tape.trans h.tape, k.output.trans h.output, Nat.le_trans h.size k.size, fun i h1 h2 => (k.block i (Nat.lt_of_lt_of_le h1 h.size) h2).trans (h.block i h1 h2)⟩
theorem Touched.set {lo hi : Nat} {w w' : World} (h : Touched lo hi w w') {a : Addr} (h1 : lo ≤ a.block) (h2 : a.block < hi) (u : Value) : Touched lo hi w (w'.setCell a u) :=
  h.trans ⟨rfl, rfl, rfl, by simp [World.setCell], fun k _ hk => Below.heap_setCell _ _ _ _ (by omega)⟩
theorem Touched.of {lo hi : Nat} {w w' : World} (h : Below w.heap.size w w') : Touched lo hi w w' := ⟨h.os, h.tape, h.output, h.size, fun k h1 _ => h.block k h1⟩
theorem Touched.wide {lo hi lo' hi' : Nat} {w w' : World} (h : Touched lo hi w w') (h1 : lo' ≤ lo) (h2 : hi ≤ hi') : Touched lo' hi' w w' :=
  ⟨h.os, h.tape, h.output, h.size, fun k a b => h.block k a (by omega)⟩
theorem Touched.below {lo hi : Nat} {w w' : World} (h : Touched lo hi w w') (hl : lo ≤ w.heap.size) : Below lo w w' := ⟨h.os, h.tape, h.output, h.size, fun k hk => h.block k (by omega) (Or.inl hk)⟩
theorem Touched.same {lo hi : Nat} {w w' : World} (h : Touched lo hi w w') {B : Nat} (hB : B ≤ w.heap.size) : SameOn hi B w w' := fun k h1 h2 => h.block k (by omega) (Or.inr h1)
theorem Touched.under {lo hi : Nat} {w w' : World} (h : Touched lo hi w w') (hl : lo ≤ w.heap.size) (b : Nat) : SameOn b lo w w' := fun k _ h2 => h.block k (by omega) (Or.inl h2)

/-- k, k + 1, .. -/
def marks (k : Int) : Nat → List Int
  | 0 => []
  | n + 1 => k :: marks (k + 1) n
theorem marks_length (k : Int) (n : Nat) : (marks k n).length = n := by induction n generalizing k with | zero => rfl | succ n ih => simp [marks, ih]
theorem marks_getD (k : Int) (n i : Nat) (h : i < n) : (marks k n).getD i 0 = k + i := by
  induction n generalizing k i with
  | zero => omega
  | succ n ih =>
    cases i with
    | zero => simp [marks, List.getD]
    | succ i =>
      have := ih (k + 1) i (by omega)
      simp only [marks, List.getD_cons_succ, this]; omega
/-- the first j marked, the rest as it was -/
def marked (k : Int) (xs : List Int) (j : Nat) : List Int := marks k j ++ xs.drop j
theorem marked_zero (k : Int) (xs : List Int) : marked k xs 0 = xs := by simp [marked, marks]
theorem marked_all (k : Int) (xs : List Int) : marked k xs xs.length = marks k xs.length := by simp [marked]
theorem marked_length (k : Int) (xs : List Int) (j : Nat) (h : j ≤ xs.length) : (marked k xs j).length = xs.length := by simp [marked, marks_length]; omega
theorem marks_snoc (k : Int) (n : Nat) : marks k (n + 1) = marks k n ++ [k + n] := by
  induction n generalizing k with
  | zero => simp [marks]
  | succ n ih =>
    rw [marks, ih (k + 1), marks]
    simp; omega
theorem marked_set (k : Int) (xs : List Int) (j : Nat) (h : j < xs.length) : (marked k xs j).set j (k + j) = marked k xs (j + 1) := by
  unfold marked
  rw [List.set_append_right _ _ (by rw [marks_length]; exact Nat.le_refl _), marks_length, Nat.sub_self, marks_snoc, List.drop_eq_getElem_cons h, List.set_cons_zero, List.append_assoc]
  rfl
theorem ints_set (xs : List Int) (j : Nat) (x : Int) : (ints xs).set j (.int .i64 x) = ints (xs.set j x) := by simp [ints, List.map_set]

/-! ### rows -/
theorem Own.sameBlk {w w' : World} {lo hi : Nat} {e : TypeId} {v : Value} {vs : List Value} (h : Own w lo hi e v vs) (hs : ∀ k, k < w.heap.size → v.ownBlock = some k → w'.heap[k]? = w.heap[k]?) : Own w' lo hi e v vs := by
  obtain ⟨ho, hm, hk⟩ := h
  have ho' := ho
  refine ⟨⟨ho.1, ?_⟩, hm, hk⟩
  rcases ho.2 with hn | ⟨g, cap, cur, rfl, hg, hh, r⟩
  · exact Or.inl hn
  · exact Or.inr ⟨g, cap, cur, rfl, hg, by rw [hs g (ho'.lt g rfl).2 rfl]; exact hh, r⟩
/-- its very block as the bounds -/
theorem Own.tight {w : World} {lo hi : Nat} {e : TypeId} {v : Value} {vs : List Value} (h : Own w lo hi e v vs) :
    ∃ g g', Own w g g' e v vs ∧ (∀ k, g ≤ k → k < g' → v.ownBlock = some k) ∧ (∀ k, g ≤ k → k < g' → lo ≤ k ∧ k < hi) := by
  obtain ⟨ho, hm, hk⟩ := h
  rcases ho.2 with hn | ⟨g, cap, cur, rfl, hg, r⟩
  · refine ⟨0, 0, ⟨⟨ho.1, Or.inl hn⟩, hm, fun k hk' => ?_⟩, fun k _ h2 => by omega, fun k _ h2 => by omega⟩
    rw [hn.1] at hk'; simp [Value.ownBlock] at hk'
  · have := hk g rfl
    refine ⟨g, g + 1, ⟨⟨ho.1, Or.inr ⟨g, cap, cur, rfl, Nat.le_refl _, r⟩⟩, hm, fun k hk' => ?_⟩, fun k h1 h2 => ?_, fun k h1 h2 => by omega⟩
    · simp [Value.ownBlock] at hk'; omega
    · simp [Value.ownBlock]; omega
theorem Own.loose {w : World} {g g' lo hi : Nat} {e : TypeId} {v : Value} {vs : List Value} (h : Own w g g' e v vs) (hw : ∀ k, g ≤ k → k < g' → lo ≤ k ∧ k < hi) : Own w lo hi e v vs := by
  obtain ⟨ho, hm, hk⟩ := h
  refine ⟨⟨ho.1, ?_⟩, hm, fun k hk' => (hw k (ho.lt k hk').1 (hk k hk')).2⟩
  rcases ho.2 with hn | ⟨b, cap, cur, rfl, hg, r⟩
  · exact Or.inl hn
  · exact Or.inr ⟨b, cap, cur, rfl, (hw b hg (hk b rfl)).1, r⟩
theorem Touched.loose {g g' lo hi : Nat} {w w' : World} (h : Touched g g' w w') (hw : ∀ k, g ≤ k → k < g' → lo ≤ k ∧ k < hi) : Touched lo hi w w' :=
  ⟨h.os, h.tape, h.output, h.size, fun k a b => h.block k a (by
    by_cases h1 : g ≤ k
    · by_cases h2 : k < g'
      · have := hw k h1 h2; omega
      · omega
    · omega)⟩

def markRows (k : Int) : List (List Int) → List (List Int)
  | [] => []
  | r :: rs => marks k r.length :: markRows (k + r.length) rs
theorem markRows_length (k : Int) (xss : List (List Int)) : (markRows k xss).length = xss.length := by induction xss generalizing k with | nil => rfl | cons r rs ih => simp [markRows, ih]
theorem markRows_getD (k : Int) (xss : List (List Int)) (i : Nat) (h : i < xss.length) : (markRows k xss).getD i [] = marks (k + total (xss.take i)) (xss.getD i []).length := by
  induction xss generalizing k i with
  | nil => simp at h
  | cons r rs ih =>
    cases i with
    | zero => simp [markRows, List.getD, total]
    | succ i =>
      have := ih (k + r.length) i (by simpa using h)
      simp only [markRows, List.getD_cons_succ, this, List.take_succ_cons, total]
      congr 1; omega
theorem markRows_lens (k : Int) (xss : List (List Int)) : total (markRows k xss) = total xss := by
  induction xss generalizing k with
  | nil => rfl
  | cons r rs ih => simp [markRows, total, ih, marks_length]
/-- the first j rows marked -/
def markedRows (k : Int) (xss : List (List Int)) (j : Nat) : List (List Int) := (markRows k xss).take j ++ xss.drop j
theorem markedRows_length (k : Int) (xss : List (List Int)) (j : Nat) (h : j ≤ xss.length) : (markedRows k xss j).length = xss.length := by simp [markedRows, markRows_length]; omega
theorem markedRows_zero (k : Int) (xss : List (List Int)) : markedRows k xss 0 = xss := by simp [markedRows]
theorem markedRows_all (k : Int) (xss : List (List Int)) : markedRows k xss xss.length = markRows k xss := by
  unfold markedRows
  rw [List.drop_length, List.append_nil, ← markRows_length k xss, List.take_length]
theorem markedRows_lo (k : Int) (xss : List (List Int)) (j i : Nat) (h : i < j) (hj : j ≤ xss.length) : (markedRows k xss j).getD i [] = (markRows k xss).getD i [] := by
  unfold markedRows
  simp only [List.getD]
  rw [List.getElem?_append_left (by simp [markRows_length]; omega), List.getElem?_take_of_lt h]
theorem markedRows_hi (k : Int) (xss : List (List Int)) (j i : Nat) (h : j ≤ i) (hj : j ≤ xss.length) : (markedRows k xss j).getD i [] = xss.getD i [] := by
  unfold markedRows
  have hl : ((markRows k xss).take j).length = j := by simp [markRows_length]; omega
  simp only [List.getD]
  rw [List.getElem?_append_right (by omega), hl, List.getElem?_drop]
  congr 2; omega

/-- one row of rows is written anew by a callee that touches its block alone -/
theorem OwnRows.row {e2 e1 : TypeId} {w w' : World} {lo hi : Nat} {v : Value} {rvs : List Value} {xss yss : List (List Int)} {j g g' : Nat}
    (ho : Own w lo hi e2 v rvs) (hl : rvs.length = xss.length) (hr : ∀ i, i < xss.length → Own w lo hi e1 (rvs.getD i undef) (ints (xss.getD i [])))
    (hd : ∀ i, i < xss.length → ∀ k, (rvs.getD i undef).ownBlock = some k → v.ownBlock ≠ some k)
    (he : ∀ i j, i < xss.length → j < xss.length → i ≠ j → ∀ k, (rvs.getD i undef).ownBlock = some k → (rvs.getD j undef).ownBlock ≠ some k)
    (hj : j < xss.length) (hb : ∀ k, g ≤ k → k < g' → (rvs.getD j undef).ownBlock = some k) (ht : Touched g g' w w')
    (hn : Own w' lo hi e1 (rvs.getD j undef) (ints (yss.getD j []))) (hly : yss.length = xss.length) (ho' : ∀ i, i < xss.length → i ≠ j → yss.getD i [] = xss.getD i []) :
    Own w' lo hi e2 v rvs ∧ rvs.length = yss.length ∧ (∀ i, i < yss.length → Own w' lo hi e1 (rvs.getD i undef) (ints (yss.getD i []))) := by
  refine ⟨ho.sameBlk fun k hk hv => ht.block k hk ?_, by omega, fun i hi => ?_⟩
  · by_cases h1 : g ≤ k
    · by_cases h2 : k < g'
      · exact absurd hv (hd j hj k (hb k h1 h2))
      · omega
    · omega
  · by_cases e : i = j
    · subst e; exact hn
    · rw [ho' i (by omega) e]
      refine (hr i (by omega)).sameBlk fun k hk hv => ht.block k hk ?_
      by_cases h1 : g ≤ k
      · by_cases h2 : k < g'
        · exact absurd hv (he j i hj (by omega) (Ne.symm e) k (hb k h1 h2))
        · omega
      · omega

/-- the rows of the loop: which slices they are stays, j of them are marked -/
def MarkTo (w : World) (lo hi : Nat) (v : Value) (rvs : List Value) (yss : List (List Int)) : Prop :=
  Own w lo hi 42 v rvs ∧ rvs.length = yss.length ∧ ∀ i, i < yss.length → Own w lo hi 2 (rvs.getD i undef) (ints (yss.getD i []))

theorem total_take_lt (xss : List (List Int)) (j : Nat) (h : j < xss.length) : total (xss.take j) + (xss.getD j []).length ≤ total xss := by
  have h1 := total_take_succ xss j h
  have h2 := total_take_le xss (j + 1)
  omega

/-! ### found again -/
end Go.Proofs.Ytiddhnnofpbopaa

/- How what a law holds fares when a chain is marked: words for the laws' walks. Conditions: none: plain lemmas. -/
namespace Go.Proofs.Ytiddhnnofpbopaa
open Go.RowKit Go.Deep

theorem Touched.below' {a b : Nat} {w w' : World} (h : Touched a b w w') : ∀ B, B ≤ a → B ≤ w.heap.size → Below B w w' := fun B h1 h2 => ⟨h.os, h.tape, h.output, h.size, fun k hk => h.block k (by omega) (Or.inl (by omega))⟩
theorem Blk.touch {w w' : World} {b lo hi : Nat} {c : Array Value} {t : TypeId} (h : Blk w b c t) (ht : Touched lo hi w w') (hd : b < lo ∨ hi ≤ b) : Blk w' b c t := (ht.block b h.lt hd).trans h
theorem ChMine.touch {e2 e1 : TypeId} {w w' : World} {lo hi a b : Nat} {cv : Value} {c : Ch} (h : ChMine e2 e1 w lo hi cv c) (ht : Touched a b w w') (hd : hi ≤ a ∨ b ≤ lo) : ChMine e2 e1 w' lo hi cv c :=
  ⟨h.own.same fun k h1 h2 => ht.block k (by have := h.le; omega) (by omega), Nat.le_trans h.le ht.size⟩
/-- a chain in memory below block B: it reads so as long as nothing below B turns -/
structure ChUnder (w : World) (B : Nat) (cv : Value) (c : Ch) : Prop where
  all : ∀ w', Below B w w' → ChR w' cv c
  le : B ≤ w.heap.size
theorem ChUnder.of {w : World} {cv : Value} {c : Ch} (h : ChR w cv c) : ChUnder w w.heap.size cv c := ⟨fun _ hb => h.keep hb, Nat.le_refl _⟩
theorem ChUnder.now {w : World} {B : Nat} {cv : Value} {c : Ch} (h : ChUnder w B cv c) : ChR w cv c := h.all w (Below.refl _ _)
theorem ChUnder.step {w w' : World} {B : Nat} {cv : Value} {c : Ch} (h : ChUnder w B cv c) (hb : Below w.heap.size w w') : ChUnder w' B cv c :=
  ⟨fun w2 h2 => h.all w2 ((hb.mono h.le).trans h2), Nat.le_trans h.le hb.size⟩
theorem ChUnder.touch {w w' : World} {B a b : Nat} {cv : Value} {c : Ch} (h : ChUnder w B cv c) (ht : Touched a b w w') (hd : B ≤ a) : ChUnder w' B cv c :=
  ⟨fun w2 h2 => h.all w2 ((ht.below' B hd h.le).trans h2), Nat.le_trans h.le ht.size⟩
/-- all since the beginning: nothing below block B has turned -/
structure Since (B : Nat) (w0 w : World) : Prop where
  bel : Below B w0 w
  le : B ≤ w.heap.size
theorem Since.step {B : Nat} {w0 w w' : World} (h : Since B w0 w) (hb : Below w.heap.size w w') : Since B w0 w' := ⟨h.bel.trans (hb.mono h.le), Nat.le_trans h.le hb.size⟩
theorem Since.touch {B a b : Nat} {w0 w w' : World} (h : Since B w0 w) (ht : Touched a b w w') (hd : B ≤ a) : Since B w0 w' := ⟨h.bel.trans (ht.below' B hd h.le), Nat.le_trans h.le ht.size⟩
end Go.Proofs.Ytiddhnnofpbopaa

/- The laws' comparisons of numbers, rows and chains: they answer whether both read alike. Conditions: none. -/
namespace Go.Proofs.Ytiddhnnofpbopaa
open Go.RowKit Go.Deep

theorem take_eq_succ {α : Type} {xs ys : List α} {k : Nat} {d : α} (hx : k < xs.length) (hy : k < ys.length) (h : xs.take k = ys.take k) (e : xs.getD k d = ys.getD k d) : xs.take (k + 1) = ys.take (k + 1) := by
  rw [List.take_succ_eq_append_getElem hx, List.take_succ_eq_append_getElem hy, h]
  simp [List.getD, hx, hy] at e
  rw [e]
theorem ne_of_getD {α : Type} {xs ys : List α} {k : Nat} {d : α} (e : xs.getD k d ≠ ys.getD k d) : xs ≠ ys := fun h => e (by rw [h])

set_option maxHeartbeats 2000000 in
theorem eqInt64S_any (a b : Value) (xs ys : List Int) (w : World) (ha : Ints w a xs) (hb : Ints w b ys) :
    Calls Try.prog 63 #[a, b] w fun e w' => e = .returned (.bool (decide (xs = ys))) ∧ ∃ n, w' = w.drewN n := by
  obtain ⟨hm1, a1, cap1, rfl⟩ := ha.len
  obtain ⟨hm2, a2, cap2, rfl⟩ := hb.len
  unfold maxLen at hm1 hm2
  by_cases hl : xs.length = ys.length
  · have hl' := Lib.hid hl
    rw [← hl]
    rw [← hl] at hb
    clear hl
    go_enter Try.func63, Try.ntmps63
    go_wp2
    go_loopw [5] (fun i wr => ∃ k m : Nat, k ≤ xs.length ∧ i = .int .i64 k ∧ wr = w.drewN m ∧ Hid (xs.take k = ys.take k)) (fun i _ => xs.length - (intOf i).toNat)
    case atStart => exact ⟨0, 0, Nat.zero_le _, rfl, rfl, show _ = _ by simp⟩
    case round =>
      obtain ⟨k, m, hk, rfl, rfl, ht⟩ := hrel
      by_cases hlt : k < xs.length
      · have hlt2 : k < ys.length := by rw [← hl'.out]; exact hlt
        obtain ⟨b1, o1, c1, hv1, _, hc1⟩ := ha.at (by omega)
        obtain ⟨b2, o2, c2, hv2, _, hc2⟩ := hb.at (by omega)
        simp only [Value.slice.injEq] at hv1 hv2
        obtain ⟨rfl, _, rfl⟩ := hv1
        obtain ⟨rfl, _, rfl⟩ := hv2
        have h1 := hc1 k hlt
        have h2 := hc2 k hlt2
        clear hc1 hc2
        by_cases hq : xs.getD k 0 = ys.getD k 0
        · have hn := Lib.hid (take_eq_succ hlt hlt2 ht.out hq)
          rw [← hq] at h2
          clear hq
          generalize xs.getD k 0 = x at h1 h2
          go_wp2
          go_quiet (fail)
          go_wp2
          go_roundw
          case rel => exact ⟨k + 1, _, by omega, by go_num, rfl, hn⟩
          case measure => simp [intOf]; omega
        · have hd := Lib.hid (decide_eq_false (ne_of_getD hq))
          generalize xs.getD k 0 = x at h1 hq
          generalize ys.getD k 0 = y at h2 hq
          have hq1 : (x != y) = true := by simpa using hq
          clear hq
          go_wp2
          go_quiet (fail)
          go_wp2
          go_ret
          exact ⟨ret_bool hd.out.symm, _, World.drewN_drewN ..⟩
      · obtain rfl : k = xs.length := by omega
        have he : xs = ys := by
          have := ht.out
          rw [List.take_length, hl'.out, List.take_length] at this
          exact this
        have hd := Lib.hid (decide_eq_true he)
        clear he
        go_wp2
        go_ret
        exact ⟨ret_bool hd.out.symm, _, rfl⟩
  · have hne : xs ≠ ys := fun h => hl (by rw [h])
    have hd := Lib.hid (decide_eq_false hne)
    clear hne
    go_enter Try.func63, Try.ntmps63
    go_wp2
    go_ret
    exact ⟨ret_bool hd.out.symm, 0, rfl⟩

set_option maxHeartbeats 4000000 in
theorem eqInt64SS_any (a b : Value) (xs ys : List (List Int)) (w : World) (ha : Rows2 w a xs) (hb : Rows2 w b ys) :
    Calls Try.prog 39 #[a, b] w fun e w' => e = .returned (.bool (decide (xs = ys))) ∧ ∃ n, w' = w.drewN n := by
  obtain ⟨hm1, a1, cap1, rfl⟩ := ha.len
  obtain ⟨hm2, a2, cap2, rfl⟩ := hb.len
  unfold maxLen at hm1 hm2
  by_cases hl : xs.length = ys.length
  · have hl' := Lib.hid hl
    rw [← hl]
    rw [← hl] at hb
    clear hl
    go_enter Try.func39, Try.ntmps39
    go_wp2
    go_loopw [5] (fun i wr => ∃ k : Nat, k ≤ xs.length ∧ i = .int .i64 k ∧ Hid (∃ m, wr = w.drewN m) ∧ Hid (xs.take k = ys.take k)) (fun i _ => xs.length - (intOf i).toNat)
    case atStart => exact ⟨0, Nat.zero_le _, rfl, ⟨0, rfl⟩, show _ = _ by simp⟩
    case round =>
      obtain ⟨k, hk, rfl, hw, ht⟩ := hrel
      by_cases hlt : k < xs.length
      · have hlt2 : k < ys.length := by rw [← hl'.out]; exact hlt
        obtain ⟨b1, o1, c1, rv1, hv1, _, hc1⟩ := ha.at (by omega)
        obtain ⟨b2, o2, c2, rv2, hv2, _, hc2⟩ := hb.at (by omega)
        simp only [Value.slice.injEq] at hv1 hv2
        obtain ⟨rfl, _, rfl⟩ := hv1
        obtain ⟨rfl, _, rfl⟩ := hv2
        obtain ⟨h1, r1⟩ := hc1 k hlt
        obtain ⟨h2, r2⟩ := hc2 k hlt2
        clear hc1 hc2
        generalize rv1 k = x1 at h1 r1
        generalize rv2 k = x2 at h2 r2
        replace h1 : wr.cell? ⟨b1, o1 + k, none⟩ = some x1 := by obtain ⟨m, rfl⟩ := hw.out; exact h1
        replace h2 : wr.cell? ⟨b2, o2 + k, none⟩ = some x2 := by obtain ⟨m, rfl⟩ := hw.out; exact h2
        replace r1 : Ints wr x1 (xs.getD k []) := by obtain ⟨m, rfl⟩ := hw.out; exact r1.keep (below_drewN (Below.refl _ _) m)
        replace r2 : Ints wr x2 (ys.getD k []) := by obtain ⟨m, rfl⟩ := hw.out; exact r2.keep (below_drewN (Below.refl _ _) m)
        by_cases hq : xs.getD k [] = ys.getD k []
        · have hn := Lib.hid (take_eq_succ hlt hlt2 ht.out hq)
          rw [← hq] at r2
          clear hq
          generalize xs.getD k [] = row at r1 r2
          have hcall : ∀ n, Calls Try.prog 63 #[x1, x2] (wr.drewN n) fun e w' => e = .returned (.bool true) ∧ ∃ m, w' = (wr.drewN n).drewN m := fun n => by
            have := eqInt64S_any x1 x2 row row (wr.drewN n) (r1.keep (below_drewN (Below.refl _ _) n)) (r2.keep (below_drewN (Below.refl _ _) n))
            simpa using this
          go_wp2
          go_quiet ((go_at_call 63; exact Calls.quiet_of (hcall _)))
          go_wp2
          go_roundw
          case rel => exact ⟨k + 1, by omega, by go_num, by obtain ⟨m, rfl⟩ := hw.out; exact ⟨_, World.drewN_drewN ..⟩, hn⟩
          case measure => simp [intOf]; omega
        · have hd := Lib.hid (decide_eq_false (ne_of_getD hq))
          generalize xs.getD k [] = row1 at r1 hq
          generalize ys.getD k [] = row2 at r2 hq
          have hcall : ∀ n, Calls Try.prog 63 #[x1, x2] (wr.drewN n) fun e w' => e = .returned (.bool false) ∧ ∃ m, w' = (wr.drewN n).drewN m := fun n => by
            have := eqInt64S_any x1 x2 row1 row2 (wr.drewN n) (r1.keep (below_drewN (Below.refl _ _) n)) (r2.keep (below_drewN (Below.refl _ _) n))
            rw [decide_eq_false hq] at this
            exact this
          clear hq
          go_wp2
          go_quiet ((go_at_call 63; exact Calls.quiet_of (hcall _)))
          go_wp2
          go_ret
          exact ⟨ret_bool hd.out.symm, by obtain ⟨m, rfl⟩ := hw.out; exact ⟨_, World.drewN_drewN ..⟩⟩
      · obtain rfl : k = xs.length := by omega
        have he : xs = ys := by
          have := ht.out
          rw [List.take_length, hl'.out, List.take_length] at this
          exact this
        have hd := Lib.hid (decide_eq_true he)
        clear he
        go_wp2
        go_ret
        exact ⟨ret_bool hd.out.symm, hw.out⟩
  · have hne : xs ≠ ys := fun h => hl (by rw [h])
    have hd := Lib.hid (decide_eq_false hne)
    clear hne
    go_enter Try.func39, Try.ntmps39
    go_wp2
    go_ret
    exact ⟨ret_bool hd.out.symm, 0, rfl⟩

def chEq (c d : Ch) : Bool := decide (c.n = d.n) && (decide (c.t = d.t) && decide (c.w = d.w))
theorem chEq_self (c : Ch) : chEq c c = true := by simp [chEq]
theorem eq_of_chEq {c d : Ch} (h : chEq c d = true) : c = d := by
  cases c; cases d; simp [chEq] at h; simp [h]

set_option maxHeartbeats 4000000 in
theorem eqChain_any (a b : Value) (c d : Ch) (w : World) (ha : ChR w a c) (hb : ChR w b d) :
    Calls Try.prog 16 #[a, b] w fun e w' => e = .returned (.bool (chEq c d)) ∧ Below w.heap.size w w' := by
  obtain ⟨v1, rfl, h1⟩ := ha
  obtain ⟨v2, rfl, h2⟩ := hb
  obtain ⟨n1, t1, r1⟩ := c
  obtain ⟨n2, t2, r2⟩ := d
  simp only at h1 h2 ⊢
  have h1' := h1.keep (below2 w (.cells #[.int .i64 n1, .int .i64 t1, v1] 36) (.cells #[.int .i64 n2, .int .i64 t2, v2] 36))
  have h2' := h2.keep (below2 w (.cells #[.int .i64 n1, .int .i64 t1, v1] 36) (.cells #[.int .i64 n2, .int .i64 t2, v2] 36))
  by_cases e1 : n1 = n2
  · subst e1
    by_cases e2 : t1 = t2
    · subst e2
      have hr := Lib.hid (show chEq ⟨n1, t1, r1⟩ ⟨n1, t1, r2⟩ = decide (r1 = r2) by simp [chEq])
      have hcall := eqInt64SS_any v1 v2 r1 r2 _ h1' h2'
      by_cases e3 : r1 = r2
      · have hr2 := Lib.hid (hr.out.trans (decide_eq_true e3))
        rw [decide_eq_true e3] at hcall
        clear e3
        go_enter Try.func16, Try.ntmps16
        go_wp2_with fail
        refine hcall.mono ?_
        rintro e w' ⟨rfl, nq, rfl⟩
        go_wp2
        go_ret
        exact ⟨ret_bool hr2.out.symm, below_drewN (below2 _ _ _) _⟩
      · have hr2 := Lib.hid (hr.out.trans (decide_eq_false e3))
        rw [decide_eq_false e3] at hcall
        clear e3
        go_enter Try.func16, Try.ntmps16
        go_wp2_with fail
        refine hcall.mono ?_
        rintro e w' ⟨rfl, nq, rfl⟩
        go_wp2
        go_ret
        exact ⟨ret_bool hr2.out.symm, below_drewN (below2 _ _ _) _⟩
    · have hr := Lib.hid (show chEq ⟨n1, t1, r1⟩ ⟨n1, t2, r2⟩ = false by simp [chEq, e2])
      have hne : (t1 != t2) = true := by simpa using e2
      clear e2
      go_enter Try.func16, Try.ntmps16
      go_wp2
      go_ret
      exact ⟨ret_bool hr.out.symm, below2 _ _ _⟩
  · have hr := Lib.hid (show chEq ⟨n1, t1, r1⟩ ⟨n2, t2, r2⟩ = false by simp [chEq, e1])
    have hne : (n1 != n2) = true := by simpa using e1
    clear e1
    go_enter Try.func16, Try.ntmps16
    go_wp2
    go_ret
    exact ⟨ret_bool hr.out.symm, below2 _ _ _⟩
end Go.Proofs.Ytiddhnnofpbopaa

/- The laws' size checks over numbers, rows and chains: what they return. Conditions: what is left lies between 0 and 2^20. -/
namespace Go.Proofs.Ytiddhnnofpbopaa
open Go.RowKit Go.Deep

/-- what is left when so many are taken: -1 where they are more -/
def szLeft (left : Int) (n : Nat) : Int := if left < n then -1 else left - n
theorem szLeft_no {left : Int} {n : Nat} (h : left < n) : szLeft left n = -1 := by simp [szLeft, h]
theorem szLeft_yes {left : Int} {n : Nat} (h : (n : Int) ≤ left) : szLeft left n = left - n := by simp [szLeft]; omega

set_option maxHeartbeats 1000000 in
theorem szInt64S_any (v : Value) (xs : List Int) (left : Int) (w : World) (hv : Ints w v xs) (h0 : 0 ≤ left) (h1 : left ≤ 1048576) :
    Calls Try.prog 46 #[v, .int .i64 left] w fun e w' => e = .returned (.int .i64 (szLeft left xs.length)) ∧ w = w' := by
  obtain ⟨hm, a, cap, rfl⟩ := hv.len
  unfold maxLen at hm
  by_cases h : left < xs.length
  · have hs := Lib.hid (szLeft_no h)
    have h' : left - (xs.length : Int) < 0 := by omega
    go_enter Try.func46, Try.ntmps46
    go_wp2
    go_ret
    exact ⟨ret_int hs.out.symm, rfl⟩
  · have hs := Lib.hid (szLeft_yes (show (xs.length : Int) ≤ left by omega))
    have h' : 0 ≤ left - (xs.length : Int) := by omega
    go_enter Try.func46, Try.ntmps46
    go_wp2
    go_ret
    exact ⟨ret_int hs.out.symm, rfl⟩

set_option maxHeartbeats 2000000 in
theorem szInt64SS_any (v : Value) (xss : List (List Int)) (left : Int) (w : World) (hv : Rows2 w v xss) (h0 : 0 ≤ left) (h1 : left ≤ 1048576) :
    Calls Try.prog 24 #[v, .int .i64 left] w fun e w' => e = .returned (.int .i64 (szLeft left (xss.length + total xss))) ∧ w = w' := by
  obtain ⟨hm, a, cap, rfl⟩ := hv.len
  unfold maxLen at hm
  by_cases h : left < xss.length
  · have hs := Lib.hid (szLeft_no (show left < ((xss.length + total xss : Nat) : Int) by omega))
    have h' : left - (xss.length : Int) < 0 := by omega
    go_enter Try.func24, Try.ntmps24
    go_wp2
    go_ret
    exact ⟨ret_int hs.out.symm, rfl⟩
  · have h' : 0 ≤ left - (xss.length : Int) := by omega
    go_enter Try.func24, Try.ntmps24
    go_wp2
    go_loop [1, 5] (fun l i => ∃ (k : Nat) (L : Int), k ≤ xss.length ∧ Hid (L = left - (xss.length + total (xss.take k) : Nat)) ∧ 0 ≤ L ∧ L ≤ 1048576 ∧ i = .int .i64 k ∧ l = .int .i64 L) (fun _ i => xss.length - (intOf i).toNat)
    case atStart => exact ⟨0, _, Nat.zero_le _, show _ = _ by simp [total], h', by omega, rfl, rfl⟩
    case round =>
      obtain ⟨k, L, hk, hL, hL0, hL1, rfl, rfl⟩ := hrel
      by_cases hlt : k < xss.length
      · obtain ⟨b, off, cap', rv, hvv, hb, hc⟩ := hv.at (by omega)
        cases hvv
        obtain ⟨hcell, hrow⟩ := hc k hlt
        clear hc
        have hts := Lib.hid (total_take_succ xss k hlt)
        have htl := total_take_le xss (k + 1)
        generalize xss.getD k [] = row at hrow hts
        generalize rv k = rk at hrow hcell
        by_cases hq : L < row.length
        · have hs := Lib.hid (szLeft_no hq)
          have hneg : szLeft L row.length < 0 := by rw [hs.out]; decide
          have hfin := Lib.hid (szLeft_no (left := left) (n := xss.length + total xss) (by have := hts.out; have := hL.out; omega))
          go_wp2_with (go_at_call 46; refine (szInt64S_any _ row _ _ hrow (by omega) (by omega)).mono ?_; rintro e w' ⟨rfl, rfl⟩)
          go_ret
          exact ⟨ret_int hfin.out.symm, rfl⟩
        · have hs := Lib.hid (szLeft_yes (show ((row.length : Nat) : Int) ≤ L by omega))
          have hneg : 0 ≤ szLeft L row.length := by rw [hs.out]; omega
          go_wp2_with (go_at_call 46; refine (szInt64S_any _ row _ _ hrow (by omega) (by omega)).mono ?_; rintro e w' ⟨rfl, rfl⟩)
          go_round
          case rel => exact ⟨k + 1, _, by omega, show _ = _ by rw [hs.out]; have := hts.out; have := hL.out; omega, hneg, by rw [hs.out]; omega, by go_num, rfl⟩
          case measure => simp [intOf]; omega
      · obtain rfl : k = xss.length := by omega
        have hfin := Lib.hid (szLeft_yes (left := left) (n := xss.length + total xss) (by have := hL.out; rw [total_take_all] at this; omega))
        go_wp2
        go_ret
        exact ⟨ret_int (by rw [hfin.out, hL.out, total_take_all]), rfl⟩

set_option maxHeartbeats 1000000 in
theorem szChain_any (cv : Value) (c : Ch) (left : Int) (w : World) (hv : ChR w cv c) (h0 : 0 ≤ left) (h1 : left ≤ 1048576) :
    Calls Try.prog 10 #[cv, .int .i64 left] w fun e w' => e = .returned (.int .i64 (szLeft left (c.w.length + total c.w))) ∧ Below w.heap.size w w' := by
  obtain ⟨v, rfl, hr⟩ := hv
  have hr' : Rows2 (w.alloc (.cells #[.int .i64 c.n, .int .i64 c.t, v] 30)) v c.w := hr.keep ((Below.refl _ _).alloc (Nat.le_refl _) _)
  obtain ⟨hm, a, cap, rfl⟩ := hr.len
  by_cases h : left < (c.w.length + total c.w : Nat)
  · have hs := Lib.hid (szLeft_no h)
    have hneg : szLeft left (c.w.length + total c.w) < 0 := by rw [hs.out]; decide
    go_enter Try.func10, Try.ntmps10
    go_wp2_with (go_at_call 24; refine (szInt64SS_any _ c.w _ _ hr' h0 h1).mono ?_; rintro e w' ⟨rfl, rfl⟩)
    go_ret
    exact ⟨ret_int hs.out.symm, (Below.refl _ _).alloc (Nat.le_refl _) _⟩
  · have hs := Lib.hid (szLeft_yes (show ((c.w.length + total c.w : Nat) : Int) ≤ left by omega))
    have hneg : 0 ≤ szLeft left (c.w.length + total c.w) := by rw [hs.out]; omega
    go_enter Try.func10, Try.ntmps10
    go_wp2_with (go_at_call 24; refine (szInt64SS_any _ c.w _ _ hr' h0 h1).mono ?_; rintro e w' ⟨rfl, rfl⟩)
    go_ret
    exact ⟨rfl, (Below.refl _ _).alloc (Nat.le_refl _) _⟩
end Go.Proofs.Ytiddhnnofpbopaa

/- Words for the laws' walks: lists of numbers and rows, in old memory or made by a call, told like chains; the conversions, comparisons and marks of all kinds in one form. Conditions: told in each. -/
namespace Go.Proofs.Ytiddhnnofpbopaa
open Go.ChangeShapes Go.WideShapes Go.ChangeAt Go.RowKit Go.Deep Go.Joins
set_option linter.unusedVariables false

theorem Blk.store3 {w : World} {b B : Nat} {c : Array Value} {t : TypeId} (h : Blk w b c t) (ne : b ≠ B) (x y z : Value) : Blk (((w.setCell ⟨B, 0, none⟩ x).setCell ⟨B, 1, none⟩ y).setCell ⟨B, 2, none⟩ z) b c t :=
  ((h.setOther (a := ⟨B, 0, none⟩) ne x).setOther (a := ⟨B, 1, none⟩) ne y).setOther (a := ⟨B, 2, none⟩) ne z
theorem Blk.alloc_drew {w : World} {b : Nat} {c : Array Value} {t : TypeId} (h : Blk w.drew b c t) (o : Obj) : Blk (w.alloc o).drew b c t := Blk.alloc (w := w) h o
theorem three2 {w : World} {b b' : Nat} {x y z x' y' z' : Value} {t t' : TypeId} (h : Blk w b #[x, y, z] t) (k : Blk w b' #[x', y', z'] t') :
    w.cell? ⟨b, 0, none⟩ = some x ∧ w.cell? ⟨b, 1, none⟩ = some y ∧ w.cell? ⟨b, 2, none⟩ = some z ∧ w.cell? ⟨b', 0, none⟩ = some x' ∧ w.cell? ⟨b', 1, none⟩ = some y' ∧ w.cell? ⟨b', 2, none⟩ = some z' :=
  ⟨h.cell 0, h.cell 1, h.cell 2, k.cell 0, k.cell 1, k.cell 2⟩
/-- a block of three cells that has been filled anew -/
theorem Blk.filled {w : World} {b : Nat} {x y z : Value} {t : TypeId} (h : Blk w b #[x, y, z] t) (x' y' z' : Value) : Blk (((w.setCell ⟨b, 0, none⟩ x').setCell ⟨b, 1, none⟩ y').setCell ⟨b, 2, none⟩ z') b #[x', y', z'] t := by
  have := ((h.set 0 x').set 1 y').set 2 z'
  simpa using this
theorem Below.filled {B b : Nat} {w w' : World} (h : Below B w w') (hb : B ≤ b) (x y z : Value) : Below B w (((w'.setCell ⟨b, 0, none⟩ x).setCell ⟨b, 1, none⟩ y).setCell ⟨b, 2, none⟩ z) :=
  ((h.setCell (p := ⟨b, 0, none⟩) hb x).setCell (p := ⟨b, 1, none⟩) hb y).setCell (p := ⟨b, 2, none⟩) hb z
theorem ChMine.filled {e2 e1 : TypeId} {w : World} {lo hi b : Nat} {cv : Value} {c : Ch} (h : ChMine e2 e1 w lo hi cv c) (hb : b < lo ∨ hi ≤ b) (x y z : Value) : ChMine e2 e1 (((w.setCell ⟨b, 0, none⟩ x).setCell ⟨b, 1, none⟩ y).setCell ⟨b, 2, none⟩ z) lo hi cv c :=
  ⟨h.own.same ((((SameOn.refl _ _ _).set (a := ⟨b, 0, none⟩) hb x).set (a := ⟨b, 1, none⟩) hb y).set (a := ⟨b, 2, none⟩) hb z), by have := h.le; simpa [World.setCell] using this⟩

structure IntsUnder (w : World) (B : Nat) (v : Value) (xs : List Int) : Prop where
  all : ∀ w', Below B w w' → Ints w' v xs
  le : B ≤ w.heap.size
theorem IntsUnder.of {w : World} {v : Value} {xs : List Int} (h : Ints w v xs) : IntsUnder w w.heap.size v xs := ⟨fun _ hb => h.keep hb, Nat.le_refl _⟩
theorem IntsUnder.now {w : World} {B : Nat} {v : Value} {xs : List Int} (h : IntsUnder w B v xs) : Ints w v xs := h.all w (Below.refl _ _)
theorem IntsUnder.step {w w' : World} {B : Nat} {v : Value} {xs : List Int} (h : IntsUnder w B v xs) (hb : Below w.heap.size w w') : IntsUnder w' B v xs :=
  ⟨fun w2 h2 => h.all w2 ((hb.mono h.le).trans h2), Nat.le_trans h.le hb.size⟩
theorem IntsUnder.touch {w w' : World} {B a b : Nat} {v : Value} {xs : List Int} (h : IntsUnder w B v xs) (ht : Touched a b w w') (hd : B ≤ a) : IntsUnder w' B v xs :=
  ⟨fun w2 h2 => h.all w2 ((ht.below' B hd h.le).trans h2), Nat.le_trans h.le ht.size⟩

structure IntsMine (e1 : TypeId) (w : World) (lo hi : Nat) (v : Value) (xs : List Int) : Prop where
  own : Own w lo hi e1 v (ints xs)
  le : hi ≤ w.heap.size
theorem IntsMine.step {e1 : TypeId} {w w' : World} {lo hi : Nat} {v : Value} {xs : List Int} (h : IntsMine e1 w lo hi v xs) (hb : Below w.heap.size w w') : IntsMine e1 w' lo hi v xs := ⟨h.own.keep h.le hb, Nat.le_trans h.le hb.size⟩
theorem IntsMine.touch {e1 : TypeId} {w w' : World} {lo hi a b : Nat} {v : Value} {xs : List Int} (h : IntsMine e1 w lo hi v xs) (ht : Touched a b w w') (hd : hi ≤ a ∨ b ≤ lo) : IntsMine e1 w' lo hi v xs :=
  ⟨h.own.same fun k h1 h2 => ht.block k (by have := h.le; omega) (by omega), Nat.le_trans h.le ht.size⟩
theorem IntsMine.ch {e1 : TypeId} {w : World} {lo hi : Nat} {v : Value} {xs : List Int} (h : IntsMine e1 w lo hi v xs) : Ints w v xs := h.own.row
theorem IntsMine.shape {e1 : TypeId} {w : World} {lo hi : Nat} {v : Value} {xs : List Int} (h : IntsMine e1 w lo hi v xs) : ∃ a cap, v = .slice a xs.length cap := by
  obtain ⟨_, a, cap, h⟩ := h.ch.len; exact ⟨a, cap, h⟩
theorem Own.minei {e1 : TypeId} {w : World} {lo : Nat} {v : Value} {xs : List Int} (h : Own w lo w.heap.size e1 v (ints xs)) : IntsMine e1 w lo w.heap.size v xs := ⟨h, Nat.le_refl _⟩
theorem Ints.shape {w : World} {v : Value} {xs : List Int} (h : Ints w v xs) : ∃ a cap, v = .slice a xs.length cap := by
  obtain ⟨_, a, cap, h⟩ := h.len; exact ⟨a, cap, h⟩

structure RowsMine (e2 e1 : TypeId) (w : World) (lo hi : Nat) (v : Value) (xss : List (List Int)) : Prop where
  own : OwnRows e2 e1 w lo hi v xss
  le : hi ≤ w.heap.size
theorem RowsMine.step {e2 e1 : TypeId} {w w' : World} {lo hi : Nat} {v : Value} {xs : List (List Int)} (h : RowsMine e2 e1 w lo hi v xs) (hb : Below w.heap.size w w') : RowsMine e2 e1 w' lo hi v xs := ⟨h.own.keep h.le hb, Nat.le_trans h.le hb.size⟩
theorem RowsMine.touch {e2 e1 : TypeId} {w w' : World} {lo hi a b : Nat} {v : Value} {xs : List (List Int)} (h : RowsMine e2 e1 w lo hi v xs) (ht : Touched a b w w') (hd : hi ≤ a ∨ b ≤ lo) : RowsMine e2 e1 w' lo hi v xs :=
  ⟨h.own.same fun k h1 h2 => ht.block k (by have := h.le; omega) (by omega), Nat.le_trans h.le ht.size⟩
theorem RowsMine.ch {e2 e1 : TypeId} {w : World} {lo hi : Nat} {v : Value} {xs : List (List Int)} (h : RowsMine e2 e1 w lo hi v xs) : Rows2 w v xs := h.own.rows
theorem RowsMine.shape {e2 e1 : TypeId} {w : World} {lo hi : Nat} {v : Value} {xs : List (List Int)} (h : RowsMine e2 e1 w lo hi v xs) : ∃ a cap, v = .slice a xs.length cap := by
  obtain ⟨_, a, cap, h⟩ := h.ch.len; exact ⟨a, cap, h⟩

/-! ### one form for all kinds -/
theorem to_ch (cv : Value) (c : Ch) (w : World) (hv : ChR w cv c) (h1 : c.w.length + total c.w ≤ 2097152) :
    Calls Try.prog 13 #[cv] w fun e w' => ∃ v', e = .returned v' ∧ ChMine 42 2 w' w.heap.size w'.heap.size v' c ∧ Below w.heap.size w w' :=
  (toChain_any cv c w hv h1).mono fun _ _ ⟨v, h1, h2, h3⟩ => ⟨v, h1, h2.mine, h3⟩
theorem to_ints (v : Value) (xs : List Int) (w : World) (hv : Ints w v xs) (h1 : xs.length ≤ 2097152) :
    Calls Try.prog 54 #[v] w fun e w' => ∃ v', e = .returned v' ∧ IntsMine 2 w' w.heap.size w'.heap.size v' xs ∧ Below w.heap.size w w' :=
  (toInt64S_any v xs w hv h1).mono fun _ _ ⟨h1, h2, h3, h4⟩ => ⟨_, h1, ⟨by rw [h4]; exact h2, Nat.le_refl _⟩, h3⟩
theorem eq_ch (a b : Value) (c : Ch) (w : World) (ha : ChR w a c) (hb : ChR w b c) :
    Calls Try.prog 16 #[a, b] w fun e w' => e = .returned (.bool true) ∧ Below w.heap.size w w' :=
  (eqChain_any a b c c w ha hb).mono fun _ _ ⟨h1, h2⟩ => ⟨by rw [h1, chEq_self], h2⟩
theorem eq_ints (a b : Value) (xs : List Int) (w : World) (ha : Ints w a xs) (hb : Ints w b xs) :
    Calls Try.prog 63 #[a, b] w fun e w' => e = .returned (.bool true) ∧ Below w.heap.size w w' :=
  (eqInt64S_any a b xs xs w ha hb).mono fun _ _ ⟨h1, n, h2⟩ => ⟨by rw [h1]; simp, by rw [h2]; exact below_drewN (Below.refl _ _) n⟩
theorem eq_rows (a b : Value) (xs : List (List Int)) (w : World) (ha : Rows2 w a xs) (hb : Rows2 w b xs) :
    Calls Try.prog 39 #[a, b] w fun e w' => e = .returned (.bool true) ∧ Below w.heap.size w w' :=
  (eqInt64SS_any a b xs xs w ha hb).mono fun _ _ ⟨h1, n, h2⟩ => ⟨by rw [h1]; simp, by rw [h2]; exact below_drewN (Below.refl _ _) n⟩
set_option maxRecDepth 100000 in
theorem open_list {H : Type} {enc : TypeId × Value → H} {W : World} {base b0 : Nat} {held : Bool} {v : Value} {d : DataW H} {p : List MemPlace}
    (hv : Value.okWide Try.prog W .any base 42 v) (h : DataW.Trod enc Try.prog W b0 (fun _ => true) held 42 v d p) : ∃ xs, Ints W v xs := by
  obtain ⟨sa, sl, sc, rfl⟩ := okWide_slice Try.underlying42 hv
  obtain ⟨m, h⟩ := h
  rcases open_ints Try.underlying42 Try.underlying2 (by kernel_rfl) h with ⟨hcs, _⟩ | ⟨a, len, cap, zs, hcs, _, hl, hm, hz, _, hc, _⟩
  · simp [Value.cells] at hcs
    obtain ⟨rfl, rfl, rfl⟩ := hcs
    exact ⟨[], by simp [ints], none, 0, by simp [ints], ⟨by simp [ints], by unfold maxLen; omega⟩, fun i hi => by simp [ints] at hi⟩
  · simp [Value.cells] at hcs
    obtain ⟨rfl, rfl, rfl⟩ := hcs
    simp only [if_true] at hz
    have hr := row_of_cells (w := W) (a := a) (len := sl) (cap := sc) (V := fun i => .int .i64 (zs.getD i 0)) (by omega) (fun i hi => hc i (by omega)) hl hm
    refine ⟨(List.range sl).map fun i => zs.getD i 0, ?_⟩
    have e : ints ((List.range sl).map fun i => zs.getD i 0) = (List.range sl).map fun i => Value.int .i64 (zs.getD i 0) := by simp [ints]
    unfold Ints
    rw [e]
    exact hr
end Go.Proofs.Ytiddhnnofpbopaa
