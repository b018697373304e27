/- The laws' copies of numbers, rows and chains: what they return lies in new memory and reads as what came in. Conditions: at most 2^21 numbers in all. -/
import Derived.Test.YtgaadcinhaphpaaDoorMem
namespace Go.Proofs.YtgaadcinhaphpaaDoor
open Go.RowKit Go.Deep

theorem Tryd.infoI : (Tryd.prog.info? 2).map (fun i => (i.zero, i.size, i.bytes)) = some (some (.int .i64 0), 1, 8) := by kernel_rfl
theorem Tryd.infoR : (Tryd.prog.info? 55).map (fun i => (i.zero, i.size, i.bytes)) = some (some (.slice none 0 0), 1, 24) := by kernel_rfl

/-- the first k of xs in front, zeros behind -/
def filled (z : Value) (vs : List Value) (k : Nat) : List Value := vs.take k ++ List.replicate (vs.length - k) z
theorem filled_zero (z : Value) (vs : List Value) : filled z vs 0 = List.replicate vs.length z := by simp [filled]
theorem filled_all (z : Value) (vs : List Value) : filled z vs vs.length = vs := by simp [filled]
theorem filled_length (z : Value) (vs : List Value) (k : Nat) (h : k ≤ vs.length) : (filled z vs k).length = vs.length := by simp [filled]; omega
theorem filled_set (z : Value) (vs : List Value) (k : Nat) (h : k < vs.length) : (filled z vs k).set k (vs.getD k undef) = filled z vs (k + 1) := by
  unfold filled
  have hk : (vs.take k).length = k := by simp; omega
  rw [List.set_append_right _ _ (by omega), hk, Nat.sub_self]
  have e : vs.length - k = (vs.length - (k + 1)) + 1 := by omega
  have e2 : vs.take (k + 1) = vs.take k ++ [vs.getD k undef] := by
    rw [List.take_succ_eq_append_getElem h]; simp [List.getD, h]
  rw [e, List.replicate_succ, List.set_cons_zero, e2, List.append_assoc]
  rfl

set_option maxHeartbeats 2000000 in
theorem toInt64S_any (v : Value) (xs : List Int) (w : World) (hv : Ints w v xs) (h1 : xs.length ≤ 2097152) :
    Calls Tryd.prog 60 #[v] w fun e w' => e = .returned (.slice (some ⟨w.heap.size, 0, none⟩) xs.length xs.length) ∧ Own w' w.heap.size (w.heap.size + 1) 2 (.slice (some ⟨w.heap.size, 0, none⟩) xs.length xs.length) (ints xs) ∧ Below w.heap.size w w' ∧ w'.heap.size = w.heap.size + 1 := by
  obtain ⟨hm, a, cap, rfl⟩ := hv.len
  unfold maxLen at hm
  have hmk := run_make_row' (P := Tryd.prog) 55 2 (.int .i64 0) 8 Tryd.underlying55 Tryd.infoI rfl .i64 .i64 xs.length (by omega) (by omega)
  go_enter Tryd.func60, Tryd.ntmps60
  go_wp2
  go_loopw [4] (fun i wr => ∃ k : Nat, k ≤ xs.length ∧ i = .int .i64 k ∧ Own wr w.heap.size (w.heap.size + 1) 2 (.slice (some ⟨w.heap.size, 0, none⟩) xs.length xs.length) (filled (.int .i64 0) (ints xs) k) ∧ Below w.heap.size w wr ∧ wr.heap.size = w.heap.size + 1) (fun i _ => xs.length - (intOf i).toNat)
  case atStart =>
    refine ⟨0, Nat.zero_le _, rfl, ?_, (Below.refl _ _).alloc (Nat.le_refl _) _, by simp⟩
    rw [filled_zero]
    have := Own.made w (.int .i64 0) xs.length 2 (by unfold maxLen; omega)
    simpa [ints] using this
  case round =>
    obtain ⟨k, hk, rfl, hown, hbel, hsz⟩ := hrel
    have hown' := Lib.hid hown
    have hsz' := Lib.hid hsz
    clear hsz
    by_cases hlt : k < xs.length
    · obtain ⟨b, off, cap', hvv, hb, hc⟩ := hv.at (by omega)
      cases hvv
      have hcell : wr.cell? ⟨b, off + k, none⟩ = some (.int .i64 (xs.getD k 0)) := by rw [hbel.cell hb]; exact hc k hlt
      clear hc
      obtain ⟨g, cap'', hg, _, _, _, hcg, hfg⟩ := hown.at (by rw [filled_length _ _ _ (by simpa [ints] using hk)]; simp [ints]; omega)
      simp only [Value.slice.injEq, Option.some.injEq, Addr.mk.injEq, and_true] at hg
      obtain ⟨rfl, _, _⟩ := hg
      have hcg' := hcg k (by rw [filled_length _ _ _ (by simpa [ints] using hk)]; simpa [ints] using hlt)
      have hfg' := hfg k
      clear hcg hfg
      generalize hx : xs.getD k 0 = x at hcell
      have hx' := Lib.hid hx
      clear hx hown
      go_wp2
      go_roundw
      case rel =>
        refine ⟨k + 1, by omega, by go_num, ?_, hbel.setCell (Nat.le_refl _) _, by rw [← hsz'.out]; simp [World.setCell]⟩
        have := hown'.out.set k (.int .i64 x)
        rw [← hx'.out, ← ints_getD xs k hlt, filled_set _ _ _ (by simpa [ints] using hlt), ints_getD xs k hlt, hx'.out] at this
        exact this
      case measure => simp [intOf]; omega
    · obtain rfl : k = xs.length := by omega
      go_wp2
      go_ret
      refine ⟨rfl, ?_, hbel, hsz'.out⟩
      have := hown'.out
      rw [show xs.length = (ints xs).length from by simp [ints], filled_all] at this
      simpa [ints] using this

/-- rows copied so far: the first k own, the rest nil -/
def OwnTo (w : World) (lo hi : Nat) (v : Value) (xss : List (List Int)) (k : Nat) : Prop :=
  ∃ rvs : List Value, rvs.length = xss.length ∧ Own w lo (lo + 1) 55 v (filled (.slice none 0 0) rvs k) ∧
    (∀ i, i < k → rvs.getD i undef = .slice (some ⟨lo + 1 + i, 0, none⟩) (xss.getD i []).length (xss.getD i []).length ∧ Own w (lo + 1) hi 2 (rvs.getD i undef) (ints (xss.getD i [])))

theorem OwnTo.done {w : World} {lo hi : Nat} {cap : Nat} {xss : List (List Int)} (h : OwnTo w lo hi (.slice (some ⟨lo, 0, none⟩) xss.length cap) xss xss.length) (hh : lo + 1 ≤ hi) :
    OwnRows 55 2 w lo hi (.slice (some ⟨lo, 0, none⟩) xss.length cap) xss := by
  obtain ⟨rvs, hl, ho, hr⟩ := h
  rw [← hl, filled_all, hl] at ho
  refine ⟨rvs, ho.wide (Nat.le_refl _) hh, hl, fun i hi => (hr i hi).2.wide (by omega) (Nat.le_refl _), fun i hi k hk => ?_, fun i j hi hj hne k hk => ?_⟩
  · rw [(hr i hi).1] at hk
    simp [Value.ownBlock] at hk ⊢
    omega
  · rw [(hr i hi).1] at hk
    rw [(hr j hj).1]
    simp [Value.ownBlock] at hk ⊢
    omega

theorem OwnTo.at {w : World} {lo hi cap k : Nat} {xss : List (List Int)} (h : OwnTo w lo hi (.slice (some ⟨lo, 0, none⟩) xss.length cap) xss k) (hk : k < xss.length) :
    ∃ u, w.cell? ⟨lo, k, none⟩ = some u ∧ w.frozen? ⟨lo, k, none⟩ = false := by
  obtain ⟨rvs, hl, ho, _⟩ := h
  have hl' : (filled (.slice none 0 0) rvs k).length = xss.length := by rw [filled_length _ _ _ (by omega), hl]
  obtain ⟨g, c, hv, _, _, _, hc, hf⟩ := ho.at (by omega)
  simp only [Value.slice.injEq, Option.some.injEq, Addr.mk.injEq, and_true] at hv
  obtain ⟨rfl, _, _⟩ := hv
  exact ⟨_, hc k (by omega), hf k⟩

/-- one row more: the callee's copy is stored at k -/
theorem OwnTo.step {w w1 : World} {lo cap k : Nat} {xss : List (List Int)} (h : OwnTo w lo w.heap.size (.slice (some ⟨lo, 0, none⟩) xss.length cap) xss k) (hk : k < xss.length) (hs : w.heap.size = lo + 1 + k)
    (hb : Below w.heap.size w w1) (ho1 : Own w1 w.heap.size (w.heap.size + 1) 2 (.slice (some ⟨w.heap.size, 0, none⟩) (xss.getD k []).length (xss.getD k []).length) (ints (xss.getD k []))) (hs1 : w1.heap.size = w.heap.size + 1) :
    OwnTo (w1.setCell ⟨lo, k, none⟩ (.slice (some ⟨w.heap.size, 0, none⟩) (xss.getD k []).length (xss.getD k []).length)) lo (w1.setCell ⟨lo, k, none⟩ (.slice (some ⟨w.heap.size, 0, none⟩) (xss.getD k []).length (xss.getD k []).length)).heap.size (.slice (some ⟨lo, 0, none⟩) xss.length cap) xss (k + 1) := by
  obtain ⟨rvs, hl, ho, hr⟩ := h
  have hsz : (w1.setCell ⟨lo, k, none⟩ (.slice (some ⟨w.heap.size, 0, none⟩) (xss.getD k []).length (xss.getD k []).length)).heap.size = w.heap.size + 1 := by simp [World.setCell]; omega
  generalize hn : Value.slice (some ⟨w.heap.size, 0, none⟩) (xss.getD k []).length (xss.getD k []).length = nv at *
  have hkr : k < rvs.length := by omega
  refine ⟨rvs.set k nv, by simpa using hl, ?_, fun i hi => ?_⟩
  · have h1 := (ho.keep (by omega) hb).set k nv
    have e : (filled (.slice none 0 0) rvs k).set k nv = filled (.slice none 0 0) (rvs.set k nv) (k + 1) := by
      have := filled_set (.slice none 0 0) (rvs.set k nv) k (by simpa using hkr)
      rw [← this]
      have e1 : (rvs.set k nv).getD k undef = nv := by simp [List.getD, hkr]
      rw [e1]
      congr 1
      unfold filled
      rw [List.take_set_of_le (Nat.le_refl _), List.length_set]
    rw [e] at h1
    exact h1
  · by_cases e : i = k
    · subst e
      have e1 : (rvs.set i nv).getD i undef = nv := by simp [List.getD, hkr]
      rw [e1]
      refine ⟨by rw [← hn, hs], ?_⟩
      have : nv.ownBlock ≠ some lo := by rw [← hn]; simp [Value.ownBlock]; omega
      exact (ho1.setOther (a := ⟨lo, i, none⟩) this nv).wide (by omega) (by omega)
    · have hi' : i < k := by omega
      have e1 : (rvs.set k nv).getD i undef = rvs.getD i undef := by simp [List.getD, Ne.symm e]
      rw [e1]
      obtain ⟨h1, h2⟩ := hr i hi'
      refine ⟨h1, ?_⟩
      have : (rvs.getD i undef).ownBlock ≠ some lo := by rw [h1]; simp [Value.ownBlock]; omega
      exact ((h2.keep (Nat.le_refl _) hb).setOther (a := ⟨lo, k, none⟩) this nv).wide (Nat.le_refl _) (by omega)

set_option maxHeartbeats 4000000 in
theorem toInt64SS_any (v : Value) (xss : List (List Int)) (w : World) (hv : Rows2 w v xss) (h1 : xss.length + total xss ≤ 2097152) :
    Calls Tryd.prog 35 #[v] w fun e w' => ∃ v', e = .returned v' ∧ OwnRows 55 2 w' w.heap.size w'.heap.size v' xss ∧ Below w.heap.size w w' := by
  obtain ⟨hm, a, cap, rfl⟩ := hv.len
  unfold maxLen at hm
  have hmk := run_make_row' (P := Tryd.prog) 28 55 (.slice none 0 0) 24 Tryd.underlying28 Tryd.infoR rfl .i64 .i64 xss.length (by omega) (by omega)
  go_enter Tryd.func35, Tryd.ntmps35
  go_wp2
  go_loopw [4] (fun i wr => ∃ k : Nat, k ≤ xss.length ∧ i = .int .i64 k ∧ OwnTo wr w.heap.size wr.heap.size (.slice (some ⟨w.heap.size, 0, none⟩) xss.length xss.length) xss k ∧ Below w.heap.size w wr ∧ wr.heap.size = w.heap.size + 1 + k) (fun i _ => xss.length - (intOf i).toNat)
  case atStart =>
    refine ⟨0, Nat.zero_le _, rfl, ⟨List.replicate xss.length undef, by simp, ?_, fun i hi => by omega⟩, (Below.refl _ _).alloc (Nat.le_refl _) _, by simp⟩
    rw [filled_zero]
    have := Own.made w (.slice none 0 0) xss.length 55 (by unfold maxLen; omega)
    simpa using this
  case round =>
    obtain ⟨k, hk, rfl, hown, hbel, hsz⟩ := hrel
    have hown' := Lib.hid hown
    have hsz' := Lib.hid hsz
    clear hsz
    by_cases hlt : k < xss.length
    · have hrl := total_row_le xss k hlt
      obtain ⟨b, off, cap', rv, hvv, hb, hc⟩ := hv.at (by omega)
      cases hvv
      obtain ⟨hcell0, hrow0⟩ := hc k hlt
      have hcell : wr.cell? ⟨b, off + k, none⟩ = some (rv k) := by rw [hbel.cell hb]; exact hcell0
      have hrow : Ints wr (rv k) (xss.getD k []) := hrow0.keep hbel
      clear hc hcell0 hrow0
      generalize rv k = rk at hcell hrow
      obtain ⟨row, hx⟩ : ∃ row, row = xss.getD k [] := ⟨_, rfl⟩
      rw [← hx] at hrow hrl
      have hx' := Lib.hid hx
      clear hx
      obtain ⟨u, hcg, hfg⟩ := hown.at hlt
      clear hown
      go_wp2_with fail
      refine (toInt64S_any _ row _ hrow (by omega)).mono ?_
      rintro e w1 ⟨rfl, hown1, hbel1, hsz1⟩
      have hcg1 := (hbel1.cell (p := ⟨w.heap.size, k, none⟩) (by have := hsz'.out; simp only; omega)).trans hcg
      have hfg1 := (hbel1.frozen (p := ⟨w.heap.size, k, none⟩) (by have := hsz'.out; simp only; omega)).trans hfg
      have hsz1' := Lib.hid hsz1
      clear hsz1
      go_wp2
      go_roundw
      case rel =>
        have hs := hsz'.out
        have hs1 := hsz1'.out
        refine ⟨k + 1, by omega, by go_num, ?_, (hbel.trans (hbel1.mono (by omega))).setCell (Nat.le_refl _) _, by simp [World.setCell]; omega⟩
        have := hown'.out.step hlt hs hbel1 (hx'.out ▸ hown1) hs1
        rw [← hx'.out] at this
        exact this
      case measure => simp [intOf]; omega
    · obtain rfl : k = xss.length := by omega
      go_wp2
      go_ret
      exact ⟨_, rfl, hown'.out.done (by have := hsz'.out; omega), hbel⟩

end Go.Proofs.YtgaadcinhaphpaaDoor
