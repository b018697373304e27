/- Rows of bools that came in: their size, their copy, their opening. Conditions: as for numbers. -/
import Derived.Test.YtkebfnmepbblnaaBools
import Derived.Deep.Grids
namespace Go.Proofs.Ytkebfnmepbblnaa
open Go.ChangeShapes Go.WideShapes Go.ChangeAt Go.RowKit Go.Deep Go.Joins
set_option linter.unusedVariables false

theorem Try.infoB : (Try.prog.info? 4).map (fun i => (i.zero, i.size, i.bytes)) = some (some (.bool false), 1, 1) := by kernel_rfl
theorem Try.infoBR : (Try.prog.info? 111).map (fun i => (i.zero, i.size, i.bytes)) = some (some (.slice none 0 0), 1, 24) := by kernel_rfl
set_option maxHeartbeats 1000000 in
theorem szBoolS_any (v : Value) (xs : List Bool) (left : Int) (w : World) (hv : Bools w v xs) (h0 : 0 ≤ left) (h1 : left ≤ 1048576) :
    Calls Try.prog 94 #[v, .int .i64 left] w fun e w' => e = .returned (.int .i64 (szLeft left xs.length)) ∧ w = w' := by
  obtain ⟨hm, a, cap, rfl⟩ := hv.len
  unfold maxLen at hm
  by_cases h : left < xs.length
  · have hs := Lib.hid (szLeft_no h)
    have h' : left - (xs.length : Int) < 0 := by omega
    go_enter Try.func94, Try.ntmps94
    go_wp2
    go_ret
    exact ⟨ret_int hs.out.symm, rfl⟩
  · have hs := Lib.hid (szLeft_yes (show (xs.length : Int) ≤ left by omega))
    have h' : 0 ≤ left - (xs.length : Int) := by omega
    go_enter Try.func94, Try.ntmps94
    go_wp2
    go_ret
    exact ⟨ret_int hs.out.symm, rfl⟩
set_option maxHeartbeats 2000000 in
theorem szBoolSS_any (v : Value) (xss : List (List Bool)) (left : Int) (w : World) (hv : BRows w v xss) (h0 : 0 ≤ left) (h1 : left ≤ 1048576) :
    Calls Try.prog 38 #[v, .int .i64 left] w fun e w' => e = .returned (.int .i64 (szLeft left (xss.length + btotal xss))) ∧ w = w' := by
  obtain ⟨hm, a, cap, rfl⟩ := hv.len
  unfold maxLen at hm
  by_cases h : left < xss.length
  · have hs := Lib.hid (szLeft_no (show left < ((xss.length + btotal xss : Nat) : Int) by omega))
    have h' : left - (xss.length : Int) < 0 := by omega
    go_enter Try.func38, Try.ntmps38
    go_wp2
    go_ret
    exact ⟨ret_int hs.out.symm, rfl⟩
  · have h' : 0 ≤ left - (xss.length : Int) := by omega
    go_enter Try.func38, Try.ntmps38
    go_wp2
    go_loop [1, 5] (fun l i => ∃ (k : Nat) (L : Int), k ≤ xss.length ∧ Hid (L = left - (xss.length + btotal (xss.take k) : Nat)) ∧ 0 ≤ L ∧ L ≤ 1048576 ∧ i = .int .i64 k ∧ l = .int .i64 L) (fun _ i => xss.length - (intOf i).toNat)
    case atStart => exact ⟨0, _, Nat.zero_le _, show _ = _ by simp [btotal], h', by omega, rfl, rfl⟩
    case round =>
      obtain ⟨k, L, hk, hL, hL0, hL1, rfl, rfl⟩ := hrel
      by_cases hlt : k < xss.length
      · obtain ⟨b, off, cap', rv, hvv, hb, hc⟩ := hv.at (by omega)
        cases hvv
        obtain ⟨hcell, hrow⟩ := hc k hlt
        clear hc
        have hts := Lib.hid (btotal_take_succ xss k hlt)
        have htl := btotal_take_le xss (k + 1)
        generalize xss.getD k [] = row at hrow hts
        generalize rv k = rk at hrow hcell
        by_cases hq : L < row.length
        · have hs := Lib.hid (szLeft_no hq)
          have hneg : szLeft L row.length < 0 := by rw [hs.out]; decide
          have hfin := Lib.hid (szLeft_no (left := left) (n := xss.length + btotal xss) (by have := hts.out; have := hL.out; omega))
          go_wp2_with (go_at_call 94; refine (szBoolS_any _ row _ _ hrow (by omega) (by omega)).mono ?_; rintro e w' ⟨rfl, rfl⟩)
          go_ret
          exact ⟨ret_int hfin.out.symm, rfl⟩
        · have hs := Lib.hid (szLeft_yes (show ((row.length : Nat) : Int) ≤ L by omega))
          have hneg : 0 ≤ szLeft L row.length := by rw [hs.out]; omega
          go_wp2_with (go_at_call 94; refine (szBoolS_any _ row _ _ hrow (by omega) (by omega)).mono ?_; rintro e w' ⟨rfl, rfl⟩)
          go_round
          case rel => exact ⟨k + 1, _, by omega, show _ = _ by rw [hs.out]; have := hts.out; have := hL.out; omega, hneg, by rw [hs.out]; omega, by go_num, rfl⟩
          case measure => simp [intOf]; omega
      · obtain rfl : k = xss.length := by omega
        have hfin := Lib.hid (szLeft_yes (left := left) (n := xss.length + btotal xss) (by have := hL.out; rw [btotal_take_all] at this; omega))
        go_wp2
        go_ret
        exact ⟨ret_int (by rw [hfin.out, hL.out, btotal_take_all]), rfl⟩
set_option maxHeartbeats 2000000 in
theorem toBoolS_any (v : Value) (xs : List Bool) (w : World) (hv : Bools w v xs) (h1 : xs.length ≤ 2097152) :
    Calls Try.prog 96 #[v] w fun e w' => e = .returned (.slice (some ⟨w.heap.size, 0, none⟩) xs.length xs.length) ∧ Own w' w.heap.size (w.heap.size + 1) 4 (.slice (some ⟨w.heap.size, 0, none⟩) xs.length xs.length) (bools xs) ∧ Below w.heap.size w w' ∧ w'.heap.size = w.heap.size + 1 := by
  obtain ⟨hm, a, cap, rfl⟩ := hv.len
  unfold maxLen at hm
  have hmk := run_make_row' (P := Try.prog) 111 4 (.bool false) 1 Try.underlying111 Try.infoB rfl .i64 .i64 xs.length (by omega) (by omega)
  go_enter Try.func96, Try.ntmps96
  go_wp2
  go_loopw [4] (fun i wr => ∃ k : Nat, k ≤ xs.length ∧ i = .int .i64 k ∧ Own wr w.heap.size (w.heap.size + 1) 4 (.slice (some ⟨w.heap.size, 0, none⟩) xs.length xs.length) (filled (.bool false) (bools xs) k) ∧ Below w.heap.size w wr ∧ wr.heap.size = w.heap.size + 1) (fun i _ => xs.length - (intOf i).toNat)
  case atStart =>
    refine ⟨0, Nat.zero_le _, rfl, ?_, (Below.refl _ _).alloc (Nat.le_refl _) _, by simp⟩
    rw [filled_zero]
    have := Own.made w (.bool false) xs.length 4 (by unfold maxLen; omega)
    simpa [bools] using this
  case round =>
    obtain ⟨k, hk, rfl, hown, hbel, hsz⟩ := hrel
    have hown' := Lib.hid hown
    have hsz' := Lib.hid hsz
    clear hsz
    by_cases hlt : k < xs.length
    · obtain ⟨b, off, cap', hvv, hb, hc⟩ := hv.at (by omega)
      cases hvv
      have hcell : wr.cell? ⟨b, off + k, none⟩ = some (.bool (xs.getD k false)) := by rw [hbel.cell hb]; exact hc k hlt
      clear hc
      obtain ⟨g, cap'', hg, _, _, _, hcg, hfg⟩ := hown.at (by rw [filled_length _ _ _ (by simpa [bools] using hk)]; simp [bools]; omega)
      simp only [Value.slice.injEq, Option.some.injEq, Addr.mk.injEq, and_true] at hg
      obtain ⟨rfl, _, _⟩ := hg
      have hcg' := hcg k (by rw [filled_length _ _ _ (by simpa [bools] using hk)]; simpa [bools] using hlt)
      have hfg' := hfg k
      clear hcg hfg
      generalize hx : xs.getD k false = x at hcell
      have hx' := Lib.hid hx
      clear hx hown
      go_wp2
      go_roundw
      case rel =>
        refine ⟨k + 1, by omega, by go_num, ?_, hbel.setCell (Nat.le_refl _) _, by rw [← hsz'.out]; simp [World.setCell]⟩
        have := hown'.out.set k (.bool x)
        rw [← hx'.out, ← bools_getD xs k hlt, filled_set _ _ _ (by simpa [bools] using hlt), bools_getD xs k hlt, hx'.out] at this
        exact this
      case measure => simp [intOf]; omega
    · obtain rfl : k = xs.length := by omega
      go_wp2
      go_ret
      refine ⟨rfl, ?_, hbel, hsz'.out⟩
      have := hown'.out
      rw [show xs.length = (bools xs).length from by simp [bools], filled_all] at this
      simpa [bools] using this
/-- rows copied so far: the first k own, the rest nil -/
def BOwnTo (w : World) (lo hi : Nat) (v : Value) (xss : List (List Bool)) (k : Nat) : Prop :=
  ∃ rvs : List Value, rvs.length = xss.length ∧ Own w lo (lo + 1) 111 v (filled (.slice none 0 0) rvs k) ∧
    (∀ i, i < k → rvs.getD i undef = .slice (some ⟨lo + 1 + i, 0, none⟩) (xss.getD i []).length (xss.getD i []).length ∧ Own w (lo + 1) hi 4 (rvs.getD i undef) (bools (xss.getD i [])))
theorem BOwnTo.done {w : World} {lo hi : Nat} {cap : Nat} {xss : List (List Bool)} (h : BOwnTo w lo hi (.slice (some ⟨lo, 0, none⟩) xss.length cap) xss xss.length) (hh : lo + 1 ≤ hi) :
    OwnBR 111 4 w lo hi (.slice (some ⟨lo, 0, none⟩) xss.length cap) xss := by
  obtain ⟨rvs, hl, ho, hr⟩ := h
  rw [← hl, filled_all, hl] at ho
  refine ⟨rvs, ho.wide (Nat.le_refl _) hh, hl, fun i hi => (hr i hi).2.wide (by omega) (Nat.le_refl _), fun i hi k hk => ?_, fun i j hi hj hne k hk => ?_⟩
  · rw [(hr i hi).1] at hk
    simp [Value.ownBlock] at hk ⊢
    omega
  · rw [(hr i hi).1] at hk
    rw [(hr j hj).1]
    simp [Value.ownBlock] at hk ⊢
    omega
theorem BOwnTo.at {w : World} {lo hi cap k : Nat} {xss : List (List Bool)} (h : BOwnTo w lo hi (.slice (some ⟨lo, 0, none⟩) xss.length cap) xss k) (hk : k < xss.length) :
    ∃ u, w.cell? ⟨lo, k, none⟩ = some u ∧ w.frozen? ⟨lo, k, none⟩ = false := by
  obtain ⟨rvs, hl, ho, _⟩ := h
  have hl' : (filled (.slice none 0 0) rvs k).length = xss.length := by rw [filled_length _ _ _ (by omega), hl]
  obtain ⟨g, c, hv, _, _, _, hc, hf⟩ := ho.at (by omega)
  simp only [Value.slice.injEq, Option.some.injEq, Addr.mk.injEq, and_true] at hv
  obtain ⟨rfl, _, _⟩ := hv
  exact ⟨_, hc k (by omega), hf k⟩
/-- one row more: the callee's copy is stored at k -/
theorem BOwnTo.step {w w1 : World} {lo cap k : Nat} {xss : List (List Bool)} (h : BOwnTo w lo w.heap.size (.slice (some ⟨lo, 0, none⟩) xss.length cap) xss k) (hk : k < xss.length) (hs : w.heap.size = lo + 1 + k)
    (hb : Below w.heap.size w w1) (ho1 : Own w1 w.heap.size (w.heap.size + 1) 4 (.slice (some ⟨w.heap.size, 0, none⟩) (xss.getD k []).length (xss.getD k []).length) (bools (xss.getD k []))) (hs1 : w1.heap.size = w.heap.size + 1) :
    BOwnTo (w1.setCell ⟨lo, k, none⟩ (.slice (some ⟨w.heap.size, 0, none⟩) (xss.getD k []).length (xss.getD k []).length)) lo (w1.setCell ⟨lo, k, none⟩ (.slice (some ⟨w.heap.size, 0, none⟩) (xss.getD k []).length (xss.getD k []).length)).heap.size (.slice (some ⟨lo, 0, none⟩) xss.length cap) xss (k + 1) := by
  obtain ⟨rvs, hl, ho, hr⟩ := h
  have hsz : (w1.setCell ⟨lo, k, none⟩ (.slice (some ⟨w.heap.size, 0, none⟩) (xss.getD k []).length (xss.getD k []).length)).heap.size = w.heap.size + 1 := by simp [World.setCell]; omega
  generalize hn : Value.slice (some ⟨w.heap.size, 0, none⟩) (xss.getD k []).length (xss.getD k []).length = nv at *
  have hkr : k < rvs.length := by omega
  refine ⟨rvs.set k nv, by simpa using hl, ?_, fun i hi => ?_⟩
  · have h1 := (ho.keep (by omega) hb).set k nv
    have e : (filled (.slice none 0 0) rvs k).set k nv = filled (.slice none 0 0) (rvs.set k nv) (k + 1) := by
      have := filled_set (.slice none 0 0) (rvs.set k nv) k (by simpa using hkr)
      rw [← this]
      have e1 : (rvs.set k nv).getD k undef = nv := by simp [List.getD, hkr]
      rw [e1]
      congr 1
      unfold filled
      rw [List.take_set_of_le (Nat.le_refl _), List.length_set]
    rw [e] at h1
    exact h1
  · by_cases e : i = k
    · subst e
      have e1 : (rvs.set i nv).getD i undef = nv := by simp [List.getD, hkr]
      rw [e1]
      refine ⟨by rw [← hn, hs], ?_⟩
      have : nv.ownBlock ≠ some lo := by rw [← hn]; simp [Value.ownBlock]; omega
      exact (ho1.setOther (a := ⟨lo, i, none⟩) this nv).wide (by omega) (by omega)
    · have hi' : i < k := by omega
      have e1 : (rvs.set k nv).getD i undef = rvs.getD i undef := by simp [List.getD, Ne.symm e]
      rw [e1]
      obtain ⟨h1, h2⟩ := hr i hi'
      refine ⟨h1, ?_⟩
      have : (rvs.getD i undef).ownBlock ≠ some lo := by rw [h1]; simp [Value.ownBlock]; omega
      exact ((h2.keep (Nat.le_refl _) hb).setOther (a := ⟨lo, k, none⟩) this nv).wide (Nat.le_refl _) (by omega)
set_option maxHeartbeats 4000000 in
theorem toBoolSS_any (v : Value) (xss : List (List Bool)) (w : World) (hv : BRows w v xss) (h1 : xss.length + btotal xss ≤ 2097152) :
    Calls Try.prog 40 #[v] w fun e w' => ∃ v', e = .returned v' ∧ OwnBR 111 4 w' w.heap.size w'.heap.size v' xss ∧ Below w.heap.size w w' := by
  obtain ⟨hm, a, cap, rfl⟩ := hv.len
  unfold maxLen at hm
  have hmk := run_make_row' (P := Try.prog) 50 111 (.slice none 0 0) 24 Try.underlying50 Try.infoBR rfl .i64 .i64 xss.length (by omega) (by omega)
  go_enter Try.func40, Try.ntmps40
  go_wp2
  go_loopw [4] (fun i wr => ∃ k : Nat, k ≤ xss.length ∧ i = .int .i64 k ∧ BOwnTo wr w.heap.size wr.heap.size (.slice (some ⟨w.heap.size, 0, none⟩) xss.length xss.length) xss k ∧ Below w.heap.size w wr ∧ wr.heap.size = w.heap.size + 1 + k) (fun i _ => xss.length - (intOf i).toNat)
  case atStart =>
    refine ⟨0, Nat.zero_le _, rfl, ⟨List.replicate xss.length undef, by simp, ?_, fun i hi => by omega⟩, (Below.refl _ _).alloc (Nat.le_refl _) _, by simp⟩
    rw [filled_zero]
    have := Own.made w (.slice none 0 0) xss.length 111 (by unfold maxLen; omega)
    simpa using this
  case round =>
    obtain ⟨k, hk, rfl, hown, hbel, hsz⟩ := hrel
    have hown' := Lib.hid hown
    have hsz' := Lib.hid hsz
    clear hsz
    by_cases hlt : k < xss.length
    · have hrl := btotal_row_le xss k hlt
      obtain ⟨b, off, cap', rv, hvv, hb, hc⟩ := hv.at (by omega)
      cases hvv
      obtain ⟨hcell0, hrow0⟩ := hc k hlt
      have hcell : wr.cell? ⟨b, off + k, none⟩ = some (rv k) := by rw [hbel.cell hb]; exact hcell0
      have hrow : Bools wr (rv k) (xss.getD k []) := hrow0.keep hbel
      clear hc hcell0 hrow0
      generalize rv k = rk at hcell hrow
      obtain ⟨row, hx⟩ : ∃ row, row = xss.getD k [] := ⟨_, rfl⟩
      rw [← hx] at hrow hrl
      have hx' := Lib.hid hx
      clear hx
      obtain ⟨u, hcg, hfg⟩ := hown.at hlt
      clear hown
      go_wp2_with fail
      refine (toBoolS_any _ row _ hrow (by omega)).mono ?_
      rintro e w1 ⟨rfl, hown1, hbel1, hsz1⟩
      have hcg1 := (hbel1.cell (p := ⟨w.heap.size, k, none⟩) (by have := hsz'.out; simp only; omega)).trans hcg
      have hfg1 := (hbel1.frozen (p := ⟨w.heap.size, k, none⟩) (by have := hsz'.out; simp only; omega)).trans hfg
      have hsz1' := Lib.hid hsz1
      clear hsz1
      go_wp2
      go_roundw
      case rel =>
        have hs := hsz'.out
        have hs1 := hsz1'.out
        refine ⟨k + 1, by omega, by go_num, ?_, (hbel.trans (hbel1.mono (by omega))).setCell (Nat.le_refl _) _, by simp [World.setCell]; omega⟩
        have := hown'.out.step hlt hs hbel1 (hx'.out ▸ hown1) hs1
        rw [← hx'.out] at this
        exact this
      case measure => simp [intOf]; omega
    · obtain rfl : k = xss.length := by omega
      go_wp2
      go_ret
      exact ⟨_, rfl, hown'.out.done (by have := hsz'.out; omega), hbel⟩
set_option maxRecDepth 100000 in
/-- the rows of a slice of slices of int64s -/
theorem open_brows {H : Type} {enc : TypeId × Value → H} {W : World} {base : Nat} {held : Bool} {fuel : Nat} {v : Value} {x : DataW H × List MemPlace}
    (h : DataW.trod enc Try.prog W base (fun _ => true) held fuel 50 [v] = some x) : ∃ xss, BRows W v xss := by
  rcases open_bool_rows Try.underlying50 Try.underlying111 Try.underlying4 (by kernel_rfl) (by kernel_rfl) h with ⟨hcs, _⟩ | ⟨a, len, cap, A, L, C, Z, hcs, _, hl, hm, _, hr⟩
  · simp at hcs
    subst hcs
    exact ⟨[], [], ⟨by simp, none, 0, rfl, ⟨Nat.le_refl _, Nat.zero_le _⟩, fun i hi => by simp at hi⟩, rfl, fun i hi => by simp at hi⟩
  · simp at hcs
    subst hcs
    refine ⟨(List.range len).map fun r => (List.range (L r)).map (Z r), (List.range len).map fun r => .slice (A r) (L r) (C r), row_of_cells (by omega) (fun i hi => (hr i (by omega)).1) hl hm, by simp, fun i hi => ?_⟩
    have hi' : i < len := by simpa using hi
    obtain ⟨_, h1, h2, h5, h6⟩ := hr i (by omega)
    have e1 : ((List.range len).map fun r => Value.slice (A r) (L r) (C r)).getD i undef = .slice (A i) (L i) (C i) := by simp [List.getD, hi']
    have e2 : ((List.range len).map fun r => (List.range (L r)).map (Z r)).getD i [] = (List.range (L i)).map (Z i) := by simp [List.getD, hi']
    rw [e1, e2]
    have hlen : ((List.range (L i)).map (Z i)).length = L i := by simp
    refine ⟨by simp only [bools, List.length_map, hlen]; omega, A i, C i, by simp only [bools, List.length_map, hlen], ⟨by simp only [bools, List.length_map, hlen]; omega, by omega⟩, fun j hj => ?_⟩
    simp only [bools, List.length_map, hlen] at hj
    cases hA : A i with
    | none => have := h5 hA; omega
    | some a' =>
      have h := (h6 a' hA).2 j (by omega)
      have hs := spot_none (h6 a' hA).2 (by omega)
      rw [hs, add_plain] at h
      refine ⟨a'.block, a'.off, by rw [← hs], ?_⟩
      rw [bools_getD _ _ (by rw [hlen]; exact hj)]
      have e3 : ((List.range (L i)).map (Z i)).getD j false = Z i j := by simp [List.getD, hj]
      rw [e3]
      exact h
structure BRUnder (w : World) (B : Nat) (v : Value) (xs : List (List Bool)) : Prop where
  all : ∀ w', Below B w w' → BRows w' v xs
  le : B ≤ w.heap.size
theorem BRUnder.of {w : World} {v : Value} {xs : List (List Bool)} (h : BRows w v xs) : BRUnder w w.heap.size v xs := ⟨fun _ hb => h.keep hb, Nat.le_refl _⟩
theorem BRUnder.now {w : World} {B : Nat} {v : Value} {xs : List (List Bool)} (h : BRUnder w B v xs) : BRows w v xs := h.all w (Below.refl _ _)
theorem BRUnder.step {w w' : World} {B : Nat} {v : Value} {xs : List (List Bool)} (h : BRUnder w B v xs) (hb : Below w.heap.size w w') : BRUnder w' B v xs :=
  ⟨fun w2 h2 => h.all w2 ((hb.mono h.le).trans h2), Nat.le_trans h.le hb.size⟩
theorem BRUnder.touch {w w' : World} {B a b : Nat} {v : Value} {xs : List (List Bool)} (h : BRUnder w B v xs) (ht : Touched a b w w') (hd : B ≤ a) : BRUnder w' B v xs :=
  ⟨fun w2 h2 => h.all w2 ((ht.below' B hd h.le).trans h2), Nat.le_trans h.le ht.size⟩
theorem BRows.shape {w : World} {v : Value} {xs : List (List Bool)} (h : BRows w v xs) : ∃ a cap, v = .slice a xs.length cap := h.len.2
theorem sz_brows (v : Value) (xss : List (List Bool)) (left : Int) (w : World) (hv : BRows w v xss) (h0 : 0 ≤ left) (h1 : left ≤ 1048576) :
    Calls Try.prog 38 #[v, .int .i64 left] w fun e w' => e = .returned (.int .i64 (szLeft left (xss.length + btotal xss))) ∧ Below w.heap.size w w' :=
  (szBoolSS_any v xss left w hv h0 h1).mono fun _ _ ⟨h, hw⟩ => ⟨h, by rw [← hw]; exact Below.refl _ _⟩
theorem to_brows (v : Value) (xs : List (List Bool)) (w : World) (hv : BRows w v xs) (h1 : xs.length + btotal xs ≤ 2097152) :
    Calls Try.prog 40 #[v] w fun e w' => ∃ v', e = .returned v' ∧ BRMine 111 4 w' w.heap.size w'.heap.size v' xs ∧ Below w.heap.size w w' :=
  (toBoolSS_any v xs w hv h1).mono fun _ _ ⟨v, h1, h2, h3⟩ => ⟨v, h1, ⟨h2, Nat.le_refl _⟩, h3⟩
end Go.Proofs.Ytkebfnmepbblnaa
