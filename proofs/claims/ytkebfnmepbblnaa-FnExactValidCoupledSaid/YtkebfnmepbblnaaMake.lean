/- makeChain of the project: it returns the chain with the weights that a function tells, or ErrLimit. Conditions: told in 'makeChain_any'. -/
import Derived.Test.YtkebfnmepbblnaaEven
import Derived.Test.YtkebfnmepbblnaaMark
namespace Go.Proofs.Ytkebfnmepbblnaa
open Go.RowKit Go.Deep

theorem ownsRow_type {w : World} {lo n size : Nat} {e : TypeId} {v : Value} {vs : List Value} (h : w.ownsRow lo e size v n vs) {k : Nat} (hk : v.ownBlock = some k) : lo ≤ k ∧ ∃ cur, w.heap[k]? = some (.cells cur e (0, 0)) := by
  rcases h.2 with ⟨rfl, _⟩ | ⟨g, cap, cur, rfl, hg, hh, _⟩
  · simp [Value.ownBlock] at hk
  · simp [Value.ownBlock] at hk; subst hk; exact ⟨hg, cur, hh⟩
theorem types_apart {w : World} {lo lo' n n' size size' : Nat} {e e' : TypeId} {v v' : Value} {vs vs' : List Value} (h : w.ownsRow lo e size v n vs) (h' : w.ownsRow lo' e' size' v' n' vs') (he : e ≠ e') {k : Nat} (hk : v.ownBlock = some k) : v'.ownBlock ≠ some k := by
  intro hk'
  obtain ⟨_, c, hc⟩ := ownsRow_type h hk
  obtain ⟨_, c', hc'⟩ := ownsRow_type h' hk'
  rw [hc] at hc'
  simp only [Option.some.injEq, Obj.cells.injEq] at hc'
  exact he hc'.2.1

/-- rows made so far: an outer slice of the call's own, and the rows in blocks of their own, all from lo up to hi -/
structure MadeTo (w : World) (lo hi : Nat) (v : Value) (rvs : List Value) (yss : List (List Int)) : Prop where
  own : w.ownsRow lo 25 1 v yss.length rvs
  rows : ∀ i, i < yss.length → Own w lo hi 2 (rvs.getD i undef) (ints (yss.getD i []))
  far : ∀ i j, i < yss.length → j < yss.length → i ≠ j → ∀ k, (rvs.getD i undef).ownBlock = some k → (rvs.getD j undef).ownBlock ≠ some k
  size : hi ≤ w.heap.size
theorem MadeTo.len {w : World} {lo hi : Nat} {v : Value} {rvs : List Value} {yss : List (List Int)} (h : MadeTo w lo hi v rvs yss) : rvs.length = yss.length := by simpa using h.own.1
theorem MadeTo.start (w : World) (lo : Nat) : MadeTo w lo w.heap.size (.slice none 0 0) [] [] :=
  ⟨World.ownsRow_nil w lo _ _, fun i hi => by simp at hi, fun i j hi => by simp at hi, Nat.le_refl _⟩
theorem MadeTo.done {w : World} {lo hi : Nat} {v : Value} {rvs : List Value} {yss : List (List Int)} (h : MadeTo w lo hi v rvs yss) : OwnRows 25 2 w lo w.heap.size v yss := by
  refine ⟨rvs, Own.of h.own (Nat.le_refl _), h.len, fun i hi => (h.rows i hi).wide (Nat.le_refl _) h.size, fun i hi k hk hv => ?_, h.far⟩
  exact types_apart h.own (h.rows i hi).1 (by decide) hv hk

theorem MadeTo.step {w w1 w2 : World} {lo hi : Nat} {v v' rv : Value} {rvs : List Value} {yss : List (List Int)} {y : List Int} {a : Addr} (h : MadeTo w lo hi v rvs yss) (hb : Below w.heap.size w w1)
    (hrow : Own w1 w.heap.size w1.heap.size 2 rv (ints y)) (hlo : lo ≤ w.heap.size) (o : Obj) (hown : w2.ownsRow lo 25 1 v' (yss.length + 1) (rvs ++ [rv])) (hg : (w1.alloc o).grownBy w2 v.ownBlock) (ha : a.block < lo) (u : Value) :
    MadeTo (w2.setCell a u) lo (w2.setCell a u).heap.size v' (rvs ++ [rv]) (yss ++ [y]) := by
  have hl := h.len
  have hs2 : w1.heap.size + 1 ≤ w2.heap.size := by have := hg.size; simpa using this
  have hs3 : (w2.setCell a u).heap.size = w2.heap.size := by simp [World.setCell]
  -- a row that lay there, or the new one, is as it was
  have keep : ∀ (lo' hi' : Nat) (x : Value) (xs : List Value), lo ≤ lo' → hi' ≤ w1.heap.size → Own w1 lo' hi' 2 x xs → Own (w2.setCell a u) lo' hi' 2 x xs := by
    intro lo' hi' x xs h1 h2 hx
    have hv1 : w1.ownsRow lo 25 1 v yss.length rvs := by
      refine ⟨h.own.1, ?_⟩
      rcases h.own.2 with hn | ⟨g, cap, cur, rfl, hgg, hh, r⟩
      · exact Or.inl hn
      · exact Or.inr ⟨g, cap, cur, rfl, hgg, by rw [hb.block g (Array.getElem?_eq_some_iff.1 hh).1]; exact hh, r⟩
    refine hx.sameBlk fun k hk hxk => ?_
    have hne : v.ownBlock ≠ some k := fun hv => types_apart hv1 hx.1 (by decide) hv hxk
    have hlk : lo ≤ k := by have := (hx.1.lt k hxk).1; omega
    rw [Below.heap_setCell _ _ _ _ (by omega), hg.block k (by simp; omega) (fun e => hne e.symm), Below.heap_alloc _ _ _ hk]
  have hn : (rvs ++ [rv]).getD yss.length undef = rv := by simp [List.getD, ← hl]
  have ho : ∀ i, i < yss.length → (rvs ++ [rv]).getD i undef = rvs.getD i undef := fun i hi => by simp only [List.getD]; rw [List.getElem?_append_left (by omega)]
  have hyn : (yss ++ [y]).getD yss.length [] = y := by simp [List.getD]
  have hyo : ∀ i, i < yss.length → (yss ++ [y]).getD i [] = yss.getD i [] := fun i hi => by simp only [List.getD]; rw [List.getElem?_append_left (by omega)]
  have old : ∀ i, i < yss.length → Own w1 lo hi 2 (rvs.getD i undef) (ints (yss.getD i [])) := fun i hi => (h.rows i hi).keep h.size hb
  have apart : ∀ i, i < yss.length → ∀ k, (rvs.getD i undef).ownBlock = some k → k < w.heap.size := fun i hi k hk => by have := (h.rows i hi).2.2 k hk; have := h.size; omega
  have fresh : ∀ k, rv.ownBlock = some k → w.heap.size ≤ k := fun k hk => (hrow.1.lt k hk).1
  refine ⟨?_, fun i _ => ?_, fun i j _ hj hne k hk => ?_, Nat.le_refl _⟩
  · rw [List.length_append]
    exact ownsRow_setCell_below hown ha u
  · rename_i hii
    rw [List.length_append] at hii
    simp only [List.length_cons, List.length_nil] at hii
    by_cases e : i < yss.length
    · rw [ho i e, hyo i e]
      exact (keep lo hi _ _ (Nat.le_refl _) (by have := h.size; have := hb.size; omega) (old i e)).wide (Nat.le_refl _) (by have := h.size; have := hb.size; omega)
    · obtain rfl : i = yss.length := by omega
      rw [hn, hyn]
      exact (keep _ _ _ _ hlo (Nat.le_refl _) hrow).wide hlo (by omega)
  · rename_i hii
    rw [List.length_append] at hii hj
    simp only [List.length_cons, List.length_nil] at hii hj
    by_cases e : i < yss.length
    · rw [ho i e] at hk
      by_cases e' : j < yss.length
      · rw [ho j e']; exact h.far i j e e' hne k hk
      · obtain rfl : j = yss.length := by omega
        rw [hn]; intro hc; have := fresh k hc; have := apart i e k hk; omega
    · obtain rfl : i = yss.length := by omega
      rw [hn] at hk
      by_cases e' : j < yss.length
      · rw [ho j e']; intro hc; have := fresh k hk; have := apart j e' k hc; omega
      · omega
theorem ownsRow_shape {w : World} {lo n : Nat} {e : TypeId} {v : Value} {vs : List Value} (h : w.ownsRow lo e 1 v n vs) (hn : 0 < n) : ∃ g cap, v = .slice (some ⟨g, 0, none⟩) n cap := by
  rcases h.2 with ⟨_, h0⟩ | ⟨g, cap, cur, rfl, _⟩
  · omega
  · exact ⟨g, cap, rfl⟩

/-- the weights in rows -/
def rowsOf (n : Nat) (f : Nat → Nat → Int) : List (List Int) := (List.range n).map fun s => (List.range n).map fun t => f s t
/-- what makeChain returns -/
def madeCh (n t : Int) (f : Nat → Nat → Int) : Ch × Int := if 6 < n ∨ 60 < t then (⟨0, 0, []⟩, 3) else (⟨n, t, rowsOf n.toNat f⟩, 0)
theorem range_map_succ {α : Type} (g : Nat → α) (k : Nat) : (List.range (k + 1)).map g = (List.range k).map g ++ [g k] := by rw [List.range_succ, List.map_append]; rfl

set_option maxRecDepth 100000 in
set_option maxHeartbeats 8000000 in
theorem makeChain_any (n : Nat) (t : Int) (F : Nat) (caps : Array Value) (f : Nat → Nat → Int) (w : World) (hn : 1 ≤ n) (hn6 : n ≤ 6) (ht : t ≤ 60)
    (hcf0 : ∀ args w, (callFunc F args).run Try.prog w = .ok (.enter F args) w)
    (hF0 : ∀ (W : World) (s j : Nat), Below w.heap.size w W → s < n → j < n → Calls Try.prog F (#[.int .i64 s, .int .i64 j] ++ caps) W fun e W' => e = .returned (.int .i64 (f s j)) ∧ ∃ m, W' = W.drewN m) :
    Calls Try.prog 169 #[.int .i64 n, .int .i64 t, .func (.func F) #[] caps] w fun e w' => ∃ cv, e = .returned (.tuple #[cv, .int .i64 0]) ∧ ChOwn 25 2 w' w.heap.size w'.heap.size cv ⟨n, t, rowsOf n f⟩ ∧ Below w.heap.size w w' := by
  have hF := Lib.hid hF0
  have hcf := hcf0
  have hmk := make_cap n (by omega) (by omega)
  obtain ⟨i0, hi, hz0, hz1, hz2⟩ := info_parts Try.infoI
  obtain ⟨i1, ki, kz0, kz1, kz2⟩ := info_parts Try.infoR
  have hi' := Lib.hid hi; have hz0' := Lib.hid hz0; have hz1' := Lib.hid hz1; have hz2' := Lib.hid hz2
  have ki' := Lib.hid ki; have kz0' := Lib.hid kz0; have kz1' := Lib.hid kz1; have kz2' := Lib.hid kz2
  clear hF0 hcf0 hi hz0 hz1 hz2 ki kz0 kz1 kz2
  have B2 := below2 w (.cells #[.int .i64 0, .int .i64 0, .slice none 0 0] 29) (.cells #[.int .i64 n, .int .i64 t, .slice none 0 0] 29)
  have hA := (Blk.new w #[.int .i64 0, .int .i64 0, .slice none 0 0] 29).alloc (.cells #[.int .i64 n, .int .i64 t, .slice none 0 0] 29)
  have hC := Blk.new (w.alloc (.cells #[.int .i64 0, .int .i64 0, .slice none 0 0] 29)) #[.int .i64 n, .int .i64 t, .slice none 0 0] 29
  simp only [World.size_alloc] at hC
  go_enter Try.func169, Try.ntmps169
  go_wp2
  have hsz0 : ((w.alloc (.cells #[.int .i64 0, .int .i64 0, .slice none 0 0] 29)).alloc (.cells #[.int .i64 n, .int .i64 t, .slice none 0 0] 29)).heap.size = w.heap.size + 2 := by simp
  generalize (w.alloc (.cells #[.int .i64 0, .int .i64 0, .slice none 0 0] 29)).alloc (.cells #[.int .i64 n, .int .i64 t, .slice none 0 0] 29) = W at *
  have hsz0' := Lib.hid hsz0
  clear hsz0
  go_loopw [23] (fun i wr => ∃ (k : Nat) (a : Option Addr) (cap : Nat) (rvs : List Value), k ≤ n ∧ i = .int .i64 k ∧ Blk wr (w.heap.size + 1) #[.int .i64 n, .int .i64 t, .slice a k cap] 29 ∧ Blk wr w.heap.size #[.int .i64 0, .int .i64 0, .slice none 0 0] 29 ∧
      MadeTo wr (w.heap.size + 2) wr.heap.size (.slice a k cap) rvs ((List.range k).map fun s => (List.range n).map fun j => f s j) ∧ Below w.heap.size w wr ∧ w.heap.size + 2 ≤ wr.heap.size) (fun i _ => n - (intOf i).toNat)
  case atStart => exact ⟨0, none, 0, [], Nat.zero_le _, rfl, hC, hA, by simpa using MadeTo.start W (w.heap.size + 2), B2, by have := hsz0'.out; omega⟩
  case round =>
    obtain ⟨wo, rfl⟩ : ∃ wo : World, wo = wr := ⟨_, rfl⟩
    obtain ⟨k, a, cap, rvs, hk, rfl, hC1, hA1, hM, hb1, hs1⟩ := hrel
    have hM' := Lib.hid hM
    clear hM
    by_cases hlt : k < n
    · go_wp2
      go_loopw [10, 29] (fun v i wr => ∃ j : Nat, j ≤ n ∧ i = .int .i64 j ∧ wr.ownsRow wo.heap.size 2 1 v j (ints ((List.range j).map fun j => f k j)) ∧ Below wo.heap.size wo wr) (fun _ i _ => n - (intOf i).toNat)
      case atStart =>
        exact ⟨0, Nat.zero_le _, rfl, by simpa using World.ownsRow_made wo (madeCells #[.int .i64 0] n) n (Nat.le_refl _) (by unfold maxLen; omega) (by rw [size_madeCells]; omega), below1 _ _⟩
      case round =>
        obtain ⟨j, hj, rfl, hown, bel⟩ := hrel
        by_cases hjlt : j < n
        · have hcall := hF.out wr k j (hb1.trans (bel.mono hs1 |>.mono (by omega))) hlt hjlt
          have hsz := bel.size
          have hts := Lib.hid (range_map_succ (fun j => f k j) j)
          generalize f k j = x at hcall hts
          go_wp2_with fail
          refine hcall.mono ?_
          rintro e w2 ⟨rfl, m, rfl⟩
          have hown' : (wr.drewN m).ownsRow wo.heap.size 2 1 _ j (ints ((List.range j).map fun j => f k j)) := hown
          go_wp2_with (at_builtin; (refine wpList_append_own _ rfl _ _ 25 rfl wo.heap.size 2 i0 (.int .i64 0) 1 8 Try.underlying25 hi'.out hz0'.out hz1'.out hz2'.out rfl (by decide) _ _ _ rfl (hown'.alloc _) ⟨wr.heap.size, 0, none⟩ 1 1 [.int .i64 x] rfl rfl (one_new _ _ _) (by simp [Value.oneCell']) (by unfold maxLen; omega) (by omega) (by simp; omega) ?_); intro v' w2 hown2 hgr2 _)
          go_roundw
          case rel =>
            refine ⟨j + 1, by omega, by go_num, ?_, ((below_drewN bel m).alloc (by simpa using hsz) _).grown hgr2 (by simp; omega) (fun k' hk' => (hown.lt k' hk').1)⟩
            rw [hts.out]
            simpa [ints] using hown2
          case measure => simp [intOf]; omega
        · obtain rfl : j = n := by omega
          have hsz := bel.size
          obtain ⟨g, gc, rfl⟩ := ownsRow_shape hown (by omega)
          have hrow : Own wr wo.heap.size wr.heap.size 2 _ (ints ((List.range j).map fun i => f k i)) := Own.of hown (Nat.le_refl _)
          have hrow' := Lib.hid hrow
          have hM := hM'.out
          have hMown : wr.ownsRow (w.heap.size + 2) 25 1 (.slice a k cap) k rvs := by
            have h1 := hM.own
            simp only [List.length_map, List.length_range] at h1
            refine ⟨h1.1, ?_⟩
            rcases h1.2 with h0 | ⟨g, cap, cur, hv, hgg, hh, r⟩
            · exact Or.inl h0
            · exact Or.inr ⟨g, cap, cur, hv, hgg, by rw [bel.block g (Array.getElem?_eq_some_iff.1 hh).1]; exact hh, r⟩
          have hC2 := hC1.keep bel hC1.lt
          have hA2 := hA1.keep bel hA1.lt
          have q2 : wr.cell? ⟨w.heap.size + 1, 2, none⟩ = some (.slice a k cap) := hC2.cell 2
          have ltC := hC2.lt
          have q2' : ∀ o, (wr.alloc o).cell? ⟨w.heap.size + 1, 2, none⟩ = some (.slice a k cap) := fun o => (World.cell?_alloc_past _ _ _ ltC).trans q2
          have hne : ∀ k', k' < w.heap.size + 2 → (Value.slice a k cap).ownBlock ≠ some k' := fun k' hk' hh => by have := (ownsRow_type hMown hh).1; omega
          have hne' := Lib.hid hne
          clear hM hrow hown hne
          go_wp2_with (at_builtin; (refine wpList_append_own _ rfl _ _ 22 rfl (w.heap.size + 2) 25 i1 (.slice none 0 0) 1 24 Try.underlying22 ki'.out kz0'.out kz1'.out kz2'.out rfl (by decide) _ _ _ rfl (hMown.alloc _) ⟨wr.heap.size, 0, none⟩ 1 1 [.slice (some ⟨g, 0, none⟩) j gc] rfl rfl (one_new _ _ _) (by simp [Value.oneCell']) (by unfold maxLen; omega) (by omega) (by simp; omega) ?_); intro v' w2 hown2 hgr2 _; obtain ⟨g2, c2, rfl⟩ := ownsRow_shape hown2 (by omega); have hC3 : Blk w2 (w.heap.size + 1) _ _ := (hgr2.block (w.heap.size + 1) (by simp; omega) (fun e => hne'.out _ (by omega) e.symm)).trans (hC2.alloc _); have hf3 := hC3.frozen 2; have hc3 := hC3.cell 2; simp at hc3)
          go_roundw
          case rel =>
            have hg2 := hgr2.size
            simp at hg2
            have hA3 : Blk w2 w.heap.size _ _ := (hgr2.block w.heap.size (by simp; omega) (fun e => hne'.out _ (by omega) e.symm)).trans (hA2.alloc _)
            have res := MadeTo.step (v' := .slice (some ⟨g2, 0, none⟩) (k + 1) c2) (a := ⟨w.heap.size + 1, 2, none⟩) hM'.out bel hrow'.out (by omega) _ (by simpa using hown2) hgr2 (by show w.heap.size + 1 < w.heap.size + 2; omega) (.slice (some ⟨g2, 0, none⟩) (k + 1) c2)
            refine ⟨k + 1, some ⟨g2, 0, none⟩, c2, rvs ++ [.slice (some ⟨g, 0, none⟩) j gc], by omega, by go_num, ?_, hA3.setOther (by simp) _, ?_, ?_, by simp [World.setCell]; omega⟩
            · have := hC3.set 2 (.slice (some ⟨g2, 0, none⟩) (k + 1) c2)
              simpa using this
            · rw [range_map_succ]
              exact res
            · refine Below.setCell ?_ (by show w.heap.size ≤ w.heap.size + 1; omega) _
              exact ((hb1.trans (bel.mono (by omega))).alloc (by omega) _).grown hgr2 (by simp; omega) (fun k' hk' => by have := (ownsRow_type hMown hk').1; omega)
          case measure => simp [intOf]; omega
    · obtain rfl : k = n := by omega
      have c10 := hA1.cell 0
      have c11 := hA1.cell 1
      have c12 := hA1.cell 2
      have f10 := hA1.frozen 0
      have f11 := hA1.frozen 1
      have f12 := hA1.frozen 2
      have c20 := hC1.cell 0
      have c21 := hC1.cell 1
      have c22 := hC1.cell 2
      simp at c10 c11 c12 c20 c21 c22
      go_wp2
      refine bodyPost_ret (v := .tuple #[.agg #[.int .i64 k, .int .i64 t, .slice a k cap], .int .i64 0]) (by simp [results, Try.results169, go_sem, c10, c11, c12]) rfl ?_
      have hown := hM'.out.done
      refine ⟨_, rfl, ⟨_, rfl, (hown.same ((((SameOn.refl _ _ _).set ?_ _).set ?_ _).set ?_ _)).wide (by omega) (by simp [World.setCell])⟩, ((hb1.setCell ?_ _).setCell ?_ _).setCell ?_ _⟩
      all_goals (simp only; omega)
end Go.Proofs.Ytkebfnmepbblnaa
