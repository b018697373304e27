/- networkOf of the project: the lists of neighbours of all nodes. Conditions: at most twenty nodes, edges between two different ones. -/
import Derived.Test.YtfbhdlkiffoflaaNw
import Derived.IntWalk
import Derived.Deep.CutBlock
namespace Go.Proofs.Ytfbhdlkiffoflaa
open Go.RowKit Go.Deep
set_option linter.unusedVariables false

def NetR (w : World) (lv ev : Value) (n : Nat) (ps : List (Int × Int)) : Prop := Rows2 w lv (nbL n ps) ∧ PrL w ev ps
theorem NetR.keep {w w' : World} {lv ev : Value} {n : Nat} {ps : List (Int × Int)} (h : NetR w lv ev n ps) (hb : Below w.heap.size w w') : NetR w' lv ev n ps := ⟨h.1.keep hb, h.2.keep hb⟩
/-- edges between different nodes -/
def prOk (n : Nat) (ps : List (Int × Int)) : Prop := ∀ k, k < ps.length → ∃ a b : Nat, ps.getD k (0, 0) = ((a : Int), (b : Int)) ∧ a < n ∧ b < n ∧ a ≠ b

theorem ownsRow_belowN {w w' : World} {lo n size : Nat} {e : TypeId} {v : Value} {vs : List Value} (h : w.ownsRow lo e size v n vs) (hb : Below w.heap.size w w') : w'.ownsRow lo e size v n vs := by
  refine ⟨h.1, ?_⟩
  rcases h.2 with h0 | ⟨g, cap, cur, hv, hg, hh, r⟩
  · exact Or.inl h0
  · exact Or.inr ⟨g, cap, cur, hv, hg, by rw [hb.block g (Array.getElem?_eq_some_iff.1 hh).1]; exact hh, r⟩

theorem grown_far {W1 w3 : World} {o : Obj} {row : Option Nat} (hg : ((W1.alloc o).drew).grownBy w3 row) {q : Nat} (hq : q < W1.heap.size) (hn : row ≠ some q) : w3.heap[q]? = W1.heap[q]? :=
  (hg.block q (by simp; omega) (fun e => hn e.symm)).trans (Below.heap_alloc _ _ _ hq)

/-- networkOf in the midst of a round: the rows made so far, the result's cell, the box of the edge at hand -/
structure NetAt (w W : World) (n bx : Nat) (x y : Value) (hi : Nat) (rvs : List Value) (ys : List (List Int)) : Prop where
  made : MadeTo W (w.heap.size + 1) hi (.slice (some ⟨w.heap.size + 1, 0, none⟩) n n) rvs ys
  len : ys.length = n
  bxo : w.heap.size + 1 < bx
  bxr : ∀ i, i < n → (rvs.getD i undef).ownBlock ≠ some bx
  box : Blk W bx #[x, y] 90
  res : Blk W w.heap.size #[.slice none 0 0, .slice none 0 0] 65
  bel : Below w.heap.size w W
theorem NetAt.start {w wr : World} {n hi : Nat} {rvs : List Value} {ys : List (List Int)} (x y : Value) (hM : MadeTo wr (w.heap.size + 1) hi (.slice (some ⟨w.heap.size + 1, 0, none⟩) n n) rvs ys) (hl : ys.length = n)
    (hB : Blk wr w.heap.size #[.slice none 0 0, .slice none 0 0] 65) (bel : Below w.heap.size w wr) : NetAt w (wr.alloc (.cells #[x, y] 90)) n wr.heap.size x y hi rvs ys := by
  have h1 := hM
  rw [← hl] at h1
  refine ⟨⟨hM.own.alloc _, fun i hi' => ((hM.rows i hi').keep hM.size (below1 _ _)), hM.far, by have := hM.size; simp; omega⟩, hl, ?_, fun i hi' e => ?_, Blk.new _ _ _, hB.alloc _, bel.alloc bel.size _⟩
  · have := (h1.own.lt _ rfl).2
    exact this
  · have := (hM.rows i (by omega)).2.2 _ e
    have := hM.size
    omega
theorem NetAt.row {w W : World} {n bx hi : Nat} {x y : Value} {rvs : List Value} {ys : List (List Int)} (h : NetAt w W n bx x y hi rvs ys) (i : Nat) (hi' : i < n) :
    ∃ ra rc, rvs.getD i undef = .slice ra (ys.getD i []).length rc ∧ W.cell? ⟨w.heap.size + 1, i, none⟩ = some (.slice ra (ys.getD i []).length rc) ∧ W.frozen? ⟨w.heap.size + 1, i, none⟩ = false ∧
      w.heap.size + 1 < W.heap.size ∧ bx < W.heap.size ∧ bx ≠ w.heap.size + 1 ∧ (Value.slice ra (ys.getD i []).length rc).ownBlock ≠ some (w.heap.size + 1) ∧ (Value.slice ra (ys.getD i []).length rc).ownBlock ≠ some bx ∧
      W.ownsRow (w.heap.size + 1) 2 1 (.slice ra (ys.getD i []).length rc) (ys.getD i []).length (ints (ys.getD i [])) := by
  have h1 := h.made
  have hl := h.len
  rw [← hl] at h1
  obtain ⟨cA, fA, lA, nA, -, ra, rac, eA⟩ := h1.rowAt (i := i) (by omega)
  have hrow := (h1.rows i (by omega)).1
  rw [show (ints (ys.getD i [])).length = (ys.getD i []).length by simp [ints]] at hrow
  have hb := h.bxr i hi'
  rw [eA] at cA hrow nA hb
  exact ⟨ra, rac, eA, cA, fA, lA, h.box.lt, by have := h.bxo; omega, nA, hb, hrow⟩
theorem NetAt.push {w W w3 : World} {n bx hi i g2 cap2 L rc : Nat} {ra : Option Addr} {x y : Value} {z : Int} {rvs : List Value} {ys : List (List Int)} {o : Obj} (h : NetAt w W n bx x y hi rvs ys) (hi' : i < n)
    (hrv : rvs.getD i undef = .slice ra L rc) (hL : (ys.getD i []).length = L)
    (hown : w3.ownsRow (w.heap.size + 1) 2 1 (.slice (some ⟨g2, 0, none⟩) (L + 1) cap2) (L + 1) (ints (ys.getD i []) ++ [.int .i64 z]))
    (hg : ((W.alloc o).drew).grownBy w3 (Value.slice ra L rc).ownBlock) (hat : (Value.slice ra L rc).ownBlock = some g2 ∨ g2 = W.heap.size + 1) :
    NetAt w (w3.setCell ⟨w.heap.size + 1, i, none⟩ (.slice (some ⟨g2, 0, none⟩) (L + 1) cap2)) n bx x y (w3.setCell ⟨w.heap.size + 1, i, none⟩ (.slice (some ⟨g2, 0, none⟩) (L + 1) cap2)).heap.size
      (rvs.set i (.slice (some ⟨g2, 0, none⟩) (L + 1) cap2)) (ys.set i (ys.getD i [] ++ [z])) := by
  have h1 := h.made
  have hl := h.len
  rw [← hl] at h1
  have hb : Below W.heap.size W ((W.alloc o).drew) := (below1 _ _).drew
  subst hL
  rw [← hrv] at hg hat
  have hp := h1.push (i := i) (x := z) (by omega) hb hown hg (hat.imp id fun e => by simp [World.drew]; exact e)
  rw [hl] at hp
  obtain ⟨-, -, lA, nA, rA, -⟩ := h1.rowAt (i := i) (by omega)
  have hbl := h.box.lt
  have hrl := h.res.lt
  have hbo := h.bxo
  refine ⟨hp, by simpa using hl, hbo, fun j hj e => ?_, ?_, ?_, ?_⟩
  · by_cases e1 : j = i
    · subst e1
      have hrl : j < rvs.length := by have := h1.len; omega
      rw [show (rvs.set j (Value.slice (some ⟨g2, 0, none⟩) ((ys.getD j []).length + 1) cap2)).getD j undef = .slice (some ⟨g2, 0, none⟩) ((ys.getD j []).length + 1) cap2 by simp [List.getD, hrl]] at e
      simp only [Value.ownBlock, Option.some.injEq] at e
      subst e
      rcases hat with e2 | e2
      · exact h.bxr j hi' e2
      · omega
    · rw [show (rvs.set i (Value.slice (some ⟨g2, 0, none⟩) ((ys.getD i []).length + 1) cap2)).getD j undef = rvs.getD j undef by simp only [List.getD]; rw [List.getElem?_set_ne (Ne.symm e1)]] at e
      exact h.bxr j hj e
  · exact Blk.setOther (Eq.trans (grown_far hg hbl (h.bxr i hi')) h.box) (by simp only; omega) _
  · exact Blk.setOther (Eq.trans (grown_far hg hrl (fun e => by have := (rA _ e).1; omega)) h.res) (by simp only; omega) _
  · exact ((((h.bel.alloc h.bel.size o).drew).grown hg (by have := h.bel.size; simp [World.drew]; omega) (fun k hk => by have := (rA k hk).1; omega))).setCell (by simp only; omega) _

def NetMid (w wx : World) (n bx : Nat) (x y : Value) (ys : List (List Int)) : Prop := ∃ hi rvs, NetAt w wx n bx x y hi rvs ys
def NetEnd (w wx : World) (n : Nat) (ys : List (List Int)) : Prop := ∃ hi rvs, MadeTo wx (w.heap.size + 1) hi (.slice (some ⟨w.heap.size + 1, 0, none⟩) n n) rvs ys ∧ Blk wx w.heap.size #[.slice none 0 0, .slice none 0 0] 65 ∧ Below w.heap.size w wx
theorem NetAt.done {w W : World} {n bx hi : Nat} {x y : Value} {rvs : List Value} {ys : List (List Int)} (h : NetAt w W n bx x y hi rvs ys) : NetEnd w W n ys := ⟨hi, rvs, h.made, h.res, h.bel⟩

set_option maxRecDepth 100000 in
set_option maxHeartbeats 40000000 in
theorem networkOf_any (n : Nat) (ev : Value) (ps : List (Int × Int)) (w : World) (hv : PrL w ev ps) (hn : n ≤ 20) (hm0 : ps.length ≤ 100) (hok : prOk n ps) :
    Calls Try.prog 89 #[.int .i64 (n : Int), ev] w fun e w' => ∃ lv, e = .returned (.agg #[lv, ev]) ∧ (∀ W, SameOn w.heap.size w'.heap.size w' W → Rows2 W lv (nbL n ps)) ∧ Below w.heap.size w w' := by
  obtain ⟨hm, a, cap, rfl⟩ := hv.len
  have hmk := run_make_row' (P := Try.prog) 22 32 (.slice none 0 0) 24 Try.underlying22 Try.infoR rfl .i64 .i64 n (by omega) (by omega)
  have hok' := Lib.hid hok
  clear hok
  go_enter Try.func89, Try.ntmps89
  go_wp2
  have hM0 := MadeTo.blank (w.alloc (.cells #[.slice none 0 0, .slice none 0 0] 65)) n (by unfold maxLen; omega)
  have hB0 := (Blk.new w #[.slice none 0 0, .slice none 0 0] 65).alloc (.cells (madeCells #[.slice none 0 0] n) 32)
  have b0 := below2 w (.cells #[.slice none 0 0, .slice none 0 0] 65) (.cells (madeCells #[.slice none 0 0] n) 32)
  rw [← nbL_nil] at hM0
  simp only [World.size_alloc] at hM0
  have hM0' := Lib.hid hM0
  clear hM0
  go_loopw [12] (fun i wr => ∃ (k hi : Nat) (rvs : List Value), k ≤ ps.length ∧ i = .int .i64 k ∧ Hid (MadeTo wr (w.heap.size + 1) hi (.slice (some ⟨w.heap.size + 1, 0, none⟩) n n) rvs (nbL n (ps.take k))) ∧ Blk wr w.heap.size #[.slice none 0 0, .slice none 0 0] 65 ∧ Hid (Below w.heap.size w wr)) (fun i _ => ps.length - (intOf i).toNat)
  case atStart => exact ⟨0, _, _, Nat.zero_le _, rfl, by rw [List.take_zero]; exact hM0', hB0, b0⟩
  case round =>
    clear hM0' hB0 b0
    obtain ⟨k, hi, rvs, hk, rfl, hM, hB, bel⟩ := hrel
    by_cases hlt : k < ps.length
    · obtain ⟨pa, pb, hp, pan, pbn, hne⟩ := hok'.out k hlt
      obtain ⟨b, off, cap', hvv, hbl, hc⟩ := (hv.keep bel.out).at (by omega)
      simp only [Value.slice.injEq] at hvv
      obtain ⟨rfl, -, rfl⟩ := hvv
      obtain ⟨c0, c1⟩ := hc k hlt
      rw [hp] at c0 c1
      simp only at c0 c1
      have hsucc := Lib.hid (nbL_succ n ps k pa pb hlt hp pan pbn hne)
      have hyA := Lib.hid (nbL_getD n (ps.take k) pa pan)
      have hyB := Lib.hid (show ((nbL n (ps.take k)).set pa (nbOf pa (ps.take k) ++ [(pb : Int)])).getD pb [] = nbOf pb (ps.take k) by
        rw [← nbL_getD n (ps.take k) pb pbn]
        simp only [List.getD]
        rw [List.getElem?_set_ne hne])
      have hbA : (nbOf (pa : Int) (ps.take k)).length ≤ 200 := by
        have h1 := nbOf_length (pa : Int) (ps.take k)
        have h2 : (ps.take k).length ≤ k := List.length_take_le _ _
        omega
      have hbB : (nbOf (pb : Int) (ps.take k)).length ≤ 200 := by
        have h1 := nbOf_length (pb : Int) (ps.take k)
        have h2 : (ps.take k).length ≤ k := List.length_take_le _ _
        omega
      have N0 := Lib.hid (NetAt.start (.int .i64 (pa : Int)) (.int .i64 (pb : Int)) hM.out (nbL_length _ _) hB bel.out)
      clear hc hp hB
      obtain ⟨i0, hi0, hz0, hz1, hz2⟩ := info_parts Try.infoI
      have hi' := Lib.hid hi0; have hz0' := Lib.hid hz0; have hz1' := Lib.hid hz1; have hz2' := Lib.hid hz2
      have pI0 : (0 : Int) ≤ (pa : Int) := by omega
      have pI1 : (pa : Int) < (n : Int) := by omega
      have qI0 : (0 : Int) ≤ (pb : Int) := by omega
      have qI1 : (pb : Int) < (n : Int) := by omega
      clear hi0 hz0 hz1 hz2
      go_upto_block 1 with (fail)
      go_cut [] (fun wx => NetEnd w wx n (nbL n (ps.take (k + 1))))
      case first =>
        go_wp2
        obtain ⟨W1, hW1⟩ : ∃ u, wr.alloc (.cells #[.int .i64 (pa : Int), .int .i64 (pb : Int)] 90) = u := ⟨_, rfl⟩
        rw [hW1] at N0 ⊢
        clear hW1
        generalize wr.heap.size = bx at N0
        go_cut [] (fun wx => NetMid w wx n bx (.int .i64 (pa : Int)) (.int .i64 (pb : Int)) ((nbL n (ps.take k)).set pa (nbOf (pa : Int) (ps.take k) ++ [(pb : Int)])))
        case first =>
          -- the first end
          obtain ⟨e0, e1⟩ := N0.out.box.two
          obtain ⟨ra, rc, hrv, cA1, fA1, lA1, lB1, hbx, nA, nB, HR⟩ := N0.out.row pa pan
          rw [hyA.out] at hrv cA1 nA nB HR
          obtain ⟨LA, hLA⟩ : ∃ L, (nbOf (pa : Int) (ps.take k)).length = L := ⟨_, rfl⟩
          rw [hLA] at hrv cA1 nA nB HR hbA
          have hLA' := Lib.hid (show ((nbL n (ps.take k)).getD pa []).length = LA by rw [hyA.out]; exact hLA)
          have hrv' := Lib.hid hrv
          have nA' := Lib.hid nA
          have nB' := Lib.hid nB
          have HR' := Lib.hid HR
          have BX := Lib.hid N0.out.box
          have hbx' : ¬ w.heap.size + 1 = bx := by omega
          have cAo := fun o => (World.cell?_alloc_past o (w.heap.size + 1) pa lA1).trans cA1
          have e0o := fun o => (World.cell?_alloc_past o bx 0 lB1).trans e0
          have e1o := fun o => (World.cell?_alloc_past o bx 1 lB1).trans e1
          have fA' := Lib.hid fA1
          clear hLA hrv nA nB HR fA1
          go_region_law ((refine step_append_lies _ (by rfl) _ _ _ (by rfl) (w.heap.size + 1) 2 i0 (.int .i64 0) 1 8 Try.underlying32 hi'.out hz0'.out hz1'.out hz2'.out rfl (by omega) (.slice ra LA rc) LA _ (by rfl) ((HR'.out.alloc _).drew) ⟨W1.heap.size, 0, none⟩ 1 1 [.int .i64 (pb : Int)] (by rfl) (by rfl) (one_new _ _ _) (by simp [Value.oneCell']) (by omega) (by unfold maxLen; omega) (by omega) (by simp; omega) (W1.heap.size + 1) (by simp) ?_; intro gg cap2 w3 hown3 hgrow hat hlt3; have q3 := grown_far hgrow lA1 nA'.out; have c3 : w3.cell? ⟨w.heap.size + 1, pa, none⟩ = some (.slice ra LA rc) := (World.cell?_of_block q3).trans cA1; have f3 : w3.frozen? ⟨w.heap.size + 1, pa, none⟩ = false := (World.frozen?_of_block q3).trans fA'.out; have B3 : Blk w3 bx _ _ := (grown_far hgrow lB1 nB'.out).trans BX.out; obtain ⟨d0, d1⟩ := B3.two))
          all_goals
            have fin := N0.out.push (i := pa) (z := (pb : Int)) pan hrv'.out hLA'.out (by rw [hyA.out]; exact hown3) hgrow hat
            rw [hyA.out] at fin
            go_wp2_with fail
            go_meet
            exact ⟨_, _, fin⟩

        case rest =>
          obtain ⟨hi2, rvs2, N2⟩ := hcut
          have N2' := Lib.hid N2
          clear N2
          obtain ⟨W2, hW2⟩ : ∃ u, wc = u := ⟨_, rfl⟩
          rw [hW2] at N2' ⊢
          clear hW2
          go_upto_region 6 with (fail)
          -- the other end
          obtain ⟨e0, e1⟩ := N2'.out.box.two
          obtain ⟨ra, rc, hrv, cA1, fA1, lA1, lB1, hbx, nA, nB, HR⟩ := N2'.out.row pb pbn
          rw [hyB.out] at hrv cA1 nA nB HR
          obtain ⟨LA, hLA⟩ : ∃ L, (nbOf (pb : Int) (ps.take k)).length = L := ⟨_, rfl⟩
          rw [hLA] at hrv cA1 nA nB HR hbB
          have hLA' := Lib.hid (show (((nbL n (ps.take k)).set pa (nbOf (pa : Int) (ps.take k) ++ [(pb : Int)])).getD pb []).length = LA by rw [hyB.out]; exact hLA)
          have hrv' := Lib.hid hrv
          have nA' := Lib.hid nA
          have nB' := Lib.hid nB
          have HR' := Lib.hid HR
          have BX := Lib.hid N2'.out.box
          have hbx' : ¬ w.heap.size + 1 = bx := by omega
          have cAo := fun o => (World.cell?_alloc_past o (w.heap.size + 1) pb lA1).trans cA1
          have e0o := fun o => (World.cell?_alloc_past o bx 0 lB1).trans e0
          have e1o := fun o => (World.cell?_alloc_past o bx 1 lB1).trans e1
          have fA' := Lib.hid fA1
          clear hLA hrv nA nB HR fA1
          go_region_law ((refine step_append_lies _ (by rfl) _ _ _ (by rfl) (w.heap.size + 1) 2 i0 (.int .i64 0) 1 8 Try.underlying32 hi'.out hz0'.out hz1'.out hz2'.out rfl (by omega) (.slice ra LA rc) LA _ (by rfl) ((HR'.out.alloc _).drew) ⟨W2.heap.size, 0, none⟩ 1 1 [.int .i64 (pa : Int)] (by rfl) (by rfl) (one_new _ _ _) (by simp [Value.oneCell']) (by omega) (by unfold maxLen; omega) (by omega) (by simp; omega) (W2.heap.size + 1) (by simp) ?_; intro gg cap2 w3 hown3 hgrow hat hlt3; have q3 := grown_far hgrow lA1 nA'.out; have c3 : w3.cell? ⟨w.heap.size + 1, pb, none⟩ = some (.slice ra LA rc) := (World.cell?_of_block q3).trans cA1; have f3 : w3.frozen? ⟨w.heap.size + 1, pb, none⟩ = false := (World.frozen?_of_block q3).trans fA'.out; have B3 : Blk w3 bx _ _ := (grown_far hgrow lB1 nB'.out).trans BX.out; obtain ⟨d0, d1⟩ := B3.two))
          all_goals
            have fin := N2'.out.push (i := pb) (z := (pa : Int)) pbn hrv'.out hLA'.out (by rw [hyB.out]; exact hown3) hgrow hat
            rw [hyB.out] at fin
            go_wp2_with fail
            go_meet
            exact (by rw [hsucc.out]; exact fin.done)

      case rest =>
        obtain ⟨hi2, rvs2, hM2, hB2, bel2⟩ := hcut
        have hM2' := Lib.hid hM2
        clear hM2
        go_wp2
        go_roundw
        case rel => exact ⟨k + 1, hi2, rvs2, by omega, by go_num, hM2', hB2, bel2⟩
        case measure => simp [intOf]; omega
    · obtain rfl : k = ps.length := by omega
      obtain ⟨z0, z1⟩ := hB.two
      have zf0 := hB.frozen 0
      have zf1 := hB.frozen 1
      have hM' := Lib.hid (show MadeTo wr (w.heap.size + 1) hi (.slice (some ⟨w.heap.size + 1, 0, none⟩) n n) rvs (nbL n ps) by have := hM.out; rw [List.take_length] at this; exact this)
      clear hM
      go_wp2
      refine bodyPost_ret (v := .agg #[.slice (some ⟨w.heap.size + 1, 0, none⟩) n n, .slice a ps.length cap]) (by simp [results, Try.results89, go_sem, z0, z1]) rfl ?_
      have B2 := fun x y => (bel.out.setCell (p := ⟨w.heap.size, 0, none⟩) (Nat.le_refl _) x).setCell (p := ⟨w.heap.size, 1, none⟩) (Nat.le_refl _) y
      refine ⟨_, rfl, fun W hW => ?_, B2 _ _⟩
      refine (OwnRows.same (hM'.out.done.same (((SameOn.refl _ _ _).set (a := ⟨w.heap.size, 0, none⟩) (Or.inl (by simp)) (.slice (some ⟨w.heap.size + 1, 0, none⟩) n n)).set (a := ⟨w.heap.size, 1, none⟩) (Or.inl (by simp)) (.slice a ps.length cap))) (hW.mono (by omega) (by simp [World.setCell]))).rows
end Go.Proofs.Ytfbhdlkiffoflaa
