/- The project's networks of graphs: the lists of neighbours and the edges as pairs. Conditions: valid graphs. -/
import Derived.Laws.Rows
import Derived.Deep.AppendLies
import Derived.Deep.RegionLaw
import Derived.Test.YtfbhdlkiffoflaaGrV
import Derived.Test.YtfbhdlkiffoflaaMake
namespace Go.Proofs.Ytfbhdlkiffoflaa
open Go.RowKit Go.Deep
set_option linter.unusedVariables false

/-! ### pairs -/
def prs : List (Int × Int) → List Value
  | [] => []
  | p :: r => .int .i64 p.1 :: .int .i64 p.2 :: prs r
theorem prs_length : ∀ ps : List (Int × Int), (prs ps).length = ps.length * 2
  | [] => rfl
  | p :: r => by simp [prs, prs_length r]; omega
theorem prs_append : ∀ a b : List (Int × Int), prs (a ++ b) = prs a ++ prs b
  | [], b => rfl
  | p :: r, b => by simp [prs, prs_append r b]
theorem prs_get : ∀ (ps : List (Int × Int)) (i : Nat), i < ps.length → (prs ps)[i * 2]? = some (.int .i64 (ps.getD i (0, 0)).1) ∧ (prs ps)[i * 2 + 1]? = some (.int .i64 (ps.getD i (0, 0)).2)
  | [], i, h => by simp at h
  | p :: r, 0, _ => by simp [prs, List.getD]
  | p :: r, i + 1, h => by
    have := prs_get r i (by simpa using h)
    rw [show (i + 1) * 2 = i * 2 + 1 + 1 by omega]
    simpa [prs, List.getD] using this

/-- v reads as the pairs ps -/
def PrL (w : World) (v : Value) (ps : List (Int × Int)) : Prop :=
  ps.length ≤ maxLen ∧ ∃ a cap, v = .slice a ps.length cap ∧ (ps.length ≤ cap ∧ cap ≤ maxLen) ∧ ∀ i, i < ps.length → ∃ b off, a = some ⟨b, off, none⟩ ∧ w.cell? ⟨b, off + i * 2, none⟩ = some (.int .i64 (ps.getD i (0, 0)).1) ∧ w.cell? ⟨b, off + i * 2 + 1, none⟩ = some (.int .i64 (ps.getD i (0, 0)).2)
theorem PrL.keep {w w' : World} {v : Value} {ps : List (Int × Int)} (h : PrL w v ps) (hb : Below w.heap.size w w') : PrL w' v ps := by
  obtain ⟨hm, a, cap, hv, hk, hc⟩ := h
  refine ⟨hm, a, cap, hv, hk, fun i hi => ?_⟩
  obtain ⟨b, off, ha, h1, h2⟩ := hc i hi
  exact ⟨b, off, ha, (hb.cell (block_lt h1)).trans h1, (hb.cell (block_lt h2)).trans h2⟩
theorem PrL.len {w : World} {v : Value} {ps : List (Int × Int)} (h : PrL w v ps) : ps.length ≤ maxLen ∧ ∃ a cap, v = .slice a ps.length cap := by
  obtain ⟨hm, a, cap, hv, _⟩ := h
  exact ⟨hm, a, cap, hv⟩
theorem PrL.at {w : World} {v : Value} {ps : List (Int × Int)} (h : PrL w v ps) (hne : 0 < ps.length) :
    ∃ b off cap, v = .slice (some ⟨b, off, none⟩) ps.length cap ∧ b < w.heap.size ∧ ∀ i, i < ps.length → w.cell? ⟨b, off + i * 2, none⟩ = some (.int .i64 (ps.getD i (0, 0)).1) ∧ w.cell? ⟨b, off + i * 2 + 1, none⟩ = some (.int .i64 (ps.getD i (0, 0)).2) := by
  obtain ⟨hm, a, cap, hv, _, hc⟩ := h
  obtain ⟨b, off, ha, h1, h2⟩ := hc 0 hne
  subst ha
  refine ⟨b, off, cap, hv, block_lt h1, fun i hi => ?_⟩
  obtain ⟨b', off', ha, k1, k2⟩ := hc i hi
  cases ha
  exact ⟨k1, k2⟩
theorem PrL.of {w : World} {lo : Nat} {t : TypeId} {v : Value} {ps : List (Int × Int)} (h : w.ownsRow lo t 2 v ps.length (prs ps)) (hm : ps.length ≤ 1000000) : PrL w v ps := by
  have h' := h
  have hmx : ps.length ≤ maxLen := by unfold maxLen; omega
  refine ⟨hmx, ?_⟩
  rcases h.2 with ⟨hv, h0⟩ | ⟨g, cap, cur, rfl, hg, hh, hn, hc, hs, ht⟩
  · exact ⟨none, 0, by rw [hv, h0], ⟨by omega, by unfold maxLen; omega⟩, fun i hi => by omega⟩
  · refine ⟨some ⟨g, 0, none⟩, cap, rfl, ⟨hn, hc⟩, fun i hi => ⟨g, 0, rfl, ?_, ?_⟩⟩
    · rw [Nat.zero_add, h'.cellAt (i * 2) (by omega)]; exact (prs_get ps i hi).1
    · rw [Nat.zero_add, h'.cellAt (i * 2 + 1) (by omega)]; exact (prs_get ps i hi).2
theorem two_newP (w : World) (x y : Value) (t : TypeId) : ∀ j u, [x, y][j]? = some u → (w.alloc (.cells #[x, y] t)).cell? ((⟨w.heap.size, 0, none⟩ : Addr).add j) = some u := by
  intro j u hu
  match j with
  | 0 => simp at hu; subst hu; simp only [Addr.add, if_true]; rw [World.cell?_alloc_at _ _ _ _ rfl]; rfl
  | 1 => simp at hu; subst hu; rw [add_plain, World.cell?_alloc_at _ _ _ _ rfl]; rfl
  | j + 2 => simp at hu

/-! ### neighbours -/
def nbOf (v : Int) (ps : List (Int × Int)) : List Int := ps.flatMap fun p => (if p.1 = v then [p.2] else []) ++ (if p.2 = v then [p.1] else [])
def nbL (n : Nat) (ps : List (Int × Int)) : List (List Int) := (List.range n).map fun (v : Nat) => nbOf (v : Int) ps
theorem nbL_length (n : Nat) (ps : List (Int × Int)) : (nbL n ps).length = n := by simp [nbL]
theorem nbL_getD (n : Nat) (ps : List (Int × Int)) (i : Nat) (h : i < n) : (nbL n ps).getD i [] = nbOf (i : Int) ps := by simp [nbL, List.getD, h]
theorem nbL_nil (n : Nat) : nbL n [] = List.replicate n [] := by
  apply List.ext_getElem
  · simp [nbL]
  · intro i h1 h2; simp [nbL, nbOf]
theorem nbOf_length (v : Int) (ps : List (Int × Int)) : (nbOf v ps).length ≤ ps.length * 2 := by
  induction ps with
  | nil => simp [nbOf]
  | cons p r ih =>
    have e : nbOf v (p :: r) = ((if p.1 = v then [p.2] else []) ++ (if p.2 = v then [p.1] else [])) ++ nbOf v r := by simp [nbOf]
    rw [e, List.length_append, List.length_append, List.length_cons]
    have h1 : (if p.1 = v then [p.2] else []).length ≤ 1 := by split <;> simp
    have h2 : (if p.2 = v then [p.1] else []).length ≤ 1 := by split <;> simp
    omega
/-- an edge more: both ends get the other one -/
theorem nbL_succ (n : Nat) (ps : List (Int × Int)) (k a b : Nat) (hk : k < ps.length) (hp : ps.getD k (0, 0) = ((a : Int), (b : Int))) (ha : a < n) (hb : b < n) (hne : a ≠ b) :
    nbL n (ps.take (k + 1)) = ((nbL n (ps.take k)).set a (nbOf a (ps.take k) ++ [(b : Int)])).set b (nbOf b (ps.take k) ++ [(a : Int)]) := by
  have e : ps.take (k + 1) = ps.take k ++ [((a : Int), (b : Int))] := by
    rw [List.take_succ_eq_append_getElem hk]
    have : ps[k] = ps.getD k (0, 0) := by simp [List.getD, hk]
    rw [this, hp]
  have f : ∀ v : Int, nbOf v (ps.take k ++ [((a : Int), (b : Int))]) = nbOf v (ps.take k) ++ ((if (a : Int) = v then [(b : Int)] else []) ++ (if (b : Int) = v then [(a : Int)] else [])) := fun v => by
    simp [nbOf, List.flatMap_append]
  apply List.ext_getElem
  · simp [nbL]
  · intro i h1 h2
    have hi : i < n := by simpa [nbL] using h1
    have g : (nbL n (ps.take (k + 1)))[i] = nbOf (i : Int) (ps.take (k + 1)) := by simp [nbL]
    rw [g, e, f]
    by_cases h : i = b
    · subst h
      rw [List.getElem_set_self]
      rw [if_neg (by omega), if_pos rfl]; rfl
    · rw [List.getElem_set_ne (by omega)]
      by_cases h' : i = a
      · subst h'
        rw [List.getElem_set_self]
        rw [if_pos rfl, if_neg (by omega)]; simp
      · rw [List.getElem_set_ne (by omega)]
        rw [if_neg (by omega), if_neg (by omega)]
        simp [nbL]

/-- rows made so far, one of them with a number more, in the same place -/
theorem MadeTo.push {w w0 w2 : World} {lo hi g cap i g2 cap2 : Nat} {rvs : List Value} {yss : List (List Int)} {x : Int}
    (h : MadeTo w lo hi (.slice (some ⟨g, 0, none⟩) yss.length cap) rvs yss) (hi' : i < yss.length) (hb : Below w.heap.size w w0)
    (hown : w2.ownsRow lo 2 1 (.slice (some ⟨g2, 0, none⟩) ((yss.getD i []).length + 1) cap2) ((yss.getD i []).length + 1) (ints (yss.getD i []) ++ [.int .i64 x]))
    (hg : w0.grownBy w2 (rvs.getD i undef).ownBlock) (hat : (rvs.getD i undef).ownBlock = some g2 ∨ g2 = w0.heap.size) :
    MadeTo (w2.setCell ⟨g, i, none⟩ (.slice (some ⟨g2, 0, none⟩) ((yss.getD i []).length + 1) cap2)) lo (w2.setCell ⟨g, i, none⟩ (.slice (some ⟨g2, 0, none⟩) ((yss.getD i []).length + 1) cap2)).heap.size
      (.slice (some ⟨g, 0, none⟩) yss.length cap) (rvs.set i (.slice (some ⟨g2, 0, none⟩) ((yss.getD i []).length + 1) cap2)) (yss.set i (yss.getD i [] ++ [x])) := by
  have hl := h.len
  have hs3 : ∀ u, (w2.setCell ⟨g, i, none⟩ u).heap.size = w2.heap.size := fun u => by simp [World.setCell]
  have hs2 := hg.size
  have hs1 := hb.size
  have hsz := h.size
  have hgl := (h.own.lt g rfl).2
  -- the outer block
  have hne : (rvs.getD i undef).ownBlock ≠ some g := fun e => types_apart h.own (h.rows i hi').1 (by decide) (k := g) rfl e
  have o1 : Own w2 lo w.heap.size 32 (.slice (some ⟨g, 0, none⟩) yss.length cap) rvs :=
    ((Own.of h.own (Nat.le_refl _)).keep (Nat.le_refl _) hb).sameBlk fun k hk hv => hg.block k hk (by
      simp [Value.ownBlock] at hv; subst hv; exact fun e => hne e.symm)
  have hg2 : g2 ≠ g := fun e => by
    subst e
    exact types_apart o1.1 hown (by decide) (k := g2) rfl rfl
  generalize hnv : Value.slice (some ⟨g2, 0, none⟩) ((yss.getD i []).length + 1) cap2 = nv at *
  have hnb : nv.ownBlock = some g2 := by rw [← hnv]; rfl
  have hn : (rvs.set i nv).getD i undef = nv := by simp [List.getD, hl, hi']
  have ho : ∀ j, j ≠ i → (rvs.set i nv).getD j undef = rvs.getD j undef := fun j hj => by simp only [List.getD]; rw [List.getElem?_set_ne (Ne.symm hj)]
  have hyn : (yss.set i (yss.getD i [] ++ [x])).getD i [] = yss.getD i [] ++ [x] := by simp [List.getD, hi']
  have hyo : ∀ j, j ≠ i → (yss.set i (yss.getD i [] ++ [x])).getD j [] = yss.getD j [] := fun j hj => by simp only [List.getD]; rw [List.getElem?_set_ne (Ne.symm hj)]
  refine ⟨?_, fun j hj => ?_, fun j k hj hk hjk b hb1 => ?_, Nat.le_refl _⟩
  · have := (o1.set i nv).1
    rw [List.length_set] at this ⊢
    rw [hl] at this
    exact this
  · rw [List.length_set] at hj
    by_cases e : j = i
    · subst e
      rw [hn, hyn]
      have h1 : Own w2 lo w2.heap.size 2 nv (ints (yss.getD j [] ++ [x])) := by
        have := Own.of hown (Nat.le_refl _)
        simpa [ints] using this
      have := h1.setOther (a := ⟨g, j, none⟩) (by rw [hnb]; simp; omega) nv
      exact this.wide (Nat.le_refl _) (by rw [hs3]; exact Nat.le_refl _)
    · rw [ho j e, hyo j e]
      have h1 := ((h.rows j (by omega)).keep h.size hb).sameBlk (w' := w2) fun k hk hv => hg.block k hk (fun e2 => h.far j i (by omega) hi' e k hv e2.symm)
      have h2 : (rvs.getD j undef).ownBlock ≠ some g := fun e => types_apart h.own (h.rows j (by omega)).1 (by decide) (k := g) rfl e
      exact (h1.setOther (a := ⟨g, i, none⟩) h2 nv).wide (Nat.le_refl _) (by rw [hs3]; omega)
  · rw [List.length_set] at hj hk
    have old : ∀ m, m < yss.length → ∀ q, (rvs.getD m undef).ownBlock = some q → q < w0.heap.size := fun m hm q hq => by have := (h.rows m hm).2.2 q hq; omega
    by_cases e : j = i
    · subst e
      rw [hn, hnb] at hb1
      rw [ho k (Ne.symm hjk)]
      simp only [Option.some.injEq] at hb1
      subst hb1
      rcases hat with h1 | h1
      · exact fun e2 => h.far j k hj hk hjk _ h1 e2
      · exact fun e2 => by have := old k hk _ e2; omega
    · rw [ho j e] at hb1
      by_cases e' : k = i
      · subst e'
        rw [hn, hnb]
        intro e2
        simp only [Option.some.injEq] at e2
        subst e2
        rcases hat with h1 | h1
        · exact h.far j k hj hk hjk _ hb1 h1
        · have := old j hj _ hb1; omega
      · rw [ho k e']
        exact h.far j k hj hk hjk b hb1
theorem MadeTo.rowAt {w : World} {lo hi g cap i : Nat} {rvs : List Value} {yss : List (List Int)} (h : MadeTo w lo hi (.slice (some ⟨g, 0, none⟩) yss.length cap) rvs yss) (hi' : i < yss.length) :
    w.cell? ⟨g, i, none⟩ = some (rvs.getD i undef) ∧ w.frozen? ⟨g, i, none⟩ = false ∧ g < w.heap.size ∧ (rvs.getD i undef).ownBlock ≠ some g ∧ (∀ k, (rvs.getD i undef).ownBlock = some k → lo ≤ k ∧ k < hi) ∧ ∃ ra rc, rvs.getD i undef = .slice ra (yss.getD i []).length rc := by
  have hl := h.len
  refine ⟨?_, h.own.frozenAt i, (h.own.lt g rfl).2, fun e => types_apart h.own (h.rows i hi').1 (by decide) (k := g) rfl e, fun k hk => ⟨((h.rows i hi').1.lt k hk).1, (h.rows i hi').2.2 k hk⟩, ?_⟩
  · rw [h.own.cellAt i (by omega)]
    simp [List.getD, hl, hi']
  · obtain ⟨a, cap, e⟩ := ((h.rows i hi').row).len
    exact ⟨a, cap, by rw [e]; simp [ints]⟩
theorem MadeTo.blank (w : World) (n : Nat) (hn : n ≤ maxLen) :
    MadeTo (w.alloc (.cells (madeCells #[.slice none 0 0] n) 32)) w.heap.size (w.heap.size + 1) (.slice (some ⟨w.heap.size, 0, none⟩) n n) (List.replicate n (.slice none 0 0)) (List.replicate n []) := by
  refine ⟨?_, fun i hi => ?_, fun i j hi hj hne k hk => ?_, by simp⟩
  · have := (Own.made w (.slice none 0 0) n 32 hn).1
    simpa using this
  · have hi' : i < n := by simpa using hi
    have e : (List.replicate n (Value.slice none 0 0)).getD i undef = .slice none 0 0 := by simp [List.getD, hi']
    have e2 : (List.replicate n ([] : List Int)).getD i [] = [] := by simp [List.getD, hi']
    rw [e, e2]
    exact ⟨World.ownsRow_nil _ _ _ _, by simp [ints], fun k hk => by simp [Value.ownBlock] at hk⟩
  · have hi' : i < n := by simpa using hi
    have e : (List.replicate n (Value.slice none 0 0)).getD i undef = .slice none 0 0 := by simp [List.getD, hi']
    rw [e] at hk
    simp [Value.ownBlock] at hk
end Go.Proofs.Ytfbhdlkiffoflaa
