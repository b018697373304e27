/- A map whose keys are 0, 1, 2 .. in the order in which they came in: looked up, stored into, its length. And numbers in lists of the call's own, no two in one block. Conditions: none: plain lemmas. -/
import Derived.Test.YtkebfnmepbblnaaTouch
import Derived.Test.YtkebfnmepbblnaaMake
import Derived.Maps.OwnSet
import Derived.Maps.AppendAt
namespace Go.Proofs.Ytkebfnmepbblnaa
open Go.RowKit Go.Deep
open Go.ChangeMaps (setBlock)
set_option linter.unusedVariables false

def ents : Nat → List Value → List MapEntry
  | _, [] => []
  | i, v :: r => { key := .int .i64 (i : Int), val := v, born := i } :: ents (i + 1) r
theorem ents_len : ∀ (i : Nat) (vs : List Value), (ents i vs).length = vs.length
  | _, [] => rfl
  | i, v :: r => by simp [ents, ents_len (i + 1) r]
theorem ents_snoc : ∀ (i : Nat) (vs : List Value) (v : Value), ents i (vs ++ [v]) = ents i vs ++ [{ key := .int .i64 ((i + vs.length : Nat) : Int), val := v, born := i + vs.length }]
  | i, [], v => by simp [ents]
  | i, x :: r, v => by
    simp only [List.cons_append, ents, ents_snoc (i + 1) r v, List.length_cons]
    rw [show i + 1 + r.length = i + (r.length + 1) by omega]
theorem ents_at : ∀ (i : Nat) (vs : List Value) (n : Nat), n < vs.length → (ents i vs)[n]? = some { key := .int .i64 ((i + n : Nat) : Int), val := vs.getD n undef, born := i + n }
  | i, [], n, h => by simp at h
  | i, v :: r, 0, h => by simp [ents]
  | i, v :: r, n + 1, h => by
    have := ents_at (i + 1) r n (by simpa using h)
    simp only [ents, List.getElem?_cons_succ, this, List.getD_cons_succ]
    rw [show i + 1 + n = i + (n + 1) by omega]
theorem ents_set : ∀ (i : Nat) (vs : List Value) (n : Nat) (v : Value), (ents i vs).modify n (fun e => { e with key := e.key, val := v }) = ents i (vs.set n v)
  | i, [], n, v => by simp [ents]
  | i, x :: r, 0, v => by simp [ents]
  | i, x :: r, n + 1, v => by
    simp only [ents, List.set_cons_succ, List.modify_succ_cons]
    rw [ents_set (i + 1) r n v]
theorem find_ents : ∀ (i : Nat) (vs : List Value) (n : Nat), i ≤ n → Instr.findNow (.int .i64) (.int .i64 (n : Int)) (ents i vs) i = some (if n < i + vs.length then some (n, vs.getD (n - i) undef) else none)
  | i, [], n, h => by simp [ents, Instr.findNow]; omega
  | i, v :: r, n, h => by
    simp only [ents, Instr.findNow, Instr.sameNow]
    by_cases e : n = i
    · subst e; simp
    · have hne : ((n : Int) == (i : Int)) = false := by simp; omega
      rw [if_pos trivial, hne]
      simp only
      rw [find_ents (i + 1) r n (by omega)]
      simp only [List.length_cons]
      by_cases h2 : n < i + (r.length + 1)
      · rw [if_pos (by omega), if_pos h2, show n - i = (n - (i + 1)) + 1 by omega, List.getD_cons_succ]
      · rw [if_neg (by omega), if_neg h2]

/-- block b is the map from 0, 1, .. to vs -/
def Dense (w : World) (b : Nat) (vs : List Value) : Prop := w.heap[b]? = some (.map (ents 0 vs).toArray vs.length)
theorem Dense.lt {w : World} {b : Nat} {vs : List Value} (h : Dense w b vs) : b < w.heap.size := (Array.getElem?_eq_some_iff.1 h).1
theorem Dense.keep {w w' : World} {b : Nat} {vs : List Value} (h : Dense w b vs) (hb : Below w.heap.size w w') : Dense w' b vs := (hb.block b h.lt).trans h
theorem Dense.block {w w' : World} {b : Nat} {vs : List Value} (h : Dense w b vs) (hb : w'.heap[b]? = w.heap[b]?) : Dense w' b vs := hb.trans h
theorem Dense.made (w : World) : Dense (w.alloc (.map #[] 0)) w.heap.size [] := heap_alloc_new w _

section
variable {P : Program} {t k e : TypeId}
theorem run_check (n : Int) (em : Bool) (w : World) (hk : P.underlying k = some (.int .i64)) : (Instr.checkKey em 10000 k (.int .i64 n)).run P w = .ok () w := by
  unfold Instr.checkKey
  simp [run_underlying hk]
theorem lookup_dense {w : World} {b : Nat} {vs : List Value} (h : Dense w b vs) (ht : P.underlying t = some (.map k e)) (hk : P.underlying k = some (.int .i64)) (hz : (zeroValue e).run P w = .ok (.slice none 0 0) w) (n : Nat) :
    (Instr.lookup t (.map (some b)) (.int .i64 (n : Int)) false).run P w = .ok (vs.getD n (.slice none 0 0)) w := by
  have h1 : (getObj b).run P w = .ok (.map (ents 0 vs).toArray vs.length) w := run_getObj_map (w := w) (P := P) b _ _ h
  have hf := find_ents 0 vs n (Nat.zero_le _)
  by_cases hn : n < vs.length
  · rw [if_pos (by omega)] at hf
    have hv : vs.getD (n - 0) undef = vs.getD n (.slice none 0 0) := by simp [List.getD, hn]
    rw [hv] at hf
    simp [Instr.lookup, run_underlying ht, h1, run_check n _ w hk, Instr.findKey, run_underlying hk, hf]
  · rw [if_neg (by omega)] at hf
    have hv : vs.getD n (.slice none 0 0) = .slice none 0 0 := by simp [List.getD, Nat.not_lt.1 hn]
    rw [hv]
    simp [Instr.lookup, run_underlying ht, h1, run_check n _ w hk, Instr.findKey, run_underlying hk, hf, hz]
theorem len_dense {w : World} {b : Nat} {vs : List Value} (h : Dense w b vs) (ht : P.underlying t = some (.map k e)) (ty : TypeId) : (Builtin.len_ #[t] ty #[.map (some b)]).run P w = .ok (.int .i64 (vs.length : Int)) w := by
  have h1 : (getObj b).run P w = .ok (.map (ents 0 vs).toArray vs.length) w := run_getObj_map (w := w) (P := P) b _ _ h
  simp [Builtin.len_, run_underlying ht, h1, ents_len, goInt]
def putD (vs : List Value) (n : Nat) (v : Value) : List Value := if n < vs.length then vs.set n v else vs ++ [v]
theorem putD_len (vs : List Value) (n : Nat) (v : Value) : (putD vs n v).length = if n < vs.length then vs.length else vs.length + 1 := by
  unfold putD; split <;> simp
theorem update_dense {w : World} {b : Nat} {vs : List Value} (h : Dense w b vs) (ht : P.underlying t = some (.map k e)) (hk : P.underlying k = some (.int .i64)) (n : Nat) (hn : n ≤ vs.length) (v : Value) :
    (Instr.mapUpdate t (.map (some b)) (.int .i64 (n : Int)) v).run P w = .ok () (setBlock w b (.map (ents 0 (putD vs n v)).toArray (putD vs n v).length)) := by
  have h1 : (getObj b).run P w = .ok (.map (ents 0 vs).toArray vs.length) w := run_getObj_map (w := w) (P := P) b _ _ h
  have h2 : ∀ o, (setObj b o).run P w = .ok () (setBlock w b o) := fun o => MapKept.run_setObj_map o h
  have hf := find_ents 0 vs n (Nat.zero_le _)
  by_cases hn : n < vs.length
  · rw [if_pos (by omega)] at hf
    have hsb : ∀ x : Int, Instr.sameBits 10000 (.int .i64 x) (.int .i64 x) = true := fun x => by simp [Instr.sameBits]
    have hks : ∀ (x : Int) (u : World), (Instr.keyThatStays (.int .i64 x) (.int .i64 x)).run P u = .ok (.int .i64 x) u := fun x u => by simp [Instr.keyThatStays, hsb]
    have hget := ents_at 0 vs n hn
    have hmod : ((ents 0 vs).modify n fun e => { key := .int .i64 (n : Int), val := v, born := e.born }) = ents 0 (vs.set n v) := by
      rw [← ents_set 0 vs n v]
      apply List.ext_getElem?
      intro j
      rw [List.getElem?_modify, List.getElem?_modify]
      by_cases e : n = j
      · subst e
        simp only [if_true]
        rw [hget]
        simp
      · simp [e]
    have hp : putD vs n v = vs.set n v := by simp [putD, hn]
    rw [hp, List.length_set]
    have hg2 : (Option.map (fun x => x.key) (ents 0 vs)[n]?).getD (.int .i64 (n : Int)) = .int .i64 (n : Int) := by
      rw [hget]; simp
    simp only [Instr.mapUpdate, Sem.run_bind, run_underlying ht, h1, run_check n _ w hk, Instr.findKey, run_underlying hk, hf, Result.andThen]
    simp [hg2, hks, hmod, h2]
  · rw [if_neg (by omega)] at hf
    obtain rfl : n = vs.length := by omega
    have hp : putD vs vs.length v = vs ++ [v] := by simp [putD]
    have hpush : (ents 0 vs).toArray.push { key := .int .i64 (vs.length : Int), val := v, born := vs.length } = (ents 0 (vs ++ [v])).toArray := by
      rw [ents_snoc]; simp
    rw [hp, List.length_append]
    simp [Instr.mapUpdate, run_underlying ht, h1, run_check _ _ w hk, Instr.findKey, run_underlying hk, hf, hpush, h2]
theorem Dense.put {w : World} {b : Nat} {vs vs' : List Value} (h : Dense w b vs) : Dense (setBlock w b (.map (ents 0 vs').toArray vs'.length)) b vs' := by
  have := h.lt
  simp [Dense, setBlock, this]
theorem setBlock_other (w : World) (b : Nat) (o : Obj) {k : Nat} (h : k ≠ b) : (setBlock w b o).heap[k]? = w.heap[k]? := by
  simp [setBlock, Ne.symm h]
end

/-! ### lists of the call's own, no two in one block -/
structure Fam (w : World) (lo hi : Nat) (vs : Nat → Value) (xs : Nat → List Int) : Prop where
  own : ∀ i, Own w lo hi 2 (vs i) (ints (xs i))
  far : ∀ i j, i ≠ j → ∀ k, (vs i).ownBlock = some k → (vs j).ownBlock ≠ some k
  size : hi ≤ w.heap.size
theorem Fam.start (w : World) (lo : Nat) : Fam w lo w.heap.size (fun _ => .slice none 0 0) (fun _ => []) :=
  ⟨fun i => Own.of (World.ownsRow_nil w lo _ _) (Nat.le_refl _), fun i j _ k hk => by simp [Value.ownBlock] at hk, Nat.le_refl _⟩
theorem Fam.same {w w' : World} {lo hi : Nat} {vs : Nat → Value} {xs : Nat → List Int} (h : Fam w lo hi vs xs) (hb : ∀ k, lo ≤ k → k < hi → w'.heap[k]? = w.heap[k]?) (hs : hi ≤ w'.heap.size) : Fam w' lo hi vs xs :=
  ⟨fun i => (h.own i).same hb, h.far, hs⟩
theorem Fam.keep {w w' : World} {lo hi : Nat} {vs : Nat → Value} {xs : Nat → List Int} (h : Fam w lo hi vs xs) (hb : Below w.heap.size w w') : Fam w' lo hi vs xs :=
  h.same (fun k _ h2 => hb.block k (by have := h.size; omega)) (Nat.le_trans h.size hb.size)
theorem Fam.owns {w : World} {lo hi : Nat} {vs : Nat → Value} {xs : Nat → List Int} (h : Fam w lo hi vs xs) (i : Nat) : w.ownsRow lo 2 1 (vs i) (xs i).length (ints (xs i)) := by
  have := (h.own i).1
  simpa [ints] using this
theorem Fam.grow {w w' : World} {lo hi : Nat} {vs : Nat → Value} {xs : Nat → List Int} (h : Fam w lo hi vs xs) (i : Nat) {v' : Value} {ys : List Int} (hg : w.grownBy w' (vs i).ownBlock) (ho : w'.ownsRow lo 2 1 v' ys.length (ints ys))
    (hat : v'.ownBlock = (vs i).ownBlock ∨ ∃ k, v'.ownBlock = some k ∧ w.heap.size ≤ k) :
    Fam w' lo w'.heap.size (fun j => if j = i then v' else vs j) (fun j => if j = i then ys else xs j) := by
  have hs := h.size
  have hne : ∀ j, j ≠ i → ∀ k, (vs j).ownBlock = some k → v'.ownBlock ≠ some k := by
    intro j hj k hk hk'
    have hlt := (h.own j).2.2 k hk
    rcases hat with h1 | ⟨k', h1, h2⟩
    · rw [h1] at hk'; exact h.far i j (Ne.symm hj) k hk' hk
    · rw [h1] at hk'; simp at hk'; omega
  refine ⟨fun j => ?_, fun j l hjl k hk => ?_, Nat.le_refl _⟩
  · by_cases e : j = i
    · subst e; simp only [if_true]; exact Own.of ho (Nat.le_refl _)
    · simp only [e, if_false]
      have h1 := h.own j
      refine (h1.sameBlk fun k hk hkb => ?_).wide (Nat.le_refl _) (Nat.le_trans hs hg.size)
      exact hg.block k (by omega) (fun e2 => h.far j i e k hkb e2.symm)
  · by_cases e : j = i
    · subst e
      simp only [if_true] at hk
      simp only [Ne.symm hjl, if_false]
      intro hc
      exact hne l (Ne.symm hjl) k hc hk
    · simp only [e, if_false] at hk
      by_cases e2 : l = i
      · subst e2; simp only [if_true]; exact hne j e k hk
      · simp only [e2, if_false]; exact h.far j l hjl k hk
end Go.Proofs.Ytkebfnmepbblnaa
