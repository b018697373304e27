/- A list that lies in a block of the call's own from some place on, with whatever capacity behind it: how it is cut at its front, and grows by one element. Conditions: one-cell elements. -/
import Derived.Test.YtkebfnmepbblnaaMem
import Derived.Deep.Onto
namespace Go.Proofs.Ytkebfnmepbblnaa
open Go.RowKit Go.Deep
set_option linter.unusedVariables false

/-- v lies in a block of the type e from lo on, not frozen, and reads as xs -/
def Que (w : World) (lo : Nat) (e : TypeId) (v : Value) (xs : List Value) : Prop :=
  ∃ g off cap cur, v = .slice (some ⟨g, off, none⟩) xs.length cap ∧ lo ≤ g ∧ w.heap[g]? = some (.cells cur e (0, 0)) ∧ xs.length ≤ cap ∧ cap ≤ maxLen ∧ off + cap ≤ cur.size ∧ ∀ i, i < xs.length → cur[off + i]? = some (xs.getD i undef)

theorem Que.keep {w w' : World} {lo B : Nat} {e : TypeId} {v : Value} {xs : List Value} (h : Que w lo e v xs) (hb : Below w.heap.size w w') : Que w' lo e v xs := by
  obtain ⟨g, off, cap, cur, hv, hg, hh, r⟩ := h
  exact ⟨g, off, cap, cur, hv, hg, by rw [hb.block g (Array.getElem?_eq_some_iff.1 hh).1]; exact hh, r⟩
theorem Que.alloc {w : World} {lo : Nat} {e : TypeId} {v : Value} {xs : List Value} (h : Que w lo e v xs) (o : Obj) : Que (w.alloc o) lo e v xs := h.keep (B := 0) (below1 _ _)
theorem Que.shape {w : World} {lo : Nat} {e : TypeId} {v : Value} {xs : List Value} (h : Que w lo e v xs) : ∃ g off cap, v = .slice (some ⟨g, off, none⟩) xs.length cap ∧ lo ≤ g ∧ g < w.heap.size ∧ xs.length ≤ cap ∧ cap ≤ maxLen := by
  obtain ⟨g, off, cap, cur, hv, hg, hh, h1, h2, _⟩ := h
  exact ⟨g, off, cap, hv, hg, (Array.getElem?_eq_some_iff.1 hh).1, h1, h2⟩
theorem Que.row {w : World} {lo : Nat} {e : TypeId} {v : Value} {xs : List Value} (h : Que w lo e v xs) : Row w v xs := by
  obtain ⟨g, off, cap, cur, rfl, hg, hh, h1, h2, h3, h4⟩ := h
  refine ⟨by omega, some ⟨g, off, none⟩, cap, rfl, ⟨h1, h2⟩, fun i hi => ⟨g, off, rfl, ?_⟩⟩
  rw [← h4 i hi]
  simp [World.cell?, hh]
/-- the first element is left out: 'v[1:]' -/
theorem Que.tail {w : World} {lo g off n cap : Nat} {e : TypeId} {x : Value} {xs : List Value} (h : Que w lo e (.slice (some ⟨g, off, none⟩) n cap) (x :: xs)) : Que w lo e (.slice (some ⟨g, off + 1, none⟩) (n - 1) (cap - 1)) xs ∧ (cap - 1 = 0 → Que w lo e (.slice (some ⟨g, off, none⟩) (n - 1) (cap - 1)) xs) := by
  obtain ⟨g', off', cap', cur, hv, hg, hh, h1, h2, h3, h4⟩ := h
  simp only [Value.slice.injEq, Option.some.injEq, Addr.mk.injEq] at hv
  obtain ⟨⟨rfl, rfl, -⟩, rfl, rfl⟩ := hv
  simp only [List.length_cons] at h1 h4 ⊢
  refine ⟨⟨g, off + 1, cap - 1, cur, by simp, hg, hh, by omega, by omega, by omega, fun i hi => ?_⟩, fun hc => ⟨g, off, cap - 1, cur, by simp, hg, hh, by omega, by omega, by omega, fun i hi => by omega⟩⟩
  have := h4 (i + 1) (by omega)
  rw [show off + 1 + i = off + (i + 1) by omega, this]
  simp [List.getD]
theorem Que.ofOwns {w : World} {lo n : Nat} {e : TypeId} {v : Value} {xs : List Value} (h : w.ownsRow lo e 1 v n xs) (hn : 0 < n) : Que w lo e v xs := by
  have hl : xs.length = n := by simpa using h.1
  have h' := h
  rcases h.2 with ⟨_, h0⟩ | ⟨g, cap, cur, rfl, hg, hh, h1, h2, h3, h4⟩
  · omega
  · refine ⟨g, 0, cap, cur, by rw [hl], hg, hh, by omega, h2, by omega, fun i hi => ?_⟩
    have hc := h'.cellAt i (by omega)
    simp only [World.cell?, hh] at hc
    rw [Nat.zero_add]
    simp only [List.getD, List.getElem?_eq_getElem hi, Option.getD_some] at hc ⊢
    simpa using hc

section
variable {P : Program}
theorem run_append_que {w : World} {lo : Nat} {e : TypeId} {v : Value} {xs : List Value} (h : Que w lo e v xs) (hlo : lo ≤ w.heap.size)
    (t ty : TypeId) (i : TypeInfo) (z : Value) (bytes : Nat) (ht : P.underlying t = some (.slice e)) (hi : P.info? e = some i) (hz : i.zero = some z) (hsize : i.size = 1) (hby : i.bytes = bytes) (hzs : z.cells.size = 1)
    (ad : Addr) (c : Nat) (x : Value) (hx : w.cell? ad = some x) (h1 : x.oneCell' = true) (h63 : xs.length + 1 ≤ maxLen) (hbytes : (xs.length + 1) * bytes ≤ 140737488355328) :
    ∃ v' w', (Builtin.append_ #[t, t] ty #[v, .slice (some ad) 1 c]).run P w = .ok v' w' ∧ Que w' lo e v' (xs ++ [x]) ∧ w.grownBy w' v.ownBlock ∧ (v'.ownBlock = v.ownBlock ∨ ∀ k, v'.ownBlock = some k → w.heap.size ≤ k) := by
  obtain ⟨g, off, cap, cur, rfl, hg, hh, hlc, hcm, hoc, hc⟩ := h
  have hnews : ∀ j u, [x][j]? = some u → w.cell? (ad.add j) = some u := by
    intro j u hu
    have hj : j = 0 := by have := (List.getElem?_eq_some_iff.1 hu).1; simp at this; omega
    subst hj
    simp at hu; subst hu
    simpa [Addr.add] using hx
  by_cases hroom : xs.length + 1 ≤ cap
  · have hsz : off + xs.length < cur.size := by omega
    have hrun := run_append_room_cells (P := P) w t ty e i ht hi g off xs.length cap ad 1 c [x] (by rw [hsize]; rfl) hnews (by simpa using h1) hroom
      (fun j hj => by simp at hj; subst hj; simp [World.cell?, hh, hsize]; omega)
      (fun j hj => by simp [World.frozen?, hh])
    rw [hsize, Nat.mul_one] at hrun
    refine ⟨_, _, hrun, ⟨g, off, cap, cur.setIfInBounds (off + xs.length) x, by simp, hg, ?_, by simpa using hroom, hcm, by simpa using hoc, fun i hi => ?_⟩, ?_, Or.inl rfl⟩
    · simp [World.setCells, World.setCell, Array.getElem?_modify, hh]
    · simp only [List.length_append, List.length_cons, List.length_nil] at hi
      rw [Array.getElem?_setIfInBounds]
      by_cases e : i = xs.length
      · subst e; simp [hsz, List.getD]
      · rw [if_neg (by omega), hc i (by omega)]
        simp [List.getD, List.getElem?_append_left (show i < xs.length by omega)]
    · refine ⟨rfl, rfl, rfl, by simp [World.setCells, World.setCell], fun k hk hne => ?_⟩
      simp only [Value.ownBlock, ne_eq, Option.some.injEq] at hne
      simp [World.setCells, World.setCell, Array.getElem?_modify, Ne.symm hne]
  · have holds : ∀ j u, xs[j]? = some u → w.cell? ((⟨g, off, none⟩ : Addr).add j) = some u := by
      intro j u hu
      have hj := (List.getElem?_eq_some_iff.1 hu).1
      have := hc j hj
      rw [Addr.add_lit]
      simp only [World.cell?, hh, this]
      simp [List.getD, hu]
    obtain ⟨v', w', hrun, r1, r2⟩ := run_append_arg_grows (P := P) w t ty e i z 1 bytes ht hi hz hsize hby hzs (by decide) ⟨g, off, none⟩ xs.length cap xs (by simp) holds ad 1 c [x] (by simp) hnews (by omega) h63 hbytes
    refine ⟨v', w', hrun, Que.ofOwns (r1.mono hlo) (by omega), ⟨r2.os, r2.tape, r2.output, r2.size, fun k hk _ => r2.block k hk (by simp)⟩, Or.inr fun k hk => (r1.lt k hk).1⟩

theorem wpList_append_que (w : World) {ops : Array Oper} {rest : List Oper} {o : Oper} {a : Act} {Q : Exit → Act → World → Prop} (hgd : o.guard = none) (s x : Operand) (t : TypeId)
    (ho : o.op = .call { callee := .builtin .append, args := #[s, x], argTypes := #[t, t] })
    {lo : Nat} {e : TypeId} {v : Value} {xs : List Value} (hs : a.eval s = v) (h : Que w lo e v xs) (hlo : lo ≤ w.heap.size)
    (i : TypeInfo) (z : Value) (bytes : Nat) (ht : P.underlying t = some (.slice e)) (hi : P.info? e = some i) (hz : i.zero = some z) (hsize : i.size = 1) (hby : i.bytes = bytes) (hzs : z.cells.size = 1)
    (ad : Addr) (c : Nat) (u : Value) (hx : a.eval x = .slice (some ad) 1 c) (hu : w.cell? ad = some u) (h1 : u.oneCell' = true) (h63 : xs.length + 1 ≤ maxLen) (hbytes : (xs.length + 1) * bytes ≤ 140737488355328)
    (hK : ∀ v' w', Que w' lo e v' (xs ++ [u]) → w.grownBy w' v.ownBlock → (v'.ownBlock = v.ownBlock ∨ ∀ k, v'.ownBlock = some k → w.heap.size ≤ k) → wpList P ops Q rest (a.put o.dst v') w') : wpList P ops Q (o :: rest) a w := by
  refine wpList_plain hgd fun K hK' => ?_
  obtain ⟨v', w', hrun, r1, r2, r3⟩ := run_append_que (P := P) h hlo t o.type i z bytes ht hi hz hsize hby hzs ad c u hu h1 h63 hbytes
  unfold Oper.wp
  simp [execOp, ho, resolve, invoke, builtin, hs, hx, hrun, Result.andThen]
  exact hK' _ _ (hK v' w' r1 r2 r3)
end
end Go.Proofs.Ytkebfnmepbblnaa
