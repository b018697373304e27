/- Appending any list to a list that the call owns; l01Cut with the place of its result. Conditions: told by the code. -/
import Derived.Test.YtjkekhiceadpgaaLong6
namespace Go.Proofs.Ytjkekhiceadpgaa
open Go.RowKit Go.Deep
set_option linter.unusedVariables false

theorem run_append_row {P : Program} (w : World) (base : Nat) (t ty e : TypeId) (i : TypeInfo) (z : Value) (bytes : Nat) (ht : P.underlying t = some (.slice e)) (hi : P.info? e = some i) (hz : i.zero = some z)
    (hsize : i.size = 1) (hby : i.bytes = bytes) (hzs : z.cells.size = 1)
    (v : Value) (n : Nat) (xs : List Value) (hown : w.ownsRow base e 1 v n xs) (src : Value) (news : List Value) (hR : Row w src news) (h1 : ∀ u ∈ news, u.oneCell' = true)
    (h63 : n + news.length ≤ maxLen) (hbytes : (n + news.length) * bytes ≤ 140737488355328) (hbase : base ≤ w.heap.size) :
    ∃ v' w', (Builtin.append_ #[t, t] ty #[v, src]).run P w = .ok v' w' ∧ w'.ownsRow base e 1 v' (n + news.length) (xs ++ news) ∧ w.grownBy w' v.ownBlock := by
  obtain ⟨hm, a, cap, rfl, hk, hc⟩ := hR
  cases a with
  | none =>
    have h0 : news.length = 0 := by
      rcases Nat.eq_zero_or_pos news.length with h | h
      · exact h
      · obtain ⟨b, off, hb, _⟩ := hc 0 h; cases hb
    have hn : news = [] := List.eq_nil_of_length_eq_zero h0
    subst hn
    refine ⟨v, w, ?_, by simpa using hown, ⟨rfl, rfl, rfl, Nat.le_refl _, fun _ _ _ => rfl⟩⟩
    rcases hown.2 with ⟨rfl, rfl⟩ | ⟨g, cap', cur, rfl, _, _, hnc, _⟩
    · simp [Builtin.append_, run_underlying ht, sizeOf, typeInfo, hi, Builtin.lenOf, Builtin.firstCells]
    · simp [Builtin.append_, run_underlying ht, sizeOf, typeInfo, hi, Builtin.lenOf, Builtin.firstCells, hnc, storeCells]
  | some ad =>
    obtain ⟨v', w', hr, h2, h3, _⟩ := run_append_own (P := P) w base t ty e i z 1 bytes ht hi hz hsize hby hzs (by decide) v n xs hown ad news.length cap news (by simp) (fun j u hj => by
      have hjl := (List.getElem?_eq_some_iff.1 hj).1
      obtain ⟨b, off, hb, hcell⟩ := hc j hjl
      simp only [Option.some.injEq] at hb
      subst hb
      have : news.getD j undef = u := by simp [List.getD, hj]
      rw [this] at hcell
      rw [Addr.add_lit]; exact hcell) h1 h63 hbytes hbase
    exact ⟨v', w', hr, h2, h3⟩

theorem wpList_append_row {P : Program} (w : World) {ops : Array Oper} {rest : List Oper} {o : Oper} {a : Act} {Q : Exit → Act → World → Prop} (hgd : o.guard = none) (s x : Operand) (t : TypeId)
    (ho : o.op = .call { callee := .builtin .append, args := #[s, x], argTypes := #[t, t] })
    (base : Nat) (e : TypeId) (i : TypeInfo) (z : Value) (bytes : Nat) (ht : P.underlying t = some (.slice e)) (hi : P.info? e = some i) (hz : i.zero = some z)
    (hsize : i.size = 1) (hby : i.bytes = bytes) (hzs : z.cells.size = 1)
    (v : Value) (n : Nat) (xs : List Value) (hs : a.eval s = v) (hown : w.ownsRow base e 1 v n xs)
    (src : Value) (news : List Value) (hx : a.eval x = src) (hR : Row w src news) (h1 : ∀ u ∈ news, u.oneCell' = true)
    (h63 : n + news.length ≤ maxLen) (hbytes : (n + news.length) * bytes ≤ 140737488355328) (hbase : base ≤ w.heap.size)
    (h : ∀ v' w', w'.ownsRow base e 1 v' (n + news.length) (xs ++ news) → w.grownBy w' v.ownBlock → wpList P ops Q rest (a.put o.dst v') w') : wpList P ops Q (o :: rest) a w := by
  refine wpList_plain hgd fun K hK => ?_
  obtain ⟨v', w', hr, h2, h3⟩ := run_append_row (P := P) w base t o.type e i z bytes ht hi hz hsize hby hzs v n xs hown src news hR h1 h63 hbytes hbase
  unfold Oper.wp execOp
  simp only [ho, resolve, invoke, builtin, Sem.run_bind, Sem.run_pure, Result.andThen_ok, List.map_toArray, List.map_cons, List.map_nil, hs, hx, hr]
  exact hK _ _ (h v' w' h2 h3)

/-- a list is not changed by a store into another block -/
theorem Row.setOther {w : World} {a : Option Addr} {len cap : Nat} {vs : List Value} (h : Row w (.slice a len cap) vs) {p : Addr} (hp : ∀ b off, a = some ⟨b, off, none⟩ → b ≠ p.block) (u : Value) : Row (w.setCell p u) (.slice a len cap) vs := by
  obtain ⟨hm, a', cap', hv, hk, hc⟩ := h
  simp only [Value.slice.injEq] at hv
  obtain ⟨rfl, rfl, rfl⟩ := hv
  refine ⟨hm, a, cap, rfl, hk, fun i hi => ?_⟩
  obtain ⟨b, off, hb, hcell⟩ := hc i hi
  refine ⟨b, off, hb, ?_⟩
  rw [World.cell?_of_block (w := w) (Below.heap_setCell w p u b (hp b off hb))]
  exact hcell

set_option maxHeartbeats 2000000 in
theorem l01Cut_same (g off cap1 : Nat) (l : List Nat) (w : World) (ha : Ints w (.slice (some ⟨g, off, none⟩) l.length cap1) (nats l)) (hd : ∀ x ∈ l, x < B9) :
    Calls Try.prog 98 #[.slice (some ⟨g, off, none⟩) l.length cap1] w fun e w' => (∃ k, e = .returned (.slice (some ⟨g, off, none⟩) k cap1) ∧ LongS w (.slice (some ⟨g, off, none⟩) k cap1) (val B9 l)) ∧ ∃ k, w' = w.drewN k := by
  have hm1 := ha.len.1
  obtain ⟨a1, cap1', hva, hk1, hk2⟩ := ha.caps
  rw [show (nats l).length = l.length by simp] at hm1 hva hk1
  simp only [Value.slice.injEq] at hva
  obtain ⟨rfl, -, rfl⟩ := hva
  unfold maxLen at hm1 hk2
  have hC := Lib.hid (fun k => LongS.ofCut ha hd k)
  have hA : 0 < l.length → _ := fun h => ha.at (show 0 < (nats l).length by simpa using h)
  rw [show (nats l).length = l.length by simp] at hA
  go_enter Try.func98, Try.ntmps98
  go_wp2
  go_loopw [3] (fun i wr => ∃ k j : Nat, k ≤ l.length ∧ i = .int .i64 k ∧ wr = w.drewN j ∧ Hid (val B9 (l.take k) = val B9 l)) (fun i _ => (intOf i).toNat)
  case atStart => exact ⟨l.length, 0, Nat.le_refl _, rfl, rfl, by rw [List.take_length]; exact rfl⟩
  case round =>
    obtain ⟨k, j, hk, rfl, rfl, ht⟩ := hrel
    rcases Nat.eq_zero_or_pos k with rfl | hpos
    · have hq := hC.out 0 hk ht.out (Or.inl rfl)
      go_wp2
      go_ret
      exact ⟨⟨_, rfl, hq⟩, _, rfl⟩
    · obtain ⟨k, rfl⟩ : ∃ k', k = k' + 1 := ⟨k - 1, by omega⟩
      obtain ⟨b1, o1, c1, hv1, _, hc1⟩ := hA (by omega)
      simp only [Value.slice.injEq, Option.some.injEq, Addr.mk.injEq, and_true] at hv1
      obtain ⟨⟨rfl, rfl⟩, -, rfl⟩ := hv1
      have h1 := hc1 k (by omega)
      rw [nats_getD l k (by omega)] at h1
      have hs := take_step (B := B9) l k (by omega)
      by_cases hz : l.getD k 0 = 0
      · have hq : Hid (val B9 (l.take k) = val B9 l) := Lib.hid (by rw [hz] at hs; have := ht.out; omega)
        rw [hz] at h1
        clear hz hs hc1
        go_wp2
        go_roundw
        case rel => exact ⟨k, _, by omega, by go_num, rfl, hq⟩
        case measure => simp [intOf]
      · have hq := hC.out (k + 1) hk ht.out (Or.inr (by simpa using hz))
        have hz' : (l.getD k 0 : Int) ≠ 0 := by omega
        generalize (l.getD k 0 : Int) = x at h1 hz'
        clear hz hs hc1
        have hcap : k + 1 ≤ cap1 := by omega
        go_wp2
        go_ret
        exact ⟨⟨_, rfl, hq⟩, _, rfl⟩
end Go.Proofs.Ytjkekhiceadpgaa
