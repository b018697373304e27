/- LongH: several texts in one (Long7, Long8, Long9, Long10, Long11, Numer, Read). Conditions: told in each. -/
import Derived.Test.YtiddhnnofpbopaaDoorLongG
import Derived.Deep.LoopGhost
import Derived.Test.YtiddhnnofpbopaaDoorNumG
import Derived.Lib.Hide
import Derived.Deep.RegionHeld3
import Derived.IntWalk
/- Appending any list to a list that the call owns; l01Cut with the place of its result. Conditions: told by the code. -/
namespace Go.Proofs.YtiddhnnofpbopaaDoor
open Go.RowKit Go.Deep
set_option linter.unusedVariables false

theorem run_append_row {P : Program} (w : World) (base : Nat) (t ty e : TypeId) (i : TypeInfo) (z : Value) (bytes : Nat) (ht : P.underlying t = some (.slice e)) (hi : P.info? e = some i) (hz : i.zero = some z)
    (hsize : i.size = 1) (hby : i.bytes = bytes) (hzs : z.cells.size = 1)
    (v : Value) (n : Nat) (xs : List Value) (hown : w.ownsRow base e 1 v n xs) (src : Value) (news : List Value) (hR : Row w src news) (h1 : ∀ u ∈ news, u.oneCell' = true)
    (h63 : n + news.length ≤ maxLen) (hbytes : (n + news.length) * bytes ≤ 140737488355328) (hbase : base ≤ w.heap.size) :
    ∃ v' w', (Builtin.append_ #[t, t] ty #[v, src]).run P w = .ok v' w' ∧ w'.ownsRow base e 1 v' (n + news.length) (xs ++ news) ∧ w.grownBy w' v.ownBlock := by
  obtain ⟨hm, a, cap, rfl, hk, hc⟩ := hR
  cases a with
  | none =>
    have h0 : news.length = 0 := by
      rcases Nat.eq_zero_or_pos news.length with h | h
      · exact h
      · obtain ⟨b, off, hb, _⟩ := hc 0 h; cases hb
    have hn : news = [] := List.eq_nil_of_length_eq_zero h0
    subst hn
    refine ⟨v, w, ?_, by simpa using hown, ⟨rfl, rfl, rfl, Nat.le_refl _, fun _ _ _ => rfl⟩⟩
    rcases hown.2 with ⟨rfl, rfl⟩ | ⟨g, cap', cur, rfl, _, _, hnc, _⟩
    · simp [Builtin.append_, run_underlying ht, sizeOf, typeInfo, hi, Builtin.lenOf, Builtin.firstCells]
    · simp [Builtin.append_, run_underlying ht, sizeOf, typeInfo, hi, Builtin.lenOf, Builtin.firstCells, hnc, storeCells]
  | some ad =>
    obtain ⟨v', w', hr, h2, h3, _⟩ := run_append_own (P := P) w base t ty e i z 1 bytes ht hi hz hsize hby hzs (by decide) v n xs hown ad news.length cap news (by simp) (fun j u hj => by
      have hjl := (List.getElem?_eq_some_iff.1 hj).1
      obtain ⟨b, off, hb, hcell⟩ := hc j hjl
      simp only [Option.some.injEq] at hb
      subst hb
      have : news.getD j undef = u := by simp [List.getD, hj]
      rw [this] at hcell
      rw [Addr.add_lit]; exact hcell) h1 h63 hbytes hbase
    exact ⟨v', w', hr, h2, h3⟩

theorem wpList_append_row {P : Program} (w : World) {ops : Array Oper} {rest : List Oper} {o : Oper} {a : Act} {Q : Exit → Act → World → Prop} (hgd : o.guard = none) (s x : Operand) (t : TypeId)
    (ho : o.op = .call { callee := .builtin .append, args := #[s, x], argTypes := #[t, t] })
    (base : Nat) (e : TypeId) (i : TypeInfo) (z : Value) (bytes : Nat) (ht : P.underlying t = some (.slice e)) (hi : P.info? e = some i) (hz : i.zero = some z)
    (hsize : i.size = 1) (hby : i.bytes = bytes) (hzs : z.cells.size = 1)
    (v : Value) (n : Nat) (xs : List Value) (hs : a.eval s = v) (hown : w.ownsRow base e 1 v n xs)
    (src : Value) (news : List Value) (hx : a.eval x = src) (hR : Row w src news) (h1 : ∀ u ∈ news, u.oneCell' = true)
    (h63 : n + news.length ≤ maxLen) (hbytes : (n + news.length) * bytes ≤ 140737488355328) (hbase : base ≤ w.heap.size)
    (h : ∀ v' w', w'.ownsRow base e 1 v' (n + news.length) (xs ++ news) → w.grownBy w' v.ownBlock → wpList P ops Q rest (a.put o.dst v') w') : wpList P ops Q (o :: rest) a w := by
  refine wpList_plain hgd fun K hK => ?_
  obtain ⟨v', w', hr, h2, h3⟩ := run_append_row (P := P) w base t o.type e i z bytes ht hi hz hsize hby hzs v n xs hown src news hR h1 h63 hbytes hbase
  unfold Oper.wp execOp
  simp only [ho, resolve, invoke, builtin, Sem.run_bind, Sem.run_pure, Result.andThen_ok, List.map_toArray, List.map_cons, List.map_nil, hs, hx, hr]
  exact hK _ _ (h v' w' h2 h3)

/-- a list is not changed by a store into another block -/
theorem Row.setOther {w : World} {a : Option Addr} {len cap : Nat} {vs : List Value} (h : Row w (.slice a len cap) vs) {p : Addr} (hp : ∀ b off, a = some ⟨b, off, none⟩ → b ≠ p.block) (u : Value) : Row (w.setCell p u) (.slice a len cap) vs := by
  obtain ⟨hm, a', cap', hv, hk, hc⟩ := h
  simp only [Value.slice.injEq] at hv
  obtain ⟨rfl, rfl, rfl⟩ := hv
  refine ⟨hm, a, cap, rfl, hk, fun i hi => ?_⟩
  obtain ⟨b, off, hb, hcell⟩ := hc i hi
  refine ⟨b, off, hb, ?_⟩
  rw [World.cell?_of_block (w := w) (Below.heap_setCell w p u b (hp b off hb))]
  exact hcell

set_option maxHeartbeats 2000000 in
theorem l01Cut_same (g off cap1 : Nat) (l : List Nat) (w : World) (ha : Ints w (.slice (some ⟨g, off, none⟩) l.length cap1) (nats l)) (hd : ∀ x ∈ l, x < B9) :
    Calls Tryd.prog 31 #[.slice (some ⟨g, off, none⟩) l.length cap1] w fun e w' => (∃ k, e = .returned (.slice (some ⟨g, off, none⟩) k cap1) ∧ LongS w (.slice (some ⟨g, off, none⟩) k cap1) (val B9 l)) ∧ ∃ k, w' = w.drewN k := by
  have hm1 := ha.len.1
  obtain ⟨a1, cap1', hva, hk1, hk2⟩ := ha.caps
  rw [show (nats l).length = l.length by simp] at hm1 hva hk1
  simp only [Value.slice.injEq] at hva
  obtain ⟨rfl, -, rfl⟩ := hva
  unfold maxLen at hm1 hk2
  have hC := Lib.hid (fun k => LongS.ofCut ha hd k)
  have hA : 0 < l.length → _ := fun h => ha.at (show 0 < (nats l).length by simpa using h)
  rw [show (nats l).length = l.length by simp] at hA
  go_enter Tryd.func31, Tryd.ntmps31
  go_wp2
  go_loopw [3] (fun i wr => ∃ k j : Nat, k ≤ l.length ∧ i = .int .i64 k ∧ wr = w.drewN j ∧ Hid (val B9 (l.take k) = val B9 l)) (fun i _ => (intOf i).toNat)
  case atStart => exact ⟨l.length, 0, Nat.le_refl _, rfl, rfl, by rw [List.take_length]; exact rfl⟩
  case round =>
    obtain ⟨k, j, hk, rfl, rfl, ht⟩ := hrel
    rcases Nat.eq_zero_or_pos k with rfl | hpos
    · have hq := hC.out 0 hk ht.out (Or.inl rfl)
      go_wp2
      go_ret
      exact ⟨⟨_, rfl, hq⟩, _, rfl⟩
    · obtain ⟨k, rfl⟩ : ∃ k', k = k' + 1 := ⟨k - 1, by omega⟩
      obtain ⟨b1, o1, c1, hv1, _, hc1⟩ := hA (by omega)
      simp only [Value.slice.injEq, Option.some.injEq, Addr.mk.injEq, and_true] at hv1
      obtain ⟨⟨rfl, rfl⟩, -, rfl⟩ := hv1
      have h1 := hc1 k (by omega)
      rw [nats_getD l k (by omega)] at h1
      have hs := take_step (B := B9) l k (by omega)
      by_cases hz : l.getD k 0 = 0
      · have hq : Hid (val B9 (l.take k) = val B9 l) := Lib.hid (by rw [hz] at hs; have := ht.out; omega)
        rw [hz] at h1
        clear hz hs hc1
        go_wp2
        go_roundw
        case rel => exact ⟨k, _, by omega, by go_num, rfl, hq⟩
        case measure => simp [intOf]
      · have hq := hC.out (k + 1) hk ht.out (Or.inr (by simpa using hz))
        have hz' : (l.getD k 0 : Int) ≠ 0 := by omega
        generalize (l.getD k 0 : Int) = x at h1 hz'
        clear hz hs hc1
        have hcap : k + 1 ≤ cap1 := by omega
        go_wp2
        go_ret
        exact ⟨⟨_, rfl, hq⟩, _, rfl⟩
end Go.Proofs.YtiddhnnofpbopaaDoor

/- l01Divide of the specification: quotient and remainder of long numbers. Conditions: the divisor is not 0; at most 10^9 digits. -/
namespace Go.Proofs.YtiddhnnofpbopaaDoor
open Go.RowKit Go.Deep
set_option linter.unusedVariables false

theorem lg_one {n : Nat} (h : dlen B9 n = 1) : dgt B9 n 0 = n ∧ n < B9 := by
  have hl := lt_dlen b9 n
  rw [h, Nat.pow_one] at hl
  exact ⟨by simp [dgt, Nat.mod_eq_of_lt hl], hl⟩
theorem lg_pos {n : Nat} (h : 0 < n) : 0 < dlen B9 n := by
  rcases Nat.eq_zero_or_pos (dlen B9 n) with h0 | h0
  · have := lt_dlen b9 n
    rw [h0, Nat.pow_zero] at this; omega
  · exact h0
theorem lg_mul {n d : Nat} (h : d < B9) : dlen B9 (n * d) ≤ dlen B9 n + 1 := by
  apply dlen_le b9
  rw [Nat.pow_succ]
  rcases Nat.eq_zero_or_pos d with rfl | hd
  · rw [Nat.mul_zero]; exact Nat.mul_pos (pow_pos' b9 _) (show 0 < B9 by decide)
  · exact Nat.mul_lt_mul'' (lt_dlen b9 n) h
theorem lg_le_one {d : Nat} (h : d < B9) : dlen B9 d ≤ 1 := dlen_le b9 (by simpa using h)

/-- a digit and the digits of a number -/
theorem snoc_val (x R : Nat) : val B9 (x :: dgs B9 R (dlen B9 R)) = R * B9 + x := by
  have := val_append B9 [x] (dgs B9 R (dlen B9 R))
  simp only [List.singleton_append, List.length_singleton, Nat.pow_one] at this
  have h2 : val B9 [x] = x := by simp [val]
  have h3 : val B9 (dgs B9 R (dlen B9 R)) = R := by rw [val_dgs, Nat.mod_eq_of_lt (lt_dlen b9 R)]
  rw [this, h2, h3, Nat.mul_comm B9 R, Nat.add_comm]
theorem snoc_lt {x R : Nat} (hx : x < B9) : ∀ y ∈ x :: dgs B9 R (dlen B9 R), y < B9 := by
  intro y hy
  rcases List.mem_cons.1 hy with rfl | hy
  · exact hx
  · simp only [dgs, List.mem_map] at hy
    obtain ⟨j, _, rfl⟩ := hy
    exact dgt_lt b9 _ _

/-- what one round of the division knows -/
theorem div_round (U V k : Nat) (hV : 0 < V) :
    (U / B9 ^ (k + 1) % V * B9 + dgt B9 U k) < V * B9 ∧ (U / B9 ^ (k + 1) % V * B9 + dgt B9 U k) / V = dgt B9 (U / V) k ∧
    (U / B9 ^ (k + 1) % V * B9 + dgt B9 U k) - V * dgt B9 (U / V) k = U / B9 ^ k % V ∧ V * dgt B9 (U / V) k ≤ (U / B9 ^ (k + 1) % V * B9 + dgt B9 U k) ∧ (U / B9 ^ (k + 1) % V * B9 + dgt B9 U k) % V = U / B9 ^ k % V := by
  obtain ⟨h1, h2⟩ := short_step b9 U k hV
  have hm := Nat.mod_lt (U / B9 ^ (k + 1)) hV
  have hd := dgt_lt b9 U k
  have hq := Nat.mod_add_div (U / B9 ^ (k + 1) % V * B9 + dgt B9 U k) V
  rw [h1, h2] at hq
  refine ⟨?_, h1, by omega, by omega, h2⟩
  have : (U / B9 ^ (k + 1) % V + 1) * B9 ≤ V * B9 := Nat.mul_le_mul_right _ hm
  rw [Nat.add_mul, Nat.one_mul] at this
  omega

theorem by_facts {n K : Nat} (h : dlen B9 n = K + 1) : 0 < dgt B9 n K ∧ dgt B9 n K < 1000000000 := by
  have := dgt_top b9 (n := n) (by omega)
  rw [h, show K + 1 - 1 = K by omega] at this
  exact ⟨by omega, dgt_lt b9 n K⟩

theorem div_scaled (m n b : Nat) (hb : 0 < b) : m * b / (n * b) = m / n ∧ (m * b % (n * b)) / b = m % n := by
  constructor
  · exact Nat.mul_div_mul_right _ _ hb
  · rw [Nat.mul_mod_mul_right, Nat.mul_div_cancel _ hb]

set_option maxRecDepth 100000 in
set_option maxHeartbeats 4000000 in
theorem l01Divide_one (a b : Value) (m n : Nat) (w : World) (ha : LongS w a m) (hb : LongS w b n) (hn : 0 < n) (h1 : dlen B9 n = 1) (sm : dlen B9 m ≤ 1000000000) :
    Calls Tryd.prog 23 #[a, b] w fun e w' => ∃ q r, e = .returned (.tuple #[q, r]) ∧ LongS w' q (m / n) ∧ LongS w' r (m % n) ∧ Below w.heap.size w w' := by
  obtain ⟨d0, dn⟩ := lg_one h1
  obtain ⟨bb, bo, bc, rfl, hbl, hcb⟩ := hb.at (by omega)
  rw [h1] at hcb ⊢
  have hb0 := hcb 0 (by omega)
  rw [d0] at hb0
  simp only [Nat.add_zero] at hb0
  have hsh := Lib.hid (l01Short_any a m n w ha hn (by simpa [B9] using dn) (by omega))
  obtain ⟨_, aa, ac, rfl⟩ := ha.len
  have hr9 := Lib.hid (Nat.lt_of_lt_of_le (Nat.mod_lt m hn) (Nat.le_of_lt dn))
  have hvr := Lib.hid (show val B9 [m % n] = m % n by simp [val])
  clear ha hb hcb sm dn d0
  generalize m % n = r at *
  go_enter Tryd.func23, Tryd.ntmps23
  go_wp2_with fail
  refine hsh.out.mono ?_
  rintro e w1 ⟨q, rfl, hq, b1⟩
  obtain ⟨_, qa, qc, rfl⟩ := hq.len
  have hcut := Lib.hid (l01Cut_any (.slice (some ⟨w1.heap.size, 0, none⟩) 1 1) [r] (w1.alloc (.cells #[.int .i64 (r : Int)] 2)) (by
    refine ⟨by simp [ints, maxLen], some ⟨w1.heap.size, 0, none⟩, 1, rfl, ⟨by simp [ints], by simp [maxLen]⟩, fun i hi => ⟨w1.heap.size, 0, rfl, ?_⟩⟩
    have hi0 : i = 0 := by simp [ints] at hi; omega
    subst hi0
    simp [ints]) (fun x hx => by simp at hx; subst hx; exact hr9.out))
  rw [hvr.out] at hcut
  have hq2 := hq.keep (below1 w1 (.cells #[.int .i64 (r : Int)] 2))
  have b2 := b1.alloc b1.size (.cells #[.int .i64 (r : Int)] 2)
  clear hq b1
  go_wp2_with fail
  refine hcut.out.mono ?_
  rintro e w2 ⟨⟨rv, rfl, hrv⟩, j, rfl⟩
  obtain ⟨_, ra, rc, rfl⟩ := hrv.len
  have kk := below_drewN (Below.refl (w1.alloc (.cells #[.int .i64 (r : Int)] 2)).heap.size (w1.alloc (.cells #[.int .i64 (r : Int)] 2))) j
  replace hrv := hrv.keep kk
  replace hq2 := hq2.keep kk
  have b3 := below_drewN b2 j
  clear kk b2 hcut
  go_wp2
  go_ret2
  exact ⟨_, _, rfl, hq2, hrv, b3⟩
end Go.Proofs.YtiddhnnofpbopaaDoor

/- l01Divide of the specification, divisors of two digits and more; and as a whole. Conditions: the divisor is not 0; at most 10^9 digits. -/
namespace Go.Proofs.YtiddhnnofpbopaaDoor
open Go.RowKit Go.Deep
set_option linter.unusedVariables false

theorem by_ok {F : Nat} (h0 : 0 < F) (h1 : F < 1000000000) : 0 < 1000000000 / (F + 1) ∧ 1000000000 / (F + 1) < 1000000000 := by
  constructor
  · exact Nat.div_pos (by omega) (by omega)
  · exact Nat.div_lt_self (by omega) (by omega)

theorem LongS.setOther {w : World} {a : Option Addr} {len cap n : Nat} (h : LongS w (.slice a len cap) n) {p : Addr} (hp : ∀ b off, a = some ⟨b, off, none⟩ → b ≠ p.block) (u : Value) : LongS (w.setCell p u) (.slice a len cap) n :=
  Row.setOther h hp u

/-- the digits of a number, a digit before them, as the program lays them -/
theorem lg_ints {w : World} {lo n : Nat} {e : TypeId} {v : Value} {l : List Nat} (h : w.ownsRow lo e 1 v n (ints (nats l))) : Ints w v (nats l) := (Own.of h (Nat.le_refl _)).row

theorem l01Cut_at (g off cap1 L4 : Nat) (l : List Nat) (w : World) (hL : L4 = l.length) (ha : Ints w (.slice (some ⟨g, off, none⟩) L4 cap1) (nats l)) (hd : ∀ x ∈ l, x < B9) :
    Calls Tryd.prog 31 #[.slice (some ⟨g, off, none⟩) L4 cap1] w fun e w' => (∃ k, e = .returned (.slice (some ⟨g, off, none⟩) k cap1) ∧ LongS w (.slice (some ⟨g, off, none⟩) k cap1) (val B9 l)) ∧ ∃ k, w' = w.drewN k := by
  subst hL
  exact l01Cut_same g off cap1 l w ha hd
theorem div_front {w : World} {lo L4 c4 : Nat} {e : TypeId} {a : Option Addr} {x R : Nat} (h : w.ownsRow lo e 1 (.slice a L4 c4) L4 ([.int .i64 (x : Int)] ++ ints (longS R))) :
    L4 = (x :: dgs B9 R (dlen B9 R)).length ∧ Ints w (.slice a L4 c4) (nats (x :: dgs B9 R (dlen B9 R))) := by
  have e1 : [Value.int .i64 (x : Int)] ++ ints (longS R) = ints (nats (x :: dgs B9 R (dlen B9 R))) := rfl
  rw [e1] at h
  refine ⟨?_, lg_ints h⟩
  have := h.1
  simpa [ints] using this.symm
theorem div_len {X V : Nat} (h : X < V * B9) : dlen B9 X ≤ dlen B9 V + 1 := by
  apply dlen_le b9
  rw [Nat.pow_succ]
  exact Nat.lt_of_lt_of_le h (Nat.mul_le_mul_right _ (Nat.le_of_lt (lt_dlen b9 V)))
theorem front_len (R : Nat) : (ints (longS R)).length = dlen B9 R := by simp [ints, longS_length]

set_option maxRecDepth 100000 in
set_option maxHeartbeats 8000000 in
theorem l01Divide_more (a b : Value) (m n K : Nat) (w : World) (ha : LongS w a m) (hb : LongS w b n) (hn : 0 < n) (hK : dlen B9 n = K + 1) (hK1 : 1 ≤ K) (sm : dlen B9 m ≤ 1000000000) (sn : dlen B9 n ≤ 1000000000) :
    Calls Tryd.prog 23 #[a, b] w fun e w' => ∃ q r, e = .returned (.tuple #[q, r]) ∧ LongS w' q (m / n) ∧ LongS w' r (m % n) ∧ Below w.heap.size w w' := by
  obtain ⟨f0, f1⟩ := by_facts hK
  obtain ⟨y0, y1⟩ := by_ok f0 f1
  obtain ⟨bb, bo, bc, rfl, hbl, hcb⟩ := hb.at (by omega)
  rw [hK] at hcb sn
  have hb0 := hcb K (by omega)
  obtain ⟨_, aa, ac, rfl⟩ := ha.len
  have z1 : (1000000000 : Int).tdiv ((dgt B9 n K : Int) + 1) = (1000000000 / (dgt B9 n K + 1) : Nat) := by rw [Int.tdiv_eq_ediv_of_nonneg (by omega)]; simp
  have z2 : ((dgt B9 n K : Int) + 1 == 0) = false := by simp; omega
  have z3 : ¬ (dgt B9 n K : Int) + 1 = 0 := by omega
  have z4 : IntKind.i64.wrap ((dgt B9 n K : Int) + 1) = (dgt B9 n K : Int) + 1 := by rw [IntKind.wrap_i64]; omega
  have z5 : (((K + 1 : Nat) : Int) == 1) = false := by simp; omega
  have z6 : ((K + 1 : Nat) : Int) - 1 = (K : Int) := by omega
  generalize dgt B9 n K = F at *
  generalize hby : 1000000000 / (F + 1) = by' at *
  clear hby hcb f0
  have ydl := lg_le_one (d := by') (by simpa [B9] using y1)
  have hlit1 := Lib.hid (one_long w by' y0 (by simpa [B9] using y1))
  have hpu := Lib.hid (l01Product_any _ _ m by' _ (ha.keep (below1 w _)) hlit1.out (by omega) (by omega))
  have hbv := Lib.hid hb
  have hsc := Lib.hid (div_scaled m n by' y0)
  have hU := lg_mul (n := m) (d := by') (by simpa [B9] using y1)
  have hV := lg_mul (n := n) (d := by') (by simpa [B9] using y1)
  rw [hK] at hbv hV ⊢
  have hVp := Lib.hid (Nat.mul_pos hn y0)
  clear ha hb
  go_enter Tryd.func23, Tryd.ntmps23
  go_wp2_with fail
  refine hpu.out.mono ?_
  rintro e w1 ⟨uv, rfl, hu, b1⟩
  have B1 := below_wt (below1 w (.cells #[.int .i64 (by' : Int)] 2)) b1
  have hv1 := (hbv.out.keep B1).keep (below1 w1 (.cells #[.int .i64 (by' : Int)] 2))
  have hu1 := hu.keep (below1 w1 (.cells #[.int .i64 (by' : Int)] 2))
  have hpv := Lib.hid (l01Product_any _ _ n by' _ hv1 (one_long w1 by' y0 (by simpa [B9] using y1)) (by omega) (by omega))
  clear hpu hlit1 b1 hu hv1
  go_wp2_with fail
  refine hpv.out.mono ?_
  rintro e w3 ⟨vv, rfl, hv, b3⟩
  have hu3 := hu1.keep b3
  have B3 := below_wt (B1.alloc B1.size (.cells #[.int .i64 (by' : Int)] 2)) b3
  clear hpv b3 hu1 B1 hbv
  generalize hUe : m * by' = U at *
  generalize hVe : n * by' = V at *
  obtain ⟨hmU, ua, uc, rfl⟩ := hu3.len
  obtain ⟨hmV, va, vc, rfl⟩ := hv.len
  have hA := hu3.at
  have hLU := Lib.hid hU
  have hval := Lib.hid (show val B9 (dgs B9 (U / V) (dlen B9 U)) = U / V by
    rw [val_dgs]; exact Nat.mod_eq_of_lt (Nat.lt_of_le_of_lt (Nat.div_le_self U V) (lt_dlen b9 U)))
  have h00 := Lib.hid (show U / B9 ^ dlen B9 U % V = 0 by rw [Nat.div_eq_of_lt (lt_dlen b9 U), Nat.zero_mod])
  have hmk := run_make_row' (P := Tryd.prog) 29 2 (.int .i64 0) 8 Tryd.underlying29 lg_info rfl .i64 .i64 (dlen B9 U) (by omega) (by omega)
  have hrd := Lib.hid (fun k => div_round U V k hVp.out)
  have hdl := Lib.hid (fun k => And.intro (dgt_lt b9 U k) (And.intro (dgt_lt b9 (U / V) k) (Nat.mod_lt (U / B9 ^ (k + 1)) hVp.out)))
  have hvv := Lib.hid hv
  obtain ⟨i0, hi, hz0, hz1, hz2⟩ := info_parts lg_info
  have hi' := Lib.hid hi; have hz0' := Lib.hid hz0; have hz1' := Lib.hid hz1; have hz2' := Lib.hid hz2
  clear hi hz0 hz1 hz2 hu3 hv hUe hVe
  generalize hL1 : dlen B9 U = L at hmU hA hU hval hmk h00 ⊢
  generalize hLV : dlen B9 V = LV at hmV hV hvv ⊢
  replace hL1 := Lib.hid hL1
  replace hLV := Lib.hid hLV
  have hL9 : L ≤ 1000000001 := by omega
  have hLV9 : LV ≤ 1000000001 := by omega
  clear hU hV hmU hmV z1 z2 z3 z4 z5 z6 hLU
  go_wp2
  go_loopw [12, 13] (fun rv i wr => ∃ (k len rcap : Nat) (ra : Option Addr), k ≤ L ∧ i = .int .i64 ((k : Int) - 1) ∧ rv = .slice ra len rcap ∧ Hid (LongS wr (.slice ra len rcap) (U / B9 ^ k % V)) ∧ Own wr w3.heap.size (w3.heap.size + 1) 2 (.slice (some ⟨w3.heap.size, 0, none⟩) L L) (ints (nats (shL B9 (U / V) L k))) ∧ Below w3.heap.size w3 wr ∧ w3.heap.size < wr.heap.size) (fun _ i _ => (intOf i + 1).toNat)
  case atStart =>
    refine ⟨L, 0, 0, _, Nat.le_refl _, by go_num, rfl, Lib.hid ?_, ?_, ((Below.refl _ _).alloc (Nat.le_refl _) _).alloc (by simp) _, by simp; omega⟩
    · rw [h00.out]
      exact ⟨by simp [longS, dlen_zero, dgs, ints], _, 0, rfl, ⟨by simp [longS, dlen_zero, dgs, ints], by simp [maxLen]⟩, fun i hi => by simp [longS, dlen_zero, dgs, ints] at hi⟩
    · have := (Own.made w3 (.int .i64 0) L 2 (by unfold maxLen; omega)).alloc (.cells #[] 2)
      rw [shL_full]
      simpa [ints] using this
  case round =>
    obtain ⟨wo, rfl⟩ : ∃ wo : World, wo = wr := ⟨_, rfl⟩
    obtain ⟨k, len, rcap, ra, hk, rfl, rfl, hrest, hown, bel, hgw⟩ := hrel
    rcases Nat.eq_zero_or_pos k with rfl | hpos
    · have hro := hrest.out
      rw [show U / B9 ^ 0 % V = U % V by rw [Nat.pow_zero, Nat.div_one]] at hro
      have hml := dlen_mono b9 (Nat.le_of_lt (Nat.mod_lt U hVp.out))
      rw [hLV.out] at hml
      have hml2 : dlen B9 (U % V) ≤ 1000000000000 := by omega
      have hsh := l01Short_any _ (U % V) by' wo hro y0 y1 hml2
      rw [hsc.out.2] at hsh
      replace hsh := Lib.hid hsh
      have hown' := Lib.hid hown
      have hgw' := Lib.hid (show w3.heap.size + 1 ≤ wo.heap.size from hgw)
      clear hro hml hml2 hown hgw
      go_wp2_with fail
      refine hsh.out.mono ?_
      rintro e w4 ⟨rv, rfl, hr4, b4⟩
      obtain ⟨_, rra, rrc, rfl⟩ := hr4.len
      have hrow : Ints w4 (.slice (some ⟨w3.heap.size, 0, none⟩) L L) (nats (dgs B9 (U / V) L)) := by
        have := (hown'.out.keep hgw'.out b4).row
        rw [shL_zero] at this; exact this
      have hcut := l01Cut_any _ _ w4 hrow (fun y hy => by simp only [dgs, List.mem_map] at hy; obtain ⟨j, _, rfl⟩ := hy; exact dgt_lt b9 _ _)
      rw [hval.out, hsc.out.1] at hcut
      replace hcut := Lib.hid hcut
      have hr5 := Lib.hid hr4
      clear hr4 hrow hsh
      go_wp2_with fail
      refine hcut.out.mono ?_
      rintro e w5 ⟨⟨qv, rfl, hq⟩, j, rfl⟩
      obtain ⟨_, qa, qc, rfl⟩ := hq.len
      have hfin := Lib.hid (And.intro (hq.keep (below_drewN (Below.refl w4.heap.size w4) j)) (And.intro (hr5.out.keep (below_drewN (Below.refl w4.heap.size w4) j)) (below_drewN (B3.trans ((below_wt bel b4).mono B3.size)) j)))
      clear hq hcut b4 bel
      go_wp2
      go_ret2
      exact ⟨_, _, rfl, hfin.out.1, hfin.out.2.1, hfin.out.2.2⟩
    · obtain ⟨k, rfl⟩ : ∃ k', k = k' + 1 := ⟨k - 1, by omega⟩
      have hi : (((k + 1 : Nat) : Int) - 1) = (k : Int) := by omega
      rw [hi]
      obtain ⟨ub, uo, uc', hv1, hl1, hc1⟩ := hA (by omega)
      simp only [Value.slice.injEq] at hv1
      obtain ⟨rfl, -, rfl⟩ := hv1
      have q1 := (bel.cell hl1).trans (hc1 k (by omega))
      have hown' := Lib.hid hown
      obtain ⟨x1, x2, x3, x4, x5⟩ := hrd.out k
      obtain ⟨y1', y2', y3'⟩ := hdl.out k
      have hset := Lib.hid (shL_set B9 (U / V) L k)
      generalize hR : U / B9 ^ (k + 1) % V = R at *
      have hRl : dlen B9 R ≤ LV := by have := dlen_mono b9 (Nat.le_of_lt y3'); rw [hLV.out] at this; exact this
      generalize hx : dgt B9 U k = x at *
      generalize hd : dgt B9 (U / V) k = d at *
      generalize hR' : U / B9 ^ k % V = R' at x3 x5
      have hfl := Lib.hid (front_len R)
      have hXl : dlen B9 (R * B9 + x) ≤ LV + 1 := by rw [← hLV.out]; exact div_len x1
      have hlit : (wo.alloc (.cells #[.int .i64 (x : Int)] 2)).ownsRow wo.heap.size 2 1 (.slice (some ⟨wo.heap.size, 0, none⟩) 1 1) 1 [.int .i64 (x : Int)] := World.ownsRow_lit wo #[.int .i64 (x : Int)] 1 (Nat.le_refl _) (by unfold maxLen; omega) rfl
      have hRa : Row (wo.alloc (.cells #[.int .i64 (x : Int)] 2)) (.slice ra len rcap) (ints (longS R)) := hrest.out.keep (below1 wo _)
      have hlit' := Lib.hid hlit
      have hsnoc := Lib.hid (snoc_val x R)
      have hslt := Lib.hid (snoc_lt (R := R) y1')
      have hone : ∀ u ∈ ints (longS R), u.oneCell' = true := by
        intro u hu
        simp only [ints, List.mem_map] at hu
        obtain ⟨y, _, rfl⟩ := hu
        rfl
      have hone' := Lib.hid hone
      have hx3 := Lib.hid x3; have hx5 := Lib.hid x5; have hx4 := Lib.hid x4; have hx1 := Lib.hid x1; have hx2 := Lib.hid x2
      have hd9 := Lib.hid y2'
      clear hown hone hi hc1 hA x1 x2 x3 x4 x5 y1' y2' hR hx hd
      generalize R * B9 + x = X at *
      have hb1 : 1 + (ints (longS R)).length ≤ maxLen := by rw [hfl.out]; unfold maxLen; omega
      have hb2 : (1 + (ints (longS R)).length) * 8 ≤ 140737488355328 := by rw [hfl.out]; omega
      have hb3 : wo.heap.size ≤ (wo.alloc (.cells #[.int .i64 (x : Int)] 2)).heap.size := by simp
      have hb4 : 0 < 1 + (ints (longS R)).length := by omega
      go_wp2_with (at_builtin; (refine wpList_append_row _ rfl _ _ 29 rfl wo.heap.size 2 i0 (.int .i64 0) 8 Tryd.underlying29 hi'.out hz0'.out hz1'.out hz2'.out rfl (.slice (some ⟨wo.heap.size, 0, none⟩) 1 1) 1 [.int .i64 (x : Int)] rfl hlit (.slice ra len rcap) (ints (longS R)) rfl hRa hone'.out hb1 hb2 hb3 ?_); intro v4 w4 hown4 hgr4)
      obtain ⟨g4, c4, rfl⟩ := lg_shape hown4 hb4
      clear hb1 hb2 hb3 hb4
      obtain ⟨hL4, hrow4⟩ := div_front hown4
      have hg4 := (lg_type hown4 rfl).1
      have B4 : Below wo.heap.size wo w4 := ((Below.refl _ wo).alloc (Nat.le_refl _) _).grown hgr4 (by simp) (fun k hk => (lg_type hlit'.out hk).1)
      have hcut := l01Cut_at g4 0 c4 _ _ w4 hL4 hrow4 hslt.out
      rw [hsnoc.out] at hcut
      generalize 1 + (ints (longS R)).length = L4 at *
      clear hown4 hgr4 hrow4 hL4 hRa hlit
      refine hcut.mono ?_
      rintro e w5 ⟨⟨k5, rfl, h5⟩, j5, rfl⟩
      replace h5 := h5.keep (below_drewN (Below.refl w4.heap.size w4) j5)
      replace B4 := below_drewN B4 j5
      clear hcut
      generalize w4.drewN j5 = w5 at *
      have hv5 := (hvv.out.keep bel).keep B4
      have hdig := l01Digit_any _ _ X V w5 h5 hv5 hVp.out hx1.out (by omega) (by rw [hLV.out]; omega)
      rw [hx2.out] at hdig
      replace hdig := Lib.hid hdig
      clear hv5
      go_wp2_with fail
      refine hdig.out.mono ?_
      rintro e w6 ⟨rfl, b6⟩
      have h6 := h5.keep b6
      have B6 := below_wt B4 b6
      have hown6 := hown'.out.keep (show w3.heap.size + 1 ≤ wo.heap.size by omega) B6
      have hown6' := Lib.hid hown6
      obtain ⟨g, cap6, hg, -, -, -, hcg, hfg⟩ := hown6.at (by simp [ints, shL_length]; omega)
      simp only [Value.slice.injEq, Option.some.injEq, Addr.mk.injEq, and_true] at hg
      obtain ⟨rfl, -, -⟩ := hg
      have hcg' := hcg k (by simp [ints, shL_length]; omega)
      have hfg' := hfg k
      have Bq := below_wt bel B6
      have hne : ∀ b off, some (⟨g4, 0, none⟩ : Addr) = some ⟨b, off, none⟩ → b ≠ w3.heap.size := by
        intro b off h
        simp only [Option.some.injEq, Addr.mk.injEq] at h
        omega
      have h7 := h6.setOther (p := ⟨w3.heap.size, k, none⟩) hne (.int .i64 (d : Int))
      have own7 := hown6'.out.set k (.int .i64 (d : Int))
      have own7' : Own (w6.setCell ⟨w3.heap.size, k, none⟩ (.int .i64 (d : Int))) w3.heap.size (w3.heap.size + 1) 2 (.slice (some ⟨w3.heap.size, 0, none⟩) L L) (ints (nats (shL B9 (U / V) L k))) := by
        rw [← hset.out]
        simpa [ints, List.map_set] using own7
      have B7 := Bq.setCell (p := ⟨w3.heap.size, k, none⟩) (Nat.le_refl _) (.int .i64 (d : Int))
      have own8 := Lib.hid own7'
      have h8 := Lib.hid h7
      have sz6 : w3.heap.size < w6.heap.size := by have := B6.size; omega
      have hszc : (w6.setCell ⟨w3.heap.size, k, none⟩ (.int .i64 (d : Int))).heap.size = w6.heap.size := by simp
      have sz7 : w3.heap.size < (w6.setCell ⟨w3.heap.size, k, none⟩ (.int .i64 (d : Int))).heap.size := by omega
      have hszc' := Lib.hid hszc
      have sz7' := Lib.hid sz7
      clear hszc sz7
      generalize (ints (nats (shL B9 (U / V) L (k + 1)))).getD k undef = old at hcg'
      clear hcg hfg hown6 own7 own7' h7 h6 h5 b6 B6 B4 hdig
      by_cases hd0 : d = 0
      · have hd1 : ¬ (0 : Int) < (d : Int) := by omega
        have hz := Lib.hid (show X = R' by have := hx3.out; rw [hd0, Nat.mul_zero] at this; omega)
        clear hd0
        go_wp2
        go_roundw
        case rel => exact ⟨k, k5, c4, _, by omega, by go_num, rfl, Lib.hid (by rw [hR', ← hz.out]; exact h8.out), own8.out, B7, sz7'.out⟩
        case measure => simp [intOf]
      · have hd1 : (0 : Int) < (d : Int) := by omega
        have hvz := (hvv.out.keep B7).keep (below1 (w6.setCell ⟨w3.heap.size, k, none⟩ (.int .i64 (d : Int))) (.cells #[.int .i64 (d : Int)] 2))
        have hprod := l01Product_any _ _ V d _ hvz (one_long _ d (by omega) hd9.out) (by rw [hLV.out]; omega) (Nat.le_trans (lg_le_one hd9.out) (by omega))
        rw [hszc'.out] at hprod
        replace hprod := Lib.hid hprod
        clear hd0 hvz
        have hxl := Lib.hid hXl
        go_wp2_with fail
        refine hprod.out.mono ?_
        rintro e w8 ⟨pv, rfl, hp, b8⟩
        obtain ⟨_, pa, pc, rfl⟩ := hp.len
        have hless := l01Less_any _ _ X (V * d) w8 ((h8.out.keep (below1 _ _)).keep b8) hp hx4.out (by omega)
        rw [hx3.out] at hless
        replace hless := Lib.hid hless
        clear hp hprod
        go_wp2_with fail
        refine hless.out.mono ?_
        rintro e w9 ⟨nv, rfl, hn9, b9'⟩
        obtain ⟨_, na, nc, rfl⟩ := hn9.len
        have b10 := below_wt b8 b9'
        have own10 := (own8.out.alloc (.cells #[.int .i64 (d : Int)] 2)).keep (by simp; omega) b10
        have B10 := (B7.alloc (by simp; omega) (.cells #[.int .i64 (d : Int)] 2)).trans (b10.mono (by simp; omega))
        have hn10 := Lib.hid hn9
        have hz10 : w3.heap.size < w9.heap.size := by have := b10.size; simp at this; omega
        clear hless hn9 b8 b9' b10
        go_wp2
        go_roundw
        case rel => exact ⟨k, _, nc, na, by omega, by go_num, rfl, Lib.hid (by rw [hR']; exact hn10.out), own10, B10, hz10⟩
        case measure => simp [intOf]

/-- quotient and remainder -/
theorem l01Divide_any (a b : Value) (m n : Nat) (w : World) (ha : LongS w a m) (hb : LongS w b n) (hn : 0 < n) (sm : dlen B9 m ≤ 1000000000) (sn : dlen B9 n ≤ 1000000000) :
    Calls Tryd.prog 23 #[a, b] w fun e w' => ∃ q r, e = .returned (.tuple #[q, r]) ∧ LongS w' q (m / n) ∧ LongS w' r (m % n) ∧ Below w.heap.size w w' := by
  have h0 := lg_pos hn
  by_cases h1 : dlen B9 n = 1
  · exact l01Divide_one a b m n w ha hb hn h1 sm
  · exact l01Divide_more a b m n (dlen B9 n - 1) w ha hb hn (by omega) (by omega) sm sn
end Go.Proofs.YtiddhnnofpbopaaDoor

/- l01Gcd of the specification. Conditions: at most 10^9 digits. -/
namespace Go.Proofs.YtiddhnnofpbopaaDoor
open Go.RowKit Go.Deep
set_option linter.unusedVariables false

theorem dlen_zero_iff {n : Nat} (h : dlen B9 n = 0) : n = 0 := by
  have := lt_dlen b9 n
  rw [h, Nat.pow_zero] at this; omega

set_option maxRecDepth 100000 in
set_option maxHeartbeats 4000000 in
theorem l01Gcd_any (a b : Value) (m n : Nat) (w : World) (ha : LongS w a m) (hb : LongS w b n) (sm : dlen B9 m ≤ 1000000000) (sn : dlen B9 n ≤ 1000000000) :
    Calls Tryd.prog 22 #[a, b] w fun e w' => ∃ v, e = .returned v ∧ LongS w' v (Nat.gcd m n) ∧ Below w.heap.size w w' := by
  obtain ⟨_, a1, cap1, rfl⟩ := ha.len
  obtain ⟨_, a2, cap2, rfl⟩ := hb.len
  have ha' := Lib.hid ha
  have hb' := Lib.hid hb
  obtain ⟨lm, hlm⟩ : ∃ l, l = dlen B9 m := ⟨_, rfl⟩
  obtain ⟨ln, hln⟩ : ∃ l, l = dlen B9 n := ⟨_, rfl⟩
  have hlm' := Lib.hid hlm
  have hln' := Lib.hid hln
  rw [← hlm] at ha' sm ⊢
  rw [← hln] at hb' sn ⊢
  clear ha hb hlm hln
  go_enter Tryd.func22, Tryd.ntmps22
  go_wp2
  go_loopg [0, 1] n (fun k av bv wr => ∃ (x lx lk cx ck : Nat) (ax ak : Option Addr), av = .slice ax lx cx ∧ bv = .slice ak lk ck ∧ Hid (lx = dlen B9 x) ∧ Hid (lk = dlen B9 k) ∧ lx ≤ 1000000000 ∧ lk ≤ 1000000000 ∧ Hid (LongS wr (.slice ax lx cx) x) ∧ Hid (LongS wr (.slice ak lk ck) k) ∧ Hid (Nat.gcd x k = Nat.gcd m n) ∧ Below w.heap.size w wr)
  case atStart => exact ⟨m, lm, ln, cap1, cap2, a1, a2, rfl, rfl, hlm', hln', sm, sn, ha', hb', Lib.hid rfl, Below.refl _ _⟩
  case round =>
    obtain ⟨x, lx, lk, cx, ck, ax, ak, rfl, rfl, hlx, hlk, sx, sk, hx, hk, hg, bel⟩ := hrel
    by_cases h0 : lk = 0
    · have hgk := dlen_zero_iff (hlk.out.symm.trans h0)
      have hr := Lib.hid (show LongS wr (.slice ax lx cx) (Nat.gcd m n) by rw [← hg.out, hgk, Nat.gcd_zero_right]; exact hx.out)
      have hn0 : ¬ (0 : Int) < (lk : Int) := by omega
      clear h0 hgk
      go_wp2
      go_ret
      exact ⟨_, rfl, hr.out, bel⟩
    · have hp : (0 : Int) < (lk : Int) := by omega
      have hgp : 0 < gk := by
        rcases Nat.eq_zero_or_pos gk with h | h
        · exfalso; apply h0; rw [hlk.out, h, dlen_zero]
        · exact h
      have hgp' := Lib.hid hgp
      have hdv := Lib.hid (l01Divide_any _ _ x gk wr hx.out hk.out hgp (by rw [← hlx.out]; exact sx) (by rw [← hlk.out]; exact sk))
      have hml := Lib.hid (dlen_mono b9 (Nat.le_of_lt (Nat.mod_lt x hgp)))
      clear h0 hgp
      go_wp2_with fail
      refine hdv.out.mono ?_
      rintro e w1 ⟨q, r, rfl, hq, hr, b1⟩
      obtain ⟨_, qa, qc, rfl⟩ := hq.len
      obtain ⟨_, ra, rc, rfl⟩ := hr.len
      have hk1 := Lib.hid (hk.out.keep b1)
      have hr1 := Lib.hid hr
      have B1 := Lib.hid (below_wt bel b1)
      obtain ⟨lr, hlr⟩ : ∃ l, l = dlen B9 (x % gk) := ⟨_, rfl⟩
      rw [← hlr] at hr1 ⊢
      have hlr' := Lib.hid hlr
      have slr : lr ≤ 1000000000 := by have := hml.out; rw [← hlr, ← hlk.out] at this; omega
      have hgg := Lib.hid (show Nat.gcd gk (x % gk) = Nat.gcd m n by rw [← hg.out, Nat.gcd_comm x gk, Nat.gcd_rec gk x, Nat.gcd_comm])
      clear hlr hr hq b1 hdv
      go_wp2
      go_roundg (x % gk)
      case measure => exact Nat.mod_lt x hgp'.out
      case rel => exact ⟨gk, lk, lr, ck, rc, ak, ra, rfl, rfl, hlk, hlr', sk, slr, hk1, hr1, hgg, B1.out⟩
end Go.Proofs.YtiddhnnofpbopaaDoor

/- l01Over of the specification: a fraction in lowest terms. Conditions: the divisor is not 0; at most 10^9 digits. -/
namespace Go.Proofs.YtiddhnnofpbopaaDoor
open Go.RowKit Go.Deep
set_option linter.unusedVariables false

theorem gcd_len {m n : Nat} (hn : 0 < n) : dlen B9 (Nat.gcd m n) ≤ dlen B9 n := dlen_mono b9 (Nat.le_of_dvd hn (Nat.gcd_dvd_right m n))

/-- a store into a box of two lists leaves every long number as it was -/
theorem LongS.setBox {w : World} {v : Value} {n b : Nat} {a1 a2 : Option Addr} {l1 c1 l2 c2 : Nat} {t : TypeId} (h : LongS w v n) (hB : Blk w b #[.slice a1 l1 c1, .slice a2 l2 c2] t) (j : Nat) (u : Value) : LongS (w.setCell ⟨b, j, none⟩ u) v n := by
  obtain ⟨hm, a, cap, rfl, hk, hc⟩ := h
  refine ⟨hm, a, cap, rfl, hk, fun i hi => ?_⟩
  obtain ⟨b', off, ha, hcell⟩ := hc i hi
  refine ⟨b', off, ha, ?_⟩
  have hne : b' ≠ b := by
    rintro rfl
    rw [hB.cell] at hcell
    have hi' : i < (longS n).length := by simpa [ints] using hi
    rw [ints_getD (longS n) i hi'] at hcell
    have : off + i = 0 ∨ off + i = 1 ∨ 2 ≤ off + i := by omega
    rcases this with e | e | e
    · rw [e] at hcell; simp at hcell
    · rw [e] at hcell; simp at hcell
    · rw [Array.getElem?_eq_none (by simpa using e)] at hcell; cases hcell
  rw [World.cell?_of_block (w := w) (Below.heap_setCell w ⟨b, j, none⟩ u b' hne)]
  exact hcell

set_option maxRecDepth 100000 in
set_option maxHeartbeats 4000000 in
theorem l01Over_any (a b : Value) (m n : Nat) (w : World) (ha : LongS w a m) (hb : LongS w b n) (hn : 0 < n) (sm : dlen B9 m ≤ 1000000000) (sn : dlen B9 n ≤ 1000000000) :
    Calls Tryd.prog 17 #[a, b] w fun e w' => ∃ p q, e = .returned (.agg #[p, q]) ∧ LongS w' p (m / Nat.gcd m n) ∧ LongS w' q (n / Nat.gcd m n) ∧ Below w.heap.size w w' := by
  obtain ⟨_, a1, cap1, rfl⟩ := ha.len
  obtain ⟨_, a2, cap2, rfl⟩ := hb.len
  have B0 := below1 w (.cells #[.slice none 0 0, .slice none 0 0] 44)
  have hZ := Blk.new w #[.slice none 0 0, .slice none 0 0] 44
  have ha0 := ha.keep B0
  have hb0 := hb.keep B0
  have hgp := Lib.hid (Nat.gcd_pos_of_pos_right m hn)
  have hgl := Lib.hid (gcd_len (m := m) hn)
  have hgc := l01Gcd_any _ _ m n _ ha0 hb0 sm sn
  have sm' := Lib.hid sm
  have sn' := Lib.hid sn
  clear ha hb sm sn
  generalize Nat.gcd m n = g at *
  go_enter Tryd.func17, Tryd.ntmps17
  go_wp2_with fail
  refine hgc.mono ?_
  rintro e w1 ⟨gv, rfl, hg, b1⟩
  obtain ⟨_, ga, gc, rfl⟩ := hg.len
  have hg' := Lib.hid hg
  have hZ1 := hZ.keep b1 hZ.lt
  have B1 := below_wt B0 b1
  have hd1 := Lib.hid (l01Divide_any _ _ m g w1 (ha0.keep b1) hg hgp.out sm'.out (Nat.le_trans hgl.out sn'.out))
  have hb1' := Lib.hid (hb0.keep b1)
  clear hg hZ hgc ha0 hb0 b1 B0
  go_wp2_with fail
  refine hd1.out.mono ?_
  rintro e w2 ⟨p, r1, rfl, hp, hr1, b2⟩
  obtain ⟨_, pa, pc, rfl⟩ := hp.len
  obtain ⟨_, ra, rc, rfl⟩ := hr1.len
  have hp' := Lib.hid hp
  have hZ2 := hZ1.keep b2 hZ1.lt
  have B2 := below_wt B1 b2
  have hd2 := Lib.hid (l01Divide_any _ _ n g w2 (hb1'.out.keep b2) (hg'.out.keep b2) hgp.out sn'.out (Nat.le_trans hgl.out sn'.out))
  clear hp hr1 hd1 hZ1 B1 b2
  go_wp2_with fail
  refine hd2.out.mono ?_
  rintro e w3 ⟨q, r2, rfl, hq, hr2, b3⟩
  obtain ⟨_, qa, qc, rfl⟩ := hq.len
  obtain ⟨_, ra2, rc2, rfl⟩ := hr2.len
  have hp3 := hp'.out.keep b3
  have hZ3 := hZ2.keep b3 hZ2.lt
  have B3 := below_wt B2 b3
  have hfp := Lib.hid ((hp3.setBox hZ3 0 (.slice pa (dlen B9 (m / g)) pc)).setBox (hZ3.set 0 (.slice pa (dlen B9 (m / g)) pc)) 1 (.slice qa (dlen B9 (n / g)) qc))
  have hfq := Lib.hid ((hq.setBox hZ3 0 (.slice pa (dlen B9 (m / g)) pc)).setBox (hZ3.set 0 (.slice pa (dlen B9 (m / g)) pc)) 1 (.slice qa (dlen B9 (n / g)) qc))
  have hBf := Lib.hid ((B3.setCell (p := ⟨w.heap.size, 0, none⟩) (Nat.le_refl _) (.slice pa (dlen B9 (m / g)) pc)).setCell (p := ⟨w.heap.size, 1, none⟩) (Nat.le_refl _) (.slice qa (dlen B9 (n / g)) qc))
  have z0 : w3.cell? ⟨w.heap.size, 0, none⟩ = some (.slice none 0 0) := hZ3.cell 0
  have z1 : w3.cell? ⟨w.heap.size, 1, none⟩ = some (.slice none 0 0) := hZ3.cell 1
  have f0 := hZ3.frozen 0
  have f1 := hZ3.frozen 1
  clear hp3 hq hr2 hZ3 hZ2 B3 B2 b3 hd2
  go_wp2
  refine bodyPost_ret (v := .agg #[.slice pa (dlen B9 (m / g)) pc, .slice qa (dlen B9 (n / g)) qc]) (by simp [results, Tryd.results17, go_sem, z0, z1]) rfl ?_
  exact ⟨_, _, rfl, hfp.out, hfq.out, hBf.out⟩
end Go.Proofs.YtiddhnnofpbopaaDoor

/- l01Numeral of the specification. Conditions: none. -/
namespace Go.Proofs.YtiddhnnofpbopaaDoor
open Go.RowKit Go.Deep
set_option linter.unusedVariables false

def digB (x : Nat) : Bool := decide (48 ≤ x ∧ x ≤ 57)
def byteAt (s : ByteArray) (i : Nat) : Nat := ((s.data.toList.map UInt8.toNat).getD i 0)
def numB (s : ByteArray) : Bool := decide (1 ≤ s.size ∧ s.size ≤ 300 ∧ ¬ (byteAt s 0 = 48 ∧ 1 < s.size)) && (List.range s.size).all fun i => digB (byteAt s i)

theorem byteAt_get (s : ByteArray) (i : Nat) (h : i < s.size) : s[i].toNat = byteAt s i := by
  have h' : i < s.data.size := h
  unfold byteAt
  rw [List.getD, List.getElem?_map, List.getElem?_eq_getElem (by simpa using h')]
  simp
  rfl
theorem all_next {p : Nat → Bool} (k : Nat) : (List.range (k + 1)).all p = ((List.range k).all p && p k) := by
  rw [List.range_succ, List.all_append]; simp
theorem all_not {p : Nat → Bool} {k n : Nat} (hk : k < n) (h : p k = false) : (List.range n).all p = false := by
  rw [Bool.eq_false_iff]; intro hc
  rw [List.all_eq_true] at hc
  have := hc k (by simpa using hk)
  rw [h] at this; cases this

end Go.Proofs.YtiddhnnofpbopaaDoor

/- l01Read of the specification: the number that a numeral tells. Conditions: the text is a numeral (at most 300 digits). -/
namespace Go.Proofs.YtiddhnnofpbopaaDoor
open Go.RowKit Go.Deep
set_option linter.unusedVariables false

/-- the number of the first k digits -/
def decV (s : ByteArray) : Nat → Nat
  | 0 => 0
  | k + 1 => decV s k * 10 + (byteAt s k - 48)
theorem numB_digit {s : ByteArray} (h : numB s = true) {k : Nat} (hk : k < s.size) : 48 ≤ byteAt s k ∧ byteAt s k ≤ 57 := by
  unfold numB at h
  rw [Bool.and_eq_true] at h
  have h2 := List.all_eq_true.1 h.2 k (by simpa using hk)
  simpa [digB] using h2
theorem numB_size {s : ByteArray} (h : numB s = true) : 1 ≤ s.size ∧ s.size ≤ 300 := by
  unfold numB at h
  rw [Bool.and_eq_true] at h
  have := of_decide_eq_true h.1
  exact ⟨this.1, this.2.1⟩
theorem decV_lt {s : ByteArray} (h : numB s = true) : ∀ k, k ≤ s.size → decV s k < 10 ^ k
  | 0, _ => by simp [decV]
  | k + 1, hk => by
    have h1 := decV_lt h k (by omega)
    have h2 := numB_digit h (show k < s.size by omega)
    rw [decV, Nat.pow_succ]; omega
theorem decV_len9 {s : ByteArray} (h : numB s = true) {k : Nat} (hk : k ≤ s.size) : dlen B9 (decV s k) ≤ k :=
  dlen_le b9 (Nat.lt_of_lt_of_le (decV_lt h k hk) (Nat.pow_le_pow_left (by decide) k))

theorem one_ints (W : World) (x : Nat) : Ints (W.alloc (.cells #[.int .i64 (x : Int)] 2)) (.slice (some ⟨W.heap.size, 0, none⟩) 1 1) (nats [x]) := by
  have hB := Blk.new W #[.int .i64 (x : Int)] 2
  refine ⟨by unfold maxLen; simp, _, 1, rfl, ⟨by simp, by unfold maxLen; omega⟩, fun i hi => ⟨_, 0, rfl, ?_⟩⟩
  simp at hi
  subst hi
  exact hB.cell 0
theorem ten_long (W : World) : LongS (W.alloc (.cells #[.int .i64 10] 2)) (.slice (some ⟨W.heap.size, 0, none⟩) 1 1) 10 := one_ints W 10
theorem ten_long' (W : World) (o : Obj) : LongS ((W.alloc o).alloc (.cells #[.int .i64 10] 2)) (.slice (some ⟨W.heap.size + 1, 0, none⟩) 1 1) 10 := by
  have := ten_long (W.alloc o)
  simpa only [World.size_alloc] using this
theorem one_ints' (W : World) (x : Nat) (o : Obj) : Ints ((W.alloc o).alloc (.cells #[.int .i64 (x : Int)] 2)) (.slice (some ⟨W.heap.size + 1, 0, none⟩) 1 1) (nats [x]) := by
  have := one_ints (W.alloc o) x
  simpa only [World.size_alloc] using this
theorem zero_long (W : World) (a : Option Addr) (c : Nat) (hc : c ≤ maxLen) : LongS W (.slice a (dlen B9 0) c) 0 := by
  have e : longS 0 = [] := by simp [longS, dlen_zero, dgs]
  unfold LongS
  rw [e, dlen_zero]
  exact ⟨by unfold maxLen; simp [ints], a, c, rfl, ⟨by simp [ints], hc⟩, fun i hi => absurd hi (by simp [ints])⟩
theorem val_one (x : Nat) : val B9 [x] = x := by simp [val]

end Go.Proofs.YtiddhnnofpbopaaDoor
