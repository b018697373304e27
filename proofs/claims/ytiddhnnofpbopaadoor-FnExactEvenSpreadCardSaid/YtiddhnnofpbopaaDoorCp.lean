/- copy of elements of several cells into a block that is known whole; slices.Repeat of one fraction. Conditions: at most a million times. -/
import Derived.Laws.CopyOwn
import Derived.Laws.CopyRow
import Derived.Deep.RegionHeld3
import Derived.IntWalk
import Derived.Test.YtiddhnnofpbopaaDoorFsG
namespace Go.Proofs.YtiddhnnofpbopaaDoor
open Go.RowKit Go.Deep
set_option linter.unusedVariables false
set_option linter.unusedSimpArgs false

theorem run_copy_wide {P : Program} (w : World) (dT sT ty elem : TypeId) (g o dLen dCap : Nat) (a : Addr) (sLen sCap m z : Nat) (cur : Array Value) (t : TypeId) (cs : List Value)
    (hu : P.underlying dT = some (.slice elem)) (hs : (P.info? elem).map (·.size) = some z)
    (hg : w.heap[g]? = some (.cells cur t (0, 0))) (hm : m = Nat.min sLen dLen) (hn : cs.length = m * z)
    (hsrc : ∀ j v, cs[j]? = some v → w.cell? (a.add j) = some v) (hfit : o + cs.length ≤ cur.size) (h1 : ∀ v ∈ cs, v.oneCell' = true) :
    (Builtin.copy_ #[dT, sT] ty #[.slice (some ⟨g, o, none⟩) dLen dCap, .slice (some a) sLen sCap]).run P w =
      .ok (goInt m) (w.setRow g (cur.toList.take o ++ cs ++ cur.toList.drop (o + cs.length)).toArray) := by
  have hl := run_loadCells_list (P := P) w a cs hsrc
  have hst := run_storeCells_at P g o t cs 0 cur w hg (by simpa using hfit) h1
  rw [hn] at hl
  cases hq : P.info? elem with
  | none => simp [hq] at hs
  | some i =>
    have hi : i.size = z := by simpa [hq] using hs
    simp [Builtin.copy_, run_underlying hu, Builtin.lenOf, Builtin.firstCells, sizeOf, typeInfo, hq, hi, ← hm, hl, hst]

theorem wpList_copy_wide {P : Program} {w : World} {ops : Array Oper} {rest : List Oper} {o : Oper} {a : Act} {Q : Exit → Act → World → Prop} (hgd : o.guard = none) (d s : Operand) (dT sT : TypeId)
    (ho : o.op = .call { callee := .builtin .copy, args := #[d, s], argTypes := #[dT, sT] }) (elem : TypeId) (z : Nat) (hu : P.underlying dT = some (.slice elem)) (hsz : (P.info? elem).map (·.size) = some z)
    (g off dLen dCap : Nat) (ad : Addr) (sLen sCap m : Nat) (hd : a.eval d = .slice (some ⟨g, off, none⟩) dLen dCap) (hs : a.eval s = .slice (some ad) sLen sCap)
    (cur : Array Value) (t : TypeId) (hg : w.heap[g]? = some (.cells cur t (0, 0))) (cs : List Value) (hm : m = Nat.min sLen dLen) (hn : cs.length = m * z)
    (hsrc : ∀ j v, cs[j]? = some v → w.cell? (ad.add j) = some v) (hfit : off + cs.length ≤ cur.size) (h1 : ∀ v ∈ cs, v.oneCell' = true)
    (B : Nat) (w0 : World) (hb : Below B w0 w) (hBg : B ≤ g)
    (h : ∀ w', Blk w' g (cur.toList.take off ++ cs ++ cur.toList.drop (off + cs.length)).toArray t → Below B w0 w' → wpList P ops Q rest (a.put o.dst (goInt m)) w') : wpList P ops Q (o :: rest) a w := by
  refine wpList_plain hgd fun K hK => ?_
  have hrun := run_copy_wide (P := P) w dT sT o.type elem g off dLen dCap ad sLen sCap m z cur t cs hu hsz hg hm hn hsrc hfit h1
  unfold Oper.wp
  simp only [execOp, ho, resolve, invoke, builtin, Sem.run_bind, Sem.run_pure, Result.andThen_ok, List.map_toArray, List.map_cons, List.map_nil, hd, hs, hrun]
  exact hK _ _ (h _ (setRow_heap w g _ _ t _ hg) (below_setRow hb hBg _))

theorem step_copy_wide {P : Program} {ops : Array Oper} {o : Oper} {a : Act} {w : World} {K : Act → World → Prop} {Q : Exit → Act → World → Prop} {E : Prop} (hgd : o.guard = none) (d s : Operand) (dT sT : TypeId)
    (ho : o.op = .call { callee := .builtin .copy, args := #[d, s], argTypes := #[dT, sT] }) (elem : TypeId) (z : Nat) (hu : P.underlying dT = some (.slice elem)) (hsz : (P.info? elem).map (·.size) = some z)
    (g off dLen dCap : Nat) (ad : Addr) (sLen sCap m : Nat) (hd : a.eval d = .slice (some ⟨g, off, none⟩) dLen dCap) (hs : a.eval s = .slice (some ad) sLen sCap)
    (cur : Array Value) (t : TypeId) (hg : w.heap[g]? = some (.cells cur t (0, 0))) (cs : List Value) (hm : m = Nat.min sLen dLen) (hn : cs.length = m * z)
    (hsrc : ∀ j v, cs[j]? = some v → w.cell? (ad.add j) = some v) (hfit : off + cs.length ≤ cur.size) (h1 : ∀ v ∈ cs, v.oneCell' = true)
    (B : Nat) (w0 : World) (hb : Below B w0 w) (hBg : B ≤ g)
    (h : ∀ w', Blk w' g (cur.toList.take off ++ cs ++ cur.toList.drop (off + cs.length)).toArray t → Below B w0 w' → K (a.put o.dst (goInt m)) w') : if Region.wanted o (yielded ops a.tmps) = true then Oper.wp P o a w K Q else E := by
  have hw : Region.wanted o (yielded ops a.tmps) = true := by simp [Region.wanted, hgd]
  rw [if_pos hw]
  have hrun := run_copy_wide (P := P) w dT sT o.type elem g off dLen dCap ad sLen sCap m z cur t cs hu hsz hg hm hn hsrc hfit h1
  unfold Oper.wp
  simp only [execOp, ho, resolve, invoke, builtin, Sem.run_bind, Sem.run_pure, Result.andThen_ok, List.map_toArray, List.map_cons, List.map_nil, hd, hs, hrun]
  exact h _ (setRow_heap w g _ _ t _ hg) (below_setRow hb hBg _)

/-! ### slices.Repeat of one fraction -/
theorem Tryd.infoFrC : (Tryd.prog.info? 35).map (·.size) = some 2 := by kernel_rfl
theorem Tryd.infoFrC3 : (Tryd.prog.info? 35).map (fun i => (i.zero, i.size, i.bytes)) = some (some (.agg #[.string ⟨#[]⟩, .string ⟨#[]⟩]), 2, 32) := by kernel_rfl
theorem make_frc (n : Nat) (hb : n ≤ 2097152) (w : World) :
    (Instr.makeSlice 22 (.int .i64 (n : Int)) (.int .i64 (n : Int))).run Tryd.prog w = .ok (.slice (some ⟨w.heap.size, 0, none⟩) n n) (w.alloc (.cells (madeCells #[.string ⟨#[]⟩, .string ⟨#[]⟩] (n * 2)) 35)) := by
  obtain ⟨i0, hi, hz0, hz1, hz2⟩ := info_parts Tryd.infoFrC3
  have := run_make (P := Tryd.prog) w 22 35 i0 (.agg #[.string ⟨#[]⟩, .string ⟨#[]⟩]) Tryd.underlying22 hi hz0 .i64 .i64 (n : Int) (n : Int) (by omega) (Int.le_refl _) (by rw [hz2]; omega) (by omega)
  rw [this, hz1, Int.toNat_natCast]
  rfl
/-- the first k of n are this one -/
def FrsRp (w : World) (g n k : Nat) (x y : ByteArray) : Prop :=
  ∃ c : Array Value, Blk w g c 35 ∧ c.size = n * 2 ∧ (∀ v ∈ c.toList, v.oneCell' = true) ∧ ∀ i, i < k → c[i * 2]? = some (.string x) ∧ c[i * 2 + 1]? = some (.string y)
theorem madeCells_one (n : Nat) : ∀ v ∈ (madeCells #[Value.string ⟨#[]⟩, .string ⟨#[]⟩] (n * 2)).toList, v.oneCell' = true := by
  intro v hv
  simp only [madeCells] at hv
  simp at hv
  obtain ⟨k, hk, rfl⟩ := hv
  rcases Nat.mod_two_eq_zero_or_one k with h | h <;> simp [h, Value.oneCell']
theorem FrsRp.list {w : World} {g n k : Nat} {x y : ByteArray} (h : FrsRp w g n k x y) (hk : k ≤ n) :
    ∃ c : Array Value, Blk w g c 35 ∧ c.size = n * 2 ∧ (∀ v ∈ c.toList, v.oneCell' = true) ∧ (∀ m, m ≤ k → (c.toList.take (m * 2)).length = m * 2 ∧ (∀ j v, (c.toList.take (m * 2))[j]? = some v → w.cell? ((⟨g, 0, none⟩ : Addr).add j) = some v) ∧ (∀ v ∈ c.toList.take (m * 2), v.oneCell' = true)) ∧ ∀ i, i < k → c[i * 2]? = some (.string x) ∧ c[i * 2 + 1]? = some (.string y) := by
  obtain ⟨c, hB, hs, h1, hc⟩ := h
  refine ⟨c, hB, hs, h1, fun m hm => ⟨by rw [List.length_take, Array.length_toList, hs]; omega, fun j v hj => ?_, fun v hv => h1 v (List.mem_of_mem_take hv)⟩, hc⟩
  have e : (⟨g, 0, none⟩ : Addr).add j = ⟨g, j, none⟩ := by rw [add_plain]; simp
  rw [e, hB.cell]
  rw [List.getElem?_take] at hj
  split at hj
  · simpa using hj
  · cases hj
theorem FrsRp.more {w w' : World} {g n k m : Nat} {x y : ByteArray} {c : Array Value} (hs : c.size = n * 2) (h1 : ∀ v ∈ c.toList, v.oneCell' = true) (hc : ∀ i, i < k → c[i * 2]? = some (.string x) ∧ c[i * 2 + 1]? = some (.string y))
    (hm : m ≤ k) (hkm : k + m ≤ n) (hB : Blk w' g (c.toList.take (k * 2) ++ c.toList.take (m * 2) ++ c.toList.drop (k * 2 + (c.toList.take (m * 2)).length)).toArray 35) : FrsRp w' g n (k + m) x y := by
  have hl : (c.toList.take (m * 2)).length = m * 2 := by rw [List.length_take, Array.length_toList, hs]; omega
  have hl2 : (c.toList.take (k * 2)).length = k * 2 := by rw [List.length_take, Array.length_toList, hs]; omega
  refine ⟨_, hB, ?_, ?_, fun i hi => ?_⟩
  · simp [hl, hs]; omega
  · intro v hv
    simp only [List.mem_append] at hv
    rcases hv with (hv | hv) | hv
    · exact h1 v (List.mem_of_mem_take hv)
    · exact h1 v (List.mem_of_mem_take hv)
    · exact h1 v (List.mem_of_mem_drop hv)
  · have key : ∀ j, j < 2 → ∀ u, (∀ i, i < k → c[i * 2 + j]? = some u) → (c.toList.take (k * 2) ++ c.toList.take (m * 2) ++ c.toList.drop (k * 2 + (c.toList.take (m * 2)).length)).toArray[i * 2 + j]? = some u := fun j hj u hu => by
      rw [List.getElem?_toArray]
      by_cases h : i < k
      · rw [List.append_assoc, List.getElem?_append_left (by omega), List.getElem?_take, if_pos (by omega)]
        have := hu i h
        simpa using this
      · rw [List.getElem?_append_left (by rw [List.length_append]; omega), List.getElem?_append_right (by omega), hl2, List.getElem?_take, if_pos (by omega)]
        have := hu (i - k) (by omega)
        rw [show (i - k) * 2 + j = i * 2 + j - k * 2 by omega] at this
        simpa using this
    exact ⟨key 0 (by omega) _ (fun i hi => (hc i hi).1), key 1 (by omega) _ (fun i hi => (hc i hi).2)⟩

set_option maxRecDepth 100000 in
set_option maxHeartbeats 4000000 in
theorem mul64_any (n : Nat) (w : World) (h1 : 1 ≤ n) (hn : n ≤ 6) : Calls Tryd.prog 28 #[.int .u64 1, .int .u64 (n : Int)] w fun e w' => e = .returned (.tuple #[.int .u64 0, .int .u64 (n : Int)]) ∧ Below w.heap.size w w' := by
  have hv : ∀ k : Fin 7, bits BinOp.and IntKind.u64 ((k.1 : Nat) : Int) 4294967295 = ((k.1 : Nat) : Int) := by decide
  have hb1 : bits BinOp.and IntKind.u64 1 4294967295 = 1 := by decide
  have hbn : bits BinOp.and IntKind.u64 (n : Int) 4294967295 = (n : Int) := hv ⟨n, by omega⟩
  have hd : (n : Int) / 4294967296 = 0 := by omega
  clear hv
  go_enter Tryd.func28, Tryd.ntmps28
  go_wp2
  go_ret2
  exact ⟨rfl, Below.refl _ _⟩
set_option maxRecDepth 100000 in
set_option maxHeartbeats 4000000 in
theorem mul_any (n : Nat) (w : World) (h1 : 1 ≤ n) (hn : n ≤ 6) : Calls Tryd.prog 20 #[.int .u64 1, .int .u64 (n : Int)] w fun e w' => e = .returned (.tuple #[.int .u64 0, .int .u64 (n : Int)]) ∧ Below w.heap.size w w' := by
  go_enter Tryd.func20, Tryd.ntmps20
  go_wp2_with (go_at_call 28; (with_reducible refine (mul64_any n _ h1 hn).mono ?_); rintro e w1 ⟨rfl, b1⟩)
  go_ret2
  exact ⟨rfl, b1⟩

theorem FrsRp.first {w : World} {g n : Nat} {x y : ByteArray} {cs : List Value} (hcs : cs = [.string x, .string y]) (h1 : 1 ≤ n)
    (hB : Blk w g ((madeCells #[Value.string ⟨#[]⟩, .string ⟨#[]⟩] (n * 2)).toList.take 0 ++ cs ++ (madeCells #[Value.string ⟨#[]⟩, .string ⟨#[]⟩] (n * 2)).toList.drop (0 + cs.length)).toArray 35) : FrsRp w g n 1 x y := by
  subst hcs
  refine ⟨_, hB, ?_, ?_, fun i hi => ?_⟩
  · simp [size_madeCells]; omega
  · intro v hv
    simp only [List.take_zero, List.nil_append, List.mem_append, List.mem_cons, List.not_mem_nil, or_false] at hv
    rcases hv with (rfl | rfl) | hv
    · rfl
    · rfl
    · exact madeCells_one n v (List.mem_of_mem_drop hv)
  · obtain rfl : i = 0 := by omega
    exact ⟨by simp, by simp⟩

set_option maxRecDepth 100000 in
set_option maxHeartbeats 8000000 in
theorem repeat_any (b off cap n : Nat) (x y : ByteArray) (w : World) (q0 : w.cell? ⟨b, off, none⟩ = some (.string x)) (q1 : w.cell? ⟨b, off + 1, none⟩ = some (.string y)) (h1 : 1 ≤ n) (h6 : n ≤ 6) :
    Calls Tryd.prog 13 #[.slice (some ⟨b, off, none⟩) 1 cap, .int .i64 (n : Int)] w fun e w' => ∃ g, e = .returned (.slice (some ⟨g, 0, none⟩) n n) ∧ FrsRp w' g n n x y ∧ w.heap.size ≤ g ∧ Below w.heap.size w w' := by
  have hmul := Lib.hid (fun W => mul_any n W h1 h6)
  have hmk := fun W => make_frc n (by omega) W
  go_enter Tryd.func13, Tryd.ntmps13
  go_wp2_with fail
  (with_reducible refine (hmul.out _).mono ?_)
  rintro e w1 ⟨rfl, b1⟩
  have c0 := (b1.cell (p := ⟨b, off, none⟩) (block_lt q0)).trans q0
  have c1 := (b1.cell (p := ⟨b, off + 1, none⟩) (block_lt q1)).trans q1
  have B1 := Lib.hid b1
  clear q0 q1 b1
  have hsrc : ∀ j v, [Value.string x, .string y][j]? = some v → (w1.alloc (.cells (madeCells #[.string ⟨#[]⟩, .string ⟨#[]⟩] (n * 2)) 35)).cell? ((⟨b, off, none⟩ : Addr).add j) = some v := by
    intro j v hj
    rw [add_plain]
    match j, hj with
    | 0, hj => simp at hj; subst hj; exact ((below1 w1 _).cell (p := ⟨b, off, none⟩) (block_lt c0)).trans c0
    | 1, hj => simp at hj; subst hj; exact ((below1 w1 _).cell (p := ⟨b, off + 1, none⟩) (block_lt c1)).trans c1
    | j + 2, hj => simp at hj
  have hsrc' := Lib.hid hsrc
  have hms := Lib.hid (size_madeCells #[Value.string ⟨#[]⟩, .string ⟨#[]⟩] (n * 2))
  clear hsrc c0 c1
  go_wp2_with ((with_reducible refine wpList_copy_wide rfl (.tmp 31) (.tmp 32) 22 22 rfl 35 2 Tryd.underlying22 Tryd.infoFrC w1.heap.size 0 n n ⟨b, off, none⟩ 1 cap 1 rfl rfl _ 35 (heap_alloc_new w1 _) [.string x, .string y] (Nat.min_eq_left h1).symm rfl hsrc'.out (by rw [hms.out]; simp; omega) (by simp [Value.oneCell']) w1.heap.size w1 (below1 w1 _) (Nat.le_refl _) ?_); intro w5 hB5 b5)
  have hrp := Lib.hid (FrsRp.first rfl h1 hB5)
  have B5 := Lib.hid (below_wt B1.out b5)
  have hs1 := B1.out.size
  clear hB5 b5 hsrc' hms
  obtain ⟨g, hg⟩ : ∃ g, g = w1.heap.size := ⟨_, rfl⟩
  rw [← hg] at hrp hs1 ⊢
  clear hg
  go_wp2_with fail
  go_loopw [8] (fun i wr => ∃ k : Nat, 1 ≤ k ∧ k ≤ n ∧ i = .int .i64 (k : Int) ∧ Hid (FrsRp wr g n k x y) ∧ Hid (Below w.heap.size w wr)) (fun i _ => n - (intOf i).toNat)
  case atStart => exact ⟨1, Nat.le_refl _, h1, rfl, hrp, B5⟩
  case round =>
    clear hrp B5
    obtain ⟨k, hk1, hk, rfl, hR, bel⟩ := hrel
    by_cases hlt : k < n
    · obtain ⟨c, hB, hcs, hc1, htk, hcc⟩ := hR.out.list hk
      have i0 : (0 : Int) ≤ (k : Int) := by omega
      have i1 : (k : Int) ≤ (n : Int) := by omega
      have i2 : (n : Int) ≤ 6 := by omega
      have hne : ¬ n = k := by omega
      obtain ⟨m, hm⟩ : ∃ m, m = Nat.min k (n - k) := ⟨_, rfl⟩
      have hmk : m ≤ k := by rw [hm]; exact Nat.min_le_left _ _
      have hmn : k + m ≤ n := by have : m ≤ n - k := by rw [hm]; exact Nat.min_le_right _ _
                                 omega
      have hm0 : 0 < m := by
        rw [hm]
        exact Nat.lt_min.2 ⟨by omega, by omega⟩
      obtain ⟨t1, t2, t3⟩ := htk m hmk
      have hw1 : (0 : Int) ≤ (k : Int) + (m : Int) := by omega
      have hw2 : (k : Int) + (m : Int) ≤ 6 := by omega
      have hwr := Lib.hid (IntWalk.i64_in ((k : Int) + (m : Int)) (by omega))
      have hm' := Lib.hid hm
      have t1' := Lib.hid t1
      have t2' := Lib.hid (show ∀ j v, (c.toList.take (m * 2))[j]? = some v → wr.drew.cell? ((⟨g, 0, none⟩ : Addr).add j) = some v from t2)
      have t3' := Lib.hid t3
      have hB' := Lib.hid (show wr.drew.heap[g]? = some (.cells c 35 (0, 0)) from hB)
      have hcs' := Lib.hid hcs
      have hc1' := Lib.hid hc1
      have hcc' := Lib.hid hcc
      have hgw := Lib.hid (show Below w.heap.size w wr.drew from bel.out.drew)
      clear hm t1 t2 t3 hB hcs hc1 hcc htk hR bel
      go_wp2_with fail
      go_region_held3 (fun _ => True) (trivial) (first
        | ((with_reducible refine step_copy_wide (w := wr.drew) (by kernel_rfl) (.tmp 41) (.tmp 44) 22 22 (by kernel_rfl) 35 2 Tryd.underlying22 Tryd.infoFrC g (k * 2) (n - k) (n - k) ⟨g, 0, none⟩ k n m (by kernel_rfl) (by kernel_rfl) c 35 hB'.out (c.toList.take (m * 2)) hm'.out t1'.out t2'.out (by rw [t1'.out, hcs'.out]; omega) t3'.out w.heap.size w hgw.out hs1 ?_); intro w6 hB6 b6)
        | fail "no arm")
      have hR6 := Lib.hid (FrsRp.more (w := w) hcs'.out hc1'.out hcc'.out hmk hmn hB6)
      have B6 := Lib.hid b6
      clear hB6 b6
      go_wp2
      go_roundw
      case rel => exact ⟨k + m, by omega, hmn, by rw [hwr.out, Int.natCast_add], hR6, B6⟩
      case measure => rw [hwr.out]; simp [intOf]; omega
    · obtain rfl : n = k := by omega
      have hfin := Lib.hid hR.out
      clear hR
      go_wp2
      go_ret
      exact ⟨g, rfl, hfin.out, hs1, bel.out⟩
end Go.Proofs.YtiddhnnofpbopaaDoor
