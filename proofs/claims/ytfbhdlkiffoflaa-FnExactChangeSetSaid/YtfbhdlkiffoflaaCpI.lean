/- copy of elements of any number of cells into a block that is known whole; slices.Repeat of the number 1. Conditions: at most six times. -/
import Derived.Laws.CopyOwn
import Derived.Laws.CopyRow
import Derived.Deep.RegionHeld3
import Derived.IntWalk
import Derived.Test.YtfbhdlkiffoflaaKinds
namespace Go.Proofs.Ytfbhdlkiffoflaa
open Go.RowKit Go.Deep
set_option linter.unusedVariables false
set_option linter.unusedSimpArgs false

theorem run_copy_wide {P : Program} (w : World) (dT sT ty elem : TypeId) (g o dLen dCap : Nat) (a : Addr) (sLen sCap m z : Nat) (cur : Array Value) (t : TypeId) (cs : List Value)
    (hu : P.underlying dT = some (.slice elem)) (hs : (P.info? elem).map (·.size) = some z)
    (hg : w.heap[g]? = some (.cells cur t (0, 0))) (hm : m = Nat.min sLen dLen) (hn : cs.length = m * z)
    (hsrc : ∀ j v, cs[j]? = some v → w.cell? (a.add j) = some v) (hfit : o + cs.length ≤ cur.size) (h1 : ∀ v ∈ cs, v.oneCell' = true) :
    (Builtin.copy_ #[dT, sT] ty #[.slice (some ⟨g, o, none⟩) dLen dCap, .slice (some a) sLen sCap]).run P w =
      .ok (goInt m) (w.setRow g (cur.toList.take o ++ cs ++ cur.toList.drop (o + cs.length)).toArray) := by
  have hl := run_loadCells_list (P := P) w a cs hsrc
  have hst := run_storeCells_at P g o t cs 0 cur w hg (by simpa using hfit) h1
  rw [hn] at hl
  cases hq : P.info? elem with
  | none => simp [hq] at hs
  | some i =>
    have hi : i.size = z := by simpa [hq] using hs
    simp [Builtin.copy_, run_underlying hu, Builtin.lenOf, Builtin.firstCells, sizeOf, typeInfo, hq, hi, ← hm, hl, hst]

theorem wpList_copy_wide {P : Program} {w : World} {ops : Array Oper} {rest : List Oper} {o : Oper} {a : Act} {Q : Exit → Act → World → Prop} (hgd : o.guard = none) (d s : Operand) (dT sT : TypeId)
    (ho : o.op = .call { callee := .builtin .copy, args := #[d, s], argTypes := #[dT, sT] }) (elem : TypeId) (z : Nat) (hu : P.underlying dT = some (.slice elem)) (hsz : (P.info? elem).map (·.size) = some z)
    (g off dLen dCap : Nat) (ad : Addr) (sLen sCap m : Nat) (hd : a.eval d = .slice (some ⟨g, off, none⟩) dLen dCap) (hs : a.eval s = .slice (some ad) sLen sCap)
    (cur : Array Value) (t : TypeId) (hg : w.heap[g]? = some (.cells cur t (0, 0))) (cs : List Value) (hm : m = Nat.min sLen dLen) (hn : cs.length = m * z)
    (hsrc : ∀ j v, cs[j]? = some v → w.cell? (ad.add j) = some v) (hfit : off + cs.length ≤ cur.size) (h1 : ∀ v ∈ cs, v.oneCell' = true)
    (B : Nat) (w0 : World) (hb : Below B w0 w) (hBg : B ≤ g)
    (h : ∀ w', Blk w' g (cur.toList.take off ++ cs ++ cur.toList.drop (off + cs.length)).toArray t → Below B w0 w' → wpList P ops Q rest (a.put o.dst (goInt m)) w') : wpList P ops Q (o :: rest) a w := by
  refine wpList_plain hgd fun K hK => ?_
  have hrun := run_copy_wide (P := P) w dT sT o.type elem g off dLen dCap ad sLen sCap m z cur t cs hu hsz hg hm hn hsrc hfit h1
  unfold Oper.wp
  simp only [execOp, ho, resolve, invoke, builtin, Sem.run_bind, Sem.run_pure, Result.andThen_ok, List.map_toArray, List.map_cons, List.map_nil, hd, hs, hrun]
  exact hK _ _ (h _ (setRow_heap w g _ _ t _ hg) (below_setRow hb hBg _))

theorem step_copy_wide {P : Program} {ops : Array Oper} {o : Oper} {a : Act} {w : World} {K : Act → World → Prop} {Q : Exit → Act → World → Prop} {E : Prop} (hgd : o.guard = none) (d s : Operand) (dT sT : TypeId)
    (ho : o.op = .call { callee := .builtin .copy, args := #[d, s], argTypes := #[dT, sT] }) (elem : TypeId) (z : Nat) (hu : P.underlying dT = some (.slice elem)) (hsz : (P.info? elem).map (·.size) = some z)
    (g off dLen dCap : Nat) (ad : Addr) (sLen sCap m : Nat) (hd : a.eval d = .slice (some ⟨g, off, none⟩) dLen dCap) (hs : a.eval s = .slice (some ad) sLen sCap)
    (cur : Array Value) (t : TypeId) (hg : w.heap[g]? = some (.cells cur t (0, 0))) (cs : List Value) (hm : m = Nat.min sLen dLen) (hn : cs.length = m * z)
    (hsrc : ∀ j v, cs[j]? = some v → w.cell? (ad.add j) = some v) (hfit : off + cs.length ≤ cur.size) (h1 : ∀ v ∈ cs, v.oneCell' = true)
    (B : Nat) (w0 : World) (hb : Below B w0 w) (hBg : B ≤ g)
    (h : ∀ w', Blk w' g (cur.toList.take off ++ cs ++ cur.toList.drop (off + cs.length)).toArray t → Below B w0 w' → K (a.put o.dst (goInt m)) w') : if Region.wanted o (yielded ops a.tmps) = true then Oper.wp P o a w K Q else E := by
  have hw : Region.wanted o (yielded ops a.tmps) = true := by simp [Region.wanted, hgd]
  rw [if_pos hw]
  have hrun := run_copy_wide (P := P) w dT sT o.type elem g off dLen dCap ad sLen sCap m z cur t cs hu hsz hg hm hn hsrc hfit h1
  unfold Oper.wp
  simp only [execOp, ho, resolve, invoke, builtin, Sem.run_bind, Sem.run_pure, Result.andThen_ok, List.map_toArray, List.map_cons, List.map_nil, hd, hs, hrun]
  exact h _ (setRow_heap w g _ _ t _ hg) (below_setRow hb hBg _)

/-! ### slices.Repeat of the number 1 -/
theorem Try.infoI1 : (Try.prog.info? 2).map (·.size) = some 1 := by kernel_rfl
theorem make_i1 (n : Nat) (hb : n ≤ 2097152) (w : World) :
    (Instr.makeSlice 32 (.int .i64 (n : Int)) (.int .i64 (n : Int))).run Try.prog w = .ok (.slice (some ⟨w.heap.size, 0, none⟩) n n) (w.alloc (.cells (madeCells #[.int .i64 0] n) 2)) := by
  have := run_make_row' (P := Try.prog) 32 2 (.int .i64 0) 8 Try.underlying32 Try.infoI rfl .i64 .i64 n (by omega) (by omega)
  exact this w
/-- the first k of n are 1 -/
def OnesRp (w : World) (g n k : Nat) : Prop :=
  ∃ c : Array Value, Blk w g c 2 ∧ c.size = n ∧ (∀ v ∈ c.toList, v.oneCell' = true) ∧ ∀ i, i < k → c[i]? = some (.int .i64 1)
theorem madeCells_int (n : Nat) : ∀ v ∈ (madeCells #[Value.int .i64 0] n).toList, v.oneCell' = true := by
  intro v hv
  simp only [madeCells] at hv
  simp at hv
  obtain ⟨k, hk, rfl⟩ := hv
  simp [Value.oneCell', Nat.mod_one]
theorem OnesRp.list {w : World} {g n k : Nat} (h : OnesRp w g n k) (hk : k ≤ n) :
    ∃ c : Array Value, Blk w g c 2 ∧ c.size = n ∧ (∀ v ∈ c.toList, v.oneCell' = true) ∧ (∀ m, m ≤ k → (c.toList.take m).length = m ∧ (∀ j v, (c.toList.take m)[j]? = some v → w.cell? ((⟨g, 0, none⟩ : Addr).add j) = some v) ∧ (∀ v ∈ c.toList.take m, v.oneCell' = true)) ∧ ∀ i, i < k → c[i]? = some (.int .i64 1) := by
  obtain ⟨c, hB, hs, h1, hc⟩ := h
  refine ⟨c, hB, hs, h1, fun m hm => ⟨by rw [List.length_take, Array.length_toList, hs]; omega, fun j v hj => ?_, fun v hv => h1 v (List.mem_of_mem_take hv)⟩, hc⟩
  have e : (⟨g, 0, none⟩ : Addr).add j = ⟨g, j, none⟩ := by rw [add_plain]; simp
  rw [e, hB.cell]
  rw [List.getElem?_take] at hj
  split at hj
  · simpa using hj
  · cases hj
theorem OnesRp.more {w' : World} {g n k m : Nat} {c : Array Value} (hs : c.size = n) (h1 : ∀ v ∈ c.toList, v.oneCell' = true) (hc : ∀ i, i < k → c[i]? = some (.int .i64 1))
    (hm : m ≤ k) (hkm : k + m ≤ n) (hB : Blk w' g (c.toList.take k ++ c.toList.take m ++ c.toList.drop (k + (c.toList.take m).length)).toArray 2) : OnesRp w' g n (k + m) := by
  have hl : (c.toList.take m).length = m := by rw [List.length_take, Array.length_toList, hs]; omega
  have hl2 : (c.toList.take k).length = k := by rw [List.length_take, Array.length_toList, hs]; omega
  refine ⟨_, hB, ?_, ?_, fun i hi => ?_⟩
  · simp [hl, hs]; omega
  · intro v hv
    simp only [List.mem_append] at hv
    rcases hv with (hv | hv) | hv
    · exact h1 v (List.mem_of_mem_take hv)
    · exact h1 v (List.mem_of_mem_take hv)
    · exact h1 v (List.mem_of_mem_drop hv)
  · rw [List.getElem?_toArray]
    by_cases h : i < k
    · rw [List.append_assoc, List.getElem?_append_left (by omega), List.getElem?_take, if_pos (by omega)]
      have := hc i h
      simpa using this
    · rw [List.getElem?_append_left (by rw [List.length_append]; omega), List.getElem?_append_right (by omega), hl2, List.getElem?_take, if_pos (by omega)]
      have := hc (i - k) (by omega)
      simpa using this
set_option maxRecDepth 100000 in
set_option maxHeartbeats 4000000 in
theorem mul64_any (n : Nat) (w : World) (h1 : 1 ≤ n) (hn : n ≤ 6) : Calls Try.prog 103 #[.int .u64 1, .int .u64 (n : Int)] w fun e w' => e = .returned (.tuple #[.int .u64 0, .int .u64 (n : Int)]) ∧ Below w.heap.size w w' := by
  have hv : ∀ k : Fin 7, bits BinOp.and IntKind.u64 ((k.1 : Nat) : Int) 4294967295 = ((k.1 : Nat) : Int) := by decide
  have hb1 : bits BinOp.and IntKind.u64 1 4294967295 = 1 := by decide
  have hbn : bits BinOp.and IntKind.u64 (n : Int) 4294967295 = (n : Int) := hv ⟨n, by omega⟩
  have hd : (n : Int) / 4294967296 = 0 := by omega
  clear hv
  go_enter Try.func103, Try.ntmps103
  go_wp2
  go_ret2
  exact ⟨rfl, Below.refl _ _⟩
set_option maxRecDepth 100000 in
set_option maxHeartbeats 4000000 in
theorem mul_any (n : Nat) (w : World) (h1 : 1 ≤ n) (hn : n ≤ 6) : Calls Try.prog 101 #[.int .u64 1, .int .u64 (n : Int)] w fun e w' => e = .returned (.tuple #[.int .u64 0, .int .u64 (n : Int)]) ∧ Below w.heap.size w w' := by
  go_enter Try.func101, Try.ntmps101
  go_wp2_with (go_at_call 103; (with_reducible refine (mul64_any n _ h1 hn).mono ?_); rintro e w1 ⟨rfl, b1⟩)
  go_ret2
  exact ⟨rfl, b1⟩

theorem OnesRp.first {w : World} {g n : Nat} {cs : List Value} (hcs : cs = [.int .i64 1]) (h1 : 1 ≤ n)
    (hB : Blk w g ((madeCells #[Value.int .i64 0] n).toList.take 0 ++ cs ++ (madeCells #[Value.int .i64 0] n).toList.drop (0 + cs.length)).toArray 2) : OnesRp w g n 1 := by
  subst hcs
  refine ⟨_, hB, ?_, ?_, fun i hi => ?_⟩
  · simp [size_madeCells]; omega
  · intro v hv
    simp only [List.take_zero, List.nil_append, List.mem_append, List.mem_cons, List.not_mem_nil, or_false] at hv
    rcases hv with rfl | hv
    · rfl
    · exact madeCells_int n v (List.mem_of_mem_drop hv)
  · obtain rfl : i = 0 := by omega
    simp
theorem OnesRp.ints {w : World} {g n : Nat} (h : OnesRp w g n n) (hn : n ≤ maxLen) : Ints w (.slice (some ⟨g, 0, none⟩) n n) (List.replicate n 1) := by
  obtain ⟨c, hB, hs, -, hc⟩ := h
  refine ⟨by simpa [ints] using hn, some ⟨g, 0, none⟩, n, by simp [ints], ⟨by simp [ints], hn⟩, fun i hi => ⟨g, 0, rfl, ?_⟩⟩
  have hi' : i < n := by simpa [ints] using hi
  rw [Nat.zero_add, hB.cell, hc i hi', ints_getD _ _ (by simpa using hi')]
  simp [List.getD, hi']

set_option maxRecDepth 100000 in
set_option maxHeartbeats 8000000 in
theorem repeat_any (b off cap n : Nat) (w : World) (q0 : w.cell? ⟨b, off, none⟩ = some (.int .i64 1)) (h1 : 1 ≤ n) (h6 : n ≤ 6) :
    Calls Try.prog 95 #[.slice (some ⟨b, off, none⟩) 1 cap, .int .i64 (n : Int)] w fun e w' => ∃ g, e = .returned (.slice (some ⟨g, 0, none⟩) n n) ∧ OnesRp w' g n n ∧ w.heap.size ≤ g ∧ Below w.heap.size w w' := by
  have hmul := Lib.hid (fun W => mul_any n W h1 h6)
  have hmk := fun W => make_i1 n (by omega) W
  go_enter Try.func95, Try.ntmps95
  go_wp2_with fail
  (with_reducible refine (hmul.out _).mono ?_)
  rintro e w1 ⟨rfl, b1⟩
  have c0 := (b1.cell (p := ⟨b, off, none⟩) (block_lt q0)).trans q0
  have B1 := Lib.hid b1
  clear q0 b1
  have hsrc : ∀ j v, [Value.int .i64 1][j]? = some v → (w1.alloc (.cells (madeCells #[.int .i64 0] n) 2)).cell? ((⟨b, off, none⟩ : Addr).add j) = some v := by
    intro j v hj
    rw [add_plain]
    match j, hj with
    | 0, hj => simp at hj; subst hj; exact ((below1 w1 _).cell (p := ⟨b, off, none⟩) (block_lt c0)).trans c0
    | j + 1, hj => simp at hj
  have hsrc' := Lib.hid hsrc
  have hms := Lib.hid (size_madeCells #[Value.int .i64 0] n)
  clear hsrc c0
  go_wp2_with ((with_reducible refine wpList_copy_wide rfl (.tmp 31) (.tmp 32) 32 32 rfl 2 1 Try.underlying32 Try.infoI1 w1.heap.size 0 n n ⟨b, off, none⟩ 1 cap 1 rfl rfl _ 2 (heap_alloc_new w1 _) [.int .i64 1] (Nat.min_eq_left h1).symm rfl hsrc'.out (by rw [hms.out]; simp; omega) (by simp [Value.oneCell']) w1.heap.size w1 (below1 w1 _) (Nat.le_refl _) ?_); intro w5 hB5 b5)
  have hrp := Lib.hid (OnesRp.first rfl h1 hB5)
  have B5 := Lib.hid (below_wt B1.out b5)
  have hs1 := B1.out.size
  clear hB5 b5 hsrc' hms
  obtain ⟨g, hg⟩ : ∃ g, g = w1.heap.size := ⟨_, rfl⟩
  rw [← hg] at hrp hs1 ⊢
  clear hg
  go_wp2_with fail
  go_loopw [8] (fun i wr => ∃ k : Nat, 1 ≤ k ∧ k ≤ n ∧ i = .int .i64 (k : Int) ∧ Hid (OnesRp wr g n k) ∧ Hid (Below w.heap.size w wr)) (fun i _ => n - (intOf i).toNat)
  case atStart => exact ⟨1, Nat.le_refl _, h1, rfl, hrp, B5⟩
  case round =>
    clear hrp B5
    obtain ⟨k, hk1, hk, rfl, hR, bel⟩ := hrel
    by_cases hlt : k < n
    · obtain ⟨c, hB, hcs, hc1, htk, hcc⟩ := hR.out.list hk
      have i0 : (0 : Int) ≤ (k : Int) := by omega
      have i1 : (k : Int) ≤ (n : Int) := by omega
      have i2 : (n : Int) ≤ 6 := by omega
      have hne : ¬ n = k := by omega
      obtain ⟨m, hm⟩ : ∃ m, m = Nat.min k (n - k) := ⟨_, rfl⟩
      have hmk : m ≤ k := by rw [hm]; exact Nat.min_le_left _ _
      have hmn : k + m ≤ n := by have : m ≤ n - k := by rw [hm]; exact Nat.min_le_right _ _
                                 omega
      have hm0 : 0 < m := by
        rw [hm]
        exact Nat.lt_min.2 ⟨by omega, by omega⟩
      obtain ⟨t1, t2, t3⟩ := htk m hmk
      have hw1 : (0 : Int) ≤ (k : Int) + (m : Int) := by omega
      have hw2 : (k : Int) + (m : Int) ≤ 6 := by omega
      have hwr := Lib.hid (IntWalk.i64_in ((k : Int) + (m : Int)) (by omega))
      have hm' := Lib.hid hm
      have t1' := Lib.hid t1
      have t2' := Lib.hid (show ∀ j v, (c.toList.take m)[j]? = some v → wr.drew.cell? ((⟨g, 0, none⟩ : Addr).add j) = some v from t2)
      have t3' := Lib.hid t3
      have hB' := Lib.hid (show wr.drew.heap[g]? = some (.cells c 2 (0, 0)) from hB)
      have hcs' := Lib.hid hcs
      have hc1' := Lib.hid hc1
      have hcc' := Lib.hid hcc
      have hgw := Lib.hid (show Below w.heap.size w wr.drew from bel.out.drew)
      clear hm t1 t2 t3 hB hcs hc1 hcc htk hR bel
      go_wp2_with fail
      go_region_held3 (fun _ => True) (trivial) (first
        | ((with_reducible refine step_copy_wide (w := wr.drew) (by kernel_rfl) (.tmp 41) (.tmp 44) 32 32 (by kernel_rfl) 2 1 Try.underlying32 Try.infoI1 g k (n - k) (n - k) ⟨g, 0, none⟩ k n m (by kernel_rfl) (by kernel_rfl) c 2 hB'.out (c.toList.take m) hm'.out (by rw [t1'.out]; omega) t2'.out (by rw [t1'.out, hcs'.out]; omega) t3'.out w.heap.size w hgw.out hs1 ?_); intro w6 hB6 b6)
        | fail "no arm")
      have hR6 := Lib.hid (OnesRp.more hcs'.out hc1'.out hcc'.out hmk hmn hB6)
      have B6 := Lib.hid b6
      clear hB6 b6
      go_wp2
      go_roundw
      case rel => exact ⟨k + m, by omega, hmn, by rw [hwr.out, Int.natCast_add], hR6, B6⟩
      case measure => rw [hwr.out]; simp [intOf]; omega
    · obtain rfl : n = k := by omega
      have hfin := Lib.hid hR.out
      clear hR
      go_wp2
      go_ret
      exact ⟨g, rfl, hfin.out, hs1, bel.out⟩
end Go.Proofs.Ytfbhdlkiffoflaa
