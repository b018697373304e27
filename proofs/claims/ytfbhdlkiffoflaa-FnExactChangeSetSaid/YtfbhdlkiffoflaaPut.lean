/- l00Put of the specification: a number put to its place (Reach2 for seats without chains). Conditions: lists of fewer than a thousand numbers. -/
import Derived.Test.YtfbhdlkiffoflaaReach
import Derived.Test.YtfbhdlkiffoflaaHas
import Derived.Test.YtfbhdlkiffoflaaMake
namespace Go.Proofs.Ytfbhdlkiffoflaa
open Go.RowKit Go.Deep
set_option linter.unusedVariables false

theorem drop_cons (xs : List Int) (k : Nat) (h : k < xs.length) : xs.drop k = xs.getD k 0 :: xs.drop (k + 1) := by
  rw [List.drop_eq_getElem_cons h]; simp [List.getD, h]
theorem take_snoc (xs : List Int) (k : Nat) (h : k < xs.length) : xs.take (k + 1) = xs.take k ++ [xs.getD k 0] := by
  rw [List.take_succ_eq_append_getElem h]; simp [List.getD, h]
/-- how far the putting has come: not yet put, or put -/
def PutTo (xs : List Int) (n : Int) (k : Nat) (b : Bool) (ys : List Int) : Prop :=
  ys.length ≤ k + 1 ∧ (b = false → ys = xs.take k ∧ ∀ y ∈ xs.take k, y < n) ∧ (b = true → ys ++ xs.drop k = putL xs n)
theorem PutTo.start (xs : List Int) (n : Int) : PutTo xs n 0 false [] := ⟨by simp, fun _ => by simp, (fun h => by cases h)⟩
theorem PutTo.less {xs : List Int} {n : Int} {k : Nat} {ys : List Int} (h : PutTo xs n k false ys) (hk : k < xs.length) (hy : xs.getD k 0 < n) : PutTo xs n (k + 1) false (ys ++ [xs.getD k 0]) := by
  obtain ⟨h1, h2, h3⟩ := h
  obtain ⟨rfl, h4⟩ := h2 rfl
  refine ⟨by simp; omega, fun _ => ⟨(take_snoc xs k hk).symm, fun y hy' => ?_⟩, (fun h => by cases h)⟩
  rw [take_snoc xs k hk, List.mem_append] at hy'
  rcases hy' with h | h
  · exact h4 y h
  · simp at h; rw [h]; simpa using hy
theorem PutTo.put {xs : List Int} {n : Int} {k : Nat} {ys : List Int} (h : PutTo xs n k false ys) (hk : k < xs.length) (hy : n < xs.getD k 0) : PutTo xs n (k + 1) true (ys ++ [n] ++ [xs.getD k 0]) := by
  obtain ⟨h1, h2, h3⟩ := h
  obtain ⟨rfl, h4⟩ := h2 rfl
  refine ⟨by simp; omega, (fun h => by cases h), fun _ => ?_⟩
  rw [putL_split xs k n h4, drop_cons xs k hk]
  simp only [putL]
  rw [if_pos (by omega), if_pos hy]
  simp
theorem PutTo.have {xs : List Int} {n : Int} {k : Nat} {ys : List Int} (h : PutTo xs n k false ys) (hk : k < xs.length) (hy : n = xs.getD k 0) : PutTo xs n (k + 1) true (ys ++ [xs.getD k 0]) := by
  obtain ⟨h1, h2, h3⟩ := h
  obtain ⟨rfl, h4⟩ := h2 rfl
  refine ⟨by simp; omega, (fun h => by cases h), fun _ => ?_⟩
  rw [putL_split xs k n h4, drop_cons xs k hk]
  simp only [putL]
  rw [if_pos (by omega), if_neg (by omega)]
  simp
theorem PutTo.more {xs : List Int} {n : Int} {k : Nat} {ys : List Int} (h : PutTo xs n k true ys) (hk : k < xs.length) : PutTo xs n (k + 1) true (ys ++ [xs.getD k 0]) := by
  obtain ⟨h1, h2, h3⟩ := h
  refine ⟨by simp; omega, (fun h => by cases h), fun _ => ?_⟩
  rw [← h3 rfl, drop_cons xs k hk]; simp
theorem PutTo.done {xs : List Int} {n : Int} {ys : List Int} (h : PutTo xs n xs.length true ys) : ys = putL xs n := by simpa using h.2.2 rfl
theorem PutTo.last {xs : List Int} {n : Int} {ys : List Int} (h : PutTo xs n xs.length false ys) : ys ++ [n] = putL xs n := by
  obtain ⟨rfl, h4⟩ := h.2.1 rfl
  rw [putL_split xs xs.length n h4]; simp [putL]

theorem put_info : (Try.prog.info? 2).map (fun i => (i.zero, i.size, i.bytes)) = some (some (.int .i64 0), 1, 8) := by kernel_rfl
theorem ownsRow_head {w : World} {lo n : Nat} {e : TypeId} {v : Value} {vs : List Value} (h : w.ownsRow lo e 1 v n vs) (hn : 0 < n) : ∃ g cap, v = .slice (some ⟨g, 0, none⟩) n cap ∧ lo ≤ g := by
  rcases h.2 with ⟨_, h0⟩ | ⟨g, cap, cur, rfl, hg, _⟩
  · omega
  · exact ⟨g, cap, rfl, hg⟩

set_option maxRecDepth 100000 in
set_option maxHeartbeats 8000000 in
theorem l00Put_any (v : Value) (xs : List Int) (n : Int) (w : World) (hv : Ints w v xs) (hl : xs.length ≤ 1000) :
    Calls Try.prog 87 #[v, .int .i64 n] w fun e w' => ∃ rv, e = .returned rv ∧ w'.ownsRow w.heap.size 2 1 rv (putL xs n).length (ints (putL xs n)) ∧ Below w.heap.size w w' := by
  obtain ⟨hm, va, vcap, rfl⟩ := hv.len
  unfold maxLen at hm
  obtain ⟨i0, hi, hz0, hz1, hz2⟩ := info_parts put_info
  have hi' := Lib.hid hi; have hz0' := Lib.hid hz0; have hz1' := Lib.hid hz1; have hz2' := Lib.hid hz2
  clear hi hz0 hz1 hz2
  have hv' := Lib.hid hv
  clear hv
  go_enter Try.func87, Try.ntmps87
  go_wp2
  go_loopw [5, 6, 7] (fun ov bv i wr => ∃ (k g gc : Nat) (b : Bool) (ys : List Int), k ≤ xs.length ∧ i = .int .i64 k ∧ bv = .bool b ∧ ov = .slice (some ⟨g, 0, none⟩) ys.length gc ∧ Hid (wr.ownsRow w.heap.size 2 1 (.slice (some ⟨g, 0, none⟩) ys.length gc) ys.length (ints ys)) ∧ Below w.heap.size w wr ∧ Hid (PutTo xs n k b ys)) (fun _ _ i _ => xs.length - (intOf i).toNat)
  case atStart =>
    exact ⟨0, _, _, false, [], Nat.zero_le _, rfl, rfl, rfl, Lib.hid (by simpa using World.ownsRow_made w #[] 0 (Nat.le_refl _) (Nat.zero_le _) (by simp)), below1 _ _, PutTo.start xs n⟩
  case round =>
    obtain ⟨wo, rfl⟩ : ∃ wo : World, wo = wr := ⟨_, rfl⟩
    obtain ⟨k, g, gc, b, ys, hk, rfl, rfl, rfl, hown, bel, hp⟩ := hrel
    have hyl : ys.length ≤ k + 1 := hp.out.1
    have hsz := bel.size
    by_cases hlt : k < xs.length
    · obtain ⟨db, doff, dc, hdv, dlt, hdc⟩ := hv'.out.at (by omega)
      have dk0 := hdc k hlt
      have dk := (bel.cell (p := ⟨db, doff + k, none⟩) dlt).trans dk0
      simp only [Value.slice.injEq] at hdv
      obtain ⟨rfl, -, rfl⟩ := hdv
      have hltI : (k : Int) < (xs.length : Int) := by omega
      obtain ⟨y, hy⟩ : ∃ y, xs.getD k 0 = y := ⟨_, rfl⟩
      have m1 := Lib.hid (fun (h : PutTo xs n k true ys) => h.more hlt)
      have m2 := Lib.hid (fun (h : PutTo xs n k false ys) => h.less hlt)
      have m3 := Lib.hid (fun (h : PutTo xs n k false ys) => h.put hlt)
      have m4 := Lib.hid (fun (h : PutTo xs n k false ys) => h.have hlt)
      rw [hy] at dk0 dk m1 m2 m3 m4
      have dk0' := Lib.hid dk0
      clear hy hdc dk0
      by_cases hb : b = true
      · subst hb
        have hp5 := Lib.hid (m1.out hp.out)
        clear m1 m2 m3 m4 hp
        go_wp2_with (at_builtin; (refine wpList_append_own _ rfl _ _ 32 rfl w.heap.size 2 i0 (.int .i64 0) 1 8 Try.underlying32 hi'.out hz0'.out hz1'.out hz2'.out rfl (by decide) _ _ _ rfl (hown.out.alloc _) ⟨wo.heap.size, 0, none⟩ 1 1 [.int .i64 y] rfl rfl (one_new _ _ _) (by simp [Value.oneCell']) (by unfold maxLen; omega) (by omega) (by simp; omega) ?_); intro v5 w5 hown5 hgr5 _)
        obtain ⟨g5, c5, rfl, -⟩ := ownsRow_head hown5 (by omega)
        go_roundw
        case rel =>
          refine ⟨k + 1, g5, c5, true, ys ++ [y], by omega, by go_num, rfl, by simp, Lib.hid (by simpa [ints] using hown5), (bel.alloc hsz _).grown hgr5 (by simp; omega) (fun k' hk' => (ownsRow_type hown.out hk').1), hp5⟩
        case measure => simp [intOf]; omega
      · obtain rfl : b = false := by simpa using hb
        by_cases hc1 : y < n
        · have hp5 := Lib.hid (m2.out hp.out hc1)
          clear m1 m2 m3 m4 hp hb
          go_wp2_with (at_builtin; (refine wpList_append_own _ rfl _ _ 32 rfl w.heap.size 2 i0 (.int .i64 0) 1 8 Try.underlying32 hi'.out hz0'.out hz1'.out hz2'.out rfl (by decide) _ _ _ rfl (hown.out.alloc _) ⟨wo.heap.size, 0, none⟩ 1 1 [.int .i64 y] rfl rfl (one_new _ _ _) (by simp [Value.oneCell']) (by unfold maxLen; omega) (by omega) (by simp; omega) ?_); intro v5 w5 hown5 hgr5 _)
          obtain ⟨g5, c5, rfl, -⟩ := ownsRow_head hown5 (by omega)
          go_roundw
          case rel =>
            refine ⟨k + 1, g5, c5, false, ys ++ [y], by omega, by go_num, rfl, by simp, Lib.hid (by simpa [ints] using hown5), (bel.alloc hsz _).grown hgr5 (by simp; omega) (fun k' hk' => (ownsRow_type hown.out hk').1), hp5⟩
          case measure => simp [intOf]; omega
        · by_cases hc2 : n < y
          · have hp5 := Lib.hid (m3.out hp.out hc2)
            have hge : n ≤ y := by omega
            have hgd : decide (n ≤ y) = true := decide_eq_true hge
            clear m1 m2 m3 m4 hp hb
            go_wp2_with (first | (at_builtin; (refine wpList_append_own _ rfl _ _ 32 rfl w.heap.size 2 i0 (.int .i64 0) 1 8 Try.underlying32 hi'.out hz0'.out hz1'.out hz2'.out rfl (by decide) _ _ _ rfl (hown.out.alloc _) ⟨wo.heap.size, 0, none⟩ 1 1 [.int .i64 n] rfl rfl (one_new _ _ _) (by simp [Value.oneCell']) (by unfold maxLen; omega) (by omega) (by simp; omega) ?_); intro v5 w5 hown5 hgr5 _; obtain ⟨g5, c5, rfl, -⟩ := ownsRow_head hown5 (by omega); have hown5' := Lib.hid hown5; have bel5 := (bel.alloc hsz (.cells #[.int .i64 n] 2)).grown hgr5 (by simp; omega) (fun k' hk' => (ownsRow_type hown.out hk').1); have hsz5 := bel5.size; have dk5 := (bel5.cell (p := ⟨db, doff + k, none⟩) dlt).trans dk0'.out; clear hown5 hgr5) | (at_builtin; (refine wpList_append_own _ rfl _ _ 32 rfl w.heap.size 2 i0 (.int .i64 0) 1 8 Try.underlying32 hi'.out hz0'.out hz1'.out hz2'.out rfl (by decide) _ _ _ rfl (hown5'.out.alloc _) ⟨w5.heap.size, 0, none⟩ 1 1 [.int .i64 y] rfl rfl (one_new _ _ _) (by simp [Value.oneCell']) (by unfold maxLen; omega) (by omega) (by simp; omega) ?_); intro v6 w6 hown6 hgr6 _))
            obtain ⟨g6, c6, rfl, -⟩ := ownsRow_head hown6 (by omega)
            go_roundw
            case rel =>
              refine ⟨k + 1, g6, c6, true, ys ++ [n] ++ [y], by omega, by go_num, rfl, by simp, Lib.hid (by simpa [ints] using hown6), (bel5.alloc hsz5 _).grown hgr6 (by simp; omega) (fun k' hk' => (ownsRow_type hown5'.out hk').1), hp5⟩
            case measure => simp [intOf]; omega
          · obtain rfl : n = y := by omega
            have hp5 := Lib.hid (m4.out hp.out rfl)
            clear m1 m2 m3 m4 hp hb
            go_wp2_with (at_builtin; (refine wpList_append_own _ rfl _ _ 32 rfl w.heap.size 2 i0 (.int .i64 0) 1 8 Try.underlying32 hi'.out hz0'.out hz1'.out hz2'.out rfl (by decide) _ _ _ rfl (hown.out.alloc _) ⟨wo.heap.size, 0, none⟩ 1 1 [.int .i64 n] rfl rfl (one_new _ _ _) (by simp [Value.oneCell']) (by unfold maxLen; omega) (by omega) (by simp; omega) ?_); intro v5 w5 hown5 hgr5 _)
            obtain ⟨g5, c5, rfl, -⟩ := ownsRow_head hown5 (by omega)
            go_roundw
            case rel =>
              refine ⟨k + 1, g5, c5, true, ys ++ [n], by omega, by go_num, rfl, by simp, Lib.hid (by simpa [ints] using hown5), (bel.alloc hsz _).grown hgr5 (by simp; omega) (fun k' hk' => (ownsRow_type hown.out hk').1), hp5⟩
            case measure => simp [intOf]; omega
    · obtain rfl : k = xs.length := by omega
      have hltI : ¬ (xs.length : Int) < (xs.length : Int) := by omega
      cases b with
      | true =>
        have hd := Lib.hid hp.out.done
        go_wp2
        go_ret
        exact ⟨_, rfl, by rw [← hd.out]; exact hown.out, bel⟩
      | false =>
        have hd := Lib.hid hp.out.last
        go_wp2_with (at_builtin; (refine wpList_append_own _ rfl _ _ 32 rfl w.heap.size 2 i0 (.int .i64 0) 1 8 Try.underlying32 hi'.out hz0'.out hz1'.out hz2'.out rfl (by decide) _ _ _ rfl (hown.out.alloc _) ⟨wo.heap.size, 0, none⟩ 1 1 [.int .i64 n] rfl rfl (one_new _ _ _) (by simp [Value.oneCell']) (by unfold maxLen; omega) (by omega) (by simp; omega) ?_); intro v' w5 hown5 hgr5 _)
        go_ret
        refine ⟨_, rfl, ?_, (bel.alloc hsz _).grown hgr5 (by simp; omega) (fun k' hk' => (ownsRow_type hown.out hk').1)⟩
        rw [← hd.out]
        simpa [ints] using hown5
end Go.Proofs.Ytfbhdlkiffoflaa
