/- IsEven of the project and of the specification: both answer whether all columns have the sum Total. Conditions: told by the code. -/
import Derived.Test.YtngiphnonhbclaaStep
import Derived.Test.YtngiphnonhbclaaTo
namespace Go.Proofs.Ytngiphnonhbclaa
open Go.RowKit Go.Deep

def col (xss : List (List Int)) (t : Nat) : List Int := xss.map fun r => r.getD t 0
def evenB (c : Ch) : Bool := (List.range c.w.length).all fun t => decide ((col c.w t).sum = c.t)
def evenOf (c : Ch) : Bool × Int := if chOk c = true then (evenB c, 0) else (false, 1)
theorem col_length (xss : List (List Int)) (t : Nat) : (col xss t).length = xss.length := by simp [col]
theorem col_getD (xss : List (List Int)) (t s : Nat) (h : s < xss.length) : (col xss t).getD s 0 = (xss.getD s []).getD t 0 := by simp [col, List.getD, h]
theorem col_bd {c : Ch} (hok : chOk c = true) {t : Nat} (ht : t < c.w.length) : ∀ x ∈ col c.w t, 0 ≤ x ∧ x ≤ 60 := by
  obtain ⟨n1, n2, t1, t2, hlen, hrows⟩ := chOk_all hok
  intro x hx
  simp only [col, List.mem_map] at hx
  obtain ⟨r, hr, rfl⟩ := hx
  obtain ⟨q1, q2, q3⟩ := okRow_all (hrows r hr)
  have := q2 _ (getD_mem (d := 0) (show t < r.length by omega))
  omega
theorem all_range_succ {p : Nat → Bool} (k : Nat) : (List.range (k + 1)).all p = ((List.range k).all p && p k) := by
  rw [List.range_succ, List.all_append]; simp
theorem all_range_false {p : Nat → Bool} {k n : Nat} (hk : k < n) (h : p k = false) : (List.range n).all p = false := by
  rw [Bool.eq_false_iff]; intro hc
  rw [List.all_eq_true] at hc
  have := hc k (by simpa using hk)
  rw [h] at this; cases this

set_option maxRecDepth 100000 in
set_option maxHeartbeats 4000000 in
theorem IsEven_spec (cv : Value) (c : Ch) (w : World) (hv : ChR w cv c) :
    Calls Try.prog 47 #[cv] w fun e w' => e = .returned (.tuple #[.bool (evenOf c).1, .int .i64 (evenOf c).2]) ∧ Below w.heap.size w w' := by
  obtain ⟨v, rfl, hr⟩ := hv
  have B0 := below1 w (.cells #[.int .i64 c.n, .int .i64 c.t, v] 26)
  have hB := Blk.new w #[.int .i64 c.n, .int .i64 c.t, v] 26
  have P : ChP (w.alloc (.cells #[.int .i64 c.n, .int .i64 c.t, v] 26)) w.heap.size c := ⟨v, hB.cell 0, hB.cell 1, hB.cell 2, hr.keep B0⟩
  by_cases hok : chOk c = true
  · obtain ⟨n1, n2, t1, t2, hlen, hrows⟩ := chOk_all hok
    have he := Lib.hid (show evenOf c = (evenB c, 0) by simp [evenOf, hok])
    have hcb := Lib.hid (fun t ht => col_bd hok (t := t) ht)
    have hrows' := Lib.hid hrows
    have hlen' := Lib.hid hlen
    clear hrows hlen
    go_enter Try.func47, Try.ntmps47
    go_wp2_with fail
    refine (l01Ok_any _ c _ P).mono ?_
    rintro e w1 ⟨rfl, m, rfl⟩
    replace P := P.keep (below_drewN (Below.refl _ _) m)
    have B1 := below_drewN B0 m
    generalize hW : (w.alloc (.cells #[.int .i64 c.n, .int .i64 c.t, v] 26)).drewN m = W at *
    clear hW hB
    obtain ⟨v', p0, p1, p2, R⟩ := P
    obtain ⟨b, off, cap, rv, rfl, _, hc⟩ := R.at (by have := hlen'.out; omega)
    have hc' := Lib.hid hc
    clear hc R
    go_wp2
    go_loop [4] (fun i => ∃ k : Nat, k ≤ c.w.length ∧ i = .int .i64 k ∧ Hid ((List.range k).all (fun t => decide ((col c.w t).sum = c.t)) = true)) (fun i => c.w.length - (intOf i).toNat)
    case atStart => exact ⟨0, Nat.zero_le _, rfl, show _ = _ by simp⟩
    case round =>
      obtain ⟨k, hk, rfl, hall⟩ := hrel
      have hln := hlen'.out
      by_cases hlt : k < c.w.length
      · have hkn : (k : Int) < c.n := by omega
        have hln' := Lib.hid hln
        clear hln
        have hcl := Lib.hid (col_length c.w k)
        have hbd := Lib.hid (hcb.out k hlt)
        go_wp2
        go_loop [5, 6] (fun s i => ∃ (j : Nat) (S : Int), j ≤ c.w.length ∧ i = .int .i64 j ∧ s = .int .i64 S ∧ 0 ≤ S ∧ S ≤ 60 * j ∧ Hid (S = ((col c.w k).take j).sum)) (fun _ i => c.w.length - (intOf i).toNat)
        case atStart => exact ⟨0, 0, Nat.zero_le _, rfl, rfl, by omega, by omega, show _ = _ by simp⟩
        case round =>
          obtain ⟨j, S, hj, rfl, rfl, hS0, hS1, hS⟩ := hrel
          by_cases hjlt : j < c.w.length
          · have hjn : (j : Int) < c.n := by have := hln'.out; omega
            have hjl : (j : Int) < (c.w.length : Int) := by omega
            obtain ⟨hcell, hrow⟩ := hc'.out j hjlt
            obtain ⟨q1, q2, q3⟩ := okRow_all (hrows'.out _ (getD_mem (d := []) hjlt))
            have hx0 := hbd.out _ (getD_mem (d := 0) (show j < (col c.w k).length by rw [col_length]; exact hjlt))
            rw [col_getD _ _ _ hjlt] at hx0
            have hs1 := sum_take_succ (col c.w k) j (by rw [col_length]; exact hjlt)
            rw [col_getD _ _ _ hjlt] at hs1
            have hs1' := Lib.hid hs1
            clear hs1
            generalize c.w.getD j [] = row at hrow q1 q2 q3 hx0 hs1'
            generalize rv j = rk at hcell hrow
            obtain ⟨rb, ro, rc, rfl, _, hcr⟩ := hrow.at (by omega)
            have hx := hcr k (by omega)
            have hkr : (k : Int) < (row.length : Int) := by omega
            clear hcr q1 q2 q3
            generalize row.getD k 0 = x at hx hx0 hs1'
            obtain ⟨hx1, hx2⟩ := hx0
            have hSn := Lib.hid (show S + x = ((col c.w k).take (j + 1)).sum by rw [hs1'.out, hS.out])
            go_wp2
            go_round
            case rel => exact ⟨j + 1, S + x, by omega, by go_num, rfl, by omega, by omega, hSn⟩
            case measure => simp [intOf]; omega
          · obtain rfl : j = c.w.length := by omega
            have hjn : ¬ ((c.w.length : Int) < c.n) := by have := hln'.out; omega
            have hsum : S = (col c.w k).sum := by rw [hS.out, ← hcl.out, List.take_length]
            by_cases hq : S = c.t
            · have hq' : (S != c.t) = false := by simpa using hq
              have hn := Lib.hid (show (List.range (k + 1)).all (fun t => decide ((col c.w t).sum = c.t)) = true by rw [all_range_succ, hall.out, ← hsum]; simp [hq])
              clear hq hsum
              go_wp2
              go_round
              case rel => exact ⟨k + 1, by omega, by go_num, hn⟩
              case measure => simp [intOf]; omega
            · have hq' : (S != c.t) = true := by simpa using hq
              have hres := Lib.hid (show evenB c = false from all_range_false hlt (by rw [← hsum]; simp [hq]))
              clear hq hsum
              go_wp2
              go_ret2
              exact ⟨by (simp only [he.out, hres.out]; first | done | rfl), B1⟩
      · obtain rfl : k = c.w.length := by omega
        have hkn : ¬ ((c.w.length : Int) < c.n) := by omega
        have hln' := Lib.hid hln
        clear hln
        have hres := Lib.hid (show evenB c = true from hall.out)
        go_wp2
        go_ret2
        exact ⟨by (simp only [he.out, hres.out]; first | done | rfl), B1⟩
  · have hok' : chOk c = false := by simpa using hok
    have he := Lib.hid (show evenOf c = (false, 1) by simp [evenOf, hok'])
    clear hok
    go_enter Try.func47, Try.ntmps47
    go_wp2_with fail
    refine (l01Ok_any _ c _ P).mono ?_
    rintro e w1 ⟨rfl, m, rfl⟩
    go_wp2
    go_ret2
    exact ⟨by (simp only [he.out]; first | done | rfl), below_drewN B0 _⟩

/-- 'make([]int64, 0, n)' -/
theorem make_cap (n : Int) (h0 : 0 ≤ n) (h1 : n ≤ 1000000) : ∀ u : World, (Instr.makeSlice 29 (.int .i64 0) (.int .i64 n)).run Try.prog u =
    .ok (.slice (some ⟨u.heap.size, 0, none⟩) 0 n.toNat) (u.alloc (.cells (madeCells #[.int .i64 0] n.toNat) 2)) := fun u => by
  obtain ⟨i0, hi, hz0, hz1, hz2⟩ := info_parts Try.infoI
  have h := run_make (P := Try.prog) u 29 2 i0 (.int .i64 0) Try.underlying29 hi hz0 .i64 .i64 0 n (by omega) h0 (by rw [hz2]; omega) (by omega)
  simpa [hz1, Value.cells] using h

theorem sumOf_q (v : Value) (row : List Int) (w : World) (hv : Ints w v row) (h : ∀ x ∈ row, 0 ≤ x ∧ x ≤ 60) (hl : row.length ≤ 36) (m : Nat) :
    Calls Try.prog 86 #[v] (w.drewN m) fun e w'' => e = .returned (.int .i64 row.sum) ∧ ∃ m', w'' = w.drewN m' :=
  (sumOf_any v row _ (hv.keep (below_drewN (Below.refl _ _) m)) h hl).mono fun _ _ ⟨he, hw⟩ => ⟨he, m, hw.symm⟩

set_option maxRecDepth 100000 in
set_option maxHeartbeats 4000000 in
theorem IsEven_impl (cv : Value) (c : Ch) (w : World) (hv : ChR w cv c) :
    Calls Try.prog 48 #[cv] w fun e w' => e = .returned (.tuple #[.bool (evenOf c).1, .int .i64 (evenOf c).2]) ∧ Below w.heap.size w w' := by
  obtain ⟨a, cap, rfl⟩ : ∃ a cap, cv = .agg #[.int .i64 c.n, .int .i64 c.t, .slice a c.w.length cap] := by
    obtain ⟨v, rfl, hr⟩ := hv
    obtain ⟨_, a, cap, rfl⟩ := hr.len
    exact ⟨a, cap, rfl⟩
  have B0 := below1 w (.cells #[.int .i64 c.n, .int .i64 c.t, .slice a c.w.length cap] 26)
  have hB := Blk.new w #[.int .i64 c.n, .int .i64 c.t, .slice a c.w.length cap] 26
  have K := hv.keep B0
  by_cases hok : chOk c = true
  · obtain ⟨n1, n2, t1, t2, hlen, hrows⟩ := chOk_all hok
    have he := Lib.hid (show evenOf c = (evenB c, 0) by simp [evenOf, hok])
    have hcb := Lib.hid (fun t ht => col_bd hok (t := t) ht)
    have hrows' := Lib.hid hrows
    have hlen' := Lib.hid hlen
    have hmk := make_cap c.n (by omega) (by omega)
    obtain ⟨i0, hi, hz0, hz1, hz2⟩ := info_parts Try.infoI
    have hi' := Lib.hid hi; have hz0' := Lib.hid hz0; have hz1' := Lib.hid hz1; have hz2' := Lib.hid hz2
    clear hrows hlen hi hz0 hz1 hz2
    go_enter Try.func48, Try.ntmps48
    go_wp2_with fail
    refine (ValidChain_impl _ c _ K).mono ?_
    rintro e w1 ⟨rfl, b1⟩
    replace K := K.keep b1
    replace hB := hB.keep b1 hB.lt
    have B1 := below_wt B0 b1
    obtain ⟨p0, p1, p2⟩ : w1.cell? ⟨w.heap.size, 0, none⟩ = _ ∧ w1.cell? ⟨w.heap.size, 1, none⟩ = _ ∧ w1.cell? ⟨w.heap.size, 2, none⟩ = _ := ⟨hB.cell 0, hB.cell 1, hB.cell 2⟩
    go_wp2
    go_loopw [13] (fun i wr => ∃ k : Nat, k ≤ c.w.length ∧ i = .int .i64 k ∧ Below w1.heap.size w1 wr ∧ Hid ((List.range k).all (fun t => decide ((col c.w t).sum = c.t)) = true)) (fun i _ => c.w.length - (intOf i).toNat)
    case atStart => exact ⟨0, Nat.zero_le _, rfl, Below.refl _ _, show _ = _ by simp⟩
    case round =>
      obtain ⟨wo, rfl⟩ : ∃ wo : World, wo = wr := ⟨_, rfl⟩
      obtain ⟨k, hk, rfl, bo, hall⟩ := hrel
      have hBo := hB.keep bo hB.lt
      have Ko := K.keep bo
      clear p0 p1 p2
      obtain ⟨p0, p1, p2⟩ : wo.cell? ⟨w.heap.size, 0, none⟩ = _ ∧ wo.cell? ⟨w.heap.size, 1, none⟩ = _ ∧ wo.cell? ⟨w.heap.size, 2, none⟩ = _ := ⟨hBo.cell 0, hBo.cell 1, hBo.cell 2⟩
      have hln := hlen'.out
      by_cases hlt : k < c.w.length
      · have hkn : (k : Int) < c.n := by omega
        have hln' := Lib.hid hln
        clear hln
        have hbd := Lib.hid (hcb.out k hlt)
        have R : Rows2 wo (.slice a c.w.length cap) c.w := by
          obtain ⟨v, hv', hr⟩ := Ko
          simp only [Value.agg.injEq, Array.mk.injEq, List.cons.injEq, and_true, true_and] at hv'
          rw [hv']; exact hr
        obtain ⟨b, off, cap', rv, hvv, hbl, hc⟩ := R.at (by omega)
        simp only [Value.slice.injEq] at hvv
        obtain ⟨rfl, -, rfl⟩ := hvv
        have hc' := Lib.hid hc
        have l0 := hBo.lt
        have hB' : ∀ o, (wo.alloc o).cell? ⟨w.heap.size, 2, none⟩ = some (.slice (some ⟨b, off, none⟩) c.w.length cap) := fun o => (World.cell?_alloc_past _ _ _ l0).trans p2
        clear hc R
        go_wp2
        go_loopw [5, 22] (fun v i wr => ∃ j : Nat, j ≤ c.w.length ∧ i = .int .i64 j ∧ wr.ownsRow wo.heap.size 2 1 v j (ints ((col c.w k).take j)) ∧ Below wo.heap.size wo wr) (fun _ i _ => c.w.length - (intOf i).toNat)
        case atStart =>
          exact ⟨0, Nat.zero_le _, rfl, by simpa using World.ownsRow_made wo (madeCells #[.int .i64 0] c.n.toNat) c.n.toNat (Nat.le_refl _) (by unfold maxLen; omega) (by rw [size_madeCells]; omega), (Below.refl _ _).alloc (Nat.le_refl _) _⟩
        case round =>
          obtain ⟨j, hj, rfl, hown, bel⟩ := hrel
          have q0 := (bel.cell (p := ⟨w.heap.size, 0, none⟩) l0).trans p0
          have q1 := (bel.cell (p := ⟨w.heap.size, 1, none⟩) l0).trans p1
          have q2 := (bel.cell (p := ⟨w.heap.size, 2, none⟩) l0).trans p2
          clear p0 p1 p2 hB'
          by_cases hjlt : j < c.w.length
          · have hcl := col_length c.w k
            obtain ⟨hcell0, hrow0⟩ := hc'.out j hjlt
            have hcell := (bel.cell (p := ⟨b, off + j, none⟩) hbl).trans hcell0
            have hrow := hrow0.keep bel
            obtain ⟨r1, r2, r3⟩ := okRow_all (hrows'.out _ (getD_mem (d := []) hjlt))
            have hts := List.take_succ_eq_append_getElem (l := col c.w k) (i := j) (by omega)
            have hgx : (col c.w k)[j]'(by omega) = (c.w.getD j []).getD k 0 := by rw [← col_getD _ _ _ hjlt]; simp [List.getD, hcl, hjlt]
            rw [hgx] at hts
            have hts' := Lib.hid hts
            clear hts hgx hcell0 hrow0
            generalize c.w.getD j [] = row at hrow r1 r2 r3 hts'
            generalize rv j = rk at hcell hrow
            obtain ⟨rb, ro, rc, rfl, _, hcr⟩ := hrow.at (by omega)
            have hx := hcr k (by omega)
            have hkr : (k : Int) < (row.length : Int) := by omega
            clear hcr r1 r2 r3 hcl
            generalize row.getD k 0 = x at hx hts'
            have hsz := bel.size
            have hl6 : c.w.length ≤ 6 := by have := hln'.out; omega
            go_wp2_with (at_builtin; (refine wpList_append_own _ rfl _ _ 29 rfl wo.heap.size 2 i0 (.int .i64 0) 1 8 Try.underlying29 hi'.out hz0'.out hz1'.out hz2'.out rfl (by decide) _ _ _ rfl (hown.alloc _) ⟨wr.heap.size, 0, none⟩ 1 1 [.int .i64 x] rfl rfl (one_new _ _ _) (by simp [Value.oneCell']) (by unfold maxLen; omega) (by omega) (by simp; omega) ?_); intro v' w2 hown2 hgr2 _)
            go_roundw
            case rel =>
              refine ⟨j + 1, by omega, by go_num, ?_, (bel.alloc hsz _).grown hgr2 (by simp; omega) (fun k' hk' => (hown.lt k' hk').1)⟩
              rw [hts'.out]
              simpa [ints] using hown2
            case measure => simp [intOf]; omega
          · obtain rfl : j = c.w.length := by omega
            have hown1 : Own wr wo.heap.size wr.heap.size 2 _ (ints (col c.w k)) := Own.of (by rw [← col_length c.w k, List.take_length] at hown; exact hown) (Nat.le_refl _)
            have hI : Ints wr _ (col c.w k) := hown1.row
            have hcl := col_length c.w k
            have hsumq := Lib.hid (fun m => sumOf_q _ (col c.w k) wr hI hbd.out (by have := hln'.out; omega) m)
            obtain ⟨_, a2, cap2, rfl⟩ := hI.len
            clear hown hown1 hI hcl
            have f1 : (List.range (k + 1)).all (fun t => decide ((col c.w t).sum = c.t)) = ((List.range k).all (fun t => decide ((col c.w t).sum = c.t)) && decide ((col c.w k).sum = c.t)) := all_range_succ k
            have f2 := all_range_false (p := fun t => decide ((col c.w t).sum = c.t)) hlt
            have f1' := Lib.hid f1
            have f2' := Lib.hid f2
            clear f1 f2
            generalize (col c.w k).length = cl at *
            generalize (col c.w k).sum = S at hsumq f1' f2'
            by_cases hq : S = c.t
            · have hq' : (S != c.t) = false := by simpa using hq
              have hn := Lib.hid (show (List.range (k + 1)).all (fun t => decide ((col c.w t).sum = c.t)) = true by rw [f1'.out, hall.out]; simp [hq])
              clear hq
              go_wp2
              go_quiet ((go_at_call 86; exact hsumq.out _))
              go_wp2
              go_roundw
              case rel => exact ⟨k + 1, by omega, by go_num, below_drewN (below_wt bo bel) _, hn⟩
              case measure => simp [intOf]; omega
            · have hq' : (S != c.t) = true := by simpa using hq
              have hres := Lib.hid (show evenB c = false from f2'.out (by simp [hq]))
              clear hq
              go_wp2
              go_quiet ((go_at_call 86; exact hsumq.out _))
              go_wp2
              go_ret2
              exact ⟨by (simp only [he.out, hres.out]; first | done | rfl), below_drewN (below_wt (below_wt B1 bo) bel) _⟩
      · obtain rfl : k = c.w.length := by omega
        have hkn : ¬ ((c.w.length : Int) < c.n) := by omega
        have hln' := Lib.hid hln
        clear hln
        have hres := Lib.hid (show evenB c = true from hall.out)
        go_wp2
        go_ret2
        exact ⟨by (simp only [he.out, hres.out]; first | done | rfl), below_wt B1 bo⟩
  · have hok' : chOk c = false := by simpa using hok
    have he := Lib.hid (show evenOf c = (false, 1) by simp [evenOf, hok'])
    clear hok
    go_enter Try.func48, Try.ntmps48
    go_wp2_with fail
    refine (ValidChain_impl _ c _ K).mono ?_
    rintro e w1 ⟨rfl, b1⟩
    go_wp2
    go_ret2
    exact ⟨by (simp only [he.out]; first | done | rfl), below_wt B0 b1⟩
end Go.Proofs.Ytngiphnonhbclaa
