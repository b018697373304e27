/- EndsOf of the project, and the specification's: orders have one least and one greatest state at most. Conditions: none. -/
import Derived.Test.YtkebfnmepbblnaaOrdI
namespace Go.Proofs.Ytkebfnmepbblnaa
open Go.ChangeShapes Go.WideShapes Go.ChangeAt Go.RowKit Go.Deep Go.Joins
set_option linter.unusedVariables false

theorem ValidOrder_specB (n : Int) (v : Value) (xss : List (List Bool)) (w : World) (hv : BRows w v xss) :
    Calls Try.prog 39 #[.int .i64 n, v] w fun e w' => e = .returned (.bool (ordOk n xss)) ∧ Below w.heap.size w w' :=
  (ValidOrder_spec n v xss w hv).mono fun _ _ ⟨h, hw⟩ => ⟨h, by rw [← hw]; exact Below.refl _ _⟩

theorem isOrder_any (v : Value) (xss : List (List Bool)) (w : World) (hv : BRows w v xss) :
    Calls Try.prog 105 #[v] w fun e w' => e = .returned (.bool (ordOk (xss.length : Int) xss)) ∧ Below w.heap.size w w' := by
  have h1 := ValidOrder_impl (xss.length : Int) v xss w hv
  obtain ⟨hm, a, cap, rfl⟩ := hv.len
  unfold maxLen at hm
  generalize ordOk (xss.length : Int) xss = r at h1 ⊢
  go_enter Try.func105, Try.ntmps105
  go_wp2_with fail
  refine h1.mono ?_
  rintro e w' ⟨rfl, b1⟩
  go_wp2
  go_ret
  exact ⟨rfl, b1⟩

theorem range_all (row : List Bool) : ∀ n, n = row.length → (List.range n).all (fun t => row.getD t false) = row.all id := by
  intro n hn
  subst hn
  rw [Bool.eq_iff_iff]
  simp only [List.all_eq_true, List.mem_range]
  constructor
  · intro h x hx
    obtain ⟨k, hk, rfl⟩ := List.mem_iff_getElem.1 hx
    have := h k hk
    simpa [List.getD, hk] using this
  · intro h k hk
    have := h (row.getD k false) (by simp [List.getD, hk])
    exact this
theorem col_all (xss : List (List Bool)) (t : Nat) : ∀ n, n = xss.length → (List.range n).all (fun s => (xss.getD s []).getD t false) = xss.all fun row => row.getD t false := by
  intro n hn
  subst hn
  rw [Bool.eq_iff_iff]
  simp only [List.all_eq_true, List.mem_range]
  constructor
  · intro h x hx
    obtain ⟨k, hk, rfl⟩ := List.mem_iff_getElem.1 hx
    have := h k hk
    simpa [List.getD, hk] using this
  · intro h k hk
    exact h (xss.getD k []) (by simp [List.getD, hk])
theorem endF_at {p : Nat → Bool} : ∀ k, 0 ≤ endF p k → p (endF p k).toNat = true ∧ endF p k < k
  | 0, h => by simp [endF] at h
  | k + 1, h => by
    by_cases hp : p k = true
    · rw [endF_yes hp]
      exact ⟨by simpa using hp, by omega⟩
    · have hp' : p k = false := by simpa using hp
      rw [endF_no hp'] at h ⊢
      have := endF_at k h
      exact ⟨this.1, by omega⟩
theorem endF_none {p : Nat → Bool} : ∀ k, endF p k < 0 → ∀ j, j < k → p j = false
  | 0, _, j, hj => by omega
  | k + 1, h, j, hj => by
    by_cases hp : p k = true
    · rw [endF_yes hp] at h; omega
    · have hp' : p k = false := by simpa using hp
      rw [endF_no hp'] at h
      by_cases e : j = k
      · rw [e]; exact hp'
      · exact endF_none k h j (by omega)
theorem ord_anti {xss : List (List Bool)} (h : ordOk (xss.length : Int) xss = true) {s t : Nat} (hs : s < xss.length) (ht : t < xss.length) (h1 : bb xss s t = true) (h2 : bb xss t s = true) : s = t := by
  unfold ordOk at h
  simp only [Bool.and_eq_true] at h
  obtain ⟨-, -, -, hS⟩ := h
  have a := rng_at hS hs
  unfold ordS1 at a
  have b := rng_at a ht
  unfold ordT1 at b
  rw [h1, h2] at b
  by_cases e : s = t
  · exact e
  · simp [e] at b
theorem low_first {xss : List (List Bool)} (h : ordOk (xss.length : Int) xss = true) {r : Nat} (hr : r < xss.length) (hl : rowAll xss r xss.length = true) : lowOf xss = r := by
  unfold lowOf
  have h0 : 0 ≤ endF (fun s => rowAll xss s xss.length) xss.length := by
    rcases Int.lt_or_le (endF (fun s => rowAll xss s xss.length) xss.length) 0 with hn | hn
    · have h9 : rowAll xss r xss.length = false := endF_none _ hn r hr
      rw [h9] at hl; cases hl
    · exact hn
  obtain ⟨h1, h2⟩ := endF_at _ h0
  generalize endF (fun s => rowAll xss s xss.length) xss.length = q at *
  have hq : q.toNat < xss.length := by omega
  have := ord_anti h hr hq (rng_at (f := fun t => bb xss r t) hl hq) (rng_at (f := fun t => bb xss q.toNat t) h1 hr)
  omega
theorem low_no {xss : List (List Bool)} (h : ∀ s, s < xss.length → rowAll xss s xss.length = false) : ¬ (0 ≤ lowOf xss) := by
  intro h0
  unfold lowOf at h0
  obtain ⟨h1, h2⟩ := endF_at _ h0
  have h3 := h _ (show (endF (fun s => rowAll xss s xss.length) xss.length).toNat < xss.length by omega)
  have h4 : rowAll xss (endF (fun s => rowAll xss s xss.length) xss.length).toNat xss.length = true := h1
  rw [h3] at h4; cases h4

set_option maxHeartbeats 4000000 in
theorem indexB_any (v : Value) (xs : List Bool) (w : World) (hv : Bools w v xs) :
    Calls Try.prog 162 #[v, .bool false] w fun e w' => ∃ r : Int, e = .returned (.int .i64 r) ∧ decide (0 ≤ r) = !xs.all id ∧ w = w' := by
  obtain ⟨hm, a, cap, rfl⟩ := hv.len
  unfold maxLen at hm
  go_enter Try.func162, Try.ntmps162
  go_wp2
  go_loop [8] (fun i => ∃ k : Nat, k ≤ xs.length ∧ i = .int .i64 k ∧ Hid ((xs.take k).all id = true)) (fun i => xs.length - (intOf i).toNat)
  case atStart => exact ⟨0, Nat.zero_le _, rfl, show _ = _ by simp⟩
  case round =>
    obtain ⟨k, hk, rfl, hb⟩ := hrel
    by_cases hlt : k < xs.length
    · obtain ⟨b, off, cap', hv', _, hc⟩ := hv.at (by omega)
      have ck := hc k hlt
      simp only [Value.slice.injEq] at hv'
      obtain ⟨rfl, -, rfl⟩ := hv'
      have hltI : (k : Int) < (xs.length : Int) := by omega
      have hts := Lib.hid (all_take_succ id xs false k hlt)
      have hfs := Lib.hid (all_false_of id xs false k hlt)
      clear hc
      rcases hx : xs.getD k false with _ | _
      · rw [hx] at ck hfs
        have hr := Lib.hid (hfs.out rfl)
        clear hx
        go_wp2
        go_ret
        exact ⟨_, rfl, by rw [hr.out]; simp, rfl⟩
      · rw [hx] at ck hts
        have hn := Lib.hid (show (xs.take (k + 1)).all id = true by rw [hts.out, hb.out]; rfl)
        clear hx
        go_wp2
        go_round
        case rel => exact ⟨k + 1, by omega, by go_num, hn⟩
        case measure => simp [intOf]; omega
    · obtain rfl : k = xs.length := by omega
      have hr := Lib.hid (show xs.all id = true by have := hb.out; rw [List.take_length] at this; exact this)
      go_wp2
      go_ret
      exact ⟨_, rfl, by rw [hr.out]; rfl, rfl⟩

set_option maxHeartbeats 2000000 in
theorem containsB_any (v : Value) (xs : List Bool) (w : World) (hv : Bools w v xs) :
    Calls Try.prog 107 #[v, .bool false] w fun e w' => e = .returned (.bool (!xs.all id)) ∧ w = w' := by
  have hI := indexB_any v xs w hv
  obtain ⟨hm, a, cap, rfl⟩ := hv.len
  go_enter Try.func107, Try.ntmps107
  go_wp2_with fail
  refine hI.mono ?_
  rintro e w' ⟨r, rfl, hr, rfl⟩
  have hr' := Lib.hid hr
  clear hr
  go_wp2
  go_ret
  exact ⟨ret_bool hr'.out, rfl⟩
theorem cf_e1 : ∀ args w, (callFunc 106 args).run Try.prog w = .ok (.enter 106 args) w := fun _ _ => by go_simp
theorem cf_e2 : ∀ args w, (callFunc 109 args).run Try.prog w = .ok (.enter 109 args) w := fun _ _ => by go_simp
theorem isLow_one (rv : Value) (row : List Bool) (w : World) (hv : Bools w rv row) :
    Calls Try.prog 106 #[rv] w fun e w' => e = .returned (.bool (row.all id)) ∧ w = w' := by
  have hI := containsB_any rv row w hv
  generalize row.all id = r at *
  obtain ⟨hm, a, cap, rfl⟩ := hv.len
  go_enter Try.func106, Try.ntmps106
  go_wp2_with fail
  refine hI.mono ?_
  rintro e w' ⟨rfl, rfl⟩
  go_wp2
  go_ret
  exact ⟨by simp, rfl⟩
theorem isNot_one (rv : Value) (row : List Bool) (t b : Nat) (w : World) (hv : Bools w rv row) (ht : t < row.length) (h1 : w.cell? ⟨b, 0, none⟩ = some (.int .i64 (t : Int))) :
    Calls Try.prog 109 #[rv, .pointer (some ⟨b, 0, none⟩)] w fun e w' => e = .returned (.bool (!row.getD t false)) ∧ w = w' := by
  have hm := hv.len.1
  obtain ⟨rb, ro, rc, rfl, _, hc⟩ := hv.at (by omega)
  have ck := hc t ht
  have i1 : (t : Int) < (row.length : Int) := by omega
  clear hc
  unfold maxLen at hm
  generalize row.getD t false = x at *
  go_enter Try.func109, Try.ntmps109
  go_wp2
  go_ret
  exact ⟨rfl, rfl⟩

set_option maxRecDepth 100000 in
set_option maxHeartbeats 8000000 in
theorem EndsOf_impl (v : Value) (xss : List (List Bool)) (w : World) (hv : BRows w v xss) :
    Calls Try.prog 44 #[v] w fun e w' => e = .returned (.tuple #[.int .i64 (endsOf xss).1, .int .i64 (endsOf xss).2.1, .int .i64 (endsOf xss).2.2]) ∧ Below w.heap.size w w' := by
  have hord := isOrder_any v xss w hv
  rcases ho : ordOk (xss.length : Int) xss with _ | _
  · rw [ho] at hord
    have hr := Lib.hid (show endsOf xss = (0, 0, 1) by unfold endsOf; rw [if_neg (by rw [ho]; simp)])
    obtain ⟨hm, a, cap, rfl⟩ := hv.len
    clear ho
    go_enter Try.func44, Try.ntmps44
    go_wp2_with fail
    refine hord.mono ?_
    rintro e w1 ⟨rfl, b1⟩
    go_wp2
    go_ret3
    rw [hr.out]
    exact ⟨rfl, b1⟩
  rw [ho] at hord
  obtain ⟨⟨n1, n2⟩, hlen⟩ := ordOk_rows ho
  have hres := Lib.hid (show endsOf xss = if 0 ≤ lowOf xss ∧ 0 ≤ highOf xss then (lowOf xss, highOf xss, 0) else (0, 0, 6) by unfold endsOf; rw [if_pos ho])
  have hrl := Lib.hid (show ∀ row ∈ xss, row.length = xss.length from fun row hr => by
    obtain ⟨k, hk, rfl⟩ := List.mem_iff_getElem.1 hr
    have := hlen k hk
    simpa [List.getD, hk] using this)
  have hlow := Lib.hid (fun u (hu : Below w.heap.size w u) => indexFB_any 106 #[] (fun row => row.all id) _ xss u (hv.keep hu) cf_e1 (fun rv row _ hb => isLow_one rv row u hb))
  have hrow := Lib.hid (show ∀ s, s < xss.length → rowAll xss s xss.length = (xss.getD s []).all id from fun s hs => range_all (xss.getD s []) _ (hlen s hs).symm)
  have hlf := Lib.hid (fun r (hr : r < xss.length) hl => low_first ho (r := r) hr hl)
  have hln := Lib.hid (low_no (xss := xss))
  have hcol := Lib.hid (fun (t b : Nat) (ht : t < xss.length) u (hu : Below w.heap.size w u) (hb : u.cell? ⟨b, 0, none⟩ = some (.int .i64 (t : Int))) => contFB_any 109 #[.pointer (some ⟨b, 0, none⟩)] (fun row => !row.getD t false) _ xss u (hv.keep hu) cf_e2 (fun rv row hm hbr => isNot_one rv row t b u hbr (by rw [hrl.out row hm]; exact ht) hb))
  have hcc := Lib.hid (show ∀ t, xss.any (fun row => !row.getD t false) = !colAll xss t xss.length from fun t => by
    rw [show colAll xss t xss.length = xss.all (fun row => row.getD t false) from col_all xss t _ rfl, List.any_eq_not_all_not]; simp)
  have hhi := Lib.hid (show highOf xss = endF (fun s => colAll xss s xss.length) xss.length from rfl)
  obtain ⟨hm, a, cap, rfl⟩ := hv.len
  unfold maxLen at hm
  generalize hN : xss.length = N at *
  clear hlen ho hv
  go_enter Try.func44, Try.ntmps44
  go_wp2_with fail
  refine hord.mono ?_
  rintro e w1 ⟨rfl, b1⟩
  go_wp2_with fail
  refine (hlow.out w1 b1).mono ?_
  rintro e w' ⟨r, rfl, ⟨hr1, hr2⟩, rfl⟩
  have hr1' := Lib.hid hr1
  have hr2' := Lib.hid hr2
  clear hr1 hr2
  go_wp2
  go_loopw [7, 18] (fun h i wr => ∃ t : Nat, t ≤ N ∧ i = .int .i64 t ∧ h = .int .i64 (endF (fun s => colAll xss s N) t) ∧ Hid (Below w.heap.size w wr)) (fun _ i _ => N - (intOf i).toNat)
  case atStart => exact ⟨0, Nat.zero_le _, rfl, rfl, b1⟩
  case round =>
    obtain ⟨t, ht, rfl, rfl, hbw⟩ := hrel
    by_cases hlt : t < N
    · have i1 : (t : Int) < (N : Int) := by omega
      have hbw2 := Lib.hid (hbw.out.alloc hbw.out.size (.cells #[.int .i64 (t : Int)] 3))
      have hcall := hcol.out t wr.heap.size hlt _ hbw2.out ((Blk.new wr #[.int .i64 (t : Int)] 3).cell 0)
      have hcb := (Blk.new wr #[.int .i64 (t : Int)] 3).cell 0
      simp only [List.getElem?_toArray, List.getElem?_cons_zero] at hcb
      rw [hcc.out] at hcall
      obtain ⟨W2, hW2⟩ : ∃ u, wr.alloc (.cells #[.int .i64 (t : Int)] 3) = u := ⟨_, rfl⟩
      rw [hW2] at hcall hbw2 hcb
      have hW2' := Lib.hid hW2
      clear hW2
      rcases hc : colAll xss t N with _ | _
      · rw [hc] at hcall
        have hn := Lib.hid (endF_no (p := fun s => colAll xss s N) hc)
        clear hc
        go_wp2_with fail
        rw [hW2'.out]
        refine hcall.mono ?_
        rintro e w' ⟨rfl, rfl⟩
        go_wp2
        go_roundw
        case rel => exact ⟨t + 1, by omega, by go_num, by rw [hn.out], hbw2⟩
        case measure => simp [intOf]; omega
      · rw [hc] at hcall
        have hn := Lib.hid (endF_yes (p := fun s => colAll xss s N) hc)
        clear hc
        go_wp2_with fail
        rw [hW2'.out]
        refine hcall.mono ?_
        rintro e w' ⟨rfl, rfl⟩
        go_wp2
        go_roundw
        case rel => exact ⟨t + 1, by omega, by go_num, by rw [hn.out], hbw2⟩
        case measure => simp [intOf]; omega
    · obtain rfl : t = N := by omega
      rw [← hhi.out]
      generalize highOf xss = H at *
      by_cases h0 : 0 ≤ r
      · obtain ⟨hr3, hr4, hr5⟩ := hr2'.out h0
        have hl := hlf.out r.toNat hr3 (by rw [hrow.out _ hr3]; exact hr5)
        have e1 : ((r.toNat : Nat) : Int) = r := by omega
        rw [e1] at hl
        by_cases h1 : 0 ≤ H
        · have hfin := Lib.hid (show endsOf xss = (r, H, 0) by rw [hres.out, hl, if_pos ⟨h0, h1⟩])
          clear hl hr3 hr4 hr5
          go_wp2
          go_ret3
          rw [hfin.out]
          exact ⟨rfl, hbw.out⟩
        · have hfin := Lib.hid (show endsOf xss = (0, 0, 6) by rw [hres.out, if_neg (fun h => h1 h.2)])
          have h1' : H < 0 := by omega
          clear hl hr3 hr4 hr5
          go_wp2
          go_ret3
          rw [hfin.out]
          exact ⟨rfl, hbw.out⟩
      · have hn := hln.out (fun s hs => by
          have h3 := hr1'.out
          rw [decide_eq_false h0] at h3
          rw [hrow.out s hs]
          have h4 := h3.symm
          rw [List.any_eq_false] at h4
          simpa using h4 (xss.getD s []) (by simp [List.getD, show s < xss.length by omega]))
        have hfin := Lib.hid (show endsOf xss = (0, 0, 6) by rw [hres.out, if_neg (by omega)])
        have h0' : r < 0 := by omega
        clear hn
        go_wp2
        go_ret3
        rw [hfin.out]
        exact ⟨rfl, hbw.out⟩
set_option maxRecDepth 100000 in
theorem open_brows_in {H : Type} {enc : TypeId × Value → H} {W : World} {base b0 : Nat} {held : Bool} {v : Value} {d : DataW H} {p : List MemPlace}
    (hv : Value.okWide Try.prog W .any base 50 v) (h : DataW.Trod enc Try.prog W b0 (fun _ => true) held 50 v d p) : ∃ xss, BRows W v xss := by
  obtain ⟨sa, sl, sc, rfl⟩ := okWide_slice Try.underlying50 hv
  obtain ⟨m, h⟩ := h
  exact open_brows (by simpa [Value.cells] using h)
end Go.Proofs.Ytkebfnmepbblnaa
