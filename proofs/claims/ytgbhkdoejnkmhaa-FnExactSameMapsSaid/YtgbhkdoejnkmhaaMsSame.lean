/- SameMaps of both sides. Conditions: none. -/
import Derived.Test.YtgbhkdoejnkmhaaMsOkS
import Derived.Test.YtgbhkdoejnkmhaaSame
namespace Go.Proofs.Ytgbhkdoejnkmhaa
open Go.RowKit Go.Deep
set_option linter.unusedVariables false

theorem cf_sm : ∀ args w, (callFunc 65 args).run Try.prog w = .ok (.enter 65 args) w := fun _ _ => by go_simp
set_option maxHeartbeats 2000000 in
theorem sm_one (x y : Int) (v1 v2 : Value) (xs ys : List Int) (w : World) (h1 : Ints w v1 xs) (h2 : Ints w v2 ys) :
    Calls Try.prog 65 #[.agg #[.int .i64 x, v1], .agg #[.int .i64 y, v2]] w fun e w' => e = .returned (.bool (decide ((x, xs) = (y, ys)))) ∧ Below w.heap.size w w' := by
  have W2 := below2 w (.cells #[.int .i64 x, v1] 74) (.cells #[.int .i64 y, v2] 74)
  by_cases e1 : x = y
  · subst e1
    have hcall := slEqual_any v1 v2 xs ys _ (h1.keep W2) (h2.keep W2)
    have hr2 := Lib.hid (show decide ((x, xs) = (x, ys)) = decide (xs = ys) by simp)
    generalize decide (xs = ys) = ok at hcall hr2
    go_enter Try.func65, Try.ntmps65
    go_wp2_with fail
    refine hcall.mono ?_
    rintro e w' ⟨rfl, nq, rfl⟩
    go_wp2
    go_ret
    exact ⟨ret_bool hr2.out.symm, below_drewN W2 _⟩
  · have hr := Lib.hid (show decide ((x, xs) = (y, ys)) = false by simp [e1])
    have hne : (x == y) = false := by simpa using e1
    clear e1
    go_enter Try.func65, Try.ntmps65
    go_wp2
    go_ret
    exact ⟨by rw [hr.out]; rfl, W2⟩

set_option maxHeartbeats 4000000 in
theorem smEqualFunc_any (a b : Value) (xs ys : List Mp) (w : World) (ha : MapsL w a xs) (hb : MapsL w b ys) :
    Calls Try.prog 67 #[a, b, .func (.func 65) #[] #[]] w fun e w' => e = .returned (.bool (decide (xs = ys))) ∧ Below w.heap.size w w' := by
  have hcf := cf_sm
  obtain ⟨hm1, a1, cap1, rfl⟩ := ha.len
  obtain ⟨hm2, a2, cap2, rfl⟩ := hb.len
  unfold maxLen at hm1 hm2
  by_cases hl : xs.length = ys.length
  · have hl' := Lib.hid hl
    rw [← hl]
    rw [← hl] at hb
    clear hl
    go_enter Try.func67, Try.ntmps67
    go_wp2
    go_loopw [17] (fun i wr => ∃ k : Nat, k ≤ xs.length ∧ i = .int .i64 k ∧ Below w.heap.size w wr ∧ Hid (xs.take k = ys.take k)) (fun i _ => xs.length - (intOf i).toNat)
    case atStart => exact ⟨0, Nat.zero_le _, rfl, Below.refl _ _, show _ = _ by simp⟩
    case round =>
      obtain ⟨wo, rfl⟩ : ∃ wo : World, wo = wr := ⟨_, rfl⟩
      obtain ⟨k, hk, rfl, hbel, ht⟩ := hrel
      have hbel' := Lib.hid hbel
      by_cases hlt : k < xs.length
      · have hlt2 : k < ys.length := by rw [← hl'.out]; exact hlt
        obtain ⟨b1, o1, c1, rv1, hv1, _, hc1⟩ := (ha.keep hbel).at (by omega)
        obtain ⟨b2, o2, c2, rv2, hv2, _, hc2⟩ := (hb.keep hbel).at (by omega)
        simp only [Value.slice.injEq] at hv1 hv2
        obtain ⟨rfl, -, rfl⟩ := hv1
        obtain ⟨rfl, -, rfl⟩ := hv2
        obtain ⟨p10, p11, r1⟩ := hc1 k hlt
        obtain ⟨p20, p21, r2⟩ := hc2 k hlt2
        clear hc1 hc2 ha hb hbel
        generalize rv1 k = x1 at p11 r1
        generalize rv2 k = x2 at p21 r2
        have hyes := Lib.hid (show xs.getD k mp0 = ys.getD k mp0 → _ from fun h => take_eq_succ hlt hlt2 ht.out h)
        have hno := Lib.hid (fun h => decide_eq_false (ne_of_getD (xs := xs) (ys := ys) (k := k) (d := mp0) h))
        generalize xs.getD k mp0 = mp1 at r1 p10 hyes hno
        generalize ys.getD k mp0 = mp2 at r2 p20 hyes hno
        obtain ⟨x, row1⟩ := mp1
        obtain ⟨y, row2⟩ := mp2
        simp only at r1 r2 p10 p20
        obtain ⟨s1, z1, rfl⟩ := r1.shape
        obtain ⟨s2, z2, rfl⟩ := r2.shape
        have B2 := below2 wo (.cells #[.int .i64 x, .slice s1 row1.length z1] 74) (.cells #[.int .i64 y, .slice s2 row2.length z2] 74)
        have hcall := sm_one x y _ _ row1 row2 _ (r1.keep B2) (r2.keep B2)
        have p20' : ∀ o, (wo.alloc o).cell? ⟨b2, o2 + k * 2, none⟩ = some (.int .i64 y) := fun o => (World.cell?_alloc_past _ _ _ (block_lt p20)).trans p20
        have p21' : ∀ o, (wo.alloc o).cell? ⟨b2, o2 + k * 2 + 1, none⟩ = some (.slice s2 row2.length z2) := fun o => (World.cell?_alloc_past _ _ _ (block_lt p21)).trans p21
        have B2' := Lib.hid B2
        clear B2
        by_cases hq : (x, row1) = (y, row2)
        · rw [decide_eq_true hq] at hcall
          have hn := Lib.hid (hyes.out hq)
          clear hq
          go_wp2_with fail
          refine hcall.mono ?_
          rintro e w2 ⟨rfl, bb⟩
          go_wp2
          go_roundw
          case rel => exact ⟨k + 1, by omega, by go_num, below_wt hbel'.out (below_wt B2'.out bb), hn⟩
          case measure => simp [intOf]; omega
        · rw [decide_eq_false hq] at hcall
          have hd := Lib.hid (hno.out hq)
          clear hq
          go_wp2_with fail
          refine hcall.mono ?_
          rintro e w2 ⟨rfl, bb⟩
          go_wp2
          go_ret
          exact ⟨ret_bool hd.out.symm, below_wt hbel'.out (below_wt B2'.out bb)⟩
      · obtain rfl : k = xs.length := by omega
        have he : xs = ys := by
          have := ht.out
          rw [List.take_length, hl'.out, List.take_length] at this
          exact this
        have hd := Lib.hid (decide_eq_true he)
        clear he
        go_wp2
        go_ret
        exact ⟨ret_bool hd.out.symm, hbel⟩
  · have hne : xs ≠ ys := fun h => hl (by rw [h])
    have hd := Lib.hid (decide_eq_false hne)
    clear hne
    go_enter Try.func67, Try.ntmps67
    go_wp2
    go_ret
    exact ⟨ret_bool hd.out.symm, Below.refl _ _⟩

set_option maxHeartbeats 4000000 in
theorem SameMaps_impl (a b : Value) (c d : Ms) (w : World) (ha : MsR w a c) (hb : MsR w b d) :
    Calls Try.prog 21 #[a, b] w fun e w' => e = .returned (.bool (msEq c d)) ∧ Below w.heap.size w w' := by
  obtain ⟨v1, rfl, h1⟩ := ha
  obtain ⟨v2, rfl, h2⟩ := hb
  obtain ⟨n1, t1, r1⟩ := c
  obtain ⟨n2, t2, r2⟩ := d
  simp only at h1 h2 ⊢
  have W2 := below2 w (.cells #[.int .i64 n1, .int .i64 t1, v1] 29) (.cells #[.int .i64 n2, .int .i64 t2, v2] 29)
  have h1' := h1.keep W2
  have h2' := h2.keep W2
  by_cases e1 : n1 = n2
  · subst e1
    by_cases e2 : t1 = t2
    · subst e2
      have hr := Lib.hid (show msEq ⟨n1, t1, r1⟩ ⟨n1, t1, r2⟩ = decide (r1 = r2) by simp [msEq])
      have hcall := smEqualFunc_any v1 v2 r1 r2 _ h1' h2'
      generalize decide (r1 = r2) = ok at hcall hr
      go_enter Try.func21, Try.ntmps21
      go_wp2_with fail
      refine hcall.mono ?_
      rintro e w' ⟨rfl, bb⟩
      go_wp2
      go_ret
      exact ⟨ret_bool hr.out.symm, below_wt W2 bb⟩
    · have hr := Lib.hid (show msEq ⟨n1, t1, r1⟩ ⟨n1, t2, r2⟩ = false by simp [msEq, e2])
      have hne : (t1 == t2) = false := by simpa using e2
      clear e2
      go_enter Try.func21, Try.ntmps21
      go_wp2
      go_ret
      exact ⟨by rw [hr.out]; rfl, W2⟩
  · have hr := Lib.hid (show msEq ⟨n1, t1, r1⟩ ⟨n2, t2, r2⟩ = false by simp [msEq, e1])
    have hne : (n1 == n2) = false := by simpa using e1
    clear e1
    go_enter Try.func21, Try.ntmps21
    go_wp2
    go_ret
    exact ⟨by rw [hr.out]; rfl, W2⟩

set_option maxRecDepth 100000 in
set_option maxHeartbeats 4000000 in
theorem SameMaps_spec (a b : Value) (c d : Ms) (w : World) (ha : MsR w a c) (hb : MsR w b d) :
    Calls Try.prog 20 #[a, b] w fun e w' => e = .returned (.bool (msEq c d)) ∧ Below w.heap.size w w' := by
  obtain ⟨v1, rfl, h1⟩ := ha
  obtain ⟨v2, rfl, h2⟩ := hb
  obtain ⟨n1, t1, r1⟩ := c
  obtain ⟨n2, t2, r2⟩ := d
  simp only at h1 h2 ⊢
  obtain ⟨hm1, a1, cap1, rfl⟩ := h1.len
  obtain ⟨hm2, a2, cap2, rfl⟩ := h2.len
  unfold maxLen at hm1 hm2
  by_cases e1 : n1 = n2
  · subst e1
    by_cases e2 : t1 = t2
    · subst e2
      have hr := Lib.hid (show msEq ⟨n1, t1, r1⟩ ⟨n1, t1, r2⟩ = decide (r1 = r2) by simp [msEq])
      by_cases hl : r1.length = r2.length
      · have hl' := Lib.hid hl
        rw [← hl]
        rw [← hl] at h2
        clear hl
        have W2 := below2 w (.cells #[.int .i64 n1, .int .i64 t1, .slice a1 r1.length cap1] 29) (.cells #[.int .i64 n1, .int .i64 t1, .slice a2 r1.length cap2] 29)
        have hB1 := (Blk.new w #[.int .i64 n1, .int .i64 t1, .slice a1 r1.length cap1] 29).alloc (.cells #[.int .i64 n1, .int .i64 t1, .slice a2 r1.length cap2] 29)
        have hB2 := Blk.new (w.alloc (.cells #[.int .i64 n1, .int .i64 t1, .slice a1 r1.length cap1] 29)) #[.int .i64 n1, .int .i64 t1, .slice a2 r1.length cap2] 29
        simp only [World.size_alloc] at hB2
        have h1' := h1.keep W2
        have h2' := h2.keep W2
        go_enter Try.func20, Try.ntmps20
        go_wp2
        generalize hW : (w.alloc (.cells #[.int .i64 n1, .int .i64 t1, .slice a1 r1.length cap1] 29)).alloc (.cells #[.int .i64 n1, .int .i64 t1, .slice a2 r1.length cap2] 29) = W at *
        clear hW
        have u10 := hB1.three
        have u20 := hB2.three
        go_loopw [5] (fun i wr => ∃ k : Nat, k ≤ r1.length ∧ i = .int .i64 k ∧ Hid (∃ m, wr = W.drewN m) ∧ Hid (r1.take k = r2.take k)) (fun i _ => r1.length - (intOf i).toNat)
        case atStart => exact ⟨0, Nat.zero_le _, rfl, ⟨0, rfl⟩, show _ = _ by simp⟩
        case round =>
          obtain ⟨k, hk, rfl, hw, ht⟩ := hrel
          have q1 : wr.cell? ⟨w.heap.size, 2, none⟩ = some (.slice a1 r1.length cap1) := by obtain ⟨m, rfl⟩ := hw.out; exact u10.2.2
          have q2 : wr.cell? ⟨w.heap.size + 1, 2, none⟩ = some (.slice a2 r1.length cap2) := by obtain ⟨m, rfl⟩ := hw.out; exact u20.2.2
          clear u10 u20
          by_cases hlt : k < r1.length
          · have hlt2 : k < r2.length := by rw [← hl'.out]; exact hlt
            obtain ⟨b1, o1, c1, rv1, hv1, _, hc1⟩ := h1'.at (by omega)
            obtain ⟨b2, o2, c2, rv2, hv2, _, hc2⟩ := h2'.at (by omega)
            simp only [Value.slice.injEq] at hv1 hv2
            obtain ⟨rfl, -, rfl⟩ := hv1
            obtain ⟨rfl, -, rfl⟩ := hv2
            obtain ⟨x1w, x1c, x1r⟩ := hc1 k hlt
            obtain ⟨x2w, x2c, x2r⟩ := hc2 k hlt2
            clear hc1 hc2
            generalize rv1 k = x1 at x1c x1r
            generalize rv2 k = x2 at x2c x2r
            have hyes := Lib.hid (show r1.getD k mp0 = r2.getD k mp0 → _ from fun h => take_eq_succ hlt hlt2 ht.out h)
            have hno := Lib.hid (fun h => decide_eq_false (ne_of_getD (xs := r1) (ys := r2) (k := k) (d := mp0) h))
            generalize r1.getD k mp0 = mp1 at x1w x1r hyes hno
            generalize r2.getD k mp0 = mp2 at x2w x2r hyes hno
            obtain ⟨x, row1⟩ := mp1
            obtain ⟨y, row2⟩ := mp2
            simp only at x1w x1r x2w x2r
            replace x1w : wr.cell? ⟨b1, o1 + k * 2, none⟩ = some (.int .i64 x) := by obtain ⟨m, rfl⟩ := hw.out; exact x1w
            replace x2w : wr.cell? ⟨b2, o2 + k * 2, none⟩ = some (.int .i64 y) := by obtain ⟨m, rfl⟩ := hw.out; exact x2w
            replace x1c : wr.cell? ⟨b1, o1 + k * 2 + 1, none⟩ = some x1 := by obtain ⟨m, rfl⟩ := hw.out; exact x1c
            replace x2c : wr.cell? ⟨b2, o2 + k * 2 + 1, none⟩ = some x2 := by obtain ⟨m, rfl⟩ := hw.out; exact x2c
            replace x1r : Ints wr x1 row1 := by obtain ⟨m, rfl⟩ := hw.out; exact x1r.keep (below_drewN (Below.refl _ _) m)
            replace x2r : Ints wr x2 row2 := by obtain ⟨m, rfl⟩ := hw.out; exact x2r.keep (below_drewN (Below.refl _ _) m)
            by_cases hxy : x = y
            · subst hxy
              have hcall : ∀ n, Calls Try.prog 64 #[x1, x2] (wr.drewN n) fun e w' => e = .returned (.bool (decide (row1 = row2))) ∧ ∃ m, w' = (wr.drewN n).drewN m := fun n =>
                l00Same_any x1 x2 row1 row2 (wr.drewN n) (x1r.keep (below_drewN (Below.refl _ _) n)) (x2r.keep (below_drewN (Below.refl _ _) n))
              by_cases hq : row1 = row2
              · rw [decide_eq_true hq] at hcall
                have hn := Lib.hid (hyes.out (by rw [hq]))
                clear hq
                go_wp2
                go_quiet ((go_at_call 64; exact Calls.quiet_of (hcall _)))
                go_wp2
                go_roundw
                case rel => exact ⟨k + 1, by omega, by go_num, by obtain ⟨m, rfl⟩ := hw.out; exact ⟨_, World.drewN_drewN ..⟩, hn⟩
                case measure => simp [intOf]; omega
              · rw [decide_eq_false hq] at hcall
                have hd := Lib.hid (hr.out.trans (hno.out (by simpa using hq)))
                clear hq
                go_wp2
                go_quiet ((go_at_call 64; exact Calls.quiet_of (hcall _)))
                go_wp2
                go_ret
                exact ⟨ret_bool hd.out.symm, by obtain ⟨m, rfl⟩ := hw.out; exact below_drewN (below_drewN W2 _) _⟩
            · have hd := Lib.hid (hr.out.trans (hno.out (by simp [hxy])))
              have hxy' : (x != y) = true := by simpa using hxy
              clear hxy
              go_wp2
              go_quiet (fail)
              go_wp2
              go_ret
              exact ⟨ret_bool hd.out.symm, by obtain ⟨m, rfl⟩ := hw.out; exact below_drewN (below_drewN W2 _) _⟩
          · obtain rfl : k = r1.length := by omega
            have he : r1 = r2 := by
              have := ht.out
              rw [List.take_length, hl'.out, List.take_length] at this
              exact this
            have hd := Lib.hid (hr.out.trans (decide_eq_true he))
            clear he
            go_wp2
            go_ret
            exact ⟨ret_bool hd.out.symm, by obtain ⟨m, rfl⟩ := hw.out; exact below_drewN W2 _⟩
      · have hd := Lib.hid (hr.out.trans (decide_eq_false (fun h => hl (by rw [h]))))
        have hne : ((r1.length : Int) != (r2.length : Int)) = true := by simp; omega
        clear hl
        go_enter Try.func20, Try.ntmps20
        go_wp2
        go_ret
        exact ⟨ret_bool hd.out.symm, below2 _ _ _⟩
    · have hr := Lib.hid (show msEq ⟨n1, t1, r1⟩ ⟨n1, t2, r2⟩ = false by simp [msEq, e2])
      have hne : (t1 != t2) = true := by simpa using e2
      clear e2
      go_enter Try.func20, Try.ntmps20
      go_wp2
      go_ret
      exact ⟨ret_bool hr.out.symm, below2 _ _ _⟩
  · have hr := Lib.hid (show msEq ⟨n1, t1, r1⟩ ⟨n2, t2, r2⟩ = false by simp [msEq, e1])
    have hne : (n1 != n2) = true := by simpa using e1
    clear e1
    go_enter Try.func20, Try.ntmps20
    go_wp2
    go_ret
    exact ⟨ret_bool hr.out.symm, below2 _ _ _⟩
end Go.Proofs.Ytgbhkdoejnkmhaa
