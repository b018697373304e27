/- What the laws do with coupled chains: as with chains, for both have the same three fields. Conditions: those of the chains' laws. -/
import Derived.Test.YtidglhncgjgnmaaKinds
import Derived.Test.YtidglhncgjgnmaaSame
import Derived.Test.YtidglhncgjgnmaaTo
import Derived.Test.YtidglhncgjgnmaaEq
import Derived.Test.YtidglhncgjgnmaaSz
namespace Go.Proofs.Ytidglhncgjgnmaa
open Go.ChangeShapes Go.WideShapes Go.ChangeAt Go.RowKit Go.Deep Go.Joins

set_option maxHeartbeats 1000000 in
theorem szCoupled_any (cv : Value) (c : Ch) (left : Int) (w : World) (hv : ChR w cv c) (h0 : 0 ≤ left) (h1 : left ≤ 1048576) :
    Calls Try.prog 13 #[cv, .int .i64 left] w fun e w' => e = .returned (.int .i64 (szLeft left (c.w.length + total c.w))) ∧ Below w.heap.size w w' := by
  obtain ⟨v, rfl, hr⟩ := hv
  have hr' : Rows2 (w.alloc (.cells #[.int .i64 c.n, .int .i64 c.t, v] 25)) v c.w := hr.keep ((Below.refl _ _).alloc (Nat.le_refl _) _)
  obtain ⟨hm, a, cap, rfl⟩ := hr.len
  by_cases h : left < (c.w.length + total c.w : Nat)
  · have hs := Lib.hid (szLeft_no h)
    have hneg : szLeft left (c.w.length + total c.w) < 0 := by rw [hs.out]; decide
    go_enter Try.func13, Try.ntmps13
    go_wp2_with (go_at_call 46; refine (szInt64SS_any _ c.w _ _ hr' h0 h1).mono ?_; rintro e w' ⟨rfl, rfl⟩)
    go_ret
    exact ⟨ret_int hs.out.symm, (Below.refl _ _).alloc (Nat.le_refl _) _⟩
  · have hs := Lib.hid (szLeft_yes (show ((c.w.length + total c.w : Nat) : Int) ≤ left by omega))
    have hneg : 0 ≤ szLeft left (c.w.length + total c.w) := by rw [hs.out]; omega
    go_enter Try.func13, Try.ntmps13
    go_wp2_with (go_at_call 46; refine (szInt64SS_any _ c.w _ _ hr' h0 h1).mono ?_; rintro e w' ⟨rfl, rfl⟩)
    go_ret
    exact ⟨rfl, (Below.refl _ _).alloc (Nat.le_refl _) _⟩

set_option maxHeartbeats 2000000 in
theorem toCoupled_any (cv : Value) (c : Ch) (w : World) (hv : ChR w cv c) (h1 : c.w.length + total c.w ≤ 2097152) :
    Calls Try.prog 16 #[cv] w fun e w' => ∃ cv', e = .returned cv' ∧ ChOwn 66 2 w' w.heap.size w'.heap.size cv' c ∧ Below w.heap.size w w' := by
  obtain ⟨v, rfl, hr⟩ := hv
  go_enter Try.func16, Try.ntmps16
  go_wp2_with fail
  refine (toInt64SS_any v c.w _ (hr.keep (below3 _ _ _ _)) h1).mono ?_
  rintro e w1 ⟨v', rfl, hown, hbel⟩
  have hB1 := ((Blk.new (w.alloc (.cells #[.int .i64 c.n, .int .i64 c.t, v] 25)) #[.int .i64 0, .int .i64 0, .slice none 0 0] 31).alloc (.cells #[.int .i64 c.n, .int .i64 c.t, .slice none 0 0] 31)).keep hbel (by simp)
  have hB2 := (Blk.new ((w.alloc (.cells #[.int .i64 c.n, .int .i64 c.t, v] 25)).alloc (.cells #[.int .i64 0, .int .i64 0, .slice none 0 0] 31)) #[.int .i64 c.n, .int .i64 c.t, .slice none 0 0] 31).keep hbel (by simp)
  simp only [World.size_alloc] at hB1 hB2 hown hbel
  obtain ⟨_, a', cap', rfl⟩ := hown.rows.len
  have c10 := hB1.cell 0
  have c11 := hB1.cell 1
  have c12 := hB1.cell 2
  have f10 := hB1.frozen 0
  have f11 := hB1.frozen 1
  have f12 := hB1.frozen 2
  have c20 := hB2.cell 0
  have c21 := hB2.cell 1
  have c22 := hB2.cell 2
  have f22 := hB2.frozen 2
  have hbel' := Lib.hid (below_wt (below3 w _ _ _) (by simpa only [World.size_alloc] using hbel))
  clear hbel
  simp at c10 c11 c12 c20 c21 c22
  go_wp2
  refine bodyPost_ret (v := .agg #[.int .i64 c.n, .int .i64 c.t, .slice a' c.w.length cap']) (by simp [results, Try.results16, go_sem, c10, c11, c12]) rfl ?_
  refine ⟨_, rfl, ⟨_, rfl, (hown.same (((((SameOn.refl _ _ _).set ?_ _).set ?_ _).set ?_ _).set ?_ _)).wide (by omega) (by simp [World.setCell])⟩, (((hbel'.out.setCell ?_ _).setCell ?_ _).setCell ?_ _).setCell ?_ _⟩
  all_goals (simp only; omega)

set_option maxHeartbeats 4000000 in
theorem eqCoupled_any (a b : Value) (c d : Ch) (w : World) (ha : ChR w a c) (hb : ChR w b d) :
    Calls Try.prog 19 #[a, b] w fun e w' => e = .returned (.bool (chEq c d)) ∧ Below w.heap.size w w' := by
  obtain ⟨v1, rfl, h1⟩ := ha
  obtain ⟨v2, rfl, h2⟩ := hb
  obtain ⟨n1, t1, r1⟩ := c
  obtain ⟨n2, t2, r2⟩ := d
  simp only at h1 h2 ⊢
  have h1' := h1.keep (below2 w (.cells #[.int .i64 n1, .int .i64 t1, v1] 31) (.cells #[.int .i64 n2, .int .i64 t2, v2] 31))
  have h2' := h2.keep (below2 w (.cells #[.int .i64 n1, .int .i64 t1, v1] 31) (.cells #[.int .i64 n2, .int .i64 t2, v2] 31))
  by_cases e1 : n1 = n2
  · subst e1
    by_cases e2 : t1 = t2
    · subst e2
      have hr := Lib.hid (show chEq ⟨n1, t1, r1⟩ ⟨n1, t1, r2⟩ = decide (r1 = r2) by simp [chEq])
      have hcall := eqInt64SS_any v1 v2 r1 r2 _ h1' h2'
      by_cases e3 : r1 = r2
      · have hr2 := Lib.hid (hr.out.trans (decide_eq_true e3))
        rw [decide_eq_true e3] at hcall
        clear e3
        go_enter Try.func19, Try.ntmps19
        go_wp2_with fail
        refine hcall.mono ?_
        rintro e w' ⟨rfl, nq, rfl⟩
        go_wp2
        go_ret
        exact ⟨ret_bool hr2.out.symm, below_drewN (below2 _ _ _) _⟩
      · have hr2 := Lib.hid (hr.out.trans (decide_eq_false e3))
        rw [decide_eq_false e3] at hcall
        clear e3
        go_enter Try.func19, Try.ntmps19
        go_wp2_with fail
        refine hcall.mono ?_
        rintro e w' ⟨rfl, nq, rfl⟩
        go_wp2
        go_ret
        exact ⟨ret_bool hr2.out.symm, below_drewN (below2 _ _ _) _⟩
    · have hr := Lib.hid (show chEq ⟨n1, t1, r1⟩ ⟨n1, t2, r2⟩ = false by simp [chEq, e2])
      have hne : (t1 != t2) = true := by simpa using e2
      clear e2
      go_enter Try.func19, Try.ntmps19
      go_wp2
      go_ret
      exact ⟨ret_bool hr.out.symm, below2 _ _ _⟩
  · have hr := Lib.hid (show chEq ⟨n1, t1, r1⟩ ⟨n2, t2, r2⟩ = false by simp [chEq, e1])
    have hne : (n1 != n2) = true := by simpa using e1
    clear e1
    go_enter Try.func19, Try.ntmps19
    go_wp2
    go_ret
    exact ⟨ret_bool hr.out.symm, below2 _ _ _⟩

set_option maxHeartbeats 4000000 in
theorem markCoupled_any (cv : Value) (c : Ch) (k : Int) (lo hi : Nat) (w : World) (hv : ChOwn 66 2 w lo hi cv c) (hh : hi ≤ w.heap.size) (h0 : 0 ≤ k) (h1 : k + total c.w ≤ 1099511627776) :
    Calls Try.prog 25 #[cv, .int .i64 k] w fun e w' => e = .returned (.int .i64 (k + total c.w)) ∧ ChOwn 66 2 w' lo hi cv ⟨c.n, c.t, markRows k c.w⟩ ∧ Touched lo hi w w' := by
  obtain ⟨v, rfl, hr⟩ := hv
  have hr' := hr.keep hh (below1 w (.cells #[.int .i64 c.n, .int .i64 c.t, v] 31))
  go_enter Try.func25, Try.ntmps25
  go_wp2_with fail
  refine (markInt64SS_any v c.w k lo hi _ hr' h0 h1).mono ?_
  rintro e w2 ⟨rfl, own2, tou2, _⟩
  go_wp2
  go_ret
  exact ⟨rfl, ⟨v, rfl, own2⟩, (Touched.of (below1 _ _)).trans tou2⟩

set_option maxHeartbeats 4000000 in
theorem heldCoupled_any (cv : Value) (n t : Int) (xss : List (List Int)) (k : Int) (w : World) (hv : ChR w cv ⟨n, t, markRows k xss⟩) (h0 : 0 ≤ k) (h1 : k + total xss ≤ 1099511627776) :
    Calls Try.prog 26 #[cv, .int .i64 k] w fun e w' => e = .returned (.int .i64 (k + total xss)) ∧ Below w.heap.size w w' := by
  obtain ⟨v, rfl, hr⟩ := hv
  have hr' := hr.keep (below1 w (.cells #[.int .i64 n, .int .i64 t, v] 31))
  have hp : 0 ≤ k + (total xss : Int) := by omega
  go_enter Try.func26, Try.ntmps26
  go_wp2_with fail
  refine (heldInt64SS_any v xss k _ hr' h0 h1).mono ?_
  rintro e w2 ⟨rfl, rfl⟩
  go_wp2
  go_ret
  exact ⟨rfl, below1 _ _⟩

/-- a chain in memory of the call's own, to be marked -/
theorem mark_co {w : World} {lo hi : Nat} {cv : Value} {c : Ch} {k : Int} (h : ChMine 66 2 w lo hi cv c) (h0 : 0 ≤ k) (h1 : k + total c.w ≤ 1099511627776) :
    Calls Try.prog 25 #[cv, .int .i64 k] w fun e w' => e = .returned (.int .i64 (k + total c.w)) ∧ ChMine 66 2 w' lo hi cv ⟨c.n, c.t, markRows k c.w⟩ ∧ Touched lo hi w w' :=
  (markCoupled_any cv c k lo hi w h.own h.le h0 h1).mono fun _ _ ⟨he, ho, ht⟩ => ⟨he, ⟨ho, Nat.le_trans h.le ht.size⟩, ht⟩

theorem held_co {w : World} {lo hi : Nat} {cv : Value} {n t : Int} {xss : List (List Int)} {k : Int} (h : ChMine 66 2 w lo hi cv ⟨n, t, markRows k xss⟩) (h0 : 0 ≤ k) (h1 : k + total xss ≤ 1099511627776) :
    Calls Try.prog 26 #[cv, .int .i64 k] w fun e w' => e = .returned (.int .i64 (k + total xss)) ∧ Below w.heap.size w w' := heldCoupled_any cv n t xss k w h.ch h0 h1

theorem to_co (cv : Value) (c : Ch) (w : World) (hv : ChR w cv c) (h1 : c.w.length + total c.w ≤ 2097152) :
    Calls Try.prog 16 #[cv] w fun e w' => ∃ v', e = .returned v' ∧ ChMine 66 2 w' w.heap.size w'.heap.size v' c ∧ Below w.heap.size w w' :=
  (toCoupled_any cv c w hv h1).mono fun _ _ ⟨v, h1, h2, h3⟩ => ⟨v, h1, h2.mine, h3⟩

theorem eq_co (a b : Value) (c : Ch) (w : World) (ha : ChR w a c) (hb : ChR w b c) :
    Calls Try.prog 19 #[a, b] w fun e w' => e = .returned (.bool true) ∧ Below w.heap.size w w' :=
  (eqCoupled_any a b c c w ha hb).mono fun _ _ ⟨h1, h2⟩ => ⟨by rw [h1, chEq_self], h2⟩

set_option maxRecDepth 100000 in
theorem open_coupled {H : Type} {enc : TypeId × Value → H} {W : World} {base b0 : Nat} {held : Bool} {v : Value} {d : DataW H} {p : List MemPlace}
    (hv : Value.okWide Try.prog W .any base 25 v) (h : DataW.Trod enc Try.prog W b0 (fun _ => true) held 25 v d p) : ∃ c, ChR W v c := by
  obtain ⟨c0, c1, c2, y0, y1, y2, n, rfl, _, _, h0, h1, h2⟩ := open_agg3 Try.underlying25 (by kernel_rfl) (by kernel_rfl) hv h
  obtain ⟨a, e0, _, _⟩ := DataW.trod_int Try.underlying2 h0
  obtain ⟨b, e1, _, _⟩ := DataW.trod_int Try.underlying2 h1
  obtain ⟨xss, hr⟩ := open_rows h2
  simp at e0 e1
  subst e0 e1
  exact ⟨⟨a, b, xss⟩, c2, rfl, hr⟩

set_option maxRecDepth 100000 in
set_option maxHeartbeats 4000000 in
theorem SameCoupled_spec (a b : Value) (c d : Ch) (w : World) (ha : ChR w a c) (hb : ChR w b d) :
    Calls Try.prog 20 #[a, b] w fun e w' => e = .returned (.bool (chEq c d)) ∧ Below w.heap.size w w' := by
  obtain ⟨v1, rfl, h1⟩ := ha
  obtain ⟨v2, rfl, h2⟩ := hb
  obtain ⟨n1, t1, r1⟩ := c
  obtain ⟨n2, t2, r2⟩ := d
  simp only at h1 h2 ⊢
  obtain ⟨hm1, a1, cap1, rfl⟩ := h1.len
  obtain ⟨hm2, a2, cap2, rfl⟩ := h2.len
  unfold maxLen at hm1 hm2
  by_cases e1 : n1 = n2
  · subst e1
    by_cases e2 : t1 = t2
    · subst e2
      have hr := Lib.hid (show chEq ⟨n1, t1, r1⟩ ⟨n1, t1, r2⟩ = decide (r1 = r2) by simp [chEq])
      by_cases hl : r1.length = r2.length
      · have hl' := Lib.hid hl
        rw [← hl]
        rw [← hl] at h2
        clear hl
        have W2 := below2 w (.cells #[.int .i64 n1, .int .i64 t1, .slice a1 r1.length cap1] 31) (.cells #[.int .i64 n1, .int .i64 t1, .slice a2 r1.length cap2] 31)
        have hB1 := (Blk.new w #[.int .i64 n1, .int .i64 t1, .slice a1 r1.length cap1] 31).alloc (.cells #[.int .i64 n1, .int .i64 t1, .slice a2 r1.length cap2] 31)
        have hB2 := Blk.new (w.alloc (.cells #[.int .i64 n1, .int .i64 t1, .slice a1 r1.length cap1] 31)) #[.int .i64 n1, .int .i64 t1, .slice a2 r1.length cap2] 31
        simp only [World.size_alloc] at hB2
        have h1' := h1.keep W2
        have h2' := h2.keep W2
        go_enter Try.func20, Try.ntmps20
        go_wp2
        generalize hW : (w.alloc (.cells #[.int .i64 n1, .int .i64 t1, .slice a1 r1.length cap1] 31)).alloc (.cells #[.int .i64 n1, .int .i64 t1, .slice a2 r1.length cap2] 31) = W at *
        clear hW
        have u10 := hB1.three
        have u20 := hB2.three
        go_loopw [5] (fun i wr => ∃ k : Nat, k ≤ r1.length ∧ i = .int .i64 k ∧ Hid (∃ m, wr = W.drewN m) ∧ Hid (r1.take k = r2.take k)) (fun i _ => r1.length - (intOf i).toNat)
        case atStart => exact ⟨0, Nat.zero_le _, rfl, ⟨0, rfl⟩, show _ = _ by simp⟩
        case round =>
          obtain ⟨k, hk, rfl, hw, ht⟩ := hrel
          have q1 : wr.cell? ⟨w.heap.size, 2, none⟩ = some (.slice a1 r1.length cap1) := by obtain ⟨m, rfl⟩ := hw.out; exact u10.2.2
          have q2 : wr.cell? ⟨w.heap.size + 1, 2, none⟩ = some (.slice a2 r1.length cap2) := by obtain ⟨m, rfl⟩ := hw.out; exact u20.2.2
          clear u10 u20
          by_cases hlt : k < r1.length
          · have hlt2 : k < r2.length := by rw [← hl'.out]; exact hlt
            obtain ⟨b1, o1, c1, rv1, hv1, _, hc1⟩ := h1'.at (by omega)
            obtain ⟨b2, o2, c2, rv2, hv2, _, hc2⟩ := h2'.at (by omega)
            simp only [Value.slice.injEq] at hv1 hv2
            obtain ⟨rfl, -, rfl⟩ := hv1
            obtain ⟨rfl, -, rfl⟩ := hv2
            obtain ⟨x1c, x1r⟩ := hc1 k hlt
            obtain ⟨x2c, x2r⟩ := hc2 k hlt2
            clear hc1 hc2
            generalize rv1 k = x1 at x1c x1r
            generalize rv2 k = x2 at x2c x2r
            replace x1c : wr.cell? ⟨b1, o1 + k, none⟩ = some x1 := by obtain ⟨m, rfl⟩ := hw.out; exact x1c
            replace x2c : wr.cell? ⟨b2, o2 + k, none⟩ = some x2 := by obtain ⟨m, rfl⟩ := hw.out; exact x2c
            replace x1r : Ints wr x1 (r1.getD k []) := by obtain ⟨m, rfl⟩ := hw.out; exact x1r.keep (below_drewN (Below.refl _ _) m)
            replace x2r : Ints wr x2 (r2.getD k []) := by obtain ⟨m, rfl⟩ := hw.out; exact x2r.keep (below_drewN (Below.refl _ _) m)
            by_cases hq : r1.getD k [] = r2.getD k []
            · have hn := Lib.hid (take_eq_succ hlt hlt2 ht.out hq)
              rw [← hq] at x2r
              clear hq
              generalize r1.getD k [] = row at x1r x2r
              have hcall : ∀ n, Calls Try.prog 57 #[x1, x2] (wr.drewN n) fun e w' => e = .returned (.bool true) ∧ ∃ m, w' = (wr.drewN n).drewN m := fun n => by
                have := l00Same_any x1 x2 row row (wr.drewN n) (x1r.keep (below_drewN (Below.refl _ _) n)) (x2r.keep (below_drewN (Below.refl _ _) n))
                simpa using this
              go_wp2
              go_quiet ((go_at_call 57; exact Calls.quiet_of (hcall _)))
              go_wp2
              go_roundw
              case rel => exact ⟨k + 1, by omega, by go_num, by obtain ⟨m, rfl⟩ := hw.out; exact ⟨_, World.drewN_drewN ..⟩, hn⟩
              case measure => simp [intOf]; omega
            · have hd := Lib.hid (hr.out.trans (decide_eq_false (ne_of_getD hq)))
              generalize r1.getD k [] = row1 at x1r hq
              generalize r2.getD k [] = row2 at x2r hq
              have hcall : ∀ n, Calls Try.prog 57 #[x1, x2] (wr.drewN n) fun e w' => e = .returned (.bool false) ∧ ∃ m, w' = (wr.drewN n).drewN m := fun n => by
                have := l00Same_any x1 x2 row1 row2 (wr.drewN n) (x1r.keep (below_drewN (Below.refl _ _) n)) (x2r.keep (below_drewN (Below.refl _ _) n))
                rw [decide_eq_false hq] at this
                exact this
              clear hq
              go_wp2
              go_quiet ((go_at_call 57; exact Calls.quiet_of (hcall _)))
              go_wp2
              go_ret
              exact ⟨ret_bool hd.out.symm, by obtain ⟨m, rfl⟩ := hw.out; exact below_drewN (below_drewN W2 _) _⟩
          · obtain rfl : k = r1.length := by omega
            have he : r1 = r2 := by
              have := ht.out
              rw [List.take_length, hl'.out, List.take_length] at this
              exact this
            have hd := Lib.hid (hr.out.trans (decide_eq_true he))
            clear he
            go_wp2
            go_ret
            exact ⟨ret_bool hd.out.symm, by obtain ⟨m, rfl⟩ := hw.out; exact below_drewN W2 _⟩
      · have hd := Lib.hid (hr.out.trans (decide_eq_false (fun h => hl (by rw [h]))))
        have hne : ((r1.length : Int) != (r2.length : Int)) = true := by simp; omega
        clear hl
        go_enter Try.func20, Try.ntmps20
        go_wp2
        go_ret
        exact ⟨ret_bool hd.out.symm, below2 _ _ _⟩
    · have hr := Lib.hid (show chEq ⟨n1, t1, r1⟩ ⟨n1, t2, r2⟩ = false by simp [chEq, e2])
      have hne : (t1 != t2) = true := by simpa using e2
      clear e2
      go_enter Try.func20, Try.ntmps20
      go_wp2
      go_ret
      exact ⟨ret_bool hr.out.symm, below2 _ _ _⟩
  · have hr := Lib.hid (show chEq ⟨n1, t1, r1⟩ ⟨n2, t2, r2⟩ = false by simp [chEq, e1])
    have hne : (n1 != n2) = true := by simpa using e1
    clear e1
    go_enter Try.func20, Try.ntmps20
    go_wp2
    go_ret
    exact ⟨ret_bool hr.out.symm, below2 _ _ _⟩

set_option maxHeartbeats 4000000 in
theorem SameCoupled_impl (a b : Value) (c d : Ch) (w : World) (ha : ChR w a c) (hb : ChR w b d) :
    Calls Try.prog 21 #[a, b] w fun e w' => e = .returned (.bool (chEq c d)) ∧ Below w.heap.size w w' := by
  have hcall := fun W hW => SameChain_impl a b c d W (ha.keep hW) (hb.keep hW)
  obtain ⟨v1, rfl, h1⟩ := ha
  obtain ⟨v2, rfl, h2⟩ := hb
  have W2 := below2 w (.cells #[.int .i64 c.n, .int .i64 c.t, v1] 31) (.cells #[.int .i64 d.n, .int .i64 d.t, v2] 31)
  have hc := hcall _ W2
  clear hcall h1 h2
  go_enter Try.func21, Try.ntmps21
  go_wp2_with fail
  refine hc.mono ?_
  rintro e w' ⟨rfl, hb⟩
  go_wp2
  go_ret
  exact ⟨rfl, below_wt W2 hb⟩

end Go.Proofs.Ytidglhncgjgnmaa
