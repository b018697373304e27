/- SameGraph of the project and of the specification answer 'grEq'. Conditions: none. -/
import Derived.Test.YtfbhdlkiffoflaaGrOk
import Derived.Test.YtfbhdlkiffoflaaSame
namespace Go.Proofs.Ytfbhdlkiffoflaa
open Go.RowKit Go.Deep
set_option linter.unusedVariables false

set_option maxHeartbeats 4000000 in
theorem SameGraph_impl (a b : Value) (c d : Gr) (w : World) (ha : GrR w a c) (hb : GrR w b d) :
    Calls Try.prog 17 #[a, b] w fun e w' => e = .returned (.bool (grEq c d)) ∧ Below w.heap.size w w' := by
  obtain ⟨v1, rfl, h1⟩ := ha
  obtain ⟨v2, rfl, h2⟩ := hb
  obtain ⟨n1, r1⟩ := c
  obtain ⟨n2, r2⟩ := d
  simp only at h1 h2 ⊢
  have h1' := h1.keep (below2 w (.cells #[.int .i64 n1, v1] 27) (.cells #[.int .i64 n2, v2] 27))
  have h2' := h2.keep (below2 w (.cells #[.int .i64 n1, v1] 27) (.cells #[.int .i64 n2, v2] 27))
  by_cases e1 : n1 = n2
  · subst e1
    have hr := Lib.hid (show grEq ⟨n1, r1⟩ ⟨n1, r2⟩ = decide (r1 = r2) by simp [grEq])
    have hcall := slEqualFunc_any v1 v2 r1 r2 _ h1' h2'
    generalize decide (r1 = r2) = ok at hcall hr
    go_enter Try.func17, Try.ntmps17
    go_wp2_with fail
    refine hcall.mono ?_
    rintro e w' ⟨rfl, nq, rfl⟩
    go_wp2
    go_ret
    exact ⟨ret_bool hr.out.symm, below_drewN (below2 _ _ _) _⟩
  · have hr := Lib.hid (show grEq ⟨n1, r1⟩ ⟨n2, r2⟩ = false by simp [grEq, e1])
    have hne : (n1 == n2) = false := by simpa using e1
    clear e1
    go_enter Try.func17, Try.ntmps17
    go_wp2
    go_ret
    exact ⟨ret_bool hr.out.symm, below2 _ _ _⟩

set_option maxRecDepth 100000 in
set_option maxHeartbeats 4000000 in
theorem SameGraph_spec (a b : Value) (c d : Gr) (w : World) (ha : GrR w a c) (hb : GrR w b d) :
    Calls Try.prog 16 #[a, b] w fun e w' => e = .returned (.bool (grEq c d)) ∧ Below w.heap.size w w' := by
  obtain ⟨v1, rfl, h1⟩ := ha
  obtain ⟨v2, rfl, h2⟩ := hb
  obtain ⟨n1, r1⟩ := c
  obtain ⟨n2, r2⟩ := d
  simp only at h1 h2 ⊢
  obtain ⟨hm1, a1, cap1, rfl⟩ := h1.len
  obtain ⟨hm2, a2, cap2, rfl⟩ := h2.len
  unfold maxLen at hm1 hm2
  by_cases e1 : n1 = n2
  · subst e1
    have hr := Lib.hid (show grEq ⟨n1, r1⟩ ⟨n1, r2⟩ = decide (r1 = r2) by simp [grEq])
    by_cases hl : r1.length = r2.length
    · have hl' := Lib.hid hl
      rw [← hl]
      rw [← hl] at h2
      clear hl
      have W2 := below2 w (.cells #[.int .i64 n1, .slice a1 r1.length cap1] 27) (.cells #[.int .i64 n1, .slice a2 r1.length cap2] 27)
      have hB1 := (Blk.new w #[.int .i64 n1, .slice a1 r1.length cap1] 27).alloc (.cells #[.int .i64 n1, .slice a2 r1.length cap2] 27)
      have hB2 := Blk.new (w.alloc (.cells #[.int .i64 n1, .slice a1 r1.length cap1] 27)) #[.int .i64 n1, .slice a2 r1.length cap2] 27
      simp only [World.size_alloc] at hB2
      have h1' := h1.keep W2
      have h2' := h2.keep W2
      go_enter Try.func16, Try.ntmps16
      go_wp2
      generalize hW : (w.alloc (.cells #[.int .i64 n1, .slice a1 r1.length cap1] 27)).alloc (.cells #[.int .i64 n1, .slice a2 r1.length cap2] 27) = W at *
      clear hW
      have hu1 := hB1.two
      have hu2 := hB2.two
      go_loopw [5] (fun i wr => ∃ k : Nat, k ≤ r1.length ∧ i = .int .i64 k ∧ Hid (∃ m, wr = W.drewN m) ∧ Hid (r1.take k = r2.take k)) (fun i _ => r1.length - (intOf i).toNat)
      case atStart => exact ⟨0, Nat.zero_le _, rfl, ⟨0, rfl⟩, show _ = _ by simp⟩
      case round =>
        obtain ⟨k, hk, rfl, hw, ht⟩ := hrel
        have q1 : wr.cell? ⟨w.heap.size, 1, none⟩ = some (.slice a1 r1.length cap1) := by obtain ⟨m, rfl⟩ := hw.out; exact hu1.2
        have q2 : wr.cell? ⟨w.heap.size + 1, 1, none⟩ = some (.slice a2 r1.length cap2) := by obtain ⟨m, rfl⟩ := hw.out; exact hu2.2
        clear hu1 hu2
        by_cases hlt : k < r1.length
        · have hlt2 : k < r2.length := by rw [← hl'.out]; exact hlt
          obtain ⟨b1, o1, c1, rv1, hv1, _, hc1⟩ := h1'.at (by omega)
          obtain ⟨b2, o2, c2, rv2, hv2, _, hc2⟩ := h2'.at (by omega)
          simp only [Value.slice.injEq] at hv1 hv2
          obtain ⟨rfl, -, rfl⟩ := hv1
          obtain ⟨rfl, -, rfl⟩ := hv2
          obtain ⟨x1c, x1r⟩ := hc1 k hlt
          obtain ⟨x2c, x2r⟩ := hc2 k hlt2
          clear hc1 hc2
          generalize rv1 k = x1 at x1c x1r
          generalize rv2 k = x2 at x2c x2r
          replace x1c : wr.cell? ⟨b1, o1 + k, none⟩ = some x1 := by obtain ⟨m, rfl⟩ := hw.out; exact x1c
          replace x2c : wr.cell? ⟨b2, o2 + k, none⟩ = some x2 := by obtain ⟨m, rfl⟩ := hw.out; exact x2c
          replace x1r : Ints wr x1 (r1.getD k []) := by obtain ⟨m, rfl⟩ := hw.out; exact x1r.keep (below_drewN (Below.refl _ _) m)
          replace x2r : Ints wr x2 (r2.getD k []) := by obtain ⟨m, rfl⟩ := hw.out; exact x2r.keep (below_drewN (Below.refl _ _) m)
          by_cases hq : r1.getD k [] = r2.getD k []
          · have hn := Lib.hid (take_eq_succ hlt hlt2 ht.out hq)
            rw [← hq] at x2r
            clear hq
            generalize r1.getD k [] = row at x1r x2r
            have hcall : ∀ n, Calls Try.prog 43 #[x1, x2] (wr.drewN n) fun e w' => e = .returned (.bool true) ∧ ∃ m, w' = (wr.drewN n).drewN m := fun n => by
              have := l00Same_any x1 x2 row row (wr.drewN n) (x1r.keep (below_drewN (Below.refl _ _) n)) (x2r.keep (below_drewN (Below.refl _ _) n))
              simpa using this
            go_wp2
            go_quiet ((go_at_call 43; exact Calls.quiet_of (hcall _)))
            go_wp2
            go_roundw
            case rel => exact ⟨k + 1, by omega, by go_num, by obtain ⟨m, rfl⟩ := hw.out; exact ⟨_, World.drewN_drewN ..⟩, hn⟩
            case measure => simp [intOf]; omega
          · have hd := Lib.hid (hr.out.trans (decide_eq_false (ne_of_getD hq)))
            generalize r1.getD k [] = row1 at x1r hq
            generalize r2.getD k [] = row2 at x2r hq
            have hcall : ∀ n, Calls Try.prog 43 #[x1, x2] (wr.drewN n) fun e w' => e = .returned (.bool false) ∧ ∃ m, w' = (wr.drewN n).drewN m := fun n => by
              have := l00Same_any x1 x2 row1 row2 (wr.drewN n) (x1r.keep (below_drewN (Below.refl _ _) n)) (x2r.keep (below_drewN (Below.refl _ _) n))
              rw [decide_eq_false hq] at this
              exact this
            clear hq
            go_wp2
            go_quiet ((go_at_call 43; exact Calls.quiet_of (hcall _)))
            go_wp2
            go_ret
            exact ⟨ret_bool hd.out.symm, by obtain ⟨m, rfl⟩ := hw.out; exact below_drewN (below_drewN W2 _) _⟩
        · obtain rfl : k = r1.length := by omega
          have he : r1 = r2 := by
            have := ht.out
            rw [List.take_length, hl'.out, List.take_length] at this
            exact this
          have hd := Lib.hid (hr.out.trans (decide_eq_true he))
          clear he
          go_wp2
          go_ret
          exact ⟨ret_bool hd.out.symm, by obtain ⟨m, rfl⟩ := hw.out; exact below_drewN W2 _⟩
    · have hne : r1 ≠ r2 := fun h => hl (by rw [h])
      have hd := Lib.hid (hr.out.trans (decide_eq_false hne))
      have hl2 : decide (r1.length = r2.length) = false := by simpa using hl
      have hl3 : ((r1.length : Int) != (r2.length : Int)) = true := by simp; omega
      have hB1 := (Blk.new w #[.int .i64 n1, .slice a1 r1.length cap1] 27).alloc (.cells #[.int .i64 n1, .slice a2 r2.length cap2] 27)
      clear hne hl
      go_enter Try.func16, Try.ntmps16
      go_wp2
      all_goals go_ret
      all_goals exact ⟨ret_bool hd.out.symm, below2 _ _ _⟩
  · have hr := Lib.hid (show grEq ⟨n1, r1⟩ ⟨n2, r2⟩ = false by simp [grEq, e1])
    have hne : (n1 != n2) = true := by simpa using e1
    clear e1
    go_enter Try.func16, Try.ntmps16
    go_wp2
    all_goals go_ret
    all_goals exact ⟨ret_bool hr.out.symm, below2 _ _ _⟩
end Go.Proofs.Ytfbhdlkiffoflaa
