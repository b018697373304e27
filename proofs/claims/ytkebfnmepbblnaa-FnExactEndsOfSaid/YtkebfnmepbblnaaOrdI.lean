/- ValidOrder of the project: a range over the iterator of pairs. Conditions: none. -/
import Derived.Test.YtkebfnmepbblnaaQr
import Derived.Test.YtkebfnmepbblnaaIter
import Derived.Test.YtkebfnmepbblnaaEnds
namespace Go.Proofs.Ytkebfnmepbblnaa
open Go.RowKit Go.Deep Go.Shelf Go.Sort
attribute [local go_sem] Oper.semAt_some
set_option linter.unusedVariables false

theorem anyR_take_succ {p : List Bool → Bool} (xs : List (List Bool)) (k : Nat) (h : k < xs.length) (h0 : (xs.take k).any p = false) (h1 : p (xs.getD k []) = false) : (xs.take (k + 1)).any p = false := by
  rw [List.take_succ_eq_append_getElem h, List.any_append, h0]
  simp only [List.getD, List.getElem?_eq_getElem h, Option.getD_some] at h1
  simp [h1]
theorem anyR_yes {p : List Bool → Bool} (xs : List (List Bool)) (k : Nat) (h : k < xs.length) (h1 : p (xs.getD k []) = true) : xs.any p = true := by
  rw [List.any_eq_true]
  exact ⟨_, by simp [List.getD, h], h1⟩

set_option maxHeartbeats 2000000 in
theorem indexFB_any (F : Nat) (caps : Array Value) (p : List Bool → Bool) (v : Value) (xss : List (List Bool)) (w : World) (hv : BRows w v xss) (hcf : ∀ args w, (callFunc F args).run Try.prog w = .ok (.enter F args) w)
    (hF0 : ∀ rv row, row ∈ xss → Bools w rv row → Calls Try.prog F (#[rv] ++ caps) w fun e w' => e = .returned (.bool (p row)) ∧ w = w') :
    Calls Try.prog 108 #[v, .func (.func F) #[] caps] w fun e w' => ∃ r : Int, e = .returned (.int .i64 r) ∧ (decide (0 ≤ r) = xss.any p ∧ (0 ≤ r → r.toNat < xss.length ∧ r < xss.length ∧ p (xss.getD r.toNat []) = true)) ∧ w = w' := by
  obtain ⟨hm, a, cap, rfl⟩ := hv.len
  unfold maxLen at hm
  have hF := Lib.hid hF0
  clear hF0
  go_enter Try.func108, Try.ntmps108
  go_wp2
  go_loop [8] (fun i => ∃ k : Nat, k ≤ xss.length ∧ i = .int .i64 k ∧ Hid ((xss.take k).any p = false)) (fun i => xss.length - (intOf i).toNat)
  case atStart => exact ⟨0, Nat.zero_le _, rfl, show _ = _ by simp⟩
  case round =>
    obtain ⟨k, hk, rfl, hn⟩ := hrel
    by_cases hlt : k < xss.length
    · obtain ⟨b, off, cap', rv, hvv, _, hc⟩ := hv.at (by omega)
      simp only [Value.slice.injEq] at hvv
      obtain ⟨rfl, _, rfl⟩ := hvv
      obtain ⟨hcell, hrow⟩ := hc k hlt
      clear hc
      have ha := Lib.hid (anyR_take_succ (p := p) xss k hlt hn.out)
      have hy := Lib.hid (anyR_yes (p := p) xss k hlt)
      have hcall := hF.out _ _ (show xss.getD k [] ∈ xss by simp [List.getD, hlt]) hrow
      have hpk := Lib.hid (show ∀ q, p (xss.getD k []) = q → p (xss.getD ((k : Int)).toNat []) = q from fun q h => by simpa using h)
      have hlt' : (k : Int) < (xss.length : Int) := by omega
      obtain ⟨_, ra, rc, hrv⟩ := hrow.len
      rw [hrv] at hcell hcall
      generalize (xss.getD k []).length = rl at *
      clear hrow hrv
      rcases hp : p (xss.getD k []) with _ | _
      · rw [hp] at hcall
        have hn2 := Lib.hid (ha.out hp)
        clear hp
        go_wp2_with fail
        refine hcall.mono ?_
        rintro e w' ⟨rfl, rfl⟩
        go_wp2
        go_round
        case rel => exact ⟨k + 1, by omega, by go_num, hn2⟩
        case measure => simp [intOf]; omega
      · rw [hp] at hcall
        have hn2 := Lib.hid (hy.out hp)
        have hpt := Lib.hid (hpk.out _ hp)
        clear hp
        go_wp2_with fail
        refine hcall.mono ?_
        rintro e w' ⟨rfl, rfl⟩
        go_wp2
        go_ret
        exact ⟨k, rfl, ⟨by rw [hn2.out]; simp, fun _ => ⟨by simpa using hlt, by omega, hpt.out⟩⟩, rfl⟩
    · obtain rfl : k = xss.length := by omega
      have hn2 := Lib.hid (show xss.any p = false by have := hn.out; rw [List.take_length] at this; exact this)
      go_wp2
      go_ret
      exact ⟨-1, rfl, ⟨by rw [hn2.out]; rfl, fun h => by omega⟩, rfl⟩

set_option maxHeartbeats 2000000 in
theorem contFB_any (F : Nat) (caps : Array Value) (p : List Bool → Bool) (v : Value) (xss : List (List Bool)) (w : World) (hv : BRows w v xss) (hcf : ∀ args w, (callFunc F args).run Try.prog w = .ok (.enter F args) w)
    (hF0 : ∀ rv row, row ∈ xss → Bools w rv row → Calls Try.prog F (#[rv] ++ caps) w fun e w' => e = .returned (.bool (p row)) ∧ w = w') :
    Calls Try.prog 99 #[v, .func (.func F) #[] caps] w fun e w' => e = .returned (.bool (xss.any p)) ∧ w = w' := by
  have hI := indexFB_any F caps p v xss w hv hcf hF0
  obtain ⟨hm, a, cap, rfl⟩ := hv.len
  go_enter Try.func99, Try.ntmps99
  go_wp2_with fail
  refine hI.mono ?_
  rintro e w' ⟨r, rfl, ⟨hr, -⟩, rfl⟩
  have hr' := Lib.hid hr
  clear hr
  go_wp2
  go_ret
  exact ⟨ret_bool hr'.out, rfl⟩

theorem cf_vo : ∀ args w, (callFunc 97 args).run Try.prog w = .ok (.enter 97 args) w := fun _ _ => by go_simp
theorem vo_one (rv : Value) (row : List Bool) (n : Int) (b : Nat) (w : World) (hv : Bools w rv row) (h1 : w.cell? ⟨b, 0, none⟩ = some (.int .i64 n)) :
    Calls Try.prog 97 #[rv, .pointer (some ⟨b, 0, none⟩)] w fun e w' => e = .returned (.bool (!decide ((row.length : Int) = n))) ∧ w = w' := by
  obtain ⟨hm, a, cap, rfl⟩ := hv.len
  unfold maxLen at hm
  by_cases h : (row.length : Int) = n
  · have h2 : ((row.length : Int) != n) = false := by simpa using h
    rw [decide_eq_true h]
    clear h
    go_enter Try.func97, Try.ntmps97
    go_wp2
    go_ret
    exact ⟨rfl, rfl⟩
  · have h2 : ((row.length : Int) != n) = true := by simpa using h
    rw [decide_eq_false h]
    clear h
    go_enter Try.func97, Try.ntmps97
    go_wp2
    go_ret
    exact ⟨rfl, rfl⟩

set_option maxHeartbeats 2000000 in
theorem isMet_any (s t : Int) (w : World) :
    Calls Try.prog 101 #[.agg #[.int .i64 s, .int .i64 t]] w fun e w' => e = .returned (.bool (decide (s = t))) ∧ ∃ q os, w' = grow (w.drewN q) os := by
  have hw := Lib.hid (show w.alloc (.cells #[.int .i64 s, .int .i64 t] 104) = grow (w.drewN 0) #[.cells #[.int .i64 s, .int .i64 t] 104] from alloc_eq_grow _ _)
  have hd := Lib.hid (show (s == t) = decide (s = t) by by_cases h : s = t <;> simp [h])
  go_enter Try.func101, Try.ntmps101
  go_wp2
  go_ret
  exact ⟨ret_bool hd.out, 0, _, hw.out⟩
/-- what the project asks of a pair -/
def pairOk (xss : List (List Bool)) (s t : Nat) : Bool := (decide (s = t) == (bb xss s t && bb xss t s)) && (List.range xss.length).all fun u => ordU1 xss s t u
theorem ordOk_pairs {xss : List (List Bool)} {N : Nat} (hN : xss.length = N) (h1 : inB (N : Int) 1 6 = true) (hr : ∀ s, s < N → (xss.getD s []).length = N) :
    ordOk (N : Int) xss = (List.finRange (N * N)).all fun x => pairOk xss (x.val / N) (x.val % N) := by
  have n1 := (inB_iff.1 h1).1
  rw [Bool.eq_iff_iff]
  unfold ordOk
  rw [h1, hN]
  simp only [Bool.true_and, Bool.and_eq_true, decide_eq_true_eq, List.all_eq_true, List.mem_range, List.mem_finRange, true_implies, true_and]
  constructor
  · rintro ⟨hA, hS⟩ x
    have hs : x.val / N < N := Nat.div_lt_of_lt_mul x.isLt
    have ht : x.val % N < N := Nat.mod_lt _ (by omega)
    generalize x.val / N = s at *
    generalize x.val % N = t at *
    have a1 := hA s hs
    unfold ordA1 at a1
    have s1 := hS s hs
    unfold ordS1 at s1
    rw [hN] at s1
    simp only [Bool.and_eq_true, List.all_eq_true, List.mem_range] at a1 s1
    have t1 := s1 t ht
    unfold ordT1 at t1
    rw [hN] at t1
    unfold pairOk
    rw [hN]
    simp only [Bool.and_eq_true, List.all_eq_true, List.mem_range] at t1 ⊢
    refine ⟨?_, t1.2⟩
    by_cases e : s = t
    · subst e
      rw [a1.2]; simp
    · have := t1.1
      simp only [ne_eq, e, not_false_eq_true, decide_true, Bool.true_and, Bool.not_eq_eq_eq_not, Bool.not_true] at this
      rw [this]; simp [e]
  · intro h
    have hp : ∀ s t, s < N → t < N → pairOk xss s t = true := fun s t hs ht => by
      have := h ⟨s * N + t, num_lt hs ht⟩
      simp only at this
      rw [show (s * N + t) / N = s by rw [Nat.mul_comm, Nat.mul_add_div (by omega), Nat.div_eq_of_lt ht, Nat.add_zero], show (s * N + t) % N = t by rw [Nat.mul_comm, Nat.mul_add_mod, Nat.mod_eq_of_lt ht]] at this
      exact this
    refine ⟨fun s hs => ?_, fun s hs => ?_⟩
    · have := hp s s hs hs
      unfold pairOk at this
      unfold ordA1
      simp only [decide_true, Bool.and_self, Bool.and_eq_true, beq_iff_eq] at this
      rw [← this.1, decide_eq_true (by rw [hr s hs])]; rfl
    · unfold ordS1
      rw [hN]
      simp only [List.all_eq_true, List.mem_range]
      intro t ht
      have := hp s t hs ht
      unfold pairOk at this
      unfold ordT1
      rw [hN] at this ⊢
      simp only [Bool.and_eq_true, beq_iff_eq] at this ⊢
      refine ⟨?_, this.2⟩
      by_cases e : s = t
      · simp [e]
      · rw [← this.1]; simp [e]

set_option maxRecDepth 100000 in
set_option maxHeartbeats 8000000 in
theorem ValidOrder_impl (n : Int) (v : Value) (xss : List (List Bool)) (w : World) (hv : BRows w v xss) :
    Calls Try.prog 41 #[.int .i64 n, v] w fun e w' => e = .returned (.bool (ordOk n xss)) ∧ Below w.heap.size w w' := by
  obtain ⟨hm, a, cap, rfl⟩ := hv.len
  unfold maxLen at hm
  have W3 := below3 w (.cells #[.int .i64 n] 2) (.cells #[.slice a xss.length cap] 50) (.cells #[.bool false] 4)
  have B1 := ((Blk.new w #[.int .i64 n] 2).alloc (.cells #[.slice a xss.length cap] 50)).alloc (.cells #[.bool false] 4)
  have B2 := (Blk.new (w.alloc (.cells #[.int .i64 n] 2)) #[.slice a xss.length cap] 50).alloc (.cells #[.bool false] 4)
  have B3 := Blk.new ((w.alloc (.cells #[.int .i64 n] 2)).alloc (.cells #[.slice a xss.length cap] 50)) #[.bool false] 4
  simp only [World.size_alloc] at B2 B3
  have hsz : (((w.alloc (.cells #[.int .i64 n] 2)).alloc (.cells #[.slice a xss.length cap] 50)).alloc (.cells #[.bool false] 4)).heap.size = w.heap.size + 3 := by simp
  have hv' := hv.keep W3
  generalize hV : ((w.alloc (.cells #[.int .i64 n] 2)).alloc (.cells #[.slice a xss.length cap] 50)).alloc (.cells #[.bool false] 4) = V at *
  have hV' := Lib.hid hV
  clear hV
  have c1 := B1.cell 0
  have c2 := B2.cell 0
  have c3 := B3.cell 0
  have f3 := B3.frozen 0
  simp only [List.getElem?_toArray, List.getElem?_cons_zero] at c1 c2 c3
  have hin := isIn_any n 1 6 V
  have hcf := Lib.hid (show (V.setCell ⟨w.heap.size + 1 + 1, 0, none⟩ (.bool false)).cell? ⟨w.heap.size + 1 + 1, 0, none⟩ = some (.bool false) from World.cell?_setCell_same' _ _ _ (by rw [c3]; rfl))
  have hbf := Lib.hid (show Below w.heap.size w (V.setCell ⟨w.heap.size + 1 + 1, 0, none⟩ (.bool false)) from W3.setCell (p := ⟨w.heap.size + 1 + 1, 0, none⟩) (by simp; omega) _)
  have hcont := contFB_any 97 #[.pointer (some ⟨w.heap.size, 0, none⟩)] (fun row => !decide ((row.length : Int) = n)) _ xss V hv' cf_vo (fun rv row _ hb => vo_one rv row n w.heap.size V hb c1)
  rcases h1 : inB n 1 6 with _ | _
  · rw [h1] at hin
    have hr := Lib.hid (show ordOk n xss = false by unfold ordOk; rw [h1]; rfl)
    clear h1 hcont
    go_enter Try.func41, Try.ntmps41
    go_wp2_with fail
    rw [hV'.out]
    refine hin.mono ?_
    rintro e w' ⟨rfl, rfl⟩
    go_wp2
    have hc5 := hcf.out
    refine bodyPost_ret (v := .bool false) (by simp [results, Try.f41, go_sem, hc5]) rfl ⟨ret_bool hr.out.symm, hbf.out⟩
  rw [h1] at hin
  by_cases h2 : (xss.length : Int) = n
  rotate_left
  · have hr := Lib.hid (show ordOk n xss = false by unfold ordOk; rw [decide_eq_false h2]; simp)
    have hne : ((xss.length : Int) != n) = true := by simpa using h2
    clear h1 h2 hcont
    go_enter Try.func41, Try.ntmps41
    go_wp2_with fail
    rw [hV'.out]
    refine hin.mono ?_
    rintro e w' ⟨rfl, rfl⟩
    go_wp2
    have hc5 := hcf.out
    refine bodyPost_ret (v := .bool false) (by simp [results, Try.f41, go_sem, hc5]) rfl ⟨ret_bool hr.out.symm, hbf.out⟩
  have hne : ((xss.length : Int) != n) = false := by simpa using h2
  rcases ha : xss.any (fun row => !decide ((row.length : Int) = n)) with _ | _
  rotate_left
  · rw [ha] at hcont
    have hr := Lib.hid (show ordOk n xss = false by
      rw [List.any_eq_true] at ha
      obtain ⟨row, hm, hrow⟩ := ha
      obtain ⟨k, hk, rfl⟩ := List.mem_iff_getElem.1 hm
      unfold ordOk
      rw [rng_no (f := fun s => ordA1 n xss s) hk (by
        unfold ordA1
        simp only [Bool.not_eq_eq_eq_not, Bool.not_true, decide_eq_false_iff_not] at hrow
        rw [decide_eq_false (by simpa [List.getD, hk] using hrow)]; rfl)]
      simp)
    clear ha h1 h2
    go_enter Try.func41, Try.ntmps41
    go_wp2_with fail
    rw [hV'.out]
    refine hin.mono ?_
    rintro e w' ⟨rfl, rfl⟩
    go_wp2_with fail
    refine hcont.mono ?_
    rintro e w' ⟨rfl, rfl⟩
    go_wp2
    have hc5 := hcf.out
    refine bodyPost_ret (v := .bool false) (by simp [results, Try.f41, go_sem, hc5]) rfl ⟨ret_bool hr.out.symm, hbf.out⟩
  rw [ha] at hcont
  obtain ⟨N, hN⟩ : ∃ N, xss.length = N := ⟨_, rfl⟩
  have hlen : ∀ s, s < N → (xss.getD s []).length = N := fun s hs => by
    rw [List.any_eq_false] at ha
    have := ha (xss.getD s []) (by simp [List.getD, show s < xss.length by omega])
    have hx : ((xss.getD s []).length : Int) = n := Decidable.byContradiction fun hc => this (by show (!decide (((xss.getD s []).length : Int) = n)) = true; rw [decide_eq_false hc]; rfl)
    omega
  have hb := inB_iff.1 h1
  obtain rfl : n = (N : Int) := by omega
  have hpairs := Lib.hid (ordOk_pairs hN h1 hlen)
  obtain ⟨gb, goff, gcap, hgv, hG0⟩ := grid hv' hN (by omega) hlen
  rw [hN] at hgv hne c2 ⊢
  rw [hN] at hV' hcont
  simp only [Value.slice.injEq] at hgv
  obtain ⟨rfl, -, rfl⟩ := hgv
  have G := Lib.hid hG0
  have hU := Lib.hid (show ∀ s t, pairOk xss s t = ((decide (s = t) == (bb xss s t && bb xss t s)) && (List.range N).all fun u => ordU1 xss s t u) from fun s t => by unfold pairOk; rw [hN])
  clear hG0 hlen ha h1 h2 hv hv' hm
  refine (callsIn_wide (n := 3)).1 ?_
  refine callsIn_of_wp_marks Try.func41 rfl trivial ?_ rfl
  simp only [Try.ntmps41, List.size_toArray, List.length_cons, List.length_nil, Nat.reduceAdd, Nat.reduceSub, Array.replicate_succ, Array.replicate_zero, List.push_toArray, List.append_toArray, List.nil_append, List.cons_append]
  gi_wp2
  rw [hV'.out]
  refine ⟨trivial, (callsIn_wide.2 hin).mono ?_⟩
  rintro e w' ⟨rfl, rfl⟩
  gi_wp2
  refine ⟨trivial, (callsIn_wide.2 hcont).mono ?_⟩
  rintro e w' ⟨rfl, rfl⟩
  gi_wp2
  refine ⟨trivial, (pairsOf_in Fence.wide 2 trivial rfl N _).mono ?_⟩
  rintro e w' ⟨rfl, rfl⟩
  gi_wp2
  have BN := Blk.new V #[.int .i64 (N : Int)] 2
  rw [hsz] at BN
  have hWV := below1 V (.cells #[.int .i64 (N : Int)] 2)
  obtain ⟨W0, hW0⟩ : ∃ W0, V.alloc (.cells #[.int .i64 (N : Int)] 2) = W0 := ⟨_, rfl⟩
  have hsz0 : W0.heap.size = w.heap.size + 4 := by rw [← hW0]; simp [hsz]
  rw [hW0] at BN hWV ⊢
  clear hW0
  refine wpIn_rangeFunc_ownH rfl (by decide) (gf := 161) (lb := #[.pointer (some ⟨w.heap.size + 3, 0, none⟩)]) rfl trivial (enters_of Try.func161 (by kernel_rfl) rfl)
    (pairs_stops Fence.wide 2 trivial rfl (by decide) (w.heap.size + 3) N (by omega) W0 BN) boxK_t (boxK_b (w := W0) (by omega)) (Below.refl _ _) (fun _ => rfl)
    (fun pre W => Below W0.heap.size W0 W ∧ ∀ y ∈ pre, pairOk xss (y.val / N) (y.val % N) = true)
    (fun c pre W => (c = .ret ∧ ∃ y ∈ pre, pairOk xss (y.val / N) (y.val % N) = false) ∧ Blk W (w.heap.size + 1 + 1) #[.bool false] 4 ∧ Below w.heap.size w W)
    (OwnFrom.and (ownFrom_below (Nat.le_refl _) (by omega)) (ownFrom_pure _ _))
    (fun c => OwnFrom.and (ownFrom_pure _ _) (OwnFrom.and (Own.from (boxed_own _ _ (fun _ => .bool false)) _) (ownFrom_below (Nat.le_refl _) (by omega))))
    ⟨Below.refl _ _, by simp⟩
    (fun x a' W => ∃ Bx, V.heap.size < Bx ∧ Blk W Bx #[.int .i64 ((x.val / N : Nat) : Int), .int .i64 ((x.val % N : Nat) : Int)] 104 ∧ a' = { tmps := #[.int .i64 (N : Int), .slice (some ⟨gb, goff, none⟩) N cap, .pointer (some ⟨w.heap.size, 0, none⟩), .pointer (some ⟨w.heap.size + 1, 0, none⟩), .pointer (some ⟨w.heap.size + 1 + 1, 0, none⟩), .func (.func 97) #[] #[.pointer (some ⟨w.heap.size, 0, none⟩)], .pointer (some ⟨Bx, 0, none⟩), undef, undef, undef, .func (.func 97) #[] #[.pointer (some ⟨w.heap.size, 0, none⟩)], .int .i64 (N : Int), .bool true, .bool false, .bool false, .slice (some ⟨gb, goff, none⟩) N cap, .int .i64 (N : Int), .int .i64 (N : Int), .bool false, .bool false, .bool false, .slice (some ⟨gb, goff, none⟩) N cap, .func (.func 97) #[] #[.pointer (some ⟨w.heap.size, 0, none⟩)], .bool false, .bool false, .int .i64 (N : Int), .func (.func 161) #[] #[.pointer (some ⟨w.heap.size + 3, 0, none⟩)], pairV N x, undef, undef, undef, undef, undef, undef, undef, undef, undef, undef, undef, undef, undef, undef, undef, undef, undef, undef, undef, undef, undef, undef, undef, undef, undef, undef, undef, undef, undef, undef, undef, undef, undef, undef, undef, undef, undef, undef, undef, undef, undef, undef, undef, undef, undef, undef, undef, undef, undef, undef, undef, undef, undef, undef], defers := [] })
    (fun x a' _ X Y row hs hg hr => by
      obtain ⟨Bx, h1, h2, h3⟩ := hs
      exact ⟨Bx, h1, (grownBy_keeps_cells hg (fun r e => (hr r e).2) h2 rfl).trans h2, h3⟩)
    ?assign ?body ?done ?stop
  case assign =>
    rintro l pre x W K ⟨hb1, hp1⟩ hK
    have hsW := hb1.size
    unfold pairV at hK ⊢
    generalize x.val / N = S at *
    generalize x.val % N = T at *
    gi_wp2
    exact hK _ _ ((KeepsOthers.alloc _ _).from _) (Below.heap_alloc _ _ _ (by omega)) ⟨hb1.alloc hsW _, hp1⟩ ⟨W.heap.size, by omega, Blk.new W _ _, rfl⟩
  case body =>
    rintro l pre x a' W hl ⟨r, hr⟩ ⟨hb1, hp1⟩ ⟨Bx, hBx, bX, rfl⟩ hlt
    have hsW := hb1.size
    obtain ⟨S, hS⟩ : ∃ S, x.val / N = S := ⟨_, rfl⟩
    obtain ⟨T, hT⟩ : ∃ T, x.val % N = T := ⟨_, rfl⟩
    have hSN : S < N := by rw [← hS]; exact Nat.div_lt_of_lt_mul x.isLt
    have hTN : T < N := by rw [← hT]; exact Nat.mod_lt _ (by omega)
    have hyes := Lib.hid (show pairOk xss S T = true → ∀ y ∈ pre ++ [x], pairOk xss (y.val / N) (y.val % N) = true from fun h y hy => by
      rcases List.mem_append.1 hy with hy | hy
      · exact hp1 y hy
      · rw [List.mem_singleton.1 hy, hS, hT]; exact h)
    have hnot := Lib.hid (show pairOk xss S T = false → ∃ y ∈ pre ++ [x], pairOk xss (y.val / N) (y.val % N) = false from fun h => ⟨x, by simp, by rw [hS, hT]; exact h⟩)
    have hdef := Lib.hid (hU.out S T)
    unfold pairV
    rw [hS, hT] at bX ⊢
    clear hS hT hp1
    have hbV : Below V.heap.size V W := hWV.trans (hb1.mono (by omega))
    obtain ⟨sb, so, sc, q1, q2⟩ := G.out S hSN
    obtain ⟨tb, tro, tc, q3, q4⟩ := G.out T hTN
    have Fx := Lib.hid (show ∀ u, Below W.heap.size W u → u.cell? ⟨w.heap.size, 0, none⟩ = some (.int .i64 (N : Int)) ∧ u.cell? ⟨w.heap.size + 1, 0, none⟩ = some (.slice (some ⟨gb, goff, none⟩) N cap) ∧
        (u.cell? ⟨w.heap.size + 1 + 1, 0, none⟩ = some (.bool false) ∧ u.frozen? ⟨w.heap.size + 1 + 1, 0, none⟩ = false) ∧ u.cell? ⟨gb, goff + S, none⟩ = some (.slice (some ⟨sb, so, none⟩) N sc) ∧ u.cell? ⟨gb, goff + T, none⟩ = some (.slice (some ⟨tb, tro, none⟩) N tc) ∧
        (∀ t, t < N → u.cell? ⟨sb, so + t, none⟩ = some (.bool (bb xss S t))) ∧ (∀ t, t < N → u.cell? ⟨tb, tro + t, none⟩ = some (.bool (bb xss T t))) ∧ u.cell? ⟨Bx, 0, none⟩ = some (.int .i64 (S : Int)) ∧ u.cell? ⟨Bx, 1, none⟩ = some (.int .i64 (T : Int)) from fun u hu => by
      have hvu : Below V.heap.size V u := hbV.trans (hu.mono (by have := hbV.size; omega))
      have bXu := bX.keep hu bX.lt
      exact ⟨(hvu.cell (block_lt c1)).trans c1, (hvu.cell (block_lt c2)).trans c2, ⟨(hvu.cell (block_lt c3)).trans c3, (hvu.frozen (block_lt c3)).trans f3⟩, (hvu.cell (block_lt q1)).trans q1, (hvu.cell (block_lt q3)).trans q3,
        fun t ht => (hvu.cell (block_lt (q2 t ht))).trans (q2 t ht), fun t ht => (hvu.cell (block_lt (q4 t ht))).trans (q4 t ht), by rw [bXu.cell 0]; rfl, by rw [bXu.cell 1]; rfl⟩)
    have B3W := Lib.hid (show ∀ u, Below W.heap.size W u → Blk u (w.heap.size + 1 + 1) #[.bool false] 4 ∧ Below w.heap.size w u ∧ Below W0.heap.size W0 u ∧ u.heap[w.heap.size + 3]? = W.heap[w.heap.size + 3]? from fun u hu => by
      have hvu : Below V.heap.size V u := hbV.trans (hu.mono (by have := hbV.size; omega))
      exact ⟨B3.keep hvu B3.lt, W3.trans (hvu.mono (by omega)), hb1.trans (hu.mono hsW), hu.block _ (by omega)⟩)
    clear q1 q2 q3 q4 c1 c2 c3 f3 B1 B2 B3 BN
    obtain ⟨-, -, -, -, -, -, -, x0, x1⟩ := Fx.out W (Below.refl _ _)
    gi_wp2_with fail
    refine region_round_q (by kernel_rfl) (by kernel_rfl) (by kernel_rfl) ?_
    repeat (go_big_quiet_step (fail))
    refine wpQuiet_nil ?_
    intro _ hw'
    obtain ⟨nq, hw''⟩ := hw'
    subst hw''
    clear x0 x1
    obtain ⟨W1, hW1⟩ : ∃ u, W.drewN nq = u := ⟨_, rfl⟩
    have hb2 : Below W.heap.size W W1 := by rw [← hW1]; exact below_drewN (Below.refl _ _) _
    have kp2 : KeepsOthers W W1 := by rw [← hW1]; have := keeps_grown W nq #[]; rwa [grow_empty] at this
    rw [hW1]
    clear hW1
    have hs1 := hb2.size
    have Fg := Lib.hid (fun n os => Fx.out (grow (W1.drewN n) os) (hb2.trans ((below_grown W1 n os).mono hs1)))
    have Bg := Lib.hid (fun n os => B3W.out (grow (W1.drewN n) os) (hb2.trans ((below_grown W1 n os).mono hs1)))
    have Kg := Lib.hid (fun n os => kp2.trans (keeps_grown W1 n os))
    clear Fx B3W hb2 kp2
    have m1 : ∀ n os, (grow (W1.drewN n) os).cell? ⟨w.heap.size + 1, 0, none⟩ = some (.slice (some ⟨gb, goff, none⟩) N cap) := fun n os => (Fg.out n os).2.1
    have m2 : ∀ n os, (grow (W1.drewN n) os).cell? ⟨gb, goff + S, none⟩ = some (.slice (some ⟨sb, so, none⟩) N sc) := fun n os => (Fg.out n os).2.2.2.1
    have m3 : ∀ n os, (grow (W1.drewN n) os).cell? ⟨gb, goff + T, none⟩ = some (.slice (some ⟨tb, tro, none⟩) N tc) := fun n os => (Fg.out n os).2.2.2.2.1
    have m4 : ∀ n os, (grow (W1.drewN n) os).cell? ⟨sb, so + T, none⟩ = some (.bool (bb xss S T)) := fun n os => (Fg.out n os).2.2.2.2.2.1 T hTN
    have m5 : ∀ n os, (grow (W1.drewN n) os).cell? ⟨tb, tro + S, none⟩ = some (.bool (bb xss T S)) := fun n os => (Fg.out n os).2.2.2.2.2.2.1 S hSN
    have m6 : ∀ n os, (grow (W1.drewN n) os).cell? ⟨Bx, 0, none⟩ = some (.int .i64 (S : Int)) := fun n os => (Fg.out n os).2.2.2.2.2.2.2.1
    have m7 : ∀ n os, (grow (W1.drewN n) os).cell? ⟨Bx, 1, none⟩ = some (.int .i64 (T : Int)) := fun n os => (Fg.out n os).2.2.2.2.2.2.2.2
    have m8 : ∀ n os, (grow (W1.drewN n) os).cell? ⟨w.heap.size + 1 + 1, 0, none⟩ = some (.bool false) := fun n os => (Fg.out n os).2.2.1.1
    have m9 : ∀ n os, (grow (W1.drewN n) os).frozen? ⟨w.heap.size + 1 + 1, 0, none⟩ = false := fun n os => (Fg.out n os).2.2.1.2
    have i1 : (S : Int) < (N : Int) := by omega
    have i2 : (T : Int) < (N : Int) := by omega
    have hmet := Lib.hid (fun n os => Calls.grown_of (isMet_any (S : Int) (T : Int) (grow (W1.drewN n) os)))
    have hst : decide ((S : Int) = (T : Int)) = decide (S = T) := by
      by_cases h : S = T
      · rw [decide_eq_true h, decide_eq_true (by omega)]
      · rw [decide_eq_false h, decide_eq_false (by omega)]
    rw [hst] at hmet
    clear hst
    generalize decide (S = T) = m at hmet hdef
    obtain ⟨b1, hb1e⟩ : ∃ b, bb xss S T = b := ⟨_, rfl⟩
    obtain ⟨b2, hb2e⟩ : ∃ b, bb xss T S = b := ⟨_, rfl⟩
    rw [hb1e] at m4 hdef
    rw [hb2e] at m5 hdef
    have hb1h := Lib.hid hb1e
    clear hb1e hb2e
    have hstop := Lib.hid (show ∀ n os, pairOk xss S T = false → KeepsFrom W0.heap.size W ((grow (W1.drewN n) os).setCell ⟨w.heap.size + 1 + 1, 0, none⟩ (.bool false)) ∧ (∃ y ∈ pre ++ [x], pairOk xss (y.val / N) (y.val % N) = false) ∧ Blk ((grow (W1.drewN n) os).setCell ⟨w.heap.size + 1 + 1, 0, none⟩ (.bool false)) (w.heap.size + 1 + 1) #[.bool false] 4 ∧ Below w.heap.size w ((grow (W1.drewN n) os).setCell ⟨w.heap.size + 1 + 1, 0, none⟩ (.bool false)) from fun n os h =>
      ⟨((Kg.out n os).trans (KeepsOthers.setCell _ _ _)).from _, hnot.out h, (Bg.out n os).1.set 0 _, (Bg.out n os).2.1.setCell (p := ⟨w.heap.size + 1 + 1, 0, none⟩) (by simp; omega) _⟩)
    rcases m with _ | _ <;> rcases b1 with _ | _ <;> rcases b2 with _ | _
    · gi_wp2_with fail
      refine region_round_g (by kernel_rfl) (by kernel_rfl) (by kernel_rfl) ?_
      repeat (go_big_quiet_step ((go_at_call 101; exact hmet.out _ _)))
      refine wpQuiet_nil ?_
      intro _ hw'
      obtain ⟨⟨n2, os2⟩, hw''⟩ := hw'
      subst hw''
      obtain ⟨k1, k2, ⟨k3, k4⟩, k5, k6, k7, k8, -, -⟩ := Fg.out n2 os2
      have kb := Lib.hid (Bg.out n2 os2)
      have kk := Lib.hid (Kg.out n2 os2)
      have hst2 := Lib.hid (hstop.out n2 os2)
      clear m1 m2 m3 m4 m5 m6 m7 m8 m9 hmet hstop Fg Bg Kg
      obtain ⟨W2, hW2⟩ : ∃ u, grow (W1.drewN n2) os2 = u := ⟨_, rfl⟩
      rw [hW2] at k1 k2 k3 k4 k5 k6 k7 k8 kb kk hst2 ⊢
      clear hW2
      have hdef2 := Lib.hid (show pairOk xss S T = (List.range N).all (fun u => ordU1 xss S T u) by rw [hdef.out]; rfl)
      have k7' := Lib.hid k7
      have k8' := Lib.hid k8
      clear k7 k8
      have kst := k7'.out T hTN
      rw [hb1h.out] at kst
      gi_wp2
      gi_loopw [52] (fun i wr => ∃ u : Nat, u ≤ N ∧ i = .int .i64 (u : Int) ∧ wr = W2 ∧ Hid ((List.range u).all (fun u => ordU1 xss S T u) = true)) (fun i _ => N - (intOf i).toNat)
      case atStart => exact ⟨0, Nat.zero_le _, rfl, rfl, show _ = _ by simp⟩
      case round =>
        obtain ⟨u, hu, rfl, rfl, hall⟩ := hrel
        by_cases hult : u < N
        · have i3 : (u : Int) < (N : Int) := by omega
          have hno := Lib.hid (show ordU1 xss S T u = false → pairOk xss S T = false from fun h => by rw [hdef2.out, rng_no (f := fun u => ordU1 xss S T u) hult h])
          have hn := Lib.hid (rng_succ (f := fun u => ordU1 xss S T u) hall.out (by unfold ordU1; rw [hb1h.out]; rfl))
          gi_wp2
          go_roundw
          case rel => exact ⟨u + 1, by omega, by go_num, by first | rfl | trivial, hn⟩
          case measure => simp [intOf]; omega
        · obtain rfl : u = N := by omega
          have hok := Lib.hid (hyes.out (by rw [hdef2.out, hall.out]))
          gi_wp2
          exact ⟨kk.out.from _, kb.out.2.2.2, kb.out.2.2.1, hok.out⟩
    · gi_wp2_with fail
      refine region_round_g (by kernel_rfl) (by kernel_rfl) (by kernel_rfl) ?_
      repeat (go_big_quiet_step ((go_at_call 101; exact hmet.out _ _)))
      refine wpQuiet_nil ?_
      intro _ hw'
      obtain ⟨⟨n2, os2⟩, hw''⟩ := hw'
      subst hw''
      obtain ⟨k1, k2, ⟨k3, k4⟩, k5, k6, k7, k8, -, -⟩ := Fg.out n2 os2
      have kb := Lib.hid (Bg.out n2 os2)
      have kk := Lib.hid (Kg.out n2 os2)
      have hst2 := Lib.hid (hstop.out n2 os2)
      clear m1 m2 m3 m4 m5 m6 m7 m8 m9 hmet hstop Fg Bg Kg
      obtain ⟨W2, hW2⟩ : ∃ u, grow (W1.drewN n2) os2 = u := ⟨_, rfl⟩
      rw [hW2] at k1 k2 k3 k4 k5 k6 k7 k8 kb kk hst2 ⊢
      clear hW2
      have hdef2 := Lib.hid (show pairOk xss S T = (List.range N).all (fun u => ordU1 xss S T u) by rw [hdef.out]; rfl)
      have k7' := Lib.hid k7
      have k8' := Lib.hid k8
      clear k7 k8
      have kst := k7'.out T hTN
      rw [hb1h.out] at kst
      gi_wp2
      gi_loopw [52] (fun i wr => ∃ u : Nat, u ≤ N ∧ i = .int .i64 (u : Int) ∧ wr = W2 ∧ Hid ((List.range u).all (fun u => ordU1 xss S T u) = true)) (fun i _ => N - (intOf i).toNat)
      case atStart => exact ⟨0, Nat.zero_le _, rfl, rfl, show _ = _ by simp⟩
      case round =>
        obtain ⟨u, hu, rfl, rfl, hall⟩ := hrel
        by_cases hult : u < N
        · have i3 : (u : Int) < (N : Int) := by omega
          have hno := Lib.hid (show ordU1 xss S T u = false → pairOk xss S T = false from fun h => by rw [hdef2.out, rng_no (f := fun u => ordU1 xss S T u) hult h])
          have hn := Lib.hid (rng_succ (f := fun u => ordU1 xss S T u) hall.out (by unfold ordU1; rw [hb1h.out]; rfl))
          gi_wp2
          go_roundw
          case rel => exact ⟨u + 1, by omega, by go_num, by first | rfl | trivial, hn⟩
          case measure => simp [intOf]; omega
        · obtain rfl : u = N := by omega
          have hok := Lib.hid (hyes.out (by rw [hdef2.out, hall.out]))
          gi_wp2
          exact ⟨kk.out.from _, kb.out.2.2.2, kb.out.2.2.1, hok.out⟩
    · gi_wp2_with fail
      refine region_round_g (by kernel_rfl) (by kernel_rfl) (by kernel_rfl) ?_
      repeat (go_big_quiet_step ((go_at_call 101; exact hmet.out _ _)))
      refine wpQuiet_nil ?_
      intro _ hw'
      obtain ⟨⟨n2, os2⟩, hw''⟩ := hw'
      subst hw''
      obtain ⟨k1, k2, ⟨k3, k4⟩, k5, k6, k7, k8, -, -⟩ := Fg.out n2 os2
      have kb := Lib.hid (Bg.out n2 os2)
      have kk := Lib.hid (Kg.out n2 os2)
      have hst2 := Lib.hid (hstop.out n2 os2)
      clear m1 m2 m3 m4 m5 m6 m7 m8 m9 hmet hstop Fg Bg Kg
      obtain ⟨W2, hW2⟩ : ∃ u, grow (W1.drewN n2) os2 = u := ⟨_, rfl⟩
      rw [hW2] at k1 k2 k3 k4 k5 k6 k7 k8 kb kk hst2 ⊢
      clear hW2
      have hdef2 := Lib.hid (show pairOk xss S T = (List.range N).all (fun u => ordU1 xss S T u) by rw [hdef.out]; rfl)
      have k7' := Lib.hid k7
      have k8' := Lib.hid k8
      clear k7 k8
      have kst := k7'.out T hTN
      rw [hb1h.out] at kst
      gi_wp2
      gi_loopw [52] (fun i wr => ∃ u : Nat, u ≤ N ∧ i = .int .i64 (u : Int) ∧ wr = W2 ∧ Hid ((List.range u).all (fun u => ordU1 xss S T u) = true)) (fun i _ => N - (intOf i).toNat)
      case atStart => exact ⟨0, Nat.zero_le _, rfl, rfl, show _ = _ by simp⟩
      case round =>
        obtain ⟨u, hu, rfl, rfl, hall⟩ := hrel
        by_cases hult : u < N
        · have i3 : (u : Int) < (N : Int) := by omega
          have hno := Lib.hid (show ordU1 xss S T u = false → pairOk xss S T = false from fun h => by rw [hdef2.out, rng_no (f := fun u => ordU1 xss S T u) hult h])
          have q1 := k8'.out u hult
          have q2 := k7'.out u hult
          rcases e1 : bb xss T u with _ | _
          · rw [e1] at q1
            have hn := Lib.hid (rng_succ (f := fun u => ordU1 xss S T u) hall.out (by unfold ordU1; rw [hb1h.out, e1]; rfl))
            clear e1
            gi_wp2
            go_roundw
            case rel => exact ⟨u + 1, by omega, by go_num, by first | rfl | trivial, hn⟩
            case measure => simp [intOf]; omega
          · rw [e1] at q1
            rcases e2 : bb xss S u with _ | _
            · rw [e2] at q2
              have hfin := Lib.hid (hst2.out (hno.out (by unfold ordU1; rw [hb1h.out, e1, e2]; rfl)))
              clear e1 e2
              gi_wp2
              exact ⟨hfin.out.1, ⟨rfl, hfin.out.2.1⟩, hfin.out.2.2⟩
            · rw [e2] at q2
              have hn := Lib.hid (rng_succ (f := fun u => ordU1 xss S T u) hall.out (by unfold ordU1; rw [hb1h.out, e1, e2]; rfl))
              clear e1 e2
              gi_wp2
              go_roundw
              case rel => exact ⟨u + 1, by omega, by go_num, by first | rfl | trivial, hn⟩
              case measure => simp [intOf]; omega
        · obtain rfl : u = N := by omega
          have hok := Lib.hid (hyes.out (by rw [hdef2.out, hall.out]))
          gi_wp2
          exact ⟨kk.out.from _, kb.out.2.2.2, kb.out.2.2.1, hok.out⟩
    · gi_wp2_with fail
      refine region_round_g (by kernel_rfl) (by kernel_rfl) (by kernel_rfl) ?_
      repeat (go_big_quiet_step ((go_at_call 101; exact hmet.out _ _)))
      refine wpQuiet_nil ?_
      intro _ hw'
      obtain ⟨⟨n2, os2⟩, hw''⟩ := hw'
      subst hw''
      gi_wp2
      have hfs := hstop.out n2 os2 (show pairOk xss S T = false by rw [hdef.out]; rfl)
      exact ⟨hfs.1, ⟨rfl, hfs.2.1⟩, hfs.2.2⟩
    · gi_wp2_with fail
      refine region_round_g (by kernel_rfl) (by kernel_rfl) (by kernel_rfl) ?_
      repeat (go_big_quiet_step ((go_at_call 101; exact hmet.out _ _)))
      refine wpQuiet_nil ?_
      intro _ hw'
      obtain ⟨⟨n2, os2⟩, hw''⟩ := hw'
      subst hw''
      gi_wp2
      have hfs := hstop.out n2 os2 (show pairOk xss S T = false by rw [hdef.out]; rfl)
      exact ⟨hfs.1, ⟨rfl, hfs.2.1⟩, hfs.2.2⟩
    · gi_wp2_with fail
      refine region_round_g (by kernel_rfl) (by kernel_rfl) (by kernel_rfl) ?_
      repeat (go_big_quiet_step ((go_at_call 101; exact hmet.out _ _)))
      refine wpQuiet_nil ?_
      intro _ hw'
      obtain ⟨⟨n2, os2⟩, hw''⟩ := hw'
      subst hw''
      gi_wp2
      have hfs := hstop.out n2 os2 (show pairOk xss S T = false by rw [hdef.out]; rfl)
      exact ⟨hfs.1, ⟨rfl, hfs.2.1⟩, hfs.2.2⟩
    · gi_wp2_with fail
      refine region_round_g (by kernel_rfl) (by kernel_rfl) (by kernel_rfl) ?_
      repeat (go_big_quiet_step ((go_at_call 101; exact hmet.out _ _)))
      refine wpQuiet_nil ?_
      intro _ hw'
      obtain ⟨⟨n2, os2⟩, hw''⟩ := hw'
      subst hw''
      gi_wp2
      have hfs := hstop.out n2 os2 (show pairOk xss S T = false by rw [hdef.out]; rfl)
      exact ⟨hfs.1, ⟨rfl, hfs.2.1⟩, hfs.2.2⟩
    · gi_wp2_with fail
      refine region_round_g (by kernel_rfl) (by kernel_rfl) (by kernel_rfl) ?_
      repeat (go_big_quiet_step ((go_at_call 101; exact hmet.out _ _)))
      refine wpQuiet_nil ?_
      intro _ hw'
      obtain ⟨⟨n2, os2⟩, hw''⟩ := hw'
      subst hw''
      obtain ⟨k1, k2, ⟨k3, k4⟩, k5, k6, k7, k8, -, -⟩ := Fg.out n2 os2
      have kb := Lib.hid (Bg.out n2 os2)
      have kk := Lib.hid (Kg.out n2 os2)
      have hst2 := Lib.hid (hstop.out n2 os2)
      clear m1 m2 m3 m4 m5 m6 m7 m8 m9 hmet hstop Fg Bg Kg
      obtain ⟨W2, hW2⟩ : ∃ u, grow (W1.drewN n2) os2 = u := ⟨_, rfl⟩
      rw [hW2] at k1 k2 k3 k4 k5 k6 k7 k8 kb kk hst2 ⊢
      clear hW2
      have hdef2 := Lib.hid (show pairOk xss S T = (List.range N).all (fun u => ordU1 xss S T u) by rw [hdef.out]; rfl)
      have k7' := Lib.hid k7
      have k8' := Lib.hid k8
      clear k7 k8
      have kst := k7'.out T hTN
      rw [hb1h.out] at kst
      gi_wp2
      gi_loopw [52] (fun i wr => ∃ u : Nat, u ≤ N ∧ i = .int .i64 (u : Int) ∧ wr = W2 ∧ Hid ((List.range u).all (fun u => ordU1 xss S T u) = true)) (fun i _ => N - (intOf i).toNat)
      case atStart => exact ⟨0, Nat.zero_le _, rfl, rfl, show _ = _ by simp⟩
      case round =>
        obtain ⟨u, hu, rfl, rfl, hall⟩ := hrel
        by_cases hult : u < N
        · have i3 : (u : Int) < (N : Int) := by omega
          have hno := Lib.hid (show ordU1 xss S T u = false → pairOk xss S T = false from fun h => by rw [hdef2.out, rng_no (f := fun u => ordU1 xss S T u) hult h])
          have q1 := k8'.out u hult
          have q2 := k7'.out u hult
          rcases e1 : bb xss T u with _ | _
          · rw [e1] at q1
            have hn := Lib.hid (rng_succ (f := fun u => ordU1 xss S T u) hall.out (by unfold ordU1; rw [hb1h.out, e1]; rfl))
            clear e1
            gi_wp2
            go_roundw
            case rel => exact ⟨u + 1, by omega, by go_num, by first | rfl | trivial, hn⟩
            case measure => simp [intOf]; omega
          · rw [e1] at q1
            rcases e2 : bb xss S u with _ | _
            · rw [e2] at q2
              have hfin := Lib.hid (hst2.out (hno.out (by unfold ordU1; rw [hb1h.out, e1, e2]; rfl)))
              clear e1 e2
              gi_wp2
              exact ⟨hfin.out.1, ⟨rfl, hfin.out.2.1⟩, hfin.out.2.2⟩
            · rw [e2] at q2
              have hn := Lib.hid (rng_succ (f := fun u => ordU1 xss S T u) hall.out (by unfold ordU1; rw [hb1h.out, e1, e2]; rfl))
              clear e1 e2
              gi_wp2
              go_roundw
              case rel => exact ⟨u + 1, by omega, by go_num, by first | rfl | trivial, hn⟩
              case measure => simp [intOf]; omega
        · obtain rfl : u = N := by omega
          have hok := Lib.hid (hyes.out (by rw [hdef2.out, hall.out]))
          gi_wp2
          exact ⟨kk.out.from _, kb.out.2.2.2, kb.out.2.2.1, hok.out⟩
  case done =>
    rintro D ys W hD rfl ⟨hb1, hp1⟩ hK
    have hfin := Lib.hid (show ordOk (N : Int) xss = true by rw [hpairs.out, List.all_eq_true]; exact hp1)
    have hbV : Below V.heap.size V W := hWV.trans (hb1.mono (by omega))
    have c3W := (hbV.cell (block_lt c3)).trans c3
    have f3W := (hbV.frozen (block_lt c3)).trans f3
    have hbw : Below w.heap.size w W := W3.trans (hbV.mono (by omega))
    gi_wp2
    have hK' := (KeepsOthers.setCell W ⟨w.heap.size + 1 + 1, 0, none⟩ (.bool true)).same D _ hK rfl
    refine ⟨by simp, .inl ⟨_, _, rfl, run_takeDeferred hK', ?_⟩⟩
    have hc5 := cell_kept (World.cell?_setCell_same' W ⟨w.heap.size + 1 + 1, 0, none⟩ (.bool true) (by rw [c3W]; rfl)) (grownBy_putObj' _ D (.deferred none)) (fun r e => by cases e; exact ⟨_, hK', rfl⟩)
    refine ⟨.bool true, ?_, ret_bool hfin.out.symm, (hbw.setCell (p := ⟨w.heap.size + 1 + 1, 0, none⟩) (by simp; omega) _).trans (belowK_b (w := w) (Nat.le_refl _) _ D _ _ (by omega) hK' rfl rfl)⟩
    simp [results, Try.f41, go_sem, hc5]
  case stop =>
    rintro D c pre W hD hpre ⟨⟨rfl, y, hy1, hy2⟩, hcell, hbw⟩ hK
    have hfin := Lib.hid (show ordOk (N : Int) xss = false by rw [hpairs.out, Bool.eq_false_iff]; intro h; rw [List.all_eq_true] at h; have := h y (by simp); rw [hy2] at this; cases this)
    gi_wp2
    refine ⟨by simp, .inl ⟨_, _, rfl, run_takeDeferred hK, ?_⟩⟩
    have hc5 := cell_kept (show W.cell? ⟨w.heap.size + 1 + 1, 0, none⟩ = some (.bool false) from hcell.cell 0) (grownBy_putObj' _ D (.deferred none)) (fun r e => by cases e; exact ⟨_, hK, rfl⟩)
    refine ⟨.bool false, ?_, ret_bool hfin.out.symm, hbw.trans (belowK_b (w := w) (Nat.le_refl _) _ D _ _ (by omega) hK rfl rfl)⟩
    simp [results, Try.f41, go_sem, hc5]
end Go.Proofs.Ytkebfnmepbblnaa
