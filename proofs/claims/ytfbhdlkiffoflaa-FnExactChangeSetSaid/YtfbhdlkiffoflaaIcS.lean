/- Colourings in the specification: lists of numbers, the code of what is asked, and whether numbers are a colouring. Conditions: told in each. -/
import Derived.Test.YtfbhdlkiffoflaaRdc
namespace Go.Proofs.Ytfbhdlkiffoflaa
open Go.RowKit Go.Deep
set_option linter.unusedVariables false

set_option maxHeartbeats 2000000 in
theorem l08List_any (bp : Nat) (g : Gr) (v : Value) (xs : List Int) (lo hi : Int) (w : World) (hg : GrP w bp g) (hv : Ints w v xs) :
    Calls Try.prog 47 #[.pointer (some ⟨bp, 0, none⟩), v, .int .i64 lo, .int .i64 hi] w fun e w' => e = .returned (.bool (within xs g.n lo hi)) ∧ ∃ m, w' = w.drewN m := by
  obtain ⟨gv, g0, -, -⟩ := hg
  obtain ⟨hm, a, cap, rfl⟩ := hv.len
  unfold maxLen at hm
  have hR := Lib.hid (show within xs g.n lo hi = (xs.all (fun x => inB x lo hi) && decide ((xs.length : Int) = g.n)) by unfold within; rw [Bool.and_comm])
  go_enter Try.func47, Try.ntmps47
  go_wp2
  go_loopw [9] (fun i wr => ∃ k : Nat, k ≤ xs.length ∧ i = .int .i64 k ∧ Hid (∃ m, wr = w.drewN m) ∧ Hid ((xs.take k).all (fun x => inB x lo hi) = true)) (fun i _ => xs.length - (intOf i).toNat)
  case atStart => exact ⟨0, Nat.zero_le _, rfl, ⟨0, rfl⟩, show _ = _ by simp⟩
  case round =>
    obtain ⟨k, hk, rfl, hw, ht⟩ := hrel
    have q0 : wr.cell? ⟨bp, 0, none⟩ = some (.int .i64 g.n) := by obtain ⟨m, rfl⟩ := hw.out; exact g0
    clear g0
    by_cases hlt : k < xs.length
    · obtain ⟨b, off, cap', hvv, _, hc⟩ := hv.at (by omega)
      simp only [Value.slice.injEq] at hvv
      obtain ⟨rfl, -, rfl⟩ := hvv
      have hc1 : wr.cell? ⟨b, off + k, none⟩ = some (.int .i64 (xs.getD k 0)) := by obtain ⟨m, rfl⟩ := hw.out; exact hc k hlt
      have hts := Lib.hid (all_take_succ (fun x => inB x lo hi) xs 0 k hlt)
      have hfs := Lib.hid (all_false_of (fun x => inB x lo hi) xs 0 k hlt)
      clear hc
      generalize xs.getD k 0 = x at hc1 hts hfs
      have hcall := l00In_any x lo hi wr
      rcases hin : inB x lo hi with _ | _
      · rw [hin] at hcall
        have hfin := Lib.hid (show within xs g.n lo hi = false by rw [hR.out, hfs.out hin]; rfl)
        clear hin
        go_wp2_with fail
        (with_reducible refine hcall.mono ?_)
        rintro e w' ⟨rfl, rfl⟩
        go_wp2
        go_ret
        exact ⟨ret_bool hfin.out.symm, hw.out⟩
      · rw [hin] at hcall
        have hgo := Lib.hid (show (xs.take (k + 1)).all (fun x => inB x lo hi) = true by rw [hts.out, ht.out, hin]; rfl)
        clear hin
        go_wp2_with fail
        (with_reducible refine hcall.mono ?_)
        rintro e w' ⟨rfl, rfl⟩
        go_wp2
        go_roundw
        case rel => exact ⟨k + 1, by omega, by go_num, hw.out, hgo⟩
        case measure => simp [intOf]; omega
    · obtain rfl : k = xs.length := by omega
      have hfin := Lib.hid (show within xs g.n lo hi = decide ((xs.length : Int) = g.n) by
        have := ht.out
        rw [List.take_length] at this
        rw [hR.out, this]; rfl)
      by_cases he : (xs.length : Int) = g.n
      · have he' : ((xs.length : Int) == g.n) = true := by simpa using he
        have hf2 := Lib.hid (hfin.out.trans (decide_eq_true he))
        clear he
        go_wp2
        go_ret
        exact ⟨ret_bool hf2.out.symm, hw.out⟩
      · have he' : ((xs.length : Int) == g.n) = false := by simpa using he
        have hf2 := Lib.hid (hfin.out.trans (decide_eq_false he))
        clear he
        go_wp2
        go_ret
        exact ⟨ret_bool hf2.out.symm, hw.out⟩

def askCode (g : Gr) (q : Int) (right : Bool) : Int := if grOk g then if inB q 1 4 && right then 0 else 2 else 1
set_option maxHeartbeats 2000000 in
theorem l08Asked_any (bp : Nat) (g : Gr) (q : Int) (right : Bool) (w : World) (hg : GrP w bp g) :
    Calls Try.prog 46 #[.pointer (some ⟨bp, 0, none⟩), .int .i64 q, .bool right] w fun e w' => e = .returned (.int .i64 (askCode g q right)) ∧ ∃ m, w' = w.drewN m := by
  have hO := l08Ok_any bp g w hg
  have hI := Lib.hid (fun W => l00In_any q 1 4 W)
  rcases hok : grOk g with _ | _
  · have hr := Lib.hid (show askCode g q right = 1 by simp [askCode, hok])
    rw [hok] at hO
    go_enter Try.func46, Try.ntmps46
    go_wp2_with fail
    (with_reducible refine hO.mono ?_)
    rintro e w' ⟨rfl, m, rfl⟩
    go_wp2
    go_ret
    exact ⟨ret_int hr.out.symm, m, rfl⟩
  · rw [hok] at hO
    rcases hq : inB q 1 4 with _ | _
    · have hr := Lib.hid (show askCode g q right = 2 by simp [askCode, hok, hq])
      rw [hq] at hI
      clear hok hq
      go_enter Try.func46, Try.ntmps46
      go_wp2_with fail
      (with_reducible refine hO.mono ?_)
      rintro e w' ⟨rfl, m, rfl⟩
      go_wp2_with fail
      (with_reducible refine (hI.out _).mono ?_)
      rintro e w' ⟨rfl, rfl⟩
      go_wp2
      go_ret
      exact ⟨ret_int hr.out.symm, m, rfl⟩
    · rw [hq] at hI
      rcases right with _ | _
      · have hr := Lib.hid (show askCode g q false = 2 by simp [askCode, hok])
        clear hok hq
        go_enter Try.func46, Try.ntmps46
        go_wp2_with fail
        (with_reducible refine hO.mono ?_)
        rintro e w' ⟨rfl, m, rfl⟩
        go_wp2_with fail
        (with_reducible refine (hI.out _).mono ?_)
        rintro e w' ⟨rfl, rfl⟩
        go_wp2
        go_ret
        exact ⟨ret_int hr.out.symm, m, rfl⟩
      · have hr := Lib.hid (show askCode g q true = 0 by simp [askCode, hok, hq])
        clear hok hq
        go_enter Try.func46, Try.ntmps46
        go_wp2_with fail
        (with_reducible refine hO.mono ?_)
        rintro e w' ⟨rfl, m, rfl⟩
        go_wp2_with fail
        (with_reducible refine (hI.out _).mono ?_)
        rintro e w' ⟨rfl, rfl⟩
        go_wp2
        go_ret
        exact ⟨ret_int hr.out.symm, m, rfl⟩

def sameI (x y : Int) : Bool := decide (x = y)
def colF (xs : List Int) (j : Nat) : Int := xs.getD j 0
/-- the first k edges' ends have different colours -/
theorem proper_take_succ (f : Nat → Int) (ps : List (Int × Int)) (k : Nat) (h : k < ps.length) :
    proper sameI f (ps.take (k + 1)) = (proper sameI f (ps.take k) && !sameI (f (ps.getD k (0, 0)).1.toNat) (f (ps.getD k (0, 0)).2.toNat)) := by
  unfold proper
  rw [List.take_succ_eq_append_getElem h, List.any_append]
  simp [List.getD, h]
theorem proper_no (f : Nat → Int) (ps : List (Int × Int)) (k : Nat) (h : k < ps.length) (he : f (ps.getD k (0, 0)).1.toNat = f (ps.getD k (0, 0)).2.toNat) : proper sameI f ps = false := by
  unfold proper
  rw [Bool.not_eq_false', List.any_eq_true]
  exact ⟨ps.getD k (0, 0), getD_mem h, decide_eq_true he⟩

set_option maxRecDepth 100000 in
set_option maxHeartbeats 4000000 in
theorem l08Proper_any (bp : Nat) (g : Gr) (v : Value) (xs : List Int) (w : World) (hg : GrP w bp g) (hv : Ints w v xs) (hok : grOk g = true) (hlen : (xs.length : Int) = g.n) :
    Calls Try.prog 48 #[.pointer (some ⟨bp, 0, none⟩), v] w fun e w' => e = .returned (.bool (proper sameI (colF xs) (edgesOf g.e))) ∧ ∃ m, w' = w.drewN m := by
  have hn := grOk_nodes hok
  have hedge := Lib.hid (fun k (hk : k < g.e.length) => edgeB_facts (grOk_edge hok hk))
  obtain ⟨gv, g0, g1, hr⟩ := hg
  obtain ⟨n, xss⟩ := g
  simp only at g0 g1 hr hn hedge hlen ⊢
  obtain ⟨hm, ga, gc, rfl⟩ := hr.len
  unfold maxLen at hm
  obtain ⟨b, off, cap, rfl, hb, hc⟩ := hv.at (by omega)
  have hel := Lib.hid (edgesOf_length xss)
  go_enter Try.func48, Try.ntmps48
  go_wp2
  go_loopw [5] (fun i wr => ∃ k : Nat, k ≤ xss.length ∧ i = .int .i64 k ∧ Hid (∃ m, wr = w.drewN m) ∧ Hid (proper sameI (colF xs) ((edgesOf xss).take k) = true)) (fun i _ => xss.length - (intOf i).toNat)
  case atStart => exact ⟨0, Nat.zero_le _, rfl, ⟨0, rfl⟩, show _ = _ by simp [proper]⟩
  case round =>
    obtain ⟨k, hk, rfl, hw, ht⟩ := hrel
    have q1 : wr.cell? ⟨bp, 1, none⟩ = some (.slice ga xss.length gc) := by obtain ⟨m, rfl⟩ := hw.out; exact g1
    clear g0 g1
    by_cases hlt : k < xss.length
    · obtain ⟨eb, eo, ec, rv, hvv, hbl, hec⟩ := hr.at (by omega)
      simp only [Value.slice.injEq] at hvv
      obtain ⟨rfl, -, rfl⟩ := hvv
      obtain ⟨hcell0, hrow⟩ := hec k hlt
      obtain ⟨hl2, p0, p1, p2⟩ := hedge.out k hlt
      obtain ⟨rb, ro, rc, hrv, hrb, hrc⟩ := hrow.at (by omega)
      have hcell : wr.cell? ⟨eb, eo + k, none⟩ = some (.slice (some ⟨rb, ro, none⟩) 2 rc) := by obtain ⟨m, rfl⟩ := hw.out; rw [← hl2, ← hrv]; exact hcell0
      have x0 : wr.cell? ⟨rb, ro, none⟩ = some (.int .i64 ((xss.getD k []).getD 0 0)) := by obtain ⟨m, rfl⟩ := hw.out; have := hrc 0 (by omega); rw [Nat.add_zero] at this; exact this
      have x1 : wr.cell? ⟨rb, ro + 1, none⟩ = some (.int .i64 ((xss.getD k []).getD 1 0)) := by obtain ⟨m, rfl⟩ := hw.out; exact hrc 1 (by omega)
      have hstep := Lib.hid (proper_take_succ (colF xs) (edgesOf xss) k (by rw [hel.out]; exact hlt))
      have hno := Lib.hid (proper_no (colF xs) (edgesOf xss) k (by rw [hel.out]; exact hlt))
      rw [edgesOf_getD xss k hlt] at hstep hno
      clear hec hrow hrc hrv hl2 hcell0
      obtain ⟨x, hx⟩ : ∃ x : Nat, (xss.getD k []).getD 0 0 = x := ⟨_, (Int.toNat_of_nonneg p0).symm⟩
      obtain ⟨y, hy⟩ : ∃ y : Nat, (xss.getD k []).getD 1 0 = y := ⟨_, (Int.toNat_of_nonneg (by omega)).symm⟩
      rw [hx] at x0 p0 p1 hstep hno
      rw [hy] at x1 p1 p2 hstep hno
      simp only [Int.toNat_natCast] at hstep hno
      clear hx hy
      have cx : wr.cell? ⟨b, off + x, none⟩ = some (.int .i64 (colF xs x)) := by obtain ⟨m, rfl⟩ := hw.out; exact hc x (by omega)
      have cy : wr.cell? ⟨b, off + y, none⟩ = some (.int .i64 (colF xs y)) := by obtain ⟨m, rfl⟩ := hw.out; exact hc y (by omega)
      have kx : (x : Int) < (xs.length : Int) := by omega
      have ky : (y : Int) < (xs.length : Int) := by omega
      have kxn : x < xs.length := by omega
      have kyn : y < xs.length := by omega
      clear hc
      by_cases he : colF xs x = colF xs y
      · have hfin := Lib.hid (hno.out he)
        rw [← he] at cy
        clear he
        generalize colF xs x = u at cx cy
        go_wp2
        go_quiet (fail)
        go_wp2
        go_ret
        exact ⟨ret_bool hfin.out.symm, drawn_more hw.out _⟩
      · have hgo := Lib.hid (show proper sameI (colF xs) ((edgesOf xss).take (k + 1)) = true by rw [hstep.out, ht.out]; simp [sameI, he])
        generalize colF xs x = u at cx he
        generalize colF xs y = u' at cy he
        have he' : (u == u') = false := by simpa using he
        clear he
        go_wp2
        go_quiet (fail)
        go_wp2
        go_roundw
        case rel => exact ⟨k + 1, by omega, by go_num, drawn_more hw.out _, hgo⟩
        case measure => simp [intOf]; omega
    · obtain rfl : k = xss.length := by omega
      have hfin := Lib.hid (show proper sameI (colF xs) (edgesOf xss) = true by have := ht.out; rw [← hel.out, List.take_length] at this; exact this)
      go_wp2
      go_ret
      exact ⟨ret_bool hfin.out.symm, hw.out⟩
end Go.Proofs.Ytfbhdlkiffoflaa
