/- Maps that are valid: the project's and the specification's answer. Conditions: none. -/
import Derived.Test.YtgaadcinhaphpaaDoorMapsE
import Derived.Test.YtgaadcinhaphpaaDoorOk
import Derived.Test.YtgaadcinhaphpaaDoorOkS
import Derived.Test.YtgaadcinhaphpaaDoorStep
namespace Go.Proofs.YtgaadcinhaphpaaDoor
open Go.RowKit Go.Deep
set_option linter.unusedVariables false

theorem any_take_succ {p : Int → Bool} (xs : List Int) (k : Nat) (h : k < xs.length) (h0 : (xs.take k).any p = false) (h1 : p (xs.getD k 0) = false) : (xs.take (k + 1)).any p = false := by
  rw [List.take_succ_eq_append_getElem h, List.any_append, h0]
  simp only [List.getD, List.getElem?_eq_getElem h, Option.getD_some] at h1
  simp [h1]
theorem any_yes {p : Int → Bool} (xs : List Int) (k : Nat) (h : k < xs.length) (h1 : p (xs.getD k 0) = true) : xs.any p = true := by
  rw [List.any_eq_true]
  exact ⟨_, getD_mem h, h1⟩
theorem any_all (xs : List Int) (lo hi : Int) : (xs.any fun x => !inB x lo hi) = !(xs.all fun x => inB x lo hi) := by
  rw [List.any_eq_not_all_not]; simp

set_option maxHeartbeats 2000000 in
theorem indexF_any (F : Nat) (caps : Array Value) (p : Int → Bool) (v : Value) (xs : List Int) (w : World) (hv : Ints w v xs) (hcf : ∀ args w, (callFunc F args).run Tryd.prog w = .ok (.enter F args) w)
    (hF0 : ∀ x, Calls Tryd.prog F (#[.int .i64 x] ++ caps) w fun e w' => e = .returned (.bool (p x)) ∧ w = w') :
    Calls Tryd.prog 105 #[v, .func (.func F) #[] caps] w fun e w' => ∃ r : Int, e = .returned (.int .i64 r) ∧ decide (0 ≤ r) = xs.any p ∧ w = w' := by
  obtain ⟨hm, a, cap, rfl⟩ := hv.len
  unfold maxLen at hm
  have hF := Lib.hid hF0
  clear hF0
  go_enter Tryd.func105, Tryd.ntmps105
  go_wp2
  go_loop [8] (fun i => ∃ k : Nat, k ≤ xs.length ∧ i = .int .i64 k ∧ Hid ((xs.take k).any p = false)) (fun i => xs.length - (intOf i).toNat)
  case atStart => exact ⟨0, Nat.zero_le _, rfl, show _ = _ by simp⟩
  case round =>
    obtain ⟨k, hk, rfl, hn⟩ := hrel
    by_cases hlt : k < xs.length
    · obtain ⟨b, off, cap', hvv, _, hc⟩ := hv.at (by omega)
      simp only [Value.slice.injEq] at hvv
      obtain ⟨rfl, _, rfl⟩ := hvv
      have hcell := hc k hlt
      clear hc
      have ha := Lib.hid (any_take_succ (p := p) xs k hlt hn.out)
      have hy := Lib.hid (any_yes (p := p) xs k hlt)
      generalize xs.getD k 0 = x at hcell ha hy
      have hcall := hF.out x
      rcases hp : p x with _ | _
      · rw [hp] at hcall
        have hn2 := Lib.hid (ha.out hp)
        clear hp
        go_wp2_with fail
        refine hcall.mono ?_
        rintro e w' ⟨rfl, rfl⟩
        go_wp2
        go_round
        case rel => exact ⟨k + 1, by omega, by go_num, hn2⟩
        case measure => simp [intOf]; omega
      · rw [hp] at hcall
        have hn2 := Lib.hid (hy.out hp)
        clear hp
        go_wp2_with fail
        refine hcall.mono ?_
        rintro e w' ⟨rfl, rfl⟩
        go_wp2
        go_ret
        exact ⟨k, rfl, by rw [hn2.out]; simp, rfl⟩
    · obtain rfl : k = xs.length := by omega
      have hn2 := Lib.hid (show xs.any p = false by have := hn.out; rw [List.take_length] at this; exact this)
      go_wp2
      go_ret
      exact ⟨-1, rfl, by rw [hn2.out]; rfl, rfl⟩

set_option maxHeartbeats 2000000 in
theorem contF_any (F : Nat) (caps : Array Value) (p : Int → Bool) (v : Value) (xs : List Int) (w : World) (hv : Ints w v xs) (hcf : ∀ args w, (callFunc F args).run Tryd.prog w = .ok (.enter F args) w)
    (hF0 : ∀ x, Calls Tryd.prog F (#[.int .i64 x] ++ caps) w fun e w' => e = .returned (.bool (p x)) ∧ w = w') :
    Calls Tryd.prog 84 #[v, .func (.func F) #[] caps] w fun e w' => e = .returned (.bool (xs.any p)) ∧ w = w' := by
  have hI := indexF_any F caps p v xs w hv hcf hF0
  obtain ⟨hm, a, cap, rfl⟩ := hv.len
  go_enter Tryd.func84, Tryd.ntmps84
  go_wp2_with fail
  refine hI.mono ?_
  rintro e w' ⟨r, rfl, hr, rfl⟩
  have hr' := Lib.hid hr
  clear hr
  go_wp2
  go_ret
  exact ⟨ret_bool hr'.out, rfl⟩

theorem cf_aw : ∀ args w, (callFunc 83 args).run Tryd.prog w = .ok (.enter 83 args) w := fun _ _ => by go_simp
theorem aw_one (x lo hi : Int) (b1 b2 : Nat) (w : World) (h1 : w.cell? ⟨b1, 0, none⟩ = some (.int .i64 lo)) (h2 : w.cell? ⟨b2, 0, none⟩ = some (.int .i64 hi)) :
    Calls Tryd.prog 83 #[.int .i64 x, .pointer (some ⟨b1, 0, none⟩), .pointer (some ⟨b2, 0, none⟩)] w fun e w' => e = .returned (.bool (!inB x lo hi)) ∧ w = w' := by
  have hc := isIn_any x lo hi w
  generalize inB x lo hi = ok at hc ⊢
  go_enter Tryd.func83, Tryd.ntmps83
  go_wp2_with fail
  refine hc.mono ?_
  rintro e w' ⟨rfl, rfl⟩
  go_wp2
  go_ret
  exact ⟨rfl, rfl⟩

/-- so many numbers, all within the bounds -/
def within (xs : List Int) (n lo hi : Int) : Bool := decide ((xs.length : Int) = n) && xs.all (fun x => inB x lo hi)
set_option maxHeartbeats 2000000 in
theorem areWithin_any (v : Value) (xs : List Int) (n lo hi : Int) (w : World) (hv : Ints w v xs) :
    Calls Tryd.prog 68 #[v, .int .i64 n, .int .i64 lo, .int .i64 hi] w fun e w' => e = .returned (.bool (within xs n lo hi)) ∧ Below w.heap.size w w' := by
  have W2 := below2 w (.cells #[.int .i64 lo] 2) (.cells #[.int .i64 hi] 2)
  have hB1 := (Blk.new w #[.int .i64 lo] 2).alloc (.cells #[.int .i64 hi] 2)
  have hB2 := Blk.new (w.alloc (.cells #[.int .i64 lo] 2)) #[.int .i64 hi] 2
  simp only [World.size_alloc] at hB2
  have hcont := contF_any 83 #[.pointer (some ⟨w.heap.size, 0, none⟩), .pointer (some ⟨w.heap.size + 1, 0, none⟩)] (fun x => !inB x lo hi) v xs _ (hv.keep W2) cf_aw (fun x => aw_one x lo hi w.heap.size (w.heap.size + 1) _ (hB1.cell 0) (hB2.cell 0))
  rw [any_all] at hcont
  obtain ⟨hm, a, cap, rfl⟩ := hv.len
  unfold maxLen at hm
  by_cases h1 : (xs.length : Int) = n
  · have hr := Lib.hid (show within xs n lo hi = (xs.all fun x => inB x lo hi) by simp [within, h1])
    generalize (xs.all fun x => inB x lo hi) = ok at hcont hr
    have h1' : ((xs.length : Int) == n) = true := by simpa using h1
    clear h1
    go_enter Tryd.func68, Tryd.ntmps68
    go_wp2_with fail
    refine hcont.mono ?_
    rintro e w' ⟨rfl, rfl⟩
    go_wp2
    go_ret
    exact ⟨by rw [hr.out]; simp, W2⟩
  · have hr := Lib.hid (show within xs n lo hi = false by simp [within, h1])
    have h1' : ((xs.length : Int) == n) = false := by simpa using h1
    clear h1
    go_enter Tryd.func68, Tryd.ntmps68
    go_wp2
    go_ret
    exact ⟨by rw [hr.out]; rfl, W2⟩

/-- valid maps -/
def mpOk (n t : Int) (p : Mp) : Bool := inB p.1 1 t && within p.2 n 0 (n - 1)
def wsum (l : List Mp) : Int := (l.map Prod.fst).sum
def msOk (m : Ms) : Bool := inB m.n 1 6 && (inB m.t 1 60 && (inB m.l.length 1 60 && (m.l.all (mpOk m.n m.t) && decide (wsum m.l = m.t))))
theorem wsum_take_succ (l : List Mp) (k : Nat) (h : k < l.length) : wsum (l.take (k + 1)) = wsum (l.take k) + (l.getD k mp0).1 := by
  unfold wsum
  rw [List.map_take, List.map_take, sum_take_succ _ k (by simpa using h)]
  simp [List.getD, h]
theorem msOk_no1 {m : Ms} (h : inB m.n 1 6 = false) : msOk m = false := by simp [msOk, h]
theorem msOk_no2 {m : Ms} (h : inB m.t 1 60 = false) : msOk m = false := by simp [msOk, h]
theorem msOk_no3 {m : Ms} (h : inB m.l.length 1 60 = false) : msOk m = false := by simp [msOk, h]
theorem msOk_rest {m : Ms} (h1 : inB m.n 1 6 = true) (h2 : inB m.t 1 60 = true) (h3 : inB m.l.length 1 60 = true) : msOk m = (m.l.all (mpOk m.n m.t) && decide (wsum m.l = m.t)) := by simp [msOk, h1, h2, h3]
theorem msOk_bad {m : Ms} {k : Nat} (hk : k < m.l.length) (h : mpOk m.n m.t (m.l.getD k mp0) = false) : msOk m = false := by
  have := all_false_of (mpOk m.n m.t) m.l mp0 k hk h
  unfold msOk; rw [this]; simp

set_option maxHeartbeats 4000000 in
theorem ValidMaps_impl (cv : Value) (c : Ms) (w : World) (hv : MsR w cv c) :
    Calls Tryd.prog 43 #[cv] w fun e w' => e = .returned (.bool (msOk c)) ∧ Below w.heap.size w w' := by
  obtain ⟨v, rfl, hr⟩ := hv
  obtain ⟨n, t, l⟩ := c
  simp only at hr ⊢
  obtain ⟨hm, a, cap, rfl⟩ := hr.len
  unfold maxLen at hm
  have B0 := below1 w (.cells #[.int .i64 n, .int .i64 t, .slice a l.length cap] 44)
  have hB := Blk.new w #[.int .i64 n, .int .i64 t, .slice a l.length cap] 44
  have hr' := hr.keep B0
  have hlt0 : w.heap.size < (w.alloc (.cells #[.int .i64 n, .int .i64 t, .slice a l.length cap] 44)).heap.size := by simp
  have c1 := isIn_any n 1 6
  have c2 := isIn_any t 1 60
  have c3 := isIn_any (l.length : Int) 1 60
  by_cases h1 : inB n 1 6 = true
  · by_cases h2 : inB t 1 60 = true
    · by_cases h3 : inB (l.length : Int) 1 60 = true
      · have hrest := Lib.hid (msOk_rest (m := ⟨n, t, l⟩) h1 h2 h3)
        have hbad := Lib.hid (show ∀ k, k < l.length → mpOk n t (l.getD k mp0) = false → msOk ⟨n, t, l⟩ = false from fun k hk h => msOk_bad (m := ⟨n, t, l⟩) (k := k) hk h)
        obtain ⟨b1, b2⟩ := inB_iff.1 h1
        obtain ⟨b3, b4⟩ := inB_iff.1 h2
        obtain ⟨b5, b6⟩ := inB_iff.1 h3
        rw [h1] at c1
        rw [h2] at c2
        rw [h3] at c3
        have c1' := Lib.hid c1
        have c2' := Lib.hid c2
        have c3' := Lib.hid c3
        clear h1 h2 h3 c1 c2 c3 hr
        go_enter Tryd.func43, Tryd.ntmps43
        go_wp2_with fail
        refine (c1'.out _).mono ?_
        rintro e w' ⟨rfl, rfl⟩
        go_wp2_with fail
        refine (c2'.out _).mono ?_
        rintro e w' ⟨rfl, rfl⟩
        go_wp2_with fail
        refine (c3'.out _).mono ?_
        rintro e w' ⟨rfl, rfl⟩
        go_wp2
        generalize hW : w.alloc _ = W at *
        clear hW
        have B0' := Lib.hid B0
        clear B0
        go_loopw [3, 26] (fun s i wr => ∃ (k : Nat) (S : Int), k ≤ l.length ∧ i = .int .i64 k ∧ s = .int .i64 S ∧ 0 ≤ S ∧ S ≤ 60 * (k : Int) ∧ Below W.heap.size W wr ∧ Hid (S = wsum (l.take k)) ∧ Hid ((l.take k).all (mpOk n t) = true)) (fun _ i _ => l.length - (intOf i).toNat)
        case atStart => exact ⟨0, 0, Nat.zero_le _, rfl, rfl, by omega, by omega, Below.refl _ _, show _ = _ by simp [wsum], show _ = _ by simp⟩
        case round =>
          obtain ⟨wo, rfl⟩ : ∃ wo : World, wo = wr := ⟨_, rfl⟩
          obtain ⟨k, S, hk, rfl, rfl, hS0, hS1, hbel, hS, ht⟩ := hrel
          have hbel' := Lib.hid hbel
          have hB1 := hB.keep hbel hlt0
          obtain ⟨q0, q1, q2⟩ := hB1.three
          by_cases hlt : k < l.length
          · obtain ⟨b, off, cap', rv, hvv, hb, hc⟩ := (hr'.keep hbel).at (by omega)
            simp only [Value.slice.injEq] at hvv
            obtain ⟨rfl, -, rfl⟩ := hvv
            obtain ⟨hc0, hc1, hrow⟩ := hc k hlt
            clear hc hbel
            have hts := Lib.hid (all_take_succ (mpOk n t) l mp0 k hlt)
            have hws := Lib.hid (wsum_take_succ l k hlt)
            have hbd := Lib.hid (hbad.out k hlt)
            generalize l.getD k mp0 = mp at hrow hts hc0 hws hbd
            obtain ⟨x, row⟩ := mp
            simp only at hrow hc0
            generalize rv k = rk at hrow hc1
            obtain ⟨ra, rc, rfl⟩ := hrow.shape
            have hB2 := hB1.alloc (.cells #[.int .i64 x, .slice ra row.length rc] 82)
            have Bx := below1 wo (.cells #[.int .i64 x, .slice ra row.length rc] 82)
            have Bx' := Lib.hid Bx
            have hXb := Blk.new wo #[.int .i64 x, .slice ra row.length rc] 82
            have hrow' := hrow.keep Bx
            have ci := isIn_any x 1 t
            clear hB1 Bx hrow q0 q1
            rcases hx : inB x 1 t with _ | _
            · rw [hx] at ci
              have hfin := Lib.hid (hbd.out (by simp [mpOk, hx]))
              clear hx
              obtain ⟨q0, q1, _⟩ := hB2.three
              go_wp2_with fail
              refine (ci _).mono ?_
              rintro e w' ⟨rfl, rfl⟩
              go_wp2
              go_ret
              exact ⟨ret_bool hfin.out.symm, B0'.out.trans ((hbel'.out.trans (Bx'.out.mono hbel'.out.size)).mono B0'.out.size)⟩
            · rw [hx] at ci
              obtain ⟨x0, x1⟩ := inB_iff.1 hx
              have ca := areWithin_any (.slice ra row.length rc) row n 0 (n - 1) _ hrow'
              have hsn := Lib.hid (show S + x = wsum (l.take (k + 1)) by rw [hws.out, hS.out])
              rcases hw2 : within row n 0 (n - 1) with _ | _
              · rw [hw2] at ca
                have hfin := Lib.hid (hbd.out (by simp [mpOk, hw2]))
                clear hx hw2
                obtain ⟨q0, q1, _⟩ := hB2.three
                go_wp2_with fail
                refine (ci _).mono ?_
                rintro e w' ⟨rfl, rfl⟩
                go_wp2_with fail
                refine ca.mono ?_
                rintro e w2 ⟨rfl, bb⟩
                have bb' := Lib.hid bb
                clear bb
                go_wp2
                go_ret
                exact ⟨ret_bool hfin.out.symm, B0'.out.trans ((hbel'.out.trans ((below_wt Bx'.out bb'.out).mono hbel'.out.size)).mono B0'.out.size)⟩
              · rw [hw2] at ca
                have hn := Lib.hid (show (l.take (k + 1)).all (mpOk n t) = true by rw [hts.out, ht.out]; simp [mpOk, hx, hw2])
                clear hx hw2
                obtain ⟨q0, q1, _⟩ := hB2.three
                go_wp2_with fail
                refine (ci _).mono ?_
                rintro e w' ⟨rfl, rfl⟩
                go_wp2_with fail
                refine ca.mono ?_
                rintro e w2 ⟨rfl, bb⟩
                obtain ⟨r0, r1, r2⟩ := (hB2.keep bb hB2.lt).three
                obtain ⟨y0, y1⟩ := (hXb.keep bb hXb.lt).two
                have bb' := Lib.hid bb
                clear bb q0 q1 q2
                go_wp2
                go_roundw
                case rel => exact ⟨k + 1, S + x, by omega, by go_num, rfl, by omega, by omega, hbel'.out.trans ((below_wt Bx'.out bb'.out).mono hbel'.out.size), hsn, hn⟩
                case measure => simp [intOf]; omega
          · obtain rfl : k = l.length := by omega
            have hfin := Lib.hid (show msOk ⟨n, t, l⟩ = decide (S = t) by rw [hrest.out]; have := ht.out; have hs2 := hS.out; rw [List.take_length] at this hs2; show (l.all (mpOk n t) && decide (wsum l = t)) = _; rw [this, ← hs2]; rfl)
            by_cases hst : S = t
            · have h5 := Lib.hid (hfin.out.trans (decide_eq_true hst))
              have h6 : (S == t) = true := by simpa using hst
              clear hst
              go_wp2
              go_ret
              exact ⟨by rw [h5.out]; rfl, B0'.out.trans (hbel.mono B0'.out.size)⟩
            · have h5 := Lib.hid (hfin.out.trans (decide_eq_false hst))
              have h6 : (S == t) = false := by simpa using hst
              clear hst
              go_wp2
              go_ret
              exact ⟨by rw [h5.out]; rfl, B0'.out.trans (hbel.mono B0'.out.size)⟩
      · have h3' : inB (l.length : Int) 1 60 = false := by simpa using h3
        have hres := Lib.hid (msOk_no3 (m := ⟨n, t, l⟩) h3')
        rw [h1] at c1
        rw [h2] at c2
        rw [h3'] at c3
        have c1' := Lib.hid c1
        have c2' := Lib.hid c2
        have c3' := Lib.hid c3
        clear h1 h2 h3 h3' c1 c2 c3
        go_enter Tryd.func43, Tryd.ntmps43
        go_wp2_with fail
        refine (c1'.out _).mono ?_
        rintro e w' ⟨rfl, rfl⟩
        go_wp2_with fail
        refine (c2'.out _).mono ?_
        rintro e w' ⟨rfl, rfl⟩
        go_wp2_with fail
        refine (c3'.out _).mono ?_
        rintro e w' ⟨rfl, rfl⟩
        go_wp2
        go_ret
        exact ⟨ret_bool hres.out.symm, B0⟩
    · have h2' : inB t 1 60 = false := by simpa using h2
      have hres := Lib.hid (msOk_no2 (m := ⟨n, t, l⟩) h2')
      rw [h1] at c1
      rw [h2'] at c2
      have c1' := Lib.hid c1
      have c2' := Lib.hid c2
      clear h1 h2 h2' c1 c2 c3
      go_enter Tryd.func43, Tryd.ntmps43
      go_wp2_with fail
      refine (c1'.out _).mono ?_
      rintro e w' ⟨rfl, rfl⟩
      go_wp2_with fail
      refine (c2'.out _).mono ?_
      rintro e w' ⟨rfl, rfl⟩
      go_wp2
      go_ret
      exact ⟨ret_bool hres.out.symm, B0⟩
  · have h1' : inB n 1 6 = false := by simpa using h1
    have hres := Lib.hid (msOk_no1 (m := ⟨n, t, l⟩) h1')
    rw [h1'] at c1
    have c1' := Lib.hid c1
    clear h1 h1' c1 c2 c3
    go_enter Tryd.func43, Tryd.ntmps43
    go_wp2_with fail
    refine (c1'.out _).mono ?_
    rintro e w' ⟨rfl, rfl⟩
    go_wp2
    go_ret
    exact ⟨ret_bool hres.out.symm, B0⟩
end Go.Proofs.YtgaadcinhaphpaaDoor
