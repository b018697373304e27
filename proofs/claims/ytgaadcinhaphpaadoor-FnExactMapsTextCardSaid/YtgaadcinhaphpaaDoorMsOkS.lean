/- Maps that are valid: the specification's answer. Conditions: none. -/
import Derived.Test.YtgaadcinhaphpaaDoorMsOk
namespace Go.Proofs.YtgaadcinhaphpaaDoor
open Go.RowKit Go.Deep
set_option linter.unusedVariables false

set_option maxHeartbeats 2000000 in
theorem l05Map_any (v : Value) (xs : List Int) (n : Int) (w : World) (hv : Ints w v xs) (h1 : 1 ≤ n) (h6 : n ≤ 6) :
    Calls Tryd.prog 66 #[v, .int .i64 n] w fun e w' => e = .returned (.bool (within xs n 0 (n - 1))) ∧ w = w' := by
  obtain ⟨hm, a, cap, rfl⟩ := hv.len
  unfold maxLen at hm
  go_enter Tryd.func66, Tryd.ntmps66
  go_wp2
  go_loop [5] (fun i => ∃ k : Nat, k ≤ xs.length ∧ i = .int .i64 k ∧ Hid ((xs.take k).all (fun x => inB x 0 (n - 1)) = true)) (fun i => xs.length - (intOf i).toNat)
  case atStart => exact ⟨0, Nat.zero_le _, rfl, show _ = _ by simp⟩
  case round =>
    obtain ⟨k, hk, rfl, ht⟩ := hrel
    by_cases hlt : k < xs.length
    · obtain ⟨b, off, cap', hvv, _, hc⟩ := hv.at (by omega)
      simp only [Value.slice.injEq] at hvv
      obtain ⟨rfl, -, rfl⟩ := hvv
      have hcell := hc k hlt
      clear hc
      have hts := Lib.hid (all_take_succ (fun x => inB x 0 (n - 1)) xs 0 k hlt)
      have hfs := Lib.hid (all_false_of (fun x => inB x 0 (n - 1)) xs 0 k hlt)
      generalize xs.getD k 0 = x at hcell hts hfs
      have hcall := l00In_any x 0 (n - 1)
      rcases hx : inB x 0 (n - 1) with _ | _
      · rw [hx] at hcall
        have hfin := Lib.hid (show within xs n 0 (n - 1) = false by unfold within; rw [hfs.out hx]; simp)
        clear hx
        go_wp2_with fail
        refine (hcall _).mono ?_
        rintro e w' ⟨rfl, rfl⟩
        go_wp2
        go_ret
        exact ⟨ret_bool hfin.out.symm, rfl⟩
      · rw [hx] at hcall
        have hn := Lib.hid (show (xs.take (k + 1)).all (fun x => inB x 0 (n - 1)) = true by rw [hts.out, ht.out, hx]; rfl)
        clear hx
        go_wp2_with fail
        refine (hcall _).mono ?_
        rintro e w' ⟨rfl, rfl⟩
        go_wp2
        go_round
        case rel => exact ⟨k + 1, by omega, by go_num, hn⟩
        case measure => simp [intOf]; omega
    · obtain rfl : k = xs.length := by omega
      have hr := Lib.hid (show within xs n 0 (n - 1) = decide ((xs.length : Int) = n) by unfold within; have := ht.out; rw [List.take_length] at this; rw [this]; simp)
      by_cases hq : (xs.length : Int) = n
      · have hq' : ((xs.length : Int) == n) = true := by simpa using hq
        have hfin := Lib.hid (hr.out.trans (decide_eq_true hq))
        clear hq
        go_wp2
        go_ret
        exact ⟨by rw [hfin.out]; rfl, rfl⟩
      · have hq' : ((xs.length : Int) == n) = false := by simpa using hq
        have hfin := Lib.hid (hr.out.trans (decide_eq_false hq))
        clear hq
        go_wp2
        go_ret
        exact ⟨by rw [hfin.out]; rfl, rfl⟩
theorem l05Map_q (v : Value) (xs : List Int) (n : Int) (w : World) (hv : Ints w v xs) (h1 : 1 ≤ n) (h6 : n ≤ 6) (m : Nat) :
    Calls Tryd.prog 66 #[v, .int .i64 n] (w.drewN m) fun e w'' => e = .returned (.bool (within xs n 0 (n - 1))) ∧ ∃ m', w'' = w.drewN m' :=
  (l05Map_any v xs n (w.drewN m) (hv.keep (below_drewN (Below.refl _ _) m)) h1 h6).mono fun e w' h => ⟨h.1, m, h.2.symm⟩

/-- the block b holds the maps c -/
def MsP (w : World) (b : Nat) (c : Ms) : Prop := ∃ v, w.cell? ⟨b, 0, none⟩ = some (.int .i64 c.n) ∧ w.cell? ⟨b, 1, none⟩ = some (.int .i64 c.t) ∧ w.cell? ⟨b, 2, none⟩ = some v ∧ MapsL w v c.l
theorem MsP.keep {w w' : World} {b : Nat} {c : Ms} (h : MsP w b c) (hb : Below w.heap.size w w') : MsP w' b c := by
  obtain ⟨v, h0, h1, h2, hr⟩ := h
  exact ⟨v, by rw [hb.cell (block_lt h0)]; exact h0, by rw [hb.cell (block_lt h1)]; exact h1, by rw [hb.cell (block_lt h2)]; exact h2, hr.keep hb⟩

set_option maxHeartbeats 4000000 in
theorem l05Ok_any (b : Nat) (c : Ms) (w : World) (hv : MsP w b c) :
    Calls Tryd.prog 40 #[.pointer (some ⟨b, 0, none⟩)] w fun e w' => e = .returned (.bool (msOk c)) ∧ ∃ m, w' = w.drewN m := by
  obtain ⟨v, k0, k1, k2, hr⟩ := hv
  obtain ⟨n, t, l⟩ := c
  simp only at k0 k1 k2 hr ⊢
  obtain ⟨hm, a, cap, rfl⟩ := hr.len
  unfold maxLen at hm
  have c1 := l00In_any n 1 6
  have c2 := l00In_any t 1 60
  have c3 := l00In_any (l.length : Int) 1 60
  by_cases h1 : inB n 1 6 = true
  · by_cases h2 : inB t 1 60 = true
    · by_cases h3 : inB (l.length : Int) 1 60 = true
      · have hrest := Lib.hid (msOk_rest (m := ⟨n, t, l⟩) h1 h2 h3)
        have hbad := Lib.hid (show ∀ k, k < l.length → mpOk n t (l.getD k mp0) = false → msOk ⟨n, t, l⟩ = false from fun k hk h => msOk_bad (m := ⟨n, t, l⟩) (k := k) hk h)
        obtain ⟨b1, b2⟩ := inB_iff.1 h1
        obtain ⟨b3, b4⟩ := inB_iff.1 h2
        obtain ⟨b5, b6⟩ := inB_iff.1 h3
        rw [h1] at c1
        rw [h2] at c2
        rw [h3] at c3
        have c1' := Lib.hid c1
        have c2' := Lib.hid c2
        have c3' := Lib.hid c3
        clear h1 h2 h3 c1 c2 c3
        go_enter Tryd.func40, Tryd.ntmps40
        go_wp2_with fail
        refine (c1'.out _).mono ?_
        rintro e w' ⟨rfl, rfl⟩
        go_wp2_with fail
        refine (c2'.out _).mono ?_
        rintro e w' ⟨rfl, rfl⟩
        go_wp2_with fail
        refine (c3'.out _).mono ?_
        rintro e w' ⟨rfl, rfl⟩
        go_wp2
        go_loopw [3, 4] (fun s i wr => ∃ (k : Nat) (S : Int), k ≤ l.length ∧ i = .int .i64 k ∧ s = .int .i64 S ∧ 0 ≤ S ∧ S ≤ 60 * (k : Int) ∧ Hid (∃ m, wr = w.drewN m) ∧ Hid (S = wsum (l.take k)) ∧ Hid ((l.take k).all (mpOk n t) = true)) (fun _ i _ => l.length - (intOf i).toNat)
        case atStart => exact ⟨0, 0, Nat.zero_le _, rfl, rfl, by omega, by omega, ⟨0, rfl⟩, show _ = _ by simp [wsum], show _ = _ by simp⟩
        case round =>
          obtain ⟨wo, rfl⟩ : ∃ wo : World, wo = wr := ⟨_, rfl⟩
          obtain ⟨k, S, hk, rfl, rfl, hS0, hS1, hw, hS, ht⟩ := hrel
          have q0 : wo.cell? ⟨b, 0, none⟩ = some (.int .i64 n) := by obtain ⟨m, rfl⟩ := hw.out; exact k0
          have q1 : wo.cell? ⟨b, 1, none⟩ = some (.int .i64 t) := by obtain ⟨m, rfl⟩ := hw.out; exact k1
          have q2 : wo.cell? ⟨b, 2, none⟩ = some (.slice a l.length cap) := by obtain ⟨m, rfl⟩ := hw.out; exact k2
          have hr' : MapsL wo (.slice a l.length cap) l := by obtain ⟨m, rfl⟩ := hw.out; exact hr.keep (below_drewN (Below.refl _ _) m)
          clear k0 k1 k2 hr
          by_cases hlt : k < l.length
          · obtain ⟨bb, off, cap', rv, hvv, hb, hc⟩ := hr'.at (by omega)
            simp only [Value.slice.injEq] at hvv
            obtain ⟨rfl, -, rfl⟩ := hvv
            obtain ⟨hc0, hc1, hrow⟩ := hc k hlt
            clear hc hr'
            have hts := Lib.hid (all_take_succ (mpOk n t) l mp0 k hlt)
            have hws := Lib.hid (wsum_take_succ l k hlt)
            have hbd := Lib.hid (hbad.out k hlt)
            generalize l.getD k mp0 = mp at hrow hts hc0 hws hbd
            obtain ⟨x, row⟩ := mp
            simp only at hrow hc0
            generalize rv k = rk at hrow hc1
            obtain ⟨ra, rc, rfl⟩ := hrow.shape
            have hmap := l05Map_q _ row n wo hrow b1 b2
            have hin := l00In_q x 1 t wo
            rcases hx : inB x 1 t with _ | _
            · rw [hx] at hin
              have hfin := Lib.hid (hbd.out (by simp [mpOk, hx]))
              clear hx
              go_wp2
              go_quiet ((go_at_call 25; exact hin _))
              go_wp2
              go_ret
              exact ⟨ret_bool hfin.out.symm, by obtain ⟨m, rfl⟩ := hw.out; exact ⟨_, World.drewN_drewN ..⟩⟩
            · rw [hx] at hin
              obtain ⟨x0, x1⟩ := inB_iff.1 hx
              have hsn := Lib.hid (show S + x = wsum (l.take (k + 1)) by rw [hws.out, hS.out])
              rcases hw2 : within row n 0 (n - 1) with _ | _
              · rw [hw2] at hmap
                have hfin := Lib.hid (hbd.out (by simp [mpOk, hw2]))
                clear hx hw2
                go_wp2
                go_quiet ((first | (go_at_call 25; exact hin _) | (go_at_call 66; exact hmap _)))
                go_wp2
                go_ret
                exact ⟨ret_bool hfin.out.symm, by obtain ⟨m, rfl⟩ := hw.out; exact ⟨_, World.drewN_drewN ..⟩⟩
              · rw [hw2] at hmap
                have hn := Lib.hid (show (l.take (k + 1)).all (mpOk n t) = true by rw [hts.out, ht.out]; simp [mpOk, hx, hw2])
                clear hx hw2
                go_wp2
                go_quiet ((first | (go_at_call 25; exact hin _) | (go_at_call 66; exact hmap _)))
                go_wp2
                go_roundw
                case rel => exact ⟨k + 1, S + x, by omega, by go_num, rfl, by omega, by omega, by obtain ⟨m, rfl⟩ := hw.out; exact ⟨_, World.drewN_drewN ..⟩, hsn, hn⟩
                case measure => simp [intOf]; omega
          · obtain rfl : k = l.length := by omega
            have hfin := Lib.hid (show msOk ⟨n, t, l⟩ = decide (S = t) by rw [hrest.out]; have := ht.out; have hs2 := hS.out; rw [List.take_length] at this hs2; show (l.all (mpOk n t) && decide (wsum l = t)) = _; rw [this, ← hs2]; rfl)
            by_cases hst : S = t
            · have h5 := Lib.hid (hfin.out.trans (decide_eq_true hst))
              have h6 : (S == t) = true := by simpa using hst
              clear hst
              go_wp2
              go_ret
              exact ⟨by rw [h5.out]; rfl, hw.out⟩
            · have h5 := Lib.hid (hfin.out.trans (decide_eq_false hst))
              have h6 : (S == t) = false := by simpa using hst
              clear hst
              go_wp2
              go_ret
              exact ⟨by rw [h5.out]; rfl, hw.out⟩
      · have h3' : inB (l.length : Int) 1 60 = false := by simpa using h3
        have hres := Lib.hid (msOk_no3 (m := ⟨n, t, l⟩) h3')
        rw [h1] at c1
        rw [h2] at c2
        rw [h3'] at c3
        have c1' := Lib.hid c1
        have c2' := Lib.hid c2
        have c3' := Lib.hid c3
        clear h1 h2 h3 h3' c1 c2 c3
        go_enter Tryd.func40, Tryd.ntmps40
        go_wp2_with fail
        refine (c1'.out _).mono ?_
        rintro e w' ⟨rfl, rfl⟩
        go_wp2_with fail
        refine (c2'.out _).mono ?_
        rintro e w' ⟨rfl, rfl⟩
        go_wp2_with fail
        refine (c3'.out _).mono ?_
        rintro e w' ⟨rfl, rfl⟩
        go_wp2
        go_ret
        exact ⟨ret_bool hres.out.symm, 0, rfl⟩
    · have h2' : inB t 1 60 = false := by simpa using h2
      have hres := Lib.hid (msOk_no2 (m := ⟨n, t, l⟩) h2')
      rw [h1] at c1
      rw [h2'] at c2
      have c1' := Lib.hid c1
      have c2' := Lib.hid c2
      clear h1 h2 h2' c1 c2 c3
      go_enter Tryd.func40, Tryd.ntmps40
      go_wp2_with fail
      refine (c1'.out _).mono ?_
      rintro e w' ⟨rfl, rfl⟩
      go_wp2_with fail
      refine (c2'.out _).mono ?_
      rintro e w' ⟨rfl, rfl⟩
      go_wp2
      go_ret
      exact ⟨ret_bool hres.out.symm, 0, rfl⟩
  · have h1' : inB n 1 6 = false := by simpa using h1
    have hres := Lib.hid (msOk_no1 (m := ⟨n, t, l⟩) h1')
    rw [h1'] at c1
    have c1' := Lib.hid c1
    clear h1 h1' c1 c2 c3
    go_enter Tryd.func40, Tryd.ntmps40
    go_wp2_with fail
    refine (c1'.out _).mono ?_
    rintro e w' ⟨rfl, rfl⟩
    go_wp2
    go_ret
    exact ⟨ret_bool hres.out.symm, 0, rfl⟩

end Go.Proofs.YtgaadcinhaphpaaDoor
