/- ValidChain of the specification answers 'chOk'. Conditions: none on the chain beyond what is read. -/
import Derived.Test.YtacnafjmcfcalaaOk
namespace Go.Proofs.Ytacnafjmcfcalaa
open Go.RowKit Go.Deep

/-- a chain behind the pointer to block b -/
def ChP (w : World) (b : Nat) (c : Ch) : Prop :=
  ∃ v, w.cell? ⟨b, 0, none⟩ = some (.int .i64 c.n) ∧ w.cell? ⟨b, 1, none⟩ = some (.int .i64 c.t) ∧ w.cell? ⟨b, 2, none⟩ = some v ∧ Rows2 w v c.w
theorem ChP.keep {w w' : World} {b : Nat} {c : Ch} (h : ChP w b c) (hb : Below w.heap.size w w') : ChP w' b c := by
  obtain ⟨v, h0, h1, h2, hr⟩ := h
  exact ⟨v, (hb.cell (block_lt h0)).trans h0, (hb.cell (block_lt h1)).trans h1, (hb.cell (block_lt h2)).trans h2, hr.keep hb⟩

theorem l00In_q (n lo hi : Int) (w : World) (m : Nat) : Calls Try.prog 114 #[.int .i64 n, .int .i64 lo, .int .i64 hi] (w.drewN m) fun e w'' => e = .returned (.bool (inB n lo hi)) ∧ ∃ m', w'' = w.drewN m' :=
  (l00In_any n lo hi _).mono fun _ _ ⟨he, hw⟩ => ⟨he, m, hw.symm⟩

theorem drawn_more {w w' : World} (h : ∃ m, w' = w.drewN m) (n : Nat) : ∃ m, w'.drewN n = w.drewN m := by
  obtain ⟨m, rfl⟩ := h
  exact ⟨_, World.drewN_drewN ..⟩
theorem drawn_trans {w w' w'' : World} (h : ∃ m, w' = w.drewN m) (h' : ∃ m, w'' = w'.drewN m) : ∃ m, w'' = w.drewN m := by
  obtain ⟨m, rfl⟩ := h'
  exact drawn_more h m
theorem sum_take_succ (row : List Int) (k : Nat) (h : k < row.length) : (row.take (k + 1)).sum = (row.take k).sum + row.getD k 0 := by
  rw [List.take_succ_eq_append_getElem h, List.sum_append]
  simp [List.getD, h]

set_option maxRecDepth 100000 in
set_option maxHeartbeats 4000000 in
theorem l01Ok_any (b : Nat) (c : Ch) (w : World) (hv : ChP w b c) :
    Calls Try.prog 174 #[.pointer (some ⟨b, 0, none⟩)] w fun e w' => e = .returned (.bool (chOk c)) ∧ ∃ m, w' = w.drewN m := by
  obtain ⟨v, k0, k1, k2, hr⟩ := hv
  obtain ⟨n, t, xss⟩ := c
  simp only at k0 k1 k2 hr ⊢
  obtain ⟨hm, a, cap, rfl⟩ := hr.len
  unfold maxLen at hm
  by_cases h1 : inB n 1 6 = true
  · by_cases h2 : inB t 1 60 = true
    · by_cases h3 : (xss.length : Int) = n
      · have hok := Lib.hid (show chOk ⟨n, t, xss⟩ = xss.all (okRow n t) by simp [chOk, h1, h2, h3])
        obtain ⟨b1, b2⟩ := inB_iff.1 h1
        obtain ⟨b3, b4⟩ := inB_iff.1 h2
        have hne : ((xss.length : Int) != n) = false := by simpa using h3
        have h3' := Lib.hid h3
        clear h3
        go_enter Try.func174, Try.ntmps174
        go_wp2
        go_quiet ((go_at_call 114; exact l00In_q _ _ _ _ _))
        go_wp2
        go_loopw [3] (fun i wr => ∃ k : Nat, k ≤ xss.length ∧ i = .int .i64 k ∧ Hid (∃ m, wr = w.drewN m) ∧ Hid ((xss.take k).all (okRow n t) = true)) (fun i _ => xss.length - (intOf i).toNat)
        case atStart => exact ⟨0, Nat.zero_le _, rfl, ⟨_, rfl⟩, show _ = _ by simp⟩
        case round =>
          obtain ⟨wo, rfl⟩ : ∃ wo : World, wo = wr := ⟨_, rfl⟩
          obtain ⟨k, hk, rfl, hw, ht⟩ := hrel
          have k0' : wo.cell? ⟨b, 0, none⟩ = some (.int .i64 n) := by obtain ⟨m, rfl⟩ := hw.out; exact k0
          have k1' : wo.cell? ⟨b, 1, none⟩ = some (.int .i64 t) := by obtain ⟨m, rfl⟩ := hw.out; exact k1
          have k2' : wo.cell? ⟨b, 2, none⟩ = some (.slice a xss.length cap) := by obtain ⟨m, rfl⟩ := hw.out; exact k2
          clear k0 k1 k2
          by_cases hlt : k < xss.length
          · obtain ⟨bb, off, cap', rv, hvv, _, hc⟩ := hr.at (by omega)
            simp only [Value.slice.injEq] at hvv
            obtain ⟨rfl, _, rfl⟩ := hvv
            obtain ⟨hcell0, hrow0⟩ := hc k hlt
            clear hc
            have hcell : wo.cell? ⟨bb, off + k, none⟩ = some (rv k) := by obtain ⟨m, rfl⟩ := hw.out; exact hcell0
            have hrow : Ints wo (rv k) (xss.getD k []) := by obtain ⟨m, rfl⟩ := hw.out; exact hrow0.keep (below_drewN (Below.refl _ _) m)
            clear hcell0 hrow0
            have hts := Lib.hid (all_take_succ (okRow n t) xss [] k hlt)
            have hfs := Lib.hid (all_false_of (okRow n t) xss [] k hlt)
            generalize rv k = rk at hcell hrow
            generalize xss.getD k [] = row at hrow hts hfs
            obtain ⟨hrm, ra, rcap, rfl⟩ := hrow.len
            unfold maxLen at hrm
            by_cases hq : (row.length : Int) = n
            · have hq' : ((row.length : Int) != n) = false := by simpa using hq
              have hokr := Lib.hid (show okRow n t row = (row.all (fun x => inB x 0 t) && decide (row.sum = t)) by simp [okRow, hq])
              have hrl : row.length ≤ 6 := by omega
              clear hq
              go_wp2
              go_quiet (fail)
              go_wp2
              go_loopw [4, 5] (fun s j wr => ∃ (k2 : Nat) (S : Int), k2 ≤ row.length ∧ j = .int .i64 k2 ∧ s = .int .i64 S ∧ 0 ≤ S ∧ S ≤ 60 * (k2 : Int) ∧ Hid (S = (row.take k2).sum) ∧ Hid (∃ m, wr = wo.drewN m) ∧ Hid ((row.take k2).all (fun x => inB x 0 t) = true)) (fun _ j _ => row.length - (intOf j).toNat)
              case atStart => exact ⟨0, 0, Nat.zero_le _, rfl, rfl, by omega, by omega, show _ = _ by simp, ⟨_, rfl⟩, show _ = _ by simp⟩
              case round =>
                obtain ⟨k2, S, hk2, rfl, rfl, hS0, hS1, hS, hwi, hal⟩ := hrel
                have q0 : wr.cell? ⟨b, 0, none⟩ = some (.int .i64 n) := by obtain ⟨m, rfl⟩ := hwi.out; exact k0'
                have q1 : wr.cell? ⟨b, 1, none⟩ = some (.int .i64 t) := by obtain ⟨m, rfl⟩ := hwi.out; exact k1'
                have q2 : wr.cell? ⟨b, 2, none⟩ = some (.slice (some ⟨bb, off, none⟩) xss.length cap) := by obtain ⟨m, rfl⟩ := hwi.out; exact k2'
                have q3 : wr.cell? ⟨bb, off + k, none⟩ = some (.slice ra row.length rcap) := by obtain ⟨m, rfl⟩ := hwi.out; exact hcell
                clear k0' k1' k2' hcell
                by_cases hlt2 : k2 < row.length
                · obtain ⟨rb, ro, rc, hvr, _, hcr⟩ := hrow.at (by omega)
                  simp only [Value.slice.injEq] at hvr
                  obtain ⟨rfl, _, rfl⟩ := hvr
                  have hx : wr.cell? ⟨rb, ro + k2, none⟩ = some (.int .i64 (row.getD k2 0)) := by obtain ⟨m, rfl⟩ := hwi.out; exact hcr k2 hlt2
                  clear hcr
                  have hs1 := Lib.hid (sum_take_succ row k2 hlt2)
                  have hts2 := Lib.hid (all_take_succ (fun x => inB x 0 t) row 0 k2 hlt2)
                  have hfs2 := Lib.hid (all_false_of (fun x => inB x 0 t) row 0 k2 hlt2)
                  generalize row.getD k2 0 = x at hx hs1 hts2 hfs2
                  by_cases hin : inB x 0 t = true
                  · have hn2 := Lib.hid (show (row.take (k2 + 1)).all (fun x => inB x 0 t) = true by rw [hts2.out, hal.out, hin]; rfl)
                    obtain ⟨x0, x1⟩ := inB_iff.1 hin
                    have hsn := Lib.hid (show S + x = (row.take (k2 + 1)).sum by rw [hs1.out, hS.out])
                    go_wp2
                    go_quiet ((go_at_call 114; exact l00In_q _ _ _ _ _))
                    go_wp2
                    go_roundw
                    case rel => exact ⟨k2 + 1, S + x, by omega, by go_num, rfl, by omega, by omega, hsn, by obtain ⟨m, rfl⟩ := hwi.out; exact ⟨_, World.drewN_drewN ..⟩, hn2⟩
                    case measure => simp [intOf]; omega
                  · have hin' : inB x 0 t = false := by simpa using hin
                    have hfin := Lib.hid (hok.out.trans (hfs.out (by rw [hokr.out, hfs2.out hin']; rfl)))
                    clear hin
                    go_wp2
                    go_quiet ((go_at_call 114; exact l00In_q _ _ _ _ _))
                    go_wp2
                    go_ret
                    exact ⟨ret_bool hfin.out.symm, drawn_more (drawn_trans hw.out hwi.out) _⟩
                · obtain rfl : k2 = row.length := by omega
                  have hall : row.all (fun x => inB x 0 t) = true := by have := hal.out; rw [List.take_length] at this; exact this
                  have hokr2 := Lib.hid (show okRow n t row = decide (S = t) by rw [hokr.out, hall, hS.out, List.take_length]; rfl)
                  clear hall
                  by_cases hq2 : S = t
                  · have hn := Lib.hid (show (xss.take (k + 1)).all (okRow n t) = true by rw [hts.out, ht.out, hokr2.out]; simp [hq2])
                    have hq3 : (S != t) = false := by simpa using hq2
                    clear hq2
                    go_wp2
                    go_roundw
                    case rel => exact ⟨k + 1, by omega, by go_num, by obtain ⟨m, rfl⟩ := hwi.out; obtain ⟨m', rfl⟩ := hw.out; exact ⟨_, World.drewN_drewN ..⟩, hn⟩
                    case measure => simp [intOf]; omega
                  · have hfin := Lib.hid (hok.out.trans (hfs.out (by rw [hokr2.out]; simp [hq2])))
                    have hq3 : (S != t) = true := by simpa using hq2
                    clear hq2
                    go_wp2
                    go_ret
                    exact ⟨ret_bool hfin.out.symm, by obtain ⟨m, rfl⟩ := hwi.out; obtain ⟨m', rfl⟩ := hw.out; exact ⟨_, World.drewN_drewN ..⟩⟩
            · have hq' : ((row.length : Int) != n) = true := by simpa using hq
              have hfin := Lib.hid (hok.out.trans (hfs.out (by simp [okRow, hq])))
              clear hq
              go_wp2
              go_quiet (fail)
              go_wp2
              go_ret
              exact ⟨ret_bool hfin.out.symm, by obtain ⟨m, rfl⟩ := hw.out; exact ⟨_, World.drewN_drewN ..⟩⟩
          · obtain rfl : k = xss.length := by omega
            have hfin := Lib.hid (show chOk ⟨n, t, xss⟩ = true by rw [hok.out]; have := ht.out; rw [List.take_length] at this; exact this)
            go_wp2
            go_ret
            exact ⟨ret_bool hfin.out.symm, hw.out⟩
      · have hres := Lib.hid (show chOk ⟨n, t, xss⟩ = false by simp [chOk, h3])
        have hne : ((xss.length : Int) != n) = true := by simpa using h3
        clear h3
        go_enter Try.func174, Try.ntmps174
        go_wp2
        go_quiet ((go_at_call 114; exact l00In_q _ _ _ _ _))
        go_wp2
        go_ret
        exact ⟨ret_bool hres.out.symm, _, rfl⟩
    · have h2' : inB t 1 60 = false := by simpa using h2
      have hres := Lib.hid (show chOk ⟨n, t, xss⟩ = false by simp [chOk, h2'])
      clear h2
      go_enter Try.func174, Try.ntmps174
      go_wp2
      go_quiet ((go_at_call 114; exact l00In_q _ _ _ _ _))
      go_wp2
      go_ret
      exact ⟨ret_bool hres.out.symm, _, rfl⟩
  · have h1' : inB n 1 6 = false := by simpa using h1
    have hres := Lib.hid (show chOk ⟨n, t, xss⟩ = false by simp [chOk, h1'])
    clear h1
    go_enter Try.func174, Try.ntmps174
    go_wp2
    go_quiet ((go_at_call 114; exact l00In_q _ _ _ _ _))
    go_wp2
    go_ret
    exact ⟨ret_bool hres.out.symm, _, rfl⟩

end Go.Proofs.Ytacnafjmcfcalaa
