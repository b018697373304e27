/- Free colours of the project. Conditions: what the clash of two colours answers is told; the node is one. -/
import Derived.Test.YtfbhdlkiffoflaaRdc
namespace Go.Proofs.Ytfbhdlkiffoflaa
open Go.RowKit Go.Deep
set_option linter.unusedVariables false

set_option maxHeartbeats 2000000 in
theorem indexFI_any (F : Nat) (caps : Array Value) (p : Int → Bool) (v : Value) (xs : List Int) (w : World) (hv : Ints w v xs) (hcf : ∀ args w, (callFunc F args).run Try.prog w = .ok (.enter F args) w)
    (hF0 : ∀ x W, x ∈ xs → Below w.heap.size w W → Calls Try.prog F (#[.int .i64 x] ++ caps) W fun e w' => e = .returned (.bool (p x)) ∧ Below W.heap.size W w') :
    Calls Try.prog 97 #[v, .func (.func F) #[] caps] w fun e w' => ∃ r : Int, e = .returned (.int .i64 r) ∧ decide (0 ≤ r) = xs.any p ∧ Below w.heap.size w w' := by
  obtain ⟨hm, a, cap, rfl⟩ := hv.len
  unfold maxLen at hm
  have hF := Lib.hid hF0
  clear hF0
  go_enter Try.func97, Try.ntmps97
  go_wp2
  go_loopw [8] (fun i wr => ∃ k : Nat, k ≤ xs.length ∧ i = .int .i64 k ∧ Hid ((xs.take k).any p = false) ∧ Hid (Below w.heap.size w wr)) (fun i _ => xs.length - (intOf i).toNat)
  case atStart => exact ⟨0, Nat.zero_le _, rfl, show _ = _ by simp, Below.refl _ _⟩
  case round =>
    obtain ⟨k, hk, rfl, hn, bel⟩ := hrel
    by_cases hlt : k < xs.length
    · obtain ⟨b, off, cap', hvv, hbl, hc⟩ := (hv.keep bel.out).at (by omega)
      simp only [Value.slice.injEq] at hvv
      obtain ⟨rfl, _, rfl⟩ := hvv
      have hcell := hc k hlt
      clear hc
      have ha := Lib.hid (any_take_succ (p := p) xs k hlt hn.out)
      have hy := Lib.hid (any_yes (p := p) xs k hlt)
      have hcall := hF.out (xs.getD k 0) wr (getD_mem hlt) bel.out
      generalize xs.getD k 0 = x at hcell ha hy hcall
      rcases hp : p x with _ | _
      · rw [hp] at hcall
        have hn2 := Lib.hid (ha.out hp)
        clear hp
        go_wp2_with fail
        refine hcall.mono ?_
        rintro e w' ⟨rfl, b2⟩
        go_wp2
        go_roundw
        case rel => exact ⟨k + 1, by omega, by go_num, hn2, below_wt bel.out b2⟩
        case measure => simp [intOf]; omega
      · rw [hp] at hcall
        have hn2 := Lib.hid (hy.out hp)
        clear hp
        go_wp2_with fail
        refine hcall.mono ?_
        rintro e w' ⟨rfl, b2⟩
        go_wp2
        go_ret
        exact ⟨k, rfl, by rw [hn2.out]; simp, below_wt bel.out b2⟩
    · obtain rfl : k = xs.length := by omega
      have hn2 := Lib.hid (show xs.any p = false by have := hn.out; rw [List.take_length] at this; exact this)
      go_wp2
      go_ret
      exact ⟨-1, rfl, by rw [hn2.out]; rfl, bel.out⟩
set_option maxHeartbeats 2000000 in
theorem contFI_any (F : Nat) (caps : Array Value) (p : Int → Bool) (v : Value) (xs : List Int) (w : World) (hv : Ints w v xs) (hcf : ∀ args w, (callFunc F args).run Try.prog w = .ok (.enter F args) w)
    (hF0 : ∀ x W, x ∈ xs → Below w.heap.size w W → Calls Try.prog F (#[.int .i64 x] ++ caps) W fun e w' => e = .returned (.bool (p x)) ∧ Below W.heap.size W w') :
    Calls Try.prog 81 #[v, .func (.func F) #[] caps] w fun e w' => e = .returned (.bool (xs.any p)) ∧ Below w.heap.size w w' := by
  have hI := indexFI_any F caps p v xs w hv hcf hF0
  obtain ⟨hm, a, cap, rfl⟩ := hv.len
  go_enter Try.func81, Try.ntmps81
  go_wp2_with fail
  refine hI.mono ?_
  rintro e w' ⟨r, rfl, hr, b2⟩
  have hr' := Lib.hid hr
  clear hr
  go_wp2
  go_ret
  exact ⟨ret_bool hr'.out, b2⟩

set_option maxHeartbeats 2000000 in
theorem of_any (lv : Value) (nb : List (List Int)) (i : Nat) (w : World) (hv : Rows2 w lv nb) (hi : i < nb.length) :
    Calls Try.prog 82 #[.agg #[lv], .int .i64 (i : Int)] w fun e w' => ∃ rv, e = .returned rv ∧ Ints w' rv (nb.getD i []) ∧ Below w.heap.size w w' := by
  have B0 := below1 w (.cells #[lv] 62)
  have hB := Blk.new w #[lv] 62
  obtain ⟨b, off, cap, rv, rfl, hb, hc⟩ := (hv.keep B0).at (by omega)
  obtain ⟨hcell, hrow⟩ := hc i hi
  have c0 := hB.cell 0
  have hlt : (i : Int) < (nb.length : Int) := by omega
  simp at c0
  have hrow' := Lib.hid hrow
  clear hc hB hrow hv
  go_enter Try.func82, Try.ntmps82
  go_wp2
  go_ret
  exact ⟨_, rfl, hrow'.out, B0⟩
set_option maxHeartbeats 2000000 in
theorem nodes_any (lv : Value) (nb : List (List Int)) (w : World) (hv : Rows2 w lv nb) :
    Calls Try.prog 84 #[.agg #[lv]] w fun e w' => e = .returned (.int .i64 (nb.length : Int)) ∧ Below w.heap.size w w' := by
  obtain ⟨hm, a, cap, rfl⟩ := hv.len
  unfold maxLen at hm
  have B0 := below1 w (.cells #[.slice a nb.length cap] 62)
  go_enter Try.func84, Try.ntmps84
  go_wp2
  go_ret
  exact ⟨rfl, B0⟩
set_option maxHeartbeats 2000000 in
theorem isNode_any (lv : Value) (nb : List (List Int)) (node : Int) (w : World) (hv : Rows2 w lv nb) (hl : nb.length ≤ 100) :
    Calls Try.prog 63 #[.agg #[lv], .int .i64 node] w fun e w' => e = .returned (.bool (inB node 0 ((nb.length : Int) - 1))) ∧ Below w.heap.size w w' := by
  have B0 := below1 w (.cells #[lv] 62)
  have hB := Blk.new w #[lv] 62
  have c0 := hB.cell 0
  simp at c0
  have hnd := nodes_any lv nb _ (hv.keep B0)
  have hI := Lib.hid (fun W => isIn_any node 0 ((nb.length : Int) - 1) W)
  obtain ⟨hm, a, cap, rfl⟩ := hv.len
  clear hv hB
  generalize inB node 0 ((nb.length : Int) - 1) = r at hI ⊢
  go_enter Try.func63, Try.ntmps63
  go_wp2_with fail
  (with_reducible refine hnd.mono ?_)
  rintro e w2 ⟨rfl, b2⟩
  go_wp2_with fail
  (with_reducible refine (hI.out _).mono ?_)
  rintro e w3 ⟨rfl, rfl⟩
  go_wp2
  go_ret
  exact ⟨rfl, below_wt B0 b2⟩

theorem cf_fr : ∀ args w, (callFunc 80 args).run Try.prog w = .ok (.enter 80 args) w := fun _ _ => by go_simp
set_option maxHeartbeats 4000000 in
theorem fr_one (C : Nat) (cl : Int → Int → Bool) (hC : Clash C cl) (lv ev wv : Value) (parts c : Int) (f : Nat → Int) (i : Nat) (hi : i < 10) (b1 b2 b3 : Nat) (t1 t2 t3 : TypeId) (w : World)
    (h1 : Blk w b1 (palA lv ev wv C parts) t1) (h2 : Blk w b2 #[.int .i64 c] t2) (h3 : Blk w b3 (tenA f) t3) :
    Calls Try.prog 80 #[.int .i64 (i : Int), .pointer (some ⟨b1, 0, none⟩), .pointer (some ⟨b2, 0, none⟩), .pointer (some ⟨b3, 0, none⟩)] w fun e w' => e = .returned (.bool (cl c (f i))) ∧ Below w.heap.size w w' := by
  have c3 : w.cell? ⟨b1, 3, none⟩ = some (.func (.func C) #[] #[]) := h1.cell 3
  have c2 : w.cell? ⟨b2, 0, none⟩ = some (.int .i64 c) := h2.cell 0
  have ci := h3.ten i hi
  have hcf := hC.1
  have hcl := Lib.hid hC.2
  have i0 : (0 : Int) ≤ (i : Int) := by omega
  have i1 : (i : Int) < 10 := by omega
  generalize f i = x at ci
  have C3 := Later.cell c3
  have C2 := Later.cell c2
  have CI := Later.cell ci
  clear h1 h2 h3
  go_enter Try.func80, Try.ntmps80
  go_wp2
  refine region_later (by kernel_rfl) (by kernel_rfl) ?_
  repeat (go_big_quiet_step (exact later_same (hcl.out _ _ _)))
  refine wpQuiet_nil ?_
  intro _ hw'
  obtain ⟨⟨W2, B2⟩, hw''⟩ := hw'
  subst hw''
  go_wp2
  go_ret
  exact ⟨rfl, B2⟩

def freeP (cl : Int → Int → Bool) (f : Nat → Int) (nb : List Int) (k : Nat) : List Int := ((List.range k).filter fun (c : Nat) => !nb.any fun u => cl (c : Int) (f u.toNat)).map fun (c : Nat) => (c : Int)
theorem freeP_succ (cl : Int → Int → Bool) (f : Nat → Int) (nb : List Int) (k : Nat) : freeP cl f nb (k + 1) = freeP cl f nb k ++ if (nb.any fun u => cl (k : Int) (f u.toNat)) then [] else [(k : Int)] := by
  unfold freeP
  rw [List.range_succ, List.filter_append, List.map_append]
  congr 1
  by_cases h : (nb.any fun u => cl (k : Int) (f u.toNat)) = true
  · rw [if_pos h]; simp only [List.filter_cons, h, Bool.not_true]; rfl
  · rw [if_neg h]; simp only [Bool.not_eq_true] at h; simp only [List.filter_cons, h, Bool.not_false, if_true]; rfl
theorem freeP_len (cl : Int → Int → Bool) (f : Nat → Int) (nb : List Int) (k : Nat) : (freeP cl f nb k).length ≤ k := by
  unfold freeP
  rw [List.length_map]
  exact Nat.le_trans (List.length_filter_le _ _) (by simp)

set_option maxRecDepth 100000 in
set_option maxHeartbeats 8000000 in
theorem free_any (C : Nat) (cl : Int → Int → Bool) (hC : Clash C cl) (lv ev wv : Value) (parts : Int) (f : Nat → Int) (nb : List (List Int)) (ws : List Int) (node : Nat) (w : World) (hv : Rows2 w lv nb) (hw : Ints w wv ws) (hn : node < nb.length) (hws : ws.length ≤ 100)
    (R : List Int) (hR : nb.getD node [] = R) (hnb : ∀ u ∈ R, ∃ k : Nat, u = k ∧ k < 10) :
    Calls Try.prog 54 #[.agg (palA lv ev wv C parts), .agg (tenA f), .int .i64 (node : Int)] w fun e w' => ∃ rv, e = .returned rv ∧ w'.ownsRow w.heap.size 2 1 rv (freeP cl f R ws.length).length (ints (freeP cl f R ws.length)) ∧ Below w.heap.size w w' := by
  have B0 := below2 w (.cells (palA lv ev wv C parts) 68) (.cells (tenA f) 74)
  have H1 := (Blk.new w (palA lv ev wv C parts) 68).alloc (.cells (tenA f) 74)
  have H2 := Blk.new (w.alloc (.cells (palA lv ev wv C parts) 68)) (tenA f) 74
  simp only [World.size_alloc] at H2
  have hv1 := hv.keep B0
  obtain ⟨hm, wa, wc, rfl⟩ := hw.len
  obtain ⟨_, la, lc, rfl⟩ := hv.len
  obtain ⟨⟨z0, z1, z2, z3, z4⟩, -⟩ := H1.five
  obtain ⟨i0, hi, hz0, hz1, hz2⟩ := info_parts Try.infoI
  have hi' := Lib.hid hi; have hz0' := Lib.hid hz0; have hz1' := Lib.hid hz1; have hz2' := Lib.hid hz2
  have hnb' := Lib.hid hnb
  have hR' := Lib.hid hR
  clear hi hz0 hz1 hz2 hv hw hnb hR
  go_enter Try.func54, Try.ntmps54
  go_wp2
  obtain ⟨w1, hw1⟩ : ∃ u, (w.alloc (.cells (palA (.slice la nb.length lc) ev (.slice wa ws.length wc) C parts) 68)).alloc (.cells (tenA f) 74) = u := ⟨_, rfl⟩
  have hsz : w1.heap.size = w.heap.size + 2 := by rw [← hw1]; simp
  rw [hw1] at B0 H1 H2 hv1 z0 z1 z2 z3 z4
  first | rw [hw1] | (simp only [palA, tenA] at hw1; rw [hw1])
  have hsz' := Lib.hid hsz
  clear hw1 hsz
  go_loopw [7, 13] (fun ov iv wr => ∃ (k : Nat) (va : Option Addr) (vc : Nat), k ≤ ws.length ∧ iv = .int .i64 k ∧ ov = .slice va (freeP cl f R k).length vc ∧ Hid (wr.ownsRow w.heap.size 2 1 (.slice va (freeP cl f R k).length vc) (freeP cl f R k).length (ints (freeP cl f R k))) ∧ Hid (∀ j, (Value.slice va (freeP cl f R k).length vc).ownBlock = some j → w1.heap.size ≤ j) ∧ Hid (Below w1.heap.size w1 wr)) (fun _ iv _ => ws.length - (intOf iv).toNat)
  case atStart => exact ⟨0, none, 0, Nat.zero_le _, rfl, rfl, World.ownsRow_nil _ _ _ _, fun j hj => by simp [Value.ownBlock] at hj, Below.refl _ _⟩
  case round =>
    obtain ⟨k, va, vc, hk, rfl, rfl, hown, hap, bel⟩ := hrel
    obtain ⟨out, hout⟩ : ∃ o, freeP cl f R k = o := ⟨_, rfl⟩
    have hol : out.length ≤ k := by rw [← hout]; exact freeP_len _ _ _ _
    have hsucc := Lib.hid (freeP_succ cl f R k)
    rw [hout] at hown hap hsucc ⊢
    have H1r := H1.step bel.out
    have H2r := H2.step bel.out
    have hout' := Lib.hid hout
    clear hout
    by_cases hlt : k < ws.length
    · have hltI : (k : Int) < (ws.length : Int) := by omega
      have bc := below1 wr (.cells #[.int .i64 (k : Int)] 2)
      have HC := Blk.new wr #[.int .i64 (k : Int)] 2
      have H1c := H1r.step bc
      have H2c := H2r.step bc
      obtain ⟨⟨y0, y1, y2, y3, y4⟩, -⟩ := H1c.five
      have hof := of_any (.slice la nb.length lc) nb node _ ((hv1.keep bel.out).keep bc) hn
      rw [hR'.out] at hof
      have hpost := Lib.hid (fun (u : World) (rv : Value) (hrv : Ints u rv R) (hu : Below (wr.alloc (.cells #[.int .i64 (k : Int)] 2)).heap.size (wr.alloc (.cells #[.int .i64 (k : Int)] 2)) u) =>
        contFI_any 80 #[.pointer (some ⟨w.heap.size, 0, none⟩), .pointer (some ⟨wr.heap.size, 0, none⟩), .pointer (some ⟨w.heap.size + 1, 0, none⟩)] (fun x => cl (k : Int) (f x.toNat)) rv _ u hrv cf_fr
          (fun x W hx hW => by
            obtain ⟨q, rfl, hq⟩ := hnb'.out x hx
            have := fr_one C cl hC _ ev _ parts (k : Int) f q hq w.heap.size wr.heap.size (w.heap.size + 1) _ _ _ W ((H1c.step hu).step hW) ((HC.step hu).step hW) ((H2c.step hu).step hW)
            simpa using this))
      have hc0 : (wr.alloc (.cells #[.int .i64 (k : Int)] 2)).cell? ⟨wr.heap.size, 0, none⟩ = some (.int .i64 (k : Int)) := HC.cell 0
      have hsz1 := bel.out.size
      have HC' := Lib.hid HC
      clear H1r H2r H1c H2c HC z0 z1 z2 z3 z4
      go_wp2_with fail
      (with_reducible refine hof.mono ?_)
      rintro e w2 ⟨rv, rfl, hrv, b2⟩
      obtain ⟨_, ra, rc, hrvs⟩ := hrv.len
      have hcc := hpost.out w2 rv hrv b2
      subst hrvs
      rcases hr : (R.any fun x => cl (k : Int) (f x.toNat)) with _ | _
      · rw [hr] at hcc
        have hs2 := Lib.hid (show freeP cl f R (k + 1) = out ++ [(k : Int)] by rw [hsucc.out, hr]; rfl)
        clear hr
        go_wp2_with fail
        (with_reducible refine hcc.mono ?_)
        rintro e w3 ⟨rfl, b3⟩
        have c3 := ((HC'.out.step b2).step b3).cell 0
        have hown3 := Lib.hid (show w3.ownsRow w.heap.size 2 1 (.slice va out.length vc) out.length (ints out) from ownsRow_belowN (ownsRow_belowN (hown.out.alloc _) b2) b3)
        have bel3 := Lib.hid (below_wt (below_wt bel.out bc) (below_wt b2 b3))
        have hsz3 := bel3.out.size
        have hszw := hsz'.out
        simp at c3
        clear b2 b3 hrv hpost
        go_wp2_with (at_builtin; (refine wpList_append_lies _ rfl _ _ 32 rfl w.heap.size 2 i0 (.int .i64 0) 1 8 Try.underlying32 hi'.out hz0'.out hz1'.out hz2'.out rfl (by omega) (.slice va out.length vc) out.length _ rfl (hown3.out.alloc _) ⟨w3.heap.size, 0, none⟩ 1 1 [.int .i64 (k : Int)] rfl rfl (one_new _ _ _) (by simp [Value.oneCell']) (by omega) (by unfold maxLen; omega) (by omega) (by simp; omega) _ rfl ?_); intro gg cap2 w4 hown4 hgrow hat4 hlt4)
        have hap4 := Lib.hid (show w1.heap.size ≤ gg by rcases hat4 with e | e
                                                        · exact hap.out gg e
                                                        · rw [e]; simp; omega)
        have bel4 := Lib.hid ((bel3.out.alloc hsz3 _).grown hgrow (by simp; omega) (fun k' hk' => hap.out k' hk'))
        go_roundw
        case rel => exact ⟨k + 1, some ⟨gg, 0, none⟩, cap2, by omega, by go_num, by rw [hs2.out]; simp, Lib.hid (by rw [hs2.out]; simpa [ints] using hown4), Lib.hid (fun j hj => by simp [Value.ownBlock] at hj; have := hap4.out; omega), bel4⟩
        case measure => simp [intOf]; omega
      · rw [hr] at hcc
        have hs2 := Lib.hid (show freeP cl f R (k + 1) = out by rw [hsucc.out, hr]; simp)
        clear hr
        go_wp2_with fail
        (with_reducible refine hcc.mono ?_)
        rintro e w3 ⟨rfl, b3⟩
        have hown3 := Lib.hid (show w3.ownsRow w.heap.size 2 1 (.slice va out.length vc) out.length (ints out) from ownsRow_belowN (ownsRow_belowN (hown.out.alloc _) b2) b3)
        have bel3 := Lib.hid (below_wt (below_wt bel.out bc) (below_wt b2 b3))
        clear b2 b3 hrv hpost
        go_wp2
        go_roundw
        case rel => exact ⟨k + 1, va, vc, by omega, by go_num, by rw [hs2.out], by rw [hs2.out]; exact hown3, by rw [hs2.out]; exact hap, bel3⟩
        case measure => simp [intOf]; omega
    · obtain rfl : k = ws.length := by omega
      go_wp2
      go_ret
      exact ⟨_, rfl, by rw [hout'.out]; exact hown.out, B0.trans (bel.out.mono B0.size)⟩
end Go.Proofs.Ytfbhdlkiffoflaa
