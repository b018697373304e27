/- MixChains of the project and of the specification: both return 'mixOf'. Conditions: none on the chains beyond what is read. -/
import Derived.Test.YtepajimcnheofaaMix
namespace Go.Proofs.Ytepajimcnheofaa
open Go.RowKit Go.Deep

def zeroCh : Ch := ⟨0, 0, []⟩
def lim (c : Ch) : Ch × Int := if chOk c = true then (c, 0) else (zeroCh, 3)
/-- the code of two chains with the same states -/
def pairCode (c d : Ch) : Int := if chOk c = true ∧ chOk d = true then (if c.n = d.n then 0 else 2) else 1
theorem zero_ch (w : World) : ChR w (.agg #[.int .i64 0, .int .i64 0, .slice none 0 0]) zeroCh :=
  ⟨_, rfl, [], ⟨by simp, none, 0, rfl, ⟨Nat.le_refl _, Nat.zero_le _⟩, fun i hi => by simp at hi⟩, rfl, fun i hi => by simp [zeroCh] at hi⟩
theorem zero_own (w : World) (lo hi : Nat) : ChOwn 37 2 w lo hi (.agg #[.int .i64 0, .int .i64 0, .slice none 0 0]) zeroCh :=
  ⟨_, rfl, [], ⟨World.ownsRow_nil w lo _ _, by simp, fun k hk => by simp [Value.ownBlock] at hk⟩, rfl, fun i hi => by simp [zeroCh] at hi, fun i hi => by simp [zeroCh] at hi, fun i j hi => by simp [zeroCh] at hi⟩

set_option maxHeartbeats 4000000 in
theorem l01Pair_any (b1 b2 : Nat) (c d : Ch) (w : World) (hc : ChP w b1 c) (hd : ChP w b2 d) :
    Calls Try.prog 56 #[.pointer (some ⟨b1, 0, none⟩), .pointer (some ⟨b2, 0, none⟩)] w fun e w' => e = .returned (.int .i64 (pairCode c d)) ∧ ∃ m, w' = w.drewN m := by
  have hD := Lib.hid (fun m => hd.keep (below_drewN (Below.refl _ _) m))
  obtain ⟨vc, c0, _, _, _⟩ := id hc
  obtain ⟨vd, d0, _, _, _⟩ := id hd
  by_cases oc : chOk c = true
  · by_cases od : chOk d = true
    · by_cases hn : c.n = d.n
      · have hr := Lib.hid (show pairCode c d = 0 by simp [pairCode, oc, od, hn])
        have hn1 : (c.n != d.n) = false := by simpa using hn
        have hn' := Lib.hid hn
        clear hn
        go_enter Try.func56, Try.ntmps56
        go_wp2_with fail
        refine (l01Ok_any b1 c _ hc).mono ?_
        rintro e w1 ⟨rfl, m, rfl⟩
        go_wp2_with fail
        refine (l01Ok_any b2 d _ (hD.out m)).mono ?_
        rintro e w1 ⟨rfl, m2, rfl⟩
        go_wp2
        go_quiet (fail)
        go_wp2
        go_ret
        exact ⟨ret_int hr.out.symm, _, World.drewN_drewN ..⟩
      · have hr := Lib.hid (show pairCode c d = 2 by simp [pairCode, oc, od, hn])
        have hn1 : (c.n != d.n) = true := by simpa using hn
        clear hn
        go_enter Try.func56, Try.ntmps56
        go_wp2_with fail
        refine (l01Ok_any b1 c _ hc).mono ?_
        rintro e w1 ⟨rfl, m, rfl⟩
        go_wp2_with fail
        refine (l01Ok_any b2 d _ (hD.out m)).mono ?_
        rintro e w1 ⟨rfl, m2, rfl⟩
        go_wp2
        go_quiet (fail)
        go_wp2
        go_ret
        exact ⟨ret_int hr.out.symm, _, World.drewN_drewN ..⟩
    · have od' : chOk d = false := by simpa using od
      have hr := Lib.hid (show pairCode c d = 1 by simp [pairCode, od'])
      clear od
      go_enter Try.func56, Try.ntmps56
      go_wp2_with fail
      refine (l01Ok_any b1 c _ hc).mono ?_
      rintro e w1 ⟨rfl, m, rfl⟩
      go_wp2_with fail
      refine (l01Ok_any b2 d _ (hD.out m)).mono ?_
      rintro e w1 ⟨rfl, m2, rfl⟩
      go_wp2
      go_ret
      exact ⟨ret_int hr.out.symm, m + m2, rfl⟩
  · have oc' : chOk c = false := by simpa using oc
    have hr := Lib.hid (show pairCode c d = 1 by simp [pairCode, oc'])
    clear oc
    go_enter Try.func56, Try.ntmps56
    go_wp2_with fail
    refine (l01Ok_any b1 c _ hc).mono ?_
    rintro e w1 ⟨rfl, m, rfl⟩
    go_wp2
    go_ret
    exact ⟨ret_int hr.out.symm, m, rfl⟩

theorem ChR.rows {w : World} {v : Value} {c : Ch} (h : ChR w (.agg #[.int .i64 c.n, .int .i64 c.t, v]) c) : Rows2 w v c.w := by
  obtain ⟨v', hv', hr⟩ := h
  simp only [Value.agg.injEq, Array.mk.injEq, List.cons.injEq, and_true, true_and] at hv'
  rw [hv']; exact hr

set_option maxHeartbeats 4000000 in
theorem l01Made_any (cv : Value) (c : Ch) (lo hi : Nat) (w : World) (ho : ChOwn 37 2 w lo hi cv c) (hh : hi ≤ w.heap.size) :
    Calls Try.prog 57 #[cv] w fun e w' => ∃ cv', e = .returned (.tuple #[cv', .int .i64 (lim c).2]) ∧ ChOwn 37 2 w' lo hi cv' (lim c).1 ∧ Below w.heap.size w w' := by
  have hv := ho.ch
  obtain ⟨a, cap, rfl⟩ : ∃ a cap, cv = .agg #[.int .i64 c.n, .int .i64 c.t, .slice a c.w.length cap] := by
    obtain ⟨v, rfl, hr⟩ := hv
    obtain ⟨_, a, cap, rfl⟩ := hr.len
    exact ⟨a, cap, rfl⟩
  have B0 := below2 w (.cells #[.int .i64 c.n, .int .i64 c.t, .slice a c.w.length cap] 26) (.cells #[.int .i64 0, .int .i64 0, .slice none 0 0] 26)
  have hB := (Blk.new w #[.int .i64 c.n, .int .i64 c.t, .slice a c.w.length cap] 26).alloc (.cells #[.int .i64 0, .int .i64 0, .slice none 0 0] 26)
  have hZ := Blk.new (w.alloc (.cells #[.int .i64 c.n, .int .i64 c.t, .slice a c.w.length cap] 26)) #[.int .i64 0, .int .i64 0, .slice none 0 0] 26
  simp only [World.size_alloc] at hZ
  have K := hv.keep B0
  have P : ChP ((w.alloc (.cells #[.int .i64 c.n, .int .i64 c.t, .slice a c.w.length cap] 26)).alloc (.cells #[.int .i64 0, .int .i64 0, .slice none 0 0] 26)) w.heap.size c := ⟨_, hB.cell 0, hB.cell 1, hB.cell 2, K.rows⟩
  by_cases oc : chOk c = true
  · have hr := Lib.hid (show lim c = (c, 0) by simp [lim, oc])
    go_enter Try.func57, Try.ntmps57
    go_wp2_with fail
    refine (l01Ok_any _ c _ P).mono ?_
    rintro e w1 ⟨rfl, m, rfl⟩
    go_wp2
    refine bodyPost_ret (v := .tuple #[.agg #[.int .i64 c.n, .int .i64 c.t, .slice a c.w.length cap], .int .i64 0]) (by simp [results, Try.results57, go_sem]) rfl ?_
    have B' : Below w.heap.size w _ := (((below_drewN B0 m).setCell (p := ⟨w.heap.size + 1, 0, none⟩) (by show w.heap.size ≤ w.heap.size + 1; omega) (.int .i64 c.n)).setCell (p := ⟨w.heap.size + 1, 1, none⟩) (by show w.heap.size ≤ w.heap.size + 1; omega) (.int .i64 c.t)).setCell (p := ⟨w.heap.size + 1, 2, none⟩) (by show w.heap.size ≤ w.heap.size + 1; omega) (.slice a c.w.length cap)
    rw [hr.out]
    exact ⟨_, rfl, ho.keep hh B', B'⟩
  · have oc' : chOk c = false := by simpa using oc
    have hr := Lib.hid (show lim c = (zeroCh, 3) by simp [lim, oc'])
    clear oc
    go_enter Try.func57, Try.ntmps57
    go_wp2_with fail
    refine (l01Ok_any _ c _ P).mono ?_
    rintro e w1 ⟨rfl, m, rfl⟩
    go_wp2
    refine bodyPost_ret (v := .tuple #[.agg #[.int .i64 0, .int .i64 0, .slice none 0 0], .int .i64 3]) (by simp [results, Try.results57, go_sem]) rfl ?_
    rw [hr.out]
    refine ⟨_, rfl, zero_own _ _ _, (((below_drewN B0 m).setCell ?_ _).setCell ?_ _).setCell ?_ _⟩
    all_goals (show w.heap.size ≤ w.heap.size + 1; omega)

def mixOf (c d : Ch) : Ch × Int := if pairCode c d = 0 then lim (mixCh c d) else (zeroCh, pairCode c d)
theorem pair_zero {c d : Ch} (h : pairCode c d = 0) : chOk c = true ∧ chOk d = true ∧ c.n = d.n := by
  unfold pairCode at h
  split at h
  · split at h
    · rename_i h1 h2; exact ⟨h1.1, h1.2, h2⟩
    · omega
  · omega

set_option maxHeartbeats 4000000 in
theorem MixChains_spec (cv dv : Value) (c d : Ch) (w : World) (hc : ChR w cv c) (hd : ChR w dv d) :
    Calls Try.prog 16 #[cv, dv] w fun e w' => ∃ rv, e = .returned (.tuple #[rv, .int .i64 (mixOf c d).2]) ∧ ChOwn 37 2 w' w.heap.size w'.heap.size rv (mixOf c d).1 ∧ Below w.heap.size w w' := by
  obtain ⟨a, cap, rfl⟩ : ∃ a cap, cv = .agg #[.int .i64 c.n, .int .i64 c.t, .slice a c.w.length cap] := by
    obtain ⟨v, rfl, hr⟩ := hc
    obtain ⟨_, a, cap, rfl⟩ := hr.len
    exact ⟨a, cap, rfl⟩
  obtain ⟨a', cap', rfl⟩ : ∃ a cap, dv = .agg #[.int .i64 d.n, .int .i64 d.t, .slice a d.w.length cap] := by
    obtain ⟨v, rfl, hr⟩ := hd
    obtain ⟨_, a, cap, rfl⟩ := hr.len
    exact ⟨a, cap, rfl⟩
  have B0 := below3 w (.cells #[.int .i64 c.n, .int .i64 c.t, .slice a c.w.length cap] 26) (.cells #[.int .i64 d.n, .int .i64 d.t, .slice a' d.w.length cap'] 26) (.cells #[.int .i64 0, .int .i64 0, .slice none 0 0] 26)
  have hB := ((Blk.new w #[.int .i64 c.n, .int .i64 c.t, .slice a c.w.length cap] 26).alloc (.cells #[.int .i64 d.n, .int .i64 d.t, .slice a' d.w.length cap'] 26)).alloc (.cells #[.int .i64 0, .int .i64 0, .slice none 0 0] 26)
  have hD := (Blk.new (w.alloc (.cells #[.int .i64 c.n, .int .i64 c.t, .slice a c.w.length cap] 26)) #[.int .i64 d.n, .int .i64 d.t, .slice a' d.w.length cap'] 26).alloc (.cells #[.int .i64 0, .int .i64 0, .slice none 0 0] 26)
  have hZ := Blk.new ((w.alloc (.cells #[.int .i64 c.n, .int .i64 c.t, .slice a c.w.length cap] 26)).alloc (.cells #[.int .i64 d.n, .int .i64 d.t, .slice a' d.w.length cap'] 26)) #[.int .i64 0, .int .i64 0, .slice none 0 0] 26
  simp only [World.size_alloc] at hZ hD
  have Pc : ChP (((w.alloc (.cells #[.int .i64 c.n, .int .i64 c.t, .slice a c.w.length cap] 26)).alloc (.cells #[.int .i64 d.n, .int .i64 d.t, .slice a' d.w.length cap'] 26)).alloc (.cells #[.int .i64 0, .int .i64 0, .slice none 0 0] 26)) w.heap.size c := ⟨_, hB.cell 0, hB.cell 1, hB.cell 2, (hc.keep B0).rows⟩
  have Pd : ChP (((w.alloc (.cells #[.int .i64 c.n, .int .i64 c.t, .slice a c.w.length cap] 26)).alloc (.cells #[.int .i64 d.n, .int .i64 d.t, .slice a' d.w.length cap'] 26)).alloc (.cells #[.int .i64 0, .int .i64 0, .slice none 0 0] 26)) (w.heap.size + 1) d := ⟨_, hD.cell 0, hD.cell 1, hD.cell 2, (hd.keep B0).rows⟩
  by_cases h0 : pairCode c d = 0
  · have hr := Lib.hid (show mixOf c d = lim (mixCh c d) by simp [mixOf, h0])
    obtain ⟨oc, od, hn⟩ := pair_zero h0
    have hn' := Lib.hid hn
    clear hn
    go_enter Try.func16, Try.ntmps16
    go_wp2_with fail
    refine (l01Pair_any _ _ c d _ Pc Pd).mono ?_
    rintro e w1 ⟨rfl, m, rfl⟩
    have hZ1 : Blk _ _ _ _ := hZ.keep (below_drewN (Below.refl _ _) m) hZ.lt
    go_wp2_with fail
    refine (l01Mixed_any _ _ c d _ (Pc.keep (below_drewN (Below.refl _ _) m)) (Pd.keep (below_drewN (Below.refl _ _) m)) oc od hn'.out.symm).mono ?_
    rintro e w2 ⟨mv, rfl, own2, b2⟩
    have hZ2 := hZ1.keep b2 hZ1.lt
    go_wp2_with fail
    refine (l01Made_any mv _ _ _ _ own2 (Nat.le_refl _)).mono ?_
    rintro e w3 ⟨rv, rfl, chr, b3⟩
    have hZ3 := hZ2.keep b3 hZ2.lt
    have BB := below_wt (below_wt (below_drewN B0 m) b2) b3
    have hsz3 := b3.size
    generalize lim (mixCh c d) = r at chr hr
    obtain ⟨rc, rk⟩ := r
    simp only at chr
    obtain ⟨ra, rcap, rfl⟩ : ∃ a cap, rv = .agg #[.int .i64 rc.n, .int .i64 rc.t, .slice a rc.w.length cap] := by
      obtain ⟨v, rfl, hr⟩ := chr
      obtain ⟨_, a, cap, rfl⟩ := hr.rows.len
      exact ⟨a, cap, rfl⟩
    have g0 := hZ3.cell 0
    have g1 := hZ3.cell 1
    have g2 := hZ3.cell 2
    have f0 := hZ3.frozen 0
    have f1 := hZ3.frozen 1
    have f2 := hZ3.frozen 2
    simp at g0 g1 g2
    go_wp2
    refine bodyPost_ret (v := .tuple #[.agg #[.int .i64 rc.n, .int .i64 rc.t, .slice ra rc.w.length rcap], .int .i64 rk]) (by simp [results, Try.results16, go_sem, g0, g1, g2]) rfl ?_
    rw [hr.out]
    refine ⟨_, rfl, (chr.same ((((SameOn.refl _ _ _).set (Or.inl ?_) _).set (Or.inl ?_) _).set (Or.inl ?_) _)).wide ?_ ?_, ((BB.setCell ?_ _).setCell ?_ _).setCell ?_ _⟩
    all_goals (simp [World.setCell, World.drewN] <;> omega)
  · have hr := Lib.hid (show mixOf c d = (zeroCh, pairCode c d) by simp [mixOf, h0])
    have h0' : (pairCode c d != 0) = true := by simpa using h0
    clear h0
    go_enter Try.func16, Try.ntmps16
    go_wp2_with fail
    refine (l01Pair_any _ _ c d _ Pc Pd).mono ?_
    rintro e w1 ⟨rfl, m, rfl⟩
    have hZ1 : Blk _ _ _ _ := hZ.keep (below_drewN (Below.refl _ _) m) hZ.lt
    generalize pairCode c d = pc at h0' hr
    go_wp2
    refine bodyPost_ret (v := .tuple #[.agg #[.int .i64 0, .int .i64 0, .slice none 0 0], .int .i64 pc]) (by simp [results, Try.results16, go_sem]) rfl ?_
    rw [hr.out]
    refine ⟨_, rfl, zero_own _ _ _, (((below_drewN B0 m).setCell ?_ _).setCell ?_ _).setCell ?_ _⟩
    all_goals (simp only; omega)

/-! ### the project's -/
set_option maxHeartbeats 4000000 in
theorem checkTwo_any (cv dv : Value) (c d : Ch) (w : World) (hc : ChR w cv c) (hd : ChR w dv d) :
    Calls Try.prog 60 #[cv, dv] w fun e w' => e = .returned (.int .i64 (pairCode c d)) ∧ Below w.heap.size w w' := by
  obtain ⟨a, cap, rfl⟩ : ∃ a cap, cv = .agg #[.int .i64 c.n, .int .i64 c.t, .slice a c.w.length cap] := by
    obtain ⟨v, rfl, hr⟩ := hc
    obtain ⟨_, a, cap, rfl⟩ := hr.len
    exact ⟨a, cap, rfl⟩
  obtain ⟨a', cap', rfl⟩ : ∃ a cap, dv = .agg #[.int .i64 d.n, .int .i64 d.t, .slice a d.w.length cap] := by
    obtain ⟨v, rfl, hr⟩ := hd
    obtain ⟨_, a, cap, rfl⟩ := hr.len
    exact ⟨a, cap, rfl⟩
  have B0 := below2 w (.cells #[.int .i64 c.n, .int .i64 c.t, .slice a c.w.length cap] 26) (.cells #[.int .i64 d.n, .int .i64 d.t, .slice a' d.w.length cap'] 26)
  have hB := (Blk.new w #[.int .i64 c.n, .int .i64 c.t, .slice a c.w.length cap] 26).alloc (.cells #[.int .i64 d.n, .int .i64 d.t, .slice a' d.w.length cap'] 26)
  have hD := Blk.new (w.alloc (.cells #[.int .i64 c.n, .int .i64 c.t, .slice a c.w.length cap] 26)) #[.int .i64 d.n, .int .i64 d.t, .slice a' d.w.length cap'] 26
  simp only [World.size_alloc] at hD
  have Kc := hc.keep B0
  have Kd := hd.keep B0
  by_cases oc : chOk c = true
  · by_cases od : chOk d = true
    · by_cases hn : c.n = d.n
      · have hr := Lib.hid (show pairCode c d = 0 by simp [pairCode, oc, od, hn])
        have hn1 : (c.n != d.n) = false := by simpa using hn
        clear hn
        go_enter Try.func60, Try.ntmps60
        go_wp2_with fail
        refine (ValidChain_impl _ c _ Kc).mono ?_
        rintro e w1 ⟨rfl, b1⟩
        have hB1 := hB.keep b1 hB.lt
        have hD1 := hD.keep b1 hD.lt
        have g0 : w1.cell? _ = _ := hD1.cell 0
        have g1 : w1.cell? _ = _ := hD1.cell 1
        have g2 : w1.cell? _ = _ := hD1.cell 2
        simp at g0 g1 g2
        go_wp2_with fail
        refine (ValidChain_impl _ d _ (Kd.keep b1)).mono ?_
        rintro e w2 ⟨rfl, b2⟩
        have hB2 := hB1.keep b2 hB1.lt
        have hD2 := hD1.keep b2 hD1.lt
        have k0 : w2.cell? _ = _ := hD2.cell 0
        have k1 : w2.cell? _ = _ := hB2.cell 0
        simp at k0 k1
        go_wp2
        go_ret
        exact ⟨ret_int hr.out.symm, below_wt (below_wt B0 b1) b2⟩
      · have hr := Lib.hid (show pairCode c d = 2 by simp [pairCode, oc, od, hn])
        have hn1 : (c.n != d.n) = true := by simpa using hn
        clear hn
        go_enter Try.func60, Try.ntmps60
        go_wp2_with fail
        refine (ValidChain_impl _ c _ Kc).mono ?_
        rintro e w1 ⟨rfl, b1⟩
        have hB1 := hB.keep b1 hB.lt
        have hD1 := hD.keep b1 hD.lt
        have g0 : w1.cell? _ = _ := hD1.cell 0
        have g1 : w1.cell? _ = _ := hD1.cell 1
        have g2 : w1.cell? _ = _ := hD1.cell 2
        simp at g0 g1 g2
        go_wp2_with fail
        refine (ValidChain_impl _ d _ (Kd.keep b1)).mono ?_
        rintro e w2 ⟨rfl, b2⟩
        have hB2 := hB1.keep b2 hB1.lt
        have hD2 := hD1.keep b2 hD1.lt
        have k0 : w2.cell? _ = _ := hD2.cell 0
        have k1 : w2.cell? _ = _ := hB2.cell 0
        simp at k0 k1
        go_wp2
        go_ret
        exact ⟨ret_int hr.out.symm, below_wt (below_wt B0 b1) b2⟩
    · have od' : chOk d = false := by simpa using od
      have hr := Lib.hid (show pairCode c d = 1 by simp [pairCode, od'])
      clear od
      go_enter Try.func60, Try.ntmps60
      go_wp2_with fail
      refine (ValidChain_impl _ c _ Kc).mono ?_
      rintro e w1 ⟨rfl, b1⟩
      have hD1 := hD.keep b1 hD.lt
      have g0 : w1.cell? _ = _ := hD1.cell 0
      have g1 : w1.cell? _ = _ := hD1.cell 1
      have g2 : w1.cell? _ = _ := hD1.cell 2
      simp at g0 g1 g2
      go_wp2_with fail
      refine (ValidChain_impl _ d _ (Kd.keep b1)).mono ?_
      rintro e w2 ⟨rfl, b2⟩
      go_wp2
      go_ret
      exact ⟨ret_int hr.out.symm, below_wt (below_wt B0 b1) b2⟩
  · have oc' : chOk c = false := by simpa using oc
    have hr := Lib.hid (show pairCode c d = 1 by simp [pairCode, oc'])
    clear oc
    go_enter Try.func60, Try.ntmps60
    go_wp2_with fail
    refine (ValidChain_impl _ c _ Kc).mono ?_
    rintro e w1 ⟨rfl, b1⟩
    go_wp2
    go_ret
    exact ⟨ret_int hr.out.symm, below_wt B0 b1⟩

set_option maxHeartbeats 4000000 in
theorem makeChain_lim (n t : Int) (F : Nat) (caps : Array Value) (w : World) (h : 6 < n ∨ 60 < t) :
    Calls Try.prog 61 #[.int .i64 n, .int .i64 t, .func (.func F) #[] caps] w fun e w' => e = .returned (.tuple #[.agg #[.int .i64 0, .int .i64 0, .slice none 0 0], .int .i64 3]) ∧ Below w.heap.size w w' := by
  have hA := Blk.new w #[.int .i64 0, .int .i64 0, .slice none 0 0] 26
  by_cases h1 : 6 < n
  · have h1' : decide (6 < n) = true := decide_eq_true h1
    clear h
    go_enter Try.func61, Try.ntmps61
    go_wp2
    refine bodyPost_ret (v := .tuple #[.agg #[.int .i64 0, .int .i64 0, .slice none 0 0], .int .i64 3]) (by simp [results, Try.results61, go_sem]) rfl ⟨rfl, below1 _ _⟩
  · have h2 : 60 < t := by omega
    have h1' : decide (6 < n) = false := decide_eq_false h1
    clear h h1
    go_enter Try.func61, Try.ntmps61
    go_wp2
    refine bodyPost_ret (v := .tuple #[.agg #[.int .i64 0, .int .i64 0, .slice none 0 0], .int .i64 3]) (by simp [results, Try.results61, go_sem]) rfl ⟨rfl, below1 _ _⟩

set_option maxHeartbeats 4000000 in
theorem mixF_any (b1 b2 : Nat) (c d : Ch) (s j : Nat) (w : World) (hc : ChP w b1 c) (hd : ChP w b2 d) (oc : chOk c = true) (od : chOk d = true) (hn : c.n = d.n) (hs : (s : Int) < c.n) (hj : (j : Int) < c.n) :
    Calls Try.prog 62 #[.int .i64 s, .int .i64 j, .pointer (some ⟨b1, 0, none⟩), .pointer (some ⟨b2, 0, none⟩)] w fun e w' => e = .returned (.int .i64 (mixF c d s j)) ∧ ∃ m, w' = w.drewN m := by
  obtain ⟨n1, n2, t1, t2, hlen, hrows⟩ := chOk_all oc
  obtain ⟨m1, m2, u1, u2, hlen2, hrows2⟩ := chOk_all od
  obtain ⟨vc, c0, c1, c2, Rc⟩ := hc
  obtain ⟨vd, d0, d1, d2, Rd⟩ := hd
  have ks : s < c.w.length := by omega
  have ks2 : s < d.w.length := by omega
  obtain ⟨xb, xo, xcap, xr, rfl, _, hxc⟩ := Rc.at (by omega)
  obtain ⟨yb, yo, ycap, yr, rfl, _, hyc⟩ := Rd.at (by omega)
  obtain ⟨xcell, xrow⟩ := hxc s ks
  obtain ⟨ycell, yrow⟩ := hyc s ks2
  obtain ⟨p1, p2, _⟩ := okRow_all (hrows _ (getD_mem (d := []) ks))
  obtain ⟨p3, p4, _⟩ := okRow_all (hrows2 _ (getD_mem (d := []) ks2))
  have hm := Lib.hid (show mixF c d s j = (c.w.getD s []).getD j 0 * d.t + (d.w.getD s []).getD j 0 * c.t from rfl)
  have g1 : (s : Int) < (c.w.length : Int) := by omega
  have g2 : (s : Int) < (d.w.length : Int) := by omega
  clear hxc hyc hrows hrows2 hlen hlen2 Rc Rd oc od
  generalize c.w.getD s [] = rowc at *
  generalize d.w.getD s [] = rowd at *
  generalize xr s = xv at *
  generalize yr s = yv at *
  obtain ⟨qb, qo, qcap, rfl, _, qc⟩ := xrow.at (by omega)
  obtain ⟨ob, oo, ocap, rfl, _, occ⟩ := yrow.at (by omega)
  have e1 := qc j (by omega)
  have e2 := occ j (by omega)
  have e3 := p2 _ (getD_mem (d := 0) (show j < rowc.length by omega))
  have e4 := p4 _ (getD_mem (d := 0) (show j < rowd.length by omega))
  have g3 : (j : Int) < (rowc.length : Int) := by omega
  have g4 : (j : Int) < (rowd.length : Int) := by omega
  clear qc occ p2 p4 p1 p3 xrow yrow hn
  generalize rowc.getD j 0 = x at *
  generalize rowd.getD j 0 = y at *
  obtain ⟨x0, x1⟩ := e3
  obtain ⟨y0, y1⟩ := e4
  have v1 := mul_bd x0 (Int.le_trans x1 t2) (show 0 ≤ d.t by omega) u2
  have v2 := mul_bd y0 (Int.le_trans y1 u2) (show 0 ≤ c.t by omega) t2
  have z1 : IntKind.i64.wrap (x * d.t) = x * d.t := wrap_id (by omega)
  have z2 : IntKind.i64.wrap (y * c.t) = y * c.t := wrap_id (by omega)
  have z3 : IntKind.i64.wrap (x * d.t + y * c.t) = x * d.t + y * c.t := wrap_id (by omega)
  clear v1 v2
  go_enter Try.func62, Try.ntmps62
  go_wp2
  go_quiet (fail)
  go_wp2
  go_ret
  exact ⟨ret_int hm.out.symm, _, rfl⟩

/-! ### the mixed chain is valid just if its total is -/
theorem rowsOf_length (n : Nat) (f : Nat → Nat → Int) : (rowsOf n f).length = n := by simp [rowsOf]
theorem sum_map_add (l : List Nat) (f g : Nat → Int) : (l.map fun i => f i + g i).sum = (l.map f).sum + (l.map g).sum := by
  induction l with
  | nil => rfl
  | cons x r ih => simp only [List.map_cons, List.sum_cons, ih]; omega
theorem sum_map_mul (l : List Nat) (f : Nat → Int) (k : Int) : (l.map fun i => f i * k).sum = (l.map f).sum * k := by
  induction l with
  | nil => simp
  | cons x r ih => simp only [List.map_cons, List.sum_cons, ih, Int.add_mul]
theorem map_getD_range (row : List Int) : (List.range row.length).map (fun i => row.getD i 0) = row := by
  apply List.ext_getElem (by simp)
  intro i h1 h2
  simp [List.getD, h2]
theorem okRow_of {n : Nat} {t : Int} {row : List Int} (h1 : row.length = n) (h2 : ∀ x ∈ row, 0 ≤ x) (h3 : row.sum = t) : okRow n t row = true := by
  have hle : ∀ x ∈ row, x ≤ row.sum := by
    clear h1 h3
    induction row with
    | nil => simp
    | cons y r ih =>
      have hr : 0 ≤ r.sum := by
        clear ih
        induction r with
        | nil => simp
        | cons z q ih2 => simp only [List.sum_cons]; have := h2 z (by simp); have := ih2 (fun x hx => h2 x (by simp at hx ⊢; rcases hx with h | h <;> simp [h])); omega
      intro x hx
      simp only [List.mem_cons] at hx
      simp only [List.sum_cons]
      rcases hx with rfl | hx
      · omega
      · have := ih (fun z hz => h2 z (by simp [hz])) x hx
        have := h2 y (by simp)
        omega
  simp only [okRow, Bool.and_eq_true, decide_eq_true_eq, List.all_eq_true, inB_iff]
  exact ⟨by omega, fun x hx => ⟨h2 x hx, by rw [← h3]; exact hle x hx⟩, h3⟩

theorem mix_ok {c d : Ch} (oc : chOk c = true) (od : chOk d = true) (hn : c.n = d.n) (ht : 2 * c.t * d.t ≤ 60) : chOk (mixCh c d) = true := by
  obtain ⟨n1, n2, t1, t2, hlen, hrows⟩ := chOk_all oc
  obtain ⟨m1, m2, u1, u2, hlen2, hrows2⟩ := chOk_all od
  have hpos : 1 ≤ 2 * c.t * d.t := by
    have := Int.mul_le_mul (show (2 : Int) ≤ 2 * c.t by omega) u1 (by omega) (by omega)
    omega
  have hN : (c.n.toNat : Int) = c.n := by omega
  simp only [chOk, mixCh, Bool.and_eq_true, decide_eq_true_eq, List.all_eq_true, inB_iff, rowsOf_length]
  refine ⟨⟨n1, n2⟩, ⟨hpos, ht⟩, hN, fun r hr => ?_⟩
  simp only [rowsOf, List.mem_map, List.mem_range] at hr
  obtain ⟨s, hs, rfl⟩ := hr
  obtain ⟨q1, q2, q3⟩ := okRow_all (hrows _ (getD_mem (d := []) (show s < c.w.length by omega)))
  obtain ⟨p1, p2, p3⟩ := okRow_all (hrows2 _ (getD_mem (d := []) (show s < d.w.length by omega)))
  have key : okRow (c.n.toNat : Nat) (2 * c.t * d.t) ((List.range c.n.toNat).map fun t => mixF c d s t) = true := by
    refine okRow_of (by simp) (fun x hx => ?_) ?_
    · simp only [List.mem_map, List.mem_range] at hx
      obtain ⟨j, hj, rfl⟩ := hx
      have h1 := q2 _ (getD_mem (d := 0) (show j < (c.w.getD s []).length by omega))
      have h2 := p2 _ (getD_mem (d := 0) (show j < (d.w.getD s []).length by omega))
      have := Int.mul_nonneg h1.1 (show 0 ≤ d.t by omega)
      have := Int.mul_nonneg h2.1 (show 0 ≤ c.t by omega)
      simp only [mixF]; omega
    · have e1 : (List.range c.n.toNat).map (fun j => (c.w.getD s []).getD j 0) = c.w.getD s [] := by
        have : c.n.toNat = (c.w.getD s []).length := by omega
        rw [this]; exact map_getD_range _
      have e2 : (List.range c.n.toNat).map (fun j => (d.w.getD s []).getD j 0) = d.w.getD s [] := by
        have : c.n.toNat = (d.w.getD s []).length := by omega
        rw [this]; exact map_getD_range _
      simp only [mixF]
      rw [sum_map_add, sum_map_mul, sum_map_mul, e1, e2, q3, p3]
      have : d.t * c.t = c.t * d.t := Int.mul_comm _ _
      rw [this, Int.mul_assoc]; omega
  rw [hN] at key
  exact key
theorem mix_lim {c d : Ch} (oc : chOk c = true) (od : chOk d = true) (hn : c.n = d.n) : lim (mixCh c d) = if 60 < 2 * c.t * d.t then (zeroCh, 3) else (mixCh c d, 0) := by
  by_cases h : 60 < 2 * c.t * d.t
  · have : chOk (mixCh c d) = false := by
      rw [Bool.eq_false_iff]; intro hc
      have := (chOk_all hc).2.2.2.1
      simp only [mixCh] at this; omega
    simp [lim, this, h]
  · simp [lim, mix_ok oc od hn (by omega), h]

theorem cf_mix : ∀ args w, (callFunc 62 args).run Try.prog w = .ok (.enter 62 args) w := fun _ _ => by go_simp

set_option maxHeartbeats 8000000 in
theorem MixChains_impl (cv dv : Value) (c d : Ch) (w : World) (hc : ChR w cv c) (hd : ChR w dv d) :
    Calls Try.prog 18 #[cv, dv] w fun e w' => ∃ rv, e = .returned (.tuple #[rv, .int .i64 (mixOf c d).2]) ∧ ChOwn 37 2 w' w.heap.size w'.heap.size rv (mixOf c d).1 ∧ Below w.heap.size w w' := by
  obtain ⟨a, cap, rfl⟩ : ∃ a cap, cv = .agg #[.int .i64 c.n, .int .i64 c.t, .slice a c.w.length cap] := by
    obtain ⟨v, rfl, hr⟩ := hc
    obtain ⟨_, a, cap, rfl⟩ := hr.len
    exact ⟨a, cap, rfl⟩
  obtain ⟨a', cap', rfl⟩ : ∃ a cap, dv = .agg #[.int .i64 d.n, .int .i64 d.t, .slice a d.w.length cap] := by
    obtain ⟨v, rfl, hr⟩ := hd
    obtain ⟨_, a, cap, rfl⟩ := hr.len
    exact ⟨a, cap, rfl⟩
  have B0 := below3 w (.cells #[.int .i64 c.n, .int .i64 c.t, .slice a c.w.length cap] 26) (.cells #[.int .i64 d.n, .int .i64 d.t, .slice a' d.w.length cap'] 26) (.cells #[.int .i64 0, .int .i64 0, .slice none 0 0] 26)
  have hB := ((Blk.new w #[.int .i64 c.n, .int .i64 c.t, .slice a c.w.length cap] 26).alloc (.cells #[.int .i64 d.n, .int .i64 d.t, .slice a' d.w.length cap'] 26)).alloc (.cells #[.int .i64 0, .int .i64 0, .slice none 0 0] 26)
  have hD := (Blk.new (w.alloc (.cells #[.int .i64 c.n, .int .i64 c.t, .slice a c.w.length cap] 26)) #[.int .i64 d.n, .int .i64 d.t, .slice a' d.w.length cap'] 26).alloc (.cells #[.int .i64 0, .int .i64 0, .slice none 0 0] 26)
  have hZ := Blk.new ((w.alloc (.cells #[.int .i64 c.n, .int .i64 c.t, .slice a c.w.length cap] 26)).alloc (.cells #[.int .i64 d.n, .int .i64 d.t, .slice a' d.w.length cap'] 26)) #[.int .i64 0, .int .i64 0, .slice none 0 0] 26
  simp only [World.size_alloc] at hZ hD
  have Kc := hc.keep B0
  have Kd := hd.keep B0
  by_cases h0 : pairCode c d = 0
  · obtain ⟨oc, od, hn⟩ := pair_zero h0
    obtain ⟨n1, n2, t1, t2, hlen, hrows⟩ := chOk_all oc
    obtain ⟨m1, m2, u1, u2, hlen2, hrows2⟩ := chOk_all od
    obtain ⟨hp3, hp4⟩ := mul_bd (show 0 ≤ 2 * c.t by omega) (show 2 * c.t ≤ 120 by omega) (show 0 ≤ d.t by omega) u2
    have hn' := Lib.hid hn
    clear hlen hrows hlen2 hrows2 hn
    go_enter Try.func18, Try.ntmps18
    go_wp2_with fail
    refine (checkTwo_any _ _ c d _ Kc Kd).mono ?_
    rintro e w1 ⟨rfl, b1⟩
    have hB1 := hB.keep b1 hB.lt
    have hD1 := hD.keep b1 hD.lt
    have hZ1 := hZ.keep b1 hZ.lt
    have BB := below_wt B0 b1
    have Pc : ChP w1 w.heap.size c := ⟨_, hB1.cell 0, hB1.cell 1, hB1.cell 2, (Kc.keep b1).rows⟩
    have Pd : ChP w1 (w.heap.size + 1) d := ⟨_, hD1.cell 0, hD1.cell 1, hD1.cell 2, (Kd.keep b1).rows⟩
    have g0 : w1.cell? ⟨w.heap.size, 0, none⟩ = _ := hB1.cell 0
    have g1 : w1.cell? ⟨w.heap.size, 1, none⟩ = _ := hB1.cell 1
    have g2 : w1.cell? ⟨w.heap.size + 1, 1, none⟩ = _ := hD1.cell 1
    simp at g0 g1 g2
    have hml := mix_lim oc od hn'.out
    by_cases hq : 60 < 2 * c.t * d.t
    · have hr := Lib.hid (show mixOf c d = (zeroCh, 3) by simp [mixOf, h0, hml, hq])
      have hmc := makeChain_lim c.n (2 * c.t * d.t) 62 #[.pointer (some ⟨w.heap.size, 0, none⟩), .pointer (some ⟨w.heap.size + 1, 0, none⟩)] w1 (Or.inr hq)
      go_wp2_with fail
      refine hmc.mono ?_
      rintro e w2 ⟨rfl, b2⟩
      have hZ2 := hZ1.keep b2 hZ1.lt
      have q0 := hZ2.cell 0
      have q1 := hZ2.cell 1
      have q2 := hZ2.cell 2
      have f0 := hZ2.frozen 0
      have f1 := hZ2.frozen 1
      have f2 := hZ2.frozen 2
      simp at q0 q1 q2
      go_wp2
      refine bodyPost_ret (v := .tuple #[.agg #[.int .i64 0, .int .i64 0, .slice none 0 0], .int .i64 3]) (by simp [results, Try.results18, go_sem, q0, q1, q2]) rfl ?_
      rw [hr.out]
      refine ⟨_, rfl, zero_own _ _ _, (((below_wt BB b2).setCell ?_ _).setCell ?_ _).setCell ?_ _⟩
      all_goals (simp only; omega)
    · have hr := Lib.hid (show mixOf c d = (mixCh c d, 0) by simp [mixOf, h0, hml, hq])
      obtain ⟨N, hN⟩ : ∃ N : Nat, c.n = N := ⟨c.n.toNat, by omega⟩
      have hmc := makeChain_any N (2 * c.t * d.t) 62 #[.pointer (some ⟨w.heap.size, 0, none⟩), .pointer (some ⟨w.heap.size + 1, 0, none⟩)] (mixF c d) w1 (by omega) (by omega) (by omega) cf_mix
        (fun W s j hW hs hj => mixF_any w.heap.size (w.heap.size + 1) c d s j W (Pc.keep hW) (Pd.keep hW) oc od hn'.out (by omega) (by omega))
      rw [← hN] at hmc
      have hres := Lib.hid (show (⟨c.n, 2 * c.t * d.t, rowsOf N (mixF c d)⟩ : Ch) = mixCh c d by unfold mixCh; rw [hN]; rfl)
      clear hml hN
      go_wp2_with fail
      refine hmc.mono ?_
      rintro e w2 ⟨rv, rfl, own2, b2⟩
      rw [hres.out] at own2
      have hZ2 := hZ1.keep b2 hZ1.lt
      have q0 := hZ2.cell 0
      have q1 := hZ2.cell 1
      have q2 := hZ2.cell 2
      have f0 := hZ2.frozen 0
      have f1 := hZ2.frozen 1
      have f2 := hZ2.frozen 2
      simp at q0 q1 q2
      have BB2 := below_wt BB b2
      have hsz1 : w.heap.size + 3 ≤ w1.heap.size := by have := hZ1.lt; omega
      have hsz2 := b2.size
      generalize mixCh c d = rc at own2 hr
      obtain ⟨ra, rcap, rfl⟩ : ∃ a cap, rv = .agg #[.int .i64 rc.n, .int .i64 rc.t, .slice a rc.w.length cap] := by
        obtain ⟨v, rfl, hr⟩ := own2
        obtain ⟨_, a, cap, rfl⟩ := hr.rows.len
        exact ⟨a, cap, rfl⟩
      go_wp2
      refine bodyPost_ret (v := .tuple #[.agg #[.int .i64 rc.n, .int .i64 rc.t, .slice ra rc.w.length rcap], .int .i64 0]) (by simp [results, Try.results18, go_sem, q0, q1, q2]) rfl ?_
      rw [hr.out]
      refine ⟨_, rfl, (own2.same ((((SameOn.refl _ _ _).set (Or.inl ?_) _).set (Or.inl ?_) _).set (Or.inl ?_) _)).wide ?_ ?_, ((BB2.setCell ?_ _).setCell ?_ _).setCell ?_ _⟩
      all_goals first | omega | (simp only; omega) | (simp [World.setCell]; done) | (simp [World.setCell]; omega)
  · have hr := Lib.hid (show mixOf c d = (zeroCh, pairCode c d) by simp [mixOf, h0])
    have h0' : (pairCode c d != 0) = true := by simpa using h0
    clear h0
    go_enter Try.func18, Try.ntmps18
    go_wp2_with fail
    refine (checkTwo_any _ _ c d _ Kc Kd).mono ?_
    rintro e w1 ⟨rfl, b1⟩
    have hZ1 := hZ.keep b1 hZ.lt
    have q0 := hZ1.cell 0
    have q1 := hZ1.cell 1
    have q2 := hZ1.cell 2
    have f0 := hZ1.frozen 0
    have f1 := hZ1.frozen 1
    have f2 := hZ1.frozen 2
    simp at q0 q1 q2
    generalize pairCode c d = pc at h0' hr
    go_wp2
    refine bodyPost_ret (v := .tuple #[.agg #[.int .i64 0, .int .i64 0, .slice none 0 0], .int .i64 pc]) (by simp [results, Try.results18, go_sem, q0, q1, q2]) rfl ?_
    rw [hr.out]
    refine ⟨_, rfl, zero_own _ _ _, (((below_wt B0 b1).setCell ?_ _).setCell ?_ _).setCell ?_ _⟩
    all_goals (simp only; omega)
end Go.Proofs.Ytepajimcnheofaa
