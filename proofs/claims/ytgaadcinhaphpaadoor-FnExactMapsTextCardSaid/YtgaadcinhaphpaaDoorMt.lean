/- The text of maps, by the specification and by the project. Conditions: none. -/
import Derived.Test.YtgaadcinhaphpaaDoorTxt5
import Derived.Test.YtgaadcinhaphpaaDoorTxk
import Derived.Test.YtgaadcinhaphpaaDoorMsCh
import Derived.Test.YtgaadcinhaphpaaDoorMsOkS
namespace Go.Proofs.YtgaadcinhaphpaaDoor
open Go.RowKit Go.Deep
set_option linter.unusedVariables false
set_option linter.unusedSimpArgs false

def wdM (p : Mp) : List UInt8 := [109, 97, 112, 32] ++ (decL p.1.toNat ++ [32, 58])
def rowsM (l : List Mp) : List UInt8 := l.flatMap fun p => lineL (wdM p) p.2
def headM (m : Ms) : List UInt8 := lineL [109, 97, 112, 115] [m.n, m.t]
def outM (m : Ms) (k : Nat) : ByteArray := BA (headM m ++ rowsM (m.l.take k))
def midM (m : Ms) (k j : Nat) : ByteArray := BA (headM m ++ (rowsM (m.l.take k) ++ (wdM (m.l.getD k mp0) ++ numsL ((m.l.getD k mp0).2.take j))))
def mtextOf (m : Ms) : ByteArray := if msOk m = true then BA (headM m ++ rowsM m.l) else BA []
theorem headM_is (m : Ms) : ByteArray.mk #[109, 97, 112, 115, 32] ++ decB m.n.toNat ++ ByteArray.mk #[32] ++ decB m.t.toNat ++ ByteArray.mk #[10] = outM m 0 := by
  show BA [109, 97, 112, 115, 32] ++ BA _ ++ BA [32] ++ BA _ ++ BA [10] = _
  simp only [BA_append, outM, headM, lineL, numsL, rowsM, List.take_zero, List.flatMap_nil, List.flatMap_cons, List.append_nil]
  simp
theorem mapM_is (m : Ms) (k : Nat) : outM m k ++ (ByteArray.mk #[109, 97, 112, 32] ++ decB (m.l.getD k mp0).1.toNat ++ ByteArray.mk #[32, 58]) = midM m k 0 := by
  show BA _ ++ (BA [109, 97, 112, 32] ++ BA _ ++ BA [32, 58]) = _
  simp [BA_append, midM, numsL, wdM]
theorem numM_is (m : Ms) (k j : Nat) (h : j < (m.l.getD k mp0).2.length) : midM m k j ++ (ByteArray.mk #[32] ++ decB ((m.l.getD k mp0).2.getD j 0).toNat) = midM m k (j + 1) := by
  show BA _ ++ (BA [32] ++ BA _) = _
  rw [BA_append, BA_append]
  simp only [midM]
  rw [take_next _ 0 j h]
  simp [numsL]
theorem rowsM_next (l : List Mp) (k : Nat) (h : k < l.length) : rowsM (l.take (k + 1)) = rowsM (l.take k) ++ lineL (wdM (l.getD k mp0)) (l.getD k mp0).2 := by
  rw [take_next _ mp0 k h]
  simp [rowsM]
theorem lineM_is (m : Ms) (k : Nat) (h : k < m.l.length) : midM m k (m.l.getD k mp0).2.length ++ ByteArray.mk #[10] = outM m (k + 1) := by
  show BA _ ++ BA [10] = _
  rw [BA_append, outM, rowsM_next _ k h, List.take_length]
  simp [lineL]
theorem mtext_is (m : Ms) (h : msOk m = true) : outM m m.l.length = mtextOf m := by
  rw [mtextOf, if_pos h, outM, List.take_length]
theorem lim_m {x : Nat} (h : x ≤ 2) : (¬ 9223372036854775807 < 5 + x) ∧ (¬ 9223372036854775807 < 5 + x + 1) := by omega
theorem lim_m2 {x y : Nat} (h : x ≤ 2) (h' : y ≤ 2) : (¬ 9223372036854775807 < 5 + x + 1 + y) ∧ (¬ 9223372036854775807 < 5 + x + 1 + y + 1) := by omega
theorem ms_bounds {m : Ms} (h : msOk m = true) : 1 ≤ m.n ∧ m.n ≤ 6 ∧ 1 ≤ m.t ∧ m.t ≤ 60 ∧ 1 ≤ m.l.length ∧ m.l.length ≤ 60 := by
  simp only [msOk, Bool.and_eq_true, inB_iff] at h
  omega

set_option maxRecDepth 100000 in
set_option maxHeartbeats 4000000 in
theorem l05Text_any (b : Nat) (c : Ms) (w : World) (hc : MsP w b c) (hok : msOk c = true) :
    Calls Tryd.prog 41 #[.pointer (some ⟨b, 0, none⟩)] w fun e w' => e = .returned (.string (mtextOf c)) ∧ Below w.heap.size w w' := by
  obtain ⟨n1, n2, t1, t2, l1, l2⟩ := ms_bounds hok
  have hat := Lib.hid (fun k hk => msOk_at hok k hk)
  obtain ⟨v, k0, k1, k2, R⟩ := hc
  have hb := block_lt k0
  simp only at hb
  obtain ⟨hm, ra, rcap, rfl⟩ := R.len
  have R' := Lib.hid R
  have hhead := Lib.hid (headM_is c)
  have hfin := Lib.hid (mtext_is c hok)
  have hN1 : (0 : Int) < (c.l.length : Int) := by omega
  have hn6 := Lib.hid n2
  have hdn := Lib.hid (fun u => Decimal_int c.n u (by omega) (by omega))
  have hdt := Lib.hid (fun u => Decimal_int c.t u (by omega) (by omega))
  clear R hok n1 n2 t1 t2 hm
  go_enter Tryd.func41, Tryd.ntmps41
  go_upto_region 1 with fail
  go_region_held3 (fun w' => w'.cell? ⟨b, 0, none⟩ = some (.int .i64 c.n) ∧ w'.cell? ⟨b, 1, none⟩ = some (.int .i64 c.t)) (go_keep) (first | (have _t := tok1; go_at_call 48; (with_reducible refine (hdt.out _).mono ?_); rintro e w2 ⟨d2, rfl, s2, e2, b2⟩; have _k1 := (b2.cell (p := ⟨b, 0, none⟩) (Nat.lt_of_lt_of_le hb b1.size)); have _k2 := (b2.cell (p := ⟨b, 1, none⟩) (Nat.lt_of_lt_of_le hb b1.size)); have _m2 := (lim_m2 s1 s2).1; have _m3 := (lim_m2 s1 s2).2) | (go_at_call 48; (with_reducible refine (hdn.out _).mono ?_); rintro e w1 ⟨d1, rfl, s1, e1, b1⟩; have tok1 : True := trivial; have _m0 := (lim_m s1).1; have _m1 := (lim_m s1).2; have _k1 := (b1.cell (p := ⟨b, 0, none⟩) hb); have _k2 := (b1.cell (p := ⟨b, 1, none⟩) hb); simp [k0, k1] at _k1 _k2) | fail "no arm")
  have B2 := below_wt (below_wt ((Below.refl w.heap.size w).drew) b1) b2
  have hS0 := Lib.hid (show ByteArray.mk #[109, 97, 112, 115, 32] ++ d1 ++ ByteArray.mk #[32] ++ d2 ++ ByteArray.mk #[10] = outM c 0 by rw [e1.out, e2.out]; exact hhead.out)
  have hz0 : (ByteArray.mk #[109, 97, 112, 115, 32] ++ d1 ++ ByteArray.mk #[32] ++ d2 ++ ByteArray.mk #[10]).size ≤ 12 := by
    simp only [ByteArray.size_append', ByteArray.size_mk', Array.size]
    simp
    omega
  generalize (ByteArray.mk #[109, 97, 112, 115, 32] ++ d1 ++ ByteArray.mk #[32] ++ d2 ++ ByteArray.mk #[10]) = S0 at *
  clear _m0 _m1 _m2 _m3 _k1 _k2 e1 e2 s1 s2 b1 b2 tok1 _t
  go_wp2
  go_loopw [3, 4] (fun o i wr => ∃ (k : Nat) (S : ByteArray), k ≤ c.l.length ∧ i = .int .i64 (k : Int) ∧ o = .string S ∧ S.size ≤ 12 + 30 * k ∧ Hid (S = outM c k) ∧ Below w.heap.size w wr) (fun _ i _ => c.l.length - (intOf i).toNat)
  case atStart => exact ⟨0, S0, Nat.zero_le _, rfl, rfl, hz0, hS0, B2⟩
  case round =>
    obtain ⟨wo, rfl⟩ : ∃ wo : World, wo = wr := ⟨_, rfl⟩
    obtain ⟨k, S, hk, rfl, rfl, hz, hS, bo⟩ := hrel
    have q2 := (bo.cell (p := ⟨b, 2, none⟩) hb).trans k2
    by_cases hlt : k < c.l.length
    · have hkn : (k : Int) < (c.l.length : Int) := by omega
      obtain ⟨rb, off, cap', rv, hvv, hbl, hcl⟩ := (R'.out.keep bo).at (by omega)
      simp only [Value.slice.injEq] at hvv
      obtain ⟨rfl, -, rfl⟩ := hvv
      obtain ⟨hcw, hcell, hrow⟩ := hcl k hlt
      obtain ⟨⟨a1, a2⟩, a3, a4⟩ := hat.out k hlt
      have hmap := Lib.hid (mapM_is c k)
      have hnum := Lib.hid (fun j h => numM_is c k j h)
      have hline := Lib.hid (lineM_is c k hlt)
      have hrl : (c.l.getD k mp0).2.length ≤ 6 := by have := hn6.out; omega
      have r2' := Lib.hid (show ∀ j, j < (c.l.getD k mp0).2.length → 0 ≤ (c.l.getD k mp0).2.getD j 0 ∧ (c.l.getD k mp0).2.getD j 0 < 100 from fun j hj => by have := a4 j hj; have := hn6.out; omega)
      generalize c.l.getD k mp0 = p at hcw hrow hmap hnum hline hrl r2' a1 a2
      obtain ⟨pw, row⟩ := p
      simp only at hcw hrow hmap hnum hline hrl r2' a1 a2
      generalize rv k = rk at hcell hrow
      have hdw := Lib.hid (fun u => Decimal_int pw u (by omega) (by omega))
      clear a1 a2 a3 a4 hcl
      go_wp2_with fail
      (with_reducible refine (hdw.out _).mono ?_)
      rintro e w3 ⟨d, rfl, sd, ed, b3⟩
      have l3 : ¬ 9223372036854775807 < 4 + d.size := by omega
      have l4 : ¬ 9223372036854775807 < 4 + d.size + 2 := by omega
      have l5 : ¬ 9223372036854775807 < S.size + (4 + d.size + 2) := by omega
      have hT0 := Lib.hid (show S ++ (ByteArray.mk #[109, 97, 112, 32] ++ d ++ ByteArray.mk #[32, 58]) = midM c k 0 by rw [hS.out, ed.out]; exact hmap.out)
      have hz0' : (S ++ (ByteArray.mk #[109, 97, 112, 32] ++ d ++ ByteArray.mk #[32, 58])).size ≤ 20 + 30 * k := by
        simp only [ByteArray.size_append', ByteArray.size_mk', Array.size]
        simp
        omega
      have q3 := (b3.cell (p := ⟨b, 2, none⟩) (Nat.lt_of_lt_of_le hb bo.size)).trans q2
      have hcell3 := (b3.cell (p := ⟨rb, off + k * 2 + 1, none⟩) hbl).trans hcell
      have hrow3 := hrow.keep b3
      have b03 := below_wt bo b3
      have hbl3 : rb < w3.heap.size := Nat.lt_of_lt_of_le hbl b3.size
      have hb3 : b < w3.heap.size := Nat.lt_of_lt_of_le hb b03.size
      obtain ⟨hrm, xa, xc, rfl⟩ := hrow3.len
      clear q2 hcw hcell hrow hdw b3 bo
      go_wp2
      go_loopw [3, 5] (fun o i wr => ∃ (j : Nat) (T : ByteArray), j ≤ row.length ∧ i = .int .i64 (j : Int) ∧ o = .string T ∧ T.size ≤ 20 + 30 * k + 3 * j ∧ Hid (T = midM c k j) ∧ Below w3.heap.size w3 wr) (fun _ i _ => row.length - (intOf i).toNat)
      case atStart => exact ⟨0, _, Nat.zero_le _, rfl, rfl, hz0', hT0, Below.refl _ _⟩
      case round =>
        obtain ⟨w4, rfl⟩ : ∃ w4 : World, w4 = wr := ⟨_, rfl⟩
        obtain ⟨j, T, hj, rfl, rfl, hzT, hT, bel⟩ := hrel
        have q4 := (bel.cell (p := ⟨b, 2, none⟩) hb3).trans q3
        have hcell4 := (bel.cell (p := ⟨rb, off + k * 2 + 1, none⟩) hbl3).trans hcell3
        clear q3 hcell3
        by_cases hjlt : j < row.length
        · have hjI : (j : Int) < (row.length : Int) := by omega
          obtain ⟨xb, xo, xc', hxv, hxb, hxc⟩ := (hrow3.keep bel).at (by omega)
          simp only [Value.slice.injEq] at hxv
          obtain ⟨rfl, -, rfl⟩ := hxv
          have hx := hxc j hjlt
          have hxd := r2'.out j hjlt
          have hn' := Lib.hid (hnum.out j hjlt)
          generalize row.getD j 0 = x at hx hxd hn'
          have hdx := Lib.hid (fun u => Decimal_int x u hxd.1 hxd.2)
          clear hxd hxc
          go_wp2_with fail
          (with_reducible refine (hdx.out _).mono ?_)
          rintro e w5 ⟨dx, rfl, sx, ex, b5⟩
          have m1 : ¬ 9223372036854775807 < 1 + dx.size := by omega
          have m2 : ¬ 9223372036854775807 < T.size + (1 + dx.size) := by omega
          have hsz : (T ++ (ByteArray.mk #[32] ++ dx)).size ≤ 20 + 30 * k + 3 * (j + 1) := by
            rw [ByteArray.size_append', ByteArray.size_append']; show T.size + (1 + dx.size) ≤ _; omega
          have hT' := Lib.hid (show T ++ (ByteArray.mk #[32] ++ dx) = midM c k (j + 1) by rw [hT.out, ex.out]; exact hn'.out)
          go_wp2
          go_roundw
          case rel => exact ⟨j + 1, _, by omega, by go_num, rfl, hsz, hT', below_wt bel b5⟩
          case measure => simp [intOf]; omega
        · obtain rfl : j = row.length := by omega
          have m1 : ¬ 9223372036854775807 < T.size + 1 := by omega
          have hsz : (T ++ ByteArray.mk #[10]).size ≤ 12 + 30 * (k + 1) := by
            rw [ByteArray.size_append']; show T.size + 1 ≤ _; omega
          have hT' := Lib.hid (show T ++ ByteArray.mk #[10] = outM c (k + 1) by rw [hT.out]; exact hline.out)
          go_wp2
          go_roundw
          case rel => exact ⟨k + 1, _, by omega, by go_num, rfl, hsz, hT', below_wt b03 bel⟩
          case measure => simp [intOf]; omega
    · obtain rfl : k = c.l.length := by omega
      have hr := Lib.hid (show S = mtextOf c by rw [hS.out]; exact hfin.out)
      go_wp2
      go_ret
      exact ⟨show Ending.returned (.string S) = _ by rw [hr.out], bo⟩

set_option maxHeartbeats 2000000 in
theorem MapsText_spec (cv : Value) (c : Ms) (w : World) (hv : MsR w cv c) :
    Calls Tryd.prog 18 #[cv] w fun e w' => e = .returned (.string (mtextOf c)) ∧ Below w.heap.size w w' := by
  obtain ⟨v, rfl, hr⟩ := hv
  have B0 := below1 w (.cells #[.int .i64 c.n, .int .i64 c.t, v] 44)
  have hB := Blk.new w #[.int .i64 c.n, .int .i64 c.t, v] 44
  have P : MsP (w.alloc (.cells #[.int .i64 c.n, .int .i64 c.t, v] 44)) w.heap.size c := ⟨v, hB.cell 0, hB.cell 1, hB.cell 2, hr.keep B0⟩
  have ho := l05Ok_any _ c _ P
  by_cases hok : msOk c = true
  · have ht := Lib.hid (fun u p => l05Text_any w.heap.size c u p hok)
    rw [hok] at ho
    clear hok
    go_enter Tryd.func18, Tryd.ntmps18
    go_wp2_with fail
    refine ho.mono ?_
    rintro e w1 ⟨rfl, m, rfl⟩
    replace P := P.keep (below_drewN (Below.refl _ _) m)
    have B1 := below_drewN B0 m
    generalize (w.alloc (.cells #[.int .i64 c.n, .int .i64 c.t, v] 44)).drewN m = w1 at *
    go_wp2_with fail
    refine (ht.out _ P).mono ?_
    rintro e w2 ⟨rfl, b2⟩
    go_wp2
    go_ret
    exact ⟨rfl, below_wt B1 b2⟩
  · have hok' : msOk c = false := by simpa using hok
    have ht := Lib.hid (show mtextOf c = BA [] by rw [mtextOf, if_neg hok])
    rw [hok'] at ho
    clear hok hok'
    go_enter Tryd.func18, Tryd.ntmps18
    go_wp2_with fail
    refine ho.mono ?_
    rintro e w1 ⟨rfl, m, rfl⟩
    go_wp2
    go_ret
    exact ⟨by rw [ht.out]; rfl, below_drewN B0 m⟩

set_option maxHeartbeats 2000000 in
theorem FmtInt_small (x : Int) (w : World) (h : 0 ≤ x) (h1 : x < 100) : Calls Tryd.prog 69 #[.int .i64 x, .int .i64 10] w fun e w' => e = .returned (.string (BA (decL x.toNat))) ∧ w' = w := by
  have hs := Lib.hid (fun W => small_int x W h h1)
  go_enter Tryd.func69, Tryd.ntmps69
  go_wp2_with fail
  (with_reducible refine (hs.out _).mono ?_)
  rintro e w1 ⟨rfl, rfl⟩
  go_wp2
  go_ret
  exact ⟨rfl, rfl⟩
set_option maxHeartbeats 2000000 in
theorem FormatInt_small (x : Int) (w : World) (h : 0 ≤ x) (h1 : x < 100) : Calls Tryd.prog 44 #[.int .i64 x, .int .i64 10] w fun e w' => e = .returned (.string (BA (decL x.toNat))) ∧ w' = w := by
  have hs := Lib.hid (fun W => FmtInt_small x W h h1)
  go_enter Tryd.func44, Tryd.ntmps44
  go_wp2_with fail
  (with_reducible refine (hs.out _).mono ?_)
  rintro e w1 ⟨rfl, rfl⟩
  go_wp2
  go_ret
  exact ⟨rfl, rfl⟩
theorem wdM_is (pw : Int) (row : List Int) : ByteArray.mk #[109, 97, 112, 32] ++ BA (decL pw.toNat) ++ ByteArray.mk #[32, 58] = BA (wdM (pw, row)) := by
  show BA [109, 97, 112, 32] ++ BA _ ++ BA [32, 58] = _
  simp [BA_append, wdM]
theorem wdM_len (p : Mp) : (wdM p).length ≤ 10 := by
  have := (decL_len p.1.toNat).1
  simp [wdM]; omega

set_option maxRecDepth 100000 in
set_option maxHeartbeats 4000000 in
theorem MapsText_impl (cv : Value) (c : Ms) (w : World) (hv : MsR w cv c) :
    Calls Tryd.prog 20 #[cv] w fun e w' => e = .returned (.string (mtextOf c)) ∧ Below w.heap.size w w' := by
  obtain ⟨a, cap, rfl⟩ := hv.shape
  have B0 := below1 w (.cells #[.int .i64 c.n, .int .i64 c.t, .slice a c.l.length cap] 44)
  have hB := Blk.new w #[.int .i64 c.n, .int .i64 c.t, .slice a c.l.length cap] 44
  have K := hv.keep B0
  have hsz0 : (w.alloc (.cells #[.int .i64 c.n, .int .i64 c.t, .slice a c.l.length cap] 44)).heap.size = w.heap.size + 1 := by simp
  by_cases hok : msOk c = true
  · obtain ⟨n1, n2, t1, t2, l1, l2⟩ := ms_bounds hok
    have hat := Lib.hid (fun k hk => msOk_at hok k hk)
    have ht := Lib.hid (show mtextOf c = BA (headM c ++ rowsM (c.l.take c.l.length)) by rw [mtextOf, if_pos hok, List.take_length])
    have hvc := ValidMaps_impl _ c _ K
    rw [hok] at hvc
    have hnt : ∀ x ∈ [c.n, c.t], 0 ≤ x ∧ x < 100 := by
      intro x hx
      simp at hx
      omega
    have hline := Lib.hid (fun B nb u hB hnb hc => appendLine_any B (.slice none 0 0) 0 [] [109, 97, 112, 115] [c.n, c.t] nb 0 2 u (World.ownsRow_nil u B 5 1) hB (Nat.zero_le _) (by decide) (by simp) (by simp) hnb hc hnt)
    have hn6 := Lib.hid n2
    have hn1' := Lib.hid n1
    clear hok hnt n1 n2 t1 t2
    go_enter Tryd.func20, Tryd.ntmps20
    go_wp2_with fail
    refine hvc.mono ?_
    rintro e w1 ⟨rfl, b1⟩
    have K1 := K.keep b1
    have hB1 := hB.keep b1 hB.lt
    have B1 := below_wt B0 b1
    obtain ⟨p0, p1, p2⟩ := hB1.three
    have hsz1 := b1.size
    rw [hsz0] at hsz1
    clear b1 K hB
    have Ka := K1.keep (below1 w1 (.cells #[.int .i64 c.n, .int .i64 c.t] 2))
    have Ba := B1.alloc (by omega) (.cells #[.int .i64 c.n, .int .i64 c.t] 2)
    have hBa := (hB1.alloc (.cells #[.int .i64 c.n, .int .i64 c.t] 2)).cell 2
    have hca : ∀ j, j < [c.n, c.t].length → (w1.alloc (.cells #[.int .i64 c.n, .int .i64 c.t] 2)).cell? ⟨w1.heap.size, 0 + j, none⟩ = some (.int .i64 ([c.n, c.t].getD j 0)) := by
      intro j hj
      have : j = 0 ∨ j = 1 := by simp at hj; omega
      rcases this with rfl | rfl <;> simp
    have hcall := Lib.hid (hline.out (w1.heap.size + 1) w1.heap.size _ (by simp) (by omega) hca)
    have hza : (w1.alloc (.cells #[.int .i64 c.n, .int .i64 c.t] 2)).heap.size = w1.heap.size + 1 := by simp
    clear hca hline K1 B1
    go_wp2_with fail
    refine hcall.out.mono ?_
    rintro e w2 ⟨v2, L2, rfl, l3, l4, hown2, b2⟩
    obtain ⟨a2, cap2, rfl⟩ := own_shape hown2
    clear p0 p1 p2 hB1 hcall
    rw [← hza] at hown2 b2
    have hxz := hsz1
    generalize w1.alloc (.cells #[.int .i64 c.n, .int .i64 c.t] 2) = wa at *
    have hown2' := Lib.hid (show w2.ownsRow wa.heap.size 5 1 (.slice a2 L2 cap2) L2 (byc (headM c ++ rowsM (c.l.take 0))) by simpa [headM, rowsM] using hown2)
    have R : MapsL wa (.slice a c.l.length cap) c.l := by
      obtain ⟨v, hv', hr⟩ := Ka
      simp only [Value.agg.injEq, Array.mk.injEq, List.cons.injEq, and_true, true_and] at hv'
      rw [hv']; exact hr
    have R' := Lib.hid R
    have hwz : w.heap.size < wa.heap.size := by omega
    have p2 := (b2.cell (p := ⟨w.heap.size, 2, none⟩) hwz).trans hBa
    clear R hown2 Ka hBa hza hxz hsz1
    go_wp2
    go_loopw [3, 18] (fun tv i wr => ∃ (k L3 : Nat) (a3 : Option Addr) (cap3 : Nat), k ≤ c.l.length ∧ i = .int .i64 (k : Int) ∧ tv = .slice a3 L3 cap3 ∧ 0 < L3 ∧ L3 ≤ 30 + 30 * k ∧ Hid (wr.ownsRow wa.heap.size 5 1 (.slice a3 L3 cap3) L3 (byc (headM c ++ rowsM (c.l.take k)))) ∧ Below wa.heap.size wa wr) (fun _ i _ => c.l.length - (intOf i).toNat)
    case atStart => exact ⟨0, L2, a2, cap2, Nat.zero_le _, rfl, rfl, by omega, by omega, hown2', b2⟩
    case round =>
      obtain ⟨wo, rfl⟩ : ∃ wo : World, wo = wr := ⟨_, rfl⟩
      obtain ⟨k, L3, a3, cap3, hk, rfl, rfl, hl0, hl3, hown3, bel⟩ := hrel
      by_cases hlt : k < c.l.length
      · have hkI : (k : Int) < (c.l.length : Int) := by omega
        obtain ⟨rb, off, cap', rv, hvv, hbl, hcl⟩ := R'.out.at (by omega)
        simp only [Value.slice.injEq] at hvv
        obtain ⟨rfl, -, rfl⟩ := hvv
        obtain ⟨hcw0, hcell0, hrow0⟩ := hcl k hlt
        have hcw := (bel.cell (p := ⟨rb, off + k * 2, none⟩) hbl).trans hcw0
        have hcell := (bel.cell (p := ⟨rb, off + k * 2 + 1, none⟩) hbl).trans hcell0
        obtain ⟨⟨e1, e2⟩, e3, e4⟩ := hat.out k hlt
        have hnx := Lib.hid (rowsM_next c.l k hlt)
        have hrl : 1 ≤ (c.l.getD k mp0).2.length ∧ (c.l.getD k mp0).2.length ≤ 6 := by have := hn6.out; have := hn1'.out; omega
        have hr9 : ∀ x ∈ (c.l.getD k mp0).2, 0 ≤ x ∧ x < 100 := fun x hx => by
          obtain ⟨j, hj, rfl⟩ := List.getElem_of_mem hx
          have h1 := e4 j hj
          have h2 : (c.l.getD k mp0).2.getD j 0 = (c.l.getD k mp0).2[j] := by rw [List.getD_eq_getElem?_getD, List.getElem?_eq_getElem hj]; rfl
          rw [h2] at h1
          have := hn6.out
          omega
        generalize c.l.getD k mp0 = p at hcw hrow0 hnx hrl hr9 e1 e2
        obtain ⟨pw, row⟩ := p
        simp only at hcw hrow0 hnx hrl hr9 e1 e2
        generalize rv k = rk at hcell hrow0
        obtain ⟨nb, no, nc, rfl, hnb, hcr⟩ := hrow0.at (by omega)
        have hfm := Lib.hid (fun W => FormatInt_small pw W (by omega) (by omega))
        have belX : Below wa.heap.size wa (wo.alloc (.cells #[.int .i64 pw, .slice (some ⟨nb, no, none⟩) row.length nc] 82)).drew := (bel.alloc bel.size _).drew
        have hap0 := appendLine_keep wa.heap.size _ L3 _ (wdM (pw, row)) row nb no nc (wo.alloc (.cells #[.int .i64 pw, .slice (some ⟨nb, no, none⟩) row.length nc] 82)).drew (hown3.out.alloc _).drew belX.size (by omega) (wdM_len _) hrl.1 hrl.2 hnb (fun j hj => (belX.cell (p := ⟨nb, no + j, none⟩) hnb).trans (hcr j hj)) hr9
        rw [← wdM_is] at hap0
        have hdl : (BA (decL pw.toNat)).size ≤ 2 := by rw [BA_size]; exact (decL_len _).1
        generalize BA (decL pw.toNat) = d at hap0 hfm hdl
        have hap := Lib.hid hap0
        have hO := Blk.new wo #[.int .i64 pw, .slice (some ⟨nb, no, none⟩) row.length nc] 82
        have m1 : ¬ 9223372036854775807 < 4 + d.size := by omega
        have m2 : ¬ 9223372036854775807 < 4 + d.size + 2 := by omega
        clear hcr hr9 hrow0 hcell0 hcw0 hap0 hcl e1 e2 e3 e4
        go_upto_region 7 with fail
        go_region_held3 (fun w' => w'.cell? ⟨wo.heap.size, 0, none⟩ = some (.int .i64 pw) ∧ w'.cell? ⟨wo.heap.size, 1, none⟩ = some (.slice (some ⟨nb, no, none⟩) row.length nc)) (go_keep) (first | (have _t := tok1; go_at_call 37; (with_reducible refine hap.out.mono ?_); rintro e w4 ⟨v4, L4, rfl, q1, q2, hown4, b4, k4⟩; have _k0 := (k4.blk hO (by decide)).cell 0; have _k1 := (k4.blk hO (by decide)).cell 1; simp at _k0 _k1) | (go_at_call 44; (with_reducible refine (hfm.out _).mono ?_); rintro e w3 ⟨rfl, rfl⟩; have tok1 : True := trivial) | fail "no arm")
        all_goals
          clear _k0 _k1
          obtain ⟨a4, cap4, rfl⟩ := own_shape hown4
          have hown4' := Lib.hid (show w4.ownsRow wa.heap.size 5 1 (.slice a4 L4 cap4) L4 (byc (headM c ++ rowsM (c.l.take (k + 1)))) by rw [hnx.out]; simpa [List.append_assoc] using hown4)
          clear hown4 hap
          go_wp2
          go_roundw
          case rel => exact ⟨k + 1, L4, a4, cap4, by omega, by go_num, rfl, by omega, by omega, hown4', belX.trans b4⟩
          case measure => simp [intOf]; omega
      · obtain rfl : k = c.l.length := by omega
        obtain ⟨gg, cap4, hv4, -⟩ := own_head hown3.out hl0
        simp only [Value.slice.injEq] at hv4
        obtain ⟨rfl, -, rfl⟩ := hv4
        have hcv := text_back (P := Tryd.prog) (src := 72) (dst := 9) hown3.out Tryd.underlying72 (by kernel_rfl) (by kernel_rfl)
        rw [← ht.out] at hcv
        go_wp2
        go_ret
        exact ⟨rfl, Ba.trans (bel.mono (by omega))⟩
  · have hok' : msOk c = false := by simpa using hok
    have hvc := ValidMaps_impl _ c _ K
    rw [hok'] at hvc
    have ht := Lib.hid (show mtextOf c = BA [] by rw [mtextOf, if_neg hok])
    clear hok hok'
    go_enter Tryd.func20, Tryd.ntmps20
    go_wp2_with fail
    refine hvc.mono ?_
    rintro e w1 ⟨rfl, b1⟩
    go_wp2
    go_ret
    exact ⟨by rw [ht.out]; rfl, below_wt B0 b1⟩
end Go.Proofs.YtgaadcinhaphpaaDoor
