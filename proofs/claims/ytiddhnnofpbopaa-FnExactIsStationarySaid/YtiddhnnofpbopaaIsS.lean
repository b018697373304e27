/- IsStationary of the specification. Conditions: told by the code. -/
import Derived.Test.YtiddhnnofpbopaaIsM
import Derived.Test.YtiddhnnofpbopaaFrI
import Derived.Test.YtiddhnnofpbopaaSml
import Derived.Test.YtiddhnnofpbopaaRsG
import Derived.Test.YtiddhnnofpbopaaNtxG
namespace Go.Proofs.Ytiddhnnofpbopaa
open Go.RowKit Go.Deep
set_option linter.unusedVariables false
set_option linter.unusedSimpArgs false

theorem com_at' {l : List (Nat × Nat)} (hd : ∀ i, i < l.length → 0 < (l.getD i (0, 0)).2) (i : Nat) (h : i < l.length) : ∃ r, comD l = (l.getD i (0, 0)).2 * r ∧ (comN (comD l) l).getD i 0 = (l.getD i (0, 0)).1 * r := by
  obtain ⟨r, hr⟩ := den_dvd l i h
  refine ⟨r, hr, ?_⟩
  rw [comN_get _ _ _ h, hr, Nat.mul_div_cancel_left _ (hd i h)]
theorem small_eq (x t : Nat) (ht : 0 < t) : (x / Nat.gcd x t) * t = (t / Nat.gcd x t) * x ∧ 0 < t / Nat.gcd x t := by
  have hg : 0 < Nat.gcd x t := Nat.gcd_pos_of_pos_right x ht
  obtain ⟨a, ha⟩ := Nat.gcd_dvd_left x t
  obtain ⟨b, hb⟩ := Nat.gcd_dvd_right x t
  generalize Nat.gcd x t = g at *
  have ea : x / g = a := by rw [ha]; exact Nat.mul_div_cancel_left a hg
  have eb : t / g = b := by rw [hb]; exact Nat.mul_div_cancel_left b hg
  rw [ea, eb, ha, hb]
  refine ⟨by grind, ?_⟩
  rcases Nat.eq_zero_or_pos b with h | h
  · rw [h] at hb; omega
  · exact h

set_option maxHeartbeats 4000000 in
theorem l02Given_any (Bc : Nat) (pv : Value) (c : Ch) (p : List (ByteArray × ByteArray)) (w : World) (hP : ChP w Bc c) (hp : FrL w pv p) :
    Calls Try.prog 26 #[.pointer (some ⟨Bc, 0, none⟩), pv] w fun e w' => e = .returned (.int .i64 (rsoC c p)) ∧ Below w.heap.size w w' := by
  obtain ⟨hm1, va, vc, rfl, _⟩ := id hp
  unfold maxLen at hm1
  have hok := Lib.hid (l01Ok_any Bc c w hP)
  obtain ⟨v', k0, _⟩ := hP
  have hp' := Lib.hid hp
  obtain ⟨L, hL⟩ : ∃ L, p.length = L := ⟨_, rfl⟩
  have hr1 := Lib.hid (fun (h : (spreadB p && chOk c) = false) => (show rsoC c p = 1 by unfold rsoC; rw [if_neg (by rw [h]; decide)]))
  have hr2 := Lib.hid (fun (h : (spreadB p && chOk c) = true) (hl : (L : Int) = c.n) => (show rsoC c p = 0 by unfold rsoC; rw [if_pos h, if_pos (by rw [hL]; exact hl)]))
  have hr3 := Lib.hid (fun (h : (spreadB p && chOk c) = true) (hl : ¬ (L : Int) = c.n) => (show rsoC c p = 2 by unfold rsoC; rw [if_pos h, if_neg (by rw [hL]; exact hl)]))
  rw [hL] at hm1 hp' ⊢
  obtain ⟨RC, hRC⟩ : ∃ x, rsoC c p = x := ⟨_, rfl⟩
  rw [hRC] at hr1 hr2 hr3 ⊢
  clear hp hL hRC
  go_enter Try.func26, Try.ntmps26
  go_wp2_with fail
  (with_reducible refine hok.out.mono ?_)
  rintro e w1 ⟨rfl, m, hm⟩
  have b1 : Below w.heap.size w w1 := by rw [hm]; exact below_drewN (Below.refl _ _) m
  have k1 := (b1.cell (block_lt k0)).trans k0
  have hv := Lib.hid (ValidSpread_spec _ p w1 (hp'.out.keep b1))
  replace b1 := Lib.hid b1
  clear hm k0 hok
  rcases ho2 : chOk c with _ | _
  · have hr := Lib.hid (hr1.out (by rw [ho2, Bool.and_false]))
    clear hr1 hr2 hr3 ho2
    go_wp2
    go_ret
    exact ⟨(by rw [hr.out]; first | done | rfl), b1.out⟩
  · go_wp2_with fail
    (with_reducible refine hv.out.mono ?_)
    rintro e w2 ⟨rfl, b2⟩
    have B2 := Lib.hid (below_wt b1.out b2)
    have b2' := Lib.hid b2
    clear b2
    rcases ho1 : spreadB p with _ | _
    · have hr := Lib.hid (hr1.out (by rw [ho1]; rfl))
      clear hr1 hr2 hr3 ho1
      go_wp2
      go_ret
      exact ⟨(by rw [hr.out]; first | done | rfl), B2.out⟩
    · have k2 := (b2'.out.cell (block_lt k1)).trans k1
      rw [ho1, ho2] at hr2 hr3
      by_cases hl : (L : Int) = c.n
      · have hr := Lib.hid (hr2.out rfl hl)
        have hne : ((L : Int) != c.n) = false := by simpa using hl
        clear hr1 hr2 hr3 ho1 hl
        go_wp2
        go_ret
        exact ⟨(by rw [hr.out]; first | done | rfl), B2.out⟩
      · have hr := Lib.hid (hr3.out rfl hl)
        have hne : ((L : Int) != c.n) = true := by simpa using hl
        clear hr1 hr2 hr3 ho1 hl
        go_wp2
        go_ret
        exact ⟨(by rw [hr.out]; first | done | rfl), B2.out⟩
theorem l02Parsed_any (v : Value) (l : List (ByteArray × ByteArray)) (w : World) (hv : FrL w v l) (hb : l.length ≤ 2000000) (hok : frsOk l = true) :
    Calls Try.prog 27 #[v] w fun e w' => ∃ a cap, e = .returned (.slice a l.length cap) ∧ PairL LongS w' (.slice a l.length cap) (numP l) ∧ Below w.heap.size w w' := by
  have h := Lib.hid (l01List_any v l w hv hb)
  obtain ⟨_, va, vc, rfl, _⟩ := hv
  go_enter Try.func27, Try.ntmps27
  go_wp2_with fail
  (with_reducible refine h.out.mono ?_)
  rintro e w1 ⟨a, n, cap, rfl, b1, hval⟩
  obtain ⟨hn, hP⟩ := hval hok
  subst hn
  replace hP := Lib.hid hP
  replace b1 := Lib.hid b1
  clear hval h
  go_wp2
  go_ret
  exact ⟨_, _, rfl, hP.out, b1.out⟩

set_option maxRecDepth 100000 in
set_option maxHeartbeats 40000000 in
theorem IsStationary_spec (cv pv : Value) (c : Ch) (p : List (ByteArray × ByteArray)) (w : World) (hc : ChR w cv c) (hp : FrL w pv p) :
    Calls Try.prog 12 #[cv, pv] w fun e w' => e = .returned (.tuple #[.bool (isR c p).1, .int .i64 (isR c p).2]) ∧ Below w.heap.size w w' := by
  obtain ⟨hm1, va, vc, rfl, _⟩ := id hp
  unfold maxLen at hm1
  obtain ⟨ca, ccap, hcv, hcr⟩ : ∃ a cap, cv = .agg #[.int .i64 c.n, .int .i64 c.t, .slice a c.w.length cap] ∧ Rows2 w (.slice a c.w.length cap) c.w := by
    obtain ⟨v, rfl, hr⟩ := hc
    obtain ⟨_, a, cap, rfl⟩ := hr.len
    exact ⟨a, cap, rfl, hr⟩
  subst hcv
  have b0 := below1 w (.cells #[.int .i64 c.n, .int .i64 c.t, .slice ca c.w.length ccap] 36)
  have hB := Blk.new w #[.int .i64 c.n, .int .i64 c.t, .slice ca c.w.length ccap] 36
  have hP : ChP (w.alloc (.cells #[.int .i64 c.n, .int .i64 c.t, .slice ca c.w.length ccap] 36)) w.heap.size c := ⟨_, hB.cell 0, hB.cell 1, hB.cell 2, hcr.keep b0⟩
  have hg := Lib.hid (l02Given_any w.heap.size (.slice va p.length vc) c p _ hP (hp.keep b0))
  have hW0 := Lib.hid (hcr.keep b0)
  have hp0 := Lib.hid (hp.keep b0)
  obtain ⟨L, hL⟩ : ∃ L, L = p.length := ⟨_, rfl⟩
  rw [← hL] at hm1 hg hp0 ⊢
  have hL' := Lib.hid hL
  clear hc hp hcr hL hP
  go_enter Try.func12, Try.ntmps12
  go_wp2_with fail
  (with_reducible refine hg.out.mono ?_)
  rintro e w1 ⟨rfl, b1⟩
  have hB1 := Lib.hid (hB.keep b1 hB.lt)
  have hW1 := Lib.hid (hW0.out.keep b1)
  have hp1 := Lib.hid (hp0.out.keep b1)
  have B1 := Lib.hid (below_wt b0 b1)
  clear b1 hB hg hW0 b0 hp0
  by_cases hrc : rsoC c p = 0
  · obtain ⟨ho1, ho2, hl, hres⟩ := rso_ok hrc
    rw [hrc]
    obtain ⟨hch, al, aW, a9, dW, d9, d0, pl, pW, p9, p0, dotW⟩ := isF_of ho1 ho2 hl
    have f1 := (spreadB_all ho1).1
    have hden := numP_den f1
    have hps := Lib.hid (l02Parsed_any (.slice va L vc) p w1 hp1.out (by rw [← hL'.out]; have := hch.n6; rw [← hL'.out] at this; omega) f1)
    have hcom := Lib.hid (fun i (h : i < L) => com_at' hden i (by rw [pl, ← hL'.out]; exact h))
    rw [← hL'.out] at hch al a9 pl p9 p0 hres hps
    have w9 : ∀ j k, k < L → dlen B9 (wt c.w k j) ≤ 1 := fun j k hk => dlen_le b9 (by have := wt_lt c _ _ hch j k hk; simp only [B9]; omega)
    obtain ⟨n1, n6, t1, t2, hcn, hct, hcl, hrow⟩ := hch
    obtain ⟨t, hte⟩ : ∃ t, c.t.toNat = t := ⟨_, rfl⟩
    rw [hte] at t1 t2 hct
    obtain ⟨A, hA⟩ : ∃ A, comN (comD (numP p)) (numP p) = A := ⟨_, rfl⟩
    obtain ⟨D, hD⟩ : ∃ D, comD (numP p) = D := ⟨_, rfl⟩
    have hisk := Lib.hid (fun k => (show isK c p L k = decide (((numP p).getD k (0, 0)).1 * (D * t) = dotN c.w A k L * ((numP p).getD k (0, 0)).2) by unfold isK; rw [hA, hD, hte]))
    rw [hA] at hcom a9 al
    rw [hD] at hcom d9 d0
    have dot9 := Lib.hid (fun k j (hj : j ≤ L) => dotN_len b9 c.w A k 3300 1 L a9 (fun i hi => w9 k i hi) j hj)
    rw [hcn, hct, hcl] at hB1
    rw [hcl] at hW1
    have dE : dlen B9 (D * t) ≤ 3001 := mul_dlen b9 d9 (dlen_le b9 (show t < B9 ^ 1 by simp only [B9]; omega))
    have hQ0 : 0 < D * t := Nat.mul_pos d0 (by omega)
    obtain ⟨E, hE⟩ : ∃ E, D * t = E := ⟨_, rfl⟩
    simp only [hE] at hisk dE hQ0
    have hE' := Lib.hid hE
    replace p9 := Lib.hid p9
    replace p0 := Lib.hid p0
    replace pl := Lib.hid pl
    replace hres := Lib.hid hres
    replace hrow := Lib.hid hrow
    replace hcl := Lib.hid hcl
    clear hrc ho1 ho2 hl al aW a9 dW d9 d0 pW dotW hcn hct hte hA hD hE f1 hden w9 hp1
    go_wp2_with fail
    (with_reducible refine hps.out.mono ?_)
    rintro e w3 ⟨la, lc, rfl, hPL, b3⟩
    have hB3 := Lib.hid (hB1.out.keep b3 hB1.out.lt)
    have hW3 := Lib.hid (hW1.out.keep b3)
    have B3 := Lib.hid (below_wt B1.out b3)
    replace hPL := Lib.hid hPL
    have cC0 := Lib.hid (fun w1 (hb : Below w3.heap.size w3 w1) => (show w1.cell? ⟨w.heap.size, 0, none⟩ = some (.int .i64 (L : Int)) from (hB3.out.keep hb hB3.out.lt).cell 0))
    have cC1 := Lib.hid (fun w1 (hb : Below w3.heap.size w3 w1) => (show w1.cell? ⟨w.heap.size, 1, none⟩ = some (.int .i64 (t : Int)) from (hB3.out.keep hb hB3.out.lt).cell 1))
    have cC2 := Lib.hid (fun w1 (hb : Below w3.heap.size w3 w1) => (show w1.cell? ⟨w.heap.size, 2, none⟩ = some (.slice ca L ccap) from (hB3.out.keep hb hB3.out.lt).cell 2))
    clear b3 hB1 hW1 B1 hps hB3
    go_wp2_with fail
    go_loopw [8] (fun i wr => ∃ k : Nat, k ≤ L ∧ i = .int .i64 (k : Int) ∧ Hid (isAll c p L k = true) ∧ Hid (Below w3.heap.size w3 wr)) (fun i _ => L - (intOf i).toNat)
    case atStart => exact ⟨0, Nat.zero_le _, rfl, Lib.hid rfl, Lib.hid (Below.refl _ _)⟩
    case round =>
      obtain ⟨k, hk, rfl, hall, bel⟩ := hrel
      have q0 := cC0.out wr bel.out
      by_cases hlt : k < L
      · have i1 : (k : Int) < (L : Int) := by omega
        have i0 : (0 : Int) ≤ (k : Int) := by omega
        have hlt' := Lib.hid hlt
        have hs0 := Lib.hid (l01Small_any 0 1 wr (by decide) (by decide) (by decide))
        rw [show 0 / Nat.gcd 0 1 = 0 by decide, show 1 / Nat.gcd 0 1 = 1 by decide] at hs0
        have hs0' := Lib.hid (show Calls Try.prog 28 #[.int .i64 0, .int .i64 1] wr _ from hs0.out)
        clear hlt hs0
        go_wp2_with fail
        (with_reducible refine hs0'.out.mono ?_)
        rintro e w4 ⟨p4, q4, rfl, hp4, hq4, b4⟩
        obtain ⟨_, na0, nc0, rfl⟩ := hp4.len
        obtain ⟨_, ma0, mc0, rfl⟩ := hq4.len
        have bS := below1 w4 (.cells #[.slice na0 (dlen B9 0) nc0, .slice ma0 (dlen B9 1) mc0] 60)
        have hS0 := Lib.hid (Blk.new w4 #[.slice na0 (dlen B9 0) nc0, .slice ma0 (dlen B9 1) mc0] 60)
        have hN0 := Lib.hid (hp4.keep bS)
        have hM0 := Lib.hid (hq4.keep bS)
        have bel4 := Lib.hid (below_wt bel.out b4)
        have hfr0 := Lib.hid (show FracIs 0 1 (dotN c.w A k 0) E from ⟨by decide, by decide, by simp [dotN]⟩)
        replace bS := Lib.hid bS
        have q4' := cC0.out _ (below_wt bel4.out bS.out)
        clear hp4 hq4 b4 hs0' q0 bel
        go_wp2_with fail
        obtain ⟨BS, hBS⟩ : ∃ B, w4.heap.size = B := ⟨_, rfl⟩
        rw [hBS] at hS0 ⊢
        have h4S := Lib.hid (Nat.le_of_eq hBS)
        clear hBS
        clear q4'
        go_loopw [10] (fun i wq => ∃ (s N M : Nat) (na ma : Option Addr) (nc mc : Nat), s ≤ L ∧ i = .int .i64 (s : Int) ∧ Hid (FracIs N M (dotN c.w A k s) E) ∧ Hid (Blk wq BS #[.slice na (dlen B9 N) nc, .slice ma (dlen B9 M) mc] 60) ∧ Hid (LongS wq (.slice na (dlen B9 N) nc) N) ∧ Hid (LongS wq (.slice ma (dlen B9 M) mc) M) ∧ Hid (Below w4.heap.size w4 wq)) (fun i _ => L - (intOf i).toNat)
        case atStart => exact ⟨0, 0, 1, _, _, _, _, Nat.zero_le _, rfl, hfr0, hS0, hN0, hM0, bS⟩
        case round =>
          clear hfr0 hS0 hN0 hM0 bS
          obtain ⟨s, N, M, na, ma, nc, mc, hs, rfl, hfr, hBSb, hN, hM, b4q⟩ := hrel
          have bq := Lib.hid (below_wt bel4.out b4q.out)
          have q0 := cC0.out wr bq.out
          have hle := hfr.out.dle hQ0
          have dd := dot9.out k s hs
          have dN := dlen_mono b9 hle.2
          have dM := dlen_mono b9 hle.1
          have cS0 := Lib.hid (fun w1 (hb : Below wr.heap.size wr w1) => (show w1.cell? ⟨BS, 0, none⟩ = some (.slice na (dlen B9 N) nc) from (hBSb.out.keep hb hBSb.out.lt).cell 0))
          have cS1 := Lib.hid (fun w1 (hb : Below wr.heap.size wr w1) => (show w1.cell? ⟨BS, 1, none⟩ = some (.slice ma (dlen B9 M) mc) from (hBSb.out.keep hb hBSb.out.lt).cell 1))
          by_cases hsn : s < L
          · have i2 : (s : Int) < (L : Int) := by omega
            have i3 : (0 : Int) ≤ (s : Int) := by omega
            have hsn' := Lib.hid hsn
            obtain ⟨wb, wo, wcap, rv, hwa, _, hcw⟩ := (hW3.out.keep bq.out).at (by rw [hcl.out]; omega)
            simp only [Value.slice.injEq] at hwa
            obtain ⟨rfl, -, rfl⟩ := hwa
            obtain ⟨hck, hri⟩ := hcw s (by rw [hcl.out]; exact hsn)
            obtain ⟨hrl, hrb⟩ := hrow.out s hsn
            obtain ⟨rb, ro, rc, hrk, _, hcr⟩ := hri.at (by omega)
            rw [hrl] at hrk
            rw [hrk] at hck
            have hcx := hcr k (by rw [hrl]; exact hlt'.out)
            obtain ⟨h0, h1⟩ := hrb _ (getD_mem (d := 0) (show k < (c.w.getD s []).length by rw [hrl]; exact hlt'.out))
            obtain ⟨x, hx⟩ : ∃ x : Nat, (c.w.getD s []).getD k 0 = (x : Int) := ⟨_, (Int.toNat_of_nonneg h0).symm⟩
            have hwx : wt c.w s k = x := by unfold wt; rw [hx, Int.toNat_natCast]
            rw [hx] at hcx h1
            obtain ⟨lb, lo, px', qx', rfl, hp0', hq0', hP1, hP2⟩ := (hPL.out.keep likeS bq.out).at s (by rw [pl.out]; exact hsn)
            obtain ⟨r, hr1, hr2⟩ := hcom.out s hsn
            obtain ⟨v1, v2⟩ := p9.out s hsn
            have v3 := p0.out s hsn
            obtain ⟨P1, hP1e⟩ : ∃ x, ((numP p).getD s (0, 0)).1 = x := ⟨_, rfl⟩
            obtain ⟨P2, hP2e⟩ : ∃ x, ((numP p).getD s (0, 0)).2 = x := ⟨_, rfl⟩
            simp only [hP1e, hP2e] at hP1 hP2 hr1 hr2 v1 v2 v3
            obtain ⟨_, pa, pc, rfl⟩ := hP1.len
            obtain ⟨_, qa, qc, rfl⟩ := hP2.len
            obtain ⟨e1, e2⟩ := small_eq x t (by omega)
            have hsm0 := fun W => l01Small_any x t W (by omega) (by omega) (by omega)
            have dM1 : dlen B9 (x / Nat.gcd x t) ≤ 1 := Nat.le_trans (dlen_mono b9 (Nat.div_le_self _ _)) (dlen_le b9 (by simp only [B9]; omega))
            have dE1 : dlen B9 (t / Nat.gcd x t) ≤ 1 := Nat.le_trans (dlen_mono b9 (Nat.div_le_self _ _)) (dlen_le b9 (by simp only [B9]; omega))
            generalize x / Nat.gcd x t = M1 at *
            generalize t / Nat.gcd x t = E1 at *
            have hpe := prod_eq P1 P2 r x t M1 E1 e1
            rw [show P2 * r * t = E by rw [← hr1]; exact hE'.out] at hpe
            have hlow := FracIs.low (Nat.mul_pos v3 e2) hpe
            have htm0 := fun W (a b : Value) (hb : Below wr.heap.size wr W) (g1 : LongS W a M1) (g2 : LongS W b E1) => fracTimes (.slice pa (dlen B9 P1) pc) (.slice qa (dlen B9 P2) qc) a b P1 P2 M1 E1 W (hP1.keep hb) (hP2.keep hb) g1 g2 (by omega) (by omega) (by omega) (by omega) (Nat.mul_pos v3 e2)
            have dA1 : dlen B9 (P1 * M1 / Nat.gcd (P1 * M1) (P2 * E1)) ≤ 302 := Nat.le_trans (dlen_mono b9 (Nat.div_le_self _ _)) (by have := mul_dlen b9 v1 dM1; omega)
            have dB1 : dlen B9 (P2 * E1 / Nat.gcd (P1 * M1) (P2 * E1)) ≤ 302 := Nat.le_trans (dlen_mono b9 (Nat.div_le_self _ _)) (by have := mul_dlen b9 v2 dE1; omega)
            generalize P1 * M1 / Nat.gcd (P1 * M1) (P2 * E1) = A1 at *
            generalize P2 * E1 / Nat.gcd (P1 * M1) (P2 * E1) = B1 at *
            have hse := sum_eq hfr.out.2.2 hlow.2.2
            have hMB : 0 < M * B1 := Nat.mul_pos hfr.out.1 hlow.1
            have hlow2 := FracIs.low hMB hse
            have hpl0 := fun W (a b : Value) (hb : Below wr.heap.size wr W) (g1 : LongS W a A1) (g2 : LongS W b B1) => fracPlus (.slice na (dlen B9 N) nc) (.slice ma (dlen B9 M) mc) a b N M A1 B1 W (hN.out.keep hb) (hM.out.keep hb) g1 g2 (by omega) (by omega) (by omega) (by omega) hMB
            generalize (N * B1 + A1 * M) / Nat.gcd (N * B1 + A1 * M) (M * B1) = N' at *
            generalize M * B1 / Nat.gcd (N * B1 + A1 * M) (M * B1) = M' at *
            have hnext := Lib.hid (show FracIs N' M' (dotN c.w A k (s + 1)) E by rw [dotN_next, hwx, hr2]; exact hlow2)
            have hsm := Lib.hid hsm0
            have htm := Lib.hid htm0
            have hpl := Lib.hid hpl0
            have cP0 := Lib.hid (fun w1 (hb : Below wr.heap.size wr w1) => (hb.cell (p := ⟨lb, lo + s * 2, none⟩) (block_lt hp0')).trans hp0')
            have cP1 := Lib.hid (fun w1 (hb : Below wr.heap.size wr w1) => (hb.cell (p := ⟨lb, lo + s * 2 + 1, none⟩) (block_lt hq0')).trans hq0')
            have cR := Lib.hid (fun w1 (hb : Below wr.heap.size wr w1) => (hb.cell (p := ⟨wb, wo + s, none⟩) (block_lt hck)).trans hck)
            have cX := Lib.hid (fun w1 (hb : Below wr.heap.size wr w1) => (hb.cell (p := ⟨rb, ro + k, none⟩) (block_lt hcx)).trans hcx)
            have hBS := hBSb
            clear hsn hcw hri hrl hrb hcr hrk hx hwx h0 h1 hP1 hP2 hr1 hr2 v1 v2 v3 hP1e hP2e e1 e2 hsm0 dM1 dE1 hpe hlow htm0 dA1 dB1 hse hMB hlow2 hpl0 hle dd dN dM hck hcx hp0' hq0' hfr hN hM hBSb
            go_upto_region 12 with fail
            clear q0
            refine' Rgn.region_by (fun i => match i with | 18 => 1 | _ => 0) 1 (fun _ => false) (fun i _ v w' => match i with
                | 0 => v = .agg #[.slice na (dlen B9 N) nc, .slice ma (dlen B9 M) mc]
                | 1 => v = .slice (some ⟨lb, lo, none⟩) L lc
                | 2 => v = .int .i64 (s : Int)
                | 3 => v = .pointer (some ⟨lb, lo + s * 2, none⟩)
                | 4 => v = .agg #[.slice pa (dlen B9 P1) pc, .slice qa (dlen B9 P2) qc]
                | 5 => v = .pointer (some ⟨w.heap.size, 2, none⟩)
                | 6 => v = .slice (some ⟨wb, wo, none⟩) L ccap
                | 7 => v = .int .i64 (s : Int)
                | 8 => v = .pointer (some ⟨wb, wo + s, none⟩)
                | 9 => v = .slice (some ⟨rb, ro, none⟩) L rc
                | 10 => v = .int .i64 (k : Int)
                | 11 => v = .pointer (some ⟨rb, ro + k, none⟩)
                | 12 => v = .int .i64 (x : Int)
                | 13 => v = .pointer (some ⟨w.heap.size, 1, none⟩)
                | 14 => v = .int .i64 (t : Int)
                | 15 => ∃ p q, v = .agg #[p, q] ∧ LongS w' p (M1) ∧ LongS w' q (E1)
                | 16 => ∃ p q, v = .agg #[p, q] ∧ LongS w' p (A1) ∧ LongS w' q (B1)
                | 17 => ∃ p q, v = .agg #[p, q] ∧ LongS w' p (N') ∧ LongS w' q (M')
                | _ => True) (fun i _ v => match i with
                | 0 => v = .agg #[.slice na (dlen B9 N) nc, .slice ma (dlen B9 M) mc]
                | 1 => v = .slice (some ⟨lb, lo, none⟩) L lc
                | 2 => v = .int .i64 (s : Int)
                | 3 => v = .pointer (some ⟨lb, lo + s * 2, none⟩)
                | 4 => v = .agg #[.slice pa (dlen B9 P1) pc, .slice qa (dlen B9 P2) qc]
                | 5 => v = .pointer (some ⟨w.heap.size, 2, none⟩)
                | 6 => v = .slice (some ⟨wb, wo, none⟩) L ccap
                | 7 => v = .int .i64 (s : Int)
                | 8 => v = .pointer (some ⟨wb, wo + s, none⟩)
                | 9 => v = .slice (some ⟨rb, ro, none⟩) L rc
                | 10 => v = .int .i64 (k : Int)
                | 11 => v = .pointer (some ⟨rb, ro + k, none⟩)
                | 12 => v = .int .i64 (x : Int)
                | 13 => v = .pointer (some ⟨w.heap.size, 1, none⟩)
                | 14 => v = .int .i64 (t : Int)
                | 15 => True
                | 16 => True
                | 17 => True
                | _ => True)
                (fun p z w' => ∃ (xa : Option Addr) (xc : Nat) (ya : Option Addr) (yc : Nat), Blk w' BS #[.slice xa (dlen B9 N') xc, .slice ya (dlen B9 M') yc] 60 ∧ LongS w' (.slice xa (dlen B9 N') xc) N' ∧ LongS w' (.slice ya (dlen B9 M') yc) M' ∧ Below w4.heap.size w4 w') (by kernel_rfl) (by kernel_rfl) (by kernel_rfl) ?hst_a ?hG_a _ ?hfr_a ?hob_a ?hend_a
            case hfr_a =>
              intro z
              simp only [Rgn.fillAll, Act.put, List.setIfInBounds_toArray, List.set_cons_zero, List.set_cons_succ, Nat.reduceAdd, Nat.zero_add]
              exact rfl
            case hst_a =>
              intro i z v w1 w2 hi hb hx
              rcases i with _ | i
              · exact hx
              rcases i with _ | i
              · exact hx
              rcases i with _ | i
              · exact hx
              rcases i with _ | i
              · exact hx
              rcases i with _ | i
              · exact hx
              rcases i with _ | i
              · exact hx
              rcases i with _ | i
              · exact hx
              rcases i with _ | i
              · exact hx
              rcases i with _ | i
              · exact hx
              rcases i with _ | i
              · exact hx
              rcases i with _ | i
              · exact hx
              rcases i with _ | i
              · exact hx
              rcases i with _ | i
              · exact hx
              rcases i with _ | i
              · exact hx
              rcases i with _ | i
              · exact hx
              rcases i with _ | i
              · exact (fun v w1 w2 hb h => h.elim fun p h => h.elim fun q h => ⟨p, q, h.1, h.2.1.keep hb, h.2.2.keep hb⟩) v w1 w2 hb hx
              rcases i with _ | i
              · exact (fun v w1 w2 hb h => h.elim fun p h => h.elim fun q h => ⟨p, q, h.1, h.2.1.keep hb, h.2.2.keep hb⟩) v w1 w2 hb hx
              rcases i with _ | i
              · exact (fun v w1 w2 hb h => h.elim fun p h => h.elim fun q h => ⟨p, q, h.1, h.2.1.keep hb, h.2.2.keep hb⟩) v w1 w2 hb hx
              rcases i with _ | i
              · exact trivial
              exact trivial
            case hG_a =>
              intro i z v w1 hi hx
              rcases i with _ | i
              · exact hx
              rcases i with _ | i
              · exact hx
              rcases i with _ | i
              · exact hx
              rcases i with _ | i
              · exact hx
              rcases i with _ | i
              · exact hx
              rcases i with _ | i
              · exact hx
              rcases i with _ | i
              · exact hx
              rcases i with _ | i
              · exact hx
              rcases i with _ | i
              · exact hx
              rcases i with _ | i
              · exact hx
              rcases i with _ | i
              · exact hx
              rcases i with _ | i
              · exact hx
              rcases i with _ | i
              · exact hx
              rcases i with _ | i
              · exact hx
              rcases i with _ | i
              · exact hx
              rcases i with _ | i
              · trivial
              rcases i with _ | i
              · trivial
              rcases i with _ | i
              · trivial
              rcases i with _ | i
              · exact trivial
              exact trivial
            case hob_a =>
              intro hfr
              refine Rgn.AllOb.cons (j := 1) (by kernel_rfl) ?_ ?_
              · refine' Rgn.ob_body (fr := _) ?hf_a0 ?h1_a0 ?h2_a0 ?h3_a0 ?h_a0
                case hf_a0 => exact hfr
                case h1_a0 => kernel_rfl
                case h2_a0 => kernel_rfl
                case h3_a0 => rfl
                clear hfr
                intro z w1 hb hd ho K hK
                clear hd ho
                have x0 := cS0.out w1 hb; have x1 := cS1.out w1 hb
                go_simp
                have hh := hK.out (.agg #[.slice na (dlen B9 N) nc, .slice ma (dlen B9 M) mc]) _ (Below.refl _ _) rfl
                simp only [Act.put, List.setIfInBounds_toArray, List.set_cons_zero, List.set_cons_succ] at hh
                exact hh
              refine Rgn.AllOb.cons (j := 2) (by kernel_rfl) ?_ ?_
              · refine' Rgn.ob_body (fr := _) ?hf_a1 ?h1_a1 ?h2_a1 ?h3_a1 ?h_a1
                case hf_a1 => exact hfr
                case h1_a1 => kernel_rfl
                case h2_a1 => kernel_rfl
                case h3_a1 => rfl
                clear hfr
                intro z w1 hb hd ho K hK
                clear hd ho
                go_simp
                have hh := hK.out (.slice (some ⟨lb, lo, none⟩) L lc) _ (Below.refl _ _) rfl
                simp only [Act.put, List.setIfInBounds_toArray, List.set_cons_zero, List.set_cons_succ] at hh
                exact hh
              refine Rgn.AllOb.cons (j := 3) (by kernel_rfl) ?_ ?_
              · refine' Rgn.ob_body (fr := _) ?hf_a2 ?h1_a2 ?h2_a2 ?h3_a2 ?h_a2
                case hf_a2 => exact hfr
                case h1_a2 => kernel_rfl
                case h2_a2 => kernel_rfl
                case h3_a2 => rfl
                clear hfr
                intro z w1 hb hd ho K hK
                clear hd ho
                go_simp
                have hh := hK.out (.int .i64 (s : Int)) _ (Below.refl _ _) rfl
                simp only [Act.put, List.setIfInBounds_toArray, List.set_cons_zero, List.set_cons_succ] at hh
                exact hh
              refine Rgn.AllOb.cons (j := 4) (by kernel_rfl) ?_ ?_
              · refine' Rgn.ob_body (fr := _) ?hf_a3 ?h1_a3 ?h2_a3 ?h3_a3 ?h_a3
                case hf_a3 => exact hfr
                case h1_a3 => kernel_rfl
                case h2_a3 => kernel_rfl
                case h3_a3 => rfl
                clear hfr
                intro z w1 hb hd ho K hK
                have e1 : z 1 = .slice (some ⟨lb, lo, none⟩) L lc := hd.out 1 (by kernel_rfl)
                have e2 : z 2 = .int .i64 (s : Int) := hd.out 2 (by kernel_rfl)
                clear hd ho
                go_simp
                have hh := hK.out (.pointer (some ⟨lb, lo + s * 2, none⟩)) _ (Below.refl _ _) rfl
                simp only [Act.put, List.setIfInBounds_toArray, List.set_cons_zero, List.set_cons_succ, e1, e2] at hh
                exact hh
              refine Rgn.AllOb.cons (j := 5) (by kernel_rfl) ?_ ?_
              · refine' Rgn.ob_body (fr := _) ?hf_a4 ?h1_a4 ?h2_a4 ?h3_a4 ?h_a4
                case hf_a4 => exact hfr
                case h1_a4 => kernel_rfl
                case h2_a4 => kernel_rfl
                case h3_a4 => rfl
                clear hfr
                intro z w1 hb hd ho K hK
                have e3 : z 3 = .pointer (some ⟨lb, lo + s * 2, none⟩) := hd.out 3 (by kernel_rfl)
                clear hd ho
                have x0 := cP0.out w1 hb; have x1 := cP1.out w1 hb
                go_simp
                have hh := hK.out (.agg #[.slice pa (dlen B9 P1) pc, .slice qa (dlen B9 P2) qc]) _ (Below.refl _ _) rfl
                simp only [Act.put, List.setIfInBounds_toArray, List.set_cons_zero, List.set_cons_succ, e3] at hh
                exact hh
              refine Rgn.AllOb.cons (j := 6) (by kernel_rfl) ?_ ?_
              · refine' Rgn.ob_body (fr := _) ?hf_a5 ?h1_a5 ?h2_a5 ?h3_a5 ?h_a5
                case hf_a5 => exact hfr
                case h1_a5 => kernel_rfl
                case h2_a5 => kernel_rfl
                case h3_a5 => rfl
                clear hfr
                intro z w1 hb hd ho K hK
                clear hd ho
                go_simp
                have hh := hK.out (.pointer (some ⟨w.heap.size, 2, none⟩)) _ (Below.refl _ _) rfl
                simp only [Act.put, List.setIfInBounds_toArray, List.set_cons_zero, List.set_cons_succ] at hh
                exact hh
              refine Rgn.AllOb.cons (j := 7) (by kernel_rfl) ?_ ?_
              · refine' Rgn.ob_body (fr := _) ?hf_a6 ?h1_a6 ?h2_a6 ?h3_a6 ?h_a6
                case hf_a6 => exact hfr
                case h1_a6 => kernel_rfl
                case h2_a6 => kernel_rfl
                case h3_a6 => rfl
                clear hfr
                intro z w1 hb hd ho K hK
                have e5 : z 5 = .pointer (some ⟨w.heap.size, 2, none⟩) := hd.out 5 (by kernel_rfl)
                clear hd ho
                have x0 := cC2.out w1 (below_wt bq.out hb)
                go_simp
                have hh := hK.out (.slice (some ⟨wb, wo, none⟩) L ccap) _ (Below.refl _ _) rfl
                simp only [Act.put, List.setIfInBounds_toArray, List.set_cons_zero, List.set_cons_succ, e5] at hh
                exact hh
              refine Rgn.AllOb.cons (j := 8) (by kernel_rfl) ?_ ?_
              · refine' Rgn.ob_body (fr := _) ?hf_a7 ?h1_a7 ?h2_a7 ?h3_a7 ?h_a7
                case hf_a7 => exact hfr
                case h1_a7 => kernel_rfl
                case h2_a7 => kernel_rfl
                case h3_a7 => rfl
                clear hfr
                intro z w1 hb hd ho K hK
                clear hd ho
                go_simp
                have hh := hK.out (.int .i64 (s : Int)) _ (Below.refl _ _) rfl
                simp only [Act.put, List.setIfInBounds_toArray, List.set_cons_zero, List.set_cons_succ] at hh
                exact hh
              refine Rgn.AllOb.cons (j := 9) (by kernel_rfl) ?_ ?_
              · refine' Rgn.ob_body (fr := _) ?hf_a8 ?h1_a8 ?h2_a8 ?h3_a8 ?h_a8
                case hf_a8 => exact hfr
                case h1_a8 => kernel_rfl
                case h2_a8 => kernel_rfl
                case h3_a8 => rfl
                clear hfr
                intro z w1 hb hd ho K hK
                have e6 : z 6 = .slice (some ⟨wb, wo, none⟩) L ccap := hd.out 6 (by kernel_rfl)
                have e7 : z 7 = .int .i64 (s : Int) := hd.out 7 (by kernel_rfl)
                clear hd ho
                go_simp
                have hh := hK.out (.pointer (some ⟨wb, wo + s, none⟩)) _ (Below.refl _ _) rfl
                simp only [Act.put, List.setIfInBounds_toArray, List.set_cons_zero, List.set_cons_succ, e6, e7] at hh
                exact hh
              refine Rgn.AllOb.cons (j := 10) (by kernel_rfl) ?_ ?_
              · refine' Rgn.ob_body (fr := _) ?hf_a9 ?h1_a9 ?h2_a9 ?h3_a9 ?h_a9
                case hf_a9 => exact hfr
                case h1_a9 => kernel_rfl
                case h2_a9 => kernel_rfl
                case h3_a9 => rfl
                clear hfr
                intro z w1 hb hd ho K hK
                have e8 : z 8 = .pointer (some ⟨wb, wo + s, none⟩) := hd.out 8 (by kernel_rfl)
                clear hd ho
                have x0 := cR.out w1 hb
                go_simp
                have hh := hK.out (.slice (some ⟨rb, ro, none⟩) L rc) _ (Below.refl _ _) rfl
                simp only [Act.put, List.setIfInBounds_toArray, List.set_cons_zero, List.set_cons_succ, e8] at hh
                exact hh
              refine Rgn.AllOb.cons (j := 11) (by kernel_rfl) ?_ ?_
              · refine' Rgn.ob_body (fr := _) ?hf_a10 ?h1_a10 ?h2_a10 ?h3_a10 ?h_a10
                case hf_a10 => exact hfr
                case h1_a10 => kernel_rfl
                case h2_a10 => kernel_rfl
                case h3_a10 => rfl
                clear hfr
                intro z w1 hb hd ho K hK
                clear hd ho
                go_simp
                have hh := hK.out (.int .i64 (k : Int)) _ (Below.refl _ _) rfl
                simp only [Act.put, List.setIfInBounds_toArray, List.set_cons_zero, List.set_cons_succ] at hh
                exact hh
              refine Rgn.AllOb.cons (j := 12) (by kernel_rfl) ?_ ?_
              · refine' Rgn.ob_body (fr := _) ?hf_a11 ?h1_a11 ?h2_a11 ?h3_a11 ?h_a11
                case hf_a11 => exact hfr
                case h1_a11 => kernel_rfl
                case h2_a11 => kernel_rfl
                case h3_a11 => rfl
                clear hfr
                intro z w1 hb hd ho K hK
                have e9 : z 9 = .slice (some ⟨rb, ro, none⟩) L rc := hd.out 9 (by kernel_rfl)
                have e10 : z 10 = .int .i64 (k : Int) := hd.out 10 (by kernel_rfl)
                clear hd ho
                go_simp
                have hh := hK.out (.pointer (some ⟨rb, ro + k, none⟩)) _ (Below.refl _ _) rfl
                simp only [Act.put, List.setIfInBounds_toArray, List.set_cons_zero, List.set_cons_succ, e9, e10] at hh
                exact hh
              refine Rgn.AllOb.cons (j := 13) (by kernel_rfl) ?_ ?_
              · refine' Rgn.ob_body (fr := _) ?hf_a12 ?h1_a12 ?h2_a12 ?h3_a12 ?h_a12
                case hf_a12 => exact hfr
                case h1_a12 => kernel_rfl
                case h2_a12 => kernel_rfl
                case h3_a12 => rfl
                clear hfr
                intro z w1 hb hd ho K hK
                have e11 : z 11 = .pointer (some ⟨rb, ro + k, none⟩) := hd.out 11 (by kernel_rfl)
                clear hd ho
                have x0 := cX.out w1 hb
                go_simp
                have hh := hK.out (.int .i64 (x : Int)) _ (Below.refl _ _) rfl
                simp only [Act.put, List.setIfInBounds_toArray, List.set_cons_zero, List.set_cons_succ, e11] at hh
                exact hh
              refine Rgn.AllOb.cons (j := 14) (by kernel_rfl) ?_ ?_
              · refine' Rgn.ob_body (fr := _) ?hf_a13 ?h1_a13 ?h2_a13 ?h3_a13 ?h_a13
                case hf_a13 => exact hfr
                case h1_a13 => kernel_rfl
                case h2_a13 => kernel_rfl
                case h3_a13 => rfl
                clear hfr
                intro z w1 hb hd ho K hK
                clear hd ho
                go_simp
                have hh := hK.out (.pointer (some ⟨w.heap.size, 1, none⟩)) _ (Below.refl _ _) rfl
                simp only [Act.put, List.setIfInBounds_toArray, List.set_cons_zero, List.set_cons_succ] at hh
                exact hh
              refine Rgn.AllOb.cons (j := 15) (by kernel_rfl) ?_ ?_
              · refine' Rgn.ob_body (fr := _) ?hf_a14 ?h1_a14 ?h2_a14 ?h3_a14 ?h_a14
                case hf_a14 => exact hfr
                case h1_a14 => kernel_rfl
                case h2_a14 => kernel_rfl
                case h3_a14 => rfl
                clear hfr
                intro z w1 hb hd ho K hK
                have e13 : z 13 = .pointer (some ⟨w.heap.size, 1, none⟩) := hd.out 13 (by kernel_rfl)
                clear hd ho
                have x0 := cC1.out w1 (below_wt bq.out hb)
                go_simp
                have hh := hK.out (.int .i64 (t : Int)) _ (Below.refl _ _) rfl
                simp only [Act.put, List.setIfInBounds_toArray, List.set_cons_zero, List.set_cons_succ, e13] at hh
                exact hh
              refine Rgn.AllOb.cons (j := 16) (by kernel_rfl) ?_ ?_
              · refine' Rgn.ob_body (fr := _) ?hf_a15 ?h1_a15 ?h2_a15 ?h3_a15 ?h_a15
                case hf_a15 => exact hfr
                case h1_a15 => kernel_rfl
                case h2_a15 => kernel_rfl
                case h3_a15 => rfl
                clear hfr
                intro z w1 hb hd ho K hK
                have e12 : z 12 = .int .i64 (x : Int) := hd.out 12 (by kernel_rfl)
                have e14 : z 14 = .int .i64 (t : Int) := hd.out 14 (by kernel_rfl)
                clear hd ho
                go_simp
                refine (hsm.out w1).mono ?_
                rintro e w2 ⟨p, q, rfl, hp, hq2, b⟩
                have hh := hK.out _ _ b ⟨p, q, rfl, hp, hq2⟩
                simp only [Act.put, List.setIfInBounds_toArray, List.set_cons_zero, List.set_cons_succ, e12, e14] at hh
                exact hh
              refine Rgn.AllOb.cons (j := 17) (by kernel_rfl) ?_ ?_
              · refine' Rgn.ob_body (fr := _) ?hf_a16 ?h1_a16 ?h2_a16 ?h3_a16 ?h_a16
                case hf_a16 => exact hfr
                case h1_a16 => kernel_rfl
                case h2_a16 => kernel_rfl
                case h3_a16 => rfl
                clear hfr
                intro z w1 hb hd ho K hK
                have e4 : z 4 = .agg #[.slice pa (dlen B9 P1) pc, .slice qa (dlen B9 P2) qc] := hd.out 4 (by kernel_rfl)
                have e15 : ∃ p q, (z 15) = .agg #[p, q] ∧ LongS w1 p (M1) ∧ LongS w1 q (E1) := hd.out 15 (by kernel_rfl)
                clear hd ho
                go_simp
                obtain ⟨p, q, e15, hp, hq2⟩ := e15
                simp only [e15]
                refine (htm.out w1 p q hb hp hq2).mono ?_
                rintro e w2 ⟨p', q', rfl, hp', hq', b⟩
                have hh := hK.out _ _ b ⟨p', q', rfl, hp', hq'⟩
                simp only [Act.put, List.setIfInBounds_toArray, List.set_cons_zero, List.set_cons_succ, e4, e15] at hh
                exact hh
              refine Rgn.AllOb.cons (j := 18) (by kernel_rfl) ?_ ?_
              · refine' Rgn.ob_body (fr := _) ?hf_a17 ?h1_a17 ?h2_a17 ?h3_a17 ?h_a17
                case hf_a17 => exact hfr
                case h1_a17 => kernel_rfl
                case h2_a17 => kernel_rfl
                case h3_a17 => rfl
                clear hfr
                intro z w1 hb hd ho K hK
                have e0 : z 0 = .agg #[.slice na (dlen B9 N) nc, .slice ma (dlen B9 M) mc] := hd.out 0 (by kernel_rfl)
                have e16 : ∃ p q, (z 16) = .agg #[p, q] ∧ LongS w1 p (A1) ∧ LongS w1 q (B1) := hd.out 16 (by kernel_rfl)
                clear hd ho
                go_simp
                obtain ⟨p, q, e16, hp, hq2⟩ := e16
                simp only [e16]
                refine (hpl.out w1 p q hb hp hq2).mono ?_
                rintro e w2 ⟨p', q', rfl, hp', hq', b⟩
                have hh := hK.out _ _ b ⟨p', q', rfl, hp', hq'⟩
                simp only [Act.put, List.setIfInBounds_toArray, List.set_cons_zero, List.set_cons_succ, e0, e16] at hh
                exact hh
              refine Rgn.AllOb.cons (j := 19) (by kernel_rfl) ?_ ?_
              · refine' Rgn.ob_tail0 (fr := _) ?hf_a18 ?h1_a18 ?h3_a18 ?h_a18
                case hf_a18 => exact hfr
                case h1_a18 => kernel_rfl
                case h3_a18 => rfl
                clear hfr
                intro z w1 hb hf hd ho K hK
                obtain ⟨p, q, e17, hp, hq2⟩ : ∃ p q, z 17 = .agg #[p, q] ∧ LongS w1 p (N') ∧ LongS w1 q (M') := hf.out 17 (by decide) rfl rfl
                obtain ⟨_, xa, xc, rfl⟩ := hp.len
                obtain ⟨_, ya, yc, rfl⟩ := hq2.len
                have hX := hBS.out.keep hb hBS.out.lt
                have y0 := hX.cell 0
                have y1 := hX.cell 1
                have f0 := hX.frozen 0
                have f1 := hX.frozen 1
                simp only [List.getElem?_toArray, List.getElem?_cons_zero, List.getElem?_cons_succ] at y0 y1
                clear hf hd ho
                go_simp
                have hh := hK.out undef _ ⟨xa, xc, ya, yc, by have := (hX.set 0 (.slice xa (dlen B9 N') xc)).set 1 (.slice ya (dlen B9 M') yc); simpa using this, (hp.setBox hX 0 _).setBox (hX.set 0 _) 1 _, (hq2.setBox hX 0 _).setBox (hX.set 0 _) 1 _, ((below_wt b4q.out hb).setCell (p := ⟨BS, 0, none⟩) h4S.out _).setCell (p := ⟨BS, 1, none⟩) h4S.out _⟩
                simp only [Act.put, List.setIfInBounds_toArray, List.set_cons_zero, List.set_cons_succ, e17] at hh
                exact hh
              exact Rgn.AllOb.nil
            case hend_a =>
              intro hfr
              refine' Rgn.end_tails (fr := _) ?g1_a ?g2_a ?g3_a
              case g1_a => exact hfr
              case g2_a => rfl
              clear hfr
              intro z w7 hT hg
              obtain ⟨xa, xc, ya, yc, hB7, hN7, hM7, b7⟩ := hT
              replace hB7 := Lib.hid hB7
              replace hN7 := Lib.hid hN7
              replace hM7 := Lib.hid hM7
              replace b7 := Lib.hid b7
              clear hg cS0 cS1 cP0 cP1 cR cX hBS b4q bq hsm htm hpl
              go_wp2
              go_roundw
              case rel => exact ⟨s + 1, N', M', xa, ya, xc, yc, by have := hsn'.out; omega, by go_num, hnext, hB7, hN7, hM7, b7⟩
              case measure => have := hsn'.out; simp [intOf]; omega
          · obtain rfl : L = s := by omega
            have hnn : ¬ (L : Int) < (L : Int) := by omega
            obtain ⟨lb, lo, px', qx', rfl, hp0', hq0', hP1, hP2⟩ := (hPL.out.keep likeS bq.out).at k (by rw [pl.out]; exact hlt'.out)
            obtain ⟨v1, v2⟩ := p9.out k hlt'.out
            have hik := hisk.out k
            obtain ⟨P1, hP1e⟩ : ∃ x, ((numP p).getD k (0, 0)).1 = x := ⟨_, rfl⟩
            obtain ⟨P2, hP2e⟩ : ∃ x, ((numP p).getD k (0, 0)).2 = x := ⟨_, rfl⟩
            simp only [hP1e, hP2e] at hP1 hP2 v1 v2 hik
            obtain ⟨_, pa, pc, rfl⟩ := hP1.len
            obtain ⟨_, qa, qc, rfl⟩ := hP2.len
            have hcross := cross_eq (N := P1) (M := P2) hfr.out.1 hQ0 hfr.out.2.2
            obtain ⟨CC, hCCe⟩ : ∃ x, cmpI (N * P2) (P1 * M) = x := ⟨_, rfl⟩
            have hz := cmpI_zero (N * P2) (P1 * M)
            rw [hCCe, show decide (N * P2 = P1 * M) = isK c p L k from by rw [hik]; exact decide_eq_decide.2 hcross] at hz
            obtain ⟨bb, hbe⟩ : ∃ x, (CC != 0) = x := ⟨_, rfl⟩
            rw [hbe] at hz
            have hbb := Lib.hid hbe
            have hCC := Lib.hid hCCe
            have hzz := Lib.hid hz
            replace hP1 := Lib.hid hP1
            replace hP2 := Lib.hid hP2
            have cP0 := Lib.hid (fun w1 (hb : Below wr.heap.size wr w1) => (hb.cell (p := ⟨lb, lo + k * 2, none⟩) (block_lt hp0')).trans hp0')
            have cP1 := Lib.hid (fun w1 (hb : Below wr.heap.size wr w1) => (hb.cell (p := ⟨lb, lo + k * 2 + 1, none⟩) (block_lt hq0')).trans hq0')
            clear hsn hp0' hq0' hik hP1e hP2e hcross hCCe hz hbe hle hfr
            go_upto_region 13 with fail
            clear q0
            refine' Rgn.region_by (fun _ => 0) 0 (fun _ => false) (fun i _ v w' => match i with
                | 0 => v = .agg #[.slice na (dlen B9 N) nc, .slice ma (dlen B9 M) mc]
                | 1 => v = .slice (some ⟨lb, lo, none⟩) L lc
                | 2 => v = .int .i64 (k : Int)
                | 3 => v = .pointer (some ⟨lb, lo + k * 2, none⟩)
                | 4 => v = .agg #[.slice pa (dlen B9 P1) pc, .slice qa (dlen B9 P2) qc]
                | 5 => v = .int .i64 CC
                | 6 => v = .bool bb
                | _ => True) (fun i _ v => match i with
                | 0 => v = .agg #[.slice na (dlen B9 N) nc, .slice ma (dlen B9 M) mc]
                | 1 => v = .slice (some ⟨lb, lo, none⟩) L lc
                | 2 => v = .int .i64 (k : Int)
                | 3 => v = .pointer (some ⟨lb, lo + k * 2, none⟩)
                | 4 => v = .agg #[.slice pa (dlen B9 P1) pc, .slice qa (dlen B9 P2) qc]
                | 5 => True
                | 6 => v = .bool bb
                | _ => True)
                (fun _ _ _ => True) (by kernel_rfl) (by kernel_rfl) (by kernel_rfl) ?hst_b ?hG_b _ ?hfr_b ?hob_b ?hend_b
            case hfr_b =>
              intro z
              simp only [Rgn.fillAll, Act.put, List.setIfInBounds_toArray, List.set_cons_zero, List.set_cons_succ, Nat.reduceAdd, Nat.zero_add]
              exact rfl
            case hst_b =>
              intro i z v w1 w2 hi hb hx
              rcases i with _ | i
              · exact hx
              rcases i with _ | i
              · exact hx
              rcases i with _ | i
              · exact hx
              rcases i with _ | i
              · exact hx
              rcases i with _ | i
              · exact hx
              rcases i with _ | i
              · exact (fun v w1 w2 hb h => h) v w1 w2 hb hx
              rcases i with _ | i
              · exact hx
              exact trivial
            case hG_b =>
              intro i z v w1 hi hx
              rcases i with _ | i
              · exact hx
              rcases i with _ | i
              · exact hx
              rcases i with _ | i
              · exact hx
              rcases i with _ | i
              · exact hx
              rcases i with _ | i
              · exact hx
              rcases i with _ | i
              · trivial
              rcases i with _ | i
              · exact hx
              exact trivial
            case hob_b =>
              intro hfr
              refine Rgn.AllOb.cons (j := 1) (by kernel_rfl) ?_ ?_
              · refine' Rgn.ob_body (fr := _) ?hf_b0 ?h1_b0 ?h2_b0 ?h3_b0 ?h_b0
                case hf_b0 => exact hfr
                case h1_b0 => kernel_rfl
                case h2_b0 => kernel_rfl
                case h3_b0 => rfl
                clear hfr
                intro z w1 hb hd ho K hK
                clear hd ho
                have x0 := cS0.out w1 hb; have x1 := cS1.out w1 hb
                go_simp
                have hh := hK.out (.agg #[.slice na (dlen B9 N) nc, .slice ma (dlen B9 M) mc]) _ (Below.refl _ _) rfl
                simp only [Act.put, List.setIfInBounds_toArray, List.set_cons_zero, List.set_cons_succ] at hh
                exact hh
              refine Rgn.AllOb.cons (j := 2) (by kernel_rfl) ?_ ?_
              · refine' Rgn.ob_body (fr := _) ?hf_b1 ?h1_b1 ?h2_b1 ?h3_b1 ?h_b1
                case hf_b1 => exact hfr
                case h1_b1 => kernel_rfl
                case h2_b1 => kernel_rfl
                case h3_b1 => rfl
                clear hfr
                intro z w1 hb hd ho K hK
                clear hd ho
                go_simp
                have hh := hK.out (.slice (some ⟨lb, lo, none⟩) L lc) _ (Below.refl _ _) rfl
                simp only [Act.put, List.setIfInBounds_toArray, List.set_cons_zero, List.set_cons_succ] at hh
                exact hh
              refine Rgn.AllOb.cons (j := 3) (by kernel_rfl) ?_ ?_
              · refine' Rgn.ob_body (fr := _) ?hf_b2 ?h1_b2 ?h2_b2 ?h3_b2 ?h_b2
                case hf_b2 => exact hfr
                case h1_b2 => kernel_rfl
                case h2_b2 => kernel_rfl
                case h3_b2 => rfl
                clear hfr
                intro z w1 hb hd ho K hK
                clear hd ho
                go_simp
                have hh := hK.out (.int .i64 (k : Int)) _ (Below.refl _ _) rfl
                simp only [Act.put, List.setIfInBounds_toArray, List.set_cons_zero, List.set_cons_succ] at hh
                exact hh
              refine Rgn.AllOb.cons (j := 4) (by kernel_rfl) ?_ ?_
              · refine' Rgn.ob_body (fr := _) ?hf_b3 ?h1_b3 ?h2_b3 ?h3_b3 ?h_b3
                case hf_b3 => exact hfr
                case h1_b3 => kernel_rfl
                case h2_b3 => kernel_rfl
                case h3_b3 => rfl
                clear hfr
                intro z w1 hb hd ho K hK
                have e1 : z 1 = .slice (some ⟨lb, lo, none⟩) L lc := hd.out 1 (by kernel_rfl)
                have e2 : z 2 = .int .i64 (k : Int) := hd.out 2 (by kernel_rfl)
                clear hd ho
                go_simp
                have hh := hK.out (.pointer (some ⟨lb, lo + k * 2, none⟩)) _ (Below.refl _ _) rfl
                simp only [Act.put, List.setIfInBounds_toArray, List.set_cons_zero, List.set_cons_succ, e1, e2] at hh
                exact hh
              refine Rgn.AllOb.cons (j := 5) (by kernel_rfl) ?_ ?_
              · refine' Rgn.ob_body (fr := _) ?hf_b4 ?h1_b4 ?h2_b4 ?h3_b4 ?h_b4
                case hf_b4 => exact hfr
                case h1_b4 => kernel_rfl
                case h2_b4 => kernel_rfl
                case h3_b4 => rfl
                clear hfr
                intro z w1 hb hd ho K hK
                have e3 : z 3 = .pointer (some ⟨lb, lo + k * 2, none⟩) := hd.out 3 (by kernel_rfl)
                clear hd ho
                have x0 := cP0.out w1 hb; have x1 := cP1.out w1 hb
                go_simp
                have hh := hK.out (.agg #[.slice pa (dlen B9 P1) pc, .slice qa (dlen B9 P2) qc]) _ (Below.refl _ _) rfl
                simp only [Act.put, List.setIfInBounds_toArray, List.set_cons_zero, List.set_cons_succ, e3] at hh
                exact hh
              refine Rgn.AllOb.cons (j := 6) (by kernel_rfl) ?_ ?_
              · refine' Rgn.ob_body (fr := _) ?hf_b5 ?h1_b5 ?h2_b5 ?h3_b5 ?h_b5
                case hf_b5 => exact hfr
                case h1_b5 => kernel_rfl
                case h2_b5 => kernel_rfl
                case h3_b5 => rfl
                clear hfr
                intro z w1 hb hd ho K hK
                have e0 : z 0 = .agg #[.slice na (dlen B9 N) nc, .slice ma (dlen B9 M) mc] := hd.out 0 (by kernel_rfl)
                have e4 : z 4 = .agg #[.slice pa (dlen B9 P1) pc, .slice qa (dlen B9 P2) qc] := hd.out 4 (by kernel_rfl)
                clear hd ho
                go_simp
                refine (cmp_specW na ma pa qa nc mc pc qc N M P1 P2 w1 (hN.out.keep hb) (hM.out.keep hb) (hP1.out.keep hb) (hP2.out.keep hb) (by omega) (by omega) (by omega) (by omega)).mono ?_
                rintro e w2 ⟨rfl, b⟩
                rw [hCC.out]
                have hh := hK.out _ _ b rfl
                simp only [Act.put, List.setIfInBounds_toArray, List.set_cons_zero, List.set_cons_succ, e0, e4] at hh
                exact hh
              refine Rgn.AllOb.cons (j := 7) (by kernel_rfl) ?_ ?_
              · refine' Rgn.ob_body (fr := _) ?hf_b6 ?h1_b6 ?h2_b6 ?h3_b6 ?h_b6
                case hf_b6 => exact hfr
                case h1_b6 => kernel_rfl
                case h2_b6 => kernel_rfl
                case h3_b6 => rfl
                clear hfr
                intro z w1 hb hd ho K hK
                have e5 : (z 5) = .int .i64 CC := hd.out 5 (by kernel_rfl)
                clear hd ho
                have hbe := hbb.out
                go_simp
                have hh := hK.out (.bool bb) _ (Below.refl _ _) rfl
                simp only [Act.put, List.setIfInBounds_toArray, List.set_cons_zero, List.set_cons_succ, e5] at hh
                exact hh
              exact Rgn.AllOb.nil
            case hend_b =>
              intro hfr
              refine' Rgn.end_plain (fr := _) ?g1_b ?g2_b ?g3_b
              case g1_b => exact hfr
              case g2_b => kernel_rfl
              clear hfr
              intro z w8 b8 hf
              have e6 : z 6 = .bool bb := hf.out 6 (by decide)
              simp only [e6]
              have bel8 := Lib.hid (below_wt bq.out b8)
              have Bf := Lib.hid (below_wt B3.out bel8.out)
              have hz := hzz.out
              clear hf e6 b8 cS0 cS1 cP0 cP1 hbb hP1 hP2 hN hM hCC hzz hBSb b4q bq
              cases bb with
              | true =>
                have hno := Lib.hid (isAll_no (m := L) hlt'.out (show isK c p L k = false by simpa using hz))
                clear hz
                go_wp2
                go_ret2
                exact ⟨by rw [hres.out, hno.out]; first | done | rfl, Bf.out⟩
              | false =>
                have hnx := Lib.hid (isAll_next hall.out (show isK c p L k = true by simpa using hz))
                clear hz
                go_wp2
                go_roundw
                case rel => exact ⟨k + 1, by have := hlt'.out; omega, by go_num, hnx, bel8⟩
                case measure => have := hlt'.out; simp [intOf]; omega
      · obtain rfl : L = k := by omega
        have hnn : ¬ (L : Int) < (L : Int) := by omega
        have Bf := Lib.hid (below_wt B3.out bel.out)
        clear hlt
        go_wp2
        go_ret2
        exact ⟨by rw [hres.out, hall.out]; first | done | rfl, Bf.out⟩
  · have hr := Lib.hid (isR_rso c p hrc)
    obtain ⟨RC, hRC⟩ : ∃ x, rsoC c p = x := ⟨_, rfl⟩
    rw [hRC] at hrc hr ⊢
    have hne : (RC != 0) = true := by simpa using hrc
    clear hRC hB1 hW1 hrc
    go_wp2
    go_ret2
    exact ⟨by rw [hr.out]; first | done | rfl, B1.out⟩
end Go.Proofs.Ytiddhnnofpbopaa
