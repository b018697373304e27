/- l01Common of the specification: fractions brought to one denominator. Conditions: no denominator is 0; told by the code. -/
import Derived.Test.YtjkekhiceadpgaaRs
import Derived.Deep.RegionHeld3
import Derived.Deep.RegionLaw
namespace Go.Proofs.Ytjkekhiceadpgaa
open Go.RowKit Go.Deep
set_option linter.unusedVariables false
set_option linter.unusedSimpArgs false

def comD (l : List (Nat × Nat)) : Nat := l.foldl (fun d c => d * (c.2 / Nat.gcd d c.2)) 1
def comN (D : Nat) (l : List (Nat × Nat)) : List Nat := l.map fun c => c.1 * (D / c.2)
theorem comD_take (l : List (Nat × Nat)) (k : Nat) (h : k < l.length) : comD (l.take (k + 1)) = comD (l.take k) * ((l.getD k (0, 0)).2 / Nat.gcd (comD (l.take k)) (l.getD k (0, 0)).2) := by
  unfold comD
  rw [List.take_add_one, List.getElem?_eq_getElem h, List.foldl_append]
  simp [List.getD, h]
theorem comN_take (D : Nat) (l : List (Nat × Nat)) (k : Nat) (h : k < l.length) : comN D (l.take (k + 1)) = comN D (l.take k) ++ [(l.getD k (0, 0)).1 * (D / (l.getD k (0, 0)).2)] := by
  unfold comN
  rw [List.take_add_one, List.getElem?_eq_getElem h, List.map_append]
  congr 1
  simp [List.getD, h]
theorem comN_length (D : Nat) (l : List (Nat × Nat)) : (comN D l).length = l.length := by simp [comN]
theorem mul_dlen' {m n L M : Nat} (h1 : dlen B9 m ≤ L) (h2 : dlen B9 n ≤ M) : dlen B9 (m * n) ≤ L + M :=
  dlen_le b9 (by rw [Nat.pow_add]; exact Nat.mul_lt_mul'' (lt_of_dlen b9 h1) (lt_of_dlen b9 h2))
theorem comD_len (l : List (Nat × Nat)) (S : Nat) (hs : ∀ i, i < l.length → dlen B9 (l.getD i (0, 0)).1 ≤ S ∧ dlen B9 (l.getD i (0, 0)).2 ≤ S) : ∀ k, k ≤ l.length → dlen B9 (comD (l.take k)) ≤ S * k + 1
  | 0, _ => by simp only [List.take_zero, comD, List.foldl_nil]; exact Nat.le_trans (dlen_le b9 (L := 1) (by simp only [B9]; omega)) (by omega)
  | k + 1, h => by
    have i1 := comD_len l S hs k (by omega)
    rw [comD_take l k (by omega)]
    have e := mul_dlen' i1 (Nat.le_trans (dlen_mono b9 (Nat.div_le_self (l.getD k (0, 0)).2 (Nat.gcd (comD (l.take k)) (l.getD k (0, 0)).2))) (hs k (by omega)).2)
    have m4 : S * (k + 1) + 1 = S * k + 1 + S := by rw [Nat.mul_succ]; omega
    rw [m4]; exact e
theorem one_s (w : World) : LongS (w.alloc (.cells #[.int .i64 1] 2)) (.slice (some ⟨w.heap.size, 0, none⟩) 1 1) 1 := one_long1 w
theorem sl1 (a : Option Addr) (l c : Nat) : ∀ x ∈ [Value.slice a l c], IsSl x := by
  intro x hx
  simp at hx
  subst hx
  exact ⟨_, _, _, rfl⟩
theorem zero_sl1 : ∀ x ∈ (Value.slice none 0 0).cells.toList, IsSl x := by
  intro x hx
  simp [Value.cells] at hx
  subst hx
  exact ⟨_, _, _, rfl⟩
theorem Try.infoRow : (Try.prog.info? 46).map (fun i => (i.zero, i.size, i.bytes)) = some (some (.slice none 0 0), 1, 24) := by kernel_rfl

set_option maxRecDepth 100000 in
set_option maxHeartbeats 8000000 in
theorem l01Common_any (v : Value) (l : List (Nat × Nat)) (S : Nat) (w : World) (hv : PairL LongS w v l) (hs : ∀ i, i < l.length → dlen B9 (l.getD i (0, 0)).1 ≤ S ∧ dlen B9 (l.getD i (0, 0)).2 ≤ S)
    (hd : ∀ i, i < l.length → 0 < (l.getD i (0, 0)).2) (hb : S * l.length + S + 1 ≤ 1000000) (hn : l.length ≤ 1000000) :
    Calls Try.prog 62 #[v] w fun e w' => ∃ p q, e = .returned (.agg #[p, q]) ∧ RowL LongS w' p (comN (comD l) l) ∧ LongS w' q (comD l) ∧ Below w.heap.size w w' := by
  have hv0 := hv
  obtain ⟨va, vc, rfl, _⟩ := hv
  have hZ := Blk.new w #[.slice none 0 0, .slice none 0 0] 59
  have bel := below1 w (.cells #[.slice none 0 0, .slice none 0 0] 59)
  have hsz := Lib.hid hs
  have hdp := Lib.hid hd
  have hS6 : S ≤ 1000000 := by omega
  have hln := Lib.hid (fun k (h : k ≤ l.length) => (show dlen B9 (comD (l.take k)) ≤ 1000000 by
    have i1 := comD_len l S hs k h
    have m2 : S * k ≤ S * l.length := Nat.mul_le_mul_left _ h
    omega))
  have hnx := Lib.hid (fun k h => comD_take l k h)
  have hnn := Lib.hid (fun k h => comN_take (comD l) l k h)
  have hnl := Lib.hid (fun k (h : k ≤ l.length) => (show (comN (comD l) (l.take k)).length = k by rw [comN_length, List.length_take]; omega))
  have hall := Lib.hid (show l.take l.length = l from List.take_length)
  have hlD := Lib.hid (show dlen B9 (comD l) ≤ 1000000 by have := hln.out l.length (Nat.le_refl _); rwa [hall.out] at this)
  obtain ⟨i0, hi, hz0, hz1, hz2⟩ := info_parts Try.infoRow
  have hi' := Lib.hid hi; have hz0' := Lib.hid hz0; have hz1' := Lib.hid hz1; have hz2' := Lib.hid hz2
  obtain ⟨L, hL⟩ : ∃ L, L = l.length := ⟨_, rfl⟩
  have hvL := Lib.hid (show PairL LongS w (.slice va L vc) l by rw [hL]; exact hv0)
  rw [← hL] at hall hln hnx hnn hnl hsz hdp hn ⊢
  replace hL := Lib.hid hL
  clear hv0 hs hd hb hi hz0 hz1 hz2
  have h1b := one_s (w.alloc (.cells #[.slice none 0 0, .slice none 0 0] 59))
  have hZ1 := Lib.hid (hZ.alloc (.cells #[.int .i64 1] 2))
  have B1 := Lib.hid (below_wt bel (below1 (w.alloc (.cells #[.slice none 0 0, .slice none 0 0] 59)) (.cells #[.int .i64 1] 2)))
  simp only [World.size_alloc] at h1b
  have h1' := Lib.hid (show LongS _ _ (comD (l.take 0)) from h1b)
  clear h1b hZ bel
  go_enter Try.func62, Try.ntmps62
  go_wp2_with fail
  go_loopw [3, 4] (fun s i wr => ∃ (k dl dc : Nat) (da : Option Addr), k ≤ L ∧ i = .int .i64 (k : Int) ∧ s = .slice da dl dc ∧ Hid (LongS wr (.slice da dl dc) (comD (l.take k))) ∧ Hid (Blk wr w.heap.size #[.slice none 0 0, .slice none 0 0] 59) ∧ Hid (Below w.heap.size w wr)) (fun _ i _ => L - (intOf i).toNat)
  case atStart => exact ⟨0, _, _, _, Nat.zero_le _, rfl, rfl, h1', hZ1, B1⟩
  case round =>
    obtain ⟨k, dl, dc, da, hk, rfl, rfl, hD, hZB, bel⟩ := hrel
    by_cases hlt : k < L
    · obtain ⟨b, off, x, y, rfl, q0, q1, hx, hy⟩ := (hvL.out.keep likeS bel.out).at k (by rw [← hL.out]; exact hlt)
      obtain ⟨ya, yl, yc, rfl⟩ := likeS.shape hy
      have s1 := hln.out k hk
      obtain ⟨s3, s4⟩ := hsz.out k hlt
      have hyp := Lib.hid (hdp.out k hlt)
      have gd := Lib.hid (fun W b => hD.out.keep (w' := W) b)
      have gy := Lib.hid (fun W b => hy.keep (w' := W) b)
      have hnx1 := Lib.hid (hnx.out k (by first | exact hlt | (rw [← hL.out]; exact hlt)))
      have hsn := Lib.hid (hln.out (k + 1) (by omega))
      rw [hnx1.out] at hsn
      have hlt' := Lib.hid hlt
      have hDp := Lib.hid (hD.out)
      clear hx hy q0
      generalize comD (l.take k) = DK at *
      generalize (l.getD k (0, 0)).2 = YK at *
      have hgp := Lib.hid (Nat.gcd_pos_of_pos_right DK hyp.out)
      have sg := gcd_len (m := DK) (n := YK) hyp.out
      have sq := dlen_mono b9 (Nat.div_le_self YK (Nat.gcd DK YK))
      replace q1 : wr.drew.cell? ⟨b, off + k * 2 + 1, none⟩ = some (.slice ya yl yc) := q1
      go_wp2_with fail
      go_region_held3 (fun w' => w'.cell? ⟨b, off + k * 2 + 1, none⟩ = some (.slice ya yl yc))
        (go_keep)
        (first
          | (go_at_call 97; ((with_reducible refine (l01Gcd_any (.slice da dl dc) (.slice ya yl yc) DK YK _ (gd.out _ (by (repeat (first | exact Below.refl _ _ | refine Below.drew ?_)))) (gy.out _ (by (repeat (first | exact Below.refl _ _ | refine Below.drew ?_)))) (by omega) (by omega)).mono ?_); rintro e u1 ⟨gv, rfl, pg, b1⟩; obtain ⟨_, ga, gc, rfl⟩ := pg.len; replace q1 : u1.cell? ⟨b, off + k * 2 + 1, none⟩ = some (.slice ya yl yc) := (b1.cell (p := ⟨b, off + k * 2 + 1, none⟩) (block_lt q1)).trans q1))
          | (go_at_call 96; ((with_reducible refine (l01Divide_any (.slice ya yl yc) (.slice ga (dlen B9 (Nat.gcd DK YK)) gc) YK (Nat.gcd DK YK) _ (gy.out _ (by (repeat (first | exact Below.refl _ _ | refine Below.drew ?_ | refine below_wt ?_ b1)))) pg hgp.out (by omega) (by omega)).mono ?_); rintro e u2 ⟨pv, rv, rfl, pp, prr, b2⟩; obtain ⟨_, pa, pc, rfl⟩ := pp.len; obtain ⟨_, ra, rc, rfl⟩ := prr.len; replace q1 : u2.cell? ⟨b, off + k * 2 + 1, none⟩ = some (.slice ya yl yc) := (b2.cell (p := ⟨b, off + k * 2 + 1, none⟩) (block_lt q1)).trans q1)))
      have b12 := below_wt (below_wt (Below.refl wr.heap.size wr).drew b1) b2
      have hpr := Lib.hid (l01Product_any (.slice da dl dc) (.slice pa (dlen B9 (YK / Nat.gcd DK YK)) pc) DK (YK / Nat.gcd DK YK) u2 (gd.out _ b12) pp (by omega) (by omega))
      have B2 := Lib.hid (below_wt bel.out b12)
      have hZ2 := Lib.hid (hZB.out.keep b12 hZB.out.lt)
      clear b1 b2 b12 pg pp prr q1 sg sq
      go_wp2_with fail
      (with_reducible refine hpr.out.mono ?_)
      rintro e u3 ⟨nv, rfl, hnv, b3⟩
      obtain ⟨_, na, nc, rfl⟩ := hnv.len
      have hN := Lib.hid (show LongS u3 _ (comD (l.take (k + 1))) by rw [hnx1.out]; exact hnv)
      have B3 := Lib.hid (below_wt B2.out b3)
      have hZ3 := Lib.hid (hZ2.out.keep b3 hZ2.out.lt)
      clear b3 hnv
      go_wp2
      go_roundw
      case rel => exact ⟨k + 1, _, nc, na, by have := hlt'.out; omega, by go_num, rfl, hN, hZ3, B3⟩
      case measure => have := hlt'.out; simp [intOf]; omega
    · obtain rfl : L = k := by omega
      have hlt' : ¬ (L : Int) < (L : Int) := by omega
      have hDD := Lib.hid (show LongS wr (.slice da dl dc) (comD l) by have := hD.out; rwa [hall.out] at this)
      clear hlt hD
      have bO := below1 wr (.cells #[.slice none 0 0, .slice da dl dc] 59)
      have hO0 := Lib.hid (Blk.new wr #[.slice none 0 0, .slice da dl dc] 59)
      have hZ0 := Lib.hid (hZB.out.keep bO hZB.out.lt)
      have hD0 := Lib.hid (hDD.out.keep bO)
      have B0 := Lib.hid (below_wt bel.out bO)
      have hne : w.heap.size < wr.heap.size := hZB.out.lt
      have hM0 := Lib.hid (show MadeL LongS 46 (wr.alloc (.cells #[.slice none 0 0, .slice da dl dc] 59)) (wr.heap.size + 1) (.slice none 0 0) (comN (comD l) (l.take 0)) from MadeL.nil _ _ _)
      obtain ⟨O, hO⟩ : ∃ O, O = wr.heap.size := ⟨_, rfl⟩
      have hlDk := Lib.hid (show dlen B9 (comD l) ≤ 1000000 from hlD.out)
      generalize hDe : comD l = DD at *
      replace hDe := Lib.hid hDe
      clear bO
      go_wp2_with fail
      rw [← hO] at hO0 hM0 hne ⊢
      clear hO
      go_loopw [8] (fun i wx => ∃ (k nc : Nat) (na : Option Addr), k ≤ L ∧ i = .int .i64 (k : Int) ∧ Hid (Blk wx O #[.slice na k nc, .slice da dl dc] 59) ∧ Hid (MadeL LongS 46 wx (O + 1) (.slice na k nc) (comN DD (l.take k))) ∧ Hid (LongS wx (.slice da dl dc) DD) ∧ Hid (Blk wx w.heap.size #[.slice none 0 0, .slice none 0 0] 59) ∧ Hid (Below w.heap.size w wx)) (fun i _ => L - (intOf i).toNat)
      case atStart => exact ⟨0, 0, none, Nat.zero_le _, rfl, hO0, hM0, hD0, hZ0, B0⟩
      case round =>
        clear hO0 hM0 hD0 hZ0 B0 hDD hZB bel
        obtain ⟨k, nc, na, hk, rfl, hOB, hM, hD, hZB, bel⟩ := hrel
        by_cases hlt : k < L
        · obtain ⟨b, off, x, y, rfl, q0, q1, hx, hy⟩ := (hvL.out.keep likeS bel.out).at k (by rw [← hL.out]; exact hlt)
          have hvk := (hvL.out).at k (by rw [← hL.out]; exact hlt)
          obtain ⟨xa, xl, xc, rfl⟩ := likeS.shape hx
          obtain ⟨ya, yl, yc, rfl⟩ := likeS.shape hy
          have hbw : b < w.heap.size := by
            obtain ⟨b', off', x', y', e', c0, _⟩ := hvk
            simp only [Option.some.injEq, Addr.mk.injEq, and_true] at e'
            obtain ⟨rfl, rfl⟩ := e'
            exact block_lt c0
          obtain ⟨s3, s4⟩ := hsz.out k hlt
          have hyp := hdp.out k hlt
          have hdv := Lib.hid (l01Divide_any (.slice da dl dc) (.slice ya yl yc) DD _ wr hD.out hy hyp (by have := hlDk.out; omega) (by omega))
          have sq := dlen_mono b9 (Nat.div_le_self DD (l.getD k (0, 0)).2)
          have hnn1 := Lib.hid (hnn.out k hlt)
          have hlt' := Lib.hid hlt
          have hx' := Lib.hid hx
          clear hx hy hvk hyp
          generalize (l.getD k (0, 0)).2 = YK at *
          generalize (l.getD k (0, 0)).1 = XK at *
          go_wp2_with fail
          (with_reducible refine hdv.out.mono ?_)
          rintro e u1 ⟨qv, rv, rfl, hq, hr, b1⟩
          obtain ⟨_, qa, qc, rfl⟩ := hq.len
          obtain ⟨_, ra, rc, rfl⟩ := hr.len
          have hOB1 := hOB.out.keep b1 hOB.out.lt
          have hM1 := Lib.hid (hM.out.keep likeS b1)
          have hD1 := Lib.hid (hD.out.keep b1)
          have hZ1 := Lib.hid (hZB.out.keep b1 hZB.out.lt)
          have B1' := Lib.hid (below_wt bel.out b1)
          have gx := Lib.hid (fun W b => (hx'.out.keep b1).keep (w' := W) b)
          have gq := Lib.hid (fun W b => hq.keep (w' := W) b)
          have c1 : u1.drew.cell? ⟨b, off + k * 2, none⟩ = some (.slice xa xl xc) := (b1.cell (p := ⟨b, off + k * 2, none⟩) (block_lt q0)).trans q0
          have c0 : u1.drew.cell? ⟨O, 0, none⟩ = some (.slice na k nc) := hOB1.cell 0
          have hOBh := Lib.hid hOB1
          have szu := hOB1.lt
          have bne : b ≠ O := by omega
          have bne' : O ≠ b := Ne.symm bne
          have cw := Lib.hid ((bel.out.cell (p := ⟨b, off + k * 2, none⟩) hbw).symm.trans q0)
          clear hq hr b1 q0 q1 hOB1
          go_wp2_with fail
          go_region_law (first
              | (go_simp; go_at_call 80; ((with_reducible refine (l01Product_any (.slice xa xl xc) (.slice qa (dlen B9 (DD / YK)) qc) XK (DD / YK) _ (gx.out _ (by (repeat (first | exact Below.refl _ _ | refine Below.drew ?_)))) (gq.out _ (by (repeat (first | exact Below.refl _ _ | refine Below.drew ?_)))) (by have := hlDk.out; omega) (by have := hlDk.out; omega)).mono ?_); rintro e u2 ⟨pv, rfl, pp, b2⟩; obtain ⟨_, pa, pc, rfl⟩ := pp.len; have c0' : u2.cell? ⟨O, 0, none⟩ = some (.slice na k nc) := (b2.cell (p := ⟨O, 0, none⟩) (block_lt c0)).trans c0; have bb2 : Below u1.heap.size u1 u2 := below_wt ((Below.refl _ u1).drew) b2; have b3 := below1 u2 (.cells #[.slice pa (dlen B9 (XK * (DD / YK))) pc] 46); have hOB2 := hOBh.out.keep bb2 szu; obtain ⟨xs, ho, ha, hc⟩ := hM1.out.keep likeS (below_wt bb2 b3); rw [hnl.out k hk] at ho; have szo := hOB2.lt; have c0a : ∀ o, (u2.alloc o).cell? ⟨O, 0, none⟩ = some (.slice na k nc) := fun o => (World.cell?_alloc_past _ _ _ szo).trans c0'))
              | (refine step_append_sl _ (by rfl) _ _ _ (by rfl) (O + 1) 46 i0 (.slice none 0 0) 1 24 Try.underlying29 hi'.out hz0'.out hz1'.out hz2'.out rfl (by omega) (.slice na k nc) k xs (by rfl) ho ⟨u2.heap.size, 0, none⟩ 1 1 [.slice pa (dlen B9 (XK * (DD / YK))) pc] (by rfl) (by rfl) (one_new _ _ _) (by simp [Value.oneCell']) (by omega) (by unfold maxLen; omega) (by omega) (by simp; omega) zero_sl1 (sl1 _ _ _) ha ?_; intro gg cap2 w5 hown5 hgr5 hal5; have hOB5 : Blk w5 O _ _ := (hgr5.block O (by simp; omega) (fun e => by have := (ho.lt O e.symm).1; omega)).trans (hOB2.alloc _); have f0 := hOB5.frozen 0; have B5 : Below w.heap.size w w5 := (below_wt (below_wt B1'.out bb2) b3).grown hgr5 (by simp; omega) (fun k' hk' => by have := (ho.lt k' hk').1; omega); have c05 : w5.cell? ⟨O, 0, none⟩ = some (.slice na k nc) := hOB5.cell 0)
              | fail "no arm")
          all_goals
            have hOB6 := Lib.hid (hOB5.set 0 (.slice (some ⟨gg, 0, none⟩) (k + 1) cap2))
            have hD5 := Lib.hid ((((hD1.out.keep bb2).keep b3).grownSl ha hgr5).setBox hOB5 0 (.slice (some ⟨gg, 0, none⟩) (k + 1) cap2))
            have hZ5 : Blk w5 w.heap.size _ _ := (hgr5.block w.heap.size (by simp; omega) (fun e => by have := (ho.lt w.heap.size e.symm).1; omega)).trans ((hZ1.out.keep bb2 hZ1.out.lt).alloc _)
            have hZ6 := Lib.hid (hZ5.setOther (a := ⟨O, 0, none⟩) (by simp only; omega) (.slice (some ⟨gg, 0, none⟩) (k + 1) cap2))
            have B6 := Lib.hid (B5.setCell (p := ⟨O, 0, none⟩) (by simp only; omega) (.slice (some ⟨gg, 0, none⟩) (k + 1) cap2))
            have hM5 := Lib.hid (show MadeL LongS 46 _ (O + 1) (.slice (some ⟨gg, 0, none⟩) (k + 1) cap2) (comN DD (l.take (k + 1))) by
              have hnk := hnl.out k hk
              rw [hnn1.out]
              have h1 := MadeL.step likeS (l := comN DD (l.take k)) hc (by rw [hnk]; exact ho.1.trans (by omega)) ha (pp.keep b3) (by rw [hnk]; exact hown5) hgr5 hal5
              exact h1.setBox (fun h hB j u => h.setBox hB j u) hOB5 (by intro e; have := (hown5.lt O e).1; omega) 0 (.slice (some ⟨gg, 0, none⟩) (k + 1) cap2))
            clear b2 bb2 b3 hOB2 ho ha hc hgr5 hal5 hown5 hOB5 B5 pp hZ5 c1 c0a sq
            go_wp2
            go_roundw
            case rel => exact ⟨k + 1, cap2, some ⟨gg, 0, none⟩, by have := hlt'.out; omega, by go_num, Lib.hid (by simpa using hOB6.out), hM5, hD5, hZ6, B6⟩
            case measure => have := hlt'.out; simp [intOf]; omega
        · obtain rfl : L = k := by omega
          have hlt' : ¬ (L : Int) < (L : Int) := by omega
          have z0 := hOB.out.cell 0
          have z1 := hOB.out.cell 1
          have y0 := hZB.out.cell 0
          have y1 := hZB.out.cell 1
          have f0 := hZB.out.frozen 0
          have f1 := hZB.out.frozen 1
          simp only [List.getElem?_toArray, List.getElem?_cons_zero, List.getElem?_cons_succ] at z0 z1 y0 y1
          have hM' := Lib.hid (show MadeL LongS 46 wr (O + 1) (.slice na L nc) (comN DD l) by have := hM.out; rwa [hall.out] at this)
          have hfa : ∀ (x : Nat), x ≤ O → (Value.slice na L nc).ownBlock ≠ some x := fun x hx e => by
            obtain ⟨xs, ho, _⟩ := hM'.out
            have := (ho.lt x e).1
            omega
          have hf1 := Lib.hid (MadeL.done (MadeL.setBox (L := LongS) (fun h hB j u => LongS.setBox h hB j u) (MadeL.setBox (L := LongS) (fun h hB j u => LongS.setBox h hB j u) hM'.out hZB.out (hfa _ (by omega)) 0 (.slice na L nc)) (hZB.out.set 0 (.slice na L nc)) (hfa _ (by omega)) 1 (.slice da dl dc)))
          have hf2 := Lib.hid ((hD.out.setBox hZB.out 0 (.slice na L nc)).setBox (hZB.out.set 0 (.slice na L nc)) 1 (.slice da dl dc))
          have B5 := Lib.hid ((bel.out.setCell (p := ⟨w.heap.size, 0, none⟩) (Nat.le_refl _) (.slice na L nc)).setCell (p := ⟨w.heap.size, 1, none⟩) (Nat.le_refl _) (.slice da dl dc))
          clear hlt hM hM' hfa
          go_wp2
          refine bodyPost_ret (v := .agg #[.slice na L nc, .slice da dl dc]) (by simp [results, Try.results62, go_sem, y0, y1]) rfl ?_
          exact ⟨_, _, rfl, by rw [hDe.out]; exact hf1.out, by rw [hDe.out]; exact hf2.out, B5.out⟩
end Go.Proofs.Ytjkekhiceadpgaa
