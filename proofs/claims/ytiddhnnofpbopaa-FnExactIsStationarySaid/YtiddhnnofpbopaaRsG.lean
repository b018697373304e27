/- RsG: several texts in one (Rs, Rs2, Rs3, Rs4, Sh). Conditions: told in each. -/
import Derived.Test.YtiddhnnofpbopaaListG
import Derived.Deep.RegionHeld3
import Derived.Deep.RegionLaw
import Derived.Test.YtiddhnnofpbopaaWordH
/- l01List of the specification. Conditions: at most 10^6 fractions. -/
namespace Go.Proofs.Ytiddhnnofpbopaa
open Go.RowKit Go.Deep
set_option linter.unusedVariables false
set_option linter.unusedSimpArgs false

theorem Try.infoFrac : (Try.prog.info? 60).map (fun i => (i.zero, i.size, i.bytes)) = some (some (.agg #[.slice none 0 0, .slice none 0 0]), 2, 48) := by kernel_rfl
theorem made_fracs (w : World) : MadeP LongS 60 (w.alloc (.cells #[] 60)) w.heap.size (.slice (some ⟨w.heap.size, 0, none⟩) 0 0) [] := by
  refine MadeP.start _ _ _ ?_ ?_
  · exact World.ownsRow_made w #[] 0 (Nat.le_refl _) (Nat.zero_le _) (by simp)
  · intro g hg
    simp only [Value.ownBlock, Option.some.injEq] at hg
    subst hg
    exact ⟨_, _, heap_alloc_new w _, fun x hx => by cases hx⟩

set_option maxRecDepth 100000 in
set_option maxHeartbeats 4000000 in
theorem l01List_any (v : Value) (l : List (ByteArray × ByteArray)) (w : World) (hv : FrL w v l) (hb : l.length ≤ 2000000) :
    Calls Try.prog 49 #[v] w fun e w' => ∃ a n cap, e = .returned (.tuple #[.slice a n cap, .bool (frsOk l)]) ∧ Below w.heap.size w w' ∧ (frsOk l = true → n = l.length ∧ PairL LongS w' (.slice a n cap) (numP l)) := by
  obtain ⟨hm, va, vc, rfl, _⟩ := id hv
  have hv' := Lib.hid hv
  have hrd := Lib.hid (fun c W => parse_form (l.getD c (⟨#[]⟩, ⟨#[]⟩)).1 (l.getD c (⟨#[]⟩, ⟨#[]⟩)).2 W)
  have hst := Lib.hid (made_fracs w)
  have hno := Lib.hid (fun k h h2 => frsOk_no (l := l) (k := k) h h2)
  have hnx := Lib.hid (fun k h h1 h2 => frsOk_next (l := l) (k := k) h h1 h2)
  have hnp := Lib.hid (fun k h => numP_take l k h)
  have hall := Lib.hid (show l.take l.length = l from List.take_length)
  have hnl := Lib.hid (fun k (h : k ≤ l.length) => (show (numP (l.take k)).length = k by rw [numP_length, List.length_take]; omega))
  have h0 := Lib.hid (show frsOk (l.take 0) = true by rfl)
  have B1 := Lib.hid (below1 w (.cells #[] 60))
  obtain ⟨i0, hi, hz0, hz1, hz2⟩ := info_parts Try.infoFrac
  have hi' := Lib.hid hi; have hz0' := Lib.hid hz0; have hz1' := Lib.hid hz1; have hz2' := Lib.hid hz2
  obtain ⟨L, hL⟩ : ∃ L, L = l.length := ⟨_, rfl⟩
  rw [← hL] at hno hnx hall hnl hb hm ⊢
  unfold maxLen at hm
  have hv2 := Lib.hid (show FrL w (.slice va L vc) l by rw [hL]; exact hv'.out)
  replace hL := Lib.hid hL
  clear hv hv' hi hz0 hz1 hz2
  go_enter Try.func49, Try.ntmps49
  go_wp2_with fail
  go_loopw [4, 5] (fun s i wr => ∃ (k : Nat) (a : Option Addr) (c : Nat), k ≤ L ∧ i = .int .i64 (k : Int) ∧ s = .slice a k c ∧ Hid (frsOk (l.take k) = true) ∧ Hid (MadeP LongS 60 wr w.heap.size (.slice a k c) (numP (l.take k))) ∧ Hid (Below w.heap.size w wr)) (fun _ i _ => L - (intOf i).toNat)
  case atStart => exact ⟨0, _, _, Nat.zero_le _, rfl, rfl, h0, hst, B1⟩
  case round =>
    obtain ⟨k, a, c, hk, rfl, rfl, hok, hmade, bel⟩ := hrel
    by_cases hlt : k < L
    · obtain ⟨b, off, rfl, q0, q1⟩ := (hv2.out.keep bel.out).at k (by rw [← hL.out]; exact hlt)
      have hr1 := Lib.hid (hrd.out k)
      have hno1 := Lib.hid (hno.out k hlt)
      have hnx1 := Lib.hid (hnx.out k hlt hok.out)
      have hnp1 := Lib.hid (hnp.out k (by rw [← hL.out]; exact hlt))
      generalize (l.getD k (⟨#[]⟩, ⟨#[]⟩)).1 = fn at *
      generalize (l.getD k (⟨#[]⟩, ⟨#[]⟩)).2 = fd at *
      have hlt' := Lib.hid hlt
      go_wp2_with fail
      (with_reducible refine (hr1.out _).mono ?_)
      rintro e w1 ⟨a0, a1, x0, x1, k0, k1, rfl, b1, hval⟩
      have hval' := Lib.hid hval
      have B2 := Lib.hid (below_wt bel.out b1)
      have hm2 := Lib.hid (hmade.out.keep likeS b1)
      have s2 := B2.out.size
      clear hval b1 q0 q1
      rcases hfo : frOk fn fd with _ | _
      · have hf := Lib.hid (hno1.out hfo)
        replace hfo := Lib.hid hfo
        have B3 := Lib.hid (below_wt B2.out (below1 w1 (.cells #[.slice a0 x0 k0, .slice a1 x1 k1] 60)))
        go_wp2
        go_ret2
        exact ⟨a, k, c, by rw [hf.out]; rfl, B3.out, fun h => by rw [hf.out] at h; cases h⟩
      · obtain ⟨e0, e1, m0, m1⟩ := hval'.out hfo
        have hok1 := Lib.hid (hnx1.out hfo)
        replace hfo := Lib.hid hfo
        have b3 := below2 w1 (.cells #[.slice a0 x0 k0, .slice a1 x1 k1] 60) (.cells #[.slice a0 x0 k0, .slice a1 x1 k1] 60)
        have hm3 := hm2.out.keep likeS b3
        have M0 := Lib.hid (m0.keep b3)
        have M1 := Lib.hid (m1.keep b3)
        have B3 := Lib.hid (below_wt B2.out b3)
        obtain ⟨xs, ho, ha, hc⟩ := hm3
        have hnk := hnl.out k hk
        have ho' := Lib.hid (show World.ownsRow _ w.heap.size 60 2 (.slice a k c) k xs by rw [hnk] at ho; exact ho)
        have hxl := Lib.hid (show xs.length = k * 2 from ho'.out.1)
        have ha' := Lib.hid ha
        have hc' := Lib.hid hc
        clear m0 m1 hval' e0 e1 ho ha hc hnk b3
        go_wp2_with (at_builtin; (refine wpList_append_sl _ rfl _ _ 57 rfl w.heap.size 60 i0 (.agg #[.slice none 0 0, .slice none 0 0]) 2 48 Try.underlying57 hi'.out hz0'.out hz1'.out hz2'.out rfl (by decide) _ _ _ rfl ho'.out ⟨w1.heap.size + 1, 0, none⟩ 1 1 [.slice a0 x0 k0, .slice a1 x1 k1] rfl rfl (by have := two_new (w1.alloc (.cells #[.slice a0 x0 k0, .slice a1 x1 k1] 60)) (.slice a0 x0 k0) (.slice a1 x1 k1) 60; simpa only [World.size_alloc] using this) (by simp [Value.oneCell']) (by unfold maxLen; omega) (by omega) (by simp; omega) zero_sl (two_sl _ _ _ _ _ _) ha'.out ?_); intro v' w5 hown5 hgr5 hal5)
        obtain ⟨a2, c2, rfl⟩ := shape2 hown5
        go_wp2
        go_roundw
        case rel =>
          refine ⟨k + 1, a2, c2, by have := hlt'.out; omega, by go_num, rfl, hok1, Lib.hid ?_, Lib.hid (B3.out.grown hgr5 (by simp; omega) (fun k' hk' => (ho'.out.lt k' hk').1))⟩
          have hnk := hnl.out k hk
          rw [hnp1.out]
          exact MadeP.step likeS (l := numP (l.take k)) hc'.out (by rw [hnk]; exact hxl.out) ha'.out M0.out M1.out (by rw [hnk]; exact hown5) hgr5 hal5
        case measure => have := hlt'.out; simp [intOf]; omega
    · obtain rfl : k = L := by omega
      have hf := Lib.hid (show frsOk l = true by have := hok.out; rwa [hall.out] at this)
      have hd := Lib.hid (show PairL LongS wr (.slice a k c) (numP l) by have := hmade.out.done; rwa [hall.out] at this)
      have hlt' : ¬ (k : Int) < (k : Int) := by omega
      clear hlt
      go_wp2
      go_ret2
      exact ⟨a, k, c, by rw [hf.out]; rfl, bel.out, fun _ => ⟨rfl, hd.out⟩⟩
end Go.Proofs.Ytiddhnnofpbopaa

/- l01Common of the specification: fractions brought to one denominator. Conditions: no denominator is 0; told by the code. -/
namespace Go.Proofs.Ytiddhnnofpbopaa
open Go.RowKit Go.Deep
set_option linter.unusedVariables false
set_option linter.unusedSimpArgs false

def comD (l : List (Nat × Nat)) : Nat := l.foldl (fun d c => d * (c.2 / Nat.gcd d c.2)) 1
def comN (D : Nat) (l : List (Nat × Nat)) : List Nat := l.map fun c => c.1 * (D / c.2)
theorem comD_take (l : List (Nat × Nat)) (k : Nat) (h : k < l.length) : comD (l.take (k + 1)) = comD (l.take k) * ((l.getD k (0, 0)).2 / Nat.gcd (comD (l.take k)) (l.getD k (0, 0)).2) := by
  unfold comD
  rw [List.take_add_one, List.getElem?_eq_getElem h, List.foldl_append]
  simp [List.getD, h]
theorem comN_take (D : Nat) (l : List (Nat × Nat)) (k : Nat) (h : k < l.length) : comN D (l.take (k + 1)) = comN D (l.take k) ++ [(l.getD k (0, 0)).1 * (D / (l.getD k (0, 0)).2)] := by
  unfold comN
  rw [List.take_add_one, List.getElem?_eq_getElem h, List.map_append]
  congr 1
  simp [List.getD, h]
theorem comN_length (D : Nat) (l : List (Nat × Nat)) : (comN D l).length = l.length := by simp [comN]
theorem mul_dlen' {m n L M : Nat} (h1 : dlen B9 m ≤ L) (h2 : dlen B9 n ≤ M) : dlen B9 (m * n) ≤ L + M :=
  dlen_le b9 (by rw [Nat.pow_add]; exact Nat.mul_lt_mul'' (lt_of_dlen b9 h1) (lt_of_dlen b9 h2))
theorem comD_len (l : List (Nat × Nat)) (S : Nat) (hs : ∀ i, i < l.length → dlen B9 (l.getD i (0, 0)).1 ≤ S ∧ dlen B9 (l.getD i (0, 0)).2 ≤ S) : ∀ k, k ≤ l.length → dlen B9 (comD (l.take k)) ≤ S * k + 1
  | 0, _ => by simp only [List.take_zero, comD, List.foldl_nil]; exact Nat.le_trans (dlen_le b9 (L := 1) (by simp only [B9]; omega)) (by omega)
  | k + 1, h => by
    have i1 := comD_len l S hs k (by omega)
    rw [comD_take l k (by omega)]
    have e := mul_dlen' i1 (Nat.le_trans (dlen_mono b9 (Nat.div_le_self (l.getD k (0, 0)).2 (Nat.gcd (comD (l.take k)) (l.getD k (0, 0)).2))) (hs k (by omega)).2)
    have m4 : S * (k + 1) + 1 = S * k + 1 + S := by rw [Nat.mul_succ]; omega
    rw [m4]; exact e
theorem one_s (w : World) : LongS (w.alloc (.cells #[.int .i64 1] 2)) (.slice (some ⟨w.heap.size, 0, none⟩) 1 1) 1 := one_long1 w
theorem sl1 (a : Option Addr) (l c : Nat) : ∀ x ∈ [Value.slice a l c], IsSl x := by
  intro x hx
  simp at hx
  subst hx
  exact ⟨_, _, _, rfl⟩
theorem zero_sl1 : ∀ x ∈ (Value.slice none 0 0).cells.toList, IsSl x := by
  intro x hx
  simp [Value.cells] at hx
  subst hx
  exact ⟨_, _, _, rfl⟩
theorem Try.infoRow : (Try.prog.info? 42).map (fun i => (i.zero, i.size, i.bytes)) = some (some (.slice none 0 0), 1, 24) := by kernel_rfl

set_option maxRecDepth 100000 in
set_option maxHeartbeats 8000000 in
theorem l01Common_any (v : Value) (l : List (Nat × Nat)) (S : Nat) (w : World) (hv : PairL LongS w v l) (hs : ∀ i, i < l.length → dlen B9 (l.getD i (0, 0)).1 ≤ S ∧ dlen B9 (l.getD i (0, 0)).2 ≤ S)
    (hd : ∀ i, i < l.length → 0 < (l.getD i (0, 0)).2) (hb : S * l.length + S + 1 ≤ 1000000) (hn : l.length ≤ 1000000) :
    Calls Try.prog 89 #[v] w fun e w' => ∃ p q, e = .returned (.agg #[p, q]) ∧ RowL LongS w' p (comN (comD l) l) ∧ LongS w' q (comD l) ∧ Below w.heap.size w w' ∧ (∀ b off n c, p = .slice (some ⟨b, off, none⟩) n c → 0 < l.length → w.heap.size < b) := by
  have hv0 := hv
  obtain ⟨va, vc, rfl, _⟩ := hv
  have hZ := Blk.new w #[.slice none 0 0, .slice none 0 0] 44
  have bel := below1 w (.cells #[.slice none 0 0, .slice none 0 0] 44)
  have hsz := Lib.hid hs
  have hdp := Lib.hid hd
  have hS6 : S ≤ 1000000 := by omega
  have hln := Lib.hid (fun k (h : k ≤ l.length) => (show dlen B9 (comD (l.take k)) ≤ 1000000 by
    have i1 := comD_len l S hs k h
    have m2 : S * k ≤ S * l.length := Nat.mul_le_mul_left _ h
    omega))
  have hnx := Lib.hid (fun k h => comD_take l k h)
  have hnn := Lib.hid (fun k h => comN_take (comD l) l k h)
  have hnl := Lib.hid (fun k (h : k ≤ l.length) => (show (comN (comD l) (l.take k)).length = k by rw [comN_length, List.length_take]; omega))
  have hall := Lib.hid (show l.take l.length = l from List.take_length)
  have hlD := Lib.hid (show dlen B9 (comD l) ≤ 1000000 by have := hln.out l.length (Nat.le_refl _); rwa [hall.out] at this)
  obtain ⟨i0, hi, hz0, hz1, hz2⟩ := info_parts Try.infoRow
  have hi' := Lib.hid hi; have hz0' := Lib.hid hz0; have hz1' := Lib.hid hz1; have hz2' := Lib.hid hz2
  obtain ⟨L, hL⟩ : ∃ L, L = l.length := ⟨_, rfl⟩
  have hvL := Lib.hid (show PairL LongS w (.slice va L vc) l by rw [hL]; exact hv0)
  rw [← hL] at hall hln hnx hnn hnl hsz hdp hn ⊢
  replace hL := Lib.hid hL
  clear hv0 hs hd hb hi hz0 hz1 hz2
  have h1b := one_s (w.alloc (.cells #[.slice none 0 0, .slice none 0 0] 44))
  have hZ1 := Lib.hid (hZ.alloc (.cells #[.int .i64 1] 2))
  have B1 := Lib.hid (below_wt bel (below1 (w.alloc (.cells #[.slice none 0 0, .slice none 0 0] 44)) (.cells #[.int .i64 1] 2)))
  simp only [World.size_alloc] at h1b
  have h1' := Lib.hid (show LongS _ _ (comD (l.take 0)) from h1b)
  clear h1b hZ bel
  go_enter Try.func89, Try.ntmps89
  go_wp2_with fail
  go_loopw [3, 4] (fun s i wr => ∃ (k dl dc : Nat) (da : Option Addr), k ≤ L ∧ i = .int .i64 (k : Int) ∧ s = .slice da dl dc ∧ Hid (LongS wr (.slice da dl dc) (comD (l.take k))) ∧ Hid (Blk wr w.heap.size #[.slice none 0 0, .slice none 0 0] 44) ∧ Hid (Below w.heap.size w wr)) (fun _ i _ => L - (intOf i).toNat)
  case atStart => exact ⟨0, _, _, _, Nat.zero_le _, rfl, rfl, h1', hZ1, B1⟩
  case round =>
    obtain ⟨k, dl, dc, da, hk, rfl, rfl, hD, hZB, bel⟩ := hrel
    by_cases hlt : k < L
    · obtain ⟨b, off, x, y, rfl, q0, q1, hx, hy⟩ := (hvL.out.keep likeS bel.out).at k (by rw [← hL.out]; exact hlt)
      obtain ⟨ya, yl, yc, rfl⟩ := likeS.shape hy
      have s1 := hln.out k hk
      obtain ⟨s3, s4⟩ := hsz.out k hlt
      have hyp := Lib.hid (hdp.out k hlt)
      have gd := Lib.hid (fun W b => hD.out.keep (w' := W) b)
      have gy := Lib.hid (fun W b => hy.keep (w' := W) b)
      have hnx1 := Lib.hid (hnx.out k (by first | exact hlt | (rw [← hL.out]; exact hlt)))
      have hsn := Lib.hid (hln.out (k + 1) (by omega))
      rw [hnx1.out] at hsn
      have hlt' := Lib.hid hlt
      have hDp := Lib.hid (hD.out)
      clear hx hy q0
      generalize comD (l.take k) = DK at *
      generalize (l.getD k (0, 0)).2 = YK at *
      have hgp := Lib.hid (Nat.gcd_pos_of_pos_right DK hyp.out)
      have sg := gcd_len (m := DK) (n := YK) hyp.out
      have sq := dlen_mono b9 (Nat.div_le_self YK (Nat.gcd DK YK))
      replace q1 : wr.drew.cell? ⟨b, off + k * 2 + 1, none⟩ = some (.slice ya yl yc) := q1
      go_wp2_with fail
      go_region_held3 (fun w' => w'.cell? ⟨b, off + k * 2 + 1, none⟩ = some (.slice ya yl yc))
        (go_keep)
        (first
          | (go_at_call 65; ((with_reducible refine (l01Gcd_any (.slice da dl dc) (.slice ya yl yc) DK YK _ (gd.out _ (by (repeat (first | exact Below.refl _ _ | refine Below.drew ?_)))) (gy.out _ (by (repeat (first | exact Below.refl _ _ | refine Below.drew ?_)))) (by omega) (by omega)).mono ?_); rintro e u1 ⟨gv, rfl, pg, b1⟩; obtain ⟨_, ga, gc, rfl⟩ := pg.len; replace q1 : u1.cell? ⟨b, off + k * 2 + 1, none⟩ = some (.slice ya yl yc) := (b1.cell (p := ⟨b, off + k * 2 + 1, none⟩) (block_lt q1)).trans q1))
          | (go_at_call 66; ((with_reducible refine (l01Divide_any (.slice ya yl yc) (.slice ga (dlen B9 (Nat.gcd DK YK)) gc) YK (Nat.gcd DK YK) _ (gy.out _ (by (repeat (first | exact Below.refl _ _ | refine Below.drew ?_ | refine below_wt ?_ b1)))) pg hgp.out (by omega) (by omega)).mono ?_); rintro e u2 ⟨pv, rv, rfl, pp, prr, b2⟩; obtain ⟨_, pa, pc, rfl⟩ := pp.len; obtain ⟨_, ra, rc, rfl⟩ := prr.len; replace q1 : u2.cell? ⟨b, off + k * 2 + 1, none⟩ = some (.slice ya yl yc) := (b2.cell (p := ⟨b, off + k * 2 + 1, none⟩) (block_lt q1)).trans q1)))
      have b12 := below_wt (below_wt (Below.refl wr.heap.size wr).drew b1) b2
      have hpr := Lib.hid (l01Product_any (.slice da dl dc) (.slice pa (dlen B9 (YK / Nat.gcd DK YK)) pc) DK (YK / Nat.gcd DK YK) u2 (gd.out _ b12) pp (by omega) (by omega))
      have B2 := Lib.hid (below_wt bel.out b12)
      have hZ2 := Lib.hid (hZB.out.keep b12 hZB.out.lt)
      clear b1 b2 b12 pg pp prr q1 sg sq
      go_wp2_with fail
      (with_reducible refine hpr.out.mono ?_)
      rintro e u3 ⟨nv, rfl, hnv, b3⟩
      obtain ⟨_, na, nc, rfl⟩ := hnv.len
      have hN := Lib.hid (show LongS u3 _ (comD (l.take (k + 1))) by rw [hnx1.out]; exact hnv)
      have B3 := Lib.hid (below_wt B2.out b3)
      have hZ3 := Lib.hid (hZ2.out.keep b3 hZ2.out.lt)
      clear b3 hnv
      go_wp2
      go_roundw
      case rel => exact ⟨k + 1, _, nc, na, by have := hlt'.out; omega, by go_num, rfl, hN, hZ3, B3⟩
      case measure => have := hlt'.out; simp [intOf]; omega
    · obtain rfl : L = k := by omega
      have hlt' : ¬ (L : Int) < (L : Int) := by omega
      have hDD := Lib.hid (show LongS wr (.slice da dl dc) (comD l) by have := hD.out; rwa [hall.out] at this)
      clear hlt hD
      have bO := below1 wr (.cells #[.slice none 0 0, .slice da dl dc] 44)
      have hO0 := Lib.hid (Blk.new wr #[.slice none 0 0, .slice da dl dc] 44)
      have hZ0 := Lib.hid (hZB.out.keep bO hZB.out.lt)
      have hD0 := Lib.hid (hDD.out.keep bO)
      have B0 := Lib.hid (below_wt bel.out bO)
      have hne : w.heap.size < wr.heap.size := hZB.out.lt
      have hM0 := Lib.hid (show MadeL LongS 42 (wr.alloc (.cells #[.slice none 0 0, .slice da dl dc] 44)) (wr.heap.size + 1) (.slice none 0 0) (comN (comD l) (l.take 0)) from MadeL.nil _ _ _)
      obtain ⟨O, hO⟩ : ∃ O, O = wr.heap.size := ⟨_, rfl⟩
      have hlDk := Lib.hid (show dlen B9 (comD l) ≤ 1000000 from hlD.out)
      generalize hDe : comD l = DD at *
      replace hDe := Lib.hid hDe
      clear bO
      go_wp2_with fail
      rw [← hO] at hO0 hM0 hne ⊢
      clear hO
      go_loopw [8] (fun i wx => ∃ (k nc : Nat) (na : Option Addr), k ≤ L ∧ i = .int .i64 (k : Int) ∧ Hid (Blk wx O #[.slice na k nc, .slice da dl dc] 44) ∧ Hid (MadeL LongS 42 wx (O + 1) (.slice na k nc) (comN DD (l.take k))) ∧ Hid (LongS wx (.slice da dl dc) DD) ∧ Hid (Blk wx w.heap.size #[.slice none 0 0, .slice none 0 0] 44) ∧ Hid (Below w.heap.size w wx)) (fun i _ => L - (intOf i).toNat)
      case atStart => exact ⟨0, 0, none, Nat.zero_le _, rfl, hO0, hM0, hD0, hZ0, B0⟩
      case round =>
        clear hO0 hM0 hD0 hZ0 B0 hDD hZB bel
        obtain ⟨k, nc, na, hk, rfl, hOB, hM, hD, hZB, bel⟩ := hrel
        by_cases hlt : k < L
        · obtain ⟨b, off, x, y, rfl, q0, q1, hx, hy⟩ := (hvL.out.keep likeS bel.out).at k (by rw [← hL.out]; exact hlt)
          have hvk := (hvL.out).at k (by rw [← hL.out]; exact hlt)
          obtain ⟨xa, xl, xc, rfl⟩ := likeS.shape hx
          obtain ⟨ya, yl, yc, rfl⟩ := likeS.shape hy
          have hbw : b < w.heap.size := by
            obtain ⟨b', off', x', y', e', c0, _⟩ := hvk
            simp only [Option.some.injEq, Addr.mk.injEq, and_true] at e'
            obtain ⟨rfl, rfl⟩ := e'
            exact block_lt c0
          obtain ⟨s3, s4⟩ := hsz.out k hlt
          have hyp := hdp.out k hlt
          have hdv := Lib.hid (l01Divide_any (.slice da dl dc) (.slice ya yl yc) DD _ wr hD.out hy hyp (by have := hlDk.out; omega) (by omega))
          have sq := dlen_mono b9 (Nat.div_le_self DD (l.getD k (0, 0)).2)
          have hnn1 := Lib.hid (hnn.out k hlt)
          have hlt' := Lib.hid hlt
          have hx' := Lib.hid hx
          clear hx hy hvk hyp
          generalize (l.getD k (0, 0)).2 = YK at *
          generalize (l.getD k (0, 0)).1 = XK at *
          go_wp2_with fail
          (with_reducible refine hdv.out.mono ?_)
          rintro e u1 ⟨qv, rv, rfl, hq, hr, b1⟩
          obtain ⟨_, qa, qc, rfl⟩ := hq.len
          obtain ⟨_, ra, rc, rfl⟩ := hr.len
          have hOB1 := hOB.out.keep b1 hOB.out.lt
          have hM1 := Lib.hid (hM.out.keep likeS b1)
          have hD1 := Lib.hid (hD.out.keep b1)
          have hZ1 := Lib.hid (hZB.out.keep b1 hZB.out.lt)
          have B1' := Lib.hid (below_wt bel.out b1)
          have gx := Lib.hid (fun W b => (hx'.out.keep b1).keep (w' := W) b)
          have gq := Lib.hid (fun W b => hq.keep (w' := W) b)
          have c1 : u1.drew.cell? ⟨b, off + k * 2, none⟩ = some (.slice xa xl xc) := (b1.cell (p := ⟨b, off + k * 2, none⟩) (block_lt q0)).trans q0
          have c0 : u1.drew.cell? ⟨O, 0, none⟩ = some (.slice na k nc) := hOB1.cell 0
          have hOBh := Lib.hid hOB1
          have szu := hOB1.lt
          have bne : b ≠ O := by omega
          have bne' : O ≠ b := Ne.symm bne
          have cw := Lib.hid ((bel.out.cell (p := ⟨b, off + k * 2, none⟩) hbw).symm.trans q0)
          clear hq hr b1 q0 q1 hOB1
          go_wp2_with fail
          go_region_law (first
              | (go_simp; go_at_call 52; ((with_reducible refine (l01Product_any (.slice xa xl xc) (.slice qa (dlen B9 (DD / YK)) qc) XK (DD / YK) _ (gx.out _ (by (repeat (first | exact Below.refl _ _ | refine Below.drew ?_)))) (gq.out _ (by (repeat (first | exact Below.refl _ _ | refine Below.drew ?_)))) (by have := hlDk.out; omega) (by have := hlDk.out; omega)).mono ?_); rintro e u2 ⟨pv, rfl, pp, b2⟩; obtain ⟨_, pa, pc, rfl⟩ := pp.len; have c0' : u2.cell? ⟨O, 0, none⟩ = some (.slice na k nc) := (b2.cell (p := ⟨O, 0, none⟩) (block_lt c0)).trans c0; have bb2 : Below u1.heap.size u1 u2 := below_wt ((Below.refl _ u1).drew) b2; have b3 := below1 u2 (.cells #[.slice pa (dlen B9 (XK * (DD / YK))) pc] 42); have hOB2 := hOBh.out.keep bb2 szu; obtain ⟨xs, ho, ha, hc⟩ := hM1.out.keep likeS (below_wt bb2 b3); rw [hnl.out k hk] at ho; have szo := hOB2.lt; have c0a : ∀ o, (u2.alloc o).cell? ⟨O, 0, none⟩ = some (.slice na k nc) := fun o => (World.cell?_alloc_past _ _ _ szo).trans c0'))
              | (refine step_append_sl _ (by rfl) _ _ _ (by rfl) (O + 1) 42 i0 (.slice none 0 0) 1 24 Try.underlying28 hi'.out hz0'.out hz1'.out hz2'.out rfl (by omega) (.slice na k nc) k xs (by rfl) ho ⟨u2.heap.size, 0, none⟩ 1 1 [.slice pa (dlen B9 (XK * (DD / YK))) pc] (by rfl) (by rfl) (one_new _ _ _) (by simp [Value.oneCell']) (by omega) (by unfold maxLen; omega) (by omega) (by simp; omega) zero_sl1 (sl1 _ _ _) ha ?_; intro gg cap2 w5 hown5 hgr5 hal5; have hOB5 : Blk w5 O _ _ := (hgr5.block O (by simp; omega) (fun e => by have := (ho.lt O e.symm).1; omega)).trans (hOB2.alloc _); have f0 := hOB5.frozen 0; have B5 : Below w.heap.size w w5 := (below_wt (below_wt B1'.out bb2) b3).grown hgr5 (by simp; omega) (fun k' hk' => by have := (ho.lt k' hk').1; omega); have c05 : w5.cell? ⟨O, 0, none⟩ = some (.slice na k nc) := hOB5.cell 0)
              | fail "no arm")
          all_goals
            have hOB6 := Lib.hid (hOB5.set 0 (.slice (some ⟨gg, 0, none⟩) (k + 1) cap2))
            have hD5 := Lib.hid ((((hD1.out.keep bb2).keep b3).grownSl ha hgr5).setBox hOB5 0 (.slice (some ⟨gg, 0, none⟩) (k + 1) cap2))
            have hZ5 : Blk w5 w.heap.size _ _ := (hgr5.block w.heap.size (by simp; omega) (fun e => by have := (ho.lt w.heap.size e.symm).1; omega)).trans ((hZ1.out.keep bb2 hZ1.out.lt).alloc _)
            have hZ6 := Lib.hid (hZ5.setOther (a := ⟨O, 0, none⟩) (by simp only; omega) (.slice (some ⟨gg, 0, none⟩) (k + 1) cap2))
            have B6 := Lib.hid (B5.setCell (p := ⟨O, 0, none⟩) (by simp only; omega) (.slice (some ⟨gg, 0, none⟩) (k + 1) cap2))
            have hM5 := Lib.hid (show MadeL LongS 42 _ (O + 1) (.slice (some ⟨gg, 0, none⟩) (k + 1) cap2) (comN DD (l.take (k + 1))) by
              have hnk := hnl.out k hk
              rw [hnn1.out]
              have h1 := MadeL.step likeS (l := comN DD (l.take k)) hc (by rw [hnk]; exact ho.1.trans (by omega)) ha (pp.keep b3) (by rw [hnk]; exact hown5) hgr5 hal5
              exact h1.setBox (fun h hB j u => h.setBox hB j u) hOB5 (by intro e; have := (hown5.lt O e).1; omega) 0 (.slice (some ⟨gg, 0, none⟩) (k + 1) cap2))
            clear b2 bb2 b3 hOB2 ho ha hc hgr5 hal5 hown5 hOB5 B5 pp hZ5 c1 c0a sq
            go_wp2
            go_roundw
            case rel => exact ⟨k + 1, cap2, some ⟨gg, 0, none⟩, by have := hlt'.out; omega, by go_num, Lib.hid (by simpa using hOB6.out), hM5, hD5, hZ6, B6⟩
            case measure => have := hlt'.out; simp [intOf]; omega
        · obtain rfl : L = k := by omega
          have hlt' : ¬ (L : Int) < (L : Int) := by omega
          have z0 := hOB.out.cell 0
          have z1 := hOB.out.cell 1
          have y0 := hZB.out.cell 0
          have y1 := hZB.out.cell 1
          have f0 := hZB.out.frozen 0
          have f1 := hZB.out.frozen 1
          simp only [List.getElem?_toArray, List.getElem?_cons_zero, List.getElem?_cons_succ] at z0 z1 y0 y1
          have hM' := Lib.hid (show MadeL LongS 42 wr (O + 1) (.slice na L nc) (comN DD l) by have := hM.out; rwa [hall.out] at this)
          have hfa : ∀ (x : Nat), x ≤ O → (Value.slice na L nc).ownBlock ≠ some x := fun x hx e => by
            obtain ⟨xs, ho, _⟩ := hM'.out
            have := (ho.lt x e).1
            omega
          have hf1 := Lib.hid (MadeL.done (MadeL.setBox (L := LongS) (fun h hB j u => LongS.setBox h hB j u) (MadeL.setBox (L := LongS) (fun h hB j u => LongS.setBox h hB j u) hM'.out hZB.out (hfa _ (by omega)) 0 (.slice na L nc)) (hZB.out.set 0 (.slice na L nc)) (hfa _ (by omega)) 1 (.slice da dl dc)))
          have hf2 := Lib.hid ((hD.out.setBox hZB.out 0 (.slice na L nc)).setBox (hZB.out.set 0 (.slice na L nc)) 1 (.slice da dl dc))
          have B5 := Lib.hid ((bel.out.setCell (p := ⟨w.heap.size, 0, none⟩) (Nat.le_refl _) (.slice na L nc)).setCell (p := ⟨w.heap.size, 1, none⟩) (Nat.le_refl _) (.slice da dl dc))
          have hnb := Lib.hid (show ∀ b off n' c', Value.slice na L nc = .slice (some ⟨b, off, none⟩) n' c' → 0 < L → w.heap.size < b from fun b off n' c' e h0 => by
            obtain ⟨xs, ho, _⟩ := hM'.out
            rcases ho.2 with ⟨_, hz⟩ | ⟨g, cap, cur, hvv, hg, _⟩
            · have hnL := hnl.out L (Nat.le_refl _)
              rw [hall.out] at hnL
              omega
            · rw [e] at hvv
              simp only [Value.slice.injEq, Option.some.injEq, Addr.mk.injEq] at hvv
              omega)
          clear hlt hM hM' hfa
          go_wp2
          refine bodyPost_ret (v := .agg #[.slice na L nc, .slice da dl dc]) (by simp [results, Try.results89, go_sem, y0, y1]) rfl ?_
          exact ⟨_, _, rfl, by rw [hDe.out]; exact hf1.out, by rw [hDe.out]; exact hf2.out, B5.out, hnb.out⟩
end Go.Proofs.Ytiddhnnofpbopaa

/- The sum of a vector and l01Spread of the specification; ValidSpread. Conditions: told by the code. -/
namespace Go.Proofs.Ytiddhnnofpbopaa
open Go.RowKit Go.Deep
set_option linter.unusedVariables false
set_option linter.unusedSimpArgs false

def sumL (l : List Nat) : Nat := l.foldl (· + ·) 0
theorem sumL_take (l : List Nat) (k : Nat) (h : k < l.length) : sumL (l.take (k + 1)) = sumL (l.take k) + l.getD k 0 := by
  unfold sumL
  rw [List.take_add_one, List.getElem?_eq_getElem h, List.foldl_append]
  simp [List.getD, h]
theorem sumL_len (l : List Nat) (S : Nat) (hs : ∀ i, i < l.length → dlen B9 (l.getD i 0) ≤ S) : ∀ k, k ≤ l.length → dlen B9 (sumL (l.take k)) ≤ S + k
  | 0, _ => by simp only [List.take_zero, sumL, List.foldl_nil]; rw [dlen_zero]; omega
  | k + 1, h => by
    have i1 := sumL_len l S hs k (by omega)
    rw [sumL_take l k (by omega)]
    have := plus_len b9 i1 (Nat.le_trans (hs k (by omega)) (Nat.le_add_right S k))
    omega
theorem zero_long0 (w : World) : LongS (w.alloc (.cells #[] 2)) (.slice (some ⟨w.heap.size, 0, none⟩) 0 0) 0 := by
  refine ⟨by simp [longS, dlen_zero, dgs, ints], some ⟨w.heap.size, 0, none⟩, 0, by simp [longS, dlen_zero, dgs, ints], by simp [longS, dlen_zero, dgs, ints, maxLen], fun i hi => ?_⟩
  simp [longS, dlen_zero, dgs, ints] at hi
theorem cut_long (a : Value) (n : Nat) (w : World) (ha : LongS w a n) :
    Calls Try.prog 40 #[a] w fun e w' => ∃ v, e = .returned v ∧ LongS w' v n ∧ Below w.heap.size w w' := by
  have h := l01Cut_any a (dgs B9 n (dlen B9 n)) w ha (dgs_lt b9 _ _)
  rw [val_dgs_small (lt_dlen b9 n)] at h
  refine h.mono ?_
  rintro e w' ⟨⟨v, he, hl⟩, k, rfl⟩
  exact ⟨v, he, hl.keep (below_drewN (Below.refl _ _) k), below_drewN (Below.refl _ _) k⟩

set_option maxRecDepth 100000 in
set_option maxHeartbeats 4000000 in
theorem sum_any (B : Nat) (na da : Option Addr) (n nc dl dc S : Nat) (l : List Nat) (w : World) (hB : Blk w B #[.slice na n nc, .slice da dl dc] 44) (hnl : n = l.length) (hv : RowL LongS w (.slice na n nc) l)
    (hs : ∀ i, i < l.length → dlen B9 (l.getD i 0) ≤ S) (hb : S + l.length ≤ 1000000) :
    Calls Try.prog 90 #[.pointer (some ⟨B, 0, none⟩)] w fun e w' => ∃ v, e = .returned v ∧ LongS w' v (sumL l) ∧ Below w.heap.size w w' := by
  have hln := Lib.hid (fun k (h : k ≤ l.length) => (show dlen B9 (sumL (l.take k)) ≤ 1000000 by have := sumL_len l S hs k h; omega))
  have hnx := Lib.hid (fun k h => sumL_take l k h)
  have hall := Lib.hid (show l.take l.length = l from List.take_length)
  have hsz := Lib.hid hs
  have hv' := Lib.hid hv
  have hB' := Lib.hid hB
  have hS : S ≤ 1000000 := by omega
  have h0 := Lib.hid (show LongS _ _ (sumL (l.take 0)) from zero_long0 w)
  have B1 := Lib.hid (below1 w (.cells #[] 2))
  rw [← hnl] at hln hnx hall hsz hb
  have hnl' := Lib.hid hnl
  clear hs hv hB hnl
  go_enter Try.func90, Try.ntmps90
  go_wp2_with fail
  go_loopw [3, 4] (fun s i wr => ∃ (k sl sc : Nat) (sa : Option Addr), k ≤ n ∧ i = .int .i64 (k : Int) ∧ s = .slice sa sl sc ∧ Hid (LongS wr (.slice sa sl sc) (sumL (l.take k))) ∧ Hid (Below w.heap.size w wr)) (fun _ i _ => n - (intOf i).toNat)
  case atStart => exact ⟨0, _, _, _, Nat.zero_le _, rfl, rfl, h0, B1⟩
  case round =>
    obtain ⟨k, sl, sc, sa, hk, rfl, rfl, hsum, bel⟩ := hrel
    have hBk := hB'.out.keep bel.out hB'.out.lt
    have z0 := hBk.cell 0
    simp only [List.getElem?_toArray, List.getElem?_cons_zero] at z0
    clear hBk
    by_cases hlt : k < n
    · obtain ⟨b, off, x, rfl, q0, hx⟩ := (hv'.out.keep likeS bel.out).at k (by rw [← hnl'.out]; exact hlt)
      obtain ⟨xa, xl, xc, rfl⟩ := likeS.shape hx
      have s1 := hln.out k hk
      have s2 := hsz.out k hlt
      have hpl := Lib.hid (l01Plus_any (.slice sa sl sc) (.slice xa xl xc) _ _ wr hsum.out hx (by omega) (by omega))
      have hnx1 := Lib.hid (hnx.out k (by first | exact hlt | (rw [← hnl'.out]; exact hlt)))
      have hlt' := Lib.hid hlt
      clear hx s1 s2
      go_wp2_with fail
      (with_reducible refine hpl.out.mono ?_)
      rintro e w1 ⟨v, rfl, hL, b1⟩
      obtain ⟨_, pa, pc, rfl⟩ := hL.len
      have hN := Lib.hid (show LongS w1 _ (sumL (l.take (k + 1))) by rw [hnx1.out]; exact hL)
      have B2 := Lib.hid (below_wt bel.out b1)
      clear hL b1 q0 z0
      go_wp2
      go_roundw
      case rel => exact ⟨k + 1, _, pc, pa, by have := hlt'.out; omega, by go_num, rfl, hN, B2⟩
      case measure => have := hlt'.out; simp [intOf]; omega
    · obtain rfl : n = k := by omega
      have hlt' : ¬ (n : Int) < (n : Int) := by omega
      have hc := Lib.hid (cut_long _ _ wr hsum.out)
      clear hlt
      go_wp2_with fail
      (with_reducible refine hc.out.mono ?_)
      rintro e w1 ⟨v, rfl, hL, b1⟩
      rw [hall.out] at hL
      obtain ⟨_, pa, pc, rfl⟩ := hL.len
      have hN := Lib.hid hL
      have B2 := Lib.hid (below_wt bel.out b1)
      clear hL b1
      go_wp2
      go_ret
      exact ⟨_, rfl, hN.out, B2.out⟩

/-! ### both ways to add up agree -/
theorem comD_pos (l : List (Nat × Nat)) (hd : ∀ i, i < l.length → 0 < (l.getD i (0, 0)).2) : ∀ k, k ≤ l.length → 0 < comD (l.take k)
  | 0, _ => by simp [comD]
  | k + 1, h => by
    rw [comD_take l k (by omega)]
    have hy := hd k (by omega)
    exact Nat.mul_pos (comD_pos l hd k (by omega)) (Nat.div_pos (Nat.le_of_dvd hy (Nat.gcd_dvd_right _ _)) (Nat.gcd_pos_of_pos_right _ hy))
theorem comD_dvd (l : List (Nat × Nat)) (k : Nat) : ∀ j, k + j ≤ l.length → comD (l.take k) ∣ comD (l.take (k + j))
  | 0, _ => Nat.dvd_refl _
  | j + 1, h => by
    rw [← Nat.add_assoc, comD_take l (k + j) (by omega)]
    exact Nat.dvd_trans (comD_dvd l k j (by omega)) (Nat.dvd_mul_right _ _)
theorem den_dvd (l : List (Nat × Nat)) (k : Nat) (h : k < l.length) : (l.getD k (0, 0)).2 ∣ comD l := by
  have h1 := comD_dvd l (k + 1) (l.length - (k + 1)) (by omega)
  rw [show k + 1 + (l.length - (k + 1)) = l.length by omega, List.take_length] at h1
  refine Nat.dvd_trans ?_ h1
  rw [comD_take l k h]
  obtain ⟨c, hc⟩ := Nat.gcd_dvd_left (comD (l.take k)) (l.getD k (0, 0)).2
  have h2 := Nat.div_mul_cancel (Nat.gcd_dvd_right (comD (l.take k)) (l.getD k (0, 0)).2)
  generalize Nat.gcd (comD (l.take k)) (l.getD k (0, 0)).2 = g at *
  generalize (l.getD k (0, 0)).2 / g = q at *
  refine ⟨c, ?_⟩
  rw [← h2, hc, Nat.mul_comm q g, Nat.mul_assoc, Nat.mul_assoc, Nat.mul_comm c q]
theorem sumR_pos (l : List (Nat × Nat)) (hd : ∀ i, i < l.length → 0 < (l.getD i (0, 0)).2) : ∀ k, k ≤ l.length → 0 < (sumR (l.take k)).2
  | 0, _ => by simp [sumR]
  | k + 1, h => by rw [sumR_take l k (by omega)]; exact Nat.mul_pos (sumR_pos l hd k (by omega)) (hd k (by omega))
theorem sums_same (l : List (Nat × Nat)) : ∀ k, k ≤ l.length → (sumR (l.take k)).1 * comD l = (sumR (l.take k)).2 * sumL (comN (comD l) (l.take k))
  | 0, _ => by simp [sumR, sumL, comN]
  | k + 1, h => by
    have ih := sums_same l k (by omega)
    have hdv := Nat.mul_div_cancel' (den_dvd l k (by omega))
    rw [sumR_take l k (by omega), comN_take (comD l) l k (by omega)]
    have e : sumL (comN (comD l) (l.take k) ++ [(l.getD k (0, 0)).1 * (comD l / (l.getD k (0, 0)).2)]) = sumL (comN (comD l) (l.take k)) + (l.getD k (0, 0)).1 * (comD l / (l.getD k (0, 0)).2) := by simp [sumL, List.foldl_append]
    rw [e]
    simp only
    generalize comD l / (l.getD k (0, 0)).2 = r at *
    generalize sumL (comN (comD l) (l.take k)) = A at *
    generalize (l.getD k (0, 0)).2 = d at *
    generalize (l.getD k (0, 0)).1 = n at *
    generalize (sumR (l.take k)).1 = s at *
    generalize (sumR (l.take k)).2 = t at *
    generalize comD l = D at *
    subst hdv
    grind
theorem spread_same (l : List (Nat × Nat)) (hd : ∀ i, i < l.length → 0 < (l.getD i (0, 0)).2) : (sumL (comN (comD l) l) = comD l) ↔ ((sumR l).1 = (sumR l).2) := by
  have h1 := sums_same l l.length (Nat.le_refl _)
  have h2 := sumR_pos l hd l.length (Nat.le_refl _)
  have h3 := comD_pos l hd l.length (Nat.le_refl _)
  rw [List.take_length] at h1 h2 h3
  generalize sumL (comN (comD l) l) = A at *
  generalize comD l = D at *
  generalize (sumR l).1 = s at *
  generalize (sumR l).2 = t at *
  constructor
  · rintro rfl
    exact Nat.eq_of_mul_eq_mul_right h3 h1
  · rintro rfl
    exact (Nat.eq_of_mul_eq_mul_left h2 h1).symm
end Go.Proofs.Ytiddhnnofpbopaa

/- l01Spread of the specification; ValidSpread. Conditions: told by the code. -/
namespace Go.Proofs.Ytiddhnnofpbopaa
open Go.RowKit Go.Deep
set_option linter.unusedVariables false
set_option linter.unusedSimpArgs false

theorem frOk_den0 {n d : ByteArray} (h : frOk n d = true) : 0 < numV d := by
  unfold frOk at h
  simp only [Bool.and_eq_true] at h
  exact of_decide_eq_true h.2.2.1
theorem numP_len9 {l : List (ByteArray × ByteArray)} (h : frsOk l = true) : ∀ i, i < (numP l).length → dlen B9 ((numP l).getD i (0, 0)).1 ≤ 300 ∧ dlen B9 ((numP l).getD i (0, 0)).2 ≤ 300 := by
  intro i hi
  rw [numP_length] at hi
  rw [numP_get l i hi]
  have := frOk_num (numP_ok h i hi)
  exact ⟨numV_len9 this.1, numV_len9 this.2⟩
theorem numP_den {l : List (ByteArray × ByteArray)} (h : frsOk l = true) : ∀ i, i < (numP l).length → 0 < ((numP l).getD i (0, 0)).2 := by
  intro i hi
  rw [numP_length] at hi
  rw [numP_get l i hi]
  exact frOk_den0 (numP_ok h i hi)
theorem comD_len9 (l : List (Nat × Nat)) (S : Nat) (hs : ∀ i, i < l.length → dlen B9 (l.getD i (0, 0)).1 ≤ S ∧ dlen B9 (l.getD i (0, 0)).2 ≤ S) : dlen B9 (comD l) ≤ S * l.length + 1 := by
  have := comD_len l S hs l.length (Nat.le_refl _)
  rwa [List.take_length] at this
theorem comN_get (D : Nat) (l : List (Nat × Nat)) (i : Nat) (h : i < l.length) : (comN D l).getD i 0 = (l.getD i (0, 0)).1 * (D / (l.getD i (0, 0)).2) := by
  simp [comN, List.getD, h]
theorem comN_len (l : List (Nat × Nat)) (S D M : Nat) (hs : ∀ i, i < l.length → dlen B9 (l.getD i (0, 0)).1 ≤ S ∧ dlen B9 (l.getD i (0, 0)).2 ≤ S) (hD : dlen B9 D ≤ M) : ∀ i, i < (comN D l).length → dlen B9 ((comN D l).getD i 0) ≤ S + M := by
  intro i hi
  rw [comN_length] at hi
  rw [comN_get D l i hi]
  exact mul_dlen' (hs i hi).1 (Nat.le_trans (dlen_mono b9 (Nat.div_le_self _ _)) hD)
theorem cmp_eq (a b : Nat) : (cmpI a b == 0) = decide (a = b) := by
  unfold cmpI
  by_cases h1 : a < b
  · rw [if_pos h1, decide_eq_false (by omega)]; rfl
  · rw [if_neg h1]
    by_cases h2 : b < a
    · rw [if_pos h2, decide_eq_false (by omega)]; rfl
    · rw [if_neg h2, decide_eq_true (by omega)]; rfl
theorem RowL.setBox' {w : World} {v : Value} {l : List Nat} (h : RowL LongS w v l) {b : Nat} {a1 a2 : Option Addr} {l1 c1 l2 c2 : Nat} {t : TypeId} (hB : Blk w b #[.slice a1 l1 c1, .slice a2 l2 c2] t)
    (hf : ∀ g off n c, v = .slice (some ⟨g, off, none⟩) n c → 0 < l.length → b < g) (j : Nat) (u : Value) : RowL LongS (w.setCell ⟨b, j, none⟩ u) v l := by
  obtain ⟨a, cap, hv, hc⟩ := h
  refine ⟨a, cap, hv, fun i hi => ?_⟩
  obtain ⟨g, off, x, ha, hx, h1⟩ := hc i hi
  have := hf g off l.length cap (by rw [hv, ha]) (by omega)
  exact ⟨g, off, x, ha, by rw [World.cell?_setCell_other _ _ _ _ (fun e => by injection e with e1 _ _; omega)]; exact hx, LongS.setBox h1 hB j u⟩
theorem RowL.shape {L : World → Value → Nat → Prop} {w : World} {v : Value} {l : List Nat} (h : RowL L w v l) : ∃ a cap, v = .slice a l.length cap := by
  obtain ⟨a, c, e, _⟩ := h
  exact ⟨a, c, e⟩
set_option maxRecDepth 100000 in
set_option maxHeartbeats 8000000 in
theorem l01Spread_any (v : Value) (l : List (ByteArray × ByteArray)) (w : World) (hv : FrL w v l) :
    Calls Try.prog 69 #[v] w fun e w' => ∃ (pa qa : Option Addr) (pn pc qn qc : Nat), e = .returned (.tuple #[.agg #[.slice pa pn pc, .slice qa qn qc], .bool (spreadB l)]) ∧ Below w.heap.size w w' ∧ (spreadB l = true → RowL LongS w' (.slice pa pn pc) (comN (comD (numP l)) (numP l)) ∧ LongS w' (.slice qa qn qc) (comD (numP l))) := by
  obtain ⟨hm, va, vc, rfl, _⟩ := id hv
  unfold maxLen at hm
  by_cases hr : 1 ≤ l.length ∧ l.length ≤ 6
  · have hZ := Lib.hid (Blk.new w #[.slice none 0 0, .slice none 0 0] 44)
    have B0 := Lib.hid (below1 w (.cells #[.slice none 0 0, .slice none 0 0] 44))
    have hrd := Lib.hid (l01List_any (.slice va l.length vc) l (w.alloc (.cells #[.slice none 0 0, .slice none 0 0] 44)) (hv.keep B0.out) (by omega))
    have hlen := Lib.hid (fun h => numP_len9 (l := l) h)
    have hden := Lib.hid (fun h => numP_den (l := l) h)
    have hsp := Lib.hid (show spreadB l = (frsOk l && decide ((sumR (numP l)).1 = (sumR (numP l)).2)) by unfold spreadB; rw [decide_eq_true hr, Bool.true_and])
    have hnl := Lib.hid (numP_length l)
    obtain ⟨hr1, hr2⟩ := hr
    obtain ⟨L, hL⟩ : ∃ L, L = l.length := ⟨_, rfl⟩
    rw [← hL] at hr1 hr2 hrd hnl hm ⊢
    have i1 : (1 : Int) ≤ (L : Int) := by omega
    have i2 : (L : Int) ≤ 6 := by omega
    clear hv hL
    go_enter Try.func69, Try.ntmps69
    go_wp2_with (go_at_call 17; go_in)
    (with_reducible refine hrd.out.mono ?_)
    rintro e w1 ⟨a, n, cap, rfl, b1, hval⟩
    have hval' := Lib.hid hval
    have B1 := Lib.hid (below_wt B0.out b1)
    have hZ1 := Lib.hid (hZ.out.keep b1 hZ.out.lt)
    clear hval b1 hZ B0 hrd
    rcases hok : frsOk l with _ | _
    · have hf := Lib.hid (show spreadB l = false by rw [hsp.out, hok]; rfl)
      have z0 := hZ1.out.cell 0
      have z1 := hZ1.out.cell 1
      have f0 := hZ1.out.frozen 0
      have f1 := hZ1.out.frozen 1
      simp only [List.getElem?_toArray, List.getElem?_cons_zero, List.getElem?_cons_succ] at z0 z1
      replace hok := Lib.hid hok
      have B5 := Lib.hid ((B1.out.setCell (p := ⟨w.heap.size, 0, none⟩) (Nat.le_refl _) (.slice none 0 0)).setCell (p := ⟨w.heap.size, 1, none⟩) (Nat.le_refl _) (.slice none 0 0))
      go_wp2
      refine bodyPost_ret (v := .tuple #[.agg #[.slice none 0 0, .slice none 0 0], .bool false]) (by simp [results, Try.results69, go_sem, z0, z1]) rfl ?_
      exact ⟨_, _, _, _, _, _, by rw [hf.out], B5.out, fun h => by rw [hf.out] at h; cases h⟩
    · obtain ⟨rfl, hP⟩ := hval'.out hok
      have hcm := Lib.hid (l01Common_any (.slice a n cap) (numP l) 300 w1 hP (hlen.out hok) (hden.out hok) (by rw [hnl.out]; omega) (by rw [hnl.out]; omega))
      have hDl := Lib.hid (show dlen B9 (comD (numP l)) ≤ 3000 by have := comD_len9 (numP l) 300 (hlen.out hok); rw [hnl.out] at this; omega)
      have hNl := Lib.hid (comN_len (numP l) 300 (comD (numP l)) 3000 (hlen.out hok) hDl.out)
      have hsm := Lib.hid (spread_same (numP l) (hden.out hok))
      have hsp2 := Lib.hid (show spreadB l = decide (sumL (comN (comD (numP l)) (numP l)) = comD (numP l)) by rw [hsp.out, hok, Bool.true_and]; exact decide_eq_decide.2 hsm.out.symm)
      have hcl := Lib.hid (show (comN (comD (numP l)) (numP l)).length = n by rw [comN_length, hnl.out])
      have hcq := Lib.hid (cmp_eq (sumL (comN (comD (numP l)) (numP l))) (comD (numP l)))
      replace hok := Lib.hid hok
      clear hP hval' hsm
      go_wp2_with fail
      (with_reducible refine hcm.out.mono ?_)
      rintro e w2 ⟨p, q, rfl, hp, hq, b2, hfar⟩
      obtain ⟨pa, pc, rfl⟩ := hp.shape
      obtain ⟨_, qa, qc, rfl⟩ := hq.len
      rw [hcl.out] at hp ⊢
      have hfr := Lib.hid (show ∀ g off n' c', Value.slice pa n pc = .slice (some ⟨g, off, none⟩) n' c' → 0 < (comN (comD (numP l)) (numP l)).length → w.heap.size < g from fun g off n' c' e h0 => by
        have h2 := hfar g off n' c' (by rw [hcl.out]; exact e) (by rw [hnl.out]; rw [hcl.out] at h0; exact h0)
        have := B1.out.size
        omega)
      clear hfar
      have B2 := Lib.hid (below_wt B1.out b2)
      have hZ2 := Lib.hid (hZ1.out.keep b2 hZ1.out.lt)
      have bO := below1 w2 (.cells #[.slice pa n pc, .slice qa (dlen B9 (comD (numP l))) qc] 44)
      have hO := Lib.hid (Blk.new w2 #[.slice pa n pc, .slice qa (dlen B9 (comD (numP l))) qc] 44)
      have hZ3 := Lib.hid (hZ2.out.keep bO hZ2.out.lt)
      have B3 := Lib.hid (below_wt B2.out bO)
      have hp3 := Lib.hid (hp.keep likeS bO)
      have hq3 := Lib.hid (hq.keep bO)
      have hne : w.heap.size < w2.heap.size := hZ2.out.lt
      have hsl : dlen B9 (sumL (comN (comD (numP l)) (numP l))) ≤ 10000 := by
        have := sumL_len (comN (comD (numP l)) (numP l)) 3300 hNl.out n (by rw [hcl.out]; exact Nat.le_refl _)
        rw [show n = (comN (comD (numP l)) (numP l)).length from hcl.out.symm, List.take_length, hcl.out] at this
        omega
      clear hp hq b2 bO
      generalize hDe : comD (numP l) = D at *
      generalize hNe : comN D (numP l) = R at *
      replace hDe := Lib.hid hDe
      replace hNe := Lib.hid hNe
      go_wp2_with fail
      generalize hW : w2.alloc _ = W at *
      clear hW
      obtain ⟨O, hOe⟩ : ∃ O, O = w2.heap.size := ⟨_, rfl⟩
      rw [← hOe] at hne hO ⊢
      clear hOe
      have hS := Lib.hid (sum_any O pa qa n pc (dlen B9 D) qc 3300 R W.drew (hO.out.keep (Below.refl _ W).drew hO.out.lt) hcl.out.symm (hp3.out.keep likeS (Below.refl _ W).drew) hNl.out (by rw [hcl.out]; omega))
      have q0 : W.drew.cell? ⟨O, 0, none⟩ = some (.slice pa n pc) := hO.out.cell 0
      have q1 : W.drew.cell? ⟨O, 1, none⟩ = some (.slice qa (dlen B9 D) qc) := hO.out.cell 1
      have ne1 : w.heap.size ≠ O := by omega
      have hOW := Lib.hid hO.out.lt
      have hZW := Lib.hid hZ3.out.lt
      go_region_held3 (fun w' => w'.cell? ⟨O, 0, none⟩ = some (.slice pa n pc) ∧ w'.cell? ⟨O, 1, none⟩ = some (.slice qa (dlen B9 D) qc))
        (first | go_keep | fail "no keep")
        (first
          | (go_at_call 90; ((with_reducible refine hS.out.mono ?_); rintro e u1 ⟨sv, rfl, ps, b1⟩; obtain ⟨_, sa, sc, rfl⟩ := ps.len; replace q0 : u1.cell? ⟨O, 0, none⟩ = some (.slice pa n pc) := (b1.cell (p := ⟨O, 0, none⟩) (block_lt q0)).trans q0; replace q1 : u1.cell? ⟨O, 1, none⟩ = some (.slice qa (dlen B9 D) qc) := (b1.cell (p := ⟨O, 1, none⟩) (block_lt q1)).trans q1))
          | (go_at_call 53; ((with_reducible refine (l01Cmp_bel _ _ (sumL R) D _ ps (hq3.out.keep (below_wt (Below.refl _ W).drew b1))).mono ?_); rintro e u2 ⟨rfl, b2⟩; replace q0 : u2.cell? ⟨O, 0, none⟩ = some (.slice pa n pc) := (b2.cell (p := ⟨O, 0, none⟩) (block_lt q0)).trans q0; replace q1 : u2.cell? ⟨O, 1, none⟩ = some (.slice qa (dlen B9 D) qc) := (b2.cell (p := ⟨O, 1, none⟩) (block_lt q1)).trans q1; have bb := below_wt (below_wt ((Below.refl _ W).drew) b1) b2; have hZ4 := hZ3.out.keep bb hZ3.out.lt; have z0 := hZ4.cell 0; have z1 := hZ4.cell 1; have f0 := hZ4.frozen 0; have f1 := hZ4.frozen 1; simp only [List.getElem?_toArray, List.getElem?_cons_zero, List.getElem?_cons_succ] at z0 z1))
          | fail "no arm")
      all_goals
        have hZ5 := hZ4.set 0 (.slice pa n pc)
        have hZ6 := hZ5.set 1 (.slice qa (dlen B9 D) qc)
        have y0 := hZ6.cell 0
        have y1 := hZ6.cell 1
        have B5 := Lib.hid (((below_wt B3.out bb).setCell (p := ⟨w.heap.size, 0, none⟩) (Nat.le_refl _) (.slice pa n pc)).setCell (p := ⟨w.heap.size, 1, none⟩) (Nat.le_refl _) (.slice qa (dlen B9 D) qc))
        simp at y0 y1
        have hrow := Lib.hid (((hp3.out.keep likeS bb).setBox' hZ4 hfr.out 0 (.slice pa n pc)).setBox' hZ5 hfr.out 1 (.slice qa (dlen B9 D) qc))
        have hden' := Lib.hid (((hq3.out.keep bb).setBox hZ4 0 (.slice pa n pc)).setBox hZ5 1 (.slice qa (dlen B9 D) qc))
        go_wp2
        refine bodyPost_ret (v := .tuple #[.agg #[.slice pa n pc, .slice qa (dlen B9 D) qc], .bool (cmpI (sumL R) D == 0)]) (by simp [results, Try.results69, go_sem, y0, y1]) rfl ?_
        exact ⟨_, _, _, _, _, _, by rw [hsp2.out, hcq.out], B5.out, fun _ => ⟨by rw [hDe.out, hNe.out]; exact hrow.out, by rw [hDe.out]; exact hden'.out⟩⟩
  · have hf := Lib.hid (show spreadB l = false by unfold spreadB; rw [decide_eq_false hr, Bool.false_and])
    have hZ := Blk.new w #[.slice none 0 0, .slice none 0 0] 44
    have B0 := Lib.hid (below1 w (.cells #[.slice none 0 0, .slice none 0 0] 44))
    have z0 := hZ.cell 0
    have z1 := hZ.cell 1
    have f0 := hZ.frozen 0
    have f1 := hZ.frozen 1
    simp only [List.getElem?_toArray, List.getElem?_cons_zero, List.getElem?_cons_succ] at z0 z1
    obtain ⟨L, hL⟩ : ∃ L, L = l.length := ⟨_, rfl⟩
    rw [← hL] at hr hm ⊢
    clear hL hv hZ
    by_cases h1 : 1 ≤ L
    · have h2 : ¬ (L : Int) ≤ 6 := by omega
      have h1' : (1 : Int) ≤ (L : Int) := by omega
      clear hr h1
      go_enter Try.func69, Try.ntmps69
      go_wp2_with (go_at_call 17; go_in)
      refine bodyPost_ret (v := .tuple #[.agg #[.slice none 0 0, .slice none 0 0], .bool false]) (by simp [results, Try.results69, go_sem, z0, z1]) rfl ?_
      exact ⟨_, _, _, _, _, _, by rw [hf.out], B0.out, fun h => by rw [hf.out] at h; cases h⟩
    · have h1' : ¬ (1 : Int) ≤ (L : Int) := by omega
      clear hr h1
      go_enter Try.func69, Try.ntmps69
      go_wp2_with (go_at_call 17; go_in)
      refine bodyPost_ret (v := .tuple #[.agg #[.slice none 0 0, .slice none 0 0], .bool false]) (by simp [results, Try.results69, go_sem, z0, z1]) rfl ?_
      exact ⟨_, _, _, _, _, _, by rw [hf.out], B0.out, fun h => by rw [hf.out] at h; cases h⟩

set_option maxRecDepth 100000 in
set_option maxHeartbeats 2000000 in
theorem ValidSpread_spec (v : Value) (l : List (ByteArray × ByteArray)) (w : World) (hv : FrL w v l) :
    Calls Try.prog 48 #[v] w fun e w' => e = .returned (.bool (spreadB l)) ∧ Below w.heap.size w w' := by
  have hr := Lib.hid (l01Spread_any v l w hv)
  obtain ⟨hm, va, vc, rfl, _⟩ := hv
  generalize l.length = L at *
  go_enter Try.func48, Try.ntmps48
  go_wp2_with fail
  (with_reducible refine hr.out.mono ?_)
  rintro e w1 ⟨pa, qa, pn, pc, qn, qc, rfl, b1, _⟩
  go_wp2
  go_ret
  exact ⟨rfl, below_wt b1 (below1 w1 _)⟩
end Go.Proofs.Ytiddhnnofpbopaa

/- shareOut of the project: fractions brought to one denominator. Conditions: no denominator is 0; told by the code. -/
namespace Go.Proofs.Ytiddhnnofpbopaa
open Go.RowKit Go.Deep
set_option linter.unusedVariables false
set_option linter.unusedSimpArgs false

theorem comD_take' (l : List (Nat × Nat)) (k : Nat) (h : k < l.length) : comD (l.take (k + 1)) = comD (l.take k) / Nat.gcd (comD (l.take k)) (l.getD k (0, 0)).2 * (l.getD k (0, 0)).2 := by
  rw [comD_take l k h]
  have h1 := Nat.div_mul_cancel (Nat.gcd_dvd_left (comD (l.take k)) (l.getD k (0, 0)).2)
  have h2 := Nat.div_mul_cancel (Nat.gcd_dvd_right (comD (l.take k)) (l.getD k (0, 0)).2)
  generalize Nat.gcd (comD (l.take k)) (l.getD k (0, 0)).2 = g at *
  generalize comD (l.take k) = d at *
  generalize (l.getD k (0, 0)).2 = y at *
  generalize d / g = p at *
  generalize y / g = q at *
  subst h1
  rw [← h2, Nat.mul_assoc, Nat.mul_comm g q]
theorem mul_dlenW {m n L M : Nat} (h1 : dlen W32 m ≤ L) (h2 : dlen W32 n ≤ M) : dlen W32 (m * n) ≤ L + M :=
  dlen_le w32 (by rw [Nat.pow_add]; exact Nat.mul_lt_mul'' (lt_of_dlen w32 h1) (lt_of_dlen w32 h2))
theorem comD_lenW (l : List (Nat × Nat)) (S : Nat) (hs : ∀ i, i < l.length → dlen W32 (l.getD i (0, 0)).1 ≤ S ∧ dlen W32 (l.getD i (0, 0)).2 ≤ S) : ∀ k, k ≤ l.length → dlen W32 (comD (l.take k)) ≤ S * k + 1
  | 0, _ => by simp only [List.take_zero, comD, List.foldl_nil]; exact Nat.le_trans (dlen_le w32 (L := 1) (by simp only [W32]; omega)) (by omega)
  | k + 1, h => by
    have i1 := comD_lenW l S hs k (by omega)
    rw [comD_take l k (by omega)]
    have e := mul_dlenW i1 (Nat.le_trans (dlen_mono w32 (Nat.div_le_self (l.getD k (0, 0)).2 (Nat.gcd (comD (l.take k)) (l.getD k (0, 0)).2))) (hs k (by omega)).2)
    have m4 : S * (k + 1) + 1 = S * k + 1 + S := by rw [Nat.mul_succ]; omega
    rw [m4]; exact e
theorem Try.infoLong : (Try.prog.info? 71).map (fun i => (i.zero, i.size, i.bytes)) = some (some (.slice none 0 0), 1, 24) := by kernel_rfl
theorem make_longs (n : Nat) (hb : n ≤ 1000000) (w : World) :
    (Instr.makeSlice 69 (.int .i64 0) (.int .i64 (n : Int))).run Try.prog w = .ok (.slice (some ⟨w.heap.size, 0, none⟩) 0 n) (w.alloc (.cells (madeCells #[.slice none 0 0] n) 71)) := by
  obtain ⟨i0, hi, hz0, hz1, hz2⟩ := info_parts Try.infoLong
  have := run_make (P := Try.prog) w 69 71 i0 (.slice none 0 0) Try.underlying69 hi hz0 .i64 .i64 0 (n : Int) (Int.le_refl _) (by omega) (by rw [hz2]; omega) (by omega)
  rw [this, hz1, Int.toNat_natCast, Nat.mul_one]
  rfl
theorem made_longs (n : Nat) (hb : n ≤ 1000000) (w : World) (B : Nat) (hB : B ≤ w.heap.size) : MadeL LongI 71 (w.alloc (.cells (madeCells #[.slice none 0 0] n) 71)) B (.slice (some ⟨w.heap.size, 0, none⟩) 0 n) [] := by
  refine ⟨[], ?_, ?_, fun i hi => by simp at hi⟩
  · have := World.ownsRow_made w (madeCells #[.slice none 0 0] n) n (size := 1) (e := 71) hB (by unfold maxLen; omega) (by simp [madeCells])
    exact this
  · intro g hg
    simp only [Value.ownBlock, Option.some.injEq] at hg
    subst hg
    refine ⟨_, _, heap_alloc_new w _, fun x hx => ?_⟩
    have := mem_made2 hx (by decide)
    simp at this
    subst this
    exact ⟨_, _, _, rfl⟩
theorem zero_slL : ∀ x ∈ (Value.slice none 0 0).cells.toList, IsSl x := zero_sl1

set_option maxRecDepth 100000 in
set_option maxHeartbeats 8000000 in
theorem shareOut_any (v : Value) (l : List (Nat × Nat)) (S : Nat) (w : World) (hv : PairL LongI w v l) (hs : ∀ i, i < l.length → dlen W32 (l.getD i (0, 0)).1 ≤ S ∧ dlen W32 (l.getD i (0, 0)).2 ≤ S)
    (hd : ∀ i, i < l.length → 0 < (l.getD i (0, 0)).2) (hb : S * l.length + S + 1 ≤ 1000000) (hn : l.length ≤ 1000000) :
    Calls Try.prog 35 #[v] w fun e w' => ∃ p q, e = .returned (.agg #[p, q]) ∧ RowL LongI w' p (comN (comD l) l) ∧ LongI w' q (comD l) ∧ Below w.heap.size w w' := by
  have hv0 := hv
  obtain ⟨va, vc, rfl, _⟩ := hv
  have hZ := Blk.new w #[.slice none 0 0, .slice none 0 0] 73
  have bel := below1 w (.cells #[.slice none 0 0, .slice none 0 0] 73)
  have hlo := Lib.hid (longOf_any 1 (w.alloc (.cells #[.slice none 0 0, .slice none 0 0] 73)) (by omega))
  have hsz := Lib.hid hs
  have hdp := Lib.hid hd
  have hS6 : S ≤ 1000000 := by omega
  have hln := Lib.hid (fun k (h : k ≤ l.length) => (show dlen W32 (comD (l.take k)) ≤ 1000000 by
    have i1 := comD_lenW l S hs k h
    have m2 : S * k ≤ S * l.length := Nat.mul_le_mul_left _ h
    omega))
  have hnx := Lib.hid (fun k h => comD_take' l k h)
  have hnn := Lib.hid (fun k h => comN_take (comD l) l k h)
  have hnl := Lib.hid (fun k (h : k ≤ l.length) => (show (comN (comD l) (l.take k)).length = k by rw [comN_length, List.length_take]; omega))
  have hall := Lib.hid (show l.take l.length = l from List.take_length)
  have hlD := Lib.hid (show dlen W32 (comD l) ≤ 1000000 by have := hln.out l.length (Nat.le_refl _); rwa [hall.out] at this)
  have hmk := fun W => make_longs l.length hn W
  have hmd := Lib.hid (fun W B hB => made_longs l.length hn W B hB)
  obtain ⟨i0, hi, hz0, hz1, hz2⟩ := info_parts Try.infoLong
  have hi' := Lib.hid hi; have hz0' := Lib.hid hz0; have hz1' := Lib.hid hz1; have hz2' := Lib.hid hz2
  obtain ⟨L, hL⟩ : ∃ L, L = l.length := ⟨_, rfl⟩
  have hvL := Lib.hid (show PairL LongI w (.slice va L vc) l by rw [hL]; exact hv0)
  rw [← hL] at hall hln hnx hnn hnl hsz hdp hn hmk hmd ⊢
  replace hL := Lib.hid hL
  clear hv0 hs hd hb hi hz0 hz1 hz2
  go_enter Try.func35, Try.ntmps35
  go_wp2_with fail
  refine hlo.out.mono ?_
  rintro e u0 ⟨v0, rfl, h1, b0⟩
  obtain ⟨_, oa, oc, rfl⟩ := h1.len
  have hZ1 := Lib.hid (hZ.keep b0 hZ.lt)
  have B1 := Lib.hid (below_wt bel b0)
  have h1' := Lib.hid (show LongI u0 _ (comD (l.take 0)) from h1)
  clear h1 hZ bel b0 hlo
  go_wp2_with fail
  go_loopw [3, 12] (fun s i wr => ∃ (k dl dc : Nat) (da : Option Addr), k ≤ L ∧ i = .int .i64 (k : Int) ∧ s = .slice da dl dc ∧ Hid (LongI wr (.slice da dl dc) (comD (l.take k))) ∧ Hid (Blk wr w.heap.size #[.slice none 0 0, .slice none 0 0] 73) ∧ Hid (Below w.heap.size w wr)) (fun _ i _ => L - (intOf i).toNat)
  case atStart => exact ⟨0, _, _, _, Nat.zero_le _, rfl, rfl, h1', hZ1, B1⟩
  case round =>
    clear h1' hZ1 B1
    obtain ⟨k, dl, dc, da, hk, rfl, rfl, hD, hZB, bel⟩ := hrel
    by_cases hlt : k < L
    · obtain ⟨b, off, x, y, rfl, q0, q1, hx, hy⟩ := (hvL.out.keep likeI bel.out).at k (by rw [← hL.out]; exact hlt)
      obtain ⟨xa, xl, xc, rfl⟩ := likeI.shape hx
      obtain ⟨ya, yl, yc, rfl⟩ := likeI.shape hy
      have b9 := below1 wr (.cells #[.slice xa xl xc, .slice ya yl yc] 77)
      have hO := Lib.hid (Blk.new wr #[.slice xa xl xc, .slice ya yl yc] 77)
      have s1 := hln.out k hk
      obtain ⟨s3, s4⟩ := hsz.out k hlt
      have hyp := Lib.hid (hdp.out k hlt)
      have hDk := Lib.hid (hD.out.keep b9)
      have hyk := Lib.hid (hy.keep b9)
      have hZk := Lib.hid (hZB.out.keep b9 hZB.out.lt)
      have Bk := Lib.hid (below_wt bel.out b9)
      have hnx1 := Lib.hid (hnx.out k (by first | exact hlt | (rw [← hL.out]; exact hlt)))
      have hlt' := Lib.hid hlt
      clear hx hy b9 hD hZB bel
      generalize comD (l.take k) = DK at *
      generalize (l.getD k (0, 0)).2 = YK at *
      have hgp := Lib.hid (Nat.gcd_pos_of_pos_right DK hyp.out)
      have sq := dlen_mono w32 (Nat.div_le_self DK (Nat.gcd DK YK))
      go_wp2_with fail
      generalize hW : wr.alloc _ = W at *
      clear hW
      obtain ⟨O, hOe⟩ : ∃ O, O = wr.heap.size := ⟨_, rfl⟩
      rw [← hOe] at hO ⊢
      clear hOe
      have gd := Lib.hid (fun V b => hDk.out.keep (w' := V) b)
      have gy := Lib.hid (fun V b => hyk.out.keep (w' := V) b)
      have q1 : W.drew.cell? ⟨O, 1, none⟩ = some (.slice ya yl yc) := hO.out.cell 1
      go_region_held3 (fun w' => w'.cell? ⟨O, 1, none⟩ = some (.slice ya yl yc))
        (first | go_keep | fail "no keep")
        (first
          | (go_at_call 59; ((with_reducible refine (divisor_any (.slice da dl dc) (.slice ya yl yc) DK YK _ (gd.out _ (by (repeat (first | exact Below.refl _ _ | refine Below.drew ?_)))) (gy.out _ (by (repeat (first | exact Below.refl _ _ | refine Below.drew ?_)))) (by omega) (by omega)).mono ?_); rintro e u1 ⟨gv, rfl, pg, b1⟩; obtain ⟨_, ga, gc, rfl⟩ := pg.len; replace q1 : u1.cell? ⟨O, 1, none⟩ = some (.slice ya yl yc) := (b1.cell (p := ⟨O, 1, none⟩) (block_lt q1)).trans q1))
          | (go_at_call 58; ((with_reducible refine (over_any (.slice da dl dc) (.slice ga (dlen W32 (Nat.gcd DK YK)) gc) DK (Nat.gcd DK YK) _ (gd.out _ (by (repeat (first | exact Below.refl _ _ | refine Below.drew ?_ | refine below_wt ?_ b1)))) pg hgp.out (by omega)).mono ?_); rintro e u2 ⟨pv, rfl, pp, b2⟩; obtain ⟨_, pa, pc, rfl⟩ := pp.len; replace q1 : u2.cell? ⟨O, 1, none⟩ = some (.slice ya yl yc) := (b2.cell (p := ⟨O, 1, none⟩) (block_lt q1)).trans q1))
          | (go_at_call 60; ((with_reducible refine (times_any (.slice pa (dlen W32 (DK / Nat.gcd DK YK)) pc) (.slice ya yl yc) (DK / Nat.gcd DK YK) YK _ pp (gy.out _ (by (repeat (first | exact Below.refl _ _ | refine Below.drew ?_ | refine below_wt ?_ b2 | refine below_wt ?_ b1)))) (by omega) (by omega)).mono ?_); rintro e u3 ⟨nv, rfl, hnv, b3⟩; obtain ⟨_, na, nc, rfl⟩ := hnv.len; replace q1 : u3.cell? ⟨O, 1, none⟩ = some (.slice ya yl yc) := (b3.cell (p := ⟨O, 1, none⟩) (block_lt q1)).trans q1))
          | fail "no arm")
      have b123 := below_wt (below_wt (below_wt (Below.refl W.heap.size W).drew b1) b2) b3
      have hN := Lib.hid (show LongI u3 _ (comD (l.take (k + 1))) by rw [hnx1.out]; exact hnv)
      have B3 := Lib.hid (below_wt Bk.out b123)
      have hZ3 := Lib.hid (hZk.out.keep b123 hZk.out.lt)
      clear b1 b2 b3 b123 hnv pg pp q1 sq
      go_wp2
      go_roundw
      case rel => exact ⟨k + 1, _, nc, na, by have := hlt'.out; omega, by go_num, rfl, hN, hZ3, B3⟩
      case measure => have := hlt'.out; simp [intOf]; omega
    · obtain rfl : L = k := by omega
      have hDD := Lib.hid (show LongI wr (.slice da dl dc) (comD l) by have := hD.out; rwa [hall.out] at this)
      clear hlt hD
      have bO := below1 wr (.cells (madeCells #[.slice none 0 0] L) 71)
      have hM0 := Lib.hid (show MadeL LongI 71 _ (w.heap.size + 1) (.slice (some ⟨wr.heap.size, 0, none⟩) 0 L) (comN (comD l) (l.take 0)) from hmd.out wr (w.heap.size + 1) hZB.out.lt)
      have hZ0 := Lib.hid (hZB.out.keep bO hZB.out.lt)
      have hD0 := Lib.hid (hDD.out.keep bO)
      have B0 := Lib.hid (below_wt bel.out bO)
      generalize hDe : comD l = DD at *
      replace hDe := Lib.hid hDe
      clear bO
      go_wp2_with fail
      go_loopw [6, 31] (fun s i wx => ∃ (k nc : Nat) (na : Option Addr), k ≤ L ∧ i = .int .i64 (k : Int) ∧ s = .slice na k nc ∧ Hid (MadeL LongI 71 wx (w.heap.size + 1) (.slice na k nc) (comN DD (l.take k))) ∧ Hid (LongI wx (.slice da dl dc) DD) ∧ Hid (Blk wx w.heap.size #[.slice none 0 0, .slice none 0 0] 73) ∧ Hid (Below w.heap.size w wx)) (fun _ i _ => L - (intOf i).toNat)
      case atStart => exact ⟨0, L, _, Nat.zero_le _, rfl, rfl, hM0, hD0, hZ0, B0⟩
      case round =>
        clear hM0 hD0 hZ0 B0 hDD hZB bel
        obtain ⟨k, nc, na, hk, rfl, rfl, hM, hD, hZB, bel⟩ := hrel
        by_cases hlt : k < L
        · obtain ⟨b, off, x, y, rfl, q0, q1, hx, hy⟩ := (hvL.out.keep likeI bel.out).at k (by rw [← hL.out]; exact hlt)
          obtain ⟨xa, xl, xc, rfl⟩ := likeI.shape hx
          obtain ⟨ya, yl, yc, rfl⟩ := likeI.shape hy
          have b9 := below1 wr (.cells #[.slice xa xl xc, .slice ya yl yc] 77)
          have hO := Lib.hid (Blk.new wr #[.slice xa xl xc, .slice ya yl yc] 77)
          obtain ⟨s3, s4⟩ := hsz.out k hlt
          have hyp := Lib.hid (hdp.out k hlt)
          have hDk := Lib.hid (hD.out.keep b9)
          have hxk := Lib.hid (hx.keep b9)
          have hyk := Lib.hid (hy.keep b9)
          have hZk := Lib.hid (hZB.out.keep b9 hZB.out.lt)
          have hMk := Lib.hid (hM.out.keep likeI b9)
          have hMo := hM.out
          have Bk := Lib.hid (below_wt bel.out b9)
          have hnn1 := Lib.hid (hnn.out k hlt)
          have hlt' := Lib.hid hlt
          have hfar : ∀ e, (Value.slice na k nc).ownBlock ≠ some (wr.heap.size + e) := fun e h => by
            obtain ⟨xs, ho, _⟩ := hMo
            have := (ho.lt _ h).2
            omega
          have hfar' := Lib.hid (show (Value.slice na k nc).ownBlock ≠ some wr.heap.size from hfar 0)
          clear hx hy b9 hM hZB bel hMo hfar
          generalize (l.getD k (0, 0)).2 = YK at *
          generalize (l.getD k (0, 0)).1 = XK at *
          have sq := dlen_mono w32 (Nat.div_le_self DD YK)
          have sD := hlD.out
          go_wp2_with fail
          generalize hW : wr.alloc _ = W at *
          clear hW
          obtain ⟨O, hOe⟩ : ∃ O, O = wr.heap.size := ⟨_, rfl⟩
          rw [← hOe] at hO hfar' ⊢
          clear hOe
          have gd := Lib.hid (fun V b => hDk.out.keep (w' := V) b)
          have gx := Lib.hid (fun V b => hxk.out.keep (w' := V) b)
          have gy := Lib.hid (fun V b => hyk.out.keep (w' := V) b)
          have szO := hO.out.lt
          have szZ := hZk.out.lt
          have q0 : W.drew.cell? ⟨O, 0, none⟩ = some (.slice xa xl xc) := hO.out.cell 0
          have q1 : W.drew.cell? ⟨O, 1, none⟩ = some (.slice ya yl yc) := hO.out.cell 1
          go_region_held3 (fun w' => w'.cell? ⟨O, 0, none⟩ = some (.slice xa xl xc) ∧ w'.cell? ⟨O, 1, none⟩ = some (.slice ya yl yc))
            (first | go_keep | exact ⟨d0, d1⟩ | fail "no keep")
            (first
              | (go_at_call 58; ((with_reducible refine (over_any (.slice da dl dc) (.slice ya yl yc) DD YK _ (gd.out _ (by (repeat (first | exact Below.refl _ _ | refine Below.drew ?_)))) (gy.out _ (by (repeat (first | exact Below.refl _ _ | refine Below.drew ?_)))) hyp.out (by omega)).mono ?_); rintro e u1 ⟨qv, rfl, pq, b1⟩; obtain ⟨_, qa, qc, rfl⟩ := pq.len; replace q0 : u1.cell? ⟨O, 0, none⟩ = some (.slice xa xl xc) := (b1.cell (p := ⟨O, 0, none⟩) (block_lt q0)).trans q0; replace q1 : u1.cell? ⟨O, 1, none⟩ = some (.slice ya yl yc) := (b1.cell (p := ⟨O, 1, none⟩) (block_lt q1)).trans q1))
              | (go_at_call 60; ((with_reducible refine (times_any (.slice xa xl xc) (.slice qa (dlen W32 (DD / YK)) qc) XK (DD / YK) _ (gx.out _ (by (repeat (first | exact Below.refl _ _ | refine Below.drew ?_ | refine below_wt ?_ b1)))) pq (by omega) (by omega)).mono ?_); rintro e u2 ⟨pv, rfl, pp, b2⟩; obtain ⟨_, pa, pc, rfl⟩ := pp.len; replace q0 : u2.cell? ⟨O, 0, none⟩ = some (.slice xa xl xc) := (b2.cell (p := ⟨O, 0, none⟩) (block_lt q0)).trans q0; replace q1 : u2.cell? ⟨O, 1, none⟩ = some (.slice ya yl yc) := (b2.cell (p := ⟨O, 1, none⟩) (block_lt q1)).trans q1; have bb2 := below_wt (below_wt ((Below.refl _ W).drew) b1) b2; have b3 := below1 u2 (.cells #[.slice pa (dlen W32 (XK * (DD / YK))) pc] 71); obtain ⟨xs, ho, ha, hc⟩ := hMk.out.keep likeI (below_wt bb2 b3); rw [hnl.out k hk] at ho; have szo := bb2.size; have hO2 := hO.out.keep bb2 szO; have hO3 := hO2.alloc (.cells #[.slice pa (dlen W32 (XK * (DD / YK))) pc] 71); have n0 : ∀ o, (u2.alloc o).cell? ⟨O, 0, none⟩ = some (.slice xa xl xc) := fun o => (World.cell?_alloc_past _ _ _ hO2.lt).trans q0; have n1 : ∀ o, (u2.alloc o).cell? ⟨O, 1, none⟩ = some (.slice ya yl yc) := fun o => (World.cell?_alloc_past _ _ _ hO2.lt).trans q1))
              | (refine step_append_sl _ (by rfl) _ _ _ (by rfl) (w.heap.size + 1) 71 i0 (.slice none 0 0) 1 24 Try.underlying69 hi'.out hz0'.out hz1'.out hz2'.out rfl (by omega) (.slice na k nc) k xs (by rfl) ho ⟨u2.heap.size, 0, none⟩ 1 1 [.slice pa (dlen W32 (XK * (DD / YK))) pc] (by rfl) (by rfl) (one_new _ _ _) (by simp [Value.oneCell']) (by omega) (by unfold maxLen; omega) (by omega) (by simp; omega) zero_sl1 (sl1 _ _ _) ha ?_; intro gg cap2 w5 hown5 hgr5 hal5; have hO5 : Blk w5 O _ _ := (hgr5.block O (by have := hO3.lt; omega) (fun e => hfar'.out e.symm)).trans hO3; have d0 : w5.cell? ⟨O, 0, none⟩ = some (.slice xa xl xc) := hO5.cell 0; have d1 : w5.cell? ⟨O, 1, none⟩ = some (.slice ya yl yc) := hO5.cell 1)
              | fail "no arm")
          have bb3 := below_wt bb2 b3
          have hD5 := Lib.hid ((hDk.out.keep bb3).grownSl ha hgr5)
          have hZ5 : Blk w5 w.heap.size _ _ := (hgr5.block w.heap.size (by have := (hZk.out.keep bb3 szZ).lt; omega) (fun e => by have := (ho.lt w.heap.size e.symm).1; omega)).trans (hZk.out.keep bb3 szZ)
          have hZ6 := Lib.hid hZ5
          have B5 := Lib.hid ((below_wt Bk.out bb3).grown hgr5 (by have := (hZk.out.keep bb3 szZ).lt; omega) (fun k' hk' => by have := (ho.lt k' hk').1; omega))
          have hM5 := Lib.hid (show MadeL LongI 71 _ (w.heap.size + 1) (.slice (some ⟨gg, 0, none⟩) (k + 1) cap2) (comN DD (l.take (k + 1))) by
            have hnk := hnl.out k hk
            rw [hnn1.out]
            exact MadeL.step likeI (l := comN DD (l.take k)) hc (by rw [hnk]; exact ho.1.trans (by omega)) ha (pp.keep b3) (by rw [hnk]; exact hown5) hgr5 hal5)
          clear b1 b2 bb2 b3 bb3 hO2 hO3 hO5 ho ha hc hgr5 hal5 hown5 pp pq hZ5 q0 q1 d0 d1 n0 n1 sq
          go_wp2
          go_roundw
          case rel => exact ⟨k + 1, cap2, some ⟨gg, 0, none⟩, by have := hlt'.out; omega, by go_num, rfl, hM5, hD5, hZ6, B5⟩
          case measure => have := hlt'.out; simp [intOf]; omega
        · obtain rfl : L = k := by omega
          have y0 := hZB.out.cell 0
          have y1 := hZB.out.cell 1
          have f0 := hZB.out.frozen 0
          have f1 := hZB.out.frozen 1
          simp only [List.getElem?_toArray, List.getElem?_cons_zero, List.getElem?_cons_succ] at y0 y1
          have hM' := Lib.hid (show MadeL LongI 71 wr (w.heap.size + 1) (.slice na L nc) (comN DD l) by have := hM.out; rwa [hall.out] at this)
          have hfa : (Value.slice na L nc).ownBlock ≠ some w.heap.size := fun e => by
            obtain ⟨xs, ho, _⟩ := hM'.out
            have := (ho.lt _ e).1
            omega
          have hf1 := Lib.hid (MadeL.done (MadeL.setBox (L := LongI) (fun h hB j u => LongI.setBox h hB j u) (MadeL.setBox (L := LongI) (fun h hB j u => LongI.setBox h hB j u) hM'.out hZB.out hfa 0 (.slice na L nc)) (hZB.out.set 0 (.slice na L nc)) hfa 1 (.slice da dl dc)))
          have hf2 := Lib.hid ((hD.out.setBox hZB.out 0 (.slice na L nc)).setBox (hZB.out.set 0 (.slice na L nc)) 1 (.slice da dl dc))
          have B5 := Lib.hid ((bel.out.setCell (p := ⟨w.heap.size, 0, none⟩) (Nat.le_refl _) (.slice na L nc)).setCell (p := ⟨w.heap.size, 1, none⟩) (Nat.le_refl _) (.slice da dl dc))
          clear hlt hM hM' hfa
          go_wp2
          refine bodyPost_ret (v := .agg #[.slice na L nc, .slice da dl dc]) (by simp [results, Try.results35, go_sem, y0, y1]) rfl ?_
          exact ⟨_, _, rfl, by rw [hDe.out]; exact hf1.out, by rw [hDe.out]; exact hf2.out, B5.out⟩
end Go.Proofs.Ytiddhnnofpbopaa
