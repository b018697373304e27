/- l01Divide of the specification, divisors of two digits and more; and as a whole. Conditions: the divisor is not 0; at most 10^9 digits. -/
import Derived.Test.YtjkekhiceadpgaaLong8
namespace Go.Proofs.Ytjkekhiceadpgaa
open Go.RowKit Go.Deep
set_option linter.unusedVariables false

theorem by_ok {F : Nat} (h0 : 0 < F) (h1 : F < 1000000000) : 0 < 1000000000 / (F + 1) ∧ 1000000000 / (F + 1) < 1000000000 := by
  constructor
  · exact Nat.div_pos (by omega) (by omega)
  · exact Nat.div_lt_self (by omega) (by omega)

theorem LongS.setOther {w : World} {a : Option Addr} {len cap n : Nat} (h : LongS w (.slice a len cap) n) {p : Addr} (hp : ∀ b off, a = some ⟨b, off, none⟩ → b ≠ p.block) (u : Value) : LongS (w.setCell p u) (.slice a len cap) n :=
  Row.setOther h hp u

/-- the digits of a number, a digit before them, as the program lays them -/
theorem lg_ints {w : World} {lo n : Nat} {e : TypeId} {v : Value} {l : List Nat} (h : w.ownsRow lo e 1 v n (ints (nats l))) : Ints w v (nats l) := (Own.of h (Nat.le_refl _)).row

theorem l01Cut_at (g off cap1 L4 : Nat) (l : List Nat) (w : World) (hL : L4 = l.length) (ha : Ints w (.slice (some ⟨g, off, none⟩) L4 cap1) (nats l)) (hd : ∀ x ∈ l, x < B9) :
    Calls Try.prog 98 #[.slice (some ⟨g, off, none⟩) L4 cap1] w fun e w' => (∃ k, e = .returned (.slice (some ⟨g, off, none⟩) k cap1) ∧ LongS w (.slice (some ⟨g, off, none⟩) k cap1) (val B9 l)) ∧ ∃ k, w' = w.drewN k := by
  subst hL
  exact l01Cut_same g off cap1 l w ha hd
theorem div_front {w : World} {lo L4 c4 : Nat} {e : TypeId} {a : Option Addr} {x R : Nat} (h : w.ownsRow lo e 1 (.slice a L4 c4) L4 ([.int .i64 (x : Int)] ++ ints (longS R))) :
    L4 = (x :: dgs B9 R (dlen B9 R)).length ∧ Ints w (.slice a L4 c4) (nats (x :: dgs B9 R (dlen B9 R))) := by
  have e1 : [Value.int .i64 (x : Int)] ++ ints (longS R) = ints (nats (x :: dgs B9 R (dlen B9 R))) := rfl
  rw [e1] at h
  refine ⟨?_, lg_ints h⟩
  have := h.1
  simpa [ints] using this.symm
theorem div_len {X V : Nat} (h : X < V * B9) : dlen B9 X ≤ dlen B9 V + 1 := by
  apply dlen_le b9
  rw [Nat.pow_succ]
  exact Nat.lt_of_lt_of_le h (Nat.mul_le_mul_right _ (Nat.le_of_lt (lt_dlen b9 V)))
theorem front_len (R : Nat) : (ints (longS R)).length = dlen B9 R := by simp [ints, longS_length]

set_option maxRecDepth 100000 in
set_option maxHeartbeats 8000000 in
theorem l01Divide_more (a b : Value) (m n K : Nat) (w : World) (ha : LongS w a m) (hb : LongS w b n) (hn : 0 < n) (hK : dlen B9 n = K + 1) (hK1 : 1 ≤ K) (sm : dlen B9 m ≤ 1000000000) (sn : dlen B9 n ≤ 1000000000) :
    Calls Try.prog 96 #[a, b] w fun e w' => ∃ q r, e = .returned (.tuple #[q, r]) ∧ LongS w' q (m / n) ∧ LongS w' r (m % n) ∧ Below w.heap.size w w' := by
  obtain ⟨f0, f1⟩ := by_facts hK
  obtain ⟨y0, y1⟩ := by_ok f0 f1
  obtain ⟨bb, bo, bc, rfl, hbl, hcb⟩ := hb.at (by omega)
  rw [hK] at hcb sn
  have hb0 := hcb K (by omega)
  obtain ⟨_, aa, ac, rfl⟩ := ha.len
  have z1 : (1000000000 : Int).tdiv ((dgt B9 n K : Int) + 1) = (1000000000 / (dgt B9 n K + 1) : Nat) := by rw [Int.tdiv_eq_ediv_of_nonneg (by omega)]; simp
  have z2 : ((dgt B9 n K : Int) + 1 == 0) = false := by simp; omega
  have z3 : ¬ (dgt B9 n K : Int) + 1 = 0 := by omega
  have z4 : IntKind.i64.wrap ((dgt B9 n K : Int) + 1) = (dgt B9 n K : Int) + 1 := by rw [IntKind.wrap_i64]; omega
  have z5 : (((K + 1 : Nat) : Int) == 1) = false := by simp; omega
  have z6 : ((K + 1 : Nat) : Int) - 1 = (K : Int) := by omega
  generalize dgt B9 n K = F at *
  generalize hby : 1000000000 / (F + 1) = by' at *
  clear hby hcb f0
  have ydl := lg_le_one (d := by') (by simpa [B9] using y1)
  have hlit1 := Lib.hid (one_long w by' y0 (by simpa [B9] using y1))
  have hpu := Lib.hid (l01Product_any _ _ m by' _ (ha.keep (below1 w _)) hlit1.out (by omega) (by omega))
  have hbv := Lib.hid hb
  have hsc := Lib.hid (div_scaled m n by' y0)
  have hU := lg_mul (n := m) (d := by') (by simpa [B9] using y1)
  have hV := lg_mul (n := n) (d := by') (by simpa [B9] using y1)
  rw [hK] at hbv hV ⊢
  have hVp := Lib.hid (Nat.mul_pos hn y0)
  clear ha hb
  go_enter Try.func96, Try.ntmps96
  go_wp2_with fail
  refine hpu.out.mono ?_
  rintro e w1 ⟨uv, rfl, hu, b1⟩
  have B1 := below_wt (below1 w (.cells #[.int .i64 (by' : Int)] 2)) b1
  have hv1 := (hbv.out.keep B1).keep (below1 w1 (.cells #[.int .i64 (by' : Int)] 2))
  have hu1 := hu.keep (below1 w1 (.cells #[.int .i64 (by' : Int)] 2))
  have hpv := Lib.hid (l01Product_any _ _ n by' _ hv1 (one_long w1 by' y0 (by simpa [B9] using y1)) (by omega) (by omega))
  clear hpu hlit1 b1 hu hv1
  go_wp2_with fail
  refine hpv.out.mono ?_
  rintro e w3 ⟨vv, rfl, hv, b3⟩
  have hu3 := hu1.keep b3
  have B3 := below_wt (B1.alloc B1.size (.cells #[.int .i64 (by' : Int)] 2)) b3
  clear hpv b3 hu1 B1 hbv
  generalize hUe : m * by' = U at *
  generalize hVe : n * by' = V at *
  obtain ⟨hmU, ua, uc, rfl⟩ := hu3.len
  obtain ⟨hmV, va, vc, rfl⟩ := hv.len
  have hA := hu3.at
  have hLU := Lib.hid hU
  have hval := Lib.hid (show val B9 (dgs B9 (U / V) (dlen B9 U)) = U / V by
    rw [val_dgs]; exact Nat.mod_eq_of_lt (Nat.lt_of_le_of_lt (Nat.div_le_self U V) (lt_dlen b9 U)))
  have h00 := Lib.hid (show U / B9 ^ dlen B9 U % V = 0 by rw [Nat.div_eq_of_lt (lt_dlen b9 U), Nat.zero_mod])
  have hmk := run_make_row' (P := Try.prog) 46 2 (.int .i64 0) 8 Try.underlying46 lg_info rfl .i64 .i64 (dlen B9 U) (by omega) (by omega)
  have hrd := Lib.hid (fun k => div_round U V k hVp.out)
  have hdl := Lib.hid (fun k => And.intro (dgt_lt b9 U k) (And.intro (dgt_lt b9 (U / V) k) (Nat.mod_lt (U / B9 ^ (k + 1)) hVp.out)))
  have hvv := Lib.hid hv
  obtain ⟨i0, hi, hz0, hz1, hz2⟩ := info_parts lg_info
  have hi' := Lib.hid hi; have hz0' := Lib.hid hz0; have hz1' := Lib.hid hz1; have hz2' := Lib.hid hz2
  clear hi hz0 hz1 hz2 hu3 hv hUe hVe
  generalize hL1 : dlen B9 U = L at hmU hA hU hval hmk h00 ⊢
  generalize hLV : dlen B9 V = LV at hmV hV hvv ⊢
  replace hL1 := Lib.hid hL1
  replace hLV := Lib.hid hLV
  have hL9 : L ≤ 1000000001 := by omega
  have hLV9 : LV ≤ 1000000001 := by omega
  clear hU hV hmU hmV z1 z2 z3 z4 z5 z6 hLU
  go_wp2
  go_loopw [12, 13] (fun rv i wr => ∃ (k len rcap : Nat) (ra : Option Addr), k ≤ L ∧ i = .int .i64 ((k : Int) - 1) ∧ rv = .slice ra len rcap ∧ Hid (LongS wr (.slice ra len rcap) (U / B9 ^ k % V)) ∧ Own wr w3.heap.size (w3.heap.size + 1) 2 (.slice (some ⟨w3.heap.size, 0, none⟩) L L) (ints (nats (shL B9 (U / V) L k))) ∧ Below w3.heap.size w3 wr ∧ w3.heap.size < wr.heap.size) (fun _ i _ => (intOf i + 1).toNat)
  case atStart =>
    refine ⟨L, 0, 0, _, Nat.le_refl _, by go_num, rfl, Lib.hid ?_, ?_, ((Below.refl _ _).alloc (Nat.le_refl _) _).alloc (by simp) _, by simp; omega⟩
    · rw [h00.out]
      exact ⟨by simp [longS, dlen_zero, dgs, ints], _, 0, rfl, ⟨by simp [longS, dlen_zero, dgs, ints], by simp [maxLen]⟩, fun i hi => by simp [longS, dlen_zero, dgs, ints] at hi⟩
    · have := (Own.made w3 (.int .i64 0) L 2 (by unfold maxLen; omega)).alloc (.cells #[] 2)
      rw [shL_full]
      simpa [ints] using this
  case round =>
    obtain ⟨wo, rfl⟩ : ∃ wo : World, wo = wr := ⟨_, rfl⟩
    obtain ⟨k, len, rcap, ra, hk, rfl, rfl, hrest, hown, bel, hgw⟩ := hrel
    rcases Nat.eq_zero_or_pos k with rfl | hpos
    · have hro := hrest.out
      rw [show U / B9 ^ 0 % V = U % V by rw [Nat.pow_zero, Nat.div_one]] at hro
      have hml := dlen_mono b9 (Nat.le_of_lt (Nat.mod_lt U hVp.out))
      rw [hLV.out] at hml
      have hml2 : dlen B9 (U % V) ≤ 1000000000000 := by omega
      have hsh := l01Short_any _ (U % V) by' wo hro y0 y1 hml2
      rw [hsc.out.2] at hsh
      replace hsh := Lib.hid hsh
      have hown' := Lib.hid hown
      have hgw' := Lib.hid (show w3.heap.size + 1 ≤ wo.heap.size from hgw)
      clear hro hml hml2 hown hgw
      go_wp2_with fail
      refine hsh.out.mono ?_
      rintro e w4 ⟨rv, rfl, hr4, b4⟩
      obtain ⟨_, rra, rrc, rfl⟩ := hr4.len
      have hrow : Ints w4 (.slice (some ⟨w3.heap.size, 0, none⟩) L L) (nats (dgs B9 (U / V) L)) := by
        have := (hown'.out.keep hgw'.out b4).row
        rw [shL_zero] at this; exact this
      have hcut := l01Cut_any _ _ w4 hrow (fun y hy => by simp only [dgs, List.mem_map] at hy; obtain ⟨j, _, rfl⟩ := hy; exact dgt_lt b9 _ _)
      rw [hval.out, hsc.out.1] at hcut
      replace hcut := Lib.hid hcut
      have hr5 := Lib.hid hr4
      clear hr4 hrow hsh
      go_wp2_with fail
      refine hcut.out.mono ?_
      rintro e w5 ⟨⟨qv, rfl, hq⟩, j, rfl⟩
      obtain ⟨_, qa, qc, rfl⟩ := hq.len
      have hfin := Lib.hid (And.intro (hq.keep (below_drewN (Below.refl w4.heap.size w4) j)) (And.intro (hr5.out.keep (below_drewN (Below.refl w4.heap.size w4) j)) (below_drewN (B3.trans ((below_wt bel b4).mono B3.size)) j)))
      clear hq hcut b4 bel
      go_wp2
      go_ret2
      exact ⟨_, _, rfl, hfin.out.1, hfin.out.2.1, hfin.out.2.2⟩
    · obtain ⟨k, rfl⟩ : ∃ k', k = k' + 1 := ⟨k - 1, by omega⟩
      have hi : (((k + 1 : Nat) : Int) - 1) = (k : Int) := by omega
      rw [hi]
      obtain ⟨ub, uo, uc', hv1, hl1, hc1⟩ := hA (by omega)
      simp only [Value.slice.injEq] at hv1
      obtain ⟨rfl, -, rfl⟩ := hv1
      have q1 := (bel.cell hl1).trans (hc1 k (by omega))
      have hown' := Lib.hid hown
      obtain ⟨x1, x2, x3, x4, x5⟩ := hrd.out k
      obtain ⟨y1', y2', y3'⟩ := hdl.out k
      have hset := Lib.hid (shL_set B9 (U / V) L k)
      generalize hR : U / B9 ^ (k + 1) % V = R at *
      have hRl : dlen B9 R ≤ LV := by have := dlen_mono b9 (Nat.le_of_lt y3'); rw [hLV.out] at this; exact this
      generalize hx : dgt B9 U k = x at *
      generalize hd : dgt B9 (U / V) k = d at *
      generalize hR' : U / B9 ^ k % V = R' at x3 x5
      have hfl := Lib.hid (front_len R)
      have hXl : dlen B9 (R * B9 + x) ≤ LV + 1 := by rw [← hLV.out]; exact div_len x1
      have hlit : (wo.alloc (.cells #[.int .i64 (x : Int)] 2)).ownsRow wo.heap.size 2 1 (.slice (some ⟨wo.heap.size, 0, none⟩) 1 1) 1 [.int .i64 (x : Int)] := World.ownsRow_lit wo #[.int .i64 (x : Int)] 1 (Nat.le_refl _) (by unfold maxLen; omega) rfl
      have hRa : Row (wo.alloc (.cells #[.int .i64 (x : Int)] 2)) (.slice ra len rcap) (ints (longS R)) := hrest.out.keep (below1 wo _)
      have hlit' := Lib.hid hlit
      have hsnoc := Lib.hid (snoc_val x R)
      have hslt := Lib.hid (snoc_lt (R := R) y1')
      have hone : ∀ u ∈ ints (longS R), u.oneCell' = true := by
        intro u hu
        simp only [ints, List.mem_map] at hu
        obtain ⟨y, _, rfl⟩ := hu
        rfl
      have hone' := Lib.hid hone
      have hx3 := Lib.hid x3; have hx5 := Lib.hid x5; have hx4 := Lib.hid x4; have hx1 := Lib.hid x1; have hx2 := Lib.hid x2
      have hd9 := Lib.hid y2'
      clear hown hone hi hc1 hA x1 x2 x3 x4 x5 y1' y2' hR hx hd
      generalize R * B9 + x = X at *
      have hb1 : 1 + (ints (longS R)).length ≤ maxLen := by rw [hfl.out]; unfold maxLen; omega
      have hb2 : (1 + (ints (longS R)).length) * 8 ≤ 140737488355328 := by rw [hfl.out]; omega
      have hb3 : wo.heap.size ≤ (wo.alloc (.cells #[.int .i64 (x : Int)] 2)).heap.size := by simp
      have hb4 : 0 < 1 + (ints (longS R)).length := by omega
      go_wp2_with (at_builtin; (refine wpList_append_row _ rfl _ _ 46 rfl wo.heap.size 2 i0 (.int .i64 0) 8 Try.underlying46 hi'.out hz0'.out hz1'.out hz2'.out rfl (.slice (some ⟨wo.heap.size, 0, none⟩) 1 1) 1 [.int .i64 (x : Int)] rfl hlit (.slice ra len rcap) (ints (longS R)) rfl hRa hone'.out hb1 hb2 hb3 ?_); intro v4 w4 hown4 hgr4)
      obtain ⟨g4, c4, rfl⟩ := lg_shape hown4 hb4
      clear hb1 hb2 hb3 hb4
      obtain ⟨hL4, hrow4⟩ := div_front hown4
      have hg4 := (lg_type hown4 rfl).1
      have B4 : Below wo.heap.size wo w4 := ((Below.refl _ wo).alloc (Nat.le_refl _) _).grown hgr4 (by simp) (fun k hk => (lg_type hlit'.out hk).1)
      have hcut := l01Cut_at g4 0 c4 _ _ w4 hL4 hrow4 hslt.out
      rw [hsnoc.out] at hcut
      generalize 1 + (ints (longS R)).length = L4 at *
      clear hown4 hgr4 hrow4 hL4 hRa hlit
      refine hcut.mono ?_
      rintro e w5 ⟨⟨k5, rfl, h5⟩, j5, rfl⟩
      replace h5 := h5.keep (below_drewN (Below.refl w4.heap.size w4) j5)
      replace B4 := below_drewN B4 j5
      clear hcut
      generalize w4.drewN j5 = w5 at *
      have hv5 := (hvv.out.keep bel).keep B4
      have hdig := l01Digit_any _ _ X V w5 h5 hv5 hVp.out hx1.out (by omega) (by rw [hLV.out]; omega)
      rw [hx2.out] at hdig
      replace hdig := Lib.hid hdig
      clear hv5
      go_wp2_with fail
      refine hdig.out.mono ?_
      rintro e w6 ⟨rfl, b6⟩
      have h6 := h5.keep b6
      have B6 := below_wt B4 b6
      have hown6 := hown'.out.keep (show w3.heap.size + 1 ≤ wo.heap.size by omega) B6
      have hown6' := Lib.hid hown6
      obtain ⟨g, cap6, hg, -, -, -, hcg, hfg⟩ := hown6.at (by simp [ints, shL_length]; omega)
      simp only [Value.slice.injEq, Option.some.injEq, Addr.mk.injEq, and_true] at hg
      obtain ⟨rfl, -, -⟩ := hg
      have hcg' := hcg k (by simp [ints, shL_length]; omega)
      have hfg' := hfg k
      have Bq := below_wt bel B6
      have hne : ∀ b off, some (⟨g4, 0, none⟩ : Addr) = some ⟨b, off, none⟩ → b ≠ w3.heap.size := by
        intro b off h
        simp only [Option.some.injEq, Addr.mk.injEq] at h
        omega
      have h7 := h6.setOther (p := ⟨w3.heap.size, k, none⟩) hne (.int .i64 (d : Int))
      have own7 := hown6'.out.set k (.int .i64 (d : Int))
      have own7' : Own (w6.setCell ⟨w3.heap.size, k, none⟩ (.int .i64 (d : Int))) w3.heap.size (w3.heap.size + 1) 2 (.slice (some ⟨w3.heap.size, 0, none⟩) L L) (ints (nats (shL B9 (U / V) L k))) := by
        rw [← hset.out]
        simpa [ints, List.map_set] using own7
      have B7 := Bq.setCell (p := ⟨w3.heap.size, k, none⟩) (Nat.le_refl _) (.int .i64 (d : Int))
      have own8 := Lib.hid own7'
      have h8 := Lib.hid h7
      have sz6 : w3.heap.size < w6.heap.size := by have := B6.size; omega
      have hszc : (w6.setCell ⟨w3.heap.size, k, none⟩ (.int .i64 (d : Int))).heap.size = w6.heap.size := by simp
      have sz7 : w3.heap.size < (w6.setCell ⟨w3.heap.size, k, none⟩ (.int .i64 (d : Int))).heap.size := by omega
      have hszc' := Lib.hid hszc
      have sz7' := Lib.hid sz7
      clear hszc sz7
      generalize (ints (nats (shL B9 (U / V) L (k + 1)))).getD k undef = old at hcg'
      clear hcg hfg hown6 own7 own7' h7 h6 h5 b6 B6 B4 hdig
      by_cases hd0 : d = 0
      · have hd1 : ¬ (0 : Int) < (d : Int) := by omega
        have hz := Lib.hid (show X = R' by have := hx3.out; rw [hd0, Nat.mul_zero] at this; omega)
        clear hd0
        go_wp2
        go_roundw
        case rel => exact ⟨k, k5, c4, _, by omega, by go_num, rfl, Lib.hid (by rw [hR', ← hz.out]; exact h8.out), own8.out, B7, sz7'.out⟩
        case measure => simp [intOf]
      · have hd1 : (0 : Int) < (d : Int) := by omega
        have hvz := (hvv.out.keep B7).keep (below1 (w6.setCell ⟨w3.heap.size, k, none⟩ (.int .i64 (d : Int))) (.cells #[.int .i64 (d : Int)] 2))
        have hprod := l01Product_any _ _ V d _ hvz (one_long _ d (by omega) hd9.out) (by rw [hLV.out]; omega) (Nat.le_trans (lg_le_one hd9.out) (by omega))
        rw [hszc'.out] at hprod
        replace hprod := Lib.hid hprod
        clear hd0 hvz
        have hxl := Lib.hid hXl
        go_wp2_with fail
        refine hprod.out.mono ?_
        rintro e w8 ⟨pv, rfl, hp, b8⟩
        obtain ⟨_, pa, pc, rfl⟩ := hp.len
        have hless := l01Less_any _ _ X (V * d) w8 ((h8.out.keep (below1 _ _)).keep b8) hp hx4.out (by omega)
        rw [hx3.out] at hless
        replace hless := Lib.hid hless
        clear hp hprod
        go_wp2_with fail
        refine hless.out.mono ?_
        rintro e w9 ⟨nv, rfl, hn9, b9'⟩
        obtain ⟨_, na, nc, rfl⟩ := hn9.len
        have b10 := below_wt b8 b9'
        have own10 := (own8.out.alloc (.cells #[.int .i64 (d : Int)] 2)).keep (by simp; omega) b10
        have B10 := (B7.alloc (by simp; omega) (.cells #[.int .i64 (d : Int)] 2)).trans (b10.mono (by simp; omega))
        have hn10 := Lib.hid hn9
        have hz10 : w3.heap.size < w9.heap.size := by have := b10.size; simp at this; omega
        clear hless hn9 b8 b9' b10
        go_wp2
        go_roundw
        case rel => exact ⟨k, _, nc, na, by omega, by go_num, rfl, Lib.hid (by rw [hR']; exact hn10.out), own10, B10, hz10⟩
        case measure => simp [intOf]

/-- quotient and remainder -/
theorem l01Divide_any (a b : Value) (m n : Nat) (w : World) (ha : LongS w a m) (hb : LongS w b n) (hn : 0 < n) (sm : dlen B9 m ≤ 1000000000) (sn : dlen B9 n ≤ 1000000000) :
    Calls Try.prog 96 #[a, b] w fun e w' => ∃ q r, e = .returned (.tuple #[q, r]) ∧ LongS w' q (m / n) ∧ LongS w' r (m % n) ∧ Below w.heap.size w w' := by
  have h0 := lg_pos hn
  by_cases h1 : dlen B9 n = 1
  · exact l01Divide_one a b m n w ha hb hn h1 sm
  · exact l01Divide_more a b m n (dlen B9 n - 1) w ha hb hn (by omega) (by omega) sm sn
end Go.Proofs.Ytjkekhiceadpgaa
