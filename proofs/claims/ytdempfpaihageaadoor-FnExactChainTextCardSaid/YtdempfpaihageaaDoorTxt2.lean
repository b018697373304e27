/- The text of a chain, by the specification. Conditions: none. -/
import Derived.Test.YtdempfpaihageaaDoorTxt
import Derived.Deep.RegionHeld3
namespace Go.Proofs.YtdempfpaihageaaDoor
open Go.RowKit Go.Deep
set_option linter.unusedVariables false

def BA (l : List UInt8) : ByteArray := ⟨l.toArray⟩
theorem BA_append (a b : List UInt8) : BA a ++ BA b = BA (a ++ b) := by simp only [BA, ByteArray.mk_append_mk]
theorem decB_BA (n : Nat) : decB n = BA (decL n) := rfl
def numsL (l : List Int) : List UInt8 := l.flatMap fun x => 32 :: decL x.toNat
def lineL (wd : List UInt8) (l : List Int) : List UInt8 := wd ++ (numsL l ++ [10])
def rowsT (xss : List (List Int)) : List UInt8 := xss.flatMap (lineL [102, 114, 111, 109])
def headT (c : Ch) : List UInt8 := lineL [99, 104, 97, 105, 110] [c.n, c.t]
def textL (c : Ch) : List UInt8 := headT c ++ rowsT c.w
def outB (c : Ch) (k : Nat) : ByteArray := BA (headT c ++ rowsT (c.w.take k))
def midB (c : Ch) (k j : Nat) : ByteArray := BA (headT c ++ (rowsT (c.w.take k) ++ ([102, 114, 111, 109] ++ numsL ((c.w.getD k []).take j))))
def textOf (c : Ch) : ByteArray := if chOk c = true then BA (textL c) else BA []

theorem head_is (c : Ch) : ByteArray.mk #[99, 104, 97, 105, 110, 32] ++ decB c.n.toNat ++ ByteArray.mk #[32] ++ decB c.t.toNat ++ ByteArray.mk #[10] = outB c 0 := by
  show BA [99, 104, 97, 105, 110, 32] ++ BA _ ++ BA [32] ++ BA _ ++ BA [10] = _
  simp only [BA_append, outB, headT, lineL, numsL, rowsT, List.take_zero, List.flatMap_nil, List.flatMap_cons, List.append_nil]
  simp
theorem take_next {α : Type} (l : List α) (d : α) (k : Nat) (h : k < l.length) : l.take (k + 1) = l.take k ++ [l.getD k d] := by
  rw [List.take_add_one, List.getElem?_eq_getElem h]
  simp [List.getD, h]
theorem from_is (c : Ch) (k : Nat) : outB c k ++ ByteArray.mk #[102, 114, 111, 109] = midB c k 0 := by
  show BA _ ++ BA [102, 114, 111, 109] = _
  simp [BA_append, midB, numsL]
theorem num_is (c : Ch) (k j : Nat) (h : j < (c.w.getD k []).length) : midB c k j ++ (ByteArray.mk #[32] ++ decB ((c.w.getD k []).getD j 0).toNat) = midB c k (j + 1) := by
  show BA _ ++ (BA [32] ++ BA _) = _
  rw [BA_append, BA_append, midB, take_next _ 0 j h]
  simp [numsL]
theorem line_is (c : Ch) (k : Nat) (h : k < c.w.length) : midB c k (c.w.getD k []).length ++ ByteArray.mk #[10] = outB c (k + 1) := by
  show BA _ ++ BA [10] = _
  rw [BA_append, outB, take_next _ [] k h, List.take_length]
  simp [rowsT, lineL]
theorem text_is (c : Ch) (h : chOk c = true) : outB c c.w.length = textOf c := by
  rw [textOf, if_pos h, outB, List.take_length, textL]

theorem Decimal_int (x : Int) (w : World) (h : 0 ≤ x) (h1 : x < 100) : Calls Tryd.prog 34 #[.int .i64 x] w fun e w' => ∃ d : ByteArray, e = .returned (.string d) ∧ d.size ≤ 2 ∧ Hid (d = decB x.toNat) ∧ Below w.heap.size w w' := by
  have := Decimal_any x.toNat w (by omega)
  rw [show ((x.toNat : Nat) : Int) = x by omega] at this
  exact this.mono fun e w' h => ⟨_, h.1, decB_size _, Lib.hid rfl, h.2⟩

theorem lim_a {x : Nat} (h : x ≤ 2) : (¬ 9223372036854775807 < 6 + x) ∧ (¬ 9223372036854775807 < 6 + x + 1) := by omega
theorem lim_b {x y : Nat} (h : x ≤ 2) (h' : y ≤ 2) : (¬ 9223372036854775807 < 6 + x + 1 + y) ∧ (¬ 9223372036854775807 < 6 + x + 1 + y + 1) := by omega
set_option maxRecDepth 100000 in
set_option maxHeartbeats 4000000 in
theorem l01ChainText_any (b : Nat) (c : Ch) (w : World) (hc : ChP w b c) (hok : chOk c = true) :
    Calls Tryd.prog 16 #[.pointer (some ⟨b, 0, none⟩)] w fun e w' => e = .returned (.string (textOf c)) ∧ Below w.heap.size w w' := by
  obtain ⟨n1, n2, t1, t2, hlen, hrows⟩ := chOk_all hok
  obtain ⟨v, k0, k1, k2, R⟩ := hc
  have hb := block_lt k0
  obtain ⟨rb, off, cap, rv, rfl, hbl, hcl⟩ := R.at (by omega)
  have hcl' := Lib.hid hcl
  have hrows' := Lib.hid hrows
  have hhead := Lib.hid (head_is c)
  have hfin := Lib.hid (text_is c hok)
  have hN : c.w.length ≤ 6 := by omega
  have hN1 : (0 : Int) < (c.w.length : Int) := by omega
  have ht60 := Lib.hid t2
  have hlen' := Lib.hid hlen
  have hn1 := Lib.hid n1
  have hdn := Lib.hid (fun u => Decimal_int c.n u (by omega) (by omega))
  have hdt := Lib.hid (fun u => Decimal_int c.t u (by omega) (by omega))
  clear hcl R hrows hok hlen n1 n2 t1 t2
  go_enter Tryd.func16, Tryd.ntmps16
  go_upto_region 1 with fail
  go_region_held3 (fun w' => w'.cell? ⟨b, 0, none⟩ = some (.int .i64 c.n) ∧ w'.cell? ⟨b, 1, none⟩ = some (.int .i64 c.t)) (go_keep) (first | (have _t := tok1; go_at_call 34; (with_reducible refine (hdt.out _).mono ?_); rintro e w2 ⟨d2, rfl, s2, e2, b2⟩; have _k1 := (b2.cell (p := ⟨b, 0, none⟩) (Nat.lt_of_lt_of_le hb b1.size)); have _k2 := (b2.cell (p := ⟨b, 1, none⟩) (Nat.lt_of_lt_of_le hb b1.size)); have _m2 := (lim_b s1 s2).1; have _m3 := (lim_b s1 s2).2) | (go_at_call 34; (with_reducible refine (hdn.out _).mono ?_); rintro e w1 ⟨d1, rfl, s1, e1, b1⟩; have tok1 : True := trivial; have _m0 := (lim_a s1).1; have _m1 := (lim_a s1).2; have _k1 := (b1.cell (p := ⟨b, 0, none⟩) hb); have _k2 := (b1.cell (p := ⟨b, 1, none⟩) hb); simp [k0, k1] at _k1 _k2))
  have B2 := below_wt (below_wt ((Below.refl w.heap.size w).drew) b1) b2
  have hS0 := Lib.hid (show ByteArray.mk #[99, 104, 97, 105, 110, 32] ++ d1 ++ ByteArray.mk #[32] ++ d2 ++ ByteArray.mk #[10] = outB c 0 by rw [e1.out, e2.out]; exact hhead.out)
  have hz0 : (ByteArray.mk #[99, 104, 97, 105, 110, 32] ++ d1 ++ ByteArray.mk #[32] ++ d2 ++ ByteArray.mk #[10]).size ≤ 12 := by
    simp only [ByteArray.size_append', ByteArray.size_mk', Array.size]
    simp
    omega
  generalize (ByteArray.mk #[99, 104, 97, 105, 110, 32] ++ d1 ++ ByteArray.mk #[32] ++ d2 ++ ByteArray.mk #[10]) = S0 at *
  clear _m0 _m1 _m2 _m3 _k1 _k2 e1 e2 s1 s2 b1 b2 tok1 _t
  go_wp2
  go_loopw [3, 4] (fun o i wr => ∃ (k : Nat) (S : ByteArray), k ≤ c.w.length ∧ i = .int .i64 (k : Int) ∧ o = .string S ∧ S.size ≤ 12 + 23 * k ∧ Hid (S = outB c k) ∧ Below w.heap.size w wr) (fun _ i _ => c.w.length - (intOf i).toNat)
  case atStart => exact ⟨0, S0, Nat.zero_le _, rfl, rfl, hz0, hS0, B2⟩
  case round =>
    obtain ⟨wo, rfl⟩ : ∃ wo : World, wo = wr := ⟨_, rfl⟩
    obtain ⟨k, S, hk, rfl, rfl, hz, hS, bo⟩ := hrel
    have q2 := (bo.cell (p := ⟨b, 2, none⟩) hb).trans k2
    by_cases hlt : k < c.w.length
    · have hkn : (k : Int) < (c.w.length : Int) := by omega
      obtain ⟨hcell0, hrow0⟩ := hcl'.out k hlt
      have hcell := (bo.cell (p := ⟨rb, off + k, none⟩) hbl).trans hcell0
      have hrow := hrow0.keep bo
      obtain ⟨r1, r2, r3⟩ := okRow_all (hrows'.out _ (getD_mem (d := []) hlt))
      have hzs : ¬ 9223372036854775807 < S.size + 4 := by omega
      have hfrom := Lib.hid (from_is c k)
      have hnum := Lib.hid (fun j h => num_is c k j h)
      have hline := Lib.hid (line_is c k hlt)
      have hrl : 0 < (c.w.getD k []).length ∧ (c.w.getD k []).length ≤ 6 := by have := hlen'.out; have := hn1.out; omega
      have r2' := Lib.hid r2
      clear r1 r2 r3
      generalize c.w.getD k [] = row at hrow hnum hline hrl r2'
      generalize rv k = rk at hcell hrow
      obtain ⟨rb2, ro, rc, rfl, hrb, hcr⟩ := hrow.at hrl.1
      have hcr' := Lib.hid hcr
      clear hcr hrow
      go_wp2
      go_loopw [3, 5] (fun o i wr => ∃ (j : Nat) (T : ByteArray), j ≤ row.length ∧ i = .int .i64 (j : Int) ∧ o = .string T ∧ T.size ≤ 16 + 23 * k + 3 * j ∧ Hid (T = midB c k j) ∧ Below wo.heap.size wo wr) (fun _ i _ => row.length - (intOf i).toNat)
      case atStart => exact ⟨0, S ++ ByteArray.mk #[102, 114, 111, 109], Nat.zero_le _, rfl, rfl, by rw [ByteArray.size_append']; show S.size + 4 ≤ _; omega, Lib.hid (by rw [hS.out]; exact hfrom.out), Below.refl _ _⟩
      case round =>
        obtain ⟨w3, rfl⟩ : ∃ w3 : World, w3 = wr := ⟨_, rfl⟩
        obtain ⟨j, T, hj, rfl, rfl, hzT, hT, bel⟩ := hrel
        have q2' := (bel.cell (p := ⟨b, 2, none⟩) (Nat.lt_of_lt_of_le hb bo.size)).trans q2
        have hcell' := (bel.cell (p := ⟨rb, off + k, none⟩) (Nat.lt_of_lt_of_le hbl bo.size)).trans hcell
        clear q2 hcell
        by_cases hjlt : j < row.length
        · have hjI : (j : Int) < (row.length : Int) := by omega
          have hx := (bel.cell (p := ⟨rb2, ro + j, none⟩) hrb).trans (hcr'.out j hjlt)
          have hxb := r2'.out _ (getD_mem (d := 0) hjlt)
          have hn' := Lib.hid (hnum.out j hjlt)
          generalize row.getD j 0 = x at hx hxb hn'
          have hx9 : 0 ≤ x ∧ x < 100 := by have := ht60.out; omega
          clear hxb
          go_wp2_with fail
          refine (Decimal_int x _ hx9.1 hx9.2).mono ?_
          rintro e w4 ⟨d, rfl, sd, ed, b4⟩
          have l1 : ¬ 9223372036854775807 < 1 + d.size := by omega
          have l2 : ¬ 9223372036854775807 < T.size + (1 + d.size) := by omega
          have hsz : (T ++ (ByteArray.mk #[32] ++ d)).size ≤ 16 + 23 * k + 3 * (j + 1) := by
            rw [ByteArray.size_append', ByteArray.size_append']; show T.size + (1 + d.size) ≤ _; omega
          have hT' := Lib.hid (show T ++ (ByteArray.mk #[32] ++ d) = midB c k (j + 1) by rw [hT.out, ed.out]; exact hn'.out)
          clear hx9
          go_wp2
          go_roundw
          case rel => exact ⟨j + 1, _, by omega, by go_num, rfl, hsz, hT', below_wt bel b4⟩
          case measure => simp [intOf]; omega
        · obtain rfl : j = row.length := by omega
          have l1 : ¬ 9223372036854775807 < T.size + 1 := by omega
          have hsz : (T ++ ByteArray.mk #[10]).size ≤ 12 + 23 * (k + 1) := by
            rw [ByteArray.size_append']; show T.size + 1 ≤ _; omega
          have hT' := Lib.hid (show T ++ ByteArray.mk #[10] = outB c (k + 1) by rw [hT.out]; exact hline.out)
          go_wp2
          go_roundw
          case rel => exact ⟨k + 1, _, by omega, by go_num, rfl, hsz, hT', below_wt bo bel⟩
          case measure => simp [intOf]; omega
    · obtain rfl : k = c.w.length := by omega
      have hr := Lib.hid (show S = textOf c by rw [hS.out]; exact hfin.out)
      go_wp2
      go_ret
      exact ⟨show Ending.returned (.string S) = _ by rw [hr.out], bo⟩

set_option maxHeartbeats 2000000 in
theorem ChainText_spec (cv : Value) (c : Ch) (w : World) (hv : ChR w cv c) :
    Calls Tryd.prog 6 #[cv] w fun e w' => e = .returned (.string (textOf c)) ∧ Below w.heap.size w w' := by
  obtain ⟨v, rfl, hr⟩ := hv
  have B0 := below1 w (.cells #[.int .i64 c.n, .int .i64 c.t, v] 27)
  have hB := Blk.new w #[.int .i64 c.n, .int .i64 c.t, v] 27
  have P : ChP (w.alloc (.cells #[.int .i64 c.n, .int .i64 c.t, v] 27)) w.heap.size c := ⟨v, hB.cell 0, hB.cell 1, hB.cell 2, hr.keep B0⟩
  have ho := l01Ok_any _ c _ P
  by_cases hok : chOk c = true
  · have ht := Lib.hid (fun u p => l01ChainText_any w.heap.size c u p hok)
    rw [hok] at ho
    clear hok
    go_enter Tryd.func6, Tryd.ntmps6
    go_wp2_with fail
    refine ho.mono ?_
    rintro e w1 ⟨rfl, m, rfl⟩
    replace P := P.keep (below_drewN (Below.refl _ _) m)
    have B1 := below_drewN B0 m
    generalize (w.alloc (.cells #[.int .i64 c.n, .int .i64 c.t, v] 27)).drewN m = w1 at *
    go_wp2_with fail
    refine (ht.out _ P).mono ?_
    rintro e w2 ⟨rfl, b2⟩
    go_wp2
    go_ret
    exact ⟨rfl, below_wt B1 b2⟩
  · have hok' : chOk c = false := by simpa using hok
    have ht := Lib.hid (show textOf c = BA [] by rw [textOf, if_neg hok])
    rw [hok'] at ho
    clear hok hok'
    go_enter Tryd.func6, Tryd.ntmps6
    go_wp2_with fail
    refine ho.mono ?_
    rintro e w1 ⟨rfl, m, rfl⟩
    go_wp2
    go_ret
    exact ⟨by rw [ht.out]; rfl, below_drewN B0 m⟩
end Go.Proofs.YtdempfpaihageaaDoor
