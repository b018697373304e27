/- digits of the project: a long number in decimal. Conditions: strconv's table of powers lies as its text has it; at most 10^6 words. -/
import Derived.Test.YtefodgebecacgaaDoorFmt
import Derived.Test.YtefodgebecacgaaDoorWord14
import Derived.Test.YtefodgebecacgaaDoorDbw
import Derived.Lib.OwnBridge
import Derived.Deep.LoopGhost
namespace Go.Proofs.YtefodgebecacgaaDoor
open Go.RowKit Go.Deep
set_option linter.unusedVariables false

def strs (l : List ByteArray) : List Value := l.map Value.string
theorem strs_length (l : List ByteArray) : (strs l).length = l.length := by simp [strs]
theorem Tryd.infoStr : (Tryd.prog.info? 9).map (fun i => (i.zero, i.size, i.bytes)) = some (some (.string .empty), 1, 16) := by kernel_rfl
theorem str_shape {w : World} {B n : Nat} {e : TypeId} {v : Value} {vs : List Value} (h : w.ownsRow B e 1 v n vs) : ∃ a cap, v = .slice a n cap := by
  rcases h.2 with ⟨rfl, rfl⟩ | ⟨g, cap, cur, rfl, _⟩
  · exact ⟨none, 0, rfl⟩
  · exact ⟨_, cap, rfl⟩
theorem rep_zeros : ∀ c, Lib.repeatL [48] c = List.replicate c 48
  | 0 => rfl
  | c + 1 => by rw [Lib.repeatL, rep_zeros c]; rfl
theorem padB_rep (s : ByteArray) : (⟨(Lib.repeatL [48] (9 - s.size)).toArray⟩ : ByteArray) ++ s = padB s := by
  obtain ⟨⟨l⟩⟩ := s
  rw [rep_zeros, padB, ByteArray.mk_append_mk]
theorem flat_join : ∀ xs : List (List UInt8), Lib.join xs [] = xs.flatten
  | [] => rfl
  | [x] => by simp [Lib.join, List.intercalate]
  | x :: y :: r => by
    have := flat_join (y :: r)
    simp only [Lib.join, List.intercalate] at this ⊢
    simp [List.intersperse, this]
theorem own_keep {w w' : World} {lo n : Nat} {e : TypeId} {v : Value} {vs : List Value} (h : w.ownsRow lo e 1 v n vs) (hb : Below w.heap.size w w') : w'.ownsRow lo e 1 v n vs := by
  have h2 := (Own.of h (Nat.le_refl _)).keep (Nat.le_refl _) hb
  have hl : vs.length = n := by simpa using h.1
  subst hl
  exact h2.1
theorem digs_bound {n L : Nat} (h : dlen W32 n ≤ L) : dlen B9 n ≤ 2 * L := by
  apply dlen_le b9
  rw [Nat.pow_mul]
  exact Nat.lt_of_lt_of_le (lt_of_dlen w32 h) (Nat.pow_le_pow_left (by decide) _)
theorem digs_pos {n : Nat} (h : 0 < n) : 0 < dlen B9 n := by
  rcases Nat.eq_zero_or_pos (dlen B9 n) with h0 | h0
  · have := lt_dlen b9 n
    rw [h0, Nat.pow_zero] at this; omega
  · exact h0
theorem no_words {n : Nat} (h : dlen W32 n = 0) : n = 0 := by
  have := lt_dlen w32 n
  rw [h, Nat.pow_zero] at this; omega
theorem own_cap {w : World} {B n g cap : Nat} {e : TypeId} {vs : List Value} (h : w.ownsRow B e 1 (.slice (some ⟨g, 0, none⟩) n cap) n vs) : n ≤ cap := by
  rcases h.2 with ⟨e0, _⟩ | ⟨g', cap', cur, e0, hb, hg, hn, hm, hs, ht⟩
  · cases e0
  · cases e0; exact hn
theorem own_str {w : World} {B n g cap : Nat} {e : TypeId} {l : List ByteArray} (h : w.ownsRow B e 1 (.slice (some ⟨g, 0, none⟩) n cap) n (strs l)) (j : Nat) (x : ByteArray) (hx : l[j]? = some x) :
    w.cell? ⟨g, j, none⟩ = some (.string x) ∧ w.frozen? ⟨g, j, none⟩ = false := by
  have hj := (List.getElem?_eq_some_iff.1 hx).1
  have hl : n = l.length := by have := h.1; rw [strs_length] at this; omega
  refine ⟨?_, h.frozenAt j⟩
  rw [h.cellAt j (by omega)]
  simp [strs, hx]

theorem LongI.grown {w w' : World} {b l c m : Nat} {row : Option Nat} (h : LongI w (.slice (some ⟨b, 0, none⟩) l c) m) (hg : w.grownBy w' row) (hr : row ≠ some b) : LongI w' (.slice (some ⟨b, 0, none⟩) l c) m := by
  obtain ⟨hm, a, cap, hv, hk, hc⟩ := h
  refine ⟨hm, a, cap, hv, hk, fun i hi => ?_⟩
  obtain ⟨b', off, ha, hcell⟩ := hc i hi
  simp only [Value.slice.injEq] at hv
  obtain ⟨rfl, -, -⟩ := hv
  simp only [Option.some.injEq, Addr.mk.injEq, and_true] at ha
  obtain ⟨rfl, rfl⟩ := ha
  refine ⟨b, 0, rfl, ?_⟩
  rw [World.cell?_of_block (w := w) (hg.block b (block_lt hcell) (fun e => hr e.symm))]
  exact hcell

theorem rev_own (g cap L B : Nat) (l : List ByteArray) (w : World) (h : w.ownsRow B 9 1 (.slice (some ⟨g, 0, none⟩) L cap) L (strs l)) (hL : L ≤ 1000000000) :
    Calls Tryd.prog 75 #[.slice (some ⟨g, 0, none⟩) L cap] w fun e w' => e = .returned (.tuple #[]) ∧ w'.ownsRow B 9 1 (.slice (some ⟨g, 0, none⟩) L cap) L (strs l.reverse) ∧ ∀ w0, Below B w0 w → Below B w0 w' := by
  have hz : w.ownsRow B 9 1 (.slice (some ⟨g, 0, none⟩) L cap) L ((l.map (·.data.toList)).map encStr) := by rw [Lib.map_encStr]; exact h
  obtain ⟨g', cap', hv, hlo, hlt, _, _, hzl, hH⟩ := Lib.holds_of_ownsRow hz (by intro e; cases e)
  simp only [Value.slice.injEq, Option.some.injEq, Addr.mk.injEq, and_true, true_and] at hv
  obtain ⟨rfl, rfl⟩ := hv
  have hc := Tryd.slices_Reverse_string g 0 cap (l.map (·.data.toList)) w hH (by rw [hzl]; omega)
  rw [hzl] at hc
  refine hc.mono ?_
  rintro e w' ⟨rfl, q, rfl⟩
  refine ⟨rfl, ?_, fun w0 b => Lib.below_putRow b hlo⟩
  have := Lib.ownsRow_putRow (q := q) (ys := (l.map (·.data.toList)).reverse) hz (by rw [List.length_reverse]; exact hzl) (Nat.le_refl L)
  rw [List.take_of_length_le (by rw [List.length_reverse, hzl]; exact Nat.le_refl _), ← List.map_reverse, Lib.map_encStr] at this
  rw [← List.map_reverse] 
  exact this

/-- what the second half is about: the texts of the digits, the highest first -/
def DigL (w W : World) (gv : Value) (n k i : Nat) : Prop := ∃ g gc, gv = .slice (some ⟨g, 0, none⟩) (k + 1) gc ∧ w.heap.size ≤ g ∧ W.ownsRow w.heap.size 9 1 (.slice (some ⟨g, 0, none⟩) (k + 1) gc) (k + 1) (strs (mixT (grpT n (k + 1)) i)) ∧ Below w.heap.size w W

set_option maxRecDepth 100000 in
set_option maxHeartbeats 4000000 in
theorem digits_any (a : Value) (n : Nat) (w : World) (ha : LongI w a n) (sm : dlen W32 n ≤ 1000000) (htab : Tab10 w) :
    Calls Tryd.prog 54 #[a] w fun e w' => e = .returned (.string (numT n)) ∧ Below w.heap.size w w' := by
  obtain ⟨hm1, a1, cap1, rfl⟩ := ha.len
  unfold maxLen at hm1
  rcases Nat.eq_zero_or_pos n with rfl | hp
  · have hr := Lib.hid (show numT 0 = ⟨#[48]⟩ by rw [numT, numW_small (by decide), decW_small (by decide)]; rfl)
    rw [dlen_zero]
    clear ha hm1 sm htab
    generalize numT 0 = R at *
    go_enter Tryd.func54, Tryd.ntmps54
    go_wp2
    go_ret
    exact ⟨by rw [hr.out]; rfl, Below.refl _ _⟩
  · have hlp := dlen_pos hp
    obtain ⟨k, hk⟩ : ∃ k, dlen B9 n = k + 1 := ⟨dlen B9 n - 1, by have := digs_pos hp; omega⟩
    have hkb : k ≤ 2000000 := by have := digs_bound sm; omega
    have hdv := Lib.hid (fun (v : Value) (m : Nat) W (h : LongI W v m) (hs : dlen W32 m ≤ 1000000) => (show Calls Tryd.prog 73 #[v, .int .u32 1000000000] W fun e w' => ∃ l c : Nat, e = .returned (.tuple #[.slice (some ⟨W.heap.size, 0, none⟩) l c, .int .u32 (m % 1000000000 : Nat)]) ∧ LongI w' (.slice (some ⟨W.heap.size, 0, none⟩) l c) (m / 1000000000) ∧ Below W.heap.size W w' from divideByWord_new v m 1000000000 W h (by decide) (by decide) (by omega)))
    have hfm := Lib.hid (fun (u : Nat) W (h : u < 1000000000) (ht : Tab10 W) => FormatUint_any u W (by omega) ht)
    have hstep := Lib.hid (fun j => (show n / B9 ^ j / 1000000000 = n / B9 ^ (j + 1) by rw [Nat.div_div_eq_div_mul]; rfl))
    have hlen := Lib.hid (fun j => Nat.le_trans (dlen_mono w32 (Nat.div_le_self n (B9 ^ j))) sm)
    have hmore := Lib.hid (fun j (h : 0 < n / B9 ^ j) => (show j ≤ k by
      rcases Nat.lt_or_ge k j with h1 | h1
      · have := lt_of_dlen b9 (show dlen B9 n ≤ j by omega)
        rw [Nat.div_eq_of_lt this] at h; omega
      · exact h1))
    have hless := Lib.hid (fun j (h : n / B9 ^ j = 0) => (show k + 1 ≤ j by
      rw [← hk]
      apply dlen_le b9
      rcases Nat.lt_or_ge n (B9 ^ j) with h1 | h1
      · exact h1
      · have := Nat.div_pos h1 (pow_pos' b9 j); omega))
    have hrev := Lib.hid (grpT_rev n (k + 1))
    have hk' := Lib.hid hk
    have ha' := Lib.hid ha
    have htab' := Lib.hid htab
    have hx0 := Lib.hid (show n / B9 ^ 0 = n by simp)
    obtain ⟨l0, hl0⟩ : ∃ l, l = dlen W32 n := ⟨_, rfl⟩
    have hl0' := Lib.hid hl0
    rw [← hl0] at hlp sm hm1 ⊢
    rw [← hl0] at ha'
    obtain ⟨i0, hi, hz0, hz1, hz2⟩ := info_parts Tryd.infoStr
    have hi' := Lib.hid hi; have hz0' := Lib.hid hz0; have hz1' := Lib.hid hz1; have hz2' := Lib.hid hz2
    clear ha htab hk hl0 hi hz0 hz1 hz2
    have hp0 : ((l0 : Int) == 0) = false := by simp; omega
    go_enter Tryd.func54, Tryd.ntmps54
    go_wp2
    go_loopg [0, 3] (k + 1) (fun gk xv gv wr => ∃ (j xl xc gl gc : Nat) (xa ga : Option Addr), j + gk = k + 1 ∧ gl = j ∧ xv = .slice xa xl xc ∧ gv = .slice ga gl gc ∧ xl ≤ 1000000 ∧ Hid (xl = dlen W32 (n / B9 ^ j)) ∧ Hid (LongI wr (.slice xa xl xc) (n / B9 ^ j)) ∧
      Hid (wr.ownsRow w.heap.size 9 1 (.slice ga gl gc) gl (strs ((List.range j).map fun i => decS (dgt B9 n i)))) ∧ Hid (Below w.heap.size w wr))
    case atStart => exact ⟨0, l0, cap1, 0, 0, a1, none, by omega, rfl, rfl, rfl, sm, by rw [hx0.out]; exact hl0', by rw [hx0.out]; exact ha', Lib.hid ⟨rfl, Or.inl ⟨rfl, rfl⟩⟩, Lib.hid (Below.refl _ _)⟩
    case round =>
      obtain ⟨j, xl, xc, gl, gc, xa, ga, hjk, rfl, rfl, rfl, hxl, hxd, hx, hown, bel⟩ := hrel
      by_cases h0 : xl = 0
      · have hz := no_words (hxd.out.symm.trans h0)
        have hge := hless.out gl hz
        obtain rfl : gl = k + 1 := by omega
        subst h0
        clear hge hz
        obtain ⟨g, gc', hga⟩ := lg_shape hown.out (by omega)
        simp only [Value.slice.injEq] at hga
        obtain ⟨rfl, -, rfl⟩ := hga
        have hlo := (hown.out.lt g rfl).1
        have hrv := Lib.hid (rev_own g gc (k + 1) w.heap.size _ wr hown.out (by omega))
        rw [hrev.out] at hrv
        have hcap := Lib.hid (own_cap hown.out)
        have hone := Lib.hid (fun W => (show (sizeOf 9).run Tryd.prog W = .ok 1 W by kernel_rfl))
        have bel' := bel
        obtain ⟨ta, hta, hsl⟩ : ∃ ta : Option Addr, (0 < k → ta = some ⟨g, 1, none⟩) ∧ ∀ W, (Instr.sliceAt 93 (.slice (some ⟨g, 0, none⟩) (k + 1) gc) (some (.int .i64 1)) none none).run Tryd.prog W = .ok (.slice ta k (gc - 1)) W := by
          refine ⟨if gc = 1 then some ⟨g, 0, none⟩ else some ⟨g, 1, none⟩, fun h => if_neg (by have := hcap.out; omega), fun W => ?_⟩
          go_simp
          by_cases h1 : gc = 1 <;> simp [h1] <;> (intro hh; omega)
        have hta' := Lib.hid hta
        clear hta
        clear hown hx hxd hxl hdv hfm hstep hlen hmore hless hrev hx0 hl0' ha' hcap hone
        go_wp2_with (go_at_call 42; go_in)
        (with_reducible refine hrv.out.mono ?_)
        rintro e w1 ⟨rfl, hown, hbb⟩
        have B1 := Lib.hid (hbb w bel.out)
        have hO := Lib.hid hown
        clear hown hbb hrv bel bel'
        have hG : ∀ i, i < k → ∃ x, (grpT n (k + 1))[i + 1]? = some x ∧ x.size ≤ 9 := fun i hi => by
          have e := grpT_get n (k + 1) (i + 1) (by omega)
          refine ⟨_, e, ?_⟩
          have h9 := dec9 (dgt_lt b9 n (k + 1 - 1 - (i + 1)))
          simpa [decS, ByteArray.size] using h9
        have hG' := Lib.hid hG
        have hnx := Lib.hid (fun i x h => mixT_next (grpT n (k + 1)) i x h)
        have hgt := Lib.hid (fun i (h : i < k) => mixT_get (grpT n (k + 1)) i (by rw [grpT_length]; omega))
        have hml := Lib.hid (fun i (h : i ≤ k) => mixT_length (grpT n (k + 1)) i (by rw [grpT_length]; omega))
        have hjoin := Lib.hid (join_text hk'.out)
        have hnl := Lib.hid (show (numW n).length ≤ 100000000 by
          have := numT_le (n := n) (L := k + 1) (by rw [hk'.out]; exact Nat.le_refl _)
          rw [numT_size] at this; omega)
        have h0 := Lib.hid (mixT_zero (grpT n (k + 1)))
        rw [← h0.out] at hO
        have hgl := Lib.hid (grpT_length n (k + 1))
        clear hG h0
        generalize grpT n (k + 1) = G at *
        go_wp2_with fail
        go_loopw [30] (fun i wr => ∃ j : Nat, j ≤ k ∧ i = .int .i64 (j : Int) ∧ Hid (wr.ownsRow w.heap.size 9 1 (.slice (some ⟨g, 0, none⟩) (k + 1) gc) (k + 1) (strs (mixT G j))) ∧ Hid (Below w.heap.size w wr)) (fun i _ => k - (intOf i).toNat)
        case atStart => exact ⟨0, Nat.zero_le _, by go_num, hO, B1⟩
        case round =>
          obtain ⟨j, hj, rfl, hown, bel⟩ := hrel
          by_cases hjk : j < k
          · have hta := hta'.out (by omega)
            subst hta
            obtain ⟨x, hx, hx9⟩ := hG'.out j hjk
            have hnx' := Lib.hid (hnx.out j x hx)
            have q1 := (own_str hown.out (j + 1) x ((hgt.out j hjk).trans hx)).1
            rw [Nat.add_comm] at q1
            have hrep := Lib.hid (fun W => (show Calls Tryd.prog 76 #[.string ⟨#[48]⟩, .int .i64 (9 - (x.size : Int))] W fun e w' => e = .returned (.string ⟨(Lib.repeatL [48] (9 - x.size)).toArray⟩) ∧ Below W.heap.size W w' by
              have h := Tryd.strings_Repeat ⟨#[48]⟩ (9 - x.size) W (by omega) (by show 1 * (9 - x.size) ≤ _; omega)
              rw [show ((9 - x.size : Nat) : Int) = 9 - (x.size : Int) by omega] at h
              exact h))
            have hpad := Lib.hid (padB_rep x)
            have hzs : (⟨(Lib.repeatL [48] (9 - x.size)).toArray⟩ : ByteArray).size = 9 - x.size := by
              rw [rep_zeros]
              show ((List.replicate (9 - x.size) (48 : UInt8)).toArray).size = _
              rw [List.size_toArray, List.length_replicate]
            have hx' := Lib.hid ((hgt.out j hjk).trans hx)
            clear hx
            generalize (⟨(Lib.repeatL [48] (9 - x.size)).toArray⟩ : ByteArray) = Z at *
            have hbz : ¬ 9223372036854775807 < Z.size + x.size := by omega
            clear hzs
            go_wp2_with fail
            (with_reducible refine (hrep.out _).mono ?_)
            rintro e w2 ⟨rfl, b2⟩
            have O2 := Lib.hid (own_keep hown.out b2)
            have B2 := Lib.hid (below_wt bel.out b2)
            obtain ⟨q2, f2⟩ := own_str O2.out (j + 1) x hx'.out
            have s2 := B2.out.size
            clear q1 b2
            go_wp2
            go_roundw
            case rel =>
              refine ⟨j + 1, by omega, by go_num, Lib.hid ?_, Lib.hid (B2.out.setCell (p := ⟨g, j + 1, none⟩) (by simpa using hlo) _)⟩
              have h := ((Own.of O2.out (Nat.le_refl _)).set (j + 1) (.string (Z ++ x))).1
              rw [List.length_set, strs_length, hml.out j hj, hgl.out] at h
              rw [← hnx'.out, ← hpad.out]
              have e : strs ((mixT G j).set (j + 1) (Z ++ x)) = (strs (mixT G j)).set (j + 1) (.string (Z ++ x)) := by simp [strs, List.map_set]
              rw [e]
              exact h
            case measure => simp [intOf]; omega
          · obtain rfl : j = k := by omega
            have hgl' : (mixT G j).length = j + 1 := by rw [hml.out j (Nat.le_refl _), hgl.out]
            have hbg : g < wr.heap.size := (hown.out.lt g rfl).2
            have hcap := own_cap hown.out
            have hjn := Lib.hid (by
              have h := Tryd.strings_Join g 0 gc (mixT G j) ⟨#[]⟩ wr (fun i x h => by rw [Nat.zero_add]; exact (own_str hown.out i x h).1) hbg (by omega) (by omega) (by
                show (Lib.join ((mixT G j).map (·.data.toList)) []).length ≤ _
                rw [flat_join, hjoin.out]; have := hnl.out; omega)
              rw [hgl'] at h
              rw [show Lib.join ((mixT G j).map (·.data.toList)) (ByteArray.data ⟨#[]⟩).toList = numW n by show Lib.join _ [] = _; rw [flat_join, hjoin.out]] at h
              exact h)
            clear hgl' hbg hcap
            go_wp2_with fail
            (with_reducible refine hjn.out.mono ?_)
            rintro e w2 ⟨rfl, b2⟩
            have B2 := Lib.hid (below_wt bel.out b2)
            clear b2
            go_wp2
            go_ret
            exact ⟨rfl, B2.out⟩
      · have hpp : 0 < n / B9 ^ gl := by
          rcases Nat.eq_zero_or_pos (n / B9 ^ gl) with h | h
          · exfalso; apply h0; rw [hxd.out, h, dlen_zero]
          · exact h
        have hjl := hmore.out gl hpp
        have hz : ((xl : Int) == 0) = false := by simp; omega
        have hd1 := Lib.hid (hdv.out _ _ wr hx.out (by rw [← hxd.out]; exact hxl))
        have hdl := dgt_lt b9 n gl
        have hdd := Lib.hid (show n / B9 ^ gl % 1000000000 = dgt B9 n gl from rfl)
        rw [hdd.out, hstep.out gl] at hd1
        have hlr := hlen.out (gl + 1)
        have hrow := Lib.hid (show (List.range (gl + 1)).map (fun i => decS (dgt B9 n i)) = (List.range gl).map (fun i => decS (dgt B9 n i)) ++ [decS (dgt B9 n gl)] by rw [List.range_succ, List.map_append]; rfl)
        simp only [show B9 = 1000000000 from rfl] at hdl
        generalize dgt B9 n gl = d at hd1 hdl hrow hdd
        have hf1 := Lib.hid (fun W (h : Tab10 W) => hfm.out d W hdl h)
        have hwd : IntKind.u64.wrap (d : Int) = (d : Int) := by rw [IntKind.wrap_u64]; omega
        clear hpp h0
        go_wp2_with (go_at_call 42; go_in)
        (with_reducible refine hd1.out.mono ?_)
        rintro e w1 ⟨lq, qc, rfl, hq, b1⟩
        have hlq : lq = dlen W32 (n / B9 ^ (gl + 1)) := by
          obtain ⟨_, qa, qc', e⟩ := hq.len
          simp only [Value.slice.injEq] at e
          exact e.2.1
        have B1 := Lib.hid (below_wt bel.out b1)
        have O1 := Lib.hid (own_keep hown.out b1)
        have hq' := Lib.hid hq
        rw [← hlq] at hlr
        have hlq' := Lib.hid hlq
        clear hq b1 hlq
        go_wp2_with fail
        (with_reducible refine (hf1.out _ (htab'.out.keep B1.out)).mono ?_)
        rintro e w2 ⟨rfl, b2⟩
        have B2 := Lib.hid (below_wt B1.out b2)
        have O2 := Lib.hid (own_keep O1.out b2)
        have hq2 := Lib.hid (hq'.out.keep b2)
        have s2 := B2.out.size
        clear b2
        go_wp2_with (at_builtin; (refine wpList_append_own _ rfl _ _ 93 rfl w.heap.size 9 i0 (.string .empty) 1 16 Tryd.underlying93 hi'.out hz0'.out hz1'.out hz2'.out rfl (by decide) _ _ _ rfl (O2.out.alloc _) ⟨w2.heap.size, 0, none⟩ 1 1 [.string (decS d)] rfl rfl (one_new _ _ _) (by simp [Value.oneCell']) (by unfold maxLen; omega) (by omega) (by simp; omega) ?_); intro v' w5 hown5 hgr5 _; obtain ⟨g2, c2, rfl⟩ := lg_shape hown5 (by omega))
        go_wp2
        go_roundg (gk - 1)
        case measure => omega
        case rel =>
          refine ⟨gl + 1, lq, qc, gl + 1, c2, _, _, by omega, rfl, rfl, rfl, hlr, hlq', Lib.hid ((hq2.out.keep (below1 _ _)).grown hgr5 (fun e => by have := (hown.out.lt _ e).2; omega)), ?_, Lib.hid ((B2.out.alloc s2 _).grown hgr5 (by simp; omega) (fun k' hk' => (hown.out.lt k' hk').1))⟩
          rw [hrow.out]
          refine Lib.hid ?_
          rw [strs, List.map_append]
          exact hown5
end Go.Proofs.YtefodgebecacgaaDoor
