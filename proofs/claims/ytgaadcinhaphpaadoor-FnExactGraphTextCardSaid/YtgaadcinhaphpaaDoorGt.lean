/- The text of a graph, by the specification and by the project. Conditions: none. -/
import Derived.Test.YtgaadcinhaphpaaDoorTxt5
import Derived.Test.YtgaadcinhaphpaaDoorGrF
import Derived.Test.YtgaadcinhaphpaaDoorGrV
namespace Go.Proofs.YtgaadcinhaphpaaDoor
open Go.RowKit Go.Deep
set_option linter.unusedVariables false
set_option linter.unusedSimpArgs false

def rowsG (xss : List (List Int)) : List UInt8 := xss.flatMap (lineL [101, 100, 103, 101])
def headG (g : Gr) : List UInt8 := lineL [103, 114, 97, 112, 104] [g.n]
def outG (g : Gr) (k : Nat) : ByteArray := BA (headG g ++ rowsG (g.e.take k))
def gtextOf (g : Gr) : ByteArray := if grOk g = true then BA (headG g ++ rowsG g.e) else BA []
theorem headG_is (g : Gr) : ByteArray.mk #[103, 114, 97, 112, 104, 32] ++ decB g.n.toNat ++ ByteArray.mk #[10] = outG g 0 := by
  show BA [103, 114, 97, 112, 104, 32] ++ BA _ ++ BA [10] = _
  simp only [BA_append, outG, headG, lineL, numsL, rowsG, List.take_zero, List.flatMap_nil, List.flatMap_cons, List.append_nil]
  simp
theorem rowsG_next (xss : List (List Int)) (k : Nat) (h : k < xss.length) : rowsG (xss.take (k + 1)) = rowsG (xss.take k) ++ lineL [101, 100, 103, 101] (xss.getD k []) := by
  rw [take_next _ [] k h]
  simp [rowsG]
theorem edgeG_is (g : Gr) (k : Nat) (h : k < g.e.length) (x y : Int) (hxy : g.e.getD k [] = [x, y]) :
    outG g k ++ (ByteArray.mk #[101, 100, 103, 101, 32] ++ decB x.toNat ++ ByteArray.mk #[32] ++ decB y.toNat ++ ByteArray.mk #[10]) = outG g (k + 1) := by
  show BA _ ++ (BA [101, 100, 103, 101, 32] ++ BA _ ++ BA [32] ++ BA _ ++ BA [10]) = _
  simp only [BA_append, outG, rowsG_next _ _ h, hxy, lineL, numsL, List.flatMap_cons, List.flatMap_nil, List.append_nil]
  simp
theorem gtext_is (g : Gr) (h : grOk g = true) : outG g g.e.length = gtextOf g := by
  rw [gtextOf, if_pos h, outG, List.take_length]

theorem lim_g {x y : Nat} (h : x ≤ 2) (h' : y ≤ 2) : (¬ 9223372036854775807 < 5 + x) ∧ (¬ 9223372036854775807 < 5 + x + 1) ∧ (¬ 9223372036854775807 < 5 + x + 1 + y) ∧ (¬ 9223372036854775807 < 5 + x + 1 + y + 1) := by omega

theorem lim_h {x y z : Nat} (h : x ≤ 2) (h' : y ≤ 2) (hz : z ≤ 1000) : ¬ 9223372036854775807 < z + (5 + x + 1 + y + 1) := by omega
set_option maxRecDepth 100000 in
set_option maxHeartbeats 4000000 in
theorem l08Text_any (b : Nat) (g : Gr) (w : World) (hg : GrP w b g) (hok : grOk g = true) :
    Calls Tryd.prog 34 #[.pointer (some ⟨b, 0, none⟩)] w fun e w' => e = .returned (.string (gtextOf g)) ∧ Below w.heap.size w w' := by
  have hn := grOk_nodes hok
  have hfew := grOk_few hok
  have hed := Lib.hid (fun k (hk : k < g.e.length) => edgeB_facts (grOk_edge hok hk))
  obtain ⟨v, g0, g1, R⟩ := hg
  have hb := block_lt g0
  simp only at hb
  obtain ⟨hm, ra, rcap, rfl⟩ := R.len
  have R' := Lib.hid R
  have hhead := Lib.hid (headG_is g)
  have hfin := Lib.hid (gtext_is g hok)
  have hdn := Lib.hid (fun u => Decimal_int g.n u (by omega) (by omega))
  obtain ⟨hn1, hn2⟩ := hn
  have hn2' := Lib.hid hn2
  clear R hok hn1 hn2 hm
  go_enter Tryd.func34, Tryd.ntmps34
  go_wp2_with fail
  (with_reducible refine (hdn.out _).mono ?_)
  rintro e w1 ⟨d1, rfl, s1, e1, b1⟩
  have l1 : ¬ 9223372036854775807 < 6 + d1.size := by omega
  have l2 : ¬ 9223372036854775807 < 6 + d1.size + 1 := by omega
  have hS0 := Lib.hid (show ByteArray.mk #[103, 114, 97, 112, 104, 32] ++ d1 ++ ByteArray.mk #[10] = outG g 0 by rw [e1.out]; exact hhead.out)
  have hz0 : (ByteArray.mk #[103, 114, 97, 112, 104, 32] ++ d1 ++ ByteArray.mk #[10]).size ≤ 12 := by
    simp only [ByteArray.size_append', ByteArray.size_mk', Array.size]
    simp
    omega
  go_wp2
  generalize (ByteArray.mk #[103, 114, 97, 112, 104, 32] ++ d1 ++ ByteArray.mk #[10]) = S0 at *
  clear e1 s1 l1 l2
  go_loopw [3, 4] (fun o i wr => ∃ (k : Nat) (S : ByteArray), k ≤ g.e.length ∧ i = .int .i64 (k : Int) ∧ o = .string S ∧ S.size ≤ 12 + 12 * k ∧ Hid (S = outG g k) ∧ Below w.heap.size w wr) (fun _ i _ => g.e.length - (intOf i).toNat)
  case atStart => exact ⟨0, S0, Nat.zero_le _, rfl, rfl, hz0, hS0, b1⟩
  case round =>
    obtain ⟨wo, rfl⟩ : ∃ wo : World, wo = wr := ⟨_, rfl⟩
    obtain ⟨k, S, hk, rfl, rfl, hz, hS, bo⟩ := hrel
    have q1 := (bo.cell (p := ⟨b, 1, none⟩) hb).trans g1
    by_cases hlt : k < g.e.length
    · have hkn : (k : Int) < (g.e.length : Int) := by omega
      obtain ⟨rb, off, cap, rv, hvv, hbl, hcl⟩ := (R'.out.keep bo).at (by omega)
      simp only [Value.slice.injEq] at hvv
      obtain ⟨rfl, -, rfl⟩ := hvv
      obtain ⟨hcell, hrow⟩ := hcl k hlt
      obtain ⟨f1, f2, f3, f4⟩ := hed.out k hlt
      obtain ⟨x, y, hxy⟩ := two_of f1
      have hedge := Lib.hid (edgeG_is g k hlt x y hxy)
      rw [hxy] at hrow f2 f3 f4
      have f5 : 0 ≤ x ∧ x < 100 ∧ 0 ≤ y ∧ y < 100 := by have := hn2'.out; simp at f2 f3 f4; omega
      obtain ⟨x0, x1, y0, y1⟩ := f5
      clear f1 f2 f3 f4 hxy hcl
      generalize rv k = rk at hcell hrow
      obtain ⟨rb2, ro, rc, rfl, hrb, hcr⟩ := hrow.at (by simp)
      have c0 := hcr 0 (by simp)
      have c1 := hcr 1 (by simp)
      simp only [List.length_cons, List.length_nil, Nat.zero_add, Nat.add_zero, List.getD_cons_zero, List.getD_cons_succ, ints, List.map_cons, List.map_nil] at c0 c1 hcell
      have hdx := Lib.hid (fun u => Decimal_int x u x0 x1)
      have hdy := Lib.hid (fun u => Decimal_int y u y0 y1)
      clear hcr hrow x0 x1 y0 y1
      have lt1 := block_lt q1
      have lt2 := block_lt hcell
      have lt3 := block_lt c0
      simp only at lt1 lt2 lt3
      have hz' : S.size ≤ 1000 := by omega
      have tok0 : True := trivial
      go_wp2_with fail
      go_region_held3 (fun w' => w'.cell? ⟨b, 1, none⟩ = some (.slice (some ⟨rb, off, none⟩) g.e.length rcap) ∧ w'.cell? ⟨rb, off + k, none⟩ = some (.slice (some ⟨rb2, ro, none⟩) 2 rc) ∧ w'.cell? ⟨rb2, ro, none⟩ = some (.int .i64 x) ∧ w'.cell? ⟨rb2, ro + 1, none⟩ = some (.int .i64 y)) (go_keep)
        (first
          | (have _t := tok1; go_at_call 48; (with_reducible refine (hdy.out _).mono ?_); rintro e w3 ⟨d2, rfl, s2, e2, b2⟩; have _k1 := (b2.cell (p := ⟨b, 1, none⟩) (Nat.lt_of_lt_of_le lt1 b1.size)).trans ((b1.cell (p := ⟨b, 1, none⟩) lt1).trans q1); have _k2 := (b2.cell (p := ⟨rb, off + k, none⟩) (Nat.lt_of_lt_of_le lt2 b1.size)).trans ((b1.cell (p := ⟨rb, off + k, none⟩) lt2).trans hcell); have _k3 := (b2.cell (p := ⟨rb2, ro, none⟩) (Nat.lt_of_lt_of_le lt3 b1.size)).trans ((b1.cell (p := ⟨rb2, ro, none⟩) lt3).trans c0); have _k4 := (b2.cell (p := ⟨rb2, ro + 1, none⟩) (Nat.lt_of_lt_of_le lt3 b1.size)).trans ((b1.cell (p := ⟨rb2, ro + 1, none⟩) lt3).trans c1); have _m3 := (lim_g s1 s2).2.2.1; have _m4 := (lim_g s1 s2).2.2.2; have _m5 := lim_h s1 s2 hz')
          | (go_at_call 48; (with_reducible refine (hdx.out _).mono ?_); rintro e w2 ⟨d1, rfl, s1, e1, b1⟩; have tok1 : True := trivial; have _k1 := (b1.cell (p := ⟨b, 1, none⟩) lt1).trans q1; have _k2 := (b1.cell (p := ⟨rb, off + k, none⟩) lt2).trans hcell; have _k3 := (b1.cell (p := ⟨rb2, ro, none⟩) lt3).trans c0; have _k4 := (b1.cell (p := ⟨rb2, ro + 1, none⟩) lt3).trans c1; have _m1 := (lim_g (y := 0) s1 (Nat.zero_le _)).1; have _m2 := (lim_g (y := 0) s1 (Nat.zero_le _)).2.1)
          | fail "no arm")
      have hT := Lib.hid (show S ++ (ByteArray.mk #[101, 100, 103, 101, 32] ++ d1 ++ ByteArray.mk #[32] ++ d2 ++ ByteArray.mk #[10]) = outG g (k + 1) by rw [hS.out, e1.out, e2.out]; exact hedge.out)
      have hszT : (S ++ (ByteArray.mk #[101, 100, 103, 101, 32] ++ d1 ++ ByteArray.mk #[32] ++ d2 ++ ByteArray.mk #[10])).size ≤ 12 + 12 * (k + 1) := by
        simp only [ByteArray.size_append', ByteArray.size_mk', Array.size]
        simp
        omega
      go_wp2
      go_roundw
      case rel => exact ⟨k + 1, _, by omega, by go_num, rfl, hszT, hT, below_wt bo (below_wt (below_wt (below_drew wo) b1) b2)⟩
      case measure => simp [intOf]; omega
    · obtain rfl : k = g.e.length := by omega
      have hr := Lib.hid (show S = gtextOf g by rw [hS.out]; exact hfin.out)
      go_wp2
      go_ret
      exact ⟨show Ending.returned (.string S) = _ by rw [hr.out], bo⟩

set_option maxHeartbeats 2000000 in
theorem GraphText_spec (gv : Value) (g : Gr) (w : World) (hv : GrR w gv g) :
    Calls Tryd.prog 13 #[gv] w fun e w' => e = .returned (.string (gtextOf g)) ∧ Below w.heap.size w w' := by
  obtain ⟨v, rfl, hr⟩ := hv
  have B0 := below1 w (.cells #[.int .i64 g.n, v] 33)
  have P := GrR.ptr (n := g.n) hr
  have ho := l08Ok_any _ ⟨g.n, g.e⟩ _ P
  by_cases hok : grOk g = true
  · have ht := Lib.hid (fun u p => l08Text_any w.heap.size g u p hok)
    have hok2 : grOk ⟨g.n, g.e⟩ = true := hok
    rw [hok2] at ho
    clear hok hok2
    go_enter Tryd.func13, Tryd.ntmps13
    go_wp2_with fail
    refine ho.mono ?_
    rintro e w1 ⟨rfl, m, rfl⟩
    replace P := P.keep (below_drewN (Below.refl _ _) m)
    have B1 := below_drewN B0 m
    generalize (w.alloc (.cells #[.int .i64 g.n, v] 33)).drewN m = w1 at *
    go_wp2_with fail
    refine (ht.out _ P).mono ?_
    rintro e w2 ⟨rfl, b2⟩
    go_wp2
    go_ret
    exact ⟨rfl, below_wt B1 b2⟩
  · have hok' : grOk ⟨g.n, g.e⟩ = false := by simpa using hok
    have ht := Lib.hid (show gtextOf g = BA [] by rw [gtextOf, if_neg hok])
    rw [hok'] at ho
    clear hok hok'
    go_enter Tryd.func13, Tryd.ntmps13
    go_wp2_with fail
    refine ho.mono ?_
    rintro e w1 ⟨rfl, m, rfl⟩
    go_wp2
    go_ret
    exact ⟨by rw [ht.out]; rfl, below_drewN B0 m⟩

set_option maxRecDepth 100000 in
set_option maxHeartbeats 4000000 in
theorem GraphText_impl (gv : Value) (g : Gr) (w : World) (hv : GrR w gv g) :
    Calls Tryd.prog 15 #[gv] w fun e w' => e = .returned (.string (gtextOf g)) ∧ Below w.heap.size w w' := by
  obtain ⟨a, cap, rfl⟩ := hv.shape
  have B0 := below1 w (.cells #[.int .i64 g.n, .slice a g.e.length cap] 33)
  have hB := Blk.new w #[.int .i64 g.n, .slice a g.e.length cap] 33
  have K := hv.keep B0
  have hsz0 : (w.alloc (.cells #[.int .i64 g.n, .slice a g.e.length cap] 33)).heap.size = w.heap.size + 1 := by simp
  by_cases hok : grOk g = true
  · have hn := grOk_nodes hok
    have hfew := grOk_few hok
    have hed := Lib.hid (fun k (hk : k < g.e.length) => edgeB_facts (grOk_edge hok hk))
    have ht := Lib.hid (show gtextOf g = BA (headG g ++ rowsG (g.e.take g.e.length)) by rw [gtextOf, if_pos hok, List.take_length])
    have hvc := ValidGraph_impl _ g _ K
    rw [hok] at hvc
    have hnt : ∀ x ∈ [g.n], 0 ≤ x ∧ x < 100 := by
      intro x hx
      simp at hx
      omega
    have hline := Lib.hid (fun B nb u hB hnb hc => appendLine_any B (.slice none 0 0) 0 [] [103, 114, 97, 112, 104] [g.n] nb 0 1 u (World.ownsRow_nil u B 5 1) hB (Nat.zero_le _) (by decide) (by simp) (by simp) hnb hc hnt)
    have hn2' := Lib.hid hn.2
    clear hok hnt hn
    go_enter Tryd.func15, Tryd.ntmps15
    go_wp2_with fail
    refine hvc.mono ?_
    rintro e w1 ⟨rfl, b1⟩
    have K1 := K.keep b1
    have hB1 := hB.keep b1 hB.lt
    have B1 := below_wt B0 b1
    obtain ⟨p0, p1⟩ := hB1.two
    have hsz1 := b1.size
    rw [hsz0] at hsz1
    clear b1 K hB
    have Ka := K1.keep (below1 w1 (.cells #[.int .i64 g.n] 2))
    have Ba := B1.alloc (by omega) (.cells #[.int .i64 g.n] 2)
    have hBa := (hB1.alloc (.cells #[.int .i64 g.n] 2)).cell 1
    have hca : ∀ j, j < [g.n].length → (w1.alloc (.cells #[.int .i64 g.n] 2)).cell? ⟨w1.heap.size, 0 + j, none⟩ = some (.int .i64 ([g.n].getD j 0)) := by
      intro j hj
      obtain rfl : j = 0 := by simp at hj; omega
      simp
    have hcall := Lib.hid (hline.out (w1.heap.size + 1) w1.heap.size _ (by simp) (by omega) hca)
    have hza : (w1.alloc (.cells #[.int .i64 g.n] 2)).heap.size = w1.heap.size + 1 := by simp
    clear hca hline K1 B1
    go_wp2_with fail
    refine hcall.out.mono ?_
    rintro e w2 ⟨v2, L2, rfl, l1, l2, hown2, b2⟩
    obtain ⟨a2, cap2, rfl⟩ := own_shape hown2
    clear p0 p1 hB1 hcall
    rw [← hza] at hown2 b2
    have hxz := hsz1
    generalize w1.alloc (.cells #[.int .i64 g.n] 2) = wa at *
    have hown2' := Lib.hid (show w2.ownsRow wa.heap.size 5 1 (.slice a2 L2 cap2) L2 (byc (headG g ++ rowsG (g.e.take 0))) by simpa [headG, rowsG] using hown2)
    have R : Rows2 wa (.slice a g.e.length cap) g.e := by
      obtain ⟨v, hv', hr⟩ := Ka
      simp only [Value.agg.injEq, Array.mk.injEq, List.cons.injEq, and_true, true_and] at hv'
      rw [hv']; exact hr
    have R' := Lib.hid R
    have hwz : w.heap.size < wa.heap.size := by omega
    have p2 := (b2.cell (p := ⟨w.heap.size, 1, none⟩) hwz).trans hBa
    clear R hown2 Ka hBa hza hxz hsz1
    go_wp2
    go_loopw [3, 16] (fun tv i wr => ∃ (k L3 : Nat) (a3 : Option Addr) (cap3 : Nat), k ≤ g.e.length ∧ i = .int .i64 (k : Int) ∧ tv = .slice a3 L3 cap3 ∧ 0 < L3 ∧ L3 ≤ 30 + 30 * k ∧ Hid (wr.ownsRow wa.heap.size 5 1 (.slice a3 L3 cap3) L3 (byc (headG g ++ rowsG (g.e.take k)))) ∧ Below wa.heap.size wa wr) (fun _ i _ => g.e.length - (intOf i).toNat)
    case atStart => exact ⟨0, L2, a2, cap2, Nat.zero_le _, rfl, rfl, by omega, by omega, hown2', b2⟩
    case round =>
      obtain ⟨wo, rfl⟩ : ∃ wo : World, wo = wr := ⟨_, rfl⟩
      obtain ⟨k, L3, a3, cap3, hk, rfl, rfl, hl0, hl3, hown3, bel⟩ := hrel
      by_cases hlt : k < g.e.length
      · have hkI : (k : Int) < (g.e.length : Int) := by omega
        obtain ⟨rb, off, cap', rv, hvv, hbl, hcl⟩ := R'.out.at (by omega)
        simp only [Value.slice.injEq] at hvv
        obtain ⟨rfl, -, rfl⟩ := hvv
        obtain ⟨hcell0, hrow0⟩ := hcl k hlt
        have hcell := (bel.cell (p := ⟨rb, off + k, none⟩) hbl).trans hcell0
        obtain ⟨f1, f2, f3, f4⟩ := hed.out k hlt
        have hnx := Lib.hid (rowsG_next g.e k hlt)
        obtain ⟨x, y, hxy⟩ := two_of f1
        have hr9 : ∀ z ∈ g.e.getD k [], 0 ≤ z ∧ z < 100 := by
          have := hn2'.out
          rw [hxy] at f2 f3 f4 ⊢
          simp at f2 f3 f4
          intro z hz
          simp at hz
          omega
        have hrl0 : (g.e.getD k []).length = 2 := f1
        clear f1 f2 f3 f4 hxy hcl
        generalize g.e.getD k [] = row at hrow0 hrl0 hr9 hnx hcell hcell0
        have hrl : 1 ≤ row.length ∧ row.length ≤ 6 := by omega
        clear hrl0
        generalize rv k = rk at hcell hrow0 hcell0
        obtain ⟨nb, no, nc, rfl, hnb, hcr⟩ := hrow0.at (by omega)
        have hap := Lib.hid (appendLine_any wa.heap.size _ L3 _ [101, 100, 103, 101] row nb no nc wo hown3.out bel.size (by omega) (by decide) (by omega) (by omega) hnb (fun j hj => (bel.cell (p := ⟨nb, no + j, none⟩) hnb).trans (hcr j hj)) hr9)
        clear hcr hr9 hrow0 hcell0
        go_wp2_with fail
        refine hap.out.mono ?_
        rintro e w4 ⟨v4, L4, rfl, q1, q2, hown4, b4⟩
        obtain ⟨a4, cap4, rfl⟩ := own_shape hown4
        have hown4' := Lib.hid (show w4.ownsRow wa.heap.size 5 1 (.slice a4 L4 cap4) L4 (byc (headG g ++ rowsG (g.e.take (k + 1)))) by rw [hnx.out]; simpa [List.append_assoc] using hown4)
        clear hown4 hap
        go_wp2
        go_roundw
        case rel => exact ⟨k + 1, L4, a4, cap4, by omega, by go_num, rfl, by omega, by omega, hown4', bel.trans b4⟩
        case measure => simp [intOf]; omega
      · obtain rfl : k = g.e.length := by omega
        obtain ⟨gg, cap4, hv4, -⟩ := own_head hown3.out hl0
        simp only [Value.slice.injEq] at hv4
        obtain ⟨rfl, -, rfl⟩ := hv4
        have hcv := text_back (P := Tryd.prog) (src := 72) (dst := 9) hown3.out Tryd.underlying72 (by kernel_rfl) (by kernel_rfl)
        rw [← ht.out] at hcv
        go_wp2
        go_ret
        exact ⟨rfl, Ba.trans (bel.mono (by omega))⟩
  · have hok' : grOk g = false := by simpa using hok
    have hvc := ValidGraph_impl _ g _ K
    rw [hok'] at hvc
    have ht := Lib.hid (show gtextOf g = BA [] by rw [gtextOf, if_neg hok])
    clear hok hok'
    go_enter Tryd.func15, Tryd.ntmps15
    go_wp2_with fail
    refine hvc.mono ?_
    rintro e w1 ⟨rfl, b1⟩
    go_wp2
    go_ret
    exact ⟨by rw [ht.out]; rfl, below_wt B0 b1⟩
end Go.Proofs.YtgaadcinhaphpaaDoor
