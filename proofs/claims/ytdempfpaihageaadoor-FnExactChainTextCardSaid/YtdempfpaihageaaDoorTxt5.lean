/- The text of a chain by the project. Conditions: none. -/
import Derived.Test.YtdempfpaihageaaDoorTxt4
import Derived.Test.YtdempfpaihageaaDoorOk
namespace Go.Proofs.YtdempfpaihageaaDoor
open Go.RowKit Go.Deep
set_option linter.unusedVariables false

theorem own_head {w : World} {lo n : Nat} {e : TypeId} {v : Value} {vs : List Value} (h : w.ownsRow lo e 1 v n vs) (hn : 0 < n) : ∃ g cap, v = .slice (some ⟨g, 0, none⟩) n cap ∧ lo ≤ g := by
  rcases h.2 with ⟨_, h0⟩ | ⟨g, cap, cur, rfl, hg, _⟩
  · omega
  · exact ⟨g, cap, rfl, hg⟩
theorem text_back {P : Program} {w : World} {B L : Nat} {e src dst : TypeId} {g cap : Nat} {l : List UInt8} (h : w.ownsRow B e 1 (.slice (some ⟨g, 0, none⟩) L cap) L (byc l))
    (hs : P.underlying src = some (.slice e)) (he : P.underlying e = some (.int .u8)) (hd : P.underlying dst = some .string) :
    (convert src dst (.slice (some ⟨g, 0, none⟩) L cap)).run P w = .ok (.string (BA l)) w := by
  have hl : l.length = L := by have := h.1; simpa [byc] using this
  subst hl
  exact run_convert_bytes_back (P := P) w src dst e ⟨g, 0, none⟩ cap l hs he hd (fun j hj => h.cells (g := g) rfl j _ (by simp [byc, List.getElem?_eq_getElem hj]))

theorem rowsT_next (xss : List (List Int)) (k : Nat) (h : k < xss.length) : rowsT (xss.take (k + 1)) = rowsT (xss.take k) ++ lineL [102, 114, 111, 109] (xss.getD k []) := by
  rw [take_next _ [] k h]
  simp [rowsT]

set_option maxRecDepth 100000 in
set_option maxHeartbeats 4000000 in
theorem ChainText_impl (cv : Value) (c : Ch) (w : World) (hv : ChR w cv c) :
    Calls Tryd.prog 8 #[cv] w fun e w' => e = .returned (.string (textOf c)) ∧ Below w.heap.size w w' := by
  obtain ⟨a, cap, rfl⟩ := hv.shape
  have B0 := below1 w (.cells #[.int .i64 c.n, .int .i64 c.t, .slice a c.w.length cap] 27)
  have hB := Blk.new w #[.int .i64 c.n, .int .i64 c.t, .slice a c.w.length cap] 27
  have K := hv.keep B0
  have hsz0 : (w.alloc (.cells #[.int .i64 c.n, .int .i64 c.t, .slice a c.w.length cap] 27)).heap.size = w.heap.size + 1 := by simp
  by_cases hok : chOk c = true
  · obtain ⟨n1, n2, t1, t2, hlen, hrows⟩ := chOk_all hok
    have hrows' := Lib.hid hrows
    have hlen' := Lib.hid hlen
    have ht60 := Lib.hid t2
    have ht := Lib.hid (show textOf c = BA (headT c ++ rowsT (c.w.take c.w.length)) by rw [textOf, if_pos hok, List.take_length, textL])
    have hvc := ValidChain_impl _ c _ K
    rw [hok] at hvc
    have hnt : ∀ x ∈ [c.n, c.t], 0 ≤ x ∧ x < 100 := by
      intro x hx
      simp at hx
      omega
    have hline := Lib.hid (fun B nb u hB hnb hc => appendLine_any B (.slice none 0 0) 0 [] [99, 104, 97, 105, 110] [c.n, c.t] nb 0 2 u (World.ownsRow_nil u B 5 1) hB (Nat.zero_le _) (by decide) (by simp) (by simp) hnb hc hnt)
    clear hrows hlen hok hnt
    go_enter Tryd.func8, Tryd.ntmps8
    go_wp2_with fail
    refine hvc.mono ?_
    rintro e w1 ⟨rfl, b1⟩
    have K1 := K.keep b1
    have hB1 := hB.keep b1 hB.lt
    have B1 := below_wt B0 b1
    obtain ⟨p0, p1, p2⟩ : w1.cell? ⟨w.heap.size, 0, none⟩ = _ ∧ w1.cell? ⟨w.heap.size, 1, none⟩ = _ ∧ w1.cell? ⟨w.heap.size, 2, none⟩ = _ := ⟨hB1.cell 0, hB1.cell 1, hB1.cell 2⟩
    have hsz1 := b1.size
    rw [hsz0] at hsz1
    clear b1 K hB
    have Ka := K1.keep (below1 w1 (.cells #[.int .i64 c.n, .int .i64 c.t] 2))
    have Ba := B1.alloc (by omega) (.cells #[.int .i64 c.n, .int .i64 c.t] 2)
    have hBa := (hB1.alloc (.cells #[.int .i64 c.n, .int .i64 c.t] 2)).cell 2
    have hca : ∀ j, j < [c.n, c.t].length → (w1.alloc (.cells #[.int .i64 c.n, .int .i64 c.t] 2)).cell? ⟨w1.heap.size, 0 + j, none⟩ = some (.int .i64 ([c.n, c.t].getD j 0)) := by
      intro j hj
      have : j = 0 ∨ j = 1 := by simp at hj; omega
      rcases this with rfl | rfl <;> simp
    have hcall := Lib.hid (hline.out (w1.heap.size + 1) w1.heap.size _ (by simp) (by omega) hca)
    have hza : (w1.alloc (.cells #[.int .i64 c.n, .int .i64 c.t] 2)).heap.size = w1.heap.size + 1 := by simp
    clear hca hline K1 B1
    go_wp2_with fail
    refine hcall.out.mono ?_
    rintro e w2 ⟨v2, L2, rfl, l1, l2, hown2, b2⟩
    obtain ⟨a2, cap2, rfl⟩ := own_shape hown2
    clear p0 p1 p2 hB1 hcall
    rw [← hza] at hown2 b2
    have hxz := hsz1
    generalize w1.alloc (.cells #[.int .i64 c.n, .int .i64 c.t] 2) = wa at *
    have hown2' := Lib.hid (show w2.ownsRow wa.heap.size 5 1 (.slice a2 L2 cap2) L2 (byc (headT c ++ rowsT (c.w.take 0))) by simpa [headT, rowsT] using hown2)
    have R : Rows2 wa (.slice a c.w.length cap) c.w := by
      obtain ⟨v, hv', hr⟩ := Ka
      simp only [Value.agg.injEq, Array.mk.injEq, List.cons.injEq, and_true, true_and] at hv'
      rw [hv']; exact hr
    obtain ⟨rb, off, cap', rv, hvv, hbl, hcl⟩ := R.at (by have := hlen'.out; omega)
    simp only [Value.slice.injEq] at hvv
    obtain ⟨rfl, -, rfl⟩ := hvv
    have hcl' := Lib.hid hcl
    have hwz : w.heap.size < wa.heap.size := by omega
    have p2 := (b2.cell (p := ⟨w.heap.size, 2, none⟩) hwz).trans hBa
    have hN : c.w.length ≤ 6 ∧ 1 ≤ c.w.length := by have := hlen'.out; omega
    have hnI := Lib.hid n2
    clear hcl R hown2 Ka hBa hza hxz hsz1 n1 n2 t1 t2
    go_wp2
    go_loopw [3, 18] (fun tv i wr => ∃ (k L3 : Nat) (a3 : Option Addr) (cap3 : Nat), k ≤ c.w.length ∧ i = .int .i64 (k : Int) ∧ tv = .slice a3 L3 cap3 ∧ 0 < L3 ∧ L3 ≤ 30 + 30 * k ∧ Hid (wr.ownsRow wa.heap.size 5 1 (.slice a3 L3 cap3) L3 (byc (headT c ++ rowsT (c.w.take k)))) ∧ Below wa.heap.size wa wr) (fun _ i _ => c.w.length - (intOf i).toNat)
    case atStart => exact ⟨0, L2, a2, cap2, Nat.zero_le _, rfl, rfl, by omega, by omega, hown2', b2⟩
    case round =>
      obtain ⟨wo, rfl⟩ : ∃ wo : World, wo = wr := ⟨_, rfl⟩
      obtain ⟨k, L3, a3, cap3, hk, rfl, rfl, hl0, hl3, hown3, bel⟩ := hrel
      by_cases hlt : k < c.w.length
      · have hkI : (k : Int) < (c.w.length : Int) := by omega
        obtain ⟨hcell0, hrow0⟩ := hcl'.out k hlt
        have hcell := (bel.cell (p := ⟨rb, off + k, none⟩) hbl).trans hcell0
        obtain ⟨r1, r2, r3⟩ := okRow_all (hrows'.out _ (getD_mem (d := []) hlt))
        have hnx := Lib.hid (rowsT_next c.w k hlt)
        have hrl : 1 ≤ (c.w.getD k []).length ∧ (c.w.getD k []).length ≤ 6 := by have := hlen'.out; have := hnI.out; omega
        have hr9 : ∀ x ∈ c.w.getD k [], 0 ≤ x ∧ x < 100 := fun x hx => by have := r2 x hx; have := ht60.out; omega
        clear r1 r2 r3
        generalize c.w.getD k [] = row at hrow0 hrl hr9 hnx
        generalize rv k = rk at hcell hrow0
        obtain ⟨nb, no, nc, rfl, hnb, hcr⟩ := hrow0.at (by omega)
        have hap := Lib.hid (appendLine_any wa.heap.size _ L3 _ [102, 114, 111, 109] row nb no nc wo hown3.out bel.size (by omega) (by decide) hrl.1 hrl.2 hnb (fun j hj => (bel.cell (p := ⟨nb, no + j, none⟩) hnb).trans (hcr j hj)) hr9)
        clear hcr hr9 hrow0 hcell0
        go_wp2_with fail
        refine hap.out.mono ?_
        rintro e w4 ⟨v4, L4, rfl, q1, q2, hown4, b4⟩
        obtain ⟨a4, cap4, rfl⟩ := own_shape hown4
        have hown4' := Lib.hid (show w4.ownsRow wa.heap.size 5 1 (.slice a4 L4 cap4) L4 (byc (headT c ++ rowsT (c.w.take (k + 1)))) by rw [hnx.out]; simpa [List.append_assoc] using hown4)
        clear hown4 hap
        go_wp2
        go_roundw
        case rel => exact ⟨k + 1, L4, a4, cap4, by omega, by go_num, rfl, by omega, by omega, hown4', bel.trans b4⟩
        case measure => simp [intOf]; omega
      · obtain rfl : k = c.w.length := by omega
        obtain ⟨g, cap4, hv4, -⟩ := own_head hown3.out hl0
        simp only [Value.slice.injEq] at hv4
        obtain ⟨rfl, -, rfl⟩ := hv4
        have hcv := text_back (P := Tryd.prog) (src := 41) (dst := 9) hown3.out Tryd.underlying41 (by kernel_rfl) (by kernel_rfl)
        rw [← ht.out] at hcv
        go_wp2
        go_ret
        exact ⟨rfl, Ba.trans (bel.mono (by omega))⟩
  · have hok' : chOk c = false := by simpa using hok
    have hvc := ValidChain_impl _ c _ K
    rw [hok'] at hvc
    have ht := Lib.hid (show textOf c = BA [] by rw [textOf, if_neg hok])
    clear hok hok'
    go_enter Tryd.func8, Tryd.ntmps8
    go_wp2_with fail
    refine hvc.mono ?_
    rintro e w1 ⟨rfl, b1⟩
    go_wp2
    go_ret
    exact ⟨by rw [ht.out]; rfl, below_wt B0 b1⟩
end Go.Proofs.YtdempfpaihageaaDoor
