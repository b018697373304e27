/- The network of a valid graph. Conditions: the graph is valid. -/
import Derived.Test.YtfbhdlkiffoflaaNw2
namespace Go.Proofs.Ytfbhdlkiffoflaa
open Go.RowKit Go.Deep
set_option linter.unusedVariables false

def edgesOf (xss : List (List Int)) : List (Int × Int) := xss.map fun e => (e.getD 0 0, e.getD 1 0)
theorem edgesOf_length (xss : List (List Int)) : (edgesOf xss).length = xss.length := by simp [edgesOf]
theorem edgesOf_take_succ (xss : List (List Int)) (k : Nat) (h : k < xss.length) : edgesOf (xss.take (k + 1)) = edgesOf (xss.take k) ++ [((xss.getD k []).getD 0 0, (xss.getD k []).getD 1 0)] := by
  unfold edgesOf
  rw [List.take_succ_eq_append_getElem h, List.map_append]
  simp [List.getD, h]
theorem edgesOf_getD (xss : List (List Int)) (k : Nat) (h : k < xss.length) : (edgesOf xss).getD k (0, 0) = ((xss.getD k []).getD 0 0, (xss.getD k []).getD 1 0) := by
  simp [edgesOf, List.getD, h]
theorem edgeB_facts {n : Int} {e : List Int} (h : edgeB n e = true) : e.length = 2 ∧ 0 ≤ e.getD 0 0 ∧ e.getD 0 0 < e.getD 1 0 ∧ e.getD 1 0 ≤ n - 1 := by
  have hl := edgeB_len h
  obtain ⟨x, y, rfl⟩ := two_of hl
  simp [edgeB, within, inB] at h
  simp
  omega
theorem grOk_edge {g : Gr} (h : grOk g = true) {k : Nat} (hk : k < g.e.length) : edgeB g.n (g.e.getD k []) = true := by
  simp only [grOk, Bool.and_eq_true, List.all_eq_true] at h
  have := h.2 k (by simpa using hk)
  simp only [edgeAt, Bool.and_eq_true] at this
  exact this.1
theorem grOk_nodes {g : Gr} (h : grOk g = true) : 1 ≤ g.n ∧ g.n ≤ 5 := by
  simp only [grOk, Bool.and_eq_true] at h
  exact inB_iff.1 h.1
/-- the edges rise, so there are few -/
def rankE (e : List Int) : Int := e.getD 0 0 * 5 + e.getD 1 0
theorem grOk_few {g : Gr} (h : grOk g = true) : g.e.length ≤ 25 := by
  have hn := grOk_nodes h
  have key : ∀ k, k < g.e.length → (k : Int) ≤ rankE (g.e.getD k []) ∧ rankE (g.e.getD k []) < 25 := by
    intro k
    induction k with
    | zero =>
      intro hk
      obtain ⟨h1, h2, h3, h4⟩ := edgeB_facts (grOk_edge h hk)
      unfold rankE; omega
    | succ k ih =>
      intro hk
      have h0 := ih (by omega)
      obtain ⟨h1, h2, h3, h4⟩ := edgeB_facts (grOk_edge h hk)
      obtain ⟨j1, j2, j3, j4⟩ := edgeB_facts (grOk_edge h (show k < g.e.length by omega))
      have hlt : ltB (g.e.getD k []) (g.e.getD (k + 1) []) = true := by
        have h' := h
        simp only [grOk, Bool.and_eq_true, List.all_eq_true] at h'
        have := h'.2 (k + 1) (by simpa using hk)
        simp only [edgeAt, Bool.and_eq_true, Nat.add_sub_cancel] at this
        simpa using this.2
      simp only [ltB, Bool.or_eq_true, Bool.and_eq_true, decide_eq_true_eq] at hlt
      unfold rankE at h0 ⊢
      omega
  rcases Nat.lt_or_ge 25 g.e.length with hl | hl
  · have := key 25 hl; omega
  · exact hl
theorem grOk_prOk {g : Gr} (h : grOk g = true) : prOk g.n.toNat (edgesOf g.e) := by
  intro k hk
  rw [edgesOf_length] at hk
  obtain ⟨h1, h2, h3, h4⟩ := edgeB_facts (grOk_edge h hk)
  have hn := grOk_nodes h
  refine ⟨((g.e.getD k []).getD 0 0).toNat, ((g.e.getD k []).getD 1 0).toNat, ?_, by omega, by omega, by omega⟩
  rw [edgesOf_getD _ _ hk, Int.toNat_of_nonneg h2, Int.toNat_of_nonneg (by omega)]

theorem ownsRow_same {w W : World} {lo n size : Nat} {e : TypeId} {v : Value} {vs : List Value} (h : w.ownsRow lo e size v n vs) (hs : SameOn lo w.heap.size w W) : W.ownsRow lo e size v n vs := by
  refine ⟨h.1, ?_⟩
  rcases h.2 with h0 | ⟨g, cap, cur, hv, hg, hh, r⟩
  · exact Or.inl h0
  · exact Or.inr ⟨g, cap, cur, hv, hg, by rw [hs g hg (Array.getElem?_eq_some_iff.1 hh).1]; exact hh, r⟩
theorem Try.infoPr : (Try.prog.info? 90).map (fun i => (i.zero, i.size, i.bytes)) = some (some (.agg #[.int .i64 0, .int .i64 0]), 2, 16) := by kernel_rfl

set_option maxRecDepth 100000 in
set_option maxHeartbeats 8000000 in
theorem network_any (gv : Value) (g : Gr) (w : World) (hv : GrR w gv g) (hok : grOk g = true) :
    Calls Try.prog 67 #[gv] w fun e w' => ∃ lv ev, e = .returned (.agg #[lv, ev]) ∧ (∀ W, SameOn w.heap.size w'.heap.size w' W → NetR W lv ev g.n.toNat (edgesOf g.e)) ∧ Below w.heap.size w w' := by
  have hN := grOk_nodes hok
  have hfew := grOk_few hok
  have hpr := Lib.hid (grOk_prOk hok)
  have hedge := Lib.hid (fun k (hk : k < g.e.length) => edgeB_facts (grOk_edge hok hk))
  obtain ⟨v, rfl, hr⟩ := hv
  obtain ⟨n, xss⟩ := g
  simp only at hr hN hfew hpr hedge ⊢
  obtain ⟨N, rfl⟩ : ∃ N : Nat, n = N := ⟨n.toNat, by omega⟩
  rw [Int.toNat_natCast] at hpr ⊢
  obtain ⟨hm, a, cap, rfl⟩ := hr.len
  have B0 := below2 w (.cells #[.int .i64 (N : Int), .slice a xss.length cap] 27) (.cells #[.slice none 0 0, .slice none 0 0] 65)
  have HG := (Blk.new w #[.int .i64 (N : Int), .slice a xss.length cap] 27).alloc (.cells #[.slice none 0 0, .slice none 0 0] 65)
  have HR := Blk.new (w.alloc (.cells #[.int .i64 (N : Int), .slice a xss.length cap] 27)) #[.slice none 0 0, .slice none 0 0] 65
  simp only [World.size_alloc] at HR
  have hr1 := hr.keep B0
  clear hr hok
  go_enter Try.func67, Try.ntmps67
  go_wp2
  obtain ⟨w1, hw1⟩ : ∃ u, (w.alloc (.cells #[.int .i64 (N : Int), .slice a xss.length cap] 27)).alloc (.cells #[.slice none 0 0, .slice none 0 0] 65) = u := ⟨_, rfl⟩
  rw [hw1] at B0 HG HR hr1 ⊢
  have hsz : w1.heap.size = w.heap.size + 2 := by rw [← hw1]; simp
  have hsz' := Lib.hid hsz
  clear hw1 hsz
  go_loopw [3, 9] (fun v i wr => ∃ (k : Nat) (va : Option Addr) (vc : Nat), k ≤ xss.length ∧ i = .int .i64 k ∧ v = .slice va k vc ∧ Hid (wr.ownsRow w1.heap.size 90 2 (.slice va k vc) k (prs (edgesOf (xss.take k)))) ∧ Hid (Below w1.heap.size w1 wr)) (fun _ i _ => xss.length - (intOf i).toNat)
  case atStart => exact ⟨0, none, 0, Nat.zero_le _, rfl, rfl, World.ownsRow_nil _ _ _ _, Below.refl _ _⟩
  case round =>
    obtain ⟨k, va, vc, hk, rfl, rfl, hown, bel⟩ := hrel
    have HG2 := HG.step bel.out
    obtain ⟨g0, g1⟩ := HG2.two
    by_cases hlt : k < xss.length
    · obtain ⟨b, off, cap', rv, hvv, hbl, hc⟩ := hr1.at (by omega)
      simp only [Value.slice.injEq] at hvv
      obtain ⟨rfl, -, rfl⟩ := hvv
      obtain ⟨hcell, hrow⟩ := hc k hlt
      replace hcell := (bel.out.cell (p := ⟨b, off + k, none⟩) hbl).trans hcell
      obtain ⟨hl2, p0, p1, p2⟩ := hedge.out k hlt
      obtain ⟨rb, ro, rcap, hrv, hrb, hrc⟩ := hrow.at (by omega)
      rw [hrv, hl2] at hcell
      have x0' := hrc 0 (by omega)
      have x1' := hrc 1 (by omega)
      rw [Nat.add_zero] at x0'
      have x0 := (bel.out.cell (p := ⟨rb, ro, none⟩) hrb).trans x0'
      have x1 := (bel.out.cell (p := ⟨rb, ro + 1, none⟩) hrb).trans x1'
      have hts := Lib.hid (edgesOf_take_succ xss k hlt)
      clear hc hrow hrc hrv hl2
      generalize (xss.getD k []).getD 0 0 = x at x0 x0' hts p0 p1
      generalize (xss.getD k []).getD 1 0 = y at x1 x1' hts p1 p2
      have X0 := Lib.hid x0'
      have X1 := Lib.hid x1'
      clear x0' x1'
      obtain ⟨i0, hi0, hz0, hz1, hz2⟩ := info_parts Try.infoPr
      have hi' := Lib.hid hi0; have hz0' := Lib.hid hz0; have hz1' := Lib.hid hz1; have hz2' := Lib.hid hz2
      have B1 := Lib.hid bel.out.size
      clear hi0 hz0 hz1 hz2
      go_wp2
      go_region_held3 (fun w' => w'.cell? ⟨rb, ro, none⟩ = some (.int .i64 x) ∧ w'.cell? ⟨rb, ro + 1, none⟩ = some (.int .i64 y)) (first | go_keep | exact ⟨z0, z1⟩)
        ((refine step_append_lies _ (by rfl) _ _ _ (by rfl) w1.heap.size 90 i0 (.agg #[.int .i64 0, .int .i64 0]) 2 16 Try.underlying63 hi'.out hz0'.out hz1'.out hz2'.out rfl (by omega) (.slice va k vc) k _ (by rfl) ((hown.out.alloc _).drew) ⟨wr.heap.size, 0, none⟩ 1 1 [.int .i64 x, .int .i64 y] (by rfl) (by rfl) (two_newP _ _ _ _) (by simp [Value.oneCell']) (by omega) (by unfold maxLen; omega) (by omega) (by have := B1.out; simp; omega) (wr.heap.size + 1) (by simp) ?_; intro gg cap2 w3 hown3 hgrow hat hlt3; have bel3 : Below w1.heap.size w1 w3 := ((bel.out.alloc B1.out _).drew).grown hgrow (by have := B1.out; simp [World.drew]; omega) (fun k' hk' => (hown.out.lt k' hk').1); have z0 := (bel3.cell (p := ⟨rb, ro, none⟩) hrb).trans X0.out; have z1 := (bel3.cell (p := ⟨rb, ro + 1, none⟩) hrb).trans X1.out))
      have bel5 := Lib.hid bel3
      clear bel3 z0 z1
      go_wp2
      go_roundw
      case rel => exact ⟨k + 1, some ⟨gg, 0, none⟩, cap2, by omega, by go_num, rfl, by rw [hts.out, prs_append]; exact hown3, bel5⟩
      case measure => simp [intOf]; omega
    · obtain rfl : k = xss.length := by omega
      have hP : PrL wr (.slice va xss.length vc) (edgesOf xss) := by
        have h1 := hown.out
        rw [List.take_length, ← edgesOf_length xss] at h1
        have := PrL.of h1 (by rw [edgesOf_length]; omega)
        rw [edgesOf_length] at this
        exact this
      have HR2 := HR.step bel.out
      clear HG2
      go_wp2_with fail
      (with_reducible refine (networkOf_any N _ (edgesOf xss) _ hP (by omega) (by rw [edgesOf_length]; omega) hpr.out).mono ?_)
      rintro e w2 ⟨lv, rfl, hnet, b2⟩
      have hnet' := Lib.hid hnet
      obtain ⟨hml, la, lc, rfl⟩ := (hnet w2 (SameOn.refl _ _ _)).len
      have HR3 := HR2.step b2
      obtain ⟨z0, z1⟩ := HR3.two
      have zf0 := HR3.frozen 0
      have zf1 := HR3.frozen 1
      clear hnet HR2 HG
      go_wp2
      refine bodyPost_ret (v := .agg #[.slice la (nbL N (edgesOf xss)).length lc, .slice va xss.length vc]) (by simp [results, Try.results67, go_sem, z0, z1]) rfl ?_
      have hb2 := hsz'.out
      have hb3 := bel.out.size
      have hb4 := HR3.lt
      have hb5 := b2.size
      have B2 := fun x y => ((B0.trans ((below_wt bel.out b2).mono B0.size)).setCell (p := ⟨w.heap.size + 1, 0, none⟩) (Nat.le_succ _) x).setCell (p := ⟨w.heap.size + 1, 1, none⟩) (Nat.le_succ _) y
      have S2 := fun x y => ((SameOn.refl wr.heap.size w2.heap.size w2).set (a := ⟨w.heap.size + 1, 0, none⟩) (Or.inl (by simp only; omega)) x).set (a := ⟨w.heap.size + 1, 1, none⟩) (Or.inl (by simp only; omega)) y
      refine ⟨_, _, rfl, fun W hW => ⟨hnet'.out _ ((S2 _ _).trans (hW.mono (by omega) (by simp [World.setCell]))), ?_⟩, B2 _ _⟩
      have h1 := ownsRow_belowN hown.out b2
      rw [List.take_length] at h1
      have h2 := ownsRow_setCell_below (ownsRow_setCell_below h1 (a := ⟨w.heap.size + 1, 0, none⟩) (by simp only; omega) (.slice la (nbL N (edgesOf xss)).length lc)) (a := ⟨w.heap.size + 1, 1, none⟩) (by simp only; omega) (.slice va xss.length vc)
      have h3 := ownsRow_same h2 (hW.mono (by omega) (Nat.le_refl _))
      rw [← edgesOf_length xss] at h3 ⊢
      exact PrL.of h3 (by rw [edgesOf_length]; omega)
end Go.Proofs.Ytfbhdlkiffoflaa
