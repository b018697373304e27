/- ChainOfMaps of the specification. Conditions: none. -/
import Derived.Test.YtkebfnmepbblnaaMsCh
import Derived.StillTailTactics
import Derived.Deep.DeepCutAuto
namespace Go.Proofs.Ytkebfnmepbblnaa
open Go.RowKit Go.Deep
set_option linter.unusedVariables false

theorem ms_make_len (n : Int) (h0 : 0 ≤ n) (h1 : n ≤ 1000000) : ∀ u : World, (Instr.makeSlice 25 (.int .i64 n) (.int .i64 n)).run Try.prog u =
    .ok (.slice (some ⟨u.heap.size, 0, none⟩) n.toNat n.toNat) (u.alloc (.cells (madeCells #[.int .i64 0] n.toNat) 2)) := fun u => by
  obtain ⟨i0, hi, hz0, hz1, hz2⟩ := info_parts Try.infoI
  have h := run_make (P := Try.prog) u 25 2 i0 (.int .i64 0) Try.underlying25 hi hz0 .i64 .i64 n n h0 (by omega) (by rw [hz2]; omega) (by omega)
  simpa [hz1, Value.cells] using h

/-- the row of s by the first k maps -/
def rowW (l : List Mp) (N s k : Nat) : List Int := (List.range N).map fun j => wto (l.take k) s j
theorem rowW_length (l : List Mp) (N s k : Nat) : (rowW l N s k).length = N := by simp [rowW]
theorem rowW_getD (l : List Mp) (N s k j : Nat) (h : j < N) : (rowW l N s k).getD j 0 = wto (l.take k) s j := by simp [rowW, List.getD, h]
theorem rowW_zero (l : List Mp) (N s : Nat) : rowW l N s 0 = List.replicate N 0 := by
  refine List.ext_getElem (by simp [rowW]) fun i h1 h2 => ?_
  simp [rowW, wto]
theorem rowW_all (l : List Mp) (N s : Nat) : rowW l N s l.length = (List.range N).map fun j => wto l s j := by simp [rowW]
theorem rowW_set (l : List Mp) (N s k m : Nat) (hk : k < l.length) (hm : m < N) (hy : (l.getD k mp0).2.getD s 0 = (m : Int)) :
    (rowW l N s k).set m (wto (l.take k) s m + (l.getD k mp0).1) = rowW l N s (k + 1) := by
  refine List.ext_getElem (by simp [rowW]) fun i h1 h2 => ?_
  have hi : i < N := by simpa [rowW] using h2
  have e2 : (rowW l N s (k + 1))[i] = wto (l.take (k + 1)) s i := by simp [rowW]
  rw [e2, wto_take_succ l s i k hk]
  by_cases e : i = m
  · subst e
    rw [List.getElem_set_self]
    congr 1
    unfold wat
    rw [if_pos (by rw [hy]; simp)]
  · rw [List.getElem_set_ne (Ne.symm e)]
    have e3 : (rowW l N s k)[i]'(by simpa [rowW] using hi) = wto (l.take k) s i := by simp [rowW]
    rw [e3]
    have : wat s i (l.getD k mp0) = 0 := by unfold wat; rw [if_neg (by rw [hy]; simp; omega)]
    omega
theorem wto_bd {l : List Mp} (h : ∀ k, k < l.length → 1 ≤ (l.getD k mp0).1 ∧ (l.getD k mp0).1 ≤ 60) (s j : Nat) : ∀ k, k ≤ l.length → 0 ≤ wto (l.take k) s j ∧ wto (l.take k) s j ≤ 60 * (k : Int)
  | 0, _ => by simp [wto]
  | k + 1, hk => by
    have ih := wto_bd h s j k (by omega)
    have hx := h k (by omega)
    rw [wto_take_succ l s j k (by omega)]
    unfold wat
    split <;> omega

set_option maxRecDepth 100000 in
set_option maxHeartbeats 16000000 in
theorem l05Chain_any (b1 : Nat) (c : Ms) (w : World) (hc : MsP w b1 c) (hok : msOk c = true) :
    Calls Try.prog 120 #[.pointer (some ⟨b1, 0, none⟩)] w fun e w' => ∃ cv, e = .returned cv ∧ ChOwn 25 2 w' w.heap.size w'.heap.size cv ⟨c.n, c.t, rowsOf c.n.toNat (wto c.l)⟩ ∧ Below w.heap.size w w' := by
  obtain ⟨⟨n1, n2⟩, ⟨t1, t2⟩, ⟨l1, l2⟩, _⟩ := msOk_all hok
  have hat := Lib.hid (fun k hk => msOk_at hok k hk)
  obtain ⟨n, t, l⟩ := c
  simp only at n1 n2 t1 t2 l1 l2 hat ⊢
  have B1 := below1 w (.cells #[.int .i64 0, .int .i64 0, .slice none 0 0] 29)
  have hA := Blk.new w #[.int .i64 0, .int .i64 0, .slice none 0 0] 29
  obtain ⟨vc, c0, c1, c2, Rc⟩ := hc.keep B1
  simp only at c0 c1 c2 Rc
  obtain ⟨N, hN⟩ : ∃ N : Nat, n = N := ⟨n.toNat, by omega⟩
  subst hN
  have hNt : ((N : Nat) : Int).toNat = N := by omega
  rw [hNt]
  have hmk := ms_make_len (N : Int) (by omega) (by omega)
  rw [hNt] at hmk
  obtain ⟨ob, oo, occ, rv, rfl, lo, Ro⟩ := Rc.at (by omega)
  have Ro' := Lib.hid Ro
  have lb := block_lt c0
  simp only at lb
  have hmk' := Lib.hid hmk
  have hsz0 := Lib.hid (show (w.alloc (.cells #[.int .i64 0, .int .i64 0, .slice none 0 0] 29)).heap.size = w.heap.size + 1 by simp)
  have hwb := Lib.hid (wto_bd (l := l) (fun k hk => (hat.out k hk).1))
  clear Ro Rc hmk hok hc
  go_enter Try.func120, Try.ntmps120
  go_wp2_with fail
  go_region_held3 (fun w' => w'.cell? ⟨b1, 0, none⟩ = some (.int .i64 N) ∧ w'.cell? ⟨b1, 1, none⟩ = some (.int .i64 t)) (go_keep) (first | fail)
  go_wp2
  have hW0 := below1 (w.alloc (.cells #[.int .i64 0, .int .i64 0, .slice none 0 0] 29)) (.cells #[.int .i64 N, .int .i64 t, .slice none 0 0] 29)
  have hC : Blk (((w.alloc (.cells #[.int .i64 0, .int .i64 0, .slice none 0 0] 29)).alloc (.cells #[.int .i64 N, .int .i64 t, .slice none 0 0] 29)).drew) (w.heap.size + 1) #[.int .i64 N, .int .i64 t, .slice none 0 0] 29 := by
    have := Blk.new (w.alloc (.cells #[.int .i64 0, .int .i64 0, .slice none 0 0] 29)) #[.int .i64 N, .int .i64 t, .slice none 0 0] 29
    rw [hsz0.out] at this
    exact this
  have hb0 : Below (w.alloc (.cells #[.int .i64 0, .int .i64 0, .slice none 0 0] 29)).heap.size (w.alloc (.cells #[.int .i64 0, .int .i64 0, .slice none 0 0] 29)) (((w.alloc (.cells #[.int .i64 0, .int .i64 0, .slice none 0 0] 29)).alloc (.cells #[.int .i64 N, .int .i64 t, .slice none 0 0] 29)).drew) := hW0.drew
  have hsz1 := Lib.hid (show (((w.alloc (.cells #[.int .i64 0, .int .i64 0, .slice none 0 0] 29)).alloc (.cells #[.int .i64 N, .int .i64 t, .slice none 0 0] 29)).drew).heap.size = w.heap.size + 2 by simp [World.drew])
  generalize (((w.alloc (.cells #[.int .i64 0, .int .i64 0, .slice none 0 0] 29)).alloc (.cells #[.int .i64 N, .int .i64 t, .slice none 0 0] 29)).drew) = W at *
  generalize w.alloc (.cells #[.int .i64 0, .int .i64 0, .slice none 0 0] 29) = V at *
  go_loopw [4] (fun i wr => ∃ (s : Nat) (a : Option Addr) (cap : Nat) (rvs : List Value), s ≤ N ∧ i = .int .i64 s ∧ Blk wr (w.heap.size + 1) #[.int .i64 N, .int .i64 t, .slice a s cap] 29 ∧
      MadeTo wr (w.heap.size + 2) wr.heap.size (.slice a s cap) rvs ((List.range s).map fun s => (List.range N).map fun j => wto l s j) ∧ Below V.heap.size V wr ∧ w.heap.size + 2 ≤ wr.heap.size) (fun i _ => N - (intOf i).toNat)
  case atStart => exact ⟨0, none, 0, [], Nat.zero_le _, rfl, hC, by simpa using MadeTo.start W (w.heap.size + 2), hb0, by have := hsz1.out; omega⟩
  case round =>
    obtain ⟨wo, rfl⟩ : ∃ wo : World, wo = wr := ⟨_, rfl⟩
    obtain ⟨s, a, cap, rvs, hk, rfl, hC1, hM, hb1, hs1⟩ := hrel
    have hM' := Lib.hid hM
    clear hM
    have c0o := (hb1.cell (p := ⟨b1, 0, none⟩) lb).trans c0
    by_cases hlt : s < N
    · have hbo := hb1.size
      have hmk := hmk'.out
      have hown0 := Own.made wo (.int .i64 0) N 2 (by unfold maxLen; omega)
      have hown0' := Lib.hid (show Own (wo.alloc (.cells (madeCells #[.int .i64 0] N) 2)) wo.heap.size (wo.heap.size + 1) 2 (.slice (some ⟨wo.heap.size, 0, none⟩) N N) (ints (rowW l N s 0)) by rw [rowW_zero]; simpa [ints] using hown0)
      clear hown0
      go_wp2
      clear hmk
      go_loopw [6] (fun i wr => ∃ (k : Nat), k ≤ l.length ∧ i = .int .i64 k ∧ Own wr wo.heap.size (wo.heap.size + 1) 2 (.slice (some ⟨wo.heap.size, 0, none⟩) N N) (ints (rowW l N s k)) ∧ Below wo.heap.size wo wr ∧ wo.heap.size + 1 ≤ wr.heap.size) (fun i _ => l.length - (intOf i).toNat)
      case atStart => exact ⟨0, Nat.zero_le _, rfl, hown0'.out, below1 _ _, by simp⟩
      case round =>
        obtain ⟨wk, rfl⟩ : ∃ wk : World, wk = wr := ⟨_, rfl⟩
        obtain ⟨k, hk2, rfl, hown, bel, hs2⟩ := hrel
        have belV : Below V.heap.size V wk := hb1.trans (bel.mono hbo)
        have q0 := (belV.cell (p := ⟨b1, 2, none⟩) lb).trans c2
        by_cases hklt : k < l.length
        · obtain ⟨h0, h1, hrow⟩ := Ro'.out k hklt
          obtain ⟨⟨x1, x2⟩, hlen, hval⟩ := hat.out k hklt
          have hsl : s < (l.getD k mp0).2.length := by omega
          obtain ⟨y1, y2⟩ := hval s hsl
          obtain ⟨m, hm⟩ : ∃ m : Nat, (l.getD k mp0).2.getD s 0 = (m : Int) := ⟨((l.getD k mp0).2.getD s 0).toNat, by omega⟩
          have hmN : m < N := by omega
          obtain ⟨z1, z2⟩ := hwb.out s m k hk2
          have hset := Lib.hid (rowW_set l N s k m hklt hmN hm)
          obtain ⟨g, gc, hge, -, -, hglt, hgc, hgf⟩ := hown.at (by simp [ints, rowW_length]; omega)
          simp at hge
          obtain ⟨rfl, -⟩ := hge
          have q9 := hgc m (by simp [ints, rowW_length]; exact hmN)
          rw [ints_getD _ _ (by rw [rowW_length]; exact hmN), rowW_getD _ _ _ _ _ hmN] at q9
          have f9 := hgf m
          have own2 := hown.set m (.int .i64 (wto (l.take k) s m + (l.getD k mp0).1))
          rw [ints_set, hset.out] at own2
          have own2' := Lib.hid own2
          clear hown own2 hgc hgf hval
          generalize wto (l.take k) s m = z at q9 z1 z2 own2' hset
          generalize l.getD k mp0 = mp at *
          obtain ⟨x, row⟩ := mp
          simp only at h0 hrow x1 x2 hlen hsl hm y1 y2 own2'
          generalize rv k = rk at h1 hrow
          obtain ⟨pb, po, pcc, rfl, plt, hxd⟩ := hrow.at (by omega)
          have hx := hxd s hsl
          rw [hm] at hx
          have q1 := (belV.cell (p := ⟨ob, oo + k * 2, none⟩) lo).trans h0
          have q2 := (belV.cell (p := ⟨ob, oo + k * 2 + 1, none⟩) lo).trans h1
          have q3 := (belV.cell (p := ⟨pb, po + s, none⟩) plt).trans hx
          have w2 : IntKind.i64.wrap (z + x) = z + x := by rw [IntKind.wrap_i64]; omega
          have kr1 : (k : Int) < (l.length : Int) := by omega
          have sr1 : (s : Int) < (row.length : Int) := by omega
          have mr1 : (m : Int) < (N : Int) := by omega
          clear c0 c1 c2 c0o h0 h1 hx hxd hrow
          go_upto_region 9 with fail
          refine wp_region_still_tail 24 (by kernel_rfl) (by kernel_rfl) ?_
          simp only [List.take_succ_cons, List.take_zero, List.drop_succ_cons, List.drop_zero]
          repeat still_step
          try refine wpStill_nil ?_
          change wpList _ _ _ _ _ wk.drew
          go_wp2
          go_roundw
          case rel =>
            exact ⟨k + 1, by omega, by go_num, own2'.out, (bel.setCell (p := ⟨wo.heap.size, m, none⟩) (Nat.le_refl _) _).drew, by simp [World.setCell, World.drew]; omega⟩
          case measure => simp [intOf]; omega
        · obtain rfl : k = l.length := by omega
          obtain ⟨i1, ki, kz0, kz1, kz2⟩ := info_parts Try.infoR
          have ki' := Lib.hid ki; have kz0' := Lib.hid kz0; have kz1' := Lib.hid kz1; have kz2' := Lib.hid kz2
          have hsz := bel.size
          have hrow' := Lib.hid (show Own wk wo.heap.size wk.heap.size 2 (.slice (some ⟨wo.heap.size, 0, none⟩) N N) (ints ((List.range N).map fun j => wto l s j)) by
            have := hown
            rw [rowW_all] at this
            exact this.wide (Nat.le_refl _) hs2)
          have hM := hM'.out
          have hMown : wk.ownsRow (w.heap.size + 2) 25 1 (.slice a s cap) s rvs := by
            have h1 := hM.own
            simp only [List.length_map, List.length_range] at h1
            exact ⟨h1.1, (by
              rcases h1.2 with h0 | ⟨g, cap, cur, hv, hgg, hh, r⟩
              · exact Or.inl h0
              · exact Or.inr ⟨g, cap, cur, hv, hgg, by rw [bel.block g (Array.getElem?_eq_some_iff.1 hh).1]; exact hh, r⟩)⟩
          have hC2 := hC1.keep bel hC1.lt
          have q2 : wk.cell? ⟨w.heap.size + 1, 2, none⟩ = some (.slice a s cap) := hC2.cell 2
          have ltC := hC2.lt
          have q2' : ∀ o, (wk.alloc o).cell? ⟨w.heap.size + 1, 2, none⟩ = some (.slice a s cap) := fun o => (World.cell?_alloc_past _ _ _ ltC).trans q2
          have hne : ∀ k', k' < w.heap.size + 2 → (Value.slice a s cap).ownBlock ≠ some k' := fun k' hk' hh => by have := (ownsRow_type hMown hh).1; omega
          have hne' := Lib.hid hne
          have hVs := Lib.hid (show V.heap.size = w.heap.size + 1 from hsz0.out)
          clear hM hne ki kz0 kz1 kz2 c0 c1 c2 c0o hown
          go_wp2_with (at_builtin; (refine wpList_append_own _ rfl _ _ 22 rfl (w.heap.size + 2) 25 i1 (.slice none 0 0) 1 24 Try.underlying22 ki'.out kz0'.out kz1'.out kz2'.out rfl (by decide) _ _ _ rfl (hMown.alloc _) ⟨wk.heap.size, 0, none⟩ 1 1 [.slice (some ⟨wo.heap.size, 0, none⟩) N N] rfl rfl (one_new _ _ _) (by simp [Value.oneCell']) (by unfold maxLen; omega) (by omega) (by simp; omega) ?_); intro v' w2 hown2 hgr2 _; obtain ⟨g2, c2, rfl⟩ := ownsRow_shape hown2 (by omega); have hC3 : Blk w2 (w.heap.size + 1) _ _ := (hgr2.block (w.heap.size + 1) (by simp; omega) (fun e => hne'.out _ (by omega) e.symm)).trans (hC2.alloc _); have hf3 := hC3.frozen 2; have hc3 := hC3.cell 2; simp at hc3)
          go_roundw
          case rel =>
            have hg2 := hgr2.size
            simp at hg2
            have res := MadeTo.step (v' := .slice (some ⟨g2, 0, none⟩) (s + 1) c2) (a := ⟨w.heap.size + 1, 2, none⟩) hM'.out bel hrow'.out (by omega) _ (by simpa using hown2) hgr2 (by show w.heap.size + 1 < w.heap.size + 2; omega) (.slice (some ⟨g2, 0, none⟩) (s + 1) c2)
            refine ⟨s + 1, some ⟨g2, 0, none⟩, c2, rvs ++ [.slice (some ⟨wo.heap.size, 0, none⟩) N N], by omega, by go_num, ?_, ?_, ?_, by simp [World.setCell]; omega⟩
            · have := hC3.set 2 (.slice (some ⟨g2, 0, none⟩) (s + 1) c2)
              simpa using this
            · rw [range_map_succ]
              exact res
            · refine Below.setCell ?_ (by show V.heap.size ≤ w.heap.size + 1; have := hVs.out; omega) _
              exact ((hb1.trans (bel.mono hbo)).alloc (by omega) _).grown hgr2 (by simp; omega) (fun k' hk' => by have := (ownsRow_type hMown hk').1; have := hVs.out; omega)
          case measure => simp [intOf]; omega
    · obtain rfl : s = N := by omega
      have hA1 := hA.keep hb1 hA.lt
      have f10 := hA1.frozen 0
      have f11 := hA1.frozen 1
      have f12 := hA1.frozen 2
      have c10 := hA1.cell 0
      have c11 := hA1.cell 1
      have c12 := hA1.cell 2
      have c20 := hC1.cell 0
      have c21 := hC1.cell 1
      have c22 := hC1.cell 2
      simp at c10 c11 c12 c20 c21 c22
      have ll := hC1.lt
      clear c0 c1 c2
      go_wp2
      refine bodyPost_ret (v := .agg #[.int .i64 s, .int .i64 t, .slice a s cap]) (by simp [results, Try.results120, go_sem, c10, c11, c12]) rfl ?_
      have hown := hM'.out.done
      have hBw : Below w.heap.size w wo := below_wt B1 hb1
      refine ⟨_, rfl, ?_, ((hBw.setCell ?_ _).setCell ?_ _).setCell ?_ _⟩
      · refine ⟨_, rfl, (hown.same ((((SameOn.refl _ _ _).set ?_ _).set ?_ _).set ?_ _)).wide (by omega) (by simp [World.setCell])⟩
        all_goals (simp only; omega)
      all_goals (simp only; omega)

theorem l05Ok_bel (b : Nat) (c : Ms) (w : World) (hv : MsP w b c) :
    Calls Try.prog 111 #[.pointer (some ⟨b, 0, none⟩)] w fun e w' => e = .returned (.bool (msOk c)) ∧ Below w.heap.size w w' :=
  (l05Ok_any b c w hv).mono fun _ _ ⟨h1, m, h2⟩ => ⟨h1, by rw [h2]; exact below_drewN (Below.refl _ _) m⟩

end Go.Proofs.Ytkebfnmepbblnaa
