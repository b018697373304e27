/- MapsByDraws of both sides. Conditions: none. -/
import Derived.Test.YtgbhkdoejnkmhaaMsMake
import Derived.Test.YtgbhkdoejnkmhaaMsCh
import Derived.Test.YtgbhkdoejnkmhaaStep
import Derived.Deep.AppendLies
import Derived.Deep.RegionLaw
namespace Go.Proofs.Ytgbhkdoejnkmhaa
open Go.RowKit Go.Deep
set_option linter.unusedVariables false

theorem own2_shape {w : World} {lo n size : Nat} {e : TypeId} {v : Value} {vs : List Value} (h : w.ownsRow lo e size v n vs) (hn : 0 < n) : ∃ g cap, v = .slice (some ⟨g, 0, none⟩) n cap := by
  rcases h.2 with ⟨_, h0⟩ | ⟨g, cap, cur, hv, _⟩
  · omega
  · exact ⟨g, cap, hv⟩
/-- the map of a draw -/
def drawTo (c : Ch) (N d : Nat) : List Int := (List.range N).map fun s => ((pk (c.w.getD s []) d : Nat) : Int)
theorem drawTo_length (c : Ch) (N d : Nat) : (drawTo c N d).length = N := by simp [drawTo]
def mbdOf (c : Ch) : Ms × Int := if chOk c = true then (⟨c.n, c.t, (List.range c.t.toNat).map fun d => (1, drawTo c c.n.toNat d)⟩, 0) else (⟨0, 0, []⟩, 1)

set_option maxRecDepth 100000 in
set_option maxHeartbeats 4000000 in
theorem MapsByDraws_impl (cv : Value) (c : Ch) (w : World) (hv : ChR w cv c) :
    Calls Try.prog 31 #[cv] w fun e w' => ∃ r, e = .returned (.tuple #[r, .int .i64 (mbdOf c).2]) ∧ MsMine 74 2 w' w.heap.size w'.heap.size r (mbdOf c).1 ∧ Below w.heap.size w w' := by
  obtain ⟨v, rfl, hr⟩ := hv
  obtain ⟨n, t, rows⟩ := c
  simp only at hr
  obtain ⟨hm, a, cap, rfl⟩ := hr.len
  have B0 := below2 w (.cells #[.int .i64 n, .int .i64 t, .slice a rows.length cap] 36) (.cells #[.int .i64 0, .int .i64 0, .slice none 0 0] 29)
  have hB := (Blk.new w #[.int .i64 n, .int .i64 t, .slice a rows.length cap] 36).alloc (.cells #[.int .i64 0, .int .i64 0, .slice none 0 0] 29)
  have hR := Blk.new (w.alloc (.cells #[.int .i64 n, .int .i64 t, .slice a rows.length cap] 36)) #[.int .i64 0, .int .i64 0, .slice none 0 0] 29
  simp only [World.size_alloc] at hR
  have hr' := hr.keep B0
  have hvm := ValidChain_impl (.agg #[.int .i64 n, .int .i64 t, .slice a rows.length cap]) ⟨n, t, rows⟩ _ ⟨_, rfl, hr'⟩
  rcases hok : chOk ⟨n, t, rows⟩ with _ | _
  · rw [hok] at hvm
    have hc := Lib.hid (show mbdOf ⟨n, t, rows⟩ = (⟨0, 0, []⟩, 1) by simp [mbdOf, hok])
    clear hok
    go_enter Try.func31, Try.ntmps31
    go_wp2_with fail
    refine hvm.mono ?_
    rintro e w1 ⟨rfl, b1⟩
    have hR1 := hR.keep b1 hR.lt
    obtain ⟨q0, q1, q2⟩ := hR1.three
    have f0 := hR1.frozen 0
    have f1 := hR1.frozen 1
    have f2 := hR1.frozen 2
    have hbel := Lib.hid (below_wt B0 b1)
    clear b1 B0
    go_wp2
    refine bodyPost_ret (v := .tuple #[.agg #[.int .i64 0, .int .i64 0, .slice none 0 0], .int .i64 1]) (by simp [results, Try.results31, go_sem, q0, q1, q2]) rfl ?_
    rw [hc.out]
    exact ⟨_, rfl, nil_ms _ _ _ (Nat.le_refl _), ((hbel.out.setCell (p := ⟨w.heap.size + 1, 0, none⟩) (by simp only; omega) _).setCell (p := ⟨w.heap.size + 1, 1, none⟩) (by simp only; omega) _).setCell (p := ⟨w.heap.size + 1, 2, none⟩) (by simp only; omega) _⟩
  · rw [hok] at hvm
    obtain ⟨n1, n2, t1, t2, hlen, hrows⟩ := chOk_all hok
    simp only at n1 n2 t1 t2 hlen hrows
    have hc := Lib.hid (show mbdOf ⟨n, t, rows⟩ = (⟨n, t, (List.range t.toNat).map fun d => (1, drawTo ⟨n, t, rows⟩ n.toNat d)⟩, 0) by simp [mbdOf, hok])
    obtain ⟨N, rfl⟩ : ∃ N : Nat, n = N := ⟨n.toNat, by omega⟩
    obtain ⟨T, rfl⟩ : ∃ T : Nat, t = T := ⟨t.toNat, by omega⟩
    simp only [Int.toNat_natCast] at hc
    have hN : N = rows.length := by omega
    subst hN
    generalize hD : drawTo ⟨(rows.length : Nat), (T : Nat), rows⟩ rows.length = D at *
    have hrw := Lib.hid (show ∀ s d : Nat, s < rows.length → (d : Int) < T → (∀ x ∈ rows.getD s [], 0 ≤ x ∧ x ≤ 60) ∧ (rows.getD s []).length ≤ 36 ∧ (d : Int) < (rows.getD s []).sum from fun s d hs hd => by
      obtain ⟨a1, a2, a3⟩ := okRow_all (hrows _ (getD_mem (d := []) hs))
      exact ⟨fun x hx => by have := a2 x hx; omega, by omega, by omega⟩)
    clear hok hrows
    go_enter Try.func31, Try.ntmps31
    go_wp2_with fail
    refine hvm.mono ?_
    rintro e w1 ⟨rfl, b1⟩
    have hR1 := hR.keep b1 hR.lt
    have hB1 := hB.keep b1 hB.lt
    have hbel := below_wt B0 b1
    have hr1 := hr'.keep b1
    have hz1 := hbel.size
    have hltR := hR1.lt
    have hltB := hB1.lt
    clear b1 B0 hvm hr hr' hR hB
    obtain ⟨q0, q1, q2⟩ := hB1.three
    go_wp2
    clear q0 q1 q2
    have bM := below1 w1 (.cells #[.int .i64 rows.length, .int .i64 T, .slice none 0 0] 29)
    have hM0 := Blk.new w1 #[.int .i64 rows.length, .int .i64 T, .slice none 0 0] 29
    have hzM : (w1.alloc (.cells #[.int .i64 rows.length, .int .i64 T, .slice none 0 0] 29)).heap.size = w1.heap.size + 1 := by simp
    generalize w1.alloc (.cells #[.int .i64 rows.length, .int .i64 T, .slice none 0 0] 29) = W at *
    go_loopw [20] (fun i wr => ∃ (d : Nat) (a : Option Addr) (cap : Nat) (ps : List (Int × Value)), d ≤ T ∧ i = .int .i64 d ∧ Blk wr w1.heap.size #[.int .i64 rows.length, .int .i64 T, .slice a d cap] 29 ∧
      MadeMs wr (w1.heap.size + 1) wr.heap.size (.slice a d cap) ps ((List.range d).map fun d => (1, D d)) ∧ Below w1.heap.size w1 wr ∧ w1.heap.size + 1 ≤ wr.heap.size) (fun i _ => T - (intOf i).toNat)
    case atStart => exact ⟨0, none, 0, [], Nat.zero_le _, rfl, hM0, by simpa using MadeMs.start W (w1.heap.size + 1), bM, by omega⟩
    case round =>
      obtain ⟨wo, rfl⟩ : ∃ wo : World, wo = wr := ⟨_, rfl⟩
      obtain ⟨d, ma, mcap, ps, hk, rfl, hM1, hMs, bel1, hs1⟩ := hrel
      have hMs' := Lib.hid hMs
      clear hMs bM
      have hBo := hB1.keep bel1 hltB
      have hro := hr1.keep bel1
      by_cases hlt : d < T
      · have hdT : (d : Int) < (T : Int) := by omega
        have q2 : ∀ o, (wo.alloc o).cell? ⟨w.heap.size, 2, none⟩ = some (.slice a rows.length cap) := fun o => (World.cell?_alloc_past _ _ _ hBo.lt).trans (hBo.cell 2)
        go_wp2
        clear q2
        have bX := below1 wo (.cells #[.int .i64 1, .slice none 0 0] 74)
        have hX0 := Blk.new wo #[.int .i64 1, .slice none 0 0] 74
        have hzX : (wo.alloc (.cells #[.int .i64 1, .slice none 0 0] 74)).heap.size = wo.heap.size + 1 := by simp
        generalize wo.alloc (.cells #[.int .i64 1, .slice none 0 0] 74) = X at *
        go_loopw [27] (fun i wr => ∃ (s : Nat) (a2 : Option Addr) (cap2 : Nat), s ≤ rows.length ∧ i = .int .i64 s ∧ Blk wr wo.heap.size #[.int .i64 1, .slice a2 s cap2] 74 ∧
          wr.ownsRow (wo.heap.size + 1) 2 1 (.slice a2 s cap2) s (ints ((List.range s).map fun s => ((pk (rows.getD s []) d : Nat) : Int))) ∧ Below wo.heap.size wo wr ∧ wo.heap.size + 1 ≤ wr.heap.size) (fun i _ => rows.length - (intOf i).toNat)
        case atStart => exact ⟨0, none, 0, Nat.zero_le _, rfl, hX0, World.ownsRow_nil _ _ _ _, bX, by omega⟩
        case round =>
          obtain ⟨s, a2, cap2, hs, rfl, hX1, hown, bel2, hs2⟩ := hrel
          have hown' := Lib.hid hown
          have hX1' := Lib.hid hX1
          by_cases hslt : s < rows.length
          · have hsI : (s : Int) < (rows.length : Int) := by omega
            obtain ⟨ob, oo, occ, rv, hvv, lo, Ro⟩ := (hro.keep bel2).at (by omega)
            simp only [Value.slice.injEq] at hvv
            obtain ⟨rfl, -, rfl⟩ := hvv
            obtain ⟨hcell, hrow⟩ := Ro s hslt
            obtain ⟨p1, p2, p3⟩ := hrw.out s d hslt hdT
            have hts := Lib.hid (range_map_succ (fun s => ((pk (rows.getD s []) d : Nat) : Int)) s)
            generalize rows.getD s [] = row at hrow p1 p2 p3 hts
            generalize rv s = rk at hcell hrow
            have hpick := pick_any rk row d wr.drew (hrow.keep (below_drew _)) p1 p2 (by omega) p3
            generalize pk row d = r at hpick hts
            obtain ⟨ra, rac, rfl⟩ := hrow.shape
            obtain ⟨i0, hi, hz0', hz1', hz2'⟩ := info_parts Try.infoI
            have hi' := Lib.hid hi; have hza := Lib.hid hz0'; have hzb := Lib.hid hz1'; have hzc := Lib.hid hz2'
            have x1 : wr.cell? ⟨wo.heap.size, 1, none⟩ = some (.slice a2 s cap2) := hX1.cell 1
            have hne : ∀ k', k' < wo.heap.size + 1 → (Value.slice a2 s cap2).ownBlock ≠ some k' := fun k' hk' hh => by have := (ownsRow_type hown hh).1; omega
            have hne' := Lib.hid hne
            have hltX := hX1.lt
            have hxa : ∀ o, (wr.alloc o).cell? ⟨wo.heap.size, 1, none⟩ = some (.slice a2 s cap2) := fun o => (World.cell?_alloc_past _ _ _ hltX).trans x1
            clear hi hz0' hz1' hz2' hne hrow p1 p2 p3 Ro
            go_wp2_with fail
            go_region_law (first
                | (go_simp; go_at_call 80; refine hpick.mono ?_; rintro e w' ⟨rfl, rfl⟩)
                | (refine step_append_lies _ (by rfl) _ _ _ (by rfl) (wo.heap.size + 1) 2 i0 (.int .i64 0) 1 8 Try.underlying49 hi'.out hza.out hzb.out hzc.out rfl (by omega) (.slice a2 s cap2) s _ (by rfl) ((hown'.out.alloc _).drew)
                      ⟨wr.heap.size, 0, none⟩ 1 1 [.int .i64 r] (by rfl) (by rfl) (one_new _ _ _) (by simp [Value.oneCell']) (by omega) (by unfold maxLen; omega) (by omega) (by simp; omega) (wr.heap.size + 1) (by simp) ?_; intro gg cap3 w3 hown3 hgrow hat hlt3; have hX3 : Blk w3 wo.heap.size _ _ := (hgrow.block wo.heap.size (by simp; omega) (fun e => hne'.out _ (by omega) e.symm)).trans (hX1'.out.alloc _); have y1 : w3.cell? ⟨wo.heap.size, 1, none⟩ = some (.slice a2 s cap2) := hX3.cell 1; have yf := hX3.frozen 1))
            all_goals
              go_wp2
              go_roundw
              case rel =>
                refine ⟨s + 1, some ⟨gg, 0, none⟩, cap3, by omega, by go_num, ?_, ?_, ?_, ?_⟩
                · have := hX3.set 1 (.slice (some ⟨gg, 0, none⟩) (s + 1) cap3)
                  simpa using this
                · rw [hts.out]
                  have := ownsRow_setCell_below hown3 (a := ⟨wo.heap.size, 1, none⟩) (by show wo.heap.size < wo.heap.size + 1; omega) (.slice (some ⟨gg, 0, none⟩) (s + 1) cap3)
                  simpa [ints] using this
                · exact (((bel2.alloc (by omega) _).drew).grown hgrow (by simp; omega) (fun k' hk' => by have := (ownsRow_type hown'.out hk').1; omega)).setCell (Nat.le_refl _) _
                · have := hgrow.size
                  simp [World.drew] at this
                  simp [World.setCell]; omega
              case measure => simp [intOf]; omega
          · obtain rfl : s = rows.length := by omega
            obtain ⟨i1, ki, kz0, kz1, kz2⟩ := info_parts Try.infoMap
            have ki' := Lib.hid ki; have kz0' := Lib.hid kz0; have kz1' := Lib.hid kz1; have kz2' := Lib.hid kz2
            have hM2 := hM1.keep bel2 hM1.lt
            have hltM := hM2.lt
            have q2 : wr.cell? ⟨w1.heap.size, 2, none⟩ = some (.slice ma d mcap) := hM2.cell 2
            have q2' : ∀ o, (wr.alloc o).cell? ⟨w1.heap.size, 2, none⟩ = some (.slice ma d mcap) := fun o => (World.cell?_alloc_past _ _ _ hltM).trans q2
            obtain ⟨y0, y1⟩ := hX1.two
            have hMown : wr.ownsRow (w1.heap.size + 1) 74 2 (.slice ma d mcap) d (fl ps) := by
              have := ownsRow_belowK (B := 0) hMs'.out.own bel2
              simpa using this
            have hsz := bel2.size
            have hne : ∀ k', k' < w1.heap.size + 1 → (Value.slice ma d mcap).ownBlock ≠ some k' := fun k' hk' hh => by have := (ownsRow_type hMown hh).1; omega
            have hne' := Lib.hid hne
            have hDd : D d = (List.range rows.length).map fun s => ((pk (rows.getD s []) d : Nat) : Int) := by rw [← hD]; rfl
            have hrow' := Lib.hid (show Own wr wo.heap.size wr.heap.size 2 (.slice a2 rows.length cap2) (ints (D d)) by
              rw [hDd]
              exact (Own.of hown (Nat.le_refl _)).wide (by omega) (Nat.le_refl _))
            have hps := Lib.hid (show (List.range (d + 1)).map (fun d => ((1 : Int), D d)) = (List.range d).map (fun d => ((1 : Int), D d)) ++ [(1, D d)] from range_map_succ _ d)
            have hfl := fl_length ps
            have hpl := hMs'.out.len
            simp at hpl
            clear hne ki kz0 kz1 kz2 hown hDd
            go_wp2_with (at_builtin; (refine wpList_append_own _ rfl _ _ 27 rfl (w1.heap.size + 1) 74 i1 (.agg #[.int .i64 0, .slice none 0 0]) 2 32 Try.underlying27 ki'.out kz0'.out kz1'.out kz2'.out rfl (by decide) _ _ _ rfl (hMown.alloc _) ⟨wr.heap.size, 0, none⟩ 1 1 [.int .i64 1, .slice a2 rows.length cap2] rfl rfl (two_new _ _ _ _) (by simp [Value.oneCell']) (by unfold maxLen; omega) (by omega) (by simp; omega) ?_); intro v' w2 hown2 hgr2 _; obtain ⟨g2, c2, rfl⟩ := own2_shape hown2 (by omega); have hM3 : Blk w2 w1.heap.size _ _ := (hgr2.block w1.heap.size (by simp; omega) (fun e => hne'.out _ (by omega) e.symm)).trans (hM2.alloc _); have hf3 := hM3.frozen 2; have hc3 := hM3.cell 2; simp at hc3)
            go_roundw
            case rel =>
              have hg2 := hgr2.size
              simp at hg2
              have res := MadeMs.step (v' := .slice (some ⟨g2, 0, none⟩) (d + 1) c2) (a := ⟨w1.heap.size, 2, none⟩) (x := 1) hMs'.out bel2 hrow'.out (by omega) _ (by simpa using hown2) hgr2 (by show w1.heap.size < w1.heap.size + 1; omega) (.slice (some ⟨g2, 0, none⟩) (d + 1) c2)
              refine ⟨d + 1, some ⟨g2, 0, none⟩, c2, ps ++ [(1, .slice a2 rows.length cap2)], by omega, by go_num, ?_, ?_, ?_, by simp [World.setCell]; omega⟩
              · have := hM3.set 2 (.slice (some ⟨g2, 0, none⟩) (d + 1) c2)
                simpa using this
              · rw [hps.out]
                exact res
              · refine Below.setCell (p := ⟨w1.heap.size, 2, none⟩) ?_ (by show w1.heap.size ≤ w1.heap.size; omega) _
                exact ((bel1.trans (bel2.mono (by omega))).alloc (by omega) _).grown hgr2 (by simp; omega) (fun k' hk' => by have := (ownsRow_type hMown hk').1; omega)
            case measure => simp [intOf]; omega
      · obtain rfl : d = T := by omega
        have hR2 := hR1.keep bel1 hltR
        have c10 := hR2.cell 0
        have c11 := hR2.cell 1
        have c12 := hR2.cell 2
        have f10 := hR2.frozen 0
        have f11 := hR2.frozen 1
        have f12 := hR2.frozen 2
        have c20 := hM1.cell 0
        have c21 := hM1.cell 1
        have c22 := hM1.cell 2
        simp at c10 c11 c12 c20 c21 c22
        go_wp2
        refine bodyPost_ret (v := .tuple #[.agg #[.int .i64 rows.length, .int .i64 d, .slice ma d mcap], .int .i64 0]) (by simp [results, Try.results31, go_sem, c10, c11, c12]) rfl ?_
        rw [hc.out]
        have hown := hMs'.out.done
        refine ⟨_, rfl, ⟨⟨_, by simp, (hown.same ((((SameOn.refl _ _ _).set ?_ _).set ?_ _).set ?_ _)).wide (by omega) (by simp [World.setCell])⟩, Nat.le_refl _⟩, (((below_wt hbel bel1).setCell ?_ _).setCell ?_ _).setCell ?_ _⟩
        all_goals (simp only; omega)
end Go.Proofs.Ytgbhkdoejnkmhaa
