/- ApplyPicks of the project. Conditions: none. -/
import Derived.Test.YtacnafjmcfcalaaAp
namespace Go.Proofs.Ytacnafjmcfcalaa
open Go.RowKit Go.Deep
set_option linter.unusedVariables false

theorem Blk.mvfill {w : World} {b : Nat} {f : Nat → Int} {t : TypeId} (h : Blk w b (mvA f) t) (z0 z1 z2 z3 z4 z5 : Value) : Blk ((((((w.setCell ⟨b, 0, none⟩ z0).setCell ⟨b, 1, none⟩ z1).setCell ⟨b, 2, none⟩ z2).setCell ⟨b, 3, none⟩ z3).setCell ⟨b, 4, none⟩ z4).setCell ⟨b, 5, none⟩ z5) b #[z0, z1, z2, z3, z4, z5] t := by
  have := (((((h.set 0 z0).set 1 z1).set 2 z2).set 3 z3).set 4 z4).set 5 z5
  simpa [mvA] using this
theorem Below.mvfill {B b : Nat} {w w' : World} (h : Below B w w') (hb : B ≤ b) (z0 z1 z2 z3 z4 z5 : Value) : Below B w ((((((w'.setCell ⟨b, 0, none⟩ z0).setCell ⟨b, 1, none⟩ z1).setCell ⟨b, 2, none⟩ z2).setCell ⟨b, 3, none⟩ z3).setCell ⟨b, 4, none⟩ z4).setCell ⟨b, 5, none⟩ z5) :=
  (((((h.setCell (p := ⟨b, 0, none⟩) hb _).setCell (p := ⟨b, 1, none⟩) hb _).setCell (p := ⟨b, 2, none⟩) hb _).setCell (p := ⟨b, 3, none⟩) hb _).setCell (p := ⟨b, 4, none⟩) hb _).setCell (p := ⟨b, 5, none⟩) hb _
theorem Blk.mvother {w : World} {b c : Nat} {cs : Array Value} {t : TypeId} (h : Blk w c cs t) (ne : c ≠ b) (z0 z1 z2 z3 z4 z5 : Value) : Blk ((((((w.setCell ⟨b, 0, none⟩ z0).setCell ⟨b, 1, none⟩ z1).setCell ⟨b, 2, none⟩ z2).setCell ⟨b, 3, none⟩ z3).setCell ⟨b, 4, none⟩ z4).setCell ⟨b, 5, none⟩ z5) c cs t :=
  (((((h.setOther (a := ⟨b, 0, none⟩) ne _).setOther (a := ⟨b, 1, none⟩) ne _).setOther (a := ⟨b, 2, none⟩) ne _).setOther (a := ⟨b, 3, none⟩) ne _).setOther (a := ⟨b, 4, none⟩) ne _).setOther (a := ⟨b, 5, none⟩) ne _

theorem nil_mine' (w : World) (lo : Nat) : IntsMine 2 w lo w.heap.size (.slice none 0 0) [] :=
  ⟨⟨⟨by simp [ints], Or.inl ⟨rfl, rfl⟩⟩, by simp [ints], fun k hk => by simp [Value.ownBlock] at hk⟩, Nat.le_refl _⟩
/-- staying -/
def mvStay (n : Nat) : Nat → Int := fun i => if i < n then (i : Int) else 0
theorem mvStay_set (n k : Nat) : (fun i => if i = k then (k : Int) else mvStay k i) = mvStay (k + 1) := by
  funext i
  unfold mvStay
  by_cases e : i = k
  · subst e; rw [if_pos rfl, if_pos (by omega)]
  · rw [if_neg e]
    by_cases h : i < k
    · rw [if_pos h, if_pos (by omega)]
    · rw [if_neg h, if_neg (by omega)]

set_option maxHeartbeats 4000000 in
theorem stayingMove_any (n : Nat) (w : World) (hn : n ≤ 6) :
    Calls Try.prog 85 #[.int .i64 n] w fun e w' => e = .returned (mvv (mvStay n)) ∧ Below w.heap.size w w' := by
  have B0 := below2 w (.cells #[.int .i64 0, .int .i64 0, .int .i64 0, .int .i64 0, .int .i64 0, .int .i64 0] 100) (.cells #[.int .i64 0, .int .i64 0, .int .i64 0, .int .i64 0, .int .i64 0, .int .i64 0] 100)
  have hR := (Blk.new w #[.int .i64 0, .int .i64 0, .int .i64 0, .int .i64 0, .int .i64 0, .int .i64 0] 100).alloc (.cells #[.int .i64 0, .int .i64 0, .int .i64 0, .int .i64 0, .int .i64 0, .int .i64 0] 100)
  have hT := Blk.new (w.alloc (.cells #[.int .i64 0, .int .i64 0, .int .i64 0, .int .i64 0, .int .i64 0, .int .i64 0] 100)) #[.int .i64 0, .int .i64 0, .int .i64 0, .int .i64 0, .int .i64 0, .int .i64 0] 100
  simp only [World.size_alloc] at hT
  have hzW : ((w.alloc (.cells #[.int .i64 0, .int .i64 0, .int .i64 0, .int .i64 0, .int .i64 0, .int .i64 0] 100)).alloc (.cells #[.int .i64 0, .int .i64 0, .int .i64 0, .int .i64 0, .int .i64 0, .int .i64 0] 100)).heap.size = w.heap.size + 2 := by simp
  go_enter Try.func85, Try.ntmps85
  go_wp2
  generalize (w.alloc _).alloc _ = W at *
  replace hT : Blk W (w.heap.size + 1) (mvA (mvStay 0)) 100 := hT
  replace hR : Blk W w.heap.size (mvA (fun _ => 0)) 100 := hR
  go_loopw [6] (fun i wr => ∃ k : Nat, k ≤ n ∧ i = .int .i64 k ∧ Blk wr (w.heap.size + 1) (mvA (mvStay k)) 100 ∧ Below (w.heap.size + 1) W wr) (fun i _ => n - (intOf i).toNat)
  case atStart => exact ⟨0, Nat.zero_le _, rfl, hT, Below.refl _ _⟩
  case round =>
    obtain ⟨k, hk, rfl, hT1, bel⟩ := hrel
    have hT1' := Lib.hid hT1
    have bel' := Lib.hid bel
    by_cases hlt : k < n
    · have hk6 : k < 6 := by omega
      have q3 := hT1.mv k hk6
      have q4 := hT1.frozen k
      have hset := Lib.hid (mvStay_set n k)
      have i1 : (k : Int) < 6 := by omega
      have i3 : (k : Int) < (n : Int) := by omega
      generalize mvStay k k = z at q3
      clear hT1 bel
      go_wp2
      go_roundw
      case rel =>
        refine ⟨k + 1, by omega, by go_num, ?_, bel'.out.setCell (Nat.le_refl _) _⟩
        have := hT1'.out.set k (.int .i64 k)
        rw [mvA_set _ _ _ hk6, hset.out] at this
        exact this
      case measure => simp [intOf]; omega
    · obtain rfl : k = n := by omega
      have hR1 := hR.keep bel (by omega)
      obtain ⟨r0, r1, r2, r3, r4, r5⟩ := hR1.mv6
      obtain ⟨t0, t1, t2, t3, t4, t5⟩ := hT1.mv6
      have f0 := hR1.frozen 0
      have f1 := hR1.frozen 1
      have f2 := hR1.frozen 2
      have f3 := hR1.frozen 3
      have f4 := hR1.frozen 4
      have f5 := hR1.frozen 5
      have hb5 := Lib.hid (B0.trans (bel.mono (by omega)))
      have hmv := Lib.hid (show mvv (mvStay k) = .agg #[.int .i64 (mvStay k 0), .int .i64 (mvStay k 1), .int .i64 (mvStay k 2), .int .i64 (mvStay k 3), .int .i64 (mvStay k 4), .int .i64 (mvStay k 5)] from rfl)
      generalize mvStay k 0 = z0 at *
      generalize mvStay k 1 = z1 at *
      generalize mvStay k 2 = z2 at *
      generalize mvStay k 3 = z3 at *
      generalize mvStay k 4 = z4 at *
      generalize mvStay k 5 = z5 at *
      clear hT1' bel' hT1 hR1 hT hR bel B0
      go_wp2
      refine bodyPost_ret (v := .agg #[.int .i64 z0, .int .i64 z1, .int .i64 z2, .int .i64 z3, .int .i64 z4, .int .i64 z5]) (by simp [results, Try.results85, go_sem, r0, r1, r2, r3, r4, r5]) rfl ?_
      refine ⟨congrArg Ending.returned hmv.out.symm, (((((hb5.out.setCell ?_ _).setCell ?_ _).setCell ?_ _).setCell ?_ _).setCell ?_ _).setCell ?_ _⟩
      all_goals (simp only; omega)

/-- where states have come, as a move -/
def mvS (xs : List Int) (n : Nat) : Nat → Int := fun i => if i < n then xs.getD i 0 else 0
theorem mvS_zero (n : Nat) : mvS (allS n) n = mvStay n := by
  funext i
  unfold mvS mvStay
  by_cases h : i < n
  · rw [if_pos h, if_pos h]; simp [allS, List.getD, h]
  · rw [if_neg h, if_neg h]
theorem mvS_step (m : Ms) (xs : List Int) (p : Int) (n : Nat) (hl : xs.length = n) : mvThen n (mvS xs n) (pkMv m p) = mvS (byM m xs p) n := by
  funext i
  unfold mvThen mvS
  by_cases h : i < n
  · rw [if_pos h, if_pos h, if_pos h]
    simp [byM, pkMv, mvOf, List.getD, show i < xs.length by omega]
  · rw [if_neg h, if_neg h]
theorem mvS_list (xs : List Int) (n : Nat) (hl : xs.length = n) : (List.range n).map (mvS xs n) = xs := by
  refine List.ext_getElem (by simp [hl]) fun i h1 h2 => ?_
  simp [mvS, List.getD, h2, show i < n by omega]
theorem mvS_bd {xs : List Int} {n : Nat} (hn : n ≤ 6) (hl : xs.length = n) (h : stIn (n : Int) xs) : ∀ s, s < n → 0 ≤ mvS xs n s ∧ mvS xs n s < 6 := fun s hs => by
  unfold mvS
  rw [if_pos hs]
  have := h _ (getD_mem (d := 0) (show s < xs.length by omega))
  omega
theorem pkMvs_getD (m : Ms) (ps : List Int) (k : Nat) (h : k < ps.length) : (pkMvs m ps).getD k mv0 = pkMv m (ps.getD k 0) := by simp [pkMvs, List.getD, h]

set_option maxRecDepth 100000 in
set_option maxHeartbeats 4000000 in
theorem ApplyPicks_impl (cv pv : Value) (c : Ms) (ps : List Int) (w : World) (hv : MsR w cv c) (hp : Ints w pv ps) :
    Calls Try.prog 20 #[cv, pv] w fun e w' => ∃ r, e = .returned (.tuple #[r, .int .i64 (apOf c ps).2]) ∧ IntsMine 2 w' w.heap.size w'.heap.size r (apOf c ps).1 ∧ Below w.heap.size w w' := by
  obtain ⟨v, rfl, hr⟩ := hv
  obtain ⟨n, t, l⟩ := c
  simp only at hr
  obtain ⟨hm, a, cap, rfl⟩ := hr.len
  obtain ⟨hm2, pa, pcap, rfl⟩ := hp.len
  unfold maxLen at hm2
  have B0 := below1 w (.cells #[.int .i64 n, .int .i64 t, .slice a l.length cap] 26)
  have hB := Blk.new w #[.int .i64 n, .int .i64 t, .slice a l.length cap] 26
  have hp' := hp.keep B0
  have hrp := readPicks_any (.agg #[.int .i64 n, .int .i64 t, .slice a l.length cap]) _ ⟨n, t, l⟩ ps _ ⟨_, rfl, hr.keep B0⟩ hp'
  by_cases hc : askC ⟨n, t, l⟩ ps = 0
  · have hres := Lib.hid (show apOf ⟨n, t, l⟩ ps = (runM ⟨n, t, l⟩ (allS n.toNat) ps ps.length, 0) by unfold apOf; rw [if_pos hc])
    obtain ⟨ok, pin, p200⟩ := askC_zero hc
    rw [hc] at hrp
    obtain ⟨⟨n1, n2⟩, _⟩ := msOk_all ok
    simp only at n1 n2
    obtain ⟨N, rfl⟩ : ∃ N : Nat, n = N := ⟨n.toNat, by omega⟩
    simp only [Int.toNat_natCast] at hres
    have hrs := Lib.hid (fun k hk => runM_succ ⟨(N : Int), t, l⟩ (allS N) ps k hk)
    have hrl := Lib.hid (fun k => (runM_length ⟨(N : Int), t, l⟩ (allS N) ps k).trans (allS_length N))
    have hri := Lib.hid (fun k hk => runM_in ok (allS_in N) pin k hk)
    have hr0 := Lib.hid (show mvS (runM ⟨(N : Int), t, l⟩ (allS N) ps 0) N = mvStay N from mvS_zero N)
    have hms := Lib.hid (pkMvs_getD ⟨(N : Int), t, l⟩ ps)
    have hml := Lib.hid (show (pkMvs ⟨(N : Int), t, l⟩ ps).length = ps.length by simp [pkMvs])
    clear hc ok pin
    go_enter Try.func20, Try.ntmps20
    go_wp2_with fail
    refine hrp.mono ?_
    rintro e w1 ⟨ma, mk, mcap, rfl, b1, hmv0⟩
    obtain ⟨rfl, hmv⟩ := hmv0 (by first | rfl | trivial)
    have hB1 := hB.keep b1 hB.lt
    have hb1 := below_wt B0 b1
    have hz1 := hb1.size
    have hltB := hB1.lt
    have hmv' := Lib.hid hmv
    clear b1 B0 hrp hr hp hp' hmv0 hmv
    have q0 := hB1.cell 0
    simp at q0
    go_upto_region 4 with fail
    go_cut [8, 9] (fun s1 s2 wx => ∃ (B C : Nat), s1 = .pointer (some ⟨B, 0, none⟩) ∧ s2 = .func (.func 157) #[] #[.pointer (some ⟨C, 0, none⟩)] ∧ Below w1.heap.size w1 wx ∧ Blk wx B (mvA (mvStay N)) 100 ∧ Blk wx C #[.int .i64 N] 2 ∧ w1.heap.size ≤ B ∧ w1.heap.size ≤ C ∧ B ≠ C)
    case first =>
      have hst := Lib.hid (show ∀ W, Calls Try.prog 85 #[.int .i64 N] W fun e w' => e = .returned (.agg #[.int .i64 (mvStay N 0), .int .i64 (mvStay N 1), .int .i64 (mvStay N 2), .int .i64 (mvStay N 3), .int .i64 (mvStay N 4), .int .i64 (mvStay N 5)]) ∧ Below W.heap.size W w' from fun W => stayingMove_any N W (by omega))
      have hq := Lib.hid (show ∀ u, Below w1.heap.size w1 u → u.cell? ⟨w.heap.size, 0, none⟩ = some (.int .i64 N) from fun u hu => (hu.cell (p := ⟨w.heap.size, 0, none⟩) hltB).trans q0)
      have hcm := Lib.hid (show ∀ W : World, Calls Try.prog 86 #[.int .i64 N] W fun e w' => ∃ C, e = .returned (.func (.func 157) #[] #[.pointer (some ⟨C, 0, none⟩)]) ∧ Blk w' C #[.int .i64 N] 2 ∧ W.heap.size ≤ C ∧ Below W.heap.size W w' from fun W => (composer_any N W).mono fun _ _ ⟨h1, h2⟩ => ⟨_, h1, by rw [h2]; exact Blk.new _ _ _, Nat.le_refl _, by rw [h2]; exact below1 _ _⟩)
      go_region_held3 (fun w' => w'.cell? ⟨w.heap.size, 0, none⟩ = some (.int .i64 N)) (first | go_keep | exact hq.out _ (Below.mvfill bz2 (by omega) _ _ _ _ _ _))
        (first | (have _t := tokA; go_at_call 86; (with_reducible refine (hcm.out u1).mono ?_); rintro e u2 ⟨C, rfl, CB, hC, bb2⟩; have bz2 : Below w1.heap.size w1 u2 := below_wt bz bb2; have q0 := hq.out u2 bz2; have hsb := bb2.size; have hsz := bz.size; (try (replace ZB := ZB.step bb2; obtain ⟨zc0, zc1, zc2, zc3, zc4, zc5⟩ := ZB.mv6; have zf0 := ZB.frozen 0; have zf1 := ZB.frozen 1; have zf2 := ZB.frozen 2; have zf3 := ZB.frozen 3; have zf4 := ZB.frozen 4; have zf5 := ZB.frozen 5))) | (have _t := tokA; go_at_call 86; (with_reducible refine (hcm.out (u1.alloc (.cells #[.int .i64 0, .int .i64 0, .int .i64 0, .int .i64 0, .int .i64 0, .int .i64 0] 100))).mono ?_); rintro e u2 ⟨C, rfl, CB, hC, bb2⟩; have bz2 : Below w1.heap.size w1 u2 := below_wt (below_wt bz (below1 u1 (.cells #[.int .i64 0, .int .i64 0, .int .i64 0, .int .i64 0, .int .i64 0, .int .i64 0] 100))) bb2; have q0 := hq.out u2 bz2; have hsz := bz.size; have ZB : Blk u2 u1.heap.size (mvA (fun _ => 0)) 100 := (show Blk (u1.alloc (.cells #[.int .i64 0, .int .i64 0, .int .i64 0, .int .i64 0, .int .i64 0, .int .i64 0] 100)) u1.heap.size #[.int .i64 0, .int .i64 0, .int .i64 0, .int .i64 0, .int .i64 0, .int .i64 0] 100 from Blk.new u1 #[.int .i64 0, .int .i64 0, .int .i64 0, .int .i64 0, .int .i64 0, .int .i64 0] 100).step bb2; have hsb : u1.heap.size + 1 ≤ C := (by simpa using hC); obtain ⟨zc0, zc1, zc2, zc3, zc4, zc5⟩ := ZB.mv6; have zf0 := ZB.frozen 0; have zf1 := ZB.frozen 1; have zf2 := ZB.frozen 2; have zf3 := ZB.frozen 3; have zf4 := ZB.frozen 4; have zf5 := ZB.frozen 5) | (go_at_call 85; (with_reducible refine (hst.out w1.drew).mono ?_); rintro e u1 ⟨rfl, bb1⟩; have bz : Below w1.heap.size w1 u1 := below_wt (below_drew w1) bb1; have q0 := hq.out u1 bz; have tokA : True := trivial) | (go_at_call 85; (with_reducible refine (hst.out ((w1.alloc (.cells #[.int .i64 0, .int .i64 0, .int .i64 0, .int .i64 0, .int .i64 0, .int .i64 0] 100)).drew)).mono ?_); rintro e u1 ⟨rfl, bb1⟩; have bz : Below w1.heap.size w1 u1 := below_wt (below1 w1 (.cells #[.int .i64 0, .int .i64 0, .int .i64 0, .int .i64 0, .int .i64 0, .int .i64 0] 100)).drew bb1; have q0 := hq.out u1 bz; have ZB : Blk u1 w1.heap.size (mvA (fun _ => 0)) 100 := (show Blk ((w1.alloc (.cells #[.int .i64 0, .int .i64 0, .int .i64 0, .int .i64 0, .int .i64 0, .int .i64 0] 100)).drew) w1.heap.size #[.int .i64 0, .int .i64 0, .int .i64 0, .int .i64 0, .int .i64 0, .int .i64 0] 100 from Blk.new w1 #[.int .i64 0, .int .i64 0, .int .i64 0, .int .i64 0, .int .i64 0, .int .i64 0] 100).step bb1; have hzB : w1.heap.size < u1.heap.size := ZB.lt; obtain ⟨zc0, zc1, zc2, zc3, zc4, zc5⟩ := ZB.mv6; have zf0 := ZB.frozen 0; have zf1 := ZB.frozen 1; have zf2 := ZB.frozen 2; have zf3 := ZB.frozen 3; have zf4 := ZB.frozen 4; have zf5 := ZB.frozen 5; have tokA : True := trivial))
      all_goals (go_wp2_with fail; go_meet)
      · exact ⟨_, _, rfl, rfl, below_wt bz2 (below1 _ _), Blk.new _ _ _, CB.step (below1 _ _), by omega, by omega, by have := CB.lt; omega⟩
      · exact ⟨_, _, rfl, rfl, Below.mvfill bz2 (by omega) _ _ _ _ _ _, Blk.mvfill ZB _ _ _ _ _ _, Blk.mvother CB (by omega) _ _ _ _ _ _, by omega, by omega, by omega⟩
      · exact ⟨_, _, rfl, rfl, Below.mvfill bz2 (by omega) _ _ _ _ _ _, Blk.mvfill ZB _ _ _ _ _ _, Blk.mvother CB (by omega) _ _ _ _ _ _, by omega, by omega, by omega⟩
    case rest =>
      obtain ⟨B, C, rfl, rfl, bel0, hBB, hCC, hBz, hCz, hne⟩ := hcut
      generalize wc = V at *
      have bel0' := Lib.hid bel0
      have hBB0 : Blk V B (mvA (mvS (runM ⟨(N : Int), t, l⟩ (allS N) ps 0) N)) 100 := by rw [hr0.out]; exact hBB
      clear bel0 hBB
      go_wp2
      go_loopw [29] (fun i wr => ∃ k : Nat, k ≤ ps.length ∧ i = .int .i64 k ∧ Blk wr B (mvA (mvS (runM ⟨(N : Int), t, l⟩ (allS N) ps k) N)) 100 ∧ Blk wr C #[.int .i64 N] 2 ∧ Below w1.heap.size w1 wr) (fun i _ => ps.length - (intOf i).toNat)
      case atStart => exact ⟨0, Nat.zero_le _, rfl, hBB0, hCC, bel0'.out⟩
      case round =>
        obtain ⟨k, hk, rfl, hBk, hCk, bel⟩ := hrel
        by_cases hlt : k < ps.length
        · obtain ⟨_, ma', mcap', hvv, hcm⟩ := hmv'.out.keep bel
          simp only [Value.slice.injEq] at hvv
          obtain ⟨rfl, -, rfl⟩ := hvv
          obtain ⟨mb, mo, rfl, hm6⟩ := hcm k (by rw [hml.out]; exact hlt)
          have e0 := hm6 0 (by decide)
          have e1 := hm6 1 (by decide)
          have e2 := hm6 2 (by decide)
          have e3 := hm6 3 (by decide)
          have e4 := hm6 4 (by decide)
          have e5 := hm6 5 (by decide)
          rw [hms.out k hlt] at e0 e1 e2 e3 e4 e5
          rw [Nat.add_zero] at e0
          have hlk := hrl.out k
          have hst := Lib.hid (mvS_step ⟨(N : Int), t, l⟩ (runM ⟨(N : Int), t, l⟩ (allS N) ps k) (ps.getD k 0) N hlk)
          have hrk := Lib.hid (hrs.out k hlt)
          have hbd := mvS_bd (by omega) hlk (hri.out k hk)
          generalize hf : mvS (runM ⟨(N : Int), t, l⟩ (allS N) ps k) N = f at *
          generalize hg : pkMv ⟨(N : Int), t, l⟩ (ps.getD k 0) = g at *
          obtain ⟨p0, p1, p2, p3, p4, p5⟩ := (hBk.alloc (.cells #[.int .i64 (g 0), .int .i64 (g 1), .int .i64 (g 2), .int .i64 (g 3), .int .i64 (g 4), .int .i64 (g 5)] 100)).mv6
          have hC2 := hCk.alloc (.cells #[.int .i64 (g 0), .int .i64 (g 1), .int .i64 (g 2), .int .i64 (g 3), .int .i64 (g 4), .int .i64 (g 5)] 100)
          have hcomp := Lib.hid (show Calls Try.prog 157 #[.agg #[.int .i64 (f 0), .int .i64 (f 1), .int .i64 (f 2), .int .i64 (f 3), .int .i64 (f 4), .int .i64 (f 5)], .agg #[.int .i64 (g 0), .int .i64 (g 1), .int .i64 (g 2), .int .i64 (g 3), .int .i64 (g 4), .int .i64 (g 5)], .pointer (some ⟨C, 0, none⟩)] (wr.alloc (.cells #[.int .i64 (g 0), .int .i64 (g 1), .int .i64 (g 2), .int .i64 (g 3), .int .i64 (g 4), .int .i64 (g 5)] 100)) fun e w' => e = .returned (.agg #[.int .i64 (mvThen N f g 0), .int .i64 (mvThen N f g 1), .int .i64 (mvThen N f g 2), .int .i64 (mvThen N f g 3), .int .i64 (mvThen N f g 4), .int .i64 (mvThen N f g 5)]) ∧ Below (wr.alloc (.cells #[.int .i64 (g 0), .int .i64 (g 1), .int .i64 (g 2), .int .i64 (g 3), .int .i64 (g 4), .int .i64 (g 5)] 100)).heap.size (wr.alloc (.cells #[.int .i64 (g 0), .int .i64 (g 1), .int .i64 (g 2), .int .i64 (g 3), .int .i64 (g 4), .int .i64 (g 5)] 100)) w' from
            compose_any N f g C _ (hC2.cell 0) (by omega) hbd)
          have hcf := cf_cmp
          have hsz := bel.size
          have hltk := hBk.lt
          have bA := Lib.hid (below1 wr (.cells #[.int .i64 (g 0), .int .i64 (g 1), .int .i64 (g 2), .int .i64 (g 3), .int .i64 (g 4), .int .i64 (g 5)] 100))
          have hlen : (k : Int) < ((pkMvs ⟨(N : Int), t, l⟩ ps).length : Int) := by rw [hml.out]; omega
          have hlen2 : (k : Int) < (ps.length : Int) := by omega
          have hBk' := Lib.hid hBk
          have hC2' := Lib.hid hC2
          have bel' := Lib.hid bel
          clear hm6 hcm hBk hC2 hbd bel
          go_wp2_with fail
          refine hcomp.out.mono ?_
          rintro e w2 ⟨rfl, b2⟩
          have hBz2 := (hBk'.out.alloc (.cells #[.int .i64 (g 0), .int .i64 (g 1), .int .i64 (g 2), .int .i64 (g 3), .int .i64 (g 4), .int .i64 (g 5)] 100)).keep b2 (by simp; omega)
          have hCz2 := Lib.hid (hC2'.out.keep b2 hC2'.out.lt)
          obtain ⟨r0, r1, r2, r3, r4, r5⟩ := hBz2.mv6
          have f0 := hBz2.frozen 0
          have f1 := hBz2.frozen 1
          have f2 := hBz2.frozen 2
          have f3 := hBz2.frozen 3
          have f4 := hBz2.frozen 4
          have f5 := hBz2.frozen 5
          have hBz3 := Lib.hid hBz2
          have hb2 := Lib.hid (below_wt bA.out b2)
          clear hBz2 b2 p0 p1 p2 p3 p4 p5
          go_wp2
          go_roundw
          case rel =>
            refine ⟨k + 1, by omega, by go_num, ?_, Blk.mvother hCz2.out (by omega) _ _ _ _ _ _, Below.mvfill (bel'.out.trans (hb2.out.mono hsz)) (by omega) _ _ _ _ _ _⟩
            rw [hrk.out, ← hst.out]
            exact Blk.mvfill hBz3.out _ _ _ _ _ _
          case measure => simp [intOf]; omega
        · obtain rfl : k = ps.length := by omega
          have hlk := hrl.out ps.length
          have hml2 : ¬ ((ps.length : Int) < (ps.length : Int)) := by omega
          have hBk' := Lib.hid hBk
          obtain ⟨p0, p1, p2, p3, p4, p5⟩ := hBk.mv6
          have hB3 := hB1.keep bel hltB
          have q1 := hB3.cell 0
          simp at q1
          have hli := Lib.hid (show Calls Try.prog 87 #[.agg #[.int .i64 (mvS (runM ⟨(N : Int), t, l⟩ (allS N) ps ps.length) N 0), .int .i64 (mvS (runM ⟨(N : Int), t, l⟩ (allS N) ps ps.length) N 1), .int .i64 (mvS (runM ⟨(N : Int), t, l⟩ (allS N) ps ps.length) N 2), .int .i64 (mvS (runM ⟨(N : Int), t, l⟩ (allS N) ps ps.length) N 3), .int .i64 (mvS (runM ⟨(N : Int), t, l⟩ (allS N) ps ps.length) N 4), .int .i64 (mvS (runM ⟨(N : Int), t, l⟩ (allS N) ps ps.length) N 5)], .int .i64 N] wr fun e w' => ∃ rv, e = .returned rv ∧ w'.ownsRow wr.heap.size 2 1 rv N (ints ((List.range N).map (mvS (runM ⟨(N : Int), t, l⟩ (allS N) ps ps.length) N))) ∧ Below wr.heap.size wr w' from
            list_any N (mvS (runM ⟨(N : Int), t, l⟩ (allS N) ps ps.length) N) wr (by omega) (by omega))
          rw [mvS_list _ _ hlk] at hli
          have hsz := bel.size
          clear hBk
          go_wp2_with fail
          refine hli.out.mono ?_
          rintro e w2 ⟨rv, rfl, hown, b2⟩
          obtain ⟨g, c, rfl⟩ := own2_shape hown (by omega)
          go_wp2
          go_ret2
          rw [hres.out]
          exact ⟨_, rfl, ⟨by
            have h := Own.of hown (Nat.le_refl _)
            simp only [ints] at h
            exact h.wide (by omega) (Nat.le_refl _), Nat.le_refl _⟩, below_wt (below_wt hb1 bel) b2⟩
  · have hres := Lib.hid (show apOf ⟨n, t, l⟩ ps = ([], askC ⟨n, t, l⟩ ps) by unfold apOf; rw [if_neg hc])
    generalize askC ⟨n, t, l⟩ ps = code at *
    have hne : (code != 0) = true := by simpa using hc
    go_enter Try.func20, Try.ntmps20
    go_wp2_with fail
    refine hrp.mono ?_
    rintro e w1 ⟨ma, mk, mcap, rfl, b1, hmv0⟩
    clear hmv0
    go_wp2
    go_ret2
    rw [hres.out]
    exact ⟨_, rfl, nil_mine' _ _, below_wt B0 b1⟩
end Go.Proofs.Ytacnafjmcfcalaa
