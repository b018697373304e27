/- LineOrder of both sides. Conditions: none. -/
import Derived.Test.YtgbhkdoejnkmhaaBools
import Derived.Test.YtgbhkdoejnkmhaaMbd
namespace Go.Proofs.Ytgbhkdoejnkmhaa
open Go.RowKit Go.Deep
set_option linter.unusedVariables false

theorem BMade.stepL {w w1 w2 : World} {lo hi : Nat} {v v' rv : Value} {rvs : List Value} {yss : List (List Bool)} {y : List Bool} (h : BMade w lo hi v rvs yss) (hb : Below w.heap.size w w1)
    (hrow : Own w1 w.heap.size w1.heap.size 4 rv (bools y)) (hlo : lo ≤ w.heap.size) (o : Obj) (hown : w2.ownsRow lo 114 1 v' (yss.length + 1) (rvs ++ [rv])) (hg : (w1.alloc o).grownBy w2 v.ownBlock) :
    BMade w2 lo w2.heap.size v' (rvs ++ [rv]) (yss ++ [y]) := by
  have hl := h.len
  have hs2 : w1.heap.size + 1 ≤ w2.heap.size := by have := hg.size; simpa using this
  have hs3 : w2.heap.size = w2.heap.size := rfl
  -- a row that lay there, or the new one, is as it was
  have keep : ∀ (lo' hi' : Nat) (x : Value) (xs : List Value), lo ≤ lo' → hi' ≤ w1.heap.size → Own w1 lo' hi' 4 x xs → Own w2 lo' hi' 4 x xs := by
    intro lo' hi' x xs h1 h2 hx
    have hv1 : w1.ownsRow lo 114 1 v yss.length rvs := by
      refine ⟨h.own.1, ?_⟩
      rcases h.own.2 with hn | ⟨g, cap, cur, rfl, hgg, hh, r⟩
      · exact Or.inl hn
      · exact Or.inr ⟨g, cap, cur, rfl, hgg, by rw [hb.block g (Array.getElem?_eq_some_iff.1 hh).1]; exact hh, r⟩
    refine hx.sameBlk fun k hk hxk => ?_
    have hne : v.ownBlock ≠ some k := fun hv => types_apart hv1 hx.1 (by decide) hv hxk
    have hlk : lo ≤ k := by have := (hx.1.lt k hxk).1; omega
    rw [hg.block k (by simp; omega) (fun e => hne e.symm), Below.heap_alloc _ _ _ hk]
  have hn : (rvs ++ [rv]).getD yss.length undef = rv := by simp [List.getD, ← hl]
  have ho : ∀ i, i < yss.length → (rvs ++ [rv]).getD i undef = rvs.getD i undef := fun i hi => by simp only [List.getD]; rw [List.getElem?_append_left (by omega)]
  have hyn : (yss ++ [y]).getD yss.length [] = y := by simp [List.getD]
  have hyo : ∀ i, i < yss.length → (yss ++ [y]).getD i [] = yss.getD i [] := fun i hi => by simp only [List.getD]; rw [List.getElem?_append_left (by omega)]
  have old : ∀ i, i < yss.length → Own w1 lo hi 4 (rvs.getD i undef) (bools (yss.getD i [])) := fun i hi => (h.rows i hi).keep h.size hb
  have apart : ∀ i, i < yss.length → ∀ k, (rvs.getD i undef).ownBlock = some k → k < w.heap.size := fun i hi k hk => by have := (h.rows i hi).2.2 k hk; have := h.size; omega
  have fresh : ∀ k, rv.ownBlock = some k → w.heap.size ≤ k := fun k hk => (hrow.1.lt k hk).1
  refine ⟨?_, fun i _ => ?_, fun i j _ hj hne k hk => ?_, Nat.le_refl _⟩
  · rw [List.length_append]
    exact hown
  · rename_i hii
    rw [List.length_append] at hii
    simp only [List.length_cons, List.length_nil] at hii
    by_cases e : i < yss.length
    · rw [ho i e, hyo i e]
      exact (keep lo hi _ _ (Nat.le_refl _) (by have := h.size; have := hb.size; omega) (old i e)).wide (Nat.le_refl _) (by have := h.size; have := hb.size; omega)
    · obtain rfl : i = yss.length := by omega
      rw [hn, hyn]
      exact (keep _ _ _ _ hlo (Nat.le_refl _) hrow).wide hlo (by omega)
  · rename_i hii
    rw [List.length_append] at hii hj
    simp only [List.length_cons, List.length_nil] at hii hj
    by_cases e : i < yss.length
    · rw [ho i e] at hk
      by_cases e' : j < yss.length
      · rw [ho j e']; exact h.far i j e e' hne k hk
      · obtain rfl : j = yss.length := by omega
        rw [hn]; intro hc; have := fresh k hc; have := apart i e k hk; omega
    · obtain rfl : i = yss.length := by omega
      rw [hn] at hk
      by_cases e' : j < yss.length
      · rw [ho j e']; intro hc; have := fresh k hk; have := apart j e' k hc; omega
      · omega

theorem Try.infoB : (Try.prog.info? 4).map (fun i => (i.zero, i.size, i.bytes)) = some (some (.bool false), 1, 1) := by kernel_rfl
theorem Try.infoBR : (Try.prog.info? 114).map (fun i => (i.zero, i.size, i.bytes)) = some (some (.slice none 0 0), 1, 24) := by kernel_rfl
def lineRow (n s : Nat) : List Bool := (List.range n).map fun (t : Nat) => decide (s ≤ t)
def lineRows (n : Nat) : List (List Bool) := (List.range n).map (lineRow n)
def lineOf (n : Int) : List (List Bool) × Int := if inB n 1 6 = true then (lineRows n.toNat, 0) else ([], 2)

set_option maxRecDepth 100000 in
set_option maxHeartbeats 4000000 in
theorem l05Line_any (n : Nat) (w : World) (h6 : n ≤ 6) :
    Calls Try.prog 107 #[.int .i64 n] w fun e w' => ∃ v, e = .returned v ∧ OwnBR 114 4 w' w.heap.size w'.heap.size v (lineRows n) ∧ Below w.heap.size w w' := by
  obtain ⟨i0, hi, hz0, hz1, hz2⟩ := info_parts Try.infoB
  have hi' := Lib.hid hi; have hza := Lib.hid hz0; have hzb := Lib.hid hz1; have hzc := Lib.hid hz2
  obtain ⟨i1, ki, kz0, kz1, kz2⟩ := info_parts Try.infoBR
  have ki' := Lib.hid ki; have kz0' := Lib.hid kz0; have kz1' := Lib.hid kz1; have kz2' := Lib.hid kz2
  clear hi hz0 hz1 hz2 ki kz0 kz1 kz2
  have own0 := World.ownsRow_made (e := 114) (size := 1) (base := w.heap.size) w #[] 0 (Nat.le_refl _) (by unfold maxLen; omega) (by simp)
  have hM0 : BMade (w.alloc (.cells #[] 114)) w.heap.size (w.alloc (.cells #[] 114)).heap.size (.slice (some ⟨w.heap.size, 0, none⟩) 0 0) [] [] :=
    ⟨own0, fun i hi => by simp at hi, fun i j hi => by simp at hi, Nat.le_refl _⟩
  have hM0' := Lib.hid hM0
  clear own0 hM0
  go_enter Try.func107, Try.ntmps107
  go_wp2
  go_loopw [3, 4] (fun v i wr => ∃ (s : Nat) (a : Option Addr) (cap : Nat) (rvs : List Value), s ≤ n ∧ i = .int .i64 s ∧ v = .slice a s cap ∧ BMade wr w.heap.size wr.heap.size (.slice a s cap) rvs ((List.range s).map (lineRow n)) ∧ Below w.heap.size w wr) (fun _ i _ => n - (intOf i).toNat)
  case atStart => exact ⟨0, _, 0, [], Nat.zero_le _, rfl, rfl, hM0'.out, below1 _ _⟩
  case round =>
    obtain ⟨wo, rfl⟩ : ∃ wo : World, wo = wr := ⟨_, rfl⟩
    obtain ⟨s, a, cap, rvs, hs, rfl, rfl, hM, bel1⟩ := hrel
    have hM' := Lib.hid hM
    clear hM
    by_cases hlt : s < n
    · have hsn : (s : Int) < (n : Int) := by omega
      have ownr := World.ownsRow_made (e := 4) (size := 1) (base := wo.heap.size) wo #[] 0 (Nat.le_refl _) (by unfold maxLen; omega) (by simp)
      go_wp2
      have bX := below1 wo (.cells #[] 4)
      generalize wo.alloc (.cells #[] 4) = X at *
      go_loopw [5, 6] (fun v i wr => ∃ (t : Nat) (a2 : Option Addr) (cap2 : Nat), t ≤ n ∧ i = .int .i64 t ∧ v = .slice a2 t cap2 ∧ wr.ownsRow wo.heap.size 4 1 (.slice a2 t cap2) t (bools ((List.range t).map fun (t : Nat) => decide (s ≤ t))) ∧ Below wo.heap.size wo wr) (fun _ i _ => n - (intOf i).toNat)
      case atStart => exact ⟨0, _, 0, Nat.zero_le _, rfl, rfl, ownr, bX⟩
      case round =>
        obtain ⟨t, a2, cap2, ht, rfl, rfl, hown, bel2⟩ := hrel
        by_cases htlt : t < n
        · have htn : (t : Int) < (n : Int) := by omega
          have hts := Lib.hid (range_map_succ (fun (t : Nat) => decide (s ≤ t)) t)
          have hsz := bel2.size
          go_wp2_with (at_builtin; (refine wpList_append_own _ rfl _ _ 114 rfl wo.heap.size 4 i0 (.bool false) 1 1 Try.underlying114 hi'.out hza.out hzb.out hzc.out rfl (by decide) _ _ _ rfl (hown.alloc _) ⟨wr.heap.size, 0, none⟩ 1 1 [.bool (decide (s ≤ t))] rfl rfl (one_new _ _ _) (by simp [Value.oneCell']) (by unfold maxLen; omega) (by omega) (by simp; omega) ?_); intro v' w2 hown2 hgr2 _; obtain ⟨g2, c2, rfl⟩ := own2_shape hown2 (by omega))
          go_roundw
          case rel =>
            refine ⟨t + 1, some ⟨g2, 0, none⟩, c2, by omega, by go_num, rfl, ?_, (bel2.alloc hsz _).grown hgr2 (by simp; omega) (fun k' hk' => (hown.lt k' hk').1)⟩
            rw [hts.out]
            simpa [bools] using hown2
          case measure => simp [intOf]; omega
        · obtain rfl : t = n := by omega
          have hM := hM'.out
          have hMown : wr.ownsRow w.heap.size 114 1 (.slice a s cap) s rvs := by
            have := ownsRow_belowK (B := 0) hM.own bel2
            simpa using this
          have hz1 := bel1.size
          have hz2' := bel2.size
          have hrow' := Lib.hid (show Own wr wo.heap.size wr.heap.size 4 (.slice a2 t cap2) (bools (lineRow t s)) from Own.of hown (Nat.le_refl _))
          have hps := Lib.hid (range_map_succ (lineRow t) s)
          clear hM hown
          go_wp2_with (at_builtin; (refine wpList_append_own _ rfl _ _ 58 rfl w.heap.size 114 i1 (.slice none 0 0) 1 24 Try.underlying58 ki'.out kz0'.out kz1'.out kz2'.out rfl (by decide) _ _ _ rfl (hMown.alloc _) ⟨wr.heap.size, 0, none⟩ 1 1 [.slice a2 t cap2] rfl rfl (one_new _ _ _) (by simp [Value.oneCell']) (by unfold maxLen; omega) (by omega) (by simp; omega) ?_); intro v' w2 hown2 hgr2 _; obtain ⟨g2, c2, rfl⟩ := own2_shape hown2 (by omega))
          go_roundw
          case rel =>
            have res := BMade.stepL (v' := .slice (some ⟨g2, 0, none⟩) (s + 1) c2) hM'.out bel2 hrow'.out (by omega) _ (by simpa using hown2) hgr2
            refine ⟨s + 1, some ⟨g2, 0, none⟩, c2, rvs ++ [.slice a2 t cap2], by omega, by go_num, rfl, ?_, ((bel1.trans (bel2.mono hz1)).alloc (by omega) _).grown hgr2 (by simp; omega) (fun k' hk' => (hMown.lt k' hk').1)⟩
            rw [hps.out]
            exact res
          case measure => simp [intOf]; omega
    · obtain rfl : s = n := by omega
      go_wp2
      go_ret
      exact ⟨_, rfl, hM'.out.done, bel1⟩

theorem nil_br (w : World) (lo : Nat) : BRMine 114 4 w lo w.heap.size (.slice none 0 0) [] :=
  ⟨⟨[], ⟨⟨by simp, Or.inl ⟨rfl, rfl⟩⟩, by simp, fun k hk => by simp [Value.ownBlock] at hk⟩, rfl, fun i hi => by simp at hi, fun i hi => by simp at hi, fun i j hi => by simp at hi⟩, Nat.le_refl _⟩

set_option maxHeartbeats 4000000 in
theorem LineOrder_spec (n : Int) (w : World) :
    Calls Try.prog 52 #[.int .i64 n] w fun e w' => ∃ v, e = .returned (.tuple #[v, .int .i64 (lineOf n).2]) ∧ BRMine 114 4 w' w.heap.size w'.heap.size v (lineOf n).1 ∧ Below w.heap.size w w' := by
  have hin := l00In_any n 1 6 w
  rcases hok : inB n 1 6 with _ | _
  · rw [hok] at hin
    have hr := Lib.hid (show lineOf n = ([], 2) by unfold lineOf; rw [hok]; rfl)
    have own0 := World.ownsRow_made (e := 114) (size := 1) (base := w.heap.size) w #[] 0 (Nat.le_refl _) (by unfold maxLen; omega) (by simp)
    clear hok
    go_enter Try.func52, Try.ntmps52
    go_wp2_with fail
    refine hin.mono ?_
    rintro e w' ⟨rfl, rfl⟩
    go_wp2
    go_ret2
    rw [hr.out]
    have hM0 : BMade (w.alloc (.cells #[] 114)) w.heap.size (w.alloc (.cells #[] 114)).heap.size (.slice (some ⟨w.heap.size, 0, none⟩) 0 0) [] [] :=
      ⟨own0, fun i hi => by simp at hi, fun i j hi => by simp at hi, Nat.le_refl _⟩
    exact ⟨_, rfl, ⟨hM0.done, Nat.le_refl _⟩, below1 _ _⟩
  · rw [hok] at hin
    have hr := Lib.hid (show lineOf n = (lineRows n.toNat, 0) by unfold lineOf; rw [hok]; rfl)
    obtain ⟨a, b⟩ := inB_iff.1 hok
    obtain ⟨N, rfl⟩ : ∃ N : Nat, n = N := ⟨n.toNat, by omega⟩
    have hl := Lib.hid (fun W => l05Line_any N W (by omega))
    clear hok
    go_enter Try.func52, Try.ntmps52
    go_wp2_with fail
    refine hin.mono ?_
    rintro e w' ⟨rfl, rfl⟩
    go_wp2_with fail
    refine (hl.out _).mono ?_
    rintro e w2 ⟨v, rfl, ho, b2⟩
    go_wp2
    go_ret2
    rw [hr.out]
    exact ⟨v, rfl, ⟨ho, Nat.le_refl _⟩, b2⟩

theorem make_bools (n : Nat) (hb : n ≤ 1000000) (w : World) :
    (Instr.makeSlice 114 (.int .i64 0) (.int .i64 (n : Int))).run Try.prog w = .ok (.slice (some ⟨w.heap.size, 0, none⟩) 0 n) (w.alloc (.cells (madeCells #[.bool false] n) 4)) := by
  obtain ⟨i0, hi, hz0, hz1, hz2⟩ := info_parts Try.infoB
  have := run_make (P := Try.prog) w 114 4 i0 (.bool false) Try.underlying114 hi hz0 .i64 .i64 0 (n : Int) (Int.le_refl _) (by omega) (by rw [hz2]; omega) (by omega)
  rw [this, hz1, Int.toNat_natCast]
  simp [Value.cells]

set_option maxRecDepth 100000 in
set_option maxHeartbeats 4000000 in
theorem LineOrder_impl (n : Int) (w : World) :
    Calls Try.prog 53 #[.int .i64 n] w fun e w' => ∃ v, e = .returned (.tuple #[v, .int .i64 (lineOf n).2]) ∧ BRMine 114 4 w' w.heap.size w'.heap.size v (lineOf n).1 ∧ Below w.heap.size w w' := by
  have hin := isIn_any n 1 6 w
  rcases hok : inB n 1 6 with _ | _
  · rw [hok] at hin
    have hr := Lib.hid (show lineOf n = ([], 2) by unfold lineOf; rw [hok]; rfl)
    clear hok
    go_enter Try.func53, Try.ntmps53
    go_wp2_with fail
    refine hin.mono ?_
    rintro e w' ⟨rfl, rfl⟩
    go_wp2
    go_ret2
    rw [hr.out]
    exact ⟨_, rfl, nil_br _ _, Below.refl _ _⟩
  · rw [hok] at hin
    have hr := Lib.hid (show lineOf n = (lineRows n.toNat, 0) by unfold lineOf; rw [hok]; rfl)
    obtain ⟨nn1, nn2⟩ := inB_iff.1 hok
    obtain ⟨n, rfl⟩ : ∃ N : Nat, n = N := ⟨n.toNat, by omega⟩
    have h6 : n ≤ 6 := by omega
    have hmk' := Lib.hid (make_bools n (by omega))
    clear hok
    obtain ⟨i0, hi, hz0, hz1, hz2⟩ := info_parts Try.infoB
    have hi' := Lib.hid hi; have hza := Lib.hid hz0; have hzb := Lib.hid hz1; have hzc := Lib.hid hz2
    obtain ⟨i1, ki, kz0, kz1, kz2⟩ := info_parts Try.infoBR
    have ki' := Lib.hid ki; have kz0' := Lib.hid kz0; have kz1' := Lib.hid kz1; have kz2' := Lib.hid kz2
    clear hi hz0 hz1 hz2 ki kz0 kz1 kz2
    go_enter Try.func53, Try.ntmps53
    go_wp2_with fail
    refine hin.mono ?_
    rintro e w' ⟨rfl, rfl⟩
    go_wp2
    go_loopw [4, 12] (fun v i wr => ∃ (s : Nat) (a : Option Addr) (cap : Nat) (rvs : List Value), s ≤ n ∧ i = .int .i64 s ∧ v = .slice a s cap ∧ BMade wr w.heap.size wr.heap.size (.slice a s cap) rvs ((List.range s).map (lineRow n)) ∧ Below w.heap.size w wr) (fun _ i _ => n - (intOf i).toNat)
    case atStart => exact ⟨0, none, 0, [], Nat.zero_le _, rfl, rfl, by simpa using BMade.start w w.heap.size, Below.refl _ _⟩
    case round =>
      obtain ⟨wo, rfl⟩ : ∃ wo : World, wo = wr := ⟨_, rfl⟩
      obtain ⟨s, a, cap, rvs, hs, rfl, rfl, hM, bel1⟩ := hrel
      have hM' := Lib.hid hM
      clear hM
      by_cases hlt : s < n
      · have hsn : (s : Int) < (n : Int) := by omega
        have ownr := World.ownsRow_made (e := 4) (size := 1) (base := wo.heap.size) wo (madeCells #[.bool false] n) n (Nat.le_refl _) (by unfold maxLen; omega) (by rw [size_madeCells]; omega)
        have hmk := hmk'.out
        go_wp2
        have bX := below1 wo (.cells (madeCells #[.bool false] n) 4)
        generalize wo.alloc _ = X at *
        clear hmk
        go_loopw [6, 18] (fun v i wr => ∃ (t : Nat) (a2 : Option Addr) (cap2 : Nat), t ≤ n ∧ i = .int .i64 t ∧ v = .slice a2 t cap2 ∧ wr.ownsRow wo.heap.size 4 1 (.slice a2 t cap2) t (bools ((List.range t).map fun (t : Nat) => decide (s ≤ t))) ∧ Below wo.heap.size wo wr) (fun _ i _ => n - (intOf i).toNat)
        case atStart => exact ⟨0, _, n, Nat.zero_le _, rfl, rfl, ownr, bX⟩
        case round =>
          obtain ⟨t, a2, cap2, ht, rfl, rfl, hown, bel2⟩ := hrel
          by_cases htlt : t < n
          · have htn : (t : Int) < (n : Int) := by omega
            have hts := Lib.hid (range_map_succ (fun (t : Nat) => decide (s ≤ t)) t)
            have hsz := bel2.size
            go_wp2_with (at_builtin; (refine wpList_append_own _ rfl _ _ 114 rfl wo.heap.size 4 i0 (.bool false) 1 1 Try.underlying114 hi'.out hza.out hzb.out hzc.out rfl (by decide) _ _ _ rfl (hown.alloc _) ⟨wr.heap.size, 0, none⟩ 1 1 [.bool (decide (s ≤ t))] rfl rfl (one_new _ _ _) (by simp [Value.oneCell']) (by unfold maxLen; omega) (by omega) (by simp; omega) ?_); intro v' w2 hown2 hgr2 _; obtain ⟨g2, c2, rfl⟩ := own2_shape hown2 (by omega))
            go_roundw
            case rel =>
              refine ⟨t + 1, some ⟨g2, 0, none⟩, c2, by omega, by go_num, rfl, ?_, (bel2.alloc hsz _).grown hgr2 (by simp; omega) (fun k' hk' => (hown.lt k' hk').1)⟩
              rw [hts.out]
              simpa [bools] using hown2
            case measure => simp [intOf]; omega
          · obtain rfl : t = n := by omega
            have hM := hM'.out
            have hMown : wr.ownsRow w.heap.size 114 1 (.slice a s cap) s rvs := by
              have := ownsRow_belowK (B := 0) hM.own bel2
              simpa using this
            have hz1 := bel1.size
            have hz2' := bel2.size
            have hrow' := Lib.hid (show Own wr wo.heap.size wr.heap.size 4 (.slice a2 t cap2) (bools (lineRow t s)) from Own.of hown (Nat.le_refl _))
            have hps := Lib.hid (range_map_succ (lineRow t) s)
            clear hM hown
            go_wp2_with (at_builtin; (refine wpList_append_own _ rfl _ _ 58 rfl w.heap.size 114 i1 (.slice none 0 0) 1 24 Try.underlying58 ki'.out kz0'.out kz1'.out kz2'.out rfl (by decide) _ _ _ rfl (hMown.alloc _) ⟨wr.heap.size, 0, none⟩ 1 1 [.slice a2 t cap2] rfl rfl (one_new _ _ _) (by simp [Value.oneCell']) (by unfold maxLen; omega) (by omega) (by simp; omega) ?_); intro v' w2 hown2 hgr2 _; obtain ⟨g2, c2, rfl⟩ := own2_shape hown2 (by omega))
            go_roundw
            case rel =>
              have res := BMade.stepL (v' := .slice (some ⟨g2, 0, none⟩) (s + 1) c2) hM'.out bel2 hrow'.out (by omega) _ (by simpa using hown2) hgr2
              refine ⟨s + 1, some ⟨g2, 0, none⟩, c2, rvs ++ [.slice a2 t cap2], by omega, by go_num, rfl, ?_, ((bel1.trans (bel2.mono hz1)).alloc (by omega) _).grown hgr2 (by simp; omega) (fun k' hk' => (hMown.lt k' hk').1)⟩
              rw [hps.out]
              exact res
            case measure => simp [intOf]; omega
      · obtain rfl : s = n := by omega
        go_wp2
        go_ret2
        rw [hr.out]
        exact ⟨_, rfl, ⟨hM'.out.done, Nat.le_refl _⟩, bel1⟩
end Go.Proofs.Ytgbhkdoejnkmhaa
