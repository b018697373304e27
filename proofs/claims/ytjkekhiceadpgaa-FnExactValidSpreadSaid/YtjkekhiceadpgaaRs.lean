/- l01List of the specification. Conditions: at most 10^6 fractions. -/
import Derived.Test.YtjkekhiceadpgaaRw
namespace Go.Proofs.Ytjkekhiceadpgaa
open Go.RowKit Go.Deep
set_option linter.unusedVariables false
set_option linter.unusedSimpArgs false

theorem Try.infoFrac : (Try.prog.info? 83).map (fun i => (i.zero, i.size, i.bytes)) = some (some (.agg #[.slice none 0 0, .slice none 0 0]), 2, 48) := by kernel_rfl
theorem made_fracs (w : World) : MadeP LongS 83 (w.alloc (.cells #[] 83)) w.heap.size (.slice (some ⟨w.heap.size, 0, none⟩) 0 0) [] := by
  refine MadeP.start _ _ _ ?_ ?_
  · exact World.ownsRow_made w #[] 0 (Nat.le_refl _) (Nat.zero_le _) (by simp)
  · intro g hg
    simp only [Value.ownBlock, Option.some.injEq] at hg
    subst hg
    exact ⟨_, _, heap_alloc_new w _, fun x hx => by cases hx⟩

set_option maxRecDepth 100000 in
set_option maxHeartbeats 4000000 in
theorem l01List_any (v : Value) (l : List (ByteArray × ByteArray)) (w : World) (hv : FrL w v l) (hb : l.length ≤ 1000000) :
    Calls Try.prog 61 #[v] w fun e w' => ∃ a n cap, e = .returned (.tuple #[.slice a n cap, .bool (frsOk l)]) ∧ Below w.heap.size w w' ∧ (frsOk l = true → n = l.length ∧ PairL LongS w' (.slice a n cap) (numP l)) := by
  obtain ⟨hm, va, vc, rfl, _⟩ := id hv
  have hv' := Lib.hid hv
  have hrd := Lib.hid (fun c W => parse_form (l.getD c (⟨#[]⟩, ⟨#[]⟩)).1 (l.getD c (⟨#[]⟩, ⟨#[]⟩)).2 W)
  have hst := Lib.hid (made_fracs w)
  have hno := Lib.hid (fun k h h2 => frsOk_no (l := l) (k := k) h h2)
  have hnx := Lib.hid (fun k h h1 h2 => frsOk_next (l := l) (k := k) h h1 h2)
  have hnp := Lib.hid (fun k h => numP_take l k h)
  have hall := Lib.hid (show l.take l.length = l from List.take_length)
  have hnl := Lib.hid (fun k (h : k ≤ l.length) => (show (numP (l.take k)).length = k by rw [numP_length, List.length_take]; omega))
  have h0 := Lib.hid (show frsOk (l.take 0) = true by rfl)
  have B1 := Lib.hid (below1 w (.cells #[] 83))
  obtain ⟨i0, hi, hz0, hz1, hz2⟩ := info_parts Try.infoFrac
  have hi' := Lib.hid hi; have hz0' := Lib.hid hz0; have hz1' := Lib.hid hz1; have hz2' := Lib.hid hz2
  obtain ⟨L, hL⟩ : ∃ L, L = l.length := ⟨_, rfl⟩
  rw [← hL] at hno hnx hall hnl hb hm ⊢
  unfold maxLen at hm
  have hv2 := Lib.hid (show FrL w (.slice va L vc) l by rw [hL]; exact hv'.out)
  replace hL := Lib.hid hL
  clear hv hv' hi hz0 hz1 hz2
  go_enter Try.func61, Try.ntmps61
  go_wp2_with fail
  go_loopw [4, 5] (fun s i wr => ∃ (k : Nat) (a : Option Addr) (c : Nat), k ≤ L ∧ i = .int .i64 (k : Int) ∧ s = .slice a k c ∧ Hid (frsOk (l.take k) = true) ∧ Hid (MadeP LongS 83 wr w.heap.size (.slice a k c) (numP (l.take k))) ∧ Hid (Below w.heap.size w wr)) (fun _ i _ => L - (intOf i).toNat)
  case atStart => exact ⟨0, _, _, Nat.zero_le _, rfl, rfl, h0, hst, B1⟩
  case round =>
    obtain ⟨k, a, c, hk, rfl, rfl, hok, hmade, bel⟩ := hrel
    by_cases hlt : k < L
    · obtain ⟨b, off, rfl, q0, q1⟩ := (hv2.out.keep bel.out).at k (by rw [← hL.out]; exact hlt)
      have hr1 := Lib.hid (hrd.out k)
      have hno1 := Lib.hid (hno.out k hlt)
      have hnx1 := Lib.hid (hnx.out k hlt hok.out)
      have hnp1 := Lib.hid (hnp.out k (by rw [← hL.out]; exact hlt))
      generalize (l.getD k (⟨#[]⟩, ⟨#[]⟩)).1 = fn at *
      generalize (l.getD k (⟨#[]⟩, ⟨#[]⟩)).2 = fd at *
      have hlt' := Lib.hid hlt
      go_wp2_with fail
      (with_reducible refine (hr1.out _).mono ?_)
      rintro e w1 ⟨a0, a1, x0, x1, k0, k1, rfl, b1, hval⟩
      have hval' := Lib.hid hval
      have B2 := Lib.hid (below_wt bel.out b1)
      have hm2 := Lib.hid (hmade.out.keep likeS b1)
      have s2 := B2.out.size
      clear hval b1 q0 q1
      rcases hfo : frOk fn fd with _ | _
      · have hf := Lib.hid (hno1.out hfo)
        replace hfo := Lib.hid hfo
        have B3 := Lib.hid (below_wt B2.out (below1 w1 (.cells #[.slice a0 x0 k0, .slice a1 x1 k1] 83)))
        go_wp2
        go_ret2
        exact ⟨a, k, c, by rw [hf.out]; rfl, B3.out, fun h => by rw [hf.out] at h; cases h⟩
      · obtain ⟨e0, e1, m0, m1⟩ := hval'.out hfo
        have hok1 := Lib.hid (hnx1.out hfo)
        replace hfo := Lib.hid hfo
        have b3 := below2 w1 (.cells #[.slice a0 x0 k0, .slice a1 x1 k1] 83) (.cells #[.slice a0 x0 k0, .slice a1 x1 k1] 83)
        have hm3 := hm2.out.keep likeS b3
        have M0 := Lib.hid (m0.keep b3)
        have M1 := Lib.hid (m1.keep b3)
        have B3 := Lib.hid (below_wt B2.out b3)
        obtain ⟨xs, ho, ha, hc⟩ := hm3
        have hnk := hnl.out k hk
        have ho' := Lib.hid (show World.ownsRow _ w.heap.size 83 2 (.slice a k c) k xs by rw [hnk] at ho; exact ho)
        have hxl := Lib.hid (show xs.length = k * 2 from ho'.out.1)
        have ha' := Lib.hid ha
        have hc' := Lib.hid hc
        clear m0 m1 hval' e0 e1 ho ha hc hnk b3
        go_wp2_with (at_builtin; (refine wpList_append_sl _ rfl _ _ 80 rfl w.heap.size 83 i0 (.agg #[.slice none 0 0, .slice none 0 0]) 2 48 Try.underlying80 hi'.out hz0'.out hz1'.out hz2'.out rfl (by decide) _ _ _ rfl ho'.out ⟨w1.heap.size + 1, 0, none⟩ 1 1 [.slice a0 x0 k0, .slice a1 x1 k1] rfl rfl (by have := two_new (w1.alloc (.cells #[.slice a0 x0 k0, .slice a1 x1 k1] 83)) (.slice a0 x0 k0) (.slice a1 x1 k1) 83; simpa only [World.size_alloc] using this) (by simp [Value.oneCell']) (by unfold maxLen; omega) (by omega) (by simp; omega) zero_sl (two_sl _ _ _ _ _ _) ha'.out ?_); intro v' w5 hown5 hgr5 hal5)
        obtain ⟨a2, c2, rfl⟩ := shape2 hown5
        go_wp2
        go_roundw
        case rel =>
          refine ⟨k + 1, a2, c2, by have := hlt'.out; omega, by go_num, rfl, hok1, Lib.hid ?_, Lib.hid (B3.out.grown hgr5 (by simp; omega) (fun k' hk' => (ho'.out.lt k' hk').1))⟩
          have hnk := hnl.out k hk
          rw [hnp1.out]
          exact MadeP.step likeS (l := numP (l.take k)) hc'.out (by rw [hnk]; exact hxl.out) ha'.out M0.out M1.out (by rw [hnk]; exact hown5) hgr5 hal5
        case measure => have := hlt'.out; simp [intOf]; omega
    · obtain rfl : k = L := by omega
      have hf := Lib.hid (show frsOk l = true by have := hok.out; rwa [hall.out] at this)
      have hd := Lib.hid (show PairL LongS wr (.slice a k c) (numP l) by have := hmade.out.done; rwa [hall.out] at this)
      have hlt' : ¬ (k : Int) < (k : Int) := by omega
      clear hlt
      go_wp2
      go_ret2
      exact ⟨a, k, c, by rw [hf.out]; rfl, bel.out, fun _ => ⟨rfl, hd.out⟩⟩
end Go.Proofs.Ytjkekhiceadpgaa
