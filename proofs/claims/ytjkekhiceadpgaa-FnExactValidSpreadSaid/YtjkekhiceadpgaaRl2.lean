/- readFractions of the project. Conditions: at most 10^6 fractions. -/
import Derived.Test.YtjkekhiceadpgaaRl
import Derived.Test.YtjkekhiceadpgaaRat
namespace Go.Proofs.Ytjkekhiceadpgaa
open Go.RowKit Go.Deep
set_option linter.unusedVariables false
set_option linter.unusedSimpArgs false

theorem Try.infoRat : (Try.prog.info? 97).map (fun i => (i.zero, i.size, i.bytes)) = some (some (.agg #[.slice none 0 0, .slice none 0 0]), 2, 48) := by kernel_rfl
theorem mem_made2 {z : Array Value} {n : Nat} {x : Value} (h : x ∈ (madeCells z n).toList) (hz : 0 < z.size) : x ∈ z.toList := by
  simp only [madeCells] at h
  simp at h
  obtain ⟨k, hk, rfl⟩ := h
  rw [getElem!_pos z _ (Nat.mod_lt k hz)]
  exact Array.getElem_mem_toList _
theorem make_rats (n : Nat) (hb : n ≤ 1000000) (w : World) :
    (Instr.makeSlice 64 (.int .i64 0) (.int .i64 (n : Int))).run Try.prog w = .ok (.slice (some ⟨w.heap.size, 0, none⟩) 0 n) (w.alloc (.cells (madeCells #[.slice none 0 0, .slice none 0 0] (n * 2)) 97)) := by
  obtain ⟨i0, hi, hz0, hz1, hz2⟩ := info_parts Try.infoRat
  have := run_make (P := Try.prog) w 64 97 i0 (.agg #[.slice none 0 0, .slice none 0 0]) Try.underlying64 hi hz0 .i64 .i64 0 (n : Int) (Int.le_refl _) (by omega) (by rw [hz2]; omega) (by omega)
  rw [this, hz1, Int.toNat_natCast]
  rfl
theorem made_rats (n : Nat) (hb : n ≤ 1000000) (w : World) : MadeP LongI 97 (w.alloc (.cells (madeCells #[.slice none 0 0, .slice none 0 0] (n * 2)) 97)) w.heap.size (.slice (some ⟨w.heap.size, 0, none⟩) 0 n) [] := by
  refine MadeP.start _ _ _ ?_ ?_
  · exact World.ownsRow_made w _ n (Nat.le_refl _) (by unfold maxLen; omega) (by simp [madeCells])
  · intro g hg
    simp only [Value.ownBlock, Option.some.injEq] at hg
    subst hg
    refine ⟨_, _, heap_alloc_new w _, fun x hx => ?_⟩
    have := mem_made2 hx (by decide)
    simp at this
    subst this
    exact ⟨_, _, _, rfl⟩

theorem two_new (w : World) (x y : Value) (t : TypeId) : ∀ j u, [x, y][j]? = some u → (w.alloc (.cells #[x, y] t)).cell? ((⟨w.heap.size, 0, none⟩ : Addr).add j) = some u := by
  intro j u hu
  have e : (⟨w.heap.size, 0, none⟩ : Addr).add j = ⟨w.heap.size, j, none⟩ := by
    unfold Addr.add
    split
    · rename_i h; subst h; rfl
    · simp
  rw [e, World.cell?_alloc_at _ _ _ _ rfl]
  simpa using hu
theorem shape2 {w : World} {B n : Nat} {e : TypeId} {v : Value} {vs : List Value} (h : w.ownsRow B e 2 v n vs) : ∃ a cap, v = .slice a n cap := by
  rcases h.2 with ⟨rfl, h0⟩ | ⟨g, cap, cur, rfl, _⟩
  · exact ⟨none, 0, by rw [h0]⟩
  · exact ⟨_, cap, rfl⟩
theorem two_sl (a b : Option Addr) (l1 c1 l2 c2 : Nat) : ∀ x ∈ [Value.slice a l1 c1, Value.slice b l2 c2], IsSl x := by
  intro x hx
  simp at hx
  rcases hx with rfl | rfl <;> exact ⟨_, _, _, rfl⟩
theorem zero_sl : ∀ x ∈ (Value.agg #[.slice none 0 0, .slice none 0 0]).cells.toList, IsSl x := by
  intro x hx
  simp [Value.cells] at hx
  subst hx
  exact ⟨_, _, _, rfl⟩

set_option maxRecDepth 100000 in
set_option maxHeartbeats 4000000 in
theorem readFractions_any (v : Value) (l : List (ByteArray × ByteArray)) (w : World) (hv : FrL w v l) (hb : l.length ≤ 1000000) :
    Calls Try.prog 65 #[v] w fun e w' => ∃ a n cap, e = .returned (.tuple #[.slice a n cap, .bool (frsOk l)]) ∧ Below w.heap.size w w' ∧ (frsOk l = true → n = l.length ∧ PairL LongI w' (.slice a n cap) (numP l)) := by
  obtain ⟨hm, va, vc, rfl, _⟩ := id hv
  have hv' := Lib.hid hv
  have hrd := Lib.hid (fun c W => read_form (l.getD c (⟨#[]⟩, ⟨#[]⟩)).1 (l.getD c (⟨#[]⟩, ⟨#[]⟩)).2 W)
  have hmk := fun W => make_rats l.length hb W
  have hst := Lib.hid (made_rats l.length hb w)
  have hno := Lib.hid (fun k h h2 => frsOk_no (l := l) (k := k) h h2)
  have hnx := Lib.hid (fun k h h1 h2 => frsOk_next (l := l) (k := k) h h1 h2)
  have hnp := Lib.hid (fun k h => numP_take l k h)
  have hall := Lib.hid (show l.take l.length = l from List.take_length)
  have hnl := Lib.hid (fun k (h : k ≤ l.length) => (show (numP (l.take k)).length = k by rw [numP_length, List.length_take]; omega))
  have h0 := Lib.hid (show frsOk (l.take 0) = true by rfl)
  have B1 := Lib.hid (below1 w (.cells (madeCells #[.slice none 0 0, .slice none 0 0] (l.length * 2)) 97))
  obtain ⟨i0, hi, hz0, hz1, hz2⟩ := info_parts Try.infoRat
  have hi' := Lib.hid hi; have hz0' := Lib.hid hz0; have hz1' := Lib.hid hz1; have hz2' := Lib.hid hz2
  obtain ⟨L, hL⟩ : ∃ L, L = l.length := ⟨_, rfl⟩
  rw [← hL] at hmk hst hno hnx hall hnl hb hm B1 ⊢
  unfold maxLen at hm
  have hv2 := Lib.hid (show FrL w (.slice va L vc) l by rw [hL]; exact hv'.out)
  replace hL := Lib.hid hL
  clear hv hv' hi hz0 hz1 hz2
  go_enter Try.func65, Try.ntmps65
  go_wp2_with fail
  go_loopw [4, 14] (fun s i wr => ∃ (k : Nat) (a : Option Addr) (c : Nat), k ≤ L ∧ i = .int .i64 (k : Int) ∧ s = .slice a k c ∧ Hid (frsOk (l.take k) = true) ∧ Hid (MadeP LongI 97 wr w.heap.size (.slice a k c) (numP (l.take k))) ∧ Hid (Below w.heap.size w wr)) (fun _ i _ => L - (intOf i).toNat)
  case atStart => exact ⟨0, _, _, Nat.zero_le _, rfl, rfl, h0, hst, B1⟩
  case round =>
    obtain ⟨k, a, c, hk, rfl, rfl, hok, hmade, bel⟩ := hrel
    by_cases hlt : k < L
    · obtain ⟨b, off, rfl, q0, q1⟩ := (hv2.out.keep bel.out).at k (by rw [← hL.out]; exact hlt)
      have hr1 := Lib.hid (hrd.out k)
      have hno1 := Lib.hid (hno.out k hlt)
      have hnx1 := Lib.hid (hnx.out k hlt hok.out)
      have hnp1 := Lib.hid (hnp.out k (by rw [← hL.out]; exact hlt))
      generalize (l.getD k (⟨#[]⟩, ⟨#[]⟩)).1 = fn at *
      generalize (l.getD k (⟨#[]⟩, ⟨#[]⟩)).2 = fd at *
      have hlt' := Lib.hid hlt
      go_wp2_with fail
      (with_reducible refine (hr1.out _).mono ?_)
      rintro e w1 ⟨a0, a1, x0, x1, k0, k1, rfl, b1, hval⟩
      have b2 := below_wt (below1 wr (.cells #[.string fn, .string fd] 62)) b1
      have hval' := Lib.hid hval
      have B2 := Lib.hid (below_wt bel.out b2)
      have hm2 := Lib.hid (hmade.out.keep likeI b2)
      have s2 := B2.out.size
      clear hval b1 b2 q0 q1
      rcases hfo : frOk fn fd with _ | _
      · have hf := Lib.hid (hno1.out hfo)
        replace hfo := Lib.hid hfo
        have B3 := Lib.hid (below_wt B2.out (below1 w1 (.cells #[.slice a0 x0 k0, .slice a1 x1 k1] 97)))
        go_wp2
        go_ret2
        exact ⟨none, 0, 0, by rw [hf.out]; rfl, B3.out, fun h => by rw [hf.out] at h; cases h⟩
      · obtain ⟨e0, e1, m0, m1⟩ := hval'.out hfo
        have hok1 := Lib.hid (hnx1.out hfo)
        replace hfo := Lib.hid hfo
        have b3 := below2 w1 (.cells #[.slice a0 x0 k0, .slice a1 x1 k1] 97) (.cells #[.slice a0 x0 k0, .slice a1 x1 k1] 97)
        have hm3 := hm2.out.keep likeI b3
        have M0 := Lib.hid (m0.keep b3)
        have M1 := Lib.hid (m1.keep b3)
        have B3 := Lib.hid (below_wt B2.out b3)
        obtain ⟨xs, ho, ha, hc⟩ := hm3
        have hnk := hnl.out k hk
        have ho' := Lib.hid (show World.ownsRow _ w.heap.size 97 2 (.slice a k c) k xs by rw [hnk] at ho; exact ho)
        have hxl := Lib.hid (show xs.length = k * 2 from ho'.out.1)
        have ha' := Lib.hid ha
        have hc' := Lib.hid hc
        clear m0 m1 hval' e0 e1 ho ha hc hnk b3
        go_wp2_with (at_builtin; (refine wpList_append_sl _ rfl _ _ 64 rfl w.heap.size 97 i0 (.agg #[.slice none 0 0, .slice none 0 0]) 2 48 Try.underlying64 hi'.out hz0'.out hz1'.out hz2'.out rfl (by decide) _ _ _ rfl ho'.out ⟨w1.heap.size + 1, 0, none⟩ 1 1 [.slice a0 x0 k0, .slice a1 x1 k1] rfl rfl (by have := two_new (w1.alloc (.cells #[.slice a0 x0 k0, .slice a1 x1 k1] 97)) (.slice a0 x0 k0) (.slice a1 x1 k1) 97; simpa only [World.size_alloc] using this) (by simp [Value.oneCell']) (by unfold maxLen; omega) (by omega) (by simp; omega) zero_sl (two_sl _ _ _ _ _ _) ha'.out ?_); intro v' w5 hown5 hgr5 hal5)
        obtain ⟨a2, c2, rfl⟩ := shape2 hown5
        go_wp2
        go_roundw
        case rel =>
          refine ⟨k + 1, a2, c2, by have := hlt'.out; omega, by go_num, rfl, hok1, Lib.hid ?_, Lib.hid (B3.out.grown hgr5 (by simp; omega) (fun k' hk' => (ho'.out.lt k' hk').1))⟩
          have hnk := hnl.out k hk
          rw [hnp1.out]
          exact MadeP.step likeI (l := numP (l.take k)) hc'.out (by rw [hnk]; exact hxl.out) ha'.out M0.out M1.out (by rw [hnk]; exact hown5) hgr5 hal5
        case measure => have := hlt'.out; simp [intOf]; omega
    · obtain rfl : k = L := by omega
      have hf := Lib.hid (show frsOk l = true by have := hok.out; rwa [hall.out] at this)
      have hd := Lib.hid (show PairL LongI wr (.slice a k c) (numP l) by have := hmade.out.done; rwa [hall.out] at this)
      have hlt' : ¬ (k : Int) < (k : Int) := by omega
      clear hlt
      go_wp2
      go_ret2
      exact ⟨a, k, c, by rw [hf.out]; rfl, bel.out, fun _ => ⟨rfl, hd.out⟩⟩
end Go.Proofs.Ytjkekhiceadpgaa
