/- The spread of one state: the model, and the project's function. Conditions: told by the code. -/
import Derived.Test.YtiddhnnofpbopaaCp
import Derived.Test.YtiddhnnofpbopaaStH
import Derived.Test.YtiddhnnofpbopaaFsG
namespace Go.Proofs.Ytiddhnnofpbopaa
open Go.RowKit Go.Deep
set_option linter.unusedVariables false
set_option linter.unusedSimpArgs false

theorem FrsRp.own {w : World} {g n lo hi : Nat} {x y : ByteArray} (h : FrsRp w g n n x y) (hn : n ≤ 2097152) (h1 : lo ≤ g) (h2 : g < hi) : FrOwn w lo hi (.slice (some ⟨g, 0, none⟩) n n) (List.replicate n (x, y)) := by
  obtain ⟨c, hB, hs, _, hc⟩ := h
  refine ⟨by simpa using hn, Or.inr ⟨g, n, c, by simp, h1, h2, hB, by simp [hs], fun i hi => ?_⟩⟩
  have hi' : i < n := by simpa using hi
  have := hc i hi'
  simpa [List.getD, hi'] using this
/-- one of them another one -/
theorem FrsRp.put {w : World} {g n lo hi s : Nat} {x y x' y' : ByteArray} (h : FrsRp w g n n x y) (hn : n ≤ 2097152) (hs : s < n) (h1 : lo ≤ g) (h2 : g < hi) :
    FrOwn ((w.setCell ⟨g, s * 2, none⟩ (.string x')).setCell ⟨g, s * 2 + 1, none⟩ (.string y')) lo hi (.slice (some ⟨g, 0, none⟩) n n) ((List.replicate n (x, y)).set s (x', y')) := by
  obtain ⟨c, hB, hz, _, hc⟩ := h
  have hB2 := (hB.set (s * 2) (.string x')).set (s * 2 + 1) (.string y')
  refine ⟨by simpa using hn, Or.inr ⟨g, n, _, by simp, h1, h2, hB2, by simp [hz], fun i hi => ?_⟩⟩
  have hi' : i < n := by simpa using hi
  obtain ⟨c1, c2⟩ := hc i hi'
  by_cases e : s = i
  · subst e
    constructor
    · rw [Array.getElem?_setIfInBounds_ne (by omega), Array.getElem?_setIfInBounds]; simp [hz, hi', List.getD]
    · rw [Array.getElem?_setIfInBounds]; simp [hz, List.getD, hi']; omega
  · constructor
    · rw [Array.getElem?_setIfInBounds_ne (by omega), Array.getElem?_setIfInBounds_ne (by omega), c1]; simp [List.getD, e, hi']
    · rw [Array.getElem?_setIfInBounds_ne (by omega), Array.getElem?_setIfInBounds_ne (by omega), c2]; simp [List.getD, e, hi']
/-- what SureSpread hands back -/
def suR (n s : Int) : List (ByteArray × ByteArray) × Int :=
  if (inB n 1 6 && inB s 0 (n - 1)) = true then (vecT (sureN n.toNat s.toNat) 1, vecC (sureN n.toNat s.toNat) 1) else ([], 2)
theorem num01 : numT 0 = ⟨#[48]⟩ ∧ numT 1 = ⟨#[49]⟩ := by
  unfold numT
  rw [numW_small (by decide), numW_small (by decide)]
  rw [decW_small (by decide), decW_small (by decide)]
  exact ⟨rfl, rfl⟩
theorem one01 : vecGood 0 1 = true ∧ vecGood 1 1 = true ∧ vecOne 0 1 = (⟨#[48]⟩, ⟨#[49]⟩) ∧ vecOne 1 1 = (⟨#[49]⟩, ⟨#[49]⟩) := by
  have e0 : toldB 0 1 = true := by unfold toldB; rw [num01.1, num01.2]; decide
  have e1 : toldB 1 1 = true := by unfold toldB; rw [num01.2]; decide
  refine ⟨by simpa [vecGood] using e0, by simpa [vecGood] using e1, ?_, ?_⟩
  · simp only [vecOne, Nat.gcd_one_right, Nat.div_one, toldN, toldD, e0, if_true]; rw [num01.1, num01.2]
  · simp only [vecOne, Nat.gcd_one_right, Nat.div_one, toldN, toldD, e1, if_true]; rw [num01.2]
theorem sure_told (n s : Nat) (hs : s < n) : vecT (sureN n s) 1 = (List.replicate n (⟨#[48]⟩, ⟨#[49]⟩)).set s (⟨#[49]⟩, ⟨#[49]⟩) ∧ vecC (sureN n s) 1 = 0 := by
  obtain ⟨g0, g1, o0, o1⟩ := one01
  have hok : vecOk (sureN n s) 1 = true := by
    unfold vecOk
    rw [List.all_eq_true]
    intro x hx
    rcases List.mem_or_eq_of_mem_set hx with h | h
    · rw [List.eq_of_mem_replicate h]; exact g0
    · rw [h]; exact g1
  unfold vecT vecC
  rw [if_pos hok, if_pos hok]
  refine ⟨?_, rfl⟩
  unfold sureN
  rw [List.map_set, List.map_replicate, o0, o1]
theorem suR_no {n s : Int} (h : (inB n 1 6 && inB s 0 (n - 1)) = false) : suR n s = ([], 2) := by
  unfold suR; rw [if_neg (by rw [h]; decide)]
theorem suR_yes {n s : Nat} (h1 : 1 ≤ n) (h6 : n ≤ 6) (hs : s < n) : suR n s = ((List.replicate n (⟨#[48]⟩, ⟨#[49]⟩)).set s (⟨#[49]⟩, ⟨#[49]⟩), 0) ∧ suR n s = (vecT (sureN n s) 1, vecC (sureN n s) 1) := by
  have e : suR n s = (vecT (sureN n s) 1, vecC (sureN n s) 1) := by
    unfold suR
    rw [if_pos (by rw [show inB (n : Int) 1 6 = true from inB_iff.2 (by omega), show inB (s : Int) 0 ((n : Int) - 1) = true from inB_iff.2 (by omega)]; rfl), Int.toNat_natCast, Int.toNat_natCast]
  refine ⟨?_, e⟩
  rw [e, (sure_told n s hs).1, (sure_told n s hs).2]
theorem suR_in {n s : Int} (h1 : inB n 1 6 = true) (h2 : inB s 0 (n - 1) = true) : ∃ k j : Nat, n = k ∧ s = j ∧ 1 ≤ k ∧ k ≤ 6 ∧ j < k := by
  have u1 := inB_iff.1 h1
  have u2 := inB_iff.1 h2
  exact ⟨n.toNat, s.toNat, by omega, by omega, by omega, by omega, by omega⟩
theorem frOwn_nilS (w : World) (lo hi : Nat) : FrOwn w lo hi (.slice none 0 0) [] := ⟨by simp, Or.inl ⟨0, rfl, rfl⟩⟩
theorem frOwn_noneS (w : World) (B hi : Nat) (h1 : B ≤ w.heap.size) (h2 : w.heap.size < hi) : FrOwn (w.alloc (.cells #[] 49)) B hi (.slice (some ⟨w.heap.size, 0, none⟩) 0 0) [] :=
  ⟨by simp, Or.inr ⟨w.heap.size, 0, #[], rfl, h1, h2, Blk.new _ _ _, by simp, fun i hi => by simp at hi⟩⟩

set_option maxRecDepth 100000 in
set_option maxHeartbeats 4000000 in
theorem SureSpread_impl (ni si : Int) (w : World) :
    Calls Try.prog 6 #[.int .i64 ni, .int .i64 si] w fun e w' => ∃ v, e = .returned (.tuple #[v, .int .i64 (suR ni si).2]) ∧ FrOwn w' w.heap.size w'.heap.size v (suR ni si).1 ∧ Below w.heap.size w w' := by
  have h1 := Lib.hid (isIn_any ni 1 6 w)
  go_enter Try.func6, Try.ntmps6
  go_wp2_with fail
  (with_reducible refine h1.out.mono ?_)
  rintro e w1 ⟨rfl, rfl⟩
  rcases hn : inB ni 1 6 with _ | _
  · have hr := Lib.hid (suR_no (n := ni) (s := si) (by rw [hn]; rfl))
    clear hn h1
    go_wp2
    go_ret2
    exact ⟨.slice none 0 0, by rw [hr.out]; first | done | rfl, by rw [hr.out]; exact frOwn_nilS _ _ _, Below.refl _ _⟩
  · have h2 := Lib.hid (isIn_any si 0 (ni - 1) w)
    obtain ⟨u1, u2⟩ := inB_iff.1 hn
    rcases hs : inB si 0 (ni - 1) with _ | _
    · have hr := Lib.hid (suR_no (n := ni) (s := si) (by rw [hn, hs]; rfl))
      rw [hs] at h2
      clear hn h1 hs
      go_wp2_with fail
      (with_reducible refine h2.out.mono ?_)
      rintro e w1 ⟨rfl, rfl⟩
      clear u1 u2
      go_wp2
      go_ret2
      exact ⟨.slice none 0 0, by rw [hr.out]; first | done | rfl, by rw [hr.out]; exact frOwn_nilS _ _ _, Below.refl _ _⟩
    · obtain ⟨n, s, rfl, rfl, n1, n6, hsn⟩ := suR_in hn hs
      rw [hs] at h2
      have hr := Lib.hid (suR_yes n1 n6 hsn).1
      have bX := below1 w (.cells #[.string ⟨#[48]⟩, .string ⟨#[49]⟩] 49)
      have hX := Blk.new w #[.string ⟨#[48]⟩, .string ⟨#[49]⟩] 49
      obtain ⟨x0, x1⟩ := (⟨hX.cell 0, hX.cell 1⟩ : _ ∧ _)
      simp only [List.getElem?_toArray, List.getElem?_cons_zero, List.getElem?_cons_succ] at x0 x1
      have hrp := Lib.hid (repeat_any w.heap.size 0 1 n ⟨#[48]⟩ ⟨#[49]⟩ _ x0 (by rw [Nat.zero_add]; exact x1) n1 n6)
      replace bX := Lib.hid bX
      clear hn hs h1 hX x0 x1
      go_wp2_with fail
      (with_reducible refine h2.out.mono ?_)
      rintro e w1 ⟨rfl, rfl⟩
      go_wp2_with fail
      (with_reducible refine hrp.out.mono ?_)
      rintro e w2 ⟨g, rfl, hF, hg, b2⟩
      have hF' := hF
      obtain ⟨c, hB, hz, _, hc⟩ := hF
      obtain ⟨c0, c1⟩ := hc s hsn
      have y0 : w2.cell? ⟨g, s * 2, none⟩ = _ := (hB.cell (s * 2)).trans c0
      have y1 : w2.cell? ⟨g, s * 2 + 1, none⟩ = _ := (hB.cell (s * 2 + 1)).trans c1
      have f0 := hB.frozen (s * 2)
      have f1 := hB.frozen (s * 2 + 1)
      have hgw : w.heap.size ≤ g := Nat.le_trans bX.out.size hg
      have B2 := below_wt bX.out b2
      have hfin := Lib.hid (hF'.put (x' := ⟨#[49]⟩) (y' := ⟨#[49]⟩) (lo := w.heap.size) (hi := w2.heap.size) (by omega) hsn hgw hB.lt)
      have Bf := Lib.hid ((B2.setCell (p := ⟨g, s * 2, none⟩) hgw (.string ⟨#[49]⟩)).setCell (p := ⟨g, s * 2 + 1, none⟩) hgw (.string ⟨#[49]⟩))
      have i1 : (0 : Int) ≤ (s : Int) := by omega
      have i2 : (s : Int) < (n : Int) := by omega
      clear hF' hB hz hc c0 c1 b2 B2 h2 hrp bX hg
      go_wp2
      go_ret2
      exact ⟨_, by rw [hr.out]; first | done | rfl, by rw [hr.out]; have := hfin.out; simpa [World.setCell] using this, Bf.out⟩
end Go.Proofs.Ytiddhnnofpbopaa
