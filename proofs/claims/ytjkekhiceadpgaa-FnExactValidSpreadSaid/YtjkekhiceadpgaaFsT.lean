/- The laws' lists of fractions: opened, measured, copied, compared. Conditions: told in each. -/
import Derived.Test.YtjkekhiceadpgaaRl
import Derived.Test.YtjkekhiceadpgaaFrac
import Derived.Test.YtjkekhiceadpgaaOpen
import Derived.ChangeSame
import Derived.Deep.Slices
import Derived.Deep.RegionHeld3
namespace Go.Proofs.Ytjkekhiceadpgaa
open Go.ChangeShapes Go.WideShapes Go.ChangeAt Go.RowKit Go.Deep Go.Joins
set_option linter.unusedVariables false
set_option linter.unusedSimpArgs false

def frZ : ByteArray × ByteArray := (⟨#[]⟩, ⟨#[]⟩)
/-- the slice v reads as fractions whose texts are no longer than a text may be -/
def FrsIn (w : World) (v : Value) (l : List (ByteArray × ByteArray)) : Prop :=
  FrL w v l ∧ ∀ i, i < l.length → (l.getD i (⟨#[]⟩, ⟨#[]⟩)).1.size ≤ maxLen ∧ (l.getD i (⟨#[]⟩, ⟨#[]⟩)).2.size ≤ maxLen
theorem FrsIn.keep {w w' : World} {v : Value} {l : List (ByteArray × ByteArray)} (h : FrsIn w v l) (hb : Below w.heap.size w w') : FrsIn w' v l := ⟨h.1.keep hb, h.2⟩

set_option maxRecDepth 100000 in
theorem open_fracs {H : Type} {enc : TypeId × Value → H} {W : World} {base b0 : Nat} {held : Bool} {v : Value} {d : DataW H} {p : List MemPlace}
    (hv : Value.okWide Try.prog W .any base 22 v) (h : DataW.Trod enc Try.prog W b0 (fun _ => true) held 22 v d p) : ∃ c, FrsIn W v c := by
  obtain ⟨va, vl, vc, rfl⟩ := okWide_slice Try.underlying22 hv
  obtain ⟨fuel, h⟩ := h
  rcases open_slice Try.underlying22 h with ⟨hcs, _⟩ | ⟨sa, len, cap, m, n2, D, Pl, hcs, _, hl, hm, hmm, _, hx⟩
  · simp [Value.cells] at hcs
    obtain ⟨rfl, rfl, rfl⟩ := hcs
    exact ⟨[], ⟨by simp, none, 0, rfl, fun i hi => by simp at hi⟩, fun i hi => by simp at hi⟩
  · simp [Value.cells] at hcs
    obtain ⟨rfl, rfl, rfl⟩ := hcs
    have hmle : vl ≤ m := by
      revert hmm
      cases held <;> simp <;> omega
    have hcel : Try.prog.cellsOf 57 = 2 := by kernel_rfl
    have hceli : Try.prog.cellsOf 9 = 1 := by kernel_rfl
    rw [hcel] at hx
    have key : ∀ i, i < vl → ∃ (q : ByteArray × ByteArray), sa = ⟨sa.block, sa.off, none⟩ ∧ W.cell? ⟨sa.block, sa.off + i * 2, none⟩ = some (.string q.1) ∧ W.cell? ⟨sa.block, sa.off + i * 2 + 1, none⟩ = some (.string q.2) ∧ q.1.size ≤ maxLen ∧ q.2.size ≤ maxLen := fun i hi => by
      have hs : sa = ⟨sa.block, sa.off, none⟩ := by
        obtain ⟨cs', hc, ht⟩ := hx 0 (by omega)
        obtain ⟨_, hlen, hcc⟩ := World.cells?_some hc
        have g0 := hcc 0 (by decide)
        rw [List.getElem?_eq_getElem (by omega)] at g0
        have h := World.cell?_spot g0
        obtain ⟨b, off, spot⟩ := sa
        simp [Addr.add] at h
        rw [h]
      obtain ⟨cs', hc, ht⟩ := hx i (by omega)
      obtain ⟨_, hlen, hcc⟩ := World.cells?_some hc
      obtain ⟨z0, z1, rfl⟩ : ∃ z0 z1, cs' = [z0, z1] := by
        match cs', hlen with
        | [z0, z1], _ => exact ⟨z0, z1, rfl⟩
      have g0 : W.cell? ((sa.add (i * 2)).add 0) = some z0 := hcc 0 (by decide)
      have g1 : W.cell? ((sa.add (i * 2)).add 1) = some z1 := hcc 1 (by decide)
      rw [add_add] at g0 g1
      obtain ⟨r0, r1, n3, _, _, t0, t1⟩ := trod_struct2 Try.underlying57 ht
      simp only [hceli, List.drop_zero, List.drop_succ_cons, List.take_succ_cons, List.take_zero] at t0 t1
      obtain ⟨a, e0, _, wa⟩ := DataW.trod_string Try.underlying9 t0
      obtain ⟨b, e1, _, wb⟩ := DataW.trod_string Try.underlying9 t1
      simp at e0 e1
      subst e0 e1
      rw [hs, add_plain] at g0 g1
      exact ⟨(a, b), hs, by simpa using g0, by simpa [Nat.add_assoc] using g1, wa, wb⟩
    haveI : Inhabited (ByteArray × ByteArray) := ⟨frZ⟩
    obtain ⟨f, hf⟩ := choose_lt (α := ByteArray × ByteArray) (p := fun i q => sa = ⟨sa.block, sa.off, none⟩ ∧ W.cell? ⟨sa.block, sa.off + i * 2, none⟩ = some (.string q.1) ∧ W.cell? ⟨sa.block, sa.off + i * 2 + 1, none⟩ = some (.string q.2) ∧ q.1.size ≤ maxLen ∧ q.2.size ≤ maxLen) key
    have hlen : ((List.range vl).map f).length = vl := by simp
    have hget : ∀ i, i < vl → ((List.range vl).map f).getD i (⟨#[]⟩, ⟨#[]⟩) = f i := fun i hi => by simp [List.getD, hi]
    refine ⟨(List.range vl).map f, ⟨by simp only [hlen]; omega, some sa, vc, by simp only [hlen], fun i hi => ?_⟩, fun i hi => ?_⟩
    · simp only [hlen] at hi
      obtain ⟨k0, k1, k2, _⟩ := hf i hi
      rw [hget i hi]
      exact ⟨sa.block, sa.off, by rw [← k0], k1, k2⟩
    · simp only [hlen] at hi
      rw [hget i hi]
      exact (hf i hi).2.2.2

set_option maxHeartbeats 2000000 in
theorem szFractionS_any (v : Value) (l : List (ByteArray × ByteArray)) (left : Int) (w : World) (hv : FrsIn w v l) (h0 : 0 ≤ left) (h1 : left ≤ 1048576) :
    Calls Try.prog 8 #[v, .int .i64 left] w fun e w' => (∃ L : Int, e = .returned (.int .i64 L) ∧ L ≤ 1048576 ∧ (0 ≤ L → l.length ≤ 1048576)) ∧ Below w.heap.size w w' := by
  obtain ⟨⟨hm, va, vc, rfl, _⟩, hsz⟩ := id hv
  unfold maxLen at hm
  have hsz' := Lib.hid hsz
  have hv' := Lib.hid hv.1
  obtain ⟨n, hn⟩ : ∃ n, n = l.length := ⟨_, rfl⟩
  rw [← hn] at hm ⊢
  have hn' := Lib.hid hn
  clear hsz hv hn
  by_cases h : left < n
  · have h' : left - (n : Int) < 0 := by omega
    go_enter Try.func8, Try.ntmps8
    go_wp2
    go_ret
    exact ⟨⟨-1, rfl, by omega, fun h => by omega⟩, Below.refl _ _⟩
  · have h' : 0 ≤ left - (n : Int) := by omega
    have hbd := Lib.hid (show n ≤ 1048576 by omega)
    go_enter Try.func8, Try.ntmps8
    go_wp2
    go_loopw [1, 5] (fun q i wr => ∃ (k : Nat) (L : Int), k ≤ n ∧ 0 ≤ L ∧ L ≤ 1048576 ∧ i = .int .i64 k ∧ q = .int .i64 L ∧ Hid (Below w.heap.size w wr)) (fun _ i _ => n - (intOf i).toNat)
    case atStart => exact ⟨0, _, Nat.zero_le _, h', by omega, rfl, rfl, Lib.hid (Below.refl _ _)⟩
    case round =>
      obtain ⟨k, L, hk, hL0, hL1, rfl, rfl, bel⟩ := hrel
      by_cases hlt : k < n
      · obtain ⟨b, off, rfl, q0, q1⟩ := (hv'.out.keep bel.out).at k (by rw [← hn'.out]; exact hlt)
        obtain ⟨s1, s2⟩ := hsz'.out k (by rw [← hn'.out]; exact hlt)
        generalize l.getD k (⟨#[]⟩, ⟨#[]⟩) = c at *
        obtain ⟨cn, cd⟩ := c
        simp only at s1 s2 q0 q1
        by_cases hq : L < ((cn.size + cd.size : Nat) : Int)
        · have hneg : frLeft L (cn.size + cd.size) < 0 := by rw [frLeft_no hq]; decide
          have hz := Lib.hid (fun W => szFraction_any cn cd L W hL0 hL1 s1 s2)
          generalize frLeft L (cn.size + cd.size) = lf at *
          clear hq s1 s2
          go_wp2_with fail
          (with_reducible refine (hz.out _).mono ?_)
          rintro e w2 ⟨rfl, b2⟩
          have B2 := Lib.hid (below_wt bel.out b2)
          clear b2
          go_wp2
          go_ret
          exact ⟨⟨-1, rfl, by omega, fun h => by omega⟩, B2.out⟩
        · have hneg : 0 ≤ frLeft L (cn.size + cd.size) := by rw [frLeft_yes hq]; omega
          have hle : frLeft L (cn.size + cd.size) ≤ 1048576 := by rw [frLeft_yes hq]; omega
          have hz := Lib.hid (fun W => szFraction_any cn cd L W hL0 hL1 s1 s2)
          generalize frLeft L (cn.size + cd.size) = lf at *
          clear hq s1 s2
          go_wp2_with fail
          (with_reducible refine (hz.out _).mono ?_)
          rintro e w2 ⟨rfl, b2⟩
          have B2 := Lib.hid (below_wt bel.out b2)
          clear b2
          go_wp2
          go_roundw
          case rel => exact ⟨k + 1, lf, by omega, hneg, hle, by go_num, rfl, B2⟩
          case measure => simp [intOf]; omega
      · obtain rfl : n = k := by omega
        go_wp2
        go_ret
        exact ⟨⟨L, rfl, hL1, fun _ => hbd.out⟩, bel.out⟩

/-! ### copies -/
theorem Try.infoFr : (Try.prog.info? 62).map (fun i => (i.zero, i.size, i.bytes)) = some (some (.agg #[.string ⟨#[]⟩, .string ⟨#[]⟩]), 2, 32) := by kernel_rfl
theorem make_frs (n : Nat) (hb : n ≤ 2097152) (w : World) :
    (Instr.makeSlice 25 (.int .i64 (n : Int)) (.int .i64 (n : Int))).run Try.prog w = .ok (.slice (some ⟨w.heap.size, 0, none⟩) n n) (w.alloc (.cells (madeCells #[.string ⟨#[]⟩, .string ⟨#[]⟩] (n * 2)) 62)) := by
  obtain ⟨i0, hi, hz0, hz1, hz2⟩ := info_parts Try.infoFr
  have := run_make (P := Try.prog) w 25 62 i0 (.agg #[.string ⟨#[]⟩, .string ⟨#[]⟩]) Try.underlying25 hi hz0 .i64 .i64 (n : Int) (n : Int) (by omega) (Int.le_refl _) (by rw [hz2]; omega) (by omega)
  rw [this, hz1, Int.toNat_natCast]
  rfl
/-- fractions copied so far: the first k -/
def FrsTo (w : World) (g n : Nat) (l : List (ByteArray × ByteArray)) (k : Nat) : Prop :=
  ∃ c : Array Value, Blk w g c 62 ∧ c.size = n * 2 ∧ ∀ i, i < k → c[i * 2]? = some (.string (l.getD i (⟨#[]⟩, ⟨#[]⟩)).1) ∧ c[i * 2 + 1]? = some (.string (l.getD i (⟨#[]⟩, ⟨#[]⟩)).2)
theorem FrsTo.new (w : World) (n : Nat) (l : List (ByteArray × ByteArray)) : FrsTo (w.alloc (.cells (madeCells #[.string ⟨#[]⟩, .string ⟨#[]⟩] (n * 2)) 62)) w.heap.size n l 0 :=
  ⟨_, Blk.new _ _ _, size_madeCells _ _, fun i hi => by omega⟩
theorem FrsTo.at {w : World} {g n k : Nat} {l : List (ByteArray × ByteArray)} (h : FrsTo w g n l k) (hk : k < n) :
    ∃ u u', w.cell? ⟨g, k * 2, none⟩ = some u ∧ w.cell? ⟨g, k * 2 + 1, none⟩ = some u' ∧ w.frozen? ⟨g, k * 2, none⟩ = false ∧ w.frozen? ⟨g, k * 2 + 1, none⟩ = false ∧ g < w.heap.size := by
  obtain ⟨c, hB, hs, _⟩ := h
  refine ⟨c[k * 2]'(by omega), c[k * 2 + 1]'(by omega), ?_, ?_, hB.frozen _, hB.frozen _, hB.lt⟩
  · rw [hB.cell, Array.getElem?_eq_getElem (by omega)]
  · rw [hB.cell, Array.getElem?_eq_getElem (by omega)]
theorem FrsTo.keep {w w' : World} {g n k : Nat} {l : List (ByteArray × ByteArray)} (h : FrsTo w g n l k) (hb : Below w.heap.size w w') : FrsTo w' g n l k := by
  obtain ⟨c, hB, hs, hc⟩ := h
  exact ⟨c, hB.keep hb hB.lt, hs, hc⟩
theorem FrsTo.step {w : World} {g n k : Nat} {l : List (ByteArray × ByteArray)} {x y : ByteArray} (h : FrsTo w g n l k) (hk : k < n) (hx : (l.getD k (⟨#[]⟩, ⟨#[]⟩)) = (x, y)) :
    FrsTo ((w.setCell ⟨g, k * 2, none⟩ (.string x)).setCell ⟨g, k * 2 + 1, none⟩ (.string y)) g n l (k + 1) := by
  obtain ⟨c, hB, hs, hc⟩ := h
  refine ⟨_, (hB.set (k * 2) (.string x)).set (k * 2 + 1) (.string y), by simp [hs], fun i hi => ?_⟩
  by_cases e : i = k
  · subst e
    rw [hx]
    refine ⟨?_, ?_⟩
    · rw [Array.getElem?_setIfInBounds_ne (by omega), Array.getElem?_setIfInBounds_self_of_lt (by omega)]
    · rw [Array.getElem?_setIfInBounds_self_of_lt (by simp; omega)]
  · obtain ⟨h1, h2⟩ := hc i (by omega)
    refine ⟨?_, ?_⟩
    · rw [Array.getElem?_setIfInBounds_ne (by omega), Array.getElem?_setIfInBounds_ne (by omega)]; exact h1
    · rw [Array.getElem?_setIfInBounds_ne (by omega), Array.getElem?_setIfInBounds_ne (by omega)]; exact h2
theorem FrsTo.done {w : World} {g : Nat} {l : List (ByteArray × ByteArray)} (h : FrsTo w g l.length l l.length) (hm : l.length ≤ 2097152) : FrL w (.slice (some ⟨g, 0, none⟩) l.length l.length) l := by
  obtain ⟨c, hB, hs, hc⟩ := h
  refine ⟨by unfold maxLen; omega, _, _, rfl, fun i hi => ⟨g, 0, rfl, ?_, ?_⟩⟩
  · rw [Nat.zero_add, hB.cell]; exact (hc i hi).1
  · rw [Nat.zero_add, hB.cell]; exact (hc i hi).2
theorem cell_set_next' (w : World) (b i : Nat) (u : Value) : (w.setCell ⟨b, i, none⟩ u).cell? ⟨b, i + 1, none⟩ = w.cell? ⟨b, i + 1, none⟩ := by
  exact World.cell?_setCell_other _ _ _ _ (fun h => by injection h with _ h2 _; omega)
theorem frozen_set_next' (w : World) (b i : Nat) (u : Value) : (w.setCell ⟨b, i, none⟩ u).frozen? ⟨b, i + 1, none⟩ = w.frozen? ⟨b, i + 1, none⟩ := by
  rw [World.frozen?_setCell]

set_option maxHeartbeats 4000000 in
theorem toFractionS_any (v : Value) (l : List (ByteArray × ByteArray)) (w : World) (hv : FrL w v l) (h1 : l.length ≤ 2097152) :
    Calls Try.prog 10 #[v] w fun e w' => ∃ a cap, e = .returned (.slice a l.length cap) ∧ FrL w' (.slice a l.length cap) l ∧ Below w.heap.size w w' := by
  obtain ⟨hm, va, vc, rfl, _⟩ := id hv
  unfold maxLen at hm
  have hmk := make_frs l.length (by omega)
  have hn0 := Lib.hid (FrsTo.new w l.length l)
  have B0 := Lib.hid (below1 w (.cells (madeCells #[.string ⟨#[]⟩, .string ⟨#[]⟩] (l.length * 2)) 62))
  have hv' := Lib.hid hv
  have hdn := Lib.hid (fun W h => FrsTo.done (w := W) (g := w.heap.size) (l := l) h h1)
  clear hv
  obtain ⟨n, hn⟩ : ∃ n, n = l.length := ⟨_, rfl⟩
  rw [← hn] at hm hmk hn0 B0 h1 hdn ⊢
  have hn' := Lib.hid hn
  clear hn
  go_enter Try.func10, Try.ntmps10
  go_wp2
  go_loopw [4] (fun i wr => ∃ k : Nat, k ≤ n ∧ i = .int .i64 k ∧ Hid (FrsTo wr w.heap.size n l k) ∧ Hid (Below w.heap.size w wr)) (fun i _ => n - (intOf i).toNat)
  case atStart => exact ⟨0, Nat.zero_le _, rfl, hn0, B0⟩
  case round =>
    obtain ⟨k, hk, rfl, hown, bel⟩ := hrel
    by_cases hlt : k < n
    · obtain ⟨b, off, rfl, q0, q1⟩ := (hv'.out.keep bel.out).at k (by rw [← hn'.out]; exact hlt)
      obtain ⟨c, hc⟩ : ∃ c, l.getD k (⟨#[]⟩, ⟨#[]⟩) = c := ⟨_, rfl⟩
      rw [hc] at q0 q1
      obtain ⟨cn, cd⟩ := c
      simp only at q0 q1
      have hc' := Lib.hid hc
      have ht := Lib.hid (fun W => toFraction_any cn cd W)
      clear hc
      go_wp2_with fail
      (with_reducible refine (ht.out _).mono ?_)
      rintro e w1 ⟨rfl, b1⟩
      have hown1 := hown.out.keep b1
      obtain ⟨u, u', hcg0, hcg1, hfg0, hfg1, hlo⟩ := hown1.at hlt
      have B1 := Lib.hid (below_wt bel.out b1)
      have hcg2 : (w1.setCell ⟨w.heap.size, k * 2, none⟩ (.string cn)).cell? ⟨w.heap.size, k * 2 + 1, none⟩ = some u' := by rw [cell_set_next']; exact hcg1
      have hfg2 : (w1.setCell ⟨w.heap.size, k * 2, none⟩ (.string cn)).frozen? ⟨w.heap.size, k * 2 + 1, none⟩ = false := by rw [frozen_set_next']; exact hfg1
      have hst := Lib.hid (hown1.step hlt hc'.out)
      clear hown1 b1 q0 q1 hlo
      go_wp2
      go_roundw
      case rel => exact ⟨k + 1, by omega, by go_num, hst, Lib.hid ((B1.out.setCell (Nat.le_refl _) _).setCell (Nat.le_refl _) _)⟩
      case measure => simp [intOf]; omega
    · obtain rfl : n = k := by omega
      have hfin := Lib.hid (hdn.out _ hown.out)
      go_wp2
      go_ret
      exact ⟨_, _, rfl, hfin.out, bel.out⟩

theorem eqFraction_same (n d : ByteArray) (w : World) : Calls Try.prog 35 #[.agg #[.string n, .string d], .agg #[.string n, .string d]] w fun e w' => e = .returned (.bool true) ∧ Below w.heap.size w w' := by
  have bel := below2 w (.cells #[.string n, .string d] 62) (.cells #[.string n, .string d] 62)
  go_enter Try.func35, Try.ntmps35
  go_wp2
  go_ret
  exact ⟨rfl, bel⟩

set_option maxHeartbeats 4000000 in
theorem eqFractionS_same (v1 v2 : Value) (l : List (ByteArray × ByteArray)) (w : World) (hv1 : FrL w v1 l) (hv2 : FrL w v2 l) :
    Calls Try.prog 12 #[v1, v2] w fun e w' => e = .returned (.bool true) ∧ Below w.heap.size w w' := by
  have g1 := Lib.hid hv1
  have g2 := Lib.hid hv2
  obtain ⟨hm, va, vc, rfl, _⟩ := hv1
  obtain ⟨_, ua, uc, rfl, _⟩ := hv2
  unfold maxLen at hm
  obtain ⟨n, hn⟩ : ∃ n, n = l.length := ⟨_, rfl⟩
  rw [← hn] at hm g1 g2 ⊢
  have hn' := Lib.hid hn
  clear hn
  go_enter Try.func12, Try.ntmps12
  go_wp2
  go_loopw [5] (fun i wr => ∃ k : Nat, k ≤ n ∧ i = .int .i64 k ∧ Hid (Below w.heap.size w wr)) (fun i _ => n - (intOf i).toNat)
  case atStart => exact ⟨0, Nat.zero_le _, rfl, Lib.hid (Below.refl _ _)⟩
  case round =>
    obtain ⟨k, hk, rfl, bel⟩ := hrel
    by_cases hlt : k < n
    · obtain ⟨b, off, rfl, q0, q1⟩ := (g1.out.keep bel.out).at k (by rw [← hn'.out]; exact hlt)
      obtain ⟨b', off', rfl, p0, p1⟩ := (g2.out.keep bel.out).at k (by rw [← hn'.out]; exact hlt)
      generalize l.getD k (⟨#[]⟩, ⟨#[]⟩) = c at *
      obtain ⟨cn, cd⟩ := c
      simp only at q0 q1 p0 p1
      have i0 : (0 : Int) ≤ (k : Int) := by omega
      have i1 : (k : Int) < (n : Int) := by omega
      replace q0 : wr.drew.cell? ⟨b, off + k * 2, none⟩ = some (.string cn) := q0
      replace q1 : wr.drew.cell? ⟨b, off + k * 2 + 1, none⟩ = some (.string cd) := q1
      replace p0 : wr.drew.cell? ⟨b', off' + k * 2, none⟩ = some (.string cn) := p0
      replace p1 : wr.drew.cell? ⟨b', off' + k * 2 + 1, none⟩ = some (.string cd) := p1
      go_wp2_with fail
      go_region_held3 (fun w' => w'.cell? ⟨b, off + k * 2, none⟩ = some (.string cn) ∧ w'.cell? ⟨b, off + k * 2 + 1, none⟩ = some (.string cd) ∧ w'.cell? ⟨b', off' + k * 2, none⟩ = some (.string cn) ∧ w'.cell? ⟨b', off' + k * 2 + 1, none⟩ = some (.string cd))
        (first | go_keep | fail "no keep")
        (first
          | (go_at_call 35; ((with_reducible refine (eqFraction_same cn cd _).mono ?_); rintro e u1 ⟨rfl, b1⟩; replace q0 : u1.cell? ⟨b, off + k * 2, none⟩ = some (.string cn) := (b1.cell (p := ⟨b, off + k * 2, none⟩) (block_lt q0)).trans q0; replace q1 : u1.cell? ⟨b, off + k * 2 + 1, none⟩ = some (.string cd) := (b1.cell (p := ⟨b, off + k * 2 + 1, none⟩) (block_lt q1)).trans q1; replace p0 : u1.cell? ⟨b', off' + k * 2, none⟩ = some (.string cn) := (b1.cell (p := ⟨b', off' + k * 2, none⟩) (block_lt p0)).trans p0; replace p1 : u1.cell? ⟨b', off' + k * 2 + 1, none⟩ = some (.string cd) := (b1.cell (p := ⟨b', off' + k * 2 + 1, none⟩) (block_lt p1)).trans p1))
          | fail "no arm")
      have B1 := Lib.hid (below_wt bel.out.drew b1)
      clear b1 q0 q1 p0 p1
      go_wp2
      go_roundw
      case rel => exact ⟨k + 1, by omega, by go_num, B1⟩
      case measure => simp [intOf]; omega
    · obtain rfl : n = k := by omega
      go_wp2
      go_ret
      exact ⟨rfl, bel.out⟩
end Go.Proofs.Ytjkekhiceadpgaa
