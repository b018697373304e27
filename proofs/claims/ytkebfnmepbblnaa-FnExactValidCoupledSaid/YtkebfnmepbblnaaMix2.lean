/- MixChains of the project and of the specification: both return 'mixOf'. Conditions: none on the chains beyond what is read. -/
import Derived.Test.YtkebfnmepbblnaaMix
namespace Go.Proofs.Ytkebfnmepbblnaa
open Go.RowKit Go.Deep

def zeroCh : Ch := ⟨0, 0, []⟩
def lim (c : Ch) : Ch × Int := if chOk c = true then (c, 0) else (zeroCh, 3)
/-- the code of two chains with the same states -/
def pairCode (c d : Ch) : Int := if chOk c = true ∧ chOk d = true then (if c.n = d.n then 0 else 2) else 1
theorem zero_ch (w : World) : ChR w (.agg #[.int .i64 0, .int .i64 0, .slice none 0 0]) zeroCh :=
  ⟨_, rfl, [], ⟨by simp, none, 0, rfl, ⟨Nat.le_refl _, Nat.zero_le _⟩, fun i hi => by simp at hi⟩, rfl, fun i hi => by simp [zeroCh] at hi⟩
theorem zero_own (w : World) (lo hi : Nat) : ChOwn 25 2 w lo hi (.agg #[.int .i64 0, .int .i64 0, .slice none 0 0]) zeroCh :=
  ⟨_, rfl, [], ⟨World.ownsRow_nil w lo _ _, by simp, fun k hk => by simp [Value.ownBlock] at hk⟩, rfl, fun i hi => by simp [zeroCh] at hi, fun i hi => by simp [zeroCh] at hi, fun i j hi => by simp [zeroCh] at hi⟩

theorem ChR.rows {w : World} {v : Value} {c : Ch} (h : ChR w (.agg #[.int .i64 c.n, .int .i64 c.t, v]) c) : Rows2 w v c.w := by
  obtain ⟨v', hv', hr⟩ := h
  simp only [Value.agg.injEq, Array.mk.injEq, List.cons.injEq, and_true, true_and] at hv'
  rw [hv']; exact hr

def mixOf (c d : Ch) : Ch × Int := if pairCode c d = 0 then lim (mixCh c d) else (zeroCh, pairCode c d)
theorem pair_zero {c d : Ch} (h : pairCode c d = 0) : chOk c = true ∧ chOk d = true ∧ c.n = d.n := by
  unfold pairCode at h
  split at h
  · split at h
    · rename_i h1 h2; exact ⟨h1.1, h1.2, h2⟩
    · omega
  · omega

/-! ### the project's -/
set_option maxHeartbeats 4000000 in
theorem checkTwo_any (cv dv : Value) (c d : Ch) (w : World) (hc : ChR w cv c) (hd : ChR w dv d) :
    Calls Try.prog 159 #[cv, dv] w fun e w' => e = .returned (.int .i64 (pairCode c d)) ∧ Below w.heap.size w w' := by
  obtain ⟨a, cap, rfl⟩ : ∃ a cap, cv = .agg #[.int .i64 c.n, .int .i64 c.t, .slice a c.w.length cap] := by
    obtain ⟨v, rfl, hr⟩ := hc
    obtain ⟨_, a, cap, rfl⟩ := hr.len
    exact ⟨a, cap, rfl⟩
  obtain ⟨a', cap', rfl⟩ : ∃ a cap, dv = .agg #[.int .i64 d.n, .int .i64 d.t, .slice a d.w.length cap] := by
    obtain ⟨v, rfl, hr⟩ := hd
    obtain ⟨_, a, cap, rfl⟩ := hr.len
    exact ⟨a, cap, rfl⟩
  have B0 := below2 w (.cells #[.int .i64 c.n, .int .i64 c.t, .slice a c.w.length cap] 29) (.cells #[.int .i64 d.n, .int .i64 d.t, .slice a' d.w.length cap'] 29)
  have hB := (Blk.new w #[.int .i64 c.n, .int .i64 c.t, .slice a c.w.length cap] 29).alloc (.cells #[.int .i64 d.n, .int .i64 d.t, .slice a' d.w.length cap'] 29)
  have hD := Blk.new (w.alloc (.cells #[.int .i64 c.n, .int .i64 c.t, .slice a c.w.length cap] 29)) #[.int .i64 d.n, .int .i64 d.t, .slice a' d.w.length cap'] 29
  simp only [World.size_alloc] at hD
  have Kc := hc.keep B0
  have Kd := hd.keep B0
  by_cases oc : chOk c = true
  · by_cases od : chOk d = true
    · by_cases hn : c.n = d.n
      · have hr := Lib.hid (show pairCode c d = 0 by simp [pairCode, oc, od, hn])
        have hn1 : (c.n != d.n) = false := by simpa using hn
        clear hn
        go_enter Try.func159, Try.ntmps159
        go_wp2_with fail
        refine (ValidChain_impl _ c _ Kc).mono ?_
        rintro e w1 ⟨rfl, b1⟩
        have hB1 := hB.keep b1 hB.lt
        have hD1 := hD.keep b1 hD.lt
        have g0 : w1.cell? _ = _ := hD1.cell 0
        have g1 : w1.cell? _ = _ := hD1.cell 1
        have g2 : w1.cell? _ = _ := hD1.cell 2
        simp at g0 g1 g2
        go_wp2_with fail
        refine (ValidChain_impl _ d _ (Kd.keep b1)).mono ?_
        rintro e w2 ⟨rfl, b2⟩
        have hB2 := hB1.keep b2 hB1.lt
        have hD2 := hD1.keep b2 hD1.lt
        have k0 : w2.cell? _ = _ := hD2.cell 0
        have k1 : w2.cell? _ = _ := hB2.cell 0
        simp at k0 k1
        go_wp2
        go_ret
        exact ⟨ret_int hr.out.symm, below_wt (below_wt B0 b1) b2⟩
      · have hr := Lib.hid (show pairCode c d = 2 by simp [pairCode, oc, od, hn])
        have hn1 : (c.n != d.n) = true := by simpa using hn
        clear hn
        go_enter Try.func159, Try.ntmps159
        go_wp2_with fail
        refine (ValidChain_impl _ c _ Kc).mono ?_
        rintro e w1 ⟨rfl, b1⟩
        have hB1 := hB.keep b1 hB.lt
        have hD1 := hD.keep b1 hD.lt
        have g0 : w1.cell? _ = _ := hD1.cell 0
        have g1 : w1.cell? _ = _ := hD1.cell 1
        have g2 : w1.cell? _ = _ := hD1.cell 2
        simp at g0 g1 g2
        go_wp2_with fail
        refine (ValidChain_impl _ d _ (Kd.keep b1)).mono ?_
        rintro e w2 ⟨rfl, b2⟩
        have hB2 := hB1.keep b2 hB1.lt
        have hD2 := hD1.keep b2 hD1.lt
        have k0 : w2.cell? _ = _ := hD2.cell 0
        have k1 : w2.cell? _ = _ := hB2.cell 0
        simp at k0 k1
        go_wp2
        go_ret
        exact ⟨ret_int hr.out.symm, below_wt (below_wt B0 b1) b2⟩
    · have od' : chOk d = false := by simpa using od
      have hr := Lib.hid (show pairCode c d = 1 by simp [pairCode, od'])
      clear od
      go_enter Try.func159, Try.ntmps159
      go_wp2_with fail
      refine (ValidChain_impl _ c _ Kc).mono ?_
      rintro e w1 ⟨rfl, b1⟩
      have hD1 := hD.keep b1 hD.lt
      have g0 : w1.cell? _ = _ := hD1.cell 0
      have g1 : w1.cell? _ = _ := hD1.cell 1
      have g2 : w1.cell? _ = _ := hD1.cell 2
      simp at g0 g1 g2
      go_wp2_with fail
      refine (ValidChain_impl _ d _ (Kd.keep b1)).mono ?_
      rintro e w2 ⟨rfl, b2⟩
      go_wp2
      go_ret
      exact ⟨ret_int hr.out.symm, below_wt (below_wt B0 b1) b2⟩
  · have oc' : chOk c = false := by simpa using oc
    have hr := Lib.hid (show pairCode c d = 1 by simp [pairCode, oc'])
    clear oc
    go_enter Try.func159, Try.ntmps159
    go_wp2_with fail
    refine (ValidChain_impl _ c _ Kc).mono ?_
    rintro e w1 ⟨rfl, b1⟩
    go_wp2
    go_ret
    exact ⟨ret_int hr.out.symm, below_wt B0 b1⟩

set_option maxHeartbeats 4000000 in
theorem makeChain_lim (n t : Int) (F : Nat) (caps : Array Value) (w : World) (h : 6 < n ∨ 60 < t) :
    Calls Try.prog 169 #[.int .i64 n, .int .i64 t, .func (.func F) #[] caps] w fun e w' => e = .returned (.tuple #[.agg #[.int .i64 0, .int .i64 0, .slice none 0 0], .int .i64 3]) ∧ Below w.heap.size w w' := by
  have hA := Blk.new w #[.int .i64 0, .int .i64 0, .slice none 0 0] 29
  by_cases h1 : 6 < n
  · have h1' : decide (6 < n) = true := decide_eq_true h1
    clear h
    go_enter Try.func169, Try.ntmps169
    go_wp2
    refine bodyPost_ret (v := .tuple #[.agg #[.int .i64 0, .int .i64 0, .slice none 0 0], .int .i64 3]) (by simp [results, Try.results169, go_sem]) rfl ⟨rfl, below1 _ _⟩
  · have h2 : 60 < t := by omega
    have h1' : decide (6 < n) = false := decide_eq_false h1
    clear h h1
    go_enter Try.func169, Try.ntmps169
    go_wp2
    refine bodyPost_ret (v := .tuple #[.agg #[.int .i64 0, .int .i64 0, .slice none 0 0], .int .i64 3]) (by simp [results, Try.results169, go_sem]) rfl ⟨rfl, below1 _ _⟩

/-! ### the mixed chain is valid just if its total is -/
theorem rowsOf_length (n : Nat) (f : Nat → Nat → Int) : (rowsOf n f).length = n := by simp [rowsOf]
theorem sum_map_add (l : List Nat) (f g : Nat → Int) : (l.map fun i => f i + g i).sum = (l.map f).sum + (l.map g).sum := by
  induction l with
  | nil => rfl
  | cons x r ih => simp only [List.map_cons, List.sum_cons, ih]; omega
theorem sum_map_mul (l : List Nat) (f : Nat → Int) (k : Int) : (l.map fun i => f i * k).sum = (l.map f).sum * k := by
  induction l with
  | nil => simp
  | cons x r ih => simp only [List.map_cons, List.sum_cons, ih, Int.add_mul]
theorem map_getD_range (row : List Int) : (List.range row.length).map (fun i => row.getD i 0) = row := by
  apply List.ext_getElem (by simp)
  intro i h1 h2
  simp [List.getD, h2]
theorem okRow_of {n : Nat} {t : Int} {row : List Int} (h1 : row.length = n) (h2 : ∀ x ∈ row, 0 ≤ x) (h3 : row.sum = t) : okRow n t row = true := by
  have hle : ∀ x ∈ row, x ≤ row.sum := by
    clear h1 h3
    induction row with
    | nil => simp
    | cons y r ih =>
      have hr : 0 ≤ r.sum := by
        clear ih
        induction r with
        | nil => simp
        | cons z q ih2 => simp only [List.sum_cons]; have := h2 z (by simp); have := ih2 (fun x hx => h2 x (by simp at hx ⊢; rcases hx with h | h <;> simp [h])); omega
      intro x hx
      simp only [List.mem_cons] at hx
      simp only [List.sum_cons]
      rcases hx with rfl | hx
      · omega
      · have := ih (fun z hz => h2 z (by simp [hz])) x hx
        have := h2 y (by simp)
        omega
  simp only [okRow, Bool.and_eq_true, decide_eq_true_eq, List.all_eq_true, inB_iff]
  exact ⟨by omega, fun x hx => ⟨h2 x hx, by rw [← h3]; exact hle x hx⟩, h3⟩

theorem mix_ok {c d : Ch} (oc : chOk c = true) (od : chOk d = true) (hn : c.n = d.n) (ht : 2 * c.t * d.t ≤ 60) : chOk (mixCh c d) = true := by
  obtain ⟨n1, n2, t1, t2, hlen, hrows⟩ := chOk_all oc
  obtain ⟨m1, m2, u1, u2, hlen2, hrows2⟩ := chOk_all od
  have hpos : 1 ≤ 2 * c.t * d.t := by
    have := Int.mul_le_mul (show (2 : Int) ≤ 2 * c.t by omega) u1 (by omega) (by omega)
    omega
  have hN : (c.n.toNat : Int) = c.n := by omega
  simp only [chOk, mixCh, Bool.and_eq_true, decide_eq_true_eq, List.all_eq_true, inB_iff, rowsOf_length]
  refine ⟨⟨n1, n2⟩, ⟨hpos, ht⟩, hN, fun r hr => ?_⟩
  simp only [rowsOf, List.mem_map, List.mem_range] at hr
  obtain ⟨s, hs, rfl⟩ := hr
  obtain ⟨q1, q2, q3⟩ := okRow_all (hrows _ (getD_mem (d := []) (show s < c.w.length by omega)))
  obtain ⟨p1, p2, p3⟩ := okRow_all (hrows2 _ (getD_mem (d := []) (show s < d.w.length by omega)))
  have key : okRow (c.n.toNat : Nat) (2 * c.t * d.t) ((List.range c.n.toNat).map fun t => mixF c d s t) = true := by
    refine okRow_of (by simp) (fun x hx => ?_) ?_
    · simp only [List.mem_map, List.mem_range] at hx
      obtain ⟨j, hj, rfl⟩ := hx
      have h1 := q2 _ (getD_mem (d := 0) (show j < (c.w.getD s []).length by omega))
      have h2 := p2 _ (getD_mem (d := 0) (show j < (d.w.getD s []).length by omega))
      have := Int.mul_nonneg h1.1 (show 0 ≤ d.t by omega)
      have := Int.mul_nonneg h2.1 (show 0 ≤ c.t by omega)
      simp only [mixF]; omega
    · have e1 : (List.range c.n.toNat).map (fun j => (c.w.getD s []).getD j 0) = c.w.getD s [] := by
        have : c.n.toNat = (c.w.getD s []).length := by omega
        rw [this]; exact map_getD_range _
      have e2 : (List.range c.n.toNat).map (fun j => (d.w.getD s []).getD j 0) = d.w.getD s [] := by
        have : c.n.toNat = (d.w.getD s []).length := by omega
        rw [this]; exact map_getD_range _
      simp only [mixF]
      rw [sum_map_add, sum_map_mul, sum_map_mul, e1, e2, q3, p3]
      have : d.t * c.t = c.t * d.t := Int.mul_comm _ _
      rw [this, Int.mul_assoc]; omega
  rw [hN] at key
  exact key
theorem mix_lim {c d : Ch} (oc : chOk c = true) (od : chOk d = true) (hn : c.n = d.n) : lim (mixCh c d) = if 60 < 2 * c.t * d.t then (zeroCh, 3) else (mixCh c d, 0) := by
  by_cases h : 60 < 2 * c.t * d.t
  · have : chOk (mixCh c d) = false := by
      rw [Bool.eq_false_iff]; intro hc
      have := (chOk_all hc).2.2.2.1
      simp only [mixCh] at this; omega
    simp [lim, this, h]
  · simp [lim, mix_ok oc od hn (by omega), h]

end Go.Proofs.Ytkebfnmepbblnaa
