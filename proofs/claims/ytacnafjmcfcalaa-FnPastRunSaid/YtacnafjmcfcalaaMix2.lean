/- MixChains of the project and of the specification: both return 'mixOf'. Conditions: none on the chains beyond what is read. -/
import Derived.Test.YtacnafjmcfcalaaMix
namespace Go.Proofs.Ytacnafjmcfcalaa
open Go.RowKit Go.Deep

def zeroCh : Ch := ⟨0, 0, []⟩
def lim (c : Ch) : Ch × Int := if chOk c = true then (c, 0) else (zeroCh, 3)
/-- the code of two chains with the same states -/
def pairCode (c d : Ch) : Int := if chOk c = true ∧ chOk d = true then (if c.n = d.n then 0 else 2) else 1
theorem zero_ch (w : World) : ChR w (.agg #[.int .i64 0, .int .i64 0, .slice none 0 0]) zeroCh :=
  ⟨_, rfl, [], ⟨by simp, none, 0, rfl, ⟨Nat.le_refl _, Nat.zero_le _⟩, fun i hi => by simp at hi⟩, rfl, fun i hi => by simp [zeroCh] at hi⟩
theorem zero_own (w : World) (lo hi : Nat) : ChOwn 28 2 w lo hi (.agg #[.int .i64 0, .int .i64 0, .slice none 0 0]) zeroCh :=
  ⟨_, rfl, [], ⟨World.ownsRow_nil w lo _ _, by simp, fun k hk => by simp [Value.ownBlock] at hk⟩, rfl, fun i hi => by simp [zeroCh] at hi, fun i hi => by simp [zeroCh] at hi, fun i j hi => by simp [zeroCh] at hi⟩

theorem ChR.rows {w : World} {v : Value} {c : Ch} (h : ChR w (.agg #[.int .i64 c.n, .int .i64 c.t, v]) c) : Rows2 w v c.w := by
  obtain ⟨v', hv', hr⟩ := h
  simp only [Value.agg.injEq, Array.mk.injEq, List.cons.injEq, and_true, true_and] at hv'
  rw [hv']; exact hr

def mixOf (c d : Ch) : Ch × Int := if pairCode c d = 0 then lim (mixCh c d) else (zeroCh, pairCode c d)
theorem pair_zero {c d : Ch} (h : pairCode c d = 0) : chOk c = true ∧ chOk d = true ∧ c.n = d.n := by
  unfold pairCode at h
  split at h
  · split at h
    · rename_i h1 h2; exact ⟨h1.1, h1.2, h2⟩
    · omega
  · omega

/-! ### the project's -/
/-! ### the mixed chain is valid just if its total is -/
theorem rowsOf_length (n : Nat) (f : Nat → Nat → Int) : (rowsOf n f).length = n := by simp [rowsOf]
theorem sum_map_add (l : List Nat) (f g : Nat → Int) : (l.map fun i => f i + g i).sum = (l.map f).sum + (l.map g).sum := by
  induction l with
  | nil => rfl
  | cons x r ih => simp only [List.map_cons, List.sum_cons, ih]; omega
theorem sum_map_mul (l : List Nat) (f : Nat → Int) (k : Int) : (l.map fun i => f i * k).sum = (l.map f).sum * k := by
  induction l with
  | nil => simp
  | cons x r ih => simp only [List.map_cons, List.sum_cons, ih, Int.add_mul]
theorem map_getD_range (row : List Int) : (List.range row.length).map (fun i => row.getD i 0) = row := by
  apply List.ext_getElem (by simp)
  intro i h1 h2
  simp [List.getD, h2]
theorem okRow_of {n : Nat} {t : Int} {row : List Int} (h1 : row.length = n) (h2 : ∀ x ∈ row, 0 ≤ x) (h3 : row.sum = t) : okRow n t row = true := by
  have hle : ∀ x ∈ row, x ≤ row.sum := by
    clear h1 h3
    induction row with
    | nil => simp
    | cons y r ih =>
      have hr : 0 ≤ r.sum := by
        clear ih
        induction r with
        | nil => simp
        | cons z q ih2 => simp only [List.sum_cons]; have := h2 z (by simp); have := ih2 (fun x hx => h2 x (by simp at hx ⊢; rcases hx with h | h <;> simp [h])); omega
      intro x hx
      simp only [List.mem_cons] at hx
      simp only [List.sum_cons]
      rcases hx with rfl | hx
      · omega
      · have := ih (fun z hz => h2 z (by simp [hz])) x hx
        have := h2 y (by simp)
        omega
  simp only [okRow, Bool.and_eq_true, decide_eq_true_eq, List.all_eq_true, inB_iff]
  exact ⟨by omega, fun x hx => ⟨h2 x hx, by rw [← h3]; exact hle x hx⟩, h3⟩

theorem mix_ok {c d : Ch} (oc : chOk c = true) (od : chOk d = true) (hn : c.n = d.n) (ht : 2 * c.t * d.t ≤ 60) : chOk (mixCh c d) = true := by
  obtain ⟨n1, n2, t1, t2, hlen, hrows⟩ := chOk_all oc
  obtain ⟨m1, m2, u1, u2, hlen2, hrows2⟩ := chOk_all od
  have hpos : 1 ≤ 2 * c.t * d.t := by
    have := Int.mul_le_mul (show (2 : Int) ≤ 2 * c.t by omega) u1 (by omega) (by omega)
    omega
  have hN : (c.n.toNat : Int) = c.n := by omega
  simp only [chOk, mixCh, Bool.and_eq_true, decide_eq_true_eq, List.all_eq_true, inB_iff, rowsOf_length]
  refine ⟨⟨n1, n2⟩, ⟨hpos, ht⟩, hN, fun r hr => ?_⟩
  simp only [rowsOf, List.mem_map, List.mem_range] at hr
  obtain ⟨s, hs, rfl⟩ := hr
  obtain ⟨q1, q2, q3⟩ := okRow_all (hrows _ (getD_mem (d := []) (show s < c.w.length by omega)))
  obtain ⟨p1, p2, p3⟩ := okRow_all (hrows2 _ (getD_mem (d := []) (show s < d.w.length by omega)))
  have key : okRow (c.n.toNat : Nat) (2 * c.t * d.t) ((List.range c.n.toNat).map fun t => mixF c d s t) = true := by
    refine okRow_of (by simp) (fun x hx => ?_) ?_
    · simp only [List.mem_map, List.mem_range] at hx
      obtain ⟨j, hj, rfl⟩ := hx
      have h1 := q2 _ (getD_mem (d := 0) (show j < (c.w.getD s []).length by omega))
      have h2 := p2 _ (getD_mem (d := 0) (show j < (d.w.getD s []).length by omega))
      have := Int.mul_nonneg h1.1 (show 0 ≤ d.t by omega)
      have := Int.mul_nonneg h2.1 (show 0 ≤ c.t by omega)
      simp only [mixF]; omega
    · have e1 : (List.range c.n.toNat).map (fun j => (c.w.getD s []).getD j 0) = c.w.getD s [] := by
        have : c.n.toNat = (c.w.getD s []).length := by omega
        rw [this]; exact map_getD_range _
      have e2 : (List.range c.n.toNat).map (fun j => (d.w.getD s []).getD j 0) = d.w.getD s [] := by
        have : c.n.toNat = (d.w.getD s []).length := by omega
        rw [this]; exact map_getD_range _
      simp only [mixF]
      rw [sum_map_add, sum_map_mul, sum_map_mul, e1, e2, q3, p3]
      have : d.t * c.t = c.t * d.t := Int.mul_comm _ _
      rw [this, Int.mul_assoc]; omega
  rw [hN] at key
  exact key
theorem mix_lim {c d : Ch} (oc : chOk c = true) (od : chOk d = true) (hn : c.n = d.n) : lim (mixCh c d) = if 60 < 2 * c.t * d.t then (zeroCh, 3) else (mixCh c d, 0) := by
  by_cases h : 60 < 2 * c.t * d.t
  · have : chOk (mixCh c d) = false := by
      rw [Bool.eq_false_iff]; intro hc
      have := (chOk_all hc).2.2.2.1
      simp only [mixCh] at this; omega
    simp [lim, this, h]
  · simp [lim, mix_ok oc od hn (by omega), h]

end Go.Proofs.Ytacnafjmcfcalaa
