/- Where all come together, and after how many maps: what both sides answer; the test of the specification. Conditions: told in each. -/
import Derived.Test.YtacnafjmcfcalaaImg
namespace Go.Proofs.Ytacnafjmcfcalaa
open Go.RowKit Go.Deep
set_option linter.unusedVariables false

/-- all alike -/
def eqAll (xs : List Int) : Bool := xs.all fun x => x == xs.getD 0 0
/-- the bits of some states -/
def imgOf (xs : List Int) : Nat := xs.foldl (fun a x => a ||| 2 ^ x.toNat) 0
theorem imgOf_bit_aux : ∀ (xs : List Int) (a s : Nat), (xs.foldl (fun a x => a ||| 2 ^ x.toNat) a).testBit s = (a.testBit s || xs.any fun x => x.toNat == s)
  | [], a, s => by simp
  | x :: r, a, s => by
    rw [List.foldl_cons, imgOf_bit_aux r, Nat.testBit_or, Nat.testBit_two_pow, List.any_cons, Bool.or_assoc]
    congr 1
theorem imgOf_bit (xs : List Int) (s : Nat) : (imgOf xs).testBit s = xs.any fun x => x.toNat == s := by
  unfold imgOf; rw [imgOf_bit_aux]; simp
theorem imgOf_lt {xs : List Int} (h : ∀ x ∈ xs, 0 ≤ x ∧ x ≤ 5) : imgOf xs < 64 := by
  rw [show 64 = 2 ^ 6 by decide]
  refine Nat.lt_pow_two_of_testBit _ fun i hi => ?_
  rw [imgOf_bit, List.any_eq_false]
  intro x hx
  have := h x hx
  simp; omega
theorem allS_img (n : Nat) : imgOf (allS n) = 2 ^ n - 1 := by
  refine Nat.eq_of_testBit_eq fun i => ?_
  rw [imgOf_bit, Nat.testBit_two_pow_sub_one]
  by_cases h : i < n
  · rw [decide_eq_true h, List.any_eq_true]
    exact ⟨(i : Int), by simp [allS]; exact ⟨i, h, rfl⟩, by simp⟩
  · rw [decide_eq_false h, List.any_eq_false]
    intro x hx
    simp [allS] at hx
    obtain ⟨a, ha, rfl⟩ := hx
    simp; omega
theorem ledK_bit (i : Nat) (f : Nat → Int) (s : Nat) : ∀ k, (ledK i f k).testBit s = (List.range k).any fun j => i.testBit j && ((f j).toNat == s)
  | 0 => by simp [ledK]
  | k + 1 => by
    rw [List.range_succ, List.any_append, ← ledK_bit i f s k]
    unfold ledK
    cases h : i.testBit k
    · rw [if_neg (by simp)]; simp [h]; cases k <;> rfl
    · rw [if_pos rfl, Nat.testBit_or, Nat.testBit_two_pow]; simp [h]; cases k <;> rfl
theorem led_img {xs : List Int} (h : ∀ x ∈ xs, 0 ≤ x ∧ x ≤ 5) (f : Nat → Int) : ledK (imgOf xs) f 6 = imgOf (xs.map fun x => f x.toNat) := by
  refine Nat.eq_of_testBit_eq fun s => ?_
  rw [ledK_bit, imgOf_bit]
  rw [Bool.eq_iff_iff, List.any_eq_true, List.any_eq_true]
  constructor
  · rintro ⟨j, hj, hb⟩
    rw [Bool.and_eq_true, imgOf_bit, List.any_eq_true] at hb
    obtain ⟨⟨x, hx, hxj⟩, hf⟩ := hb
    simp only [beq_iff_eq] at hxj
    refine ⟨f x.toNat, List.mem_map.2 ⟨x, hx, rfl⟩, ?_⟩
    rw [hxj]; exact hf
  · rintro ⟨y, hy, hys⟩
    obtain ⟨x, hx, rfl⟩ := List.mem_map.1 hy
    have := h x hx
    refine ⟨x.toNat, by simp; omega, ?_⟩
    rw [Bool.and_eq_true, imgOf_bit, List.any_eq_true]
    exact ⟨⟨x, hx, by simp⟩, hys⟩
theorem ones_one : ∀ i : Fin 64, (Lib.onesCount i.val == 1) = (List.range 6).any (fun s => i.val == 2 ^ s) := by decide +kernel
theorem tz_pow : ∀ s : Fin 6, Lib.trailingZeros8 (2 ^ s.val) = s.val ∧ Lib.onesCount (2 ^ s.val) = 1 := by decide +kernel
theorem eqAll_iff {xs : List Int} : eqAll xs = true ↔ ∀ x ∈ xs, x = xs.getD 0 0 := by
  unfold eqAll; rw [List.all_eq_true]; simp
theorem imgOf_one {xs : List Int} (h : ∀ x ∈ xs, 0 ≤ x ∧ x ≤ 5) (hn : 0 < xs.length) (s : Nat) : imgOf xs = 2 ^ s ↔ ∀ x ∈ xs, x = (s : Int) := by
  constructor
  · intro e x hx
    have h0 := h x hx
    have : (imgOf xs).testBit x.toNat = true := by rw [imgOf_bit, List.any_eq_true]; exact ⟨x, hx, by simp⟩
    rw [e, Nat.testBit_two_pow] at this
    simp at this
    omega
  · intro e
    refine Nat.eq_of_testBit_eq fun i => ?_
    rw [imgOf_bit, Nat.testBit_two_pow, Bool.eq_iff_iff, List.any_eq_true]
    simp only [beq_iff_eq, decide_eq_true_eq]
    constructor
    · rintro ⟨x, hx, hi⟩
      have := e x hx
      omega
    · rintro rfl
      exact ⟨xs.getD 0 0, getD_mem hn, by rw [e _ (getD_mem hn)]; simp⟩
theorem sg_img {xs : List Int} (h : ∀ x ∈ xs, 0 ≤ x ∧ x ≤ 5) (hn : 0 < xs.length) : sgB (imgOf xs) = eqAll xs ∧ (eqAll xs = true → sgS (imgOf xs) = xs.getD 0 0) := by
  have h0 := h _ (getD_mem (d := 0) hn)
  have hp : eqAll xs = true ↔ imgOf xs = 2 ^ (xs.getD 0 0).toNat := by
    rw [eqAll_iff, imgOf_one h hn]
    constructor
    · intro g x hx; rw [g x hx]; omega
    · intro g x hx; rw [g x hx]; omega
  constructor
  · unfold sgB
    rw [ones_one ⟨_, imgOf_lt h⟩, Bool.eq_iff_iff, List.any_eq_true, hp]
    simp only [beq_iff_eq]
    constructor
    · rintro ⟨s, hs, e⟩
      have := (imgOf_one h hn s).1 e _ (getD_mem (d := 0) hn)
      rw [this]; simpa using e
    · intro e
      exact ⟨_, List.mem_range.2 (by omega), e⟩
  · intro g
    have e := hp.1 g
    obtain ⟨t1, t2⟩ := tz_pow ⟨(xs.getD 0 0).toNat, by omega⟩
    simp only at t1 t2
    unfold sgS
    rw [e, if_pos t2, t1]; omega
/-- the least number of steps, from k on, after which all have come together, if it may be taken -/
def leastF (run : Nat → List Int) (may : Nat → Bool) : Nat → Nat → Int × Int × Int
  | _, 0 => (0, 0, 6)
  | k, f + 1 => if (eqAll (run k) && may k) = true then ((run k).getD 0 0, (k : Int), 0) else leastF run may (k + 1) f
theorem leastF_yes {run : Nat → List Int} {may : Nat → Bool} {k L : Nat} (h : k ≤ L) (e : eqAll (run k) = true) (m : may k = true) : leastF run may k (L + 1 - k) = ((run k).getD 0 0, (k : Int), 0) := by
  obtain ⟨d, hd⟩ : ∃ d, L + 1 - k = d + 1 := ⟨L - k, by omega⟩
  rw [hd]; unfold leastF; rw [e, m]; rfl
theorem leastF_no {run : Nat → List Int} {may : Nat → Bool} {k L : Nat} (h : k ≤ L) (e : (eqAll (run k) && may k) = false) : leastF run may k (L + 1 - k) = leastF run may (k + 1) (L + 1 - (k + 1)) := by
  obtain ⟨d, hd⟩ : ∃ d, L + 1 - k = d + 1 := ⟨L - k, by omega⟩
  rw [hd, show L + 1 - (k + 1) = d by omega]
  conv => lhs; unfold leastF
  rw [e]; rfl
/-- ForwardRun's answer -/
def fwdOf (m : Ms) (ps : List Int) : Int × Int × Int := if askC m ps = 0 then leastF (fun k => runM m (allS m.n.toNat) ps k) (fun _ => true) 0 (ps.length + 1 - 0) else (0, 0, askC m ps)

theorem l05Equal_any (v : Value) (xs : List Int) (w : World) (hv : Ints w v xs) :
    Calls Try.prog 83 #[v] w fun e w' => e = .returned (.bool (eqAll xs)) ∧ Below w.heap.size w w' := by
  obtain ⟨hm, a, cap, rfl⟩ := hv.len
  unfold maxLen at hm
  go_enter Try.func83, Try.ntmps83
  go_wp2
  go_loopw [3] (fun i wr => ∃ k : Nat, 1 ≤ k ∧ (k ≤ xs.length ∨ k = 1) ∧ i = .int .i64 k ∧ Hid (∃ m, wr = w.drewN m) ∧ Hid ((xs.take k).all (fun x => x == xs.getD 0 0) = true)) (fun i _ => xs.length - (intOf i).toNat)
  case atStart => exact ⟨1, Nat.le_refl _, Or.inr rfl, rfl, ⟨0, rfl⟩, show _ = _ by cases xs <;> simp⟩
  case round =>
    obtain ⟨wo, rfl⟩ : ∃ wo : World, wo = wr := ⟨_, rfl⟩
    obtain ⟨k, k1, hk, rfl, hw, ht⟩ := hrel
    by_cases hlt : k < xs.length
    · obtain ⟨pb, po, pc, hvv, _, hc⟩ := hv.at (by omega)
      simp only [Value.slice.injEq] at hvv
      obtain ⟨rfl, -, rfl⟩ := hvv
      have q1 : wo.cell? ⟨pb, po + k, none⟩ = some (.int .i64 (xs.getD k 0)) := by obtain ⟨m, rfl⟩ := hw.out; exact hc k hlt
      have q0 : wo.cell? ⟨pb, po, none⟩ = some (.int .i64 (xs.getD 0 0)) := by obtain ⟨m, rfl⟩ := hw.out; exact hc 0 (by omega)
      have hts := Lib.hid (all_take_succ (fun x => x == xs.getD 0 0) xs 0 k hlt)
      have hfs := Lib.hid (all_false_of (fun x => x == xs.getD 0 0) xs 0 k hlt)
      have hki : (k : Int) < (xs.length : Int) := by omega
      have hk0 : (0 : Int) < (xs.length : Int) := by omega
      have hea := Lib.hid (show eqAll xs = xs.all (fun x => x == xs.getD 0 0) from rfl)
      clear hc
      by_cases hxy : xs.getD k 0 = xs.getD 0 0
      · have hn := Lib.hid (show (xs.take (k + 1)).all (fun x => x == xs.getD 0 0) = true by rw [hts.out, ht.out, hxy]; simp)
        rw [hxy] at q1
        clear hxy
        obtain ⟨y, hy⟩ : ∃ y, xs.getD 0 0 = y := ⟨_, rfl⟩
        rw [hy] at q1 q0
        clear hy
        go_wp2
        go_quiet (fail)
        go_wp2
        go_roundw
        case rel => exact ⟨k + 1, by omega, by omega, by go_num, by obtain ⟨m, rfl⟩ := hw.out; exact ⟨_, World.drewN_drewN ..⟩, hn⟩
        case measure => simp [intOf]; omega
      · have hfin := Lib.hid (show eqAll xs = false from hfs.out (by simpa using hxy))
        have hne : (xs.getD k 0 != xs.getD 0 0) = true := by simpa using hxy
        generalize xs.getD k 0 = x at *
        generalize xs.getD 0 0 = y at *
        go_wp2
        go_quiet (fail)
        go_wp2
        go_ret
        exact ⟨ret_bool hfin.out.symm, by obtain ⟨m, rfl⟩ := hw.out; exact below_drewN (below_drewN (Below.refl _ _) _) _⟩
    · have hr := Lib.hid (show eqAll xs = true by unfold eqAll; have := ht.out; rwa [List.take_of_length_le (by omega)] at this)
      have hki : (xs.length : Int) ≤ (k : Int) := by omega
      go_wp2
      go_ret
      exact ⟨ret_bool hr.out.symm, by obtain ⟨m, rfl⟩ := hw.out; exact below_drewN (Below.refl _ _) _⟩
end Go.Proofs.Ytacnafjmcfcalaa
