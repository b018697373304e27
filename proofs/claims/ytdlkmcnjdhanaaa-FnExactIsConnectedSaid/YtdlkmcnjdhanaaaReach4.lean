/- The codes of a chain and a state of both sides, and CanReach of the specification. Conditions: none. -/
import Derived.Test.YtdlkmcnjdhanaaaReach3
namespace Go.Proofs.Ytdlkmcnjdhanaaa
open Go.RowKit Go.Deep
set_option linter.unusedVariables false

def stCode (c : Ch) (s : Int) : Int := if chOk c = true then (if inB s 0 (c.n - 1) = true then 0 else 2) else 1
def canOf (c : Ch) (s : Int) : List Int × Int := if stCode c s = 0 then (reachL c s.toNat, 0) else ([], stCode c s)
theorem stCode_ok {c : Ch} {s : Int} (h : stCode c s = 0) : chOk c = true ∧ inB s 0 (c.n - 1) = true := by
  unfold stCode at h
  by_cases h1 : chOk c = true
  · rw [if_pos h1] at h
    by_cases h2 : inB s 0 (c.n - 1) = true
    · exact ⟨h1, h2⟩
    · rw [if_neg h2] at h; omega
  · rw [if_neg h1] at h; omega
theorem stCode_not {c : Ch} {s : Int} (h : ¬ stCode c s = 0) : (stCode c s == 0) = false ∧ (stCode c s != 0) = true := by
  constructor <;> simp [h]

set_option maxHeartbeats 2000000 in
theorem l02State_any (b : Nat) (c : Ch) (s : Int) (w : World) (hc : ChP w b c) :
    Calls Try.prog 31 #[.pointer (some ⟨b, 0, none⟩), .int .i64 s] w fun e w' => e = .returned (.int .i64 (stCode c s)) ∧ ∃ m, w' = w.drewN m := by
  by_cases oc : chOk c = true
  · obtain ⟨n1, n2, t1, t2, -, -⟩ := chOk_all oc
    have ho := l01Ok_any b c w hc
    rw [oc] at ho
    obtain ⟨v, k0, k1, k2, R⟩ := hc
    by_cases hs : inB s 0 (c.n - 1) = true
    · have hr := Lib.hid (show stCode c s = 0 by simp [stCode, oc, hs])
      have hs' := Lib.hid hs
      clear oc hs
      go_enter Try.func31, Try.ntmps31
      go_wp2_with fail
      refine ho.mono ?_
      rintro e w1 ⟨rfl, m, rfl⟩
      have q0 : (w.drewN m).cell? ⟨b, 0, none⟩ = _ := k0
      go_wp2_with fail
      refine (l00In_any _ _ _ _).mono ?_
      rintro e w2 ⟨rfl, rfl⟩
      rw [hs'.out]
      go_wp2
      go_ret
      exact ⟨ret_int hr.out.symm, m, rfl⟩
    · have hsf : inB s 0 (c.n - 1) = false := by simpa using hs
      have hr := Lib.hid (show stCode c s = 2 by simp [stCode, oc, hsf])
      have hs' := Lib.hid hsf
      clear oc hs hsf
      go_enter Try.func31, Try.ntmps31
      go_wp2_with fail
      refine ho.mono ?_
      rintro e w1 ⟨rfl, m, rfl⟩
      have q0 : (w.drewN m).cell? ⟨b, 0, none⟩ = _ := k0
      go_wp2_with fail
      refine (l00In_any _ _ _ _).mono ?_
      rintro e w2 ⟨rfl, rfl⟩
      rw [hs'.out]
      go_wp2
      go_ret
      exact ⟨ret_int hr.out.symm, m, rfl⟩
  · have oc' : chOk c = false := by simpa using oc
    have ho := l01Ok_any b c w hc
    rw [oc'] at ho
    have hr := Lib.hid (show stCode c s = 1 by simp [stCode, oc'])
    clear oc oc'
    go_enter Try.func31, Try.ntmps31
    go_wp2_with fail
    refine ho.mono ?_
    rintro e w1 ⟨rfl, m, rfl⟩
    go_wp2
    go_ret
    exact ⟨ret_int hr.out.symm, m, rfl⟩

set_option maxHeartbeats 4000000 in
theorem CanReach_spec (cv : Value) (c : Ch) (s : Int) (w : World) (hc : ChR w cv c) :
    Calls Try.prog 9 #[cv, .int .i64 s] w fun e w' => ∃ rv, e = .returned (.tuple #[rv, .int .i64 (canOf c s).2]) ∧ IntsMine 2 w' w.heap.size w'.heap.size rv (canOf c s).1 ∧ Below w.heap.size w w' := by
  obtain ⟨a, cap, rfl⟩ := hc.shape
  have B0 := below1 w (.cells #[.int .i64 c.n, .int .i64 c.t, .slice a c.w.length cap] 29)
  have hB := Blk.new w #[.int .i64 c.n, .int .i64 c.t, .slice a c.w.length cap] 29
  have Pc : ChP (w.alloc (.cells #[.int .i64 c.n, .int .i64 c.t, .slice a c.w.length cap] 29)) w.heap.size c := ⟨_, hB.cell 0, hB.cell 1, hB.cell 2, (hc.keep B0).rows⟩
  have hW : w.heap.size < (w.alloc (.cells #[.int .i64 c.n, .int .i64 c.t, .slice a c.w.length cap] 29)).heap.size := by simp
  generalize hV : w.alloc (.cells #[.int .i64 c.n, .int .i64 c.t, .slice a c.w.length cap] 29) = V at *
  have hV' := Lib.hid hV
  clear hV
  have hst := l02State_any w.heap.size c s V Pc
  by_cases h0 : stCode c s = 0
  · obtain ⟨oc, hs⟩ := stCode_ok h0
    obtain ⟨n1, n2, t1, t2, hlen, hrows⟩ := chOk_all oc
    obtain ⟨s0, s1⟩ := inB_iff.1 hs
    obtain ⟨s, rfl⟩ : ∃ k : Nat, s = k := ⟨s.toNat, by omega⟩
    have hr := Lib.hid (show canOf c (s : Int) = (reachL c s, 0) by simp [canOf, h0])
    rw [h0] at hst
    have hre := fun m => l02Reached_any w.heap.size c s (V.drewN m) (Pc.keep (below_drewN (Below.refl _ V) m)) oc (by omega)
    clear h0 hlen hrows oc hs hB Pc
    go_enter Try.func9, Try.ntmps9
    go_wp2_with fail
    rw [hV'.out]
    refine hst.mono ?_
    rintro e w1 ⟨rfl, m, rfl⟩
    go_wp2_with fail
    refine (hre m).mono ?_
    rintro e w2 ⟨rv, rfl, hown, b2⟩
    have hown' := Lib.hid hown
    clear hown hre hst
    go_wp2
    go_ret2
    rw [hr.out]
    exact ⟨_, rfl, (Own.of (hown'.out.mono (Nat.le_of_lt hW)) (Nat.le_refl _)).minei, below_wt (below_drewN B0 m) b2⟩
  · obtain ⟨h1, h2⟩ := stCode_not h0
    have hr := Lib.hid (show canOf c s = ([], stCode c s) by simp [canOf, h0])
    clear h0 hc hB Pc
    generalize stCode c s = code at *
    go_enter Try.func9, Try.ntmps9
    go_wp2_with fail
    rw [hV'.out]
    refine hst.mono ?_
    rintro e w1 ⟨rfl, m, rfl⟩
    have hsz := (below_drewN B0 m).size
    generalize hV2 : V.drewN m = V2 at *
    have hb := below_drewN B0 m
    rw [hV2] at hb
    clear hV2
    go_wp2
    go_ret2
    rw [hr.out]
    exact ⟨_, rfl, empty_own _ _ hsz, below_wt hb (below1 _ _)⟩

set_option maxHeartbeats 4000000 in
theorem checkState_any (cv : Value) (c : Ch) (s : Int) (w : World) (hc : ChR w cv c) :
    Calls Try.prog 34 #[cv, .int .i64 s] w fun e w' => e = .returned (.int .i64 (stCode c s)) ∧ Below w.heap.size w w' := by
  obtain ⟨a, cap, rfl⟩ := hc.shape
  have B0 := below1 w (.cells #[.int .i64 c.n, .int .i64 c.t, .slice a c.w.length cap] 29)
  have hB := Blk.new w #[.int .i64 c.n, .int .i64 c.t, .slice a c.w.length cap] 29
  have Kc := hc.keep B0
  have hv := ValidChain_impl _ c _ Kc
  by_cases oc : chOk c = true
  · obtain ⟨n1, n2, t1, t2, -, -⟩ := chOk_all oc
    have hst := fun w1 b1 => isState_any _ c s w1 (Kc.keep b1) n1 n2
    rw [oc] at hv
    have hr := Lib.hid (show stCode c s = if inB s 0 (c.n - 1) = true then 0 else 2 by simp [stCode, oc])
    clear oc
    cases hs : inB s 0 (c.n - 1) with
    | true =>
      rw [hs] at hst hr
      have hr2 := Lib.hid (show stCode c s = 0 by rw [hr.out]; rfl)
      clear hs hr
      go_enter Try.func34, Try.ntmps34
      go_wp2_with fail
      refine hv.mono ?_
      rintro e w1 ⟨rfl, b1⟩
      obtain ⟨q0, q1, q2⟩ := (hB.keep b1 hB.lt).three
      go_wp2_with fail
      refine (hst _ b1).mono ?_
      rintro e w2 ⟨rfl, b2⟩
      go_wp2
      go_ret
      exact ⟨ret_int hr2.out.symm, below_wt (below_wt B0 b1) b2⟩
    | false =>
      rw [hs] at hst hr
      have hr2 := Lib.hid (show stCode c s = 2 by rw [hr.out]; rfl)
      clear hs hr
      go_enter Try.func34, Try.ntmps34
      go_wp2_with fail
      refine hv.mono ?_
      rintro e w1 ⟨rfl, b1⟩
      obtain ⟨q0, q1, q2⟩ := (hB.keep b1 hB.lt).three
      go_wp2_with fail
      refine (hst _ b1).mono ?_
      rintro e w2 ⟨rfl, b2⟩
      go_wp2
      go_ret
      exact ⟨ret_int hr2.out.symm, below_wt (below_wt B0 b1) b2⟩
  · have oc' : chOk c = false := by simpa using oc
    have hr := Lib.hid (show stCode c s = 1 by simp [stCode, oc'])
    rw [oc'] at hv
    clear oc oc'
    go_enter Try.func34, Try.ntmps34
    go_wp2_with fail
    refine hv.mono ?_
    rintro e w1 ⟨rfl, b1⟩
    go_wp2
    go_ret
    exact ⟨ret_int hr.out.symm, below_wt B0 b1⟩
end Go.Proofs.Ytdlkmcnjdhanaaa
