/- l02Reached of the specification: the states that can be reached from a state. Conditions: the chain is valid, and there is the state. -/
import Derived.Test.YtkebfnmepbblnaaReach2
namespace Go.Proofs.Ytkebfnmepbblnaa
open Go.RowKit Go.Deep
set_option linter.unusedVariables false

def edge (c : Ch) (a b : Nat) : Bool := decide (0 < (c.w.getD a []).getD b 0)
def rchB (c : Ch) (s t : Nat) : Bool := fw (edge c) c.w.length s t
def reachL (c : Ch) (s : Nat) : List Int := selL (rchB c s) c.w.length
def nats0 (q : List Nat) : List Int := q.map fun i : Nat => (i : Int)

def lenOfV : Value → Nat
  | .slice _ n _ => n
  | _ => 0
/-- between two rounds -/
structure RInv (c : Ch) (s : Nat) (p : Nat → Bool) (q : List Nat) : Prop where
  at0 : p s = true
  sound : ∀ u, u < c.w.length → p u = true → rchB c s u = true
  todo : ∀ u, u ∈ q → u < c.w.length ∧ p u = true
  closed : ∀ u, u < c.w.length → p u = true → u ∈ q ∨ ∀ v, v < c.w.length → edge c u v = true → p v = true
  small : 2 * (c.w.length - (selL p c.w.length).length) + q.length ≤ 2 * c.w.length
/-- in a round: the state z is looked at, and the states below t have been -/
structure RIn (c : Ch) (s : Nat) (z t M : Nat) (p : Nat → Bool) (q : List Nat) : Prop where
  at0 : p s = true
  sound : ∀ u, u < c.w.length → p u = true → rchB c s u = true
  todo : ∀ u, u ∈ q → u < c.w.length ∧ p u = true
  here : p z = true
  closed : ∀ u, u < c.w.length → p u = true → u ∈ q ∨ u = z ∨ ∀ v, v < c.w.length → edge c u v = true → p v = true
  seen : ∀ v, v < t → edge c z v = true → p v = true
  small : 2 * (c.w.length - (selL p c.w.length).length) + q.length + 1 ≤ M

theorem RInv.start (c : Ch) (s : Nat) (hs : s < c.w.length) : RInv c s (fun i => i == s) [s] := by
  refine ⟨by simp, fun u hu h => ?_, fun u hu => ?_, fun u hu h => ?_, ?_⟩
  · simp at h; subst h; exact fw_refl _ hs
  · simp at hu; subst hu; exact ⟨hs, by simp⟩
  · simp at h; subst h; exact Or.inl (by simp)
  · rw [sel_one s c.w.length hs]; simp; omega
theorem RInv.enter {c : Ch} {s z : Nat} {p : Nat → Bool} {q : List Nat} (h : RInv c s p (z :: q)) : RIn c s z 0 (2 * (c.w.length - (selL p c.w.length).length) + (q.length + 1)) p q :=
  ⟨h.at0, h.sound, fun u hu => h.todo u (by simp [hu]), (h.todo z (by simp)).2, fun u hu hp => by
    rcases h.closed u hu hp with h1 | h1
    · rcases List.mem_cons.1 h1 with h2 | h2
      · exact Or.inr (Or.inl h2)
      · exact Or.inl h2
    · exact Or.inr (Or.inr h1), fun v hv => by omega, by omega⟩
theorem RIn.leave {c : Ch} {s z t M : Nat} {p : Nat → Bool} {q : List Nat} (h : RIn c s z t M p q) (ht : t = c.w.length) (hM : M ≤ 2 * c.w.length) : RInv c s p q := by
  subst ht
  refine ⟨h.at0, h.sound, h.todo, fun u hu hp => ?_, ?_⟩
  · rcases h.closed u hu hp with h1 | h1 | h1
    · exact Or.inl h1
    · subst h1; exact Or.inr h.seen
    · exact Or.inr h1
  · have := h.small; omega
theorem RIn.skip {c : Ch} {s z t M : Nat} {p : Nat → Bool} {q : List Nat} (h : RIn c s z t M p q) (ht : edge c z t = true → p t = true) : RIn c s z (t + 1) M p q :=
  ⟨h.at0, h.sound, h.todo, h.here, h.closed, fun v hv he => by
    by_cases e : v = t
    · subst e; exact ht he
    · exact h.seen v (by omega) he, h.small⟩
theorem RIn.add {c : Ch} {s z t M : Nat} {p : Nat → Bool} {q : List Nat} (h : RIn c s z t M p q) (hs : s < c.w.length) (hz : z < c.w.length) (ht : t < c.w.length) (he : edge c z t = true) (hp : p t = false) :
    RIn c s z (t + 1) M (fun i => p i || i == t) (q ++ [t]) := by
  have hnot : (t : Int) ∉ selL p c.w.length := by rw [sel_mem_nat ht, hp]; simp
  have hlen := len_putL_new (selL p c.w.length) (t : Int) hnot
  rw [put_sel p c.w.length t ht] at hlen
  have hle := sel_len (fun i => p i || i == t) c.w.length
  refine ⟨by simp [h.at0], fun u hu hpu => ?_, fun u hu => ?_, by simp [h.here], fun u hu hpu => ?_, fun v hv hev => ?_, ?_⟩
  · simp only [Bool.or_eq_true, beq_iff_eq] at hpu
    rcases hpu with h1 | h1
    · exact h.sound u hu h1
    · subst h1; exact fw_trans _ _ _ _ z hz (h.sound z hz h.here) (fw_edge he _)
  · rcases List.mem_append.1 hu with h1 | h1
    · have := h.todo u h1; exact ⟨this.1, by simp [this.2]⟩
    · simp at h1; subst h1; exact ⟨ht, by simp⟩
  · simp only [Bool.or_eq_true, beq_iff_eq] at hpu
    rcases hpu with h1 | h1
    · rcases h.closed u hu h1 with h2 | h2 | h2
      · exact Or.inl (List.mem_append_left _ h2)
      · exact Or.inr (Or.inl h2)
      · exact Or.inr (Or.inr fun v hv hev => by simp [h2 v hv hev])
    · subst h1; exact Or.inl (by simp)
  · by_cases e : v = t
    · subst e; simp
    · simp [h.seen v (by omega) hev]
  · have := h.small
    rw [List.length_append, hlen]
    simp only [List.length_cons, List.length_nil]
    omega
theorem RInv.done {c : Ch} {s : Nat} {p : Nat → Bool} (h : RInv c s p []) (hs : s < c.w.length) : selL p c.w.length = reachL c s :=
  sel_reached (edge c) c.w.length s hs p h.at0 h.sound fun u v hv hpu he => by
    by_cases hu : u < c.w.length
    · rcases h.closed u hu hpu with h1 | h1
      · simp at h1
      · exact h1 v hv he
    · have : edge c u v = false := by
        have h1 : c.w.getD u [] = [] := by rw [List.getD_eq_getElem?_getD, List.getElem?_eq_none (by omega)]; rfl
        unfold edge
        rw [h1]; simp
      rw [this] at he; cases he
theorem has_sel {p : Nat → Bool} {n t : Nat} (h : t < n) : hasB (selL p n) (t : Int) = p t := by
  rw [Bool.eq_iff_iff]
  simp only [hasB, decide_eq_true_eq]
  exact sel_mem_nat h
theorem owns_ints {w : World} {lo n : Nat} {e : TypeId} {v : Value} {xs : List Int} (h : w.ownsRow lo e 1 v n (ints xs)) : Ints w v xs := (Own.of h (Nat.le_refl _)).row

set_option maxRecDepth 100000 in
set_option maxHeartbeats 16000000 in
theorem l02Reached_any (b : Nat) (c : Ch) (s : Nat) (w : World) (hc : ChP w b c) (oc : chOk c = true) (hs : s < c.w.length) :
    Calls Try.prog 188 #[.pointer (some ⟨b, 0, none⟩), .int .i64 (s : Int)] w fun e w' => ∃ rv, e = .returned rv ∧ w'.ownsRow w.heap.size 2 1 rv (reachL c s).length (ints (reachL c s)) ∧ Below w.heap.size w w' := by
  obtain ⟨n1, n2, t1, t2, hlen, hrows⟩ := chOk_all oc
  obtain ⟨N, hN⟩ : ∃ N, c.w.length = N := ⟨_, rfl⟩
  have hnN : c.n = (N : Int) := by omega
  have hrows' := Lib.hid hrows
  have hN' := Lib.hid hN
  have hnN' := Lib.hid hnN
  have hs' := Lib.hid hs
  rw [hN] at hs hlen
  have hN1 : 1 ≤ N := by omega
  have hN6 : N ≤ 6 := by omega
  obtain ⟨v, k0, k1, k2, R⟩ := hc
  have R' := Lib.hid R
  have l0 := block_lt k0
  simp only at l0
  have k0' := Lib.hid k0
  have k2' := Lib.hid k2
  obtain ⟨i0, hi, hz0, hz1, hz2⟩ := info_parts put_info
  have hi' := Lib.hid hi; have hz0' := Lib.hid hz0; have hz1' := Lib.hid hz1; have hz2' := Lib.hid hz2
  clear hi hz0 hz1 hz2 hN hnN hlen hrows R k0 k1 k2
  go_enter Try.func188, Try.ntmps188
  go_wp2
  go_loopw [5, 6] (fun ov tv wr => ∃ (p : Nat → Bool) (q : List Nat) (L g gc gq oq cq : Nat), ov = .slice (some ⟨g, 0, none⟩) L gc ∧ tv = .slice (some ⟨gq, oq, none⟩) q.length cq ∧ Hid ((selL p N).length = L) ∧ L ≤ N ∧ g ≠ gq ∧
      Hid (wr.ownsRow w.heap.size 2 1 (.slice (some ⟨g, 0, none⟩) L gc) L (ints (selL p N))) ∧ Hid (Que wr w.heap.size 2 (.slice (some ⟨gq, oq, none⟩) q.length cq) (ints (nats0 q))) ∧ Below w.heap.size w wr ∧ Hid (RInv c s p q)) (fun ov tv _ => 2 * (N - lenOfV ov) + lenOfV tv)
  case atStart =>
    refine ⟨fun i => i == s, [s], 1, w.heap.size, 1, w.heap.size + 1, 0, 1, rfl, by simp, ?_, hN1, by omega, ?_, ?_, below2 _ _ _, RInv.start c s hs'.out⟩
    · rw [sel_one s N hs]; exact Lib.hid rfl
    · rw [sel_one s N hs]
      refine Lib.hid (World.ownsRow.alloc ?_ _)
      exact ⟨by simp [ints], Or.inr ⟨w.heap.size, 1, #[.int .i64 (s : Int)], rfl, by omega, heap_alloc_new w _, Nat.le_refl _, by unfold maxLen; omega, by simp, by simp [ints]⟩⟩
    · refine Lib.hid ?_
      have := heap_alloc_new (w.alloc (.cells #[.int .i64 (s : Int)] 2)) (.cells #[.int .i64 (s : Int)] 2)
      refine ⟨w.heap.size + 1, 0, 1, #[.int .i64 (s : Int)], by simp [ints, nats0], by omega, by simpa using this, by simp [ints, nats0], by unfold maxLen; omega, by simp, fun i hi => ?_⟩
      simp [ints, nats0] at hi ⊢
      subst hi; simp
  case round =>
    obtain ⟨wo, rfl⟩ : ∃ wo : World, wo = wr := ⟨_, rfl⟩
    obtain ⟨p, q, L, g, gc, gq, oq, cq, rfl, rfl, hL, hLN, hne, hown, hque, bel, hinv⟩ := hrel
    have hsz := bel.size
    cases q with
    | nil =>
      have hd := Lib.hid (hinv.out.done hs'.out)
      have hN2 := hN'.out
      go_wp2
      go_ret
      refine ⟨_, rfl, ?_, bel⟩
      rw [← hd.out, hN2]
      have h1 := hown.out
      have h2 := hL.out
      rw [h2]; exact h1
    | cons z q =>
      have hz := Lib.hid (hinv.out.todo z (by simp))
      have hin := Lib.hid hinv.out.enter
      have hql : (z :: q).length ≤ 2 * N := by have := hinv.out.small; have := hN'.out; omega
      simp only [List.length_cons] at hql
      obtain ⟨T1, T2⟩ := hque.out.tail
      have T1' := Lib.hid T1
      have T2' := Lib.hid T2
      obtain ⟨g', off', cap', cur', e1, e2, e3, e4, e5, e6, e7⟩ := hque.out
      simp only [Value.slice.injEq, Option.some.injEq, Addr.mk.injEq] at e1
      obtain ⟨⟨rfl, rfl, -⟩, -, rfl⟩ := e1
      have z0 : wo.cell? ⟨gq, oq, none⟩ = some (.int .i64 (z : Int)) := by
        have := e7 0 (by simp [ints, nats0])
        simp only [World.cell?, e3]
        simpa [ints, nats0] using this
      have hcq1 : q.length + 1 ≤ cq := by simpa [ints, nats0] using e4
      clear T1 T2 e2 e3 e4 e5 e6 e7
      have hpos : (0 : Int) < ((q.length + 1 : Nat) : Int) := by omega
      obtain ⟨M, hM⟩ : ∃ M, M = 2 * (c.w.length - (selL p c.w.length).length) + (q.length + 1) := ⟨_, rfl⟩
      rw [← hM] at hin
      have hM' := Lib.hid (show M = 2 * (N - L) + (q.length + 1) by rw [hM, hN'.out, hL.out])
      have hM3 : M ≤ 2 * N := by have := hinv.out.small; rw [hN'.out, hL.out] at this; rw [hM'.out]; simp only [List.length_cons] at this; omega
      clear hM
      obtain ⟨hz1, hz2⟩ := hz.out
      rw [hN'.out] at hz1
      have hT : (cq = 1 → Hid (Que wo w.heap.size 2 (.slice (some ⟨gq, oq, none⟩) q.length 0) (ints (nats0 q)))) ∧ (¬ cq = 1 → Hid (Que wo w.heap.size 2 (.slice (some ⟨gq, oq + 1, none⟩) q.length (cq - 1)) (ints (nats0 q)))) := by
        refine ⟨fun h => ?_, fun h => T1'⟩
        subst h; exact Lib.hid (T2'.out rfl)
      have hT' := Lib.hid hT
      clear hT hz2 T1' T2'
      by_cases hc1 : cq = 1
      all_goals
        have T := Lib.hid (by first | exact (hT'.out.1 hc1).out | exact (hT'.out.2 hc1).out)
        clear hT'
        try subst hc1
        simp only [List.length_cons]
        go_wp2
        go_loopw [5, 6, 8] (fun ov tv i wr => ∃ (t : Nat) (p : Nat → Bool) (q : List Nat) (L g gc gq oq cq : Nat), t ≤ N ∧ i = .int .i64 (t : Int) ∧ ov = .slice (some ⟨g, 0, none⟩) L gc ∧ tv = .slice (some ⟨gq, oq, none⟩) q.length cq ∧ Hid ((selL p N).length = L) ∧ L ≤ N ∧ g ≠ gq ∧
          Hid (wr.ownsRow w.heap.size 2 1 (.slice (some ⟨g, 0, none⟩) L gc) L (ints (selL p N))) ∧ Hid (Que wr w.heap.size 2 (.slice (some ⟨gq, oq, none⟩) q.length cq) (ints (nats0 q))) ∧ Below w.heap.size w wr ∧ Hid (RIn c s z t M p q)) (fun _ _ i _ => N - (intOf i).toNat)
        case atStart => exact ⟨0, p, q, L, g, gc, gq, _, _, Nat.zero_le _, rfl, rfl, (by first | rfl | (congr 1; omega)), hL, hLN, hne, hown, T, bel, hin⟩
        case round =>
          clear hinv hown hque T hin hL hne bel
          clear z0
          obtain ⟨wi, rfl⟩ : ∃ wi : World, wi = wr := ⟨_, rfl⟩
          obtain ⟨t, p, q, L, g, gc, gq, oq, cq, ht, rfl, rfl, rfl, hL, hLN, hne, hown, hque, bel, hin⟩ := hrel
          have hsz := bel.size
          have q0 := (bel.cell (p := ⟨b, 0, none⟩) l0).trans k0'.out
          rw [hnN'.out] at q0
          by_cases hlt : t < N
          · have q2 := (bel.cell (p := ⟨b, 2, none⟩) l0).trans k2'.out
            have hltI : (t : Int) < (N : Int) := by omega
            obtain ⟨rb, ro, rc, rv, rfl, rlt, hr⟩ := (R'.out.keep bel).at (by have := hN'.out; omega)
            have hzc : z < c.w.length := by have := hN'.out; omega
            obtain ⟨r1, r2⟩ := hr z hzc
            have hzI : (z : Int) < (c.w.length : Int) := by omega
            have hok := (okRow_all (hrows'.out _ (getD_mem (d := []) hzc)))
            have hrl : (c.w.getD z []).length = N := by have := hok.1; have := hnN'.out; omega
            obtain ⟨xb, xo, xc, hxv, xlt, hx⟩ := r2.at (by omega)
            have x1 := hx t (by omega)
            rw [hrl] at hxv
            have hed := Lib.hid (show edge c z t = decide (0 < (c.w.getD z []).getD t 0) from rfl)
            have hxl := Lib.hid hrl
            generalize (c.w.getD z []).getD t 0 = x at x1 hed
            generalize rv z = xv at r1 r2 hxv
            subst hxv
            clear hr hx r2 hok hrl
            by_cases he : 0 < x
            · have he1 : edge c z t = true := by rw [hed.out]; exact decide_eq_true he
              have he1' := Lib.hid he1
              have hcall := l00Has_any (.slice (some ⟨g, 0, none⟩) L gc) (selL p N) (t : Int) wi (owns_ints hown.out)
              rw [has_sel hlt] at hcall
              by_cases hp : p t = true
              · have hsk := Lib.hid (hin.out.skip (t := t) (fun _ => hp))
                rw [hp] at hcall
                clear he1 hp
                go_wp2_with ((with_reducible refine hcall.mono ?_); rintro e w' ⟨rfl, rfl⟩)
                go_roundw
                case rel => exact ⟨t + 1, p, q, L, g, gc, gq, oq, cq, by omega, by go_num, rfl, rfl, hL, hLN, hne, hown, hque, bel, hsk⟩
                case measure => simp [intOf]; omega
              · have hpf : p t = false := by simpa using hp
                have hadd := Lib.hid (hin.out.add hs'.out hzc (by rw [hN'.out]; exact hlt) he1 hpf)
                rw [hpf] at hcall
                have hput := l00Put_any (.slice (some ⟨g, 0, none⟩) L gc) (selL p N) (t : Int) wi (owns_ints hown.out) (by have := hL.out; omega)
                rw [put_sel p N t hlt] at hput
                have hLq := hin.out.small
                rw [hN'.out, hL.out] at hLq
                have hle2 := sel_len (fun i => p i || i == t) N
                have hlen2 : (selL (fun i => p i || i == t) N).length = L + 1 := by
                  rw [← put_sel p N t hlt, len_putL_new, hL.out]
                  rw [sel_mem_nat hlt, hpf]; simp
                rw [hlen2] at hput hle2
                have hlen2' := Lib.hid hlen2
                clear he1 hp hpf hlen2
                obtain ⟨hgq0, hgq⟩ : w.heap.size ≤ gq ∧ gq < wi.heap.size := by obtain ⟨g', o', c', e1, e3, e2, _⟩ := hque.out.shape; simp only [Value.slice.injEq, Option.some.injEq, Addr.mk.injEq] at e1; omega
                have hq5 := Lib.hid (fun w5 (b5 : Below wi.heap.size wi w5) => hque.out.keep (B := 0) b5)
                have hlen6 := Lib.hid (show (ints (nats0 q) ++ [Value.int .i64 (t : Int)]).length = q.length + 1 by simp [ints, nats0])
                have hlen7 := Lib.hid (show (ints (nats0 q)).length = q.length by simp [ints, nats0])
                go_wp2_with (first | ((with_reducible refine hcall.mono ?_); rintro e w' ⟨rfl, rfl⟩) | ((with_reducible refine hput.mono ?_); rintro e w5 ⟨rv5, rfl, hown5, b5⟩; obtain ⟨g5, c5, rfl, hg5⟩ := ownsRow_head hown5 (by omega); have hs5 := b5.size; have hg5' := (hown5.lt g5 rfl).2; have hown5' := Lib.hid hown5; clear hown5 hcall hput q0 q2 r1 x1) | (at_builtin; (refine wpList_append_que _ rfl _ _ 25 rfl (v := .slice (some ⟨gq, oq, none⟩) q.length cq) rfl ((hq5.out _ b5).alloc _) (by simp; omega) i0 (.int .i64 0) 8 Try.underlying25 hi'.out hz0'.out hz1'.out hz2'.out rfl ⟨w5.heap.size, 0, none⟩ 1 (.int .i64 (t : Int)) rfl (by simp) rfl (by rw [hlen7.out]; unfold maxLen; omega) (by rw [hlen7.out]; omega) ?_); intro v6 w6 hq6 hg6 hb6; have hsh := hq6.shape; rw [hlen6.out] at hsh; obtain ⟨g6, o6, c6, rfl, h61, h62, -, -⟩ := hsh; have hq6' := Lib.hid hq6; have hg6' := Lib.hid hg6; have hb6' := Lib.hid hb6; clear hq6 hg6 hb6))
                go_roundw
                case rel =>
                  have hb7 : g6 = gq ∨ w5.heap.size ≤ g6 := by
                    rcases hb6'.out with h | h
                    · simp [Value.ownBlock] at h; exact Or.inl h
                    · have := h g6 rfl; simp at this; omega
                  refine ⟨t + 1, fun i => p i || i == t, q ++ [t], L + 1, g5, c5, g6, o6, c6, by omega, by go_num, rfl, by simp, hlen2', by omega, by omega, ?_, ?_, ?_, hadd⟩
                  · exact Lib.hid ((((hown5'.out.alloc _).kept hg6'.out (Or.inr (by simp [Value.ownBlock]; omega)))).mono (by omega))
                  · refine Lib.hid ?_
                    have := hq6'.out
                    simpa [ints, nats0] using this
                  · exact ((below_wt bel b5).alloc (by omega) _).grown hg6'.out (by simp; omega) (fun k' hk' => by simp [Value.ownBlock] at hk'; omega)
                case measure => simp [intOf]; omega
            · have he1 : edge c z t = false := by rw [hed.out]; exact decide_eq_false he
              have hsk := Lib.hid (hin.out.skip (t := t) (fun h => by rw [he1] at h; cases h))
              clear he1
              have hef : decide (0 < x) = false := decide_eq_false he
              go_wp2
              go_roundw
              case rel => exact ⟨t + 1, p, q, L, g, gc, gq, oq, cq, by omega, by go_num, rfl, rfl, hL, hLN, hne, hown, hque, bel, hsk⟩
              case measure => simp [intOf]; omega
          · obtain rfl : t = N := by omega
            have hlf : ¬ (t : Int) < (t : Int) := by omega
            have hm := hin.out.small
            rw [hN'.out, hL.out] at hm
            have hM2 := hM'.out
            have hlv := Lib.hid (hin.out.leave hN'.out.symm (by rw [hN'.out]; exact hM3))
            go_wp2
            go_roundw
            case rel => exact ⟨p, q, L, g, gc, gq, oq, cq, rfl, rfl, hL, hLN, hne, hown, hque, bel, hlv⟩
            case measure => simp only [lenOfV]; omega
end Go.Proofs.Ytkebfnmepbblnaa
