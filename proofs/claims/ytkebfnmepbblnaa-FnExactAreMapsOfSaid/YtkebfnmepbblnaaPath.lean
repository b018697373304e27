/- Lists of states that are paths: l06States, l06Path, IsPath of the specification; areStates, isPath, checkConnected, checkFor, IsPath of the project. Conditions: none. -/
import Derived.Test.YtkebfnmepbblnaaClassT
import Derived.Test.YtkebfnmepbblnaaClassJ
import Derived.Test.YtkebfnmepbblnaaHas
import Derived.Test.YtkebfnmepbblnaaMsOk
namespace Go.Proofs.Ytkebfnmepbblnaa
open Go.RowKit Go.Deep
set_option linter.unusedVariables false

/-- 1 to States states -/
def stsOk (c : Ch) (p : List Int) : Bool := inB p.length 1 c.n && p.all fun x => inB x 0 (c.n - 1)
def wtOf (c : Ch) (s t : Int) : Int := (c.w.getD s.toNat []).getD t.toNat 0
def pthAt (c : Ch) (p : List Int) (i : Nat) : Bool := !hasB (p.take i) (p.getD i 0) && !(decide (0 < i) && decide (wtOf c (p.getD (i - 1) 0) (p.getD i 0) = 0))
def pthOk (c : Ch) (p : List Int) : Bool := (List.range p.length).all fun i => pthAt c p i
def conCode (c : Ch) : Int := if chOk c = true then (if joinedB (rchB c) c.w.length = true then 0 else 4) else 1
def forCode (c : Ch) (r : Bool) : Int := if chOk c = true ∧ r = false then 2 else conCode c
def ispOf (c : Ch) (p : List Int) : Bool × Int := if forCode c (stsOk c p) = 0 then (pthOk c p, 0) else (false, forCode c (stsOk c p))
theorem rngAll_no {f : Nat → Bool} {k L : Nat} (hk : k < L) (h : f k = false) : (List.range L).all f = false := by
  rw [Bool.eq_false_iff]; intro hc
  rw [List.all_eq_true] at hc
  have := hc k (by simpa using hk)
  rw [h] at this; cases this
theorem rngAll_succ {f : Nat → Bool} {k : Nat} (h : (List.range k).all f = true) (hk : f k = true) : (List.range (k + 1)).all f = true := by
  rw [List.range_succ, List.all_append, h]; simp [hk]
theorem gridI {w : World} {v : Value} {xss : List (List Int)} {N : Nat} (hv : Rows2 w v xss) (hl : xss.length = N) (h0 : 0 < N) (hr : ∀ s, s < N → (xss.getD s []).length = N) :
    ∃ b off cap, v = .slice (some ⟨b, off, none⟩) N cap ∧ ∀ s, s < N → ∃ rb ro rc, w.cell? ⟨b, off + s, none⟩ = some (.slice (some ⟨rb, ro, none⟩) N rc) ∧ ∀ t, t < N → w.cell? ⟨rb, ro + t, none⟩ = some (.int .i64 ((xss.getD s []).getD t 0)) := by
  obtain ⟨b, off, cap, rv, rfl, _, hc⟩ := hv.at (by omega)
  refine ⟨b, off, cap, by rw [hl], fun s hs => ?_⟩
  obtain ⟨h1, h2⟩ := hc s (by omega)
  have hrs := hr s hs
  obtain ⟨rb, ro, rc, hrv, _, h3⟩ := h2.at (by omega)
  rw [hrs] at hrv
  exact ⟨rb, ro, rc, by rw [h1, hrv], fun t ht => h3 t (by omega)⟩
theorem has_take {xs : List Int} {i : Nat} (hi : i < xs.length) (h : ∀ j, j < i → xs.getD j 0 ≠ xs.getD i 0) : hasB (xs.take i) (xs.getD i 0) = false := by
  refine hasB_no fun j hj => ?_
  rw [List.length_take] at hj
  have := h j (by omega)
  simpa [List.getD, List.getElem?_take, show j < i by omega] using this
theorem has_take_yes {xs : List Int} {i j : Nat} (hi : i < xs.length) (hj : j < i) (h : xs.getD j 0 = xs.getD i 0) : hasB (xs.take i) (xs.getD i 0) = true := by
  refine hasB_at (k := j) (by rw [List.length_take]; omega) ?_
  rw [← h]
  simp [List.getD, hj]
theorem nat_at {xs : List Int} {n : Int} (h : xs.all (fun x => inB x 0 (n - 1)) = true) {i : Nat} (hi : i < xs.length) : ∃ s : Nat, xs.getD i 0 = s ∧ (s : Int) < n := by
  rw [List.all_eq_true] at h
  have := inB_iff.1 (h _ (getD_mem (d := 0) hi))
  exact ⟨(xs.getD i 0).toNat, by omega, by omega⟩

set_option maxRecDepth 100000 in
set_option maxHeartbeats 4000000 in
theorem l06States_any (b : Nat) (c : Ch) (v : Value) (xs : List Int) (w : World) (hc : ChP w b c) (hv : Ints w v xs) (n1 : 1 ≤ c.n) (n2 : c.n ≤ 6) :
    Calls Try.prog 72 #[.pointer (some ⟨b, 0, none⟩), v] w fun e w' => e = .returned (.bool (stsOk c xs)) ∧ ∃ m, w' = w.drewN m := by
  obtain ⟨cv, k0, -, -, -⟩ := hc
  obtain ⟨hm, a, cap, rfl⟩ := hv.len
  unfold maxLen at hm
  obtain ⟨n, hn⟩ : ∃ n, c.n = n := ⟨_, rfl⟩
  have hdef := Lib.hid (show stsOk c xs = (inB xs.length 1 n && xs.all fun x => inB x 0 (n - 1)) by rw [← hn]; rfl)
  rw [hn] at k0 n1 n2
  clear hn
  go_enter Try.func72, Try.ntmps72
  go_wp2
  go_loopw [5] (fun i wr => ∃ k : Nat, k ≤ xs.length ∧ i = .int .i64 k ∧ Hid (∃ m, wr = w.drewN m) ∧ Hid ((xs.take k).all (fun x => inB x 0 (n - 1)) = true)) (fun i _ => xs.length - (intOf i).toNat)
  case atStart => exact ⟨0, Nat.zero_le _, rfl, by first | exact ⟨0, rfl⟩ | exact ⟨_, rfl⟩, show _ = _ by simp⟩
  case round =>
    obtain ⟨k, hk, rfl, hw, ht⟩ := hrel
    have k0' : wr.cell? ⟨b, 0, none⟩ = some (.int .i64 n) := by obtain ⟨m, rfl⟩ := hw.out; exact k0
    clear k0
    by_cases hlt : k < xs.length
    · obtain ⟨bb, off, cap', hvv, _, hcc⟩ := hv.at (by omega)
      simp only [Value.slice.injEq] at hvv
      obtain ⟨rfl, -, rfl⟩ := hvv
      have hx0 := hcc k hlt
      have hx : wr.cell? ⟨bb, off + k, none⟩ = some (.int .i64 (xs.getD k 0)) := by obtain ⟨m, rfl⟩ := hw.out; exact hx0
      have hts := Lib.hid (all_take_succ (fun x => inB x 0 (n - 1)) xs 0 k hlt)
      have hfs := Lib.hid (all_false_of (fun x => inB x 0 (n - 1)) xs 0 k hlt)
      clear hcc hx0
      generalize xs.getD k 0 = x at hx hts hfs
      have i1 : (k : Int) < (xs.length : Int) := by omega
      rcases hin : inB x 0 (n - 1) with _ | _
      · have hfin := Lib.hid (hdef.out.trans (by rw [hfs.out hin, Bool.and_false]))
        go_wp2
        go_quiet ((go_at_call 95; exact l00In_q _ _ _ _ _))
        go_wp2
        go_ret
        exact ⟨ret_bool hfin.out.symm, drawn_more hw.out _⟩
      · have hn2 := Lib.hid (show (xs.take (k + 1)).all (fun x => inB x 0 (n - 1)) = true by rw [hts.out, ht.out, hin]; rfl)
        go_wp2
        go_quiet ((go_at_call 95; exact l00In_q _ _ _ _ _))
        go_wp2
        go_roundw
        case rel => exact ⟨k + 1, by omega, by go_num, drawn_more hw.out _, hn2⟩
        case measure => simp [intOf]; omega
    · obtain rfl : k = xs.length := by omega
      have hfin := Lib.hid (show inB xs.length 1 n = stsOk c xs by
        have := ht.out
        rw [List.take_length] at this
        rw [hdef.out, this, Bool.and_true])
      have hcall := l00In_any xs.length 1 n wr
      go_wp2_with fail
      refine hcall.mono ?_
      rintro e w' ⟨rfl, rfl⟩
      go_wp2
      go_ret
      exact ⟨ret_bool hfin.out, hw.out⟩

set_option maxRecDepth 100000 in
set_option maxHeartbeats 8000000 in
theorem l06Path_any (b : Nat) (c : Ch) (v : Value) (xs : List Int) (w : World) (hc : ChP w b c) (hv : Ints w v xs) (oc : chOk c = true) (hs : xs.all (fun x => inB x 0 (c.n - 1)) = true) :
    Calls Try.prog 74 #[.pointer (some ⟨b, 0, none⟩), v] w fun e w' => e = .returned (.bool (pthOk c xs)) ∧ ∃ m, w' = w.drewN m := by
  obtain ⟨n1, n2, t1, t2, hlen, hrows⟩ := chOk_all oc
  obtain ⟨cv, -, -, k2, R⟩ := hc
  obtain ⟨N, hN⟩ : ∃ N, c.w.length = N := ⟨_, rfl⟩
  obtain ⟨mb, mo, mc, rfl, hG⟩ := gridI R hN (by omega) (fun s hs => by
    have := hrows _ (getD_mem (l := c.w) (d := []) (show s < c.w.length by omega))
    simp only [okRow, Bool.and_eq_true, decide_eq_true_eq] at this
    omega)
  have G := Lib.hid hG
  have P := Lib.hid (show ∀ i, i < xs.length → ∃ s : Nat, xs.getD i 0 = s ∧ s < N from fun i hi => by
    obtain ⟨s, h1, h2⟩ := nat_at hs hi
    exact ⟨s, h1, by omega⟩)
  have hW := Lib.hid (show ∀ s t : Nat, wtOf c s t = (c.w.getD s []).getD t 0 from fun s t => by unfold wtOf; simp)
  obtain ⟨hm, a, cap, rfl⟩ := hv.len
  unfold maxLen at hm
  obtain ⟨L, hL⟩ : ∃ L, xs.length = L := ⟨_, rfl⟩
  have hno := Lib.hid (show ∀ k, k < L → pthAt c xs k = false → pthOk c xs = false from fun k hk h => by unfold pthOk; rw [hL]; exact rngAll_no hk h)
  clear hG R hrows hs hlen oc
  go_enter Try.func74, Try.ntmps74
  go_wp2
  go_loopw [5] (fun i wr => ∃ k : Nat, k ≤ xs.length ∧ i = .int .i64 k ∧ Hid (∃ m, wr = w.drewN m) ∧ Hid ((List.range k).all (fun i => pthAt c xs i) = true)) (fun i _ => xs.length - (intOf i).toNat)
  case atStart => exact ⟨0, Nat.zero_le _, rfl, by first | exact ⟨0, rfl⟩ | exact ⟨_, rfl⟩, show _ = _ by simp⟩
  case round =>
    obtain ⟨wo, hwo⟩ : ∃ wo : World, wo = wr := ⟨_, rfl⟩
    subst hwo
    obtain ⟨k, hk, rfl, hw, ht⟩ := hrel
    by_cases hlt : k < xs.length
    · have i1 : (k : Int) < (xs.length : Int) := by omega
      obtain ⟨bb, off, cap', hvv, _, hcc⟩ := hv.at (by omega)
      simp only [Value.slice.injEq] at hvv
      obtain ⟨rfl, -, rfl⟩ := hvv
      have hX := Lib.hid hcc
      clear hcc
      go_wp2
      go_loopw [6] (fun j wr => ∃ q : Nat, q ≤ k ∧ j = .int .i64 q ∧ Hid (∃ m, wr = wo.drewN m) ∧ Hid (∀ j, j < q → xs.getD j 0 ≠ xs.getD k 0)) (fun j _ => k - (intOf j).toNat)
      case atStart => exact ⟨0, Nat.zero_le _, rfl, by first | exact ⟨0, rfl⟩ | exact ⟨_, rfl⟩, fun j hj => by omega⟩
      case round =>
        obtain ⟨q, hq, rfl, hwi, hd⟩ := hrel
        have hxk : wr.cell? ⟨bb, off + k, none⟩ = some (.int .i64 (xs.getD k 0)) := by obtain ⟨m, rfl⟩ := hwi.out; obtain ⟨m, rfl⟩ := hw.out; exact hX.out k hlt
        by_cases hql : q < k
        · have i2 : (q : Int) < (k : Int) := by omega
          have i3 : (q : Int) < (xs.length : Int) := by omega
          have hxq : wr.cell? ⟨bb, off + q, none⟩ = some (.int .i64 (xs.getD q 0)) := by obtain ⟨m, rfl⟩ := hwi.out; obtain ⟨m, rfl⟩ := hw.out; exact hX.out q (by omega)
          by_cases he : xs.getD q 0 = xs.getD k 0
          · have hfin := Lib.hid (hno.out k (by omega) (show pthAt c xs k = false by unfold pthAt; rw [has_take_yes hlt hql he]; rfl))
            have he' : (xs.getD q 0 == xs.getD k 0) = true := by simpa using he
            generalize xs.getD q 0 = x at hxq he'
            generalize xs.getD k 0 = y at hxk he'
            clear he
            go_wp2
            go_quiet (fail)
            go_wp2
            go_ret
            exact ⟨ret_bool hfin.out.symm, drawn_more (drawn_trans hw.out hwi.out) _⟩
          · have he' : (xs.getD q 0 == xs.getD k 0) = false := by simpa using he
            have hd2 := Lib.hid (show ∀ j, j < q + 1 → xs.getD j 0 ≠ xs.getD k 0 from fun j hj => by
              by_cases e : j = q
              · rw [e]; exact he
              · exact hd.out j (by omega))
            generalize hx : xs.getD q 0 = x at hxq he'
            generalize hy : xs.getD k 0 = y at hxk he' hd2
            clear he hx
            go_wp2
            go_quiet (fail)
            go_wp2
            go_roundw
            case rel => exact ⟨q + 1, by omega, by go_num, drawn_more hwi.out _, hd2⟩
            case measure => simp [intOf]; omega
        · obtain rfl : q = k := by omega
          have hh := has_take hlt hd.out
          have hwW : ∃ m, wr = w.drewN m := drawn_trans hw.out hwi.out
          by_cases hz : 0 < q
          · obtain ⟨s, hs1, hs2⟩ := P.out (q - 1) (by omega)
            obtain ⟨t, ht1, ht2⟩ := P.out q hlt
            obtain ⟨rb, ro, rc, g1, g2⟩ := G.out s hs2
            have g3 := g2 t ht2
            clear g2
            have hxp : wr.cell? ⟨bb, off + (q - 1), none⟩ = some (.int .i64 (s : Int)) := by rw [← hs1]; obtain ⟨m, rfl⟩ := hwW; exact hX.out (q - 1) (by omega)
            have hxk2 : wr.cell? ⟨bb, off + q, none⟩ = some (.int .i64 (t : Int)) := by rw [← ht1]; exact hxk
            have k2' : wr.cell? ⟨b, 2, none⟩ = some (.slice (some ⟨mb, mo, none⟩) N mc) := by obtain ⟨m, rfl⟩ := hwW; exact k2
            have g1' : wr.cell? ⟨mb, mo + s, none⟩ = some (.slice (some ⟨rb, ro, none⟩) N rc) := by obtain ⟨m, rfl⟩ := hwW; exact g1
            have g3' : wr.cell? ⟨rb, ro + t, none⟩ = some (.int .i64 ((c.w.getD s []).getD t 0)) := by obtain ⟨m, rfl⟩ := hwW; exact g3
            have hat := Lib.hid (show pthAt c xs q = !decide ((c.w.getD s []).getD t 0 = 0) by unfold pthAt; rw [hh, hs1, ht1, hW.out, decide_eq_true hz]; simp)
            clear k2 g1 g3 hxk hs1 ht1
            generalize (c.w.getD s []).getD t 0 = y at g3' hat
            obtain ⟨p, rfl⟩ : ∃ p, q = p + 1 := ⟨q - 1, by omega⟩
            rw [Nat.add_sub_cancel] at hxp
            have i0 : ((p + 1 : Nat) : Int) - 1 = (p : Int) := by omega
            have i4 : (0 : Int) < ((p + 1 : Nat) : Int) := by omega
            by_cases hy : y = 0
            · subst hy
              have hfin := Lib.hid (hno.out (p + 1) (by omega) (by rw [hat.out]; rfl))
              go_wp2
              go_quiet (fail)
              go_wp2
              go_ret
              exact ⟨ret_bool hfin.out.symm, drawn_more hwW _⟩
            · have hn2 := Lib.hid (rngAll_succ (f := fun i => pthAt c xs i) ht.out (show pthAt c xs (p + 1) = true by rw [hat.out]; simp [hy]))
              have hy' : (y == 0) = false := by simpa using hy
              clear hy
              go_wp2
              go_quiet (fail)
              go_wp2
              go_roundw
              case rel => exact ⟨p + 1 + 1, by omega, by go_num, drawn_more hwW _, hn2⟩
              case measure => simp [intOf]; omega
          · obtain rfl : q = 0 := by omega
            have hn2 := Lib.hid (rngAll_succ (f := fun i => pthAt c xs i) ht.out (show pthAt c xs 0 = true by unfold pthAt; rw [hh]; rfl))
            have i4 : decide ((0 : Int) < ((0 : Nat) : Int)) = false := by decide
            go_wp2_with fail
            go_quiet (fail)
            go_wp2
            go_roundw
            case rel => exact ⟨0 + 1, by omega, by go_num, drawn_more hwW _, hn2⟩
            case measure => simp [intOf]; omega
    · obtain rfl : k = xs.length := by omega
      have hfin := Lib.hid (show pthOk c xs = true from ht.out)
      go_wp2
      go_ret
      exact ⟨ret_bool hfin.out.symm, hw.out⟩
end Go.Proofs.Ytkebfnmepbblnaa
