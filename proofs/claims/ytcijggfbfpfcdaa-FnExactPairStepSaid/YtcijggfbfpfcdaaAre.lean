/- AreMapsOf, both sides: whether a single state goes as by a chain. Conditions: none. -/
import Derived.Test.YtcijggfbfpfcdaaMsCh2
import Derived.Test.YtcijggfbfpfcdaaGrid
import Derived.Test.YtcijggfbfpfcdaaMix2
namespace Go.Proofs.Ytcijggfbfpfcdaa
open Go.RowKit Go.Deep
set_option linter.unusedVariables false

def likeW (c : Ch) (f : Nat → Nat → Int) (T : Int) (s : Nat) : Bool := (List.range c.w.length).all fun t => decide (f s t * c.t = (c.w.getD s []).getD t 0 * T)
def areOf (c : Ch) (m : Ms) : Bool × Int := if chOk c = true ∧ msOk m = true then (if c.n = m.n then ((List.range c.w.length).all (fun s => likeW c (wto m.l) m.t s), 0) else (false, 0)) else (false, 1)
theorem mul_bd3 {x y a b : Int} (h0 : 0 ≤ x) (h1 : x ≤ a) (h2 : 0 ≤ y) (h3 : y ≤ b) (ha : 0 ≤ a) : 0 ≤ x * y ∧ x * y ≤ a * b :=
  ⟨Int.mul_nonneg h0 h2, Int.le_trans (Int.mul_le_mul_of_nonneg_right h1 h2) (Int.mul_le_mul_of_nonneg_left h3 ha)⟩
theorem chOk_cells {c : Ch} (h : chOk c = true) {s t : Nat} (hs : s < c.w.length) (ht : t < c.w.length) : (c.w.getD s []).length = c.w.length ∧ 0 ≤ (c.w.getD s []).getD t 0 ∧ (c.w.getD s []).getD t 0 ≤ 60 := by
  obtain ⟨n1, n2, t1, t2, hlen, hrows⟩ := chOk_all h
  have := hrows _ (getD_mem (l := c.w) (d := []) hs)
  simp only [okRow, Bool.and_eq_true, decide_eq_true_eq, List.all_eq_true] at this
  obtain ⟨h1, h2, h3⟩ := this
  have hl : (c.w.getD s []).length = c.w.length := by omega
  have h4 := inB_iff.1 (h2 _ (getD_mem (l := c.w.getD s []) (d := 0) (show t < (c.w.getD s []).length by omega)))
  exact ⟨hl, by omega, by omega⟩

set_option maxRecDepth 100000 in
set_option maxHeartbeats 8000000 in
theorem goesLike_any (cv v : Value) (c : Ch) (ws : List Int) (f : Nat → Nat → Int) (T : Int) (s : Nat) (w : World) (hc : ChR w cv c) (hv : Ints w v ws) (oc : chOk c = true) (hs : s < c.w.length) (hl : ws.length = c.w.length)
    (hf0 : ∀ t, t < c.w.length → ws.getD t 0 = f s t ∧ 0 ≤ f s t ∧ f s t ≤ 57600) (T0 : 0 ≤ T) (T1 : T ≤ 3600) :
    Calls Try.prog 38 #[cv, .int .i64 (s : Int), v, .int .i64 T] w fun e w' => e = .returned (.bool (likeW c f T s)) ∧ Below w.heap.size w w' := by
  obtain ⟨n1, n2, t1, t2, hlen, -⟩ := chOk_all oc
  obtain ⟨a, cap, rfl⟩ := hc.shape
  have B0 := below1 w (.cells #[.int .i64 c.n, .int .i64 c.t, .slice a c.w.length cap] 30)
  have hB := Blk.new w #[.int .i64 c.n, .int .i64 c.t, .slice a c.w.length cap] 30
  have hv' := hv.keep B0
  have R := (hc.keep B0).rows
  have k1 := hB.cell 1
  have k2 := hB.cell 2
  generalize hV : w.alloc (.cells #[.int .i64 c.n, .int .i64 c.t, .slice a c.w.length cap] 30) = V at *
  have hV' := Lib.hid hV
  clear hV hB hc hv
  have hf := Lib.hid hf0
  have hce := Lib.hid (fun t ht => chOk_cells oc hs (t := t) ht)
  obtain ⟨N, hN⟩ : ∃ N, c.w.length = N := ⟨_, rfl⟩
  obtain ⟨mb, mo, mc, hmv, hG⟩ := gridI R hN (by omega) (fun s hs => (chOk_cells oc (s := s) (t := s) (by omega) (by omega)).1.trans hN)
  have hdef := Lib.hid (show likeW c f T s = (List.range N).all fun t => decide (f s t * c.t = (c.w.getD s []).getD t 0 * T) by unfold likeW; rw [hN])
  rw [hN] at hmv k2 hV' R hs hl hf hce ⊢
  rw [hmv] at k2 hV' ⊢
  simp only [List.getElem?_toArray, List.getElem?_cons_zero, List.getElem?_cons_succ] at k1 k2
  obtain ⟨rb, ro, rc, g1, g2⟩ := hG s hs
  obtain ⟨bb, off, vcap, rfl, -, hcc⟩ := hv'.at (by omega)
  rw [hl] at hcc ⊢
  have hX := Lib.hid hcc
  have hY := Lib.hid g2
  have hN6 : N ≤ 6 := by omega
  clear hG R hlen oc hcc hmv hv' g2 hf0
  generalize c.t = ct at *
  have j0 : (s : Int) < (N : Int) := by omega
  go_enter Try.func38, Try.ntmps38
  go_wp2
  rw [hV'.out]
  go_loopw [13] (fun i wr => ∃ k : Nat, k ≤ N ∧ i = .int .i64 k ∧ Hid (∃ m, wr = V.drewN m) ∧ Hid ((List.range k).all (fun t => decide (f s t * ct = (c.w.getD s []).getD t 0 * T)) = true)) (fun i _ => N - (intOf i).toNat)
  case atStart => exact ⟨0, Nat.zero_le _, rfl, ⟨0, rfl⟩, show _ = _ by simp⟩
  case round =>
    obtain ⟨k, hk, rfl, hw, ht⟩ := hrel
    by_cases hlt : k < N
    · obtain ⟨f1, f2, f3⟩ := hf.out k hlt
      obtain ⟨-, y1, y2⟩ := hce.out k hlt
      have q1 : wr.cell? ⟨w.heap.size, 1, none⟩ = some (.int .i64 ct) := by obtain ⟨m, rfl⟩ := hw.out; exact k1
      have q2 : wr.cell? ⟨w.heap.size, 2, none⟩ = some (.slice (some ⟨mb, mo, none⟩) N mc) := by obtain ⟨m, rfl⟩ := hw.out; exact k2
      have q3 : wr.cell? ⟨mb, mo + s, none⟩ = some (.slice (some ⟨rb, ro, none⟩) N rc) := by obtain ⟨m, rfl⟩ := hw.out; exact g1
      have q4 : wr.cell? ⟨rb, ro + k, none⟩ = some (.int .i64 ((c.w.getD s []).getD k 0)) := by obtain ⟨m, rfl⟩ := hw.out; exact hY.out k hlt
      have q5 : wr.cell? ⟨bb, off + k, none⟩ = some (.int .i64 (f s k)) := by rw [← f1]; obtain ⟨m, rfl⟩ := hw.out; exact hX.out k hlt
      have hyes := Lib.hid (fun h => rngAll_succ (f := fun t => decide (f s t * ct = (c.w.getD s []).getD t 0 * T)) ht.out (k := k) h)
      have hno := Lib.hid (fun h => rngAll_no (f := fun t => decide (f s t * ct = (c.w.getD s []).getD t 0 * T)) hlt h)
      clear k1 k2 g1 f1
      generalize f s k = x at *
      generalize (c.w.getD s []).getD k 0 = y at *
      obtain ⟨p1, p2⟩ := mul_bd3 f2 f3 (show 0 ≤ ct by omega) t2 (by decide)
      obtain ⟨p3, p4⟩ := mul_bd3 y1 y2 T0 T1 (by decide)
      have j1 : (k : Int) < (N : Int) := by omega
      by_cases he : x * ct = y * T
      · have he' : (x * ct != y * T) = false := by simpa using he
        have hn2 := Lib.hid (hyes.out (decide_eq_true he))
        clear he
        go_wp2
        go_quiet (fail)
        go_wp2
        go_roundw
        case rel => exact ⟨k + 1, by omega, by go_num, drawn_more hw.out _, hn2⟩
        case measure => simp [intOf]; omega
      · have he' : (x * ct != y * T) = true := by simpa using he
        have hfin := Lib.hid (hdef.out.trans (hno.out (decide_eq_false he)))
        clear he
        go_wp2
        go_quiet (fail)
        go_wp2
        go_ret
        exact ⟨ret_bool hfin.out.symm, by obtain ⟨m, rfl⟩ := hw.out; exact below_drewN (below_drewN B0 _) _⟩
    · obtain rfl : k = N := by omega
      have hfin := Lib.hid (hdef.out.trans ht.out)
      go_wp2
      go_ret
      exact ⟨ret_bool hfin.out.symm, by obtain ⟨m, rfl⟩ := hw.out; exact below_drewN B0 _⟩
end Go.Proofs.Ytcijggfbfpfcdaa
