/- ValidCoupled of the project. Conditions: none. -/
import Derived.Test.YtcijggfbfpfcdaaAlone
import Derived.Test.YtcijggfbfpfcdaaAre
namespace Go.Proofs.Ytcijggfbfpfcdaa
open Go.RowKit Go.Deep Go.Shelf Go.Sort
attribute [local go_sem] Oper.semAt_some
set_option linter.unusedVariables false

theorem anyI_take_succ {p : List Int → Bool} (xs : List (List Int)) (k : Nat) (h : k < xs.length) (h0 : (xs.take k).any p = false) (h1 : p (xs.getD k []) = false) : (xs.take (k + 1)).any p = false := by
  rw [List.take_succ_eq_append_getElem h, List.any_append, h0]
  simp only [List.getD, List.getElem?_eq_getElem h, Option.getD_some] at h1
  simp [h1]
theorem anyI_yes {p : List Int → Bool} (xs : List (List Int)) (k : Nat) (h : k < xs.length) (h1 : p (xs.getD k []) = true) : xs.any p = true := by
  rw [List.any_eq_true]
  exact ⟨_, by simp [List.getD, h], h1⟩

set_option maxHeartbeats 2000000 in
theorem indexFR_any (F : Nat) (caps : Array Value) (p : List Int → Bool) (v : Value) (xss : List (List Int)) (w : World) (hv : Rows2 w v xss) (hcf : ∀ args w, (callFunc F args).run Try.prog w = .ok (.enter F args) w)
    (hF0 : ∀ rv row, row ∈ xss → Ints w rv row → Calls Try.prog F (#[rv] ++ caps) w fun e w' => e = .returned (.bool (p row)) ∧ w = w') :
    Calls Try.prog 43 #[v, .func (.func F) #[] caps] w fun e w' => ∃ r : Int, e = .returned (.int .i64 r) ∧ (decide (0 ≤ r) = xss.any p ∧ (0 ≤ r → r.toNat < xss.length ∧ r < xss.length ∧ p (xss.getD r.toNat []) = true)) ∧ w = w' := by
  obtain ⟨hm, a, cap, rfl⟩ := hv.len
  unfold maxLen at hm
  have hF := Lib.hid hF0
  clear hF0
  go_enter Try.func43, Try.ntmps43
  go_wp2
  go_loop [8] (fun i => ∃ k : Nat, k ≤ xss.length ∧ i = .int .i64 k ∧ Hid ((xss.take k).any p = false)) (fun i => xss.length - (intOf i).toNat)
  case atStart => exact ⟨0, Nat.zero_le _, rfl, show _ = _ by simp⟩
  case round =>
    obtain ⟨k, hk, rfl, hn⟩ := hrel
    by_cases hlt : k < xss.length
    · obtain ⟨b, off, cap', rv, hvv, _, hc⟩ := hv.at (by omega)
      simp only [Value.slice.injEq] at hvv
      obtain ⟨rfl, _, rfl⟩ := hvv
      obtain ⟨hcell, hrow⟩ := hc k hlt
      clear hc
      have ha := Lib.hid (anyI_take_succ (p := p) xss k hlt hn.out)
      have hy := Lib.hid (anyI_yes (p := p) xss k hlt)
      have hcall := hF.out _ _ (show xss.getD k [] ∈ xss by simp [List.getD, hlt]) hrow
      have hpk := Lib.hid (show ∀ q, p (xss.getD k []) = q → p (xss.getD ((k : Int)).toNat []) = q from fun q h => by simpa using h)
      have hlt' : (k : Int) < (xss.length : Int) := by omega
      obtain ⟨_, ra, rc, hrv⟩ := hrow.len
      rw [hrv] at hcell hcall
      generalize (xss.getD k []).length = rl at *
      clear hrow hrv
      rcases hp : p (xss.getD k []) with _ | _
      · rw [hp] at hcall
        have hn2 := Lib.hid (ha.out hp)
        clear hp
        go_wp2_with fail
        refine hcall.mono ?_
        rintro e w' ⟨rfl, rfl⟩
        go_wp2
        go_round
        case rel => exact ⟨k + 1, by omega, by go_num, hn2⟩
        case measure => simp [intOf]; omega
      · rw [hp] at hcall
        have hn2 := Lib.hid (hy.out hp)
        have hpt := Lib.hid (hpk.out _ hp)
        clear hp
        go_wp2_with fail
        refine hcall.mono ?_
        rintro e w' ⟨rfl, rfl⟩
        go_wp2
        go_ret
        exact ⟨k, rfl, ⟨by rw [hn2.out]; simp, fun _ => ⟨by simpa using hlt, by omega, hpt.out⟩⟩, rfl⟩
    · obtain rfl : k = xss.length := by omega
      have hn2 := Lib.hid (show xss.any p = false by have := hn.out; rw [List.take_length] at this; exact this)
      go_wp2
      go_ret
      exact ⟨-1, rfl, ⟨by rw [hn2.out]; rfl, fun h => by omega⟩, rfl⟩

set_option maxHeartbeats 2000000 in
theorem contFR_any (F : Nat) (caps : Array Value) (p : List Int → Bool) (v : Value) (xss : List (List Int)) (w : World) (hv : Rows2 w v xss) (hcf : ∀ args w, (callFunc F args).run Try.prog w = .ok (.enter F args) w)
    (hF0 : ∀ rv row, row ∈ xss → Ints w rv row → Calls Try.prog F (#[rv] ++ caps) w fun e w' => e = .returned (.bool (p row)) ∧ w = w') :
    Calls Try.prog 35 #[v, .func (.func F) #[] caps] w fun e w' => e = .returned (.bool (xss.any p)) ∧ w = w' := by
  have hI := indexFR_any F caps p v xss w hv hcf hF0
  obtain ⟨hm, a, cap, rfl⟩ := hv.len
  go_enter Try.func35, Try.ntmps35
  go_wp2_with fail
  refine hI.mono ?_
  rintro e w' ⟨r, rfl, ⟨hr, -⟩, rfl⟩
  have hr' := Lib.hid hr
  clear hr
  go_wp2
  go_ret
  exact ⟨ret_bool hr'.out, rfl⟩


theorem cf_vc : ∀ args w, (callFunc 33 args).run Try.prog w = .ok (.enter 33 args) w := fun _ _ => by go_simp
theorem vc_one (rv : Value) (row : List Int) (n t : Int) (b1 b2 : Nat) (w : World) (hv : Ints w rv row) (hn : n ≤ 36) (t0 : 0 ≤ t) (t1 : t ≤ 3600) (h1 : w.cell? ⟨b1, 0, none⟩ = some (.int .i64 n)) (h2 : w.cell? ⟨b2, 1, none⟩ = some (.int .i64 t)) :
    Calls Try.prog 33 #[rv, .pointer (some ⟨b1, 0, none⟩), .pointer (some ⟨b2, 0, none⟩)] w fun e w' => e = .returned (.bool (!okRow n t row)) ∧ w = w' := by
  have hI := isRow_any rv row n t w hv hn t0 t1
  generalize okRow n t row = r at *
  obtain ⟨hm, a, cap, rfl⟩ := hv.len
  go_enter Try.func33, Try.ntmps33
  go_wp2_with fail
  refine hI.mono ?_
  rintro e w' ⟨rfl, rfl⟩
  go_wp2
  go_ret
  exact ⟨rfl, rfl⟩

theorem keeps_below {W W' : World} (h : Below W.heap.size W W') : KeepsOthers W W' := ⟨h.size, fun k o hk _ => (h.block k (Array.getElem?_eq_some_iff.1 hk).1).trans hk⟩

def pairLike (c m : Ch) (N i : Nat) : Bool := like c (i / N) (margL (m.w.getD i []) N) m.t && like c (i % N) (margR (m.w.getD i []) N) m.t
theorem margL_len (row : List Int) (N : Nat) : (margL row N).length = N := by simp [margL]
theorem margR_len (row : List Int) (N : Nat) : (margR row N).length = N := by simp [margR]
theorem marg_bd {row : List Int} {N : Nat} (hN : N ≤ 4) (h : ∀ y ∈ row, 0 ≤ y ∧ y ≤ 3600) {u : Nat} (hu : u < N) : (0 ≤ (margL row N).getD u 0 ∧ (margL row N).getD u 0 ≤ 57600) ∧ (0 ≤ (margR row N).getD u 0 ∧ (margR row N).getD u 0 ≤ 57600) := by
  have h1 := accL_bd row N h (List.finRange (N * N))
  have h2 := accR_bd row N h (List.finRange (N * N))
  rw [accL_all row N hN] at h1
  rw [accR_all row N hN] at h2
  have hl : ((List.finRange (N * N)).length : Int) ≤ 16 := by
    have : N * N ≤ 4 * 4 := Nat.mul_le_mul hN hN
    simp only [List.length_finRange]
    omega
  have e1 := h1.2 _ (getD_mem (l := margL row N) (d := 0) (k := u) (by rw [margL_len]; exact hu))
  have e2 := h2.2 _ (getD_mem (l := margR row N) (d := 0) (k := u) (by rw [margR_len]; exact hu))
  exact ⟨⟨e1.1, by omega⟩, e2.1, by omega⟩
theorem like_W (c : Ch) (s : Nat) (ws : List Int) (T : Int) (h : ws.length = c.w.length) : likeW c (fun _ t => ws.getD t 0) T s = like c s ws T := by unfold likeW like; rw [h]
theorem coOk_pairs {c m : Ch} {N : Nat} (oc : chOk c = true) (hcn : c.n = N) (h4 : c.n ≤ 4) (hn : m.n = c.n) (ht : inB m.t 1 3600 = true) (hl : (m.w.length : Int) = c.n * c.n) (hr : m.w.all (okRow (c.n * c.n) m.t) = true) :
    coOk c m = (List.finRange (N * N)).all fun x => pairLike c m N x.val := by
  have e : m.w.length = N * N := by
    rw [hcn] at hl
    have : ((N * N : Nat) : Int) = (N : Int) * (N : Int) := Int.natCast_mul _ _
    omega
  unfold coOk
  rw [oc, decide_eq_true h4, decide_eq_true hn, ht, decide_eq_true hl, hr, e, hcn]
  simp only [Bool.true_and, Int.toNat_natCast]
  rw [Bool.eq_iff_iff, List.all_eq_true, List.all_eq_true]
  constructor
  · intro h x _
    exact h x.val (by simp)
  · intro h i hi
    exact h ⟨i, by simp at hi; exact hi⟩ (by simp)

set_option maxRecDepth 100000 in
set_option maxHeartbeats 8000000 in
theorem ValidCoupled_impl (cv mv : Value) (c m : Ch) (w : World) (hc : ChR w cv c) (hm : ChR w mv m) :
    Calls Try.prog 25 #[cv, mv] w fun e w' => e = .returned (.bool (coOk c m)) ∧ Below w.heap.size w w' := by
  obtain ⟨a, cap, rfl⟩ := hc.shape
  obtain ⟨ma, mcap, rfl⟩ := hm.shape
  have B0 := below3 w (.cells #[.int .i64 c.n, .int .i64 c.t, .slice a c.w.length cap] 30) (.cells #[.int .i64 m.n, .int .i64 m.t, .slice ma m.w.length mcap] 32) (.cells #[.bool false] 4)
  have hB := ((Blk.new w #[.int .i64 c.n, .int .i64 c.t, .slice a c.w.length cap] 30).alloc (.cells #[.int .i64 m.n, .int .i64 m.t, .slice ma m.w.length mcap] 32)).alloc (.cells #[.bool false] 4)
  have hD := (Blk.new (w.alloc (.cells #[.int .i64 c.n, .int .i64 c.t, .slice a c.w.length cap] 30)) #[.int .i64 m.n, .int .i64 m.t, .slice ma m.w.length mcap] 32).alloc (.cells #[.bool false] 4)
  have hE := Blk.new ((w.alloc (.cells #[.int .i64 c.n, .int .i64 c.t, .slice a c.w.length cap] 30)).alloc (.cells #[.int .i64 m.n, .int .i64 m.t, .slice ma m.w.length mcap] 32)) #[.bool false] 4
  simp only [World.size_alloc] at hD hE
  have hsz : (((w.alloc (.cells #[.int .i64 c.n, .int .i64 c.t, .slice a c.w.length cap] 30)).alloc (.cells #[.int .i64 m.n, .int .i64 m.t, .slice ma m.w.length mcap] 32)).alloc (.cells #[.bool false] 4)).heap.size = w.heap.size + 3 := by simp
  have Kc := hc.keep B0
  have Rm := (hm.keep B0).rows
  generalize hV : ((w.alloc (.cells #[.int .i64 c.n, .int .i64 c.t, .slice a c.w.length cap] 30)).alloc (.cells #[.int .i64 m.n, .int .i64 m.t, .slice ma m.w.length mcap] 32)).alloc (.cells #[.bool false] 4) = V at *
  have hV' := Lib.hid hV
  have hq := Lib.hid (show ∀ u, Below V.heap.size V u → (u.cell? ⟨w.heap.size, 0, none⟩ = some (.int .i64 c.n) ∧ u.cell? ⟨w.heap.size, 1, none⟩ = some (.int .i64 c.t) ∧ u.cell? ⟨w.heap.size, 2, none⟩ = some (.slice a c.w.length cap)) ∧
      (u.cell? ⟨w.heap.size + 1, 0, none⟩ = some (.int .i64 m.n) ∧ u.cell? ⟨w.heap.size + 1, 1, none⟩ = some (.int .i64 m.t) ∧ u.cell? ⟨w.heap.size + 1, 2, none⟩ = some (.slice ma m.w.length mcap)) ∧ (u.cell? ⟨w.heap.size + 1 + 1, 0, none⟩ = some (.bool false) ∧ u.frozen? ⟨w.heap.size + 1 + 1, 0, none⟩ = false)
    from fun u hu => ⟨(hB.keep hu hB.lt).three, (hD.keep hu hD.lt).three, by rw [(hE.keep hu hE.lt).cell 0]; rfl, (hE.keep hu hE.lt).frozen 0⟩)
  have hbl := Lib.hid (show ∀ u, Below V.heap.size V u → Blk u (w.heap.size + 1 + 1) #[.bool false] 4 from fun u hu => hE.keep hu hE.lt)
  have hout := Lib.hid (show ∀ u, Below V.heap.size V u → (u.setCell ⟨w.heap.size + 1 + 1, 0, none⟩ (.bool false)).cell? ⟨w.heap.size + 1 + 1, 0, none⟩ = some (.bool false) ∧ Below w.heap.size w (u.setCell ⟨w.heap.size + 1 + 1, 0, none⟩ (.bool false)) from fun u hu =>
    ⟨World.cell?_setCell_same' _ _ _ (by rw [(hE.keep hu hE.lt).cell 0]; rfl), (B0.trans (hu.mono (by omega))).setCell (p := ⟨w.heap.size + 1 + 1, 0, none⟩) (by simp only; omega) _⟩)
  have hvc := ValidChain_impl _ c V Kc
  have hKc := Lib.hid (fun u (hu : Below V.heap.size V u) => Kc.keep hu)
  have hRm := Lib.hid (fun u (hu : Below V.heap.size V u) => Rm.keep hu)
  clear hV hB hD hE hc hm Kc Rm
  obtain ⟨⟨q0, q1, q2⟩, ⟨q3, q4, q5⟩, q6, q7⟩ := hq.out V (Below.refl _ _)
  rcases oc : chOk c with _ | _
  · rw [oc] at hvc
    have hr := Lib.hid (show coOk c m = false by unfold coOk; rw [oc]; rfl)
    clear oc
    go_enter Try.func25, Try.ntmps25
    go_wp2_with fail
    rw [hV'.out]
    refine hvc.mono ?_
    rintro e w1 ⟨rfl, b1⟩
    obtain ⟨⟨p0, p1, p2⟩, ⟨p3, p4, p5⟩, p6, p7⟩ := hq.out w1 b1
    go_wp2
    obtain ⟨hc5, hb5⟩ := hout.out w1 b1
    refine bodyPost_ret (v := .bool false) (by simp [results, Try.f25, go_sem, hc5]) rfl ⟨ret_bool hr.out.symm, hb5⟩
  rw [oc] at hvc
  obtain ⟨n1, n2, t1, t2, hlen, -⟩ := chOk_all oc
  by_cases h4 : c.n ≤ 4
  rotate_left
  · have hr := Lib.hid (show coOk c m = false by unfold coOk; rw [decide_eq_false h4]; simp)
    have h4' : 4 < c.n := by omega
    clear oc h4 hlen
    go_enter Try.func25, Try.ntmps25
    go_wp2_with fail
    rw [hV'.out]
    refine hvc.mono ?_
    rintro e w1 ⟨rfl, b1⟩
    obtain ⟨⟨p0, p1, p2⟩, ⟨p3, p4, p5⟩, p6, p7⟩ := hq.out w1 b1
    go_wp2
    obtain ⟨hc5, hb5⟩ := hout.out w1 b1
    refine bodyPost_ret (v := .bool false) (by simp [results, Try.f25, go_sem, hc5]) rfl ⟨ret_bool hr.out.symm, hb5⟩
  by_cases hn : m.n = c.n
  rotate_left
  · have hr := Lib.hid (show coOk c m = false by unfold coOk; rw [decide_eq_false hn]; simp)
    have hne : (m.n != c.n) = true := by simpa using hn
    clear oc hn hlen
    go_enter Try.func25, Try.ntmps25
    go_wp2_with fail
    rw [hV'.out]
    refine hvc.mono ?_
    rintro e w1 ⟨rfl, b1⟩
    obtain ⟨⟨p0, p1, p2⟩, ⟨p3, p4, p5⟩, p6, p7⟩ := hq.out w1 b1
    go_wp2
    obtain ⟨hc5, hb5⟩ := hout.out w1 b1
    refine bodyPost_ret (v := .bool false) (by simp [results, Try.f25, go_sem, hc5]) rfl ⟨ret_bool hr.out.symm, hb5⟩
  have hne : (m.n != c.n) = false := by simpa using hn
  have hin := Lib.hid (fun u => isIn_any m.t 1 3600 u)
  rcases ht : inB m.t 1 3600 with _ | _
  · rw [ht] at hin
    have hr := Lib.hid (show coOk c m = false by unfold coOk; rw [ht]; simp)
    clear oc hn hlen ht
    go_enter Try.func25, Try.ntmps25
    go_wp2_with fail
    rw [hV'.out]
    refine hvc.mono ?_
    rintro e w1 ⟨rfl, b1⟩
    obtain ⟨⟨p0, p1, p2⟩, ⟨p3, p4, p5⟩, p6, p7⟩ := hq.out w1 b1
    go_wp2_with fail
    refine (hin.out _).mono ?_
    rintro e w2 ⟨rfl, rfl⟩
    go_wp2
    obtain ⟨hc5, hb5⟩ := hout.out w1 b1
    refine bodyPost_ret (v := .bool false) (by simp [results, Try.f25, go_sem, hc5]) rfl ⟨ret_bool hr.out.symm, hb5⟩
  rw [ht] at hin
  obtain ⟨tb1, tb2⟩ := inB_iff.1 ht
  obtain ⟨N, hN⟩ : ∃ N, c.w.length = N := ⟨_, rfl⟩
  have hcN : c.n = (N : Int) := by omega
  have hmN : m.n = (N : Int) := by omega
  obtain ⟨M, hM⟩ : ∃ M, N * N = M := ⟨_, rfl⟩
  have hsq : (N : Int) * (N : Int) = (M : Int) := by rw [← hM, Int.natCast_mul]
  have hN4 : N ≤ 4 := by omega
  have hM16 : M ≤ 16 := by rw [← hM]; exact Nat.mul_le_mul hN4 hN4
  have hRL := Lib.hid (show ∀ u, Below V.heap.size V u → ∀ b5, u.cell? ⟨b5, 0, none⟩ = some (.int .i64 (M : Int)) → Calls Try.prog 35 #[.slice ma m.w.length mcap, .func (.func 33) #[] #[.pointer (some ⟨b5, 0, none⟩), .pointer (some ⟨w.heap.size + 1, 0, none⟩)]] u fun e w' => e = .returned (.bool (m.w.any fun row => !okRow (M : Int) m.t row)) ∧ u = w' from fun u hu b5 h5 =>
    contFR_any 33 _ (fun row => !okRow (M : Int) m.t row) _ m.w u (hRm.out u hu) cf_vc (fun rv row _ hb => vc_one rv row (M : Int) m.t b5 (w.heap.size + 1) u hb (by omega) (by omega) (by omega) h5 (hq.out u hu).2.1.2.1))
  have hW2 := Lib.hid (show ∀ u, Below V.heap.size V u → Below V.heap.size V (u.alloc (.cells #[.int .i64 (M : Int)] 2)) ∧ (u.alloc (.cells #[.int .i64 (M : Int)] 2)).cell? ⟨u.heap.size, 0, none⟩ = some (.int .i64 (M : Int)) from fun u hu => ⟨hu.alloc hu.size _, by rw [(Blk.new u #[.int .i64 (M : Int)] 2).cell 0]; rfl⟩)
  rw [hcN] at hne hq hV' hvc hKc q0
  rw [hmN] at hne hq hV' q3
  by_cases hl : (m.w.length : Int) = (M : Int)
  rotate_left
  · have hr := Lib.hid (show coOk c m = false by unfold coOk; rw [decide_eq_false (show ¬ ((m.w.length : Int) = c.n * c.n) by rw [hcN, hsq]; exact hl)]; simp)
    have hle : ((m.w.length : Int) != (M : Int)) = true := by simpa using hl
    rw [hcN, hmN]
    clear oc hn hlen ht hl hcN hmN hM h4 n1 n2 hN
    go_enter Try.func25, Try.ntmps25
    go_wp2_with fail
    rw [hV'.out]
    refine hvc.mono ?_
    rintro e w1 ⟨rfl, b1⟩
    obtain ⟨⟨p0, p1, p2⟩, ⟨p3, p4, p5⟩, p6, p7⟩ := hq.out w1 b1
    go_wp2_with fail
    refine (hin.out _).mono ?_
    rintro e w2 ⟨rfl, rfl⟩
    obtain ⟨b2, x0⟩ := hW2.out w1 b1
    obtain ⟨⟨r0, r1, r2⟩, ⟨r3, r4, r5⟩, r6, r7⟩ := hq.out _ b2
    go_wp2
    obtain ⟨hc5, hb5⟩ := hout.out _ b2
    refine bodyPost_ret (v := .bool false) (by simp [results, Try.f25, go_sem, hc5]) rfl ⟨ret_bool hr.out.symm, hb5⟩
  have hle : ((m.w.length : Int) != (M : Int)) = false := by simpa using hl
  rcases ha : m.w.any (fun row => !okRow (M : Int) m.t row) with _ | _
  rotate_left
  · rw [ha] at hRL
    have hr := Lib.hid (show coOk c m = false by
      have : m.w.all (okRow (c.n * c.n) m.t) = false := by
        rw [hcN, hsq, Bool.eq_false_iff]
        intro h
        rw [List.any_eq_true] at ha
        obtain ⟨row, hm, hrow⟩ := ha
        rw [List.all_eq_true] at h
        rw [h row hm] at hrow
        cases hrow
      unfold coOk
      rw [this]; simp)
    rw [hcN, hmN]
    clear oc hn hlen ht hl hcN hmN hM h4 n1 n2 ha hN
    go_enter Try.func25, Try.ntmps25
    go_wp2_with fail
    rw [hV'.out]
    refine hvc.mono ?_
    rintro e w1 ⟨rfl, b1⟩
    obtain ⟨⟨p0, p1, p2⟩, ⟨p3, p4, p5⟩, p6, p7⟩ := hq.out w1 b1
    go_wp2_with fail
    refine (hin.out _).mono ?_
    rintro e w2 ⟨rfl, rfl⟩
    obtain ⟨b2, x0⟩ := hW2.out w1 b1
    obtain ⟨⟨r0, r1, r2⟩, ⟨r3, r4, r5⟩, r6, r7⟩ := hq.out _ b2
    go_wp2_with fail
    refine (hRL.out _ b2 _ x0).mono ?_
    rintro e w3 ⟨rfl, rfl⟩
    go_wp2
    obtain ⟨hc5, hb5⟩ := hout.out _ b2
    refine bodyPost_ret (v := .bool false) (by simp [results, Try.f25, go_sem, hc5]) rfl ⟨ret_bool hr.out.symm, hb5⟩
  rw [ha] at hRL
  have hrows : m.w.all (okRow (M : Int) m.t) = true := by
    rw [List.all_eq_true]
    intro row hm
    rw [List.any_eq_false] at ha
    have := ha row hm
    rcases h : okRow (M : Int) m.t row with _ | _
    · rw [h] at this; exact absurd rfl this
    · rfl
  have hpairs := Lib.hid (coOk_pairs oc hcN h4 hn ht (by rw [hcN, hsq]; exact hl) (by rw [hcN, hsq]; exact hrows))
  have hMl : m.w.length = M := by omega
  have hM0 : 0 < M := by rw [← hM]; exact Nat.mul_pos (by omega) (by omega)
  have hrl : ∀ i, i < M → (m.w.getD i []).length = M ∧ ∀ y ∈ m.w.getD i [], 0 ≤ y ∧ y ≤ 3600 := fun i hi => by
    rw [List.all_eq_true] at hrows
    have := hrows _ (getD_mem (l := m.w) (d := []) (k := i) (by omega))
    simp only [okRow, Bool.and_eq_true, decide_eq_true_eq, List.all_eq_true] at this
    refine ⟨by omega, fun y hy => ?_⟩
    have h := inB_iff.1 (this.2.1 y hy)
    omega
  obtain ⟨gb, goff, gcap, hgv, hG0⟩ := gridI (hRm.out V (Below.refl _ _)) hMl hM0 (fun i hi => (hrl i hi).1)
  rw [hMl] at hgv hRL hle hq hV' q5
  simp only [Value.slice.injEq] at hgv
  obtain ⟨rfl, -, rfl⟩ := hgv
  have G := Lib.hid hG0
  have hrb := Lib.hid (fun i hi => (hrl i hi).2)
  have hgl := Lib.hid (fun (ws : List Int) (v : Value) (s : Nat) u (hu : Below V.heap.size V u) (hs : s < N) (hv : Ints u v ws) (hw : ws.length = N) (hb : ∀ t, t < N → 0 ≤ ws.getD t 0 ∧ ws.getD t 0 ≤ 57600) => goesLike_any _ v c ws (fun _ t => ws.getD t 0) m.t s u (hKc.out u hu) hv oc (by omega) (by omega) (fun t ht => ⟨rfl, hb t (by omega)⟩) (by omega) (by omega))
  have hlW := Lib.hid (fun (ws : List Int) (s : Nat) (hw : ws.length = N) => like_W c s ws m.t (by omega))
  have hMh := Lib.hid hM
  rw [hcN, hmN, hMl]
  have hN1 : 1 ≤ N := by omega
  have h4f : decide ((4 : Int) < (N : Int)) = false := decide_eq_false (by omega)
  have hpo := Lib.hid (fun u => callsIn_wide.1 (pairsOf_in Fence.wide 3 trivial rfl N u))
  clear oc hn hlen ht hl hcN hmN hM h4 n1 n2 ha hrows hG0 hrl hMl hN
  refine (callsIn_wide (n := 3)).1 ?_
  refine callsIn_of_wp_marks Try.func25 rfl trivial ?_ rfl
  simp only [Try.ntmps25, List.size_toArray, List.length_cons, List.length_nil, Nat.reduceAdd, Nat.reduceSub, Array.replicate_succ, Array.replicate_zero, List.push_toArray, List.append_toArray, List.nil_append, List.cons_append]
  refine wpIn_wide.2 ?_
  go_wp2_with fail
  rw [hV'.out]
  refine hvc.mono ?_
  rintro e w1 ⟨rfl, b1⟩
  obtain ⟨⟨p0, p1, p2⟩, ⟨p3, p4, p5⟩, p6, p7⟩ := hq.out w1 b1
  go_wp2_with fail
  refine (hin.out _).mono ?_
  rintro e w2 ⟨rfl, rfl⟩
  obtain ⟨b2, x0⟩ := hW2.out w1 b1
  obtain ⟨⟨r0, r1, r2⟩, ⟨r3, r4, r5⟩, r6, r7⟩ := hq.out _ b2
  go_wp2_with fail
  refine (hRL.out _ b2 _ x0).mono ?_
  rintro e w3 ⟨rfl, rfl⟩
  go_wp2_with fail
  refine (hpo.out _).mono ?_
  rintro e w5 ⟨rfl, rfl⟩
  go_wp2_with fail
  obtain ⟨W2, hW2e⟩ : ∃ u, w1.alloc (.cells #[.int .i64 (M : Int)] 2) = u := ⟨_, rfl⟩
  have hs2 : W2.heap.size = w1.heap.size + 1 := by rw [← hW2e]; simp
  rw [hW2e] at b2 ⊢
  have hs1 := b1.size
  clear hW2e x0 r0 r1 r2 r3 r4 r5 r6 r7 p0 p1 p2 p3 p4 p5 p6 p7 q0 q1 q2 q3 q4 q5 q6 q7
  have BN := Blk.new W2 #[.int .i64 (N : Int)] 2
  rw [hs2] at BN
  have hW0b := below1 W2 (.cells #[.int .i64 (N : Int)] 2)
  obtain ⟨W0, hW0⟩ : ∃ W0, W2.alloc (.cells #[.int .i64 (N : Int)] 2) = W0 := ⟨_, rfl⟩
  have hsz0 : W0.heap.size = w1.heap.size + 2 := by rw [← hW0]; simp [hs2]
  rw [hW0] at BN hW0b ⊢
  clear hW0
  have b0 : Below V.heap.size V W0 := below_wt b2 hW0b
  refine (wpIn_wide (n := 3)).1 ?_
  refine wpIn_rangeFunc_ownH rfl (by decide) (gf := 44) (lb := #[.pointer (some ⟨w1.heap.size + 1, 0, none⟩)]) rfl trivial (enters_of Try.func44 (by kernel_rfl) rfl)
    (pairs_stops Fence.wide 2 trivial rfl (by decide) (w1.heap.size + 1) N (by omega) W0 BN) boxK_t (boxK_b (w := W0) (by omega)) (Below.refl _ _) (fun _ => rfl)
    (fun pre W => Below W0.heap.size W0 W ∧ ∀ y ∈ pre, pairLike c m N y.val = true)
    (fun cc pre W => (cc = .ret ∧ ∃ y ∈ pre, pairLike c m N y.val = false) ∧ Blk W (w.heap.size + 1 + 1) #[.bool false] 4 ∧ Below w.heap.size w W)
    (OwnFrom.and (ownFrom_below (Nat.le_refl _) (by omega)) (ownFrom_pure _ _))
    (fun cc => OwnFrom.and (ownFrom_pure _ _) (OwnFrom.and (Own.from (blk_own _ _ (fun _ => #[.bool false])) _) (ownFrom_below (Nat.le_refl _) (by omega))))
    ⟨Below.refl _ _, by simp⟩
    (fun x a' W => ∃ Bx, w1.heap.size + 1 < Bx ∧ Blk W Bx #[.int .i64 ((x.val / N : Nat) : Int), .int .i64 ((x.val % N : Nat) : Int)] 48 ∧ a' = { tmps := #[.agg #[.int .i64 (N : Int), .int .i64 c.t, .slice a c.w.length cap], .agg #[.int .i64 (N : Int), .int .i64 m.t, .slice (some ⟨gb, goff, none⟩) M mcap], .pointer (some ⟨w.heap.size, 0, none⟩), .pointer (some ⟨w.heap.size + 1, 0, none⟩), .pointer (some ⟨w.heap.size + 1 + 1, 0, none⟩), .pointer (some ⟨w1.heap.size, 0, none⟩), .func (.func 33) #[] #[.pointer (some ⟨w1.heap.size, 0, none⟩), .pointer (some ⟨w.heap.size + 1, 0, none⟩)], .pointer (some ⟨Bx, 0, none⟩), undef, undef, .agg #[.int .i64 (N : Int), .int .i64 c.t, .slice a c.w.length cap], .bool true, .bool false, .bool false, .pointer (some ⟨w.heap.size, 0, none⟩), .int .i64 (N : Int), .bool false, .bool false, .bool false, .pointer (some ⟨w.heap.size + 1, 0, none⟩), .int .i64 (N : Int), .pointer (some ⟨w.heap.size, 0, none⟩), .int .i64 (N : Int), .bool false, .bool false, .bool false, .pointer (some ⟨w.heap.size + 1, 1, none⟩), .int .i64 m.t, .bool true, .bool false, .bool false, .pointer (some ⟨w.heap.size + 1, 0, none⟩), .int .i64 (N : Int), .pointer (some ⟨w.heap.size + 1, 0, none⟩), .int .i64 (N : Int), .int .i64 (M : Int), .func (.func 33) #[] #[.pointer (some ⟨w1.heap.size, 0, none⟩), .pointer (some ⟨w.heap.size + 1, 0, none⟩)], .pointer (some ⟨w.heap.size + 1, 2, none⟩), .slice (some ⟨gb, goff, none⟩) M mcap, .int .i64 (M : Int), .int .i64 (M : Int), .bool false, .bool false, .pointer (some ⟨w.heap.size + 1, 2, none⟩), .slice (some ⟨gb, goff, none⟩) M mcap, .func (.func 33) #[] #[.pointer (some ⟨w1.heap.size, 0, none⟩), .pointer (some ⟨w.heap.size + 1, 0, none⟩)], .bool false, .bool false, .pointer (some ⟨w.heap.size + 1, 0, none⟩), .int .i64 (N : Int), .func (.func 44) #[] #[.pointer (some ⟨w1.heap.size + 1, 0, none⟩)], pairV N x, undef, undef, undef, undef, undef, undef, undef, undef, undef, undef, undef, undef, undef, undef, undef, undef, undef, undef, undef, undef, undef, undef, undef, undef], defers := [] })
    (fun x a' _ X Y rowx hs hg hr => by
      obtain ⟨Bx, h1, h2, h3⟩ := hs
      exact ⟨Bx, h1, (grownBy_keeps_cells hg (fun r e => (hr r e).2) h2 rfl).trans h2, h3⟩)
    ?assign ?body ?done ?stop
  case assign =>
    rintro l pre x W K ⟨hb1, hp1⟩ hK
    have hsW := hb1.size
    unfold pairV at hK ⊢
    generalize x.val / N = S at *
    generalize x.val % N = T at *
    gi_wp2
    exact hK _ _ ((KeepsOthers.alloc _ _).from _) (Below.heap_alloc _ _ _ (by omega)) ⟨hb1.alloc hsW _, hp1⟩ ⟨W.heap.size, by omega, Blk.new W _ _, rfl⟩
  case body =>
    rintro l pre x a' W hl ⟨r, hr⟩ ⟨hb1, hp1⟩ ⟨Bx, hBx, bX, rfl⟩ hlt
    have hsW := hb1.size
    have hbV : Below V.heap.size V W := below_wt b0 hb1
    obtain ⟨S, hS⟩ : ∃ S, x.val / N = S := ⟨_, rfl⟩
    obtain ⟨T, hT⟩ : ∃ T, x.val % N = T := ⟨_, rfl⟩
    have hSN : S < N := by rw [← hS]; exact Nat.div_lt_of_lt_mul x.isLt
    have hTN : T < N := by rw [← hT]; exact Nat.mod_lt _ (by omega)
    have hx : x.val = S * N + T := by
      have e := Nat.div_add_mod x.val N
      rw [hS, hT] at e
      rw [Nat.mul_comm S N]
      exact e.symm
    have hXM : x.val < M := by have := x.isLt; have := hMh.out; omega
    have hyes := Lib.hid (show pairLike c m N x.val = true → ∀ y ∈ pre ++ [x], pairLike c m N y.val = true from fun h y hy => by
      rcases List.mem_append.1 hy with hy | hy
      · exact hp1 y hy
      · rw [List.mem_singleton.1 hy]; exact h)
    have hnot := Lib.hid (show pairLike c m N x.val = false → ∃ y ∈ pre ++ [x], pairLike c m N y.val = false from fun h => ⟨x, by simp, h⟩)
    have hdef := Lib.hid (show pairLike c m N x.val = (like c S (margL (m.w.getD x.val []) N) m.t && like c T (margR (m.w.getD x.val []) N) m.t) by unfold pairLike; rw [hS, hT])
    obtain ⟨rb, ro, rc, g1, g2⟩ := G.out x.val hXM
    have hbd := hrb.out x.val hXM
    rw [hx] at g1
    have hal := Lib.hid (alone_any N M hMh.out m.t S T gb goff mcap rb ro rc (m.w.getD x.val []) W hN1 hN4 hSN hTN ((hbV.cell (block_lt g1)).trans g1) (fun k hk => (hbV.cell (block_lt (g2 k hk))).trans (g2 k hk)) hbd)
    unfold pairV
    rw [hS, hT] at bX ⊢
    generalize m.w.getD x.val [] = row at *
    clear hS hT hp1 g1 g2 hx
    obtain ⟨⟨q0, q1, q2⟩, ⟨q3, q4, q5⟩, q6, q7⟩ := hq.out W hbV
    obtain ⟨e0, e1⟩ := bX.two
    gi_wp2_with fail
    refine ⟨trivial, (CallsIn.inRound l (callsIn_wide.2 hal.out)).mono ?_⟩
    rintro e w3 ⟨lb, rbk, rfl, nl, nr, b3⟩
    have hu3 : Below V.heap.size V w3 := below_wt hbV b3
    clear q0 q1 q2 q3 q4 q5 q6 q7
    obtain ⟨⟨q0, q1, q2⟩, ⟨q3, q4, q5⟩, q6, q7⟩ := hq.out w3 hu3
    replace e0 := (b3.cell (block_lt e0)).trans e0
    replace e1 := (b3.cell (block_lt e1)).trans e1
    have il := NumB.ints nl (by rw [margL_len]; omega)
    rw [margL_len] at il
    have c1 := hgl.out _ _ S w3 hu3 hSN il (margL_len _ _) (fun t ht => (marg_bd hN4 hbd ht).1)
    rw [hlW.out _ S (margL_len _ _)] at c1
    have c2 := Lib.hid (fun u (hu : Below w3.heap.size w3 u) => hgl.out (margR row N) _ T u (below_wt hu3 hu) hTN (by have := NumB.ints (Blk.keep nr hu (Blk.lt nr)) (by rw [margR_len]; omega); rwa [margR_len] at this) (margR_len _ _) (fun t ht => (marg_bd hN4 hbd ht).2))
    rw [hlW.out _ T (margR_len _ _)] at c2
    rcases hl1 : like c S (margL row N) m.t with _ | _
    · rw [hl1] at c1
      have hl2 : pairLike c m N x.val = false := by rw [hdef.out, hl1]; rfl
      clear hl1 c2
      gi_wp2_with fail
      refine ⟨trivial, (CallsIn.inRound l (callsIn_wide.2 c1)).mono ?_⟩
      rintro e w4 ⟨rfl, b4⟩
      have hu2 : Below V.heap.size V w4 := below_wt hu3 b4
      have kk := Lib.hid (keeps_below (below_wt b3 b4))
      clear q0 q1 q2 q3 q4 q5 q6 q7
      obtain ⟨-, -, q6, q7⟩ := hq.out _ hu2
      gi_wp2
      refine ⟨trivial, ?_⟩
      gi_wp2
      exact ⟨((kk.out).trans (KeepsOthers.setCell _ _ _)).from _, ⟨rfl, hnot.out hl2⟩, (hbl.out _ hu2).set 0 _, (B0.trans (hu2.mono (by omega))).setCell (p := ⟨w.heap.size + 1 + 1, 0, none⟩) (by simp only; omega) _⟩
    · rw [hl1] at c1
      rcases hl3 : like c T (margR row N) m.t with _ | _
      · rw [hl3] at c2
        have hl2 : pairLike c m N x.val = false := by rw [hdef.out, hl1, hl3]; rfl
        clear hl1 hl3
        gi_wp2_with fail
        refine ⟨trivial, (CallsIn.inRound l (callsIn_wide.2 c1)).mono ?_⟩
        rintro e w4 ⟨rfl, b4⟩
        have hu4 : Below V.heap.size V w4 := below_wt hu3 b4
        clear q0 q1 q2 q3 q4 q5 q6 q7
        obtain ⟨⟨q0, q1, q2⟩, ⟨q3, q4, q5⟩, q6, q7⟩ := hq.out w4 hu4
        replace e0 := (b4.cell (block_lt e0)).trans e0
        replace e1 := (b4.cell (block_lt e1)).trans e1
        have c2' := c2.out w4 b4
        gi_wp2_with fail
        refine ⟨trivial, (CallsIn.inRound l (callsIn_wide.2 c2')).mono ?_⟩
        rintro e w5 ⟨rfl, b5⟩
        have hu2 : Below V.heap.size V w5 := below_wt hu4 b5
        have kk := Lib.hid (keeps_below (below_wt (below_wt b3 b4) b5))
        clear q0 q1 q2 q3 q4 q5 q6 q7
        obtain ⟨-, -, q6, q7⟩ := hq.out _ hu2
        gi_wp2
        exact ⟨((kk.out).trans (KeepsOthers.setCell _ _ _)).from _, ⟨rfl, hnot.out hl2⟩, (hbl.out _ hu2).set 0 _, (B0.trans (hu2.mono (by omega))).setCell (p := ⟨w.heap.size + 1 + 1, 0, none⟩) (by simp only; omega) _⟩
      · rw [hl3] at c2
        have hl2 : pairLike c m N x.val = true := by rw [hdef.out, hl1, hl3]; rfl
        clear hl1 hl3
        gi_wp2_with fail
        refine ⟨trivial, (CallsIn.inRound l (callsIn_wide.2 c1)).mono ?_⟩
        rintro e w4 ⟨rfl, b4⟩
        have hu4 : Below V.heap.size V w4 := below_wt hu3 b4
        clear q0 q1 q2 q3 q4 q5 q6 q7
        obtain ⟨⟨q0, q1, q2⟩, ⟨q3, q4, q5⟩, q6, q7⟩ := hq.out w4 hu4
        replace e0 := (b4.cell (block_lt e0)).trans e0
        replace e1 := (b4.cell (block_lt e1)).trans e1
        have c2' := c2.out w4 b4
        gi_wp2_with fail
        refine ⟨trivial, (CallsIn.inRound l (callsIn_wide.2 c2')).mono ?_⟩
        rintro e w5 ⟨rfl, b5⟩
        have hu2 : Below V.heap.size V w5 := below_wt hu4 b5
        have kk := Lib.hid (keeps_below (below_wt (below_wt b3 b4) b5))
        clear q0 q1 q2 q3 q4 q5 q6 q7
        have hbz : Below W.heap.size W w5 := below_wt (below_wt b3 b4) b5
        gi_wp2
        exact ⟨kk.out.from _, hbz.block _ (by omega), hb1.trans (hbz.mono hsW), hyes.out hl2⟩
  case done =>
    rintro D ys W hD rfl ⟨hb1, hp1⟩ hK
    have hfin := Lib.hid (show coOk c m = true by rw [hpairs.out, List.all_eq_true]; exact hp1)
    have hbV : Below V.heap.size V W := below_wt b0 hb1
    have hbw : Below w.heap.size w W := B0.trans (hbV.mono (by omega))
    have hcell := hbl.out W hbV
    have c3W := hcell.cell 0
    have f3W := hcell.frozen 0
    simp only [List.getElem?_toArray, List.getElem?_cons_zero] at c3W
    go_wp2
    have hK' := (KeepsOthers.setCell W ⟨w.heap.size + 1 + 1, 0, none⟩ (.bool true)).same D _ hK rfl
    refine ⟨by simp, .inl ⟨_, _, rfl, run_takeDeferred hK', ?_⟩⟩
    have hc5 := cell_kept (World.cell?_setCell_same' W ⟨w.heap.size + 1 + 1, 0, none⟩ (.bool true) (by rw [c3W]; rfl)) (grownBy_putObj' _ D (.deferred none)) (fun r e => by cases e; exact ⟨_, hK', rfl⟩)
    refine ⟨.bool true, ?_, ret_bool hfin.out.symm, (hbw.setCell (p := ⟨w.heap.size + 1 + 1, 0, none⟩) (by simp only; omega) _).trans (belowK_b (w := w) (Nat.le_refl _) _ D _ _ (by omega) hK' rfl rfl)⟩
    simp [results, Try.f25, go_sem, hc5]
  case stop =>
    rintro D cc pre W hD hpre ⟨⟨rfl, y, hy1, hy2⟩, hcell, hbw⟩ hK
    have hfin := Lib.hid (show coOk c m = false by rw [hpairs.out, Bool.eq_false_iff]; intro h; rw [List.all_eq_true] at h; have := h y (by simp); rw [hy2] at this; cases this)
    gi_wp2
    refine ⟨by simp, .inl ⟨_, _, rfl, run_takeDeferred hK, ?_⟩⟩
    have hc5 := cell_kept (show W.cell? ⟨w.heap.size + 1 + 1, 0, none⟩ = some (.bool false) from hcell.cell 0) (grownBy_putObj' _ D (.deferred none)) (fun r e => by cases e; exact ⟨_, hK, rfl⟩)
    refine ⟨.bool false, ?_, ret_bool hfin.out.symm, hbw.trans (belowK_b (w := w) (Nat.le_refl _) W D _ _ (by omega) hK rfl rfl)⟩
    simp [results, Try.f25, go_sem, hc5]
end Go.Proofs.Ytcijggfbfpfcdaa
