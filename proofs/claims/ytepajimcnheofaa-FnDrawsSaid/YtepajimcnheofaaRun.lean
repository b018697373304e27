/- RunByDraws of the project and of the specification: both return 'runOf'. Conditions: none on the chain, the state and the draws beyond what is read. -/
import Derived.Test.YtepajimcnheofaaStep
import Derived.Test.YtepajimcnheofaaMix2
import Derived.Test.YtepajimcnheofaaKinds
import Derived.Deep.RegionLaw
import Derived.Deep.AppendLies
namespace Go.Proofs.Ytepajimcnheofaa
open Go.RowKit Go.Deep
set_option linter.unusedVariables false

/-- the state of a run after so many draws -/
def stAt (c : Ch) (s : Nat) (ds : List Int) : Nat → Nat
  | 0 => s
  | i + 1 => pk (c.w.getD (stAt c s ds i) []) (ds.getD i 0)
def runL (c : Ch) (s : Nat) (ds : List Int) (k : Nat) : List Int := (List.range k).map fun i => ((stAt c s ds i : Nat) : Int)
def allDr (c : Ch) (ds : List Int) : Bool := ds.all fun d => inB d 0 (c.t - 1)
def runOf (c : Ch) (s : Int) (ds : List Int) : List Int × Int :=
  if chOk c = true then (if inB s 0 (c.n - 1) = true ∧ ds.length ≤ 200 ∧ allDr c ds = true then (runL c s.toNat ds (ds.length + 1), 0) else ([], 2)) else ([], 1)
theorem pk_lt {row : List Int} (d : Int) (h : 0 < row.length) : pk row d < row.length := by
  unfold pk
  cases e : (List.range row.length).find? (fun k => decide (d < (row.take (k + 1)).sum)) with
  | none => simpa using h
  | some k => have := List.mem_of_find?_eq_some e; simpa using this
theorem stAt_lt {c : Ch} (oc : chOk c = true) {s : Nat} (hs : s < c.w.length) (ds : List Int) (k : Nat) : stAt c s ds k < c.w.length := by
  obtain ⟨n1, n2, t1, t2, hlen, hrows⟩ := chOk_all oc
  induction k with
  | zero => exact hs
  | succ k ih =>
    have h1 := (okRow_all (hrows _ (getD_mem (d := []) ih))).1
    have := pk_lt (row := c.w.getD (stAt c s ds k) []) (ds.getD k 0) (by omega)
    simp only [stAt]; omega
theorem allDr_at {c : Ch} {ds : List Int} (h : allDr c ds = true) (k : Nat) (hk : k < ds.length) : inB (ds.getD k 0) 0 (c.t - 1) = true := by
  simp only [allDr, List.all_eq_true] at h
  exact h _ (getD_mem hk)
theorem allDr_not {c : Ch} {ds : List Int} {k : Nat} (hk : k < ds.length) (h : inB (ds.getD k 0) 0 (c.t - 1) = false) : allDr c ds = false := by
  rw [Bool.eq_false_iff]; intro ha
  rw [allDr_at ha k hk] at h; cases h
theorem nil_mine (w : World) (lo : Nat) : IntsMine 2 w lo w.heap.size (.slice none 0 0) [] :=
  ⟨⟨World.ownsRow_nil w lo _ _, by simp [ints], fun k hk => by simp [Value.ownBlock] at hk⟩, Nat.le_refl _⟩
theorem runL_succ (c : Ch) (s : Nat) (ds : List Int) (k : Nat) : runL c s ds (k + 1) = runL c s ds k ++ [((stAt c s ds k : Nat) : Int)] := range_map_succ _ k

theorem ownsRow_keep {w w' : World} {lo n size : Nat} {e : TypeId} {v : Value} {vs : List Value} (h : w.ownsRow lo e size v n vs) (hb : Below w.heap.size w w') : w'.ownsRow lo e size v n vs := by
  refine ⟨h.1, ?_⟩
  rcases h.2 with h0 | ⟨g, cap, cur, hv, hgg, hh, r⟩
  · exact Or.inl h0
  · exact Or.inr ⟨g, cap, cur, hv, hgg, by rw [hb.block g (Array.getElem?_eq_some_iff.1 hh).1]; exact hh, r⟩

set_option maxRecDepth 100000 in
set_option maxHeartbeats 8000000 in
theorem RunByDraws_impl (cv dv : Value) (c : Ch) (s : Int) (ds : List Int) (w : World) (hc : ChR w cv c) (hd : Ints w dv ds) :
    Calls Try.prog 36 #[cv, .int .i64 s, dv] w fun e w' => ∃ rv, e = .returned (.tuple #[rv, .int .i64 (runOf c s ds).2]) ∧ IntsMine 2 w' w.heap.size w'.heap.size rv (runOf c s ds).1 ∧ Below w.heap.size w w' := by
  obtain ⟨a, cap, rfl⟩ := hc.shape
  obtain ⟨da, dcap, rfl⟩ := hd.shape
  have hdm := hd.1
  have hdm : ds.length ≤ 9223372036854775807 := by simpa [ints, maxLen] using hdm
  have B0 := below1 w (.cells #[.int .i64 c.n, .int .i64 c.t, .slice a c.w.length cap] 26)
  have hB := Blk.new w #[.int .i64 c.n, .int .i64 c.t, .slice a c.w.length cap] 26
  have K := hc.keep B0
  by_cases oc : chOk c = true
  · obtain ⟨n1, n2, t1, t2, hlen, hrows⟩ := chOk_all oc
    have hrows' := Lib.hid hrows
    have hlen' := Lib.hid hlen
    clear hrows hlen
    by_cases hs : inB s 0 (c.n - 1) = true
    · by_cases hl : ds.length ≤ 200
      · obtain ⟨s0, s1⟩ := inB_iff.1 hs
        obtain ⟨s, rfl⟩ : ∃ k : Nat, s = k := ⟨s.toNat, by omega⟩
        have hsl : s < c.w.length := by have := hlen'.out; omega
        have hdl : decide ((200 : Int) < (ds.length : Int)) = false := decide_eq_false (by omega)
        obtain ⟨i0, hi, hz0, hz1, hz2⟩ := info_parts Try.infoI
        have hi' := Lib.hid hi; have hz0' := Lib.hid hz0; have hz1' := Lib.hid hz1; have hz2' := Lib.hid hz2
        clear hi hz0 hz1 hz2
        have hd' := Lib.hid hd
        clear hd
        obtain ⟨xb, xo, xc, xr, hxv, xlt, hx⟩ := hc.rows.at (by omega)
        simp at hxv
        obtain ⟨rfl, rfl⟩ := hxv
        have hx' := Lib.hid hx
        clear hx
        go_enter Try.func36, Try.ntmps36
        go_wp2_with fail
        refine (ValidChain_impl _ c _ K).mono ?_
        rintro e w1 ⟨rfl, b1⟩
        replace K := K.keep b1
        replace hB := hB.keep b1 hB.lt
        obtain ⟨q0, q1, q2⟩ := hB.three
        go_wp2_with fail
        refine (isState_any _ c _ _ K n1 n2).mono ?_
        rintro e w2 ⟨rfl, b2⟩
        clear q0 q1 q2
        replace K := K.keep b2
        replace hB := hB.keep b2 hB.lt
        have BB := below_wt (below_wt B0 b1) b2
        clear B0 b1 b2
        have hlt2 := hB.lt
        have own0 : (w2.alloc (.cells #[.int .i64 s] 2)).ownsRow (w.heap.size + 1) 2 1 (.slice (some ⟨w2.heap.size, 0, none⟩) 1 1) 1 (ints (runL c s ds 1)) := by
          refine ⟨by simp [ints, runL], Or.inr ⟨w2.heap.size, 1, #[.int .i64 s], rfl, by omega, heap_alloc_new w2 _, Nat.le_refl _, by unfold maxLen; omega, by simp, by simp [ints, runL, stAt]⟩⟩
        have B1 := below_wt BB (below1 w2 (.cells #[.int .i64 s] 2))
        have hB1 := hB.alloc (.cells #[.int .i64 s] 2)
        go_wp2
        generalize w2.alloc (.cells #[.int .i64 s] 2) = W at *
        clear hB K BB
        go_loopw [1, 8, 27] (fun sv v i wr => ∃ (k g gc : Nat), k ≤ ds.length ∧ i = .int .i64 k ∧ sv = .int .i64 (stAt c s ds k : Nat) ∧ v = .slice (some ⟨g, 0, none⟩) ((k + 1 : Nat)) gc ∧ wr.ownsRow (w.heap.size + 1) 2 1 (.slice (some ⟨g, 0, none⟩) (k + 1) gc) (k + 1) (ints (runL c s ds (k + 1))) ∧ Blk wr w.heap.size #[.int .i64 c.n, .int .i64 c.t, .slice (some ⟨xb, xo, none⟩) c.w.length cap] 26 ∧ Below w.heap.size w wr ∧ Hid (∀ j, j < k → inB (ds.getD j 0) 0 (c.t - 1) = true)) (fun _ _ i _ => ds.length - (intOf i).toNat)
        case atStart => exact ⟨0, _, _, Nat.zero_le _, rfl, rfl, rfl, own0, hB1, B1, fun j hj => by omega⟩
        case round =>
          obtain ⟨wo, rfl⟩ : ∃ wo : World, wo = wr := ⟨_, rfl⟩
          obtain ⟨k, g, gc, hk, rfl, rfl, rfl, hown, hBk, bel, hall⟩ := hrel
          have hown' := Lib.hid hown
          clear hown own0 B1 hB1
          by_cases hlt : k < ds.length
          · have K := hc.keep bel
            have D := hd'.out.keep bel
            obtain ⟨db, doff, dc, hdv, dlt, hdc⟩ := D.at (by omega)
            have dk := hdc k hlt
            simp at hdv
            obtain ⟨rfl, rfl⟩ := hdv
            have hst := stAt_lt oc hsl ds k
            have hnx := Lib.hid (show stAt c s ds (k + 1) = pk (c.w.getD (stAt c s ds k) []) (ds.getD k 0) from rfl)
            have hstep := Lib.hid (runL_succ c s ds (k + 1))
            have hno := Lib.hid (fun h => allDr_not (c := c) hlt h)
            obtain ⟨d, hd0⟩ : ∃ d, ds.getD k 0 = d := ⟨_, rfl⟩
            rw [hd0] at dk hnx hno
            have hdd := Lib.hid hd0
            clear hd0
            generalize stAt c s ds k = q at hst hnx ⊢
            have hltI : (k : Int) < (ds.length : Int) := by omega
            have hqI : (q : Int) < (c.w.length : Int) := by omega
            clear hdc D
            obtain ⟨q0, q1, q2⟩ := hBk.three
            go_wp2_with fail
            by_cases hq : inB d 0 (c.t - 1) = true
            · obtain ⟨d0, d1⟩ := inB_iff.1 hq
              refine (isDraw_any _ c _ _ K t1 t2).mono ?_
              rintro e w3 ⟨rfl, b3⟩
              clear q0 q1 q2
              have hB3 := hBk.keep b3 hBk.lt
              have bel3 := below_wt bel b3
              obtain ⟨q0, q1, q2⟩ := hB3.three
              obtain ⟨xcell, xrow⟩ := hx'.out q hst
              obtain ⟨p1, p2, p3⟩ := okRow_all (hrows'.out _ (getD_mem (d := []) hst))
              have x3 : w3.cell? ⟨xb, xo + q, none⟩ = _ := (bel3.cell (p := ⟨xb, xo + q, none⟩) xlt).trans xcell
              have r3 := xrow.keep bel3
              generalize c.w.getD q [] = row at hnx p1 p2 p3 r3
              generalize xr q = xv at x3 r3
              have hpk := pick_any xv row d w3 r3 (fun x hx => ⟨(p2 x hx).1, by have := (p2 x hx).2; omega⟩) (by omega) d0 (by omega)
              generalize pk row d = r at hnx hpk
              clear p1 p2 p3 xcell xrow r3 K
              have hown3 := ownsRow_keep hown'.out b3
              have hown3' := Lib.hid hown3
              have hne : ∀ k', k' < w.heap.size + 1 → (Value.slice (some ⟨g, 0, none⟩) (k + 1) gc).ownBlock ≠ some k' := fun k' hk' hh => by have := (ownsRow_type hown3 hh).1; omega
              have hne' := Lib.hid hne
              clear hown3 hne
              have hsz3 := bel3.size
              have hlt3 := hB3.lt
              go_wp2_with fail
              refine hpk.mono ?_
              rintro e w4 ⟨rfl, rfl⟩
              go_wp2_with (at_builtin; (refine wpList_append_own _ rfl _ _ 37 rfl (w.heap.size + 1) 2 i0 (.int .i64 0) 1 8 Try.underlying37 hi'.out hz0'.out hz1'.out hz2'.out rfl (by decide) _ _ _ rfl (hown3'.out.alloc _) ⟨w3.heap.size, 0, none⟩ 1 1 [.int .i64 r] rfl rfl (one_new _ _ _) (by simp [Value.oneCell']) (by unfold maxLen; omega) (by omega) (by simp; omega) ?_); intro v' w5 hown5 hgr5 _; obtain ⟨g2, c2, rfl⟩ := ownsRow_shape hown5 (by omega))
              go_roundw
              case rel =>
                refine ⟨k + 1, g2, c2, by omega, by go_num, by rw [hnx.out], rfl, ?_, ?_, ?_, ?_⟩
                · rw [hstep.out, hnx.out]
                  simpa [ints] using hown5
                · exact (hgr5.block w.heap.size (by simp; omega) (fun e => hne'.out _ (by omega) e.symm)).trans (hB3.alloc _)
                · exact (bel3.alloc (by omega) _).grown hgr5 (by simp; omega) (fun k' hk' => by have := (ownsRow_type hown3'.out hk').1; omega)
                · intro j hj
                  by_cases e : j = k
                  · subst e; rw [hdd.out]; exact hq
                  · exact hall.out j (by omega)
              case measure => simp [intOf]; omega
            · have hqf : inB d 0 (c.t - 1) = false := by simpa using hq
              have hr := Lib.hid (show runOf c s ds = ([], 2) by simp [runOf, oc, hno.out hqf])
              refine (isDraw_any _ c _ _ K t1 t2).mono ?_
              rintro e w3 ⟨rfl, b3⟩
              rw [hqf]
              go_wp2
              go_ret2
              rw [hr.out]
              exact ⟨_, rfl, nil_mine _ _, below_wt bel b3⟩
          · obtain rfl : k = ds.length := by omega
            have ha : allDr c ds = true := by
              simp only [allDr, List.all_eq_true]
              intro x hx
              obtain ⟨j, hj, rfl⟩ := List.mem_iff_getElem.1 hx
              have := hall.out j hj
              simpa [List.getD, hj] using this
            have hr := Lib.hid (show runOf c s ds = (runL c s ds (ds.length + 1), 0) by simp only [runOf, oc, hs, hl, ha]; simp)
            go_wp2
            go_ret2
            rw [hr.out]
            exact ⟨_, rfl, ⟨(Own.of (by simpa using hown'.out) (Nat.le_refl _)).wide (by omega) (Nat.le_refl _), Nat.le_refl _⟩, bel⟩
      · have hr := Lib.hid (show runOf c s ds = ([], 2) by simp [runOf, oc, hl])
        have hdl : decide ((200 : Int) < (ds.length : Int)) = true := decide_eq_true (by omega)
        go_enter Try.func36, Try.ntmps36
        go_wp2_with fail
        refine (ValidChain_impl _ c _ K).mono ?_
        rintro e w1 ⟨rfl, b1⟩
        replace K := K.keep b1
        replace hB := hB.keep b1 hB.lt
        obtain ⟨q0, q1, q2⟩ := hB.three
        go_wp2_with fail
        refine (isState_any _ c _ _ K n1 n2).mono ?_
        rintro e w2 ⟨rfl, b2⟩
        go_wp2
        go_ret2
        rw [hr.out]
        exact ⟨_, rfl, nil_mine _ _, below_wt (below_wt B0 b1) b2⟩
    · have hsf : inB s 0 (c.n - 1) = false := by simpa using hs
      have hr := Lib.hid (show runOf c s ds = ([], 2) by simp [runOf, oc, hsf])
      clear hs
      go_enter Try.func36, Try.ntmps36
      go_wp2_with fail
      refine (ValidChain_impl _ c _ K).mono ?_
      rintro e w1 ⟨rfl, b1⟩
      replace K := K.keep b1
      replace hB := hB.keep b1 hB.lt
      obtain ⟨q0, q1, q2⟩ := hB.three
      go_wp2_with fail
      refine (isState_any _ c _ _ K n1 n2).mono ?_
      rintro e w2 ⟨rfl, b2⟩
      rw [hsf]
      go_wp2
      go_ret2
      rw [hr.out]
      exact ⟨_, rfl, nil_mine _ _, below_wt (below_wt B0 b1) b2⟩
  · have oc' : chOk c = false := by simpa using oc
    have hr := Lib.hid (show runOf c s ds = ([], 1) by simp [runOf, oc'])
    clear oc
    go_enter Try.func36, Try.ntmps36
    go_wp2_with fail
    refine (ValidChain_impl _ c _ K).mono ?_
    rintro e w1 ⟨rfl, b1⟩
    go_wp2
    go_ret2
    rw [hr.out]
    exact ⟨_, rfl, nil_mine _ _, below_wt B0 b1⟩

/-! ### the specification's -/
theorem empty_own (w : World) (lo : Nat) (h : lo ≤ w.heap.size) : IntsMine 2 (w.alloc (.cells #[] 2)) lo (w.alloc (.cells #[] 2)).heap.size (.slice (some ⟨w.heap.size, 0, none⟩) 0 0) [] := by
  refine ⟨⟨⟨by simp [ints], Or.inr ⟨w.heap.size, 0, #[], rfl, h, heap_alloc_new w _, by simp [ints], by simp, by simp, by simp [ints]⟩⟩, by simp [ints], fun k hk => ?_⟩, Nat.le_refl _⟩
  simp [Value.ownBlock] at hk; simp; omega

set_option maxRecDepth 100000 in
set_option maxHeartbeats 8000000 in
theorem RunByDraws_spec (cv dv : Value) (c : Ch) (s : Int) (ds : List Int) (w : World) (hc : ChR w cv c) (hd : Ints w dv ds) :
    Calls Try.prog 35 #[cv, .int .i64 s, dv] w fun e w' => ∃ rv, e = .returned (.tuple #[rv, .int .i64 (runOf c s ds).2]) ∧ IntsMine 2 w' w.heap.size w'.heap.size rv (runOf c s ds).1 ∧ Below w.heap.size w w' := by
  obtain ⟨a, cap, rfl⟩ := hc.shape
  obtain ⟨da, dcap, rfl⟩ := hd.shape
  have hdm := hd.1
  have hdm : ds.length ≤ 9223372036854775807 := by simpa [ints, maxLen] using hdm
  have B0 := below1 w (.cells #[.int .i64 c.n, .int .i64 c.t, .slice a c.w.length cap] 26)
  have hB := Blk.new w #[.int .i64 c.n, .int .i64 c.t, .slice a c.w.length cap] 26
  have Pc : ChP (w.alloc (.cells #[.int .i64 c.n, .int .i64 c.t, .slice a c.w.length cap] 26)) w.heap.size c := ⟨_, hB.cell 0, hB.cell 1, hB.cell 2, (hc.keep B0).rows⟩
  have hW : w.heap.size < (w.alloc (.cells #[.int .i64 c.n, .int .i64 c.t, .slice a c.w.length cap] 26)).heap.size := by simp
  generalize hV : w.alloc (.cells #[.int .i64 c.n, .int .i64 c.t, .slice a c.w.length cap] 26) = V at *
  have hV' := Lib.hid hV
  clear hV
  by_cases oc : chOk c = true
  · obtain ⟨n1, n2, t1, t2, hlen, hrows⟩ := chOk_all oc
    have hrows' := Lib.hid hrows
    have hlen' := Lib.hid hlen
    clear hrows hlen
    by_cases hs : inB s 0 (c.n - 1) = true ∧ ds.length ≤ 200
    · obtain ⟨hs, hl⟩ := hs
      obtain ⟨s0, s1⟩ := inB_iff.1 hs
      obtain ⟨s, rfl⟩ : ∃ k : Nat, s = k := ⟨s.toNat, by omega⟩
      have hsl : s < c.w.length := by have := hlen'.out; omega
      have hdl : decide ((ds.length : Int) ≤ 200) = true := decide_eq_true (by omega)
      have hs' := Lib.hid hs
      have hd' := Lib.hid hd
      clear hs hd
      go_enter Try.func35, Try.ntmps35
      go_wp2_with fail
      rw [hV'.out]
      refine (l01Ok_any _ c _ Pc).mono ?_
      rintro e w1 ⟨rfl, m, rfl⟩
      have P1 := Pc.keep (below_drewN (Below.refl _ V) m)
      have hB1 : Blk (V.drewN m) w.heap.size _ _ := hB
      have BB := below_drewN B0 m
      obtain ⟨q0, q1, q2⟩ := hB1.three
      go_wp2_with fail
      refine (l00In_any _ _ _ _).mono ?_
      rintro e w2 ⟨rfl, rfl⟩
      rw [hs'.out]
      have hlt1 := hB1.lt
      go_wp2
      clear q0 q1 q2
      generalize V.drewN m = W1 at *
      clear Pc hB B0 hW
      go_loopw [8, 9] (fun okv i wr => ∃ (k : Nat) (b : Bool) (m : Nat), k ≤ ds.length ∧ i = .int .i64 k ∧ okv = .bool b ∧ wr = W1.drewN m ∧ Hid (b = true → ∀ j, j < k → inB (ds.getD j 0) 0 (c.t - 1) = true) ∧ Hid (b = false → allDr c ds = false)) (fun _ i _ => ds.length - (intOf i).toNat)
      case atStart => exact ⟨0, true, 0, Nat.zero_le _, rfl, rfl, rfl, fun _ j hj => by omega, fun h => by cases h⟩
      case round =>
        obtain ⟨k, b, m, hk, rfl, rfl, rfl, h1, h2⟩ := hrel
        have bm : Below W1.heap.size W1 (W1.drewN m) := below_drewN (Below.refl _ _) m
        have hB2 : Blk (W1.drewN m) w.heap.size _ _ := hB1
        have BB2 := below_drewN BB m
        have P2 := P1.keep bm
        cases b with
        | false =>
          have hr := Lib.hid (show runOf c s ds = ([], 2) by simp [runOf, oc, h2.out (by simp)])
          have hsz := BB2.size
          generalize W1.drewN m = w2 at *
          by_cases hlt : k < ds.length
          · have hltI : decide ((k : Int) < (ds.length : Int)) = true := decide_eq_true (by omega)
            go_wp2
            go_ret2
            rw [hr.out]
            exact ⟨_, rfl, empty_own _ _ hsz, below_wt BB2 (below1 _ _)⟩
          · have hltI : decide ((k : Int) < (ds.length : Int)) = false := decide_eq_false (by omega)
            go_wp2
            go_ret2
            rw [hr.out]
            exact ⟨_, rfl, empty_own _ _ hsz, below_wt BB2 (below1 _ _)⟩
        | true =>
          by_cases hlt : k < ds.length
          · have hltI : decide ((k : Int) < (ds.length : Int)) = true := decide_eq_true (by omega)
            have hltJ : (k : Int) < (ds.length : Int) := by omega
            obtain ⟨w2, hw2⟩ : ∃ w2, W1.drewN m = w2 := ⟨_, rfl⟩
            rw [hw2] at BB2 hB2 P2 bm ⊢
            have hw2' := Lib.hid hw2
            clear hw2
            have D := hd'.out.keep BB2
            obtain ⟨db, doff, dc, hdv, dlt, hdc⟩ := D.at (by omega)
            have dk := hdc k hlt
            simp at hdv
            obtain ⟨rfl, rfl⟩ := hdv
            have hno := Lib.hid (fun h => allDr_not (c := c) hlt h)
            obtain ⟨d, hd0⟩ : ∃ d, ds.getD k 0 = d := ⟨_, rfl⟩
            rw [hd0] at dk hno
            have hdd := Lib.hid hd0
            clear hd0 hdc D
            obtain ⟨q0, q1, q2⟩ := hB2.three
            have z1 : IntKind.i64.wrap (c.t - 1) = c.t - 1 := wrap_id (by omega)
            go_wp2
            go_quiet ((go_at_call 76; exact l00In_q _ _ _ _ _))
            go_wp2
            go_roundw
            case rel =>
              refine ⟨k + 1, inB d 0 (c.t - 1), _, by omega, by go_num, rfl, by rw [← hw2'.out]; exact World.drewN_drewN .., fun hb j hj => ?_, fun hb => hno.out hb⟩
              by_cases e : j = k
              · subst e; rw [hdd.out]; exact hb
              · exact h1.out (by simp) j (by omega)
            case measure => simp [intOf]; omega
          · obtain rfl : k = ds.length := by omega
            have hltI : decide ((ds.length : Int) < (ds.length : Int)) = false := decide_eq_false (by omega)
            have ha : allDr c ds = true := by
              simp only [allDr, List.all_eq_true]
              intro x hx
              obtain ⟨j, hj, rfl⟩ := List.mem_iff_getElem.1 hx
              have := h1.out (by simp) j hj
              simpa [List.getD, hj] using this
            have hr := Lib.hid (show runOf c s ds = (runL c s ds (ds.length + 1), 0) by have := hs'.out; simp only [runOf, oc, this, hl, ha]; simp)
            have ha' := Lib.hid ha
            clear ha h1 h2
            generalize W1.drewN m = W2 at *
            have own0 : (W2.alloc (.cells #[.int .i64 s] 2)).ownsRow (w.heap.size + 1) 2 1 (.slice (some ⟨W2.heap.size, 0, none⟩) 1 1) 1 (ints (runL c s ds 1)) := by
              refine ⟨by simp [ints, runL], Or.inr ⟨W2.heap.size, 1, #[.int .i64 s], rfl, by have := hB2.lt; omega, heap_alloc_new W2 _, Nat.le_refl _, by unfold maxLen; omega, by simp, by simp [ints, runL, stAt]⟩⟩
            have B1 := below_wt BB2 (below1 W2 (.cells #[.int .i64 s] 2))
            have bA := below1 W2 (.cells #[.int .i64 s] 2)
            have hBA := hB2.alloc (.cells #[.int .i64 s] 2)
            have PA := P2.keep bA
            obtain ⟨i0, hi, hz0, hz1, hz2⟩ := info_parts Try.infoI
            have hi' := Lib.hid hi; have hz0' := Lib.hid hz0; have hz1' := Lib.hid hz1; have hz2' := Lib.hid hz2
            clear hi hz0 hz1 hz2 bA hB1 hB2 P1 P2 BB BB2 bm
            go_wp2
            generalize W2.alloc (.cells #[.int .i64 s] 2) = W at *
            go_loopw [10, 11] (fun v i wr => ∃ (k g gc : Nat), k ≤ ds.length ∧ i = .int .i64 k ∧ v = .slice (some ⟨g, 0, none⟩) ((k + 1 : Nat)) gc ∧ wr.ownsRow (w.heap.size + 1) 2 1 (.slice (some ⟨g, 0, none⟩) (k + 1) gc) (k + 1) (ints (runL c s ds (k + 1))) ∧ Blk wr w.heap.size #[.int .i64 c.n, .int .i64 c.t, .slice a c.w.length cap] 26 ∧ Below w.heap.size w wr) (fun _ i _ => ds.length - (intOf i).toNat)
            case atStart => exact ⟨0, _, _, Nat.zero_le _, rfl, rfl, own0, hBA, B1⟩
            case round =>
              obtain ⟨wo, rfl⟩ : ∃ wo : World, wo = wr := ⟨_, rfl⟩
              obtain ⟨k, g, gc, hk, rfl, rfl, hown, hBk, bel⟩ := hrel
              clear own0 B1 hBA PA
              by_cases hlt : k < ds.length
              · have D := hd'.out.keep bel
                obtain ⟨db, doff, dc, hdv, dlt, hdc⟩ := D.at (by omega)
                have dk := hdc k hlt
                simp at hdv
                obtain ⟨rfl, rfl⟩ := hdv
                have hqd := allDr_at ha'.out k hlt
                have hst := stAt_lt oc hsl ds k
                have hnx := Lib.hid (show stAt c s ds (k + 1) = pk (c.w.getD (stAt c s ds k) []) (ds.getD k 0) from rfl)
                have hstep := Lib.hid (runL_succ c s ds (k + 1))
                have cellk := hown.cellAt k (by simp)
                have hck : (ints (runL c s ds (k + 1)))[k]? = some (.int .i64 (stAt c s ds k)) := by simp [ints, runL]
                have ck : wo.cell? ⟨g, k, none⟩ = some (.int .i64 (stAt c s ds k : Nat)) := cellk.trans hck
                have Pk : ChP wo.drew w.heap.size c := ⟨_, hBk.cell 0, hBk.cell 1, hBk.cell 2, (hc.keep bel).rows⟩
                obtain ⟨d, hd0⟩ : ∃ d, ds.getD k 0 = d := ⟨_, rfl⟩
                rw [hd0] at dk hqd hnx
                clear hd0 cellk hck hdc D
                obtain ⟨d0, d1⟩ := inB_iff.1 hqd
                generalize stAt c s ds k = q at hst hnx ck
                have hto : Calls Try.prog 77 #[.pointer (some ⟨w.heap.size, 0, none⟩), .int .i64 q, .int .i64 d] wo.drew (fun e w' => e = .returned (.int .i64 (pk (c.w.getD q []) d)) ∧ w' = wo.drew) :=
                  (l01To_any w.heap.size c q d wo.drew Pk oc hst d0 (by omega)).mono fun _ _ ⟨h1, h2⟩ => ⟨h1, h2.symm⟩
                generalize pk (c.w.getD q []) d = r at hto hnx
                have hltI : (k : Int) < (ds.length : Int) := by omega
                have hltJ : (k : Int) < ((k : Int) + 1) := by omega
                have hne : ∀ k', k' < w.heap.size + 1 → (Value.slice (some ⟨g, 0, none⟩) (k + 1) gc).ownBlock ≠ some k' := fun k' hk' hh => by have := (ownsRow_type hown hh).1; omega
                have hne' := Lib.hid hne
                have hsz3 := bel.size
                have hlt3 := hBk.lt
                have hown' := Lib.hid hown
                clear hown hne hqd
                go_wp2_with fail
                go_region_law (first
                  | (refine step_append_lies _ (by rfl) _ _ _ (by rfl) (w.heap.size + 1) 2 i0 (.int .i64 0) 1 8 Try.underlying37 hi'.out hz0'.out hz1'.out hz2'.out rfl (by omega) (.slice (some ⟨g, 0, none⟩) (k + 1) gc) (k + 1) _ (by rfl) ((hown'.out.alloc _).drew)
                      ⟨wo.heap.size, 0, none⟩ 1 1 [.int .i64 r] (by rfl) (by rfl) (one_new _ _ _) (by simp [Value.oneCell']) (by omega) (by unfold maxLen; omega) (by omega) (by simp; omega) (wo.heap.size + 1) (by simp) ?_; intro gg cap2 w3 hown3 hgrow hat hlt3)
                  | (go_simp; go_at_call 77; refine hto.mono ?_; rintro e w' ⟨rfl, rfl⟩))
                all_goals
                  go_wp2
                  go_roundw
                  case rel =>
                    refine ⟨k + 1, gg, cap2, by omega, by go_num, rfl, ?_, ?_, ?_⟩
                    · rw [hstep.out, hnx.out]
                      simpa [ints] using hown3
                    · exact (hgrow.block w.heap.size (by simp; omega) (fun e => hne'.out _ (by omega) e.symm)).trans (hBk.alloc _)
                    · exact ((bel.alloc (by omega) _).drew).grown hgrow (by simp; omega) (fun k' hk' => by have := (ownsRow_type hown'.out hk').1; omega)
                  case measure => simp [intOf]; omega
              · obtain rfl : k = ds.length := by omega
                go_wp2
                go_ret2
                rw [hr.out]
                exact ⟨_, rfl, ⟨(Own.of (by simpa using hown) (Nat.le_refl _)).wide (by omega) (Nat.le_refl _), Nat.le_refl _⟩, bel⟩
    · have hr := Lib.hid (show runOf c s ds = ([], 2) by
        simp only [runOf, oc, if_true]; rw [if_neg (by intro h; exact hs ⟨h.1, h.2.1⟩)])
      have hcase : inB s 0 (c.n - 1) = false ∨ (inB s 0 (c.n - 1) = true ∧ decide ((ds.length : Int) ≤ 200) = false) := by
        by_cases h1 : inB s 0 (c.n - 1) = true
        · exact Or.inr ⟨h1, decide_eq_false (by have : ¬ ds.length ≤ 200 := fun h => hs ⟨h1, h⟩; omega)⟩
        · exact Or.inl (by simpa using h1)
      clear hs
      have hin : ∀ w', Calls Try.prog 76 #[.int .i64 s, .int .i64 0, .int .i64 (c.n - 1)] w' fun e w'' => e = .returned (.bool (inB s 0 (c.n - 1))) ∧ w' = w'' := fun w' => l00In_any _ _ _ w'
      have hin' := Lib.hid hin
      clear hin
      rcases hcase with hc0 | ⟨hc0, hdl⟩
      all_goals
        have hc1 := Lib.hid hc0
        clear hc0
        go_enter Try.func35, Try.ntmps35
        go_wp2_with fail
        rw [hV'.out]
        refine (l01Ok_any _ c _ Pc).mono ?_
        rintro e w1 ⟨rfl, m, rfl⟩
        have hB1 : Blk (V.drewN m) w.heap.size _ _ := hB
        have BB := below_drewN B0 m
        obtain ⟨q0, q1, q2⟩ := hB1.three
        go_wp2_with fail
        refine (hin'.out _).mono ?_
        rintro e w2 ⟨rfl, rfl⟩
        rw [hc1.out]
        go_wp2
        clear q0 q1 q2
        generalize V.drewN m = W1 at *
        have hsz := BB.size
        go_loop [8, 9] (fun okv i => okv = .bool false ∧ i = .int .i64 0) (fun _ _ => 0)
        case atStart => exact ⟨rfl, rfl⟩
        case round =>
          obtain ⟨rfl, rfl⟩ := hrel
          by_cases hlt : 0 < ds.length
          · have hltI : decide ((0 : Int) < (ds.length : Int)) = true := decide_eq_true (by omega)
            go_wp2
            go_ret2
            rw [hr.out]
            exact ⟨_, rfl, empty_own _ _ hsz, below_wt BB (below1 _ _)⟩
          · have hltI : decide ((0 : Int) < (ds.length : Int)) = false := decide_eq_false (by omega)
            go_wp2
            go_ret2
            rw [hr.out]
            exact ⟨_, rfl, empty_own _ _ hsz, below_wt BB (below1 _ _)⟩
  · have oc' : chOk c = false := by simpa using oc
    have hr := Lib.hid (show runOf c s ds = ([], 1) by simp [runOf, oc'])
    clear oc
    go_enter Try.func35, Try.ntmps35
    go_wp2_with fail
    rw [hV'.out]
    refine (l01Ok_any _ c _ Pc).mono ?_
    rintro e w1 ⟨rfl, m, rfl⟩
    have BB := below_drewN B0 m
    have hsz := BB.size
    generalize V.drewN m = w1 at *
    go_wp2
    go_ret2
    rw [hr.out]
    exact ⟨_, rfl, empty_own _ _ hsz, below_wt BB (below1 _ _)⟩
end Go.Proofs.Ytepajimcnheofaa
