/- Maps that are drawn: P6Maps and draws of any bound. Conditions: none beyond those of the sources. -/
import Derived.Test.YtacnafjmcfcalaaSrc
import Derived.Test.YtacnafjmcfcalaaDraw
import Derived.Test.YtacnafjmcfcalaaMsMake
import Derived.Test.YtacnafjmcfcalaaMsOk
import Derived.Test.YtacnafjmcfcalaaMbd
namespace Go.Proofs.Ytacnafjmcfcalaa
open Go.RowKit Go.Deep
set_option linter.unusedVariables false
set_option linter.unusedSimpArgs false

theorem MadeMs.touched {w w' : World} {lo hi a b : Nat} {v : Value} {ps : List (Int × Value)} {l : List Mp} (h : MadeMs w lo hi v ps l) (t : Touched a b w w') (hd : b ≤ lo) : MadeMs w' lo hi v ps l :=
  ⟨ownsRow_touch h.own t hd, h.len, fun i hi' => ⟨(h.rows i hi').1, (h.rows i hi').2.touched t h.size hd⟩, h.far, Nat.le_trans h.size t.size⟩
theorem MadeMs.step2 {w1 w2 : World} {lo hi mid : Nat} {v v' rv : Value} {x : Int} {ps : List (Int × Value)} {l : List Mp} {y : List Int} {a : Addr} (h : MadeMs w1 lo hi v ps l)
    (hrow : Own w1 mid w1.heap.size 2 rv (ints y)) (hmid : hi ≤ mid) (hlo : lo ≤ mid) (o : Obj) (hown : w2.ownsRow lo 117 2 v' (l.length + 1) (fl ps ++ [.int .i64 x, rv])) (hg : (w1.alloc o).grownBy w2 v.ownBlock) (ha : a.block < lo) (u : Value) :
    MadeMs (w2.setCell a u) lo (w2.setCell a u).heap.size v' (ps ++ [(x, rv)]) (l ++ [(x, y)]) := by
  have hl := h.len
  have hs2 : w1.heap.size + 1 ≤ w2.heap.size := by have := hg.size; simpa using this
  have hs3 : (w2.setCell a u).heap.size = w2.heap.size := by simp [World.setCell]
  have keep : ∀ (lo' hi' : Nat) (x : Value) (xs : List Value), lo ≤ lo' → hi' ≤ w1.heap.size → Own w1 lo' hi' 2 x xs → Own (w2.setCell a u) lo' hi' 2 x xs := by
    intro lo' hi' x xs h1 h2 hx
    have hv1 := h.own
    refine hx.sameBlk fun k hk hxk => ?_
    have hne : v.ownBlock ≠ some k := fun hv => types_apart hv1 hx.1 (by decide) hv hxk
    have hlk : lo ≤ k := by have := (hx.1.lt k hxk).1; omega
    rw [Below.heap_setCell _ _ _ _ (by omega), hg.block k (by simp; omega) (fun e => hne e.symm), Below.heap_alloc _ _ _ hk]
  have hn : (ps ++ [(x, rv)]).getD l.length (0, undef) = (x, rv) := by simp [List.getD, ← hl]
  have ho : ∀ i, i < l.length → (ps ++ [(x, rv)]).getD i (0, undef) = ps.getD i (0, undef) := fun i hi => by simp only [List.getD]; rw [List.getElem?_append_left (by omega)]
  have hyn : (l ++ [(x, y)]).getD l.length mp0 = (x, y) := by simp [List.getD]
  have hyo : ∀ i, i < l.length → (l ++ [(x, y)]).getD i mp0 = l.getD i mp0 := fun i hi => by simp only [List.getD]; rw [List.getElem?_append_left (by omega)]
  have old : ∀ i, i < l.length → Own w1 lo hi 2 (ps.getD i (0, undef)).2 (ints (l.getD i mp0).2) := fun i hi => (h.rows i hi).2
  have apart : ∀ i, i < l.length → ∀ k, (ps.getD i (0, undef)).2.ownBlock = some k → k < mid := fun i hi k hk => by have := (h.rows i hi).2.2.2 k hk; omega
  have fresh : ∀ k, rv.ownBlock = some k → mid ≤ k := fun k hk => (hrow.1.lt k hk).1
  have hsz := h.size
  refine ⟨?_, by simp [hl], fun i hi' => ?_, fun i j hi' hj' hne k hk => ?_, Nat.le_refl _⟩
  · rw [List.length_append, fl_append]
    exact ownsRow_setCell_below hown ha u
  · simp only [List.length_append, List.length_singleton] at hi'
    by_cases e : i = l.length
    · subst e
      rw [hn, hyn]
      exact ⟨rfl, (keep mid w1.heap.size rv _ hlo (Nat.le_refl _) hrow).wide hlo (by omega)⟩
    · rw [ho i (by omega), hyo i (by omega)]
      exact ⟨(h.rows i (by omega)).1, (keep lo hi _ _ (Nat.le_refl _) (by omega) (old i (by omega))).wide (Nat.le_refl _) (by omega)⟩
  · simp only [List.length_append, List.length_singleton] at hi' hj'
    by_cases ei : i = l.length
    · subst ei
      rw [hn] at hk
      rw [ho j (by omega)]
      intro hk2
      have := apart j (by omega) k hk2
      have := fresh k hk
      omega
    · rw [ho i (by omega)] at hk
      by_cases ej : j = l.length
      · subst ej
        rw [hn]
        intro hk2
        have := apart i (by omega) k hk
        have := fresh k hk2
        omega
      · rw [ho j (by omega)]
        exact h.far i j (by omega) (by omega) hne k hk

set_option maxHeartbeats 2000000 in
theorem srcOne_any (w : World) (B b n : Nat) (k : Int) (hs : Src w B b n) (hn : n ≤ 1000000) (h1 : 1 ≤ k) (h2 : k ≤ 200) :
    Calls Try.prog 148 #[.pointer (some ⟨b, 0, none⟩), .int .i64 k] w fun e w' => ∃ o : Bool, e = .returned (.bool o) ∧ Src w' B b (n + 1) ∧ Touched b (b + 1) w w' ∧ w'.heap.size = w.heap.size := by
  have hd := Lib.hid (draw_any w B b n k hs hn h1 h2)
  clear hs
  go_enter Try.func148, Try.ntmps148
  go_wp2_with fail
  (with_reducible refine hd.out.mono ?_)
  rintro e w1 ⟨r, rfl, r0, r1, s1, t1, z1⟩
  have z1' := Lib.hid z1
  clear z1
  go_wp2
  go_ret
  exact ⟨_, rfl, s1, t1, z1'.out⟩
set_option maxHeartbeats 2000000 in
theorem max_spec (a b : Int) (w : World) :
    Calls Try.prog 149 #[.int .i64 a, .int .i64 b] w fun e w' => e = .returned (.int .i64 (if b < a then a else b)) ∧ w = w' := by
  by_cases h : b < a
  · have hr := Lib.hid (show (if b < a then a else b) = a from if_pos h)
    go_enter Try.func149, Try.ntmps149
    go_wp2
    go_ret
    exact ⟨by first | rfl | exact ret_int hr.out.symm, rfl⟩
  · have hr := Lib.hid (show (if b < a then a else b) = b from if_neg h)
    go_enter Try.func149, Try.ntmps149
    go_wp2
    go_ret
    exact ⟨by first | rfl | exact ret_int hr.out.symm, rfl⟩

/-- a drawn map is right -/
def MpIn (N : Nat) (p : Mp) : Prop := 1 ≤ p.1 ∧ p.1 ≤ 3 ∧ p.2.length = N ∧ ∀ x ∈ p.2, 0 ≤ x ∧ x ≤ (N : Int) - 1
theorem wsum_snoc (l : List Mp) (p : Mp) : wsum (l ++ [p]) = wsum l + p.1 := by simp [wsum]
theorem wsum_bd (l : List Mp) (N : Nat) (h : ∀ p ∈ l, MpIn N p) : (l.length : Int) ≤ wsum l ∧ wsum l ≤ 3 * (l.length : Int) := by
  induction l with
  | nil => simp [wsum]
  | cons p r ih =>
    have h1 := ih fun q hq => h q (by simp [hq])
    have h2 := h p (by simp)
    have e : wsum (p :: r) = p.1 + wsum r := by simp [wsum]
    rw [e]
    obtain ⟨a, b, _⟩ := h2
    simp only [List.length_cons]
    omega
theorem wsum_mem (l : List Mp) (N : Nat) (h : ∀ p ∈ l, MpIn N p) : ∀ p ∈ l, p.1 ≤ wsum l := by
  induction l with
  | nil => intro p hp; simp at hp
  | cons q r ih =>
    intro p hp
    have h1 := (wsum_bd r N (fun x hx => h x (by simp [hx]))).1
    have h2 := (h q (by simp)).1
    have e : wsum (q :: r) = q.1 + wsum r := by simp [wsum]
    rw [e]
    simp only [List.mem_cons] at hp
    rcases hp with rfl | hp
    · omega
    · have := ih (fun x hx => h x (by simp [hx])) p hp; omega
theorem ms_ok {N : Nat} {l : List Mp} (h1 : 1 ≤ N) (h4 : N ≤ 6) (hl : 1 ≤ l.length) (hl3 : l.length ≤ 3) (h : ∀ p ∈ l, MpIn N p) : msOk ⟨(N : Int), wsum l, l⟩ = true := by
  obtain ⟨b1, b2⟩ := wsum_bd l N h
  simp only [msOk, Bool.and_eq_true, decide_eq_true_eq, List.all_eq_true, inB_iff]
  refine ⟨⟨by omega, by omega⟩, ⟨by omega, by omega⟩, ⟨by omega, by omega⟩, fun p hp => ?_, trivial⟩
  obtain ⟨a, b, c, d⟩ := h p hp
  have hm := wsum_mem l N h p hp
  simp only [mpOk, within, Bool.and_eq_true, decide_eq_true_eq, List.all_eq_true, inB_iff]
  exact ⟨⟨a, by omega⟩, by omega, fun x hx => d x hx⟩

set_option maxRecDepth 100000 in
set_option maxHeartbeats 16000000 in
theorem l05Draw_any (w : World) (B b : Nat) (hs : Src w B b 0) :
    Calls Try.prog 74 #[.pointer (some ⟨b, 0, none⟩), .int .i64 4] w fun e w' => ∃ cv c, e = .returned cv ∧ MsMine 117 2 w' w.heap.size w'.heap.size cv c ∧ msOk c = true ∧ c.n ≤ 4 ∧ c.l.length ≤ 3 ∧ Touched b (b + 1) w w' := by
  have hblt := hs.lt
  have hBb := hs.le
  have bA := below1 w (.cells #[.int .i64 0, .int .i64 0, .slice none 0 0] 26)
  have hZ := Blk.new w #[.int .i64 0, .int .i64 0, .slice none 0 0] 26
  have s1 := hs.step bA
  have tw : Touched b (b + 1) w (w.alloc (.cells #[.int .i64 0, .int .i64 0, .slice none 0 0] 26)) := Touched.of bA
  have hszA : (w.alloc (.cells #[.int .i64 0, .int .i64 0, .slice none 0 0] 26)).heap.size = w.heap.size + 1 := by simp
  have hd1 := draw_any (w.alloc (.cells #[.int .i64 0, .int .i64 0, .slice none 0 0] 26)) B b 0 4 s1 (by omega) (by omega) (by omega)
  clear bA
  go_enter Try.func74, Try.ntmps74
  go_wp2_with fail
  (with_reducible refine hd1.mono ?_)
  rintro e w2 ⟨r, rfl, r0, r1, s2, t2, z2⟩
  obtain ⟨N, hN, hN1, hN4⟩ : ∃ N : Nat, 1 + r = (N : Int) ∧ 1 ≤ N ∧ N ≤ 4 := ⟨(1 + r).toNat, by omega, by omega, by omega⟩
  have hN' := Lib.hid hN
  replace tw := tw.trans t2
  replace hZ := hZ.touch t2 (by omega)
  have z2' := Lib.hid (z2.trans hszA)
  have b3 := below1 w2 (.cells #[.int .i64 (N : Int), .int .i64 0, .slice none 0 0] 26)
  have hC := Blk.new w2 #[.int .i64 (N : Int), .int .i64 0, .slice none 0 0] 26
  rw [z2'.out] at hC
  have s3 := s2.step b3
  replace hZ := hZ.step b3
  replace tw := tw.trans (Touched.of b3)
  have hsz3 := Lib.hid (show (w2.alloc (.cells #[.int .i64 (N : Int), .int .i64 0, .slice none 0 0] 26)).heap.size = w.heap.size + 2 by simp [z2'.out])
  clear z2 hszA b3 hd1 s1 s2 t2 hN
  go_upto_region 2 with fail
  rw [hN'.out, z2'.out]
  clear r0 r1
  generalize w2.alloc (.cells #[.int .i64 (N : Int), .int .i64 0, .slice none 0 0] 26) = W at *
  have ho := Lib.hid (srcOne_any W B b 1 3 s3 (by omega) (by omega) (by omega))
  go_wp2_with fail
  (with_reducible refine ho.out.mono ?_)
  rintro e w4 ⟨mono, rfl, s4, t4, z4⟩
  have z4' := Lib.hid (z4.trans hsz3.out)
  have hd2 := Lib.hid (draw_any w4 B b 2 3 s4 (by omega) (by omega) (by omega))
  replace hZ := hZ.touch t4 (by omega)
  replace hC := hC.touch t4 (by omega)
  replace tw := tw.trans t4
  clear z4 ho s3 t4
  go_wp2_with fail
  (with_reducible refine hd2.out.mono ?_)
  rintro e w5 ⟨i, rfl, i0, i1, s5, t5, z5⟩
  obtain ⟨I0, hI, hI1, hI3⟩ : ∃ I0 : Nat, 1 + i = (I0 : Int) ∧ 1 ≤ I0 ∧ I0 ≤ 3 := ⟨(1 + i).toNat, by omega, by omega, by omega⟩
  have hI' := Lib.hid hI
  have z5' := Lib.hid (z5.trans z4'.out)
  replace hZ := hZ.touch t5 (by omega)
  replace hC := hC.touch t5 (by omega)
  replace tw := tw.trans t5
  clear z5 hd2 s4 t5 hI
  obtain ⟨f0, hi, hz0, hz1, hz2⟩ := info_parts Try.infoI
  have hi' := Lib.hid hi; have hz0' := Lib.hid hz0; have hz1' := Lib.hid hz1; have hz2' := Lib.hid hz2
  obtain ⟨f1, ki, kz0, kz1, kz2⟩ := info_parts Try.infoMap
  have ki' := Lib.hid ki; have kz0' := Lib.hid kz0; have kz1' := Lib.hid kz1; have kz2' := Lib.hid kz2
  clear hi hz0 hz1 hz2 ki kz0 kz1 kz2
  go_wp2
  rw [hI'.out]
  clear i0 i1
  go_loopw [7] (fun iv wr => ∃ (i m : Nat) (T : Int) (a : Option Addr) (cap : Nat) (ps : List (Int × Value)) (l : List Mp), iv = .int .i64 (i : Int) ∧ i + l.length = I0 ∧ Hid (T = wsum l) ∧ 0 ≤ T ∧ T ≤ 9 ∧ Blk wr (w.heap.size + 1) #[.int .i64 (N : Int), .int .i64 T, .slice a l.length cap] 26 ∧ Blk wr w.heap.size #[.int .i64 0, .int .i64 0, .slice none 0 0] 26 ∧
      MadeMs wr (w.heap.size + 2) wr.heap.size (.slice a l.length cap) ps l ∧ Hid (∀ p ∈ l, MpIn N p) ∧ Src wr B b m ∧ m ≤ 3 + 5 * l.length ∧ Touched b (b + 1) w wr ∧ w.heap.size + 2 ≤ wr.heap.size) (fun iv _ => (intOf iv).toNat)
  case atStart => exact ⟨I0, 3, 0, none, 0, [], [], rfl, rfl, Lib.hid rfl, by omega, by omega, hC, hZ, by have := MadeMs.start w5 (w.heap.size + 2); simpa using this, Lib.hid (fun p hp => by simp at hp), s5, by omega, tw, by have := z5'.out; omega⟩
  case round =>
    obtain ⟨wo, rfl⟩ : ∃ wo : World, wo = wr := ⟨_, rfl⟩
    obtain ⟨i, m, T, a, cap, ps, l, rfl, hil, hT, T0, T9, hC1, hZ1, hMs, hlin, hsr, hm, tt, hs1⟩ := hrel
    have hMs' := Lib.hid hMs
    clear hMs hC hZ s5 tw
    by_cases hlt : 0 < i
    · have iI : (0 : Int) < (i : Int) := by omega
      have bE := below1 wo (.cells #[] 2)
      have own0 : (wo.alloc (.cells #[] 2)).ownsRow wo.heap.size 2 1 (.slice (some ⟨wo.heap.size, 0, none⟩) 0 0) 0 (ints []) := by simpa [ints] using World.ownsRow_made wo (e := 2) (base := wo.heap.size) (size := 1) #[] 0 (Nat.le_refl _) (Nat.zero_le _) (by simp)
      have sE := hsr.step bE
      have hzE : (wo.alloc (.cells #[] 2)).heap.size = wo.heap.size + 1 := by simp
      have tE : Touched b (b + 1) wo (wo.alloc (.cells #[] 2)) := Touched.of bE
      go_wp2
      generalize wo.alloc (.cells #[] 2) = WE at *
      clear bE
      go_loopw [8, 9] (fun tov xv wr => ∃ (x m2 g gc : Nat) (ys : List Int), x ≤ N ∧ xv = .int .i64 (x : Int) ∧ tov = .slice (some ⟨g, 0, none⟩) x gc ∧ Hid (wr.ownsRow wo.heap.size 2 1 (.slice (some ⟨g, 0, none⟩) x gc) x (ints ys)) ∧ Hid (ys.length = x) ∧ Hid (∀ y ∈ ys, 0 ≤ y ∧ y ≤ (N : Int) - 1) ∧ Src wr B b m2 ∧ m2 ≤ m + x ∧ Touched b (b + 1) wo wr ∧ wo.heap.size + 1 ≤ wr.heap.size) (fun _ xv _ => N - (intOf xv).toNat)
      case atStart => exact ⟨0, m, _, _, [], Nat.zero_le _, rfl, rfl, Lib.hid own0, Lib.hid rfl, Lib.hid (fun y hy => by simp at hy), sE, by omega, tE, by omega⟩
      case round =>
        obtain ⟨wi, rfl⟩ : ∃ wi : World, wi = wr := ⟨_, rfl⟩
        obtain ⟨x, m2, g, gc, ys, hx, rfl, rfl, hown, hyl, hyb, hsi, hm2, ti, hsi1⟩ := hrel
        clear own0 sE tE hzE
        have hC2 := hC1.touch ti (by omega)
        have c0 : wi.cell? ⟨w.heap.size + 1, 0, none⟩ = some (.int .i64 (N : Int)) := hC2.cell 0
        by_cases hxlt : x < N
        · have xI : (x : Int) < (N : Int) := by omega
          have hd := Lib.hid (draw_any wi B b m2 N hsi (by omega) (by omega) (by omega))
          go_wp2_with fail
          (with_reducible refine hd.out.mono ?_)
          rintro e w6 ⟨t, rfl, t0, t1, s6, t6, z6⟩
          have own6' := Lib.hid (ownsRow_touch hown.out t6 (by omega))
          have tt6 := ti.trans t6
          have z6' : w6.heap.size = wi.heap.size := z6
          have hz6 : wo.heap.size + 1 ≤ w6.heap.size := by omega
          have z6h := Lib.hid z6'
          clear z6 z6' hd c0 t6 hsi
          rcases mono with _ | _
          · skip
            go_wp2_with (at_builtin; (refine wpList_append_own _ rfl _ _ 28 rfl wo.heap.size 2 f0 (.int .i64 0) 1 8 Try.underlying28 hi'.out hz0'.out hz1'.out hz2'.out rfl (by decide) _ _ _ rfl (own6'.out.alloc _) ⟨w6.heap.size, 0, none⟩ 1 1 [.int .i64 t] rfl rfl (one_new _ _ _) (by simp [Value.oneCell']) (by unfold maxLen; omega) (by omega) (by simp; omega) ?_); intro v' w7 hown7 hgr7 _; obtain ⟨g2, c2, rfl⟩ := ownsRow_shape hown7 (by omega))
            go_roundw
            case rel =>
              have bel7 : Below wo.heap.size w6 w7 := ((Below.refl wo.heap.size w6).alloc (by omega) _).grown hgr7 (by simp; omega) (fun k' hk' => by have := (ownsRow_type own6'.out hk').1; omega)
              refine ⟨x + 1, m2 + 1, g2, c2, ys ++ [t], by omega, by go_num, rfl, Lib.hid (by simpa [ints] using hown7), Lib.hid (by simp [hyl.out]), Lib.hid ?_, s6.grown (bel7.mono (by omega)) (bel7.block b (by omega)), by omega, tt6.below_new bel7, by have := bel7.size; omega⟩
              intro y hy
              simp only [List.mem_append, List.mem_singleton] at hy
              rcases hy with hy | rfl
              · exact hyb.out y hy
              · exact ⟨by omega, by omega⟩
            case measure => simp [intOf]; omega
          · by_cases hx0 : 0 < x
            · have xI0 : (0 : Int) < (x : Int) := by omega
              have hyx := hyb.out _ (getD_mem (l := ys) (d := 0) (k := x - 1) (by rw [hyl.out]; omega))
              have cy : w6.cell? ⟨g, x - 1, none⟩ = some (.int .i64 (ys.getD (x - 1) 0)) := by
                have := own6'.out.cells (g := g) rfl (x - 1) (.int .i64 (ys.getD (x - 1) 0)) (by
                  have hl : x - 1 < ys.length := by rw [hyl.out]; omega
                  simp [ints, List.getElem?_eq_getElem hl, List.getD])
                rw [add_plain, Nat.zero_add] at this
                exact this
              have hxm : ((x : Int) - 1).toNat = x - 1 := by omega
              generalize ys.getD (x - 1) 0 = y1 at cy hyx
              obtain ⟨mx, hmx⟩ : ∃ mx, (if y1 < t then t else y1) = mx := ⟨_, rfl⟩
              have hmb : 0 ≤ mx ∧ mx ≤ (N : Int) - 1 := by rw [← hmx]; split <;> omega
              have hmax := fun W => max_spec t y1 W
              rw [hmx] at hmax
              have hmax' := Lib.hid hmax
              clear hmax hmx
              go_wp2_with fail
              (with_reducible refine (hmax'.out _).mono ?_)
              rintro e w6b ⟨rfl, rfl⟩
              go_wp2_with (at_builtin; (refine wpList_append_own _ rfl _ _ 28 rfl wo.heap.size 2 f0 (.int .i64 0) 1 8 Try.underlying28 hi'.out hz0'.out hz1'.out hz2'.out rfl (by decide) _ _ _ rfl (own6'.out.alloc _) ⟨w6.heap.size, 0, none⟩ 1 1 [.int .i64 mx] rfl rfl (one_new _ _ _) (by simp [Value.oneCell']) (by unfold maxLen; omega) (by omega) (by simp; omega) ?_); intro v' w7 hown7 hgr7 _; obtain ⟨g2, c2, rfl⟩ := ownsRow_shape hown7 (by omega))
              go_roundw
              case rel =>
                have bel7 : Below wo.heap.size w6 w7 := ((Below.refl wo.heap.size w6).alloc (by omega) _).grown hgr7 (by simp; omega) (fun k' hk' => by have := (ownsRow_type own6'.out hk').1; omega)
                refine ⟨x + 1, m2 + 1, g2, c2, ys ++ [mx], by omega, by go_num, rfl, Lib.hid (by simpa [ints] using hown7), Lib.hid (by simp [hyl.out]), Lib.hid ?_, s6.grown (bel7.mono (by omega)) (bel7.block b (by omega)), by omega, tt6.below_new bel7, by have := bel7.size; omega⟩
                intro y hy
                simp only [List.mem_append, List.mem_singleton] at hy
                rcases hy with hy | rfl
                · exact hyb.out y hy
                · exact ⟨by omega, by omega⟩
              case measure => simp [intOf]; omega
            · have xI0 : ¬ (0 : Int) < (x : Int) := by omega
              go_wp2_with (at_builtin; (refine wpList_append_own _ rfl _ _ 28 rfl wo.heap.size 2 f0 (.int .i64 0) 1 8 Try.underlying28 hi'.out hz0'.out hz1'.out hz2'.out rfl (by decide) _ _ _ rfl (own6'.out.alloc _) ⟨w6.heap.size, 0, none⟩ 1 1 [.int .i64 t] rfl rfl (one_new _ _ _) (by simp [Value.oneCell']) (by unfold maxLen; omega) (by omega) (by simp; omega) ?_); intro v' w7 hown7 hgr7 _; obtain ⟨g2, c2, rfl⟩ := ownsRow_shape hown7 (by omega))
              go_roundw
              case rel =>
                have bel7 : Below wo.heap.size w6 w7 := ((Below.refl wo.heap.size w6).alloc (by omega) _).grown hgr7 (by simp; omega) (fun k' hk' => by have := (ownsRow_type own6'.out hk').1; omega)
                refine ⟨x + 1, m2 + 1, g2, c2, ys ++ [t], by omega, by go_num, rfl, Lib.hid (by simpa [ints] using hown7), Lib.hid (by simp [hyl.out]), Lib.hid ?_, s6.grown (bel7.mono (by omega)) (bel7.block b (by omega)), by omega, tt6.below_new bel7, by have := bel7.size; omega⟩
                intro y hy
                simp only [List.mem_append, List.mem_singleton] at hy
                rcases hy with hy | rfl
                · exact hyb.out y hy
                · exact ⟨by omega, by omega⟩
              case measure => simp [intOf]; omega
        · obtain rfl : x = N := by omega
          have hd := Lib.hid (draw_any wi B b m2 3 hsi (by omega) (by omega) (by omega))
          go_wp2_with fail
          (with_reducible refine hd.out.mono ?_)
          rintro e w8 ⟨t, rfl, t0, t1, s8, t8, z8⟩
          have own8 := ownsRow_touch hown.out t8 (by omega)
          have tt8 := ti.trans t8
          have hC8 := hC2.touch t8 (by omega)
          have z8' := Lib.hid z8
          have hz8 : wo.heap.size + 1 ≤ w8.heap.size := by omega
          obtain ⟨d0, d1, d2⟩ := hC8.three
          have e1 := hC8.frozen 1
          have hTw : Touched (w.heap.size + 1) (w.heap.size + 2) w8 (w8.setCell ⟨w.heap.size + 1, 1, none⟩ (.int .i64 (T + (1 + t)))) := Touched.set (lo := w.heap.size + 1) (hi := w.heap.size + 2) (a := ⟨w.heap.size + 1, 1, none⟩) (Touched.refl _ _ _) (Nat.le_refl _) (Nat.lt_succ_self _) _
          have hM9 := (hMs'.out.touched tt8 (by omega)).touched hTw (Nat.le_refl _)
          have own9 := ownsRow_touch own8 hTw (by omega)
          have hC9 : Blk (w8.setCell ⟨w.heap.size + 1, 1, none⟩ (.int .i64 (T + (1 + t)))) (w.heap.size + 1) #[.int .i64 (x : Int), .int .i64 (T + (1 + t)), .slice a l.length cap] 26 := by
            have := hC8.set 1 (.int .i64 (T + (1 + t)))
            simpa using this
          have s9 : Src (w8.setCell ⟨w.heap.size + 1, 1, none⟩ (.int .i64 (T + (1 + t)))) B b (m2 + 1) := s8.set (by omega) (by omega) _
          have hZ9 : Blk (w8.setCell ⟨w.heap.size + 1, 1, none⟩ (.int .i64 (T + (1 + t)))) w.heap.size #[.int .i64 0, .int .i64 0, .slice none 0 0] 26 := Blk.setOther (hZ1.touch tt8 (by omega)) (by simp) _
          have hz9 : (w8.setCell ⟨w.heap.size + 1, 1, none⟩ (.int .i64 (T + (1 + t)))).heap.size = w8.heap.size := by simp [World.setCell]
          have hz9' := Lib.hid hz9
          have tt9 : Touched b (b + 1) w (w8.setCell ⟨w.heap.size + 1, 1, none⟩ (.int .i64 (T + (1 + t)))) := (tt.trans tt8).setNew (by omega) _
          clear z8 hd c0 t8 hsi own8 hTw hC8 s8 hz9
          go_upto_region 16 with fail
          generalize w8.setCell ⟨w.heap.size + 1, 1, none⟩ (.int .i64 (T + (1 + t))) = w9 at *
          clear d0 d1 d2 e1
          obtain ⟨q0, q1, q2⟩ := hC9.three
          have hMown : w9.ownsRow (w.heap.size + 2) 117 2 (.slice a l.length cap) l.length (fl ps) := hM9.own
          have hne : ∀ k', k' < w.heap.size + 2 → (Value.slice a l.length cap).ownBlock ≠ some k' := fun k' hk' hh => by have := (ownsRow_type hMown hh).1; omega
          have hne' := Lib.hid hne
          have hMown' := Lib.hid hMown
          have hM9' := Lib.hid hM9
          have own9' := Lib.hid own9
          have hz9b : w.heap.size + 3 ≤ w9.heap.size := by have := hz9'.out; omega
          have hll : l.length ≤ 3 := by omega
          clear hne hMown hM9 own9
          go_wp2_with (at_builtin; (refine wpList_append_own _ rfl _ _ 24 rfl (w.heap.size + 2) 117 f1 (.agg #[.int .i64 0, .slice none 0 0]) 2 32 Try.underlying24 ki'.out kz0'.out kz1'.out kz2'.out rfl (by decide) _ _ _ rfl (hMown'.out.alloc _) ⟨w9.heap.size, 0, none⟩ 1 1 [.int .i64 (1 + t), .slice (some ⟨g, 0, none⟩) x gc] rfl rfl (two_new _ _ _ _) (by simp [Value.oneCell']) (by unfold maxLen; omega) (by omega) (by simp; omega) ?_); intro v' w10 hown10 hgr10 _; obtain ⟨g2, c2, rfl⟩ := own2_shape hown10 (by omega); have hM3 : Blk w10 (w.heap.size + 1) _ _ := (hgr10.block (w.heap.size + 1) (by simp; omega) (fun e => hne'.out _ (by omega) e.symm)).trans (hC9.alloc _); have hf3 := hM3.frozen 2; have hc3 := hM3.cell 2; simp at hc3)
          go_roundw
          case rel =>
            have hg2 := hgr10.size
            simp at hg2
            have hz9c := hz9'.out
            have res := MadeMs.step2 (mid := wo.heap.size) (v' := .slice (some ⟨g2, 0, none⟩) (l.length + 1) c2) (a := ⟨w.heap.size + 1, 2, none⟩) (x := 1 + t) (y := ys) hM9'.out (Own.of own9'.out (Nat.le_refl _)) (Nat.le_refl _) hs1 _ (by simpa using hown10) hgr10 (by show w.heap.size + 1 < w.heap.size + 2; omega) (.slice (some ⟨g2, 0, none⟩) (l.length + 1) c2)
            have bel10 : Below (w.heap.size + 2) w9 w10 := ((Below.refl (w.heap.size + 2) w9).alloc (by omega) _).grown hgr10 (by simp; omega) (fun k' hk' => by have := (ownsRow_type hMown'.out hk').1; omega)
            have hZ10 : Blk w10 w.heap.size _ _ := (hgr10.block w.heap.size (by simp; omega) (fun e => hne'.out _ (by omega) e.symm)).trans (hZ9.alloc _)
            obtain ⟨wb1, wb2⟩ := wsum_bd l x hlin.out
            have hTw := hT.out
            have hmp : MpIn x (1 + t, ys) := ⟨by omega, by omega, hyl.out, hyb.out⟩
            refine ⟨i - 1, m2 + 1, T + (1 + t), some ⟨g2, 0, none⟩, c2, ps ++ [(1 + t, .slice (some ⟨g, 0, none⟩) x gc)], l ++ [(1 + t, ys)], by go_num, by simp; omega, Lib.hid ?_, by omega, by omega, ?_, hZ10.setOther (by simp) _, by simpa using res, Lib.hid ?_, (s9.grown (bel10.mono (by omega)) (bel10.block b (by omega))).set (by omega) (by omega) _, by simp; omega, (tt9.below_new (bel10.mono (by omega))).setNew (by omega) _, by simp [World.setCell]; omega⟩
            · rw [wsum_snoc, hTw]
            · have := hM3.set 2 (.slice (some ⟨g2, 0, none⟩) (l.length + 1) c2)
              simpa using this
            · intro p hp
              simp only [List.mem_append, List.mem_singleton] at hp
              rcases hp with hp | rfl
              · exact hlin.out p hp
              · exact hmp
          case measure => simp [intOf]; omega
    · obtain rfl : i = 0 := by omega
      have hl0 : l.length = I0 := by omega
      have hl3 : 1 ≤ l.length ∧ l.length ≤ 3 := by omega
      have hok := Lib.hid (ms_ok hN1 (by omega) hl3.1 hl3.2 hlin.out)
      rw [← hT.out] at hok
      obtain ⟨z0, z1, z2⟩ := hZ1.three
      have g0 := hZ1.frozen 0
      have g1 := hZ1.frozen 1
      have g2 := hZ1.frozen 2
      obtain ⟨c0, c1, c2⟩ := hC1.three
      clear hil hl0
      go_wp2
      refine bodyPost_ret (v := .agg #[.int .i64 (N : Int), .int .i64 T, .slice a l.length cap]) (by simp [results, Try.results74, go_sem, z0, z1, z2]) rfl ?_
      have hown := hMs'.out.done
      have hch : MsMine 117 2 wo (w.heap.size + 2) wo.heap.size (.agg #[.int .i64 (N : Int), .int .i64 T, .slice a l.length cap]) ⟨(N : Int), T, l⟩ := ⟨⟨_, rfl, hown⟩, Nat.le_refl _⟩
      obtain ⟨⟨v5, hv5, ho5⟩, hle5⟩ := hch.filled (b := w.heap.size) (Or.inl (by omega)) (.int .i64 (N : Int)) (.int .i64 T) (.slice a l.length cap)
      refine ⟨_, ⟨(N : Int), T, l⟩, rfl, ⟨⟨v5, hv5, ho5.wide (by omega) hle5⟩, Nat.le_refl _⟩, hok.out, by show (N : Int) ≤ 4; omega, hl3.2, ?_⟩
      exact ((tt.setNew (Nat.le_refl _) _).setNew (Nat.le_refl _) _).setNew (Nat.le_refl _) _
set_option maxRecDepth 100000 in
set_option maxHeartbeats 4000000 in
theorem P6Maps_any (v : Value) (len : Nat) (w : World) (hv : Bytes w v len) (hl : len ≤ 4096) :
    Calls Try.prog 16 #[v, .int .i64 4] w fun e w' => ∃ cv c, e = .returned cv ∧ MsMine 117 2 w' w.heap.size w'.heap.size cv c ∧ msOk c = true ∧ c.n ≤ 4 ∧ c.l.length ≤ 3 ∧ Below w.heap.size w w' := by
  obtain ⟨a, cap, rfl⟩ : ∃ a cap, v = .slice a len cap := by obtain ⟨_, a, cap, h, _⟩ := hv; exact ⟨a, cap, h⟩
  have bA := below1 w (.cells #[.int .i64 0, .int .i64 0, .slice none 0 0] 26)
  have hZ := Blk.new w #[.int .i64 0, .int .i64 0, .slice none 0 0] 26
  have hv1 := hv.keep bA
  have hszA := Lib.hid (show (w.alloc (.cells #[.int .i64 0, .int .i64 0, .slice none 0 0] 26)).heap.size = w.heap.size + 1 by simp)
  have hfr := l00From_any _ len _ hv1 hl
  go_enter Try.func16, Try.ntmps16
  go_wp2_with fail
  refine hfr.mono ?_
  rintro e w2 ⟨rfl, s2, b2, z2⟩
  have z2' := Lib.hid (z2.trans (by rw [hszA.out]))
  have hZ2 := hZ.step b2
  have BB2 := below_wt bA b2
  rw [hszA.out] at s2
  clear z2 hfr hZ
  go_wp2_with fail
  with_reducible refine (l05Draw_any w2 _ _ s2).mono ?_
  rintro e w3 ⟨cv, c, rfl, own, ok, c4, c3, t3⟩
  have hlt : w.heap.size + 2 ≤ w2.heap.size := by have := z2'.out; omega
  have hZ3 := hZ2.touch t3 (by have := hszA.out; omega)
  have BB3 := BB2.trans (t3.below' w.heap.size (by have := hszA.out; omega) (by omega))
  obtain ⟨ra, rcap, rfl⟩ := own.shape
  obtain ⟨z0, z1, z2⟩ := hZ3.three
  have f0 := hZ3.frozen 0
  have f1 := hZ3.frozen 1
  have f2 := hZ3.frozen 2
  clear t3 BB2 hZ2 bA b2 s2
  go_wp2
  refine bodyPost_ret (v := .agg #[.int .i64 c.n, .int .i64 c.t, .slice ra c.l.length rcap]) (by simp [results, Try.results16, go_sem, z0, z1, z2]) rfl ?_
  obtain ⟨⟨v5, hv5, ho5⟩, hle5⟩ := MsMine.filled own (b := w.heap.size) (Or.inl (by omega)) (.int .i64 c.n) (.int .i64 c.t) (.slice ra c.l.length rcap)
  exact ⟨_, c, rfl, ⟨⟨v5, hv5, ho5.wide (by omega) hle5⟩, Nat.le_refl _⟩, ok, c4, c3, Below.filled BB3 (Nat.le_refl _) _ _ _⟩


set_option maxRecDepth 100000 in
set_option maxHeartbeats 4000000 in
theorem P6DrawsM_any (v : Value) (len : Nat) (t : Int) (M : Nat) (w : World) (hv : Bytes w v len) (hl : len ≤ 4096) (h1 : 1 ≤ t) (h2 : t ≤ 60) (hM : M ≤ 60) :
    Calls Try.prog 17 #[v, .int .i64 t, .int .i64 (M : Int)] w fun e w' => ∃ v' ds, e = .returned v' ∧ IntsMine 2 w' w.heap.size w'.heap.size v' ds ∧ ds.length ≤ M ∧ (∀ d ∈ ds, 0 ≤ d ∧ d < t) ∧ Below w.heap.size w w' := by
  obtain ⟨a, cap, rfl⟩ : ∃ a cap, v = .slice a len cap := by obtain ⟨_, a, cap, h, _⟩ := hv; exact ⟨a, cap, h⟩
  obtain ⟨i0, hi, hz0, hz1, hz2⟩ := info_parts Try.infoI
  have hi' := Lib.hid hi; have hz0' := Lib.hid hz0; have hz1' := Lib.hid hz1; have hz2' := Lib.hid hz2
  clear hi hz0 hz1 hz2
  go_enter Try.func17, Try.ntmps17
  go_wp2_with fail
  refine (l00From_any _ len w hv hl).mono ?_
  rintro e w1 ⟨rfl, s1, b1, z1⟩
  have bA := below1 w1 (.cells #[] 2)
  have s2 := s1.step bA
  have own0 : (w1.alloc (.cells #[] 2)).ownsRow (w.heap.size + 1) 2 1 (.slice (some ⟨w1.heap.size, 0, none⟩) 0 0) 0 (ints []) :=
    ⟨by simp [ints], Or.inr ⟨w1.heap.size, 0, #[], rfl, by omega, heap_alloc_new w1 _, by simp, by simp, by simp, by simp [ints]⟩⟩
  have BB := below_wt b1 bA
  have hsz1 : w1.heap.size = w.heap.size + 1 := z1
  have hszA : (w1.alloc (.cells #[] 2)).heap.size = w.heap.size + 2 := by simp [hsz1]
  have hszA' := Lib.hid hszA
  clear z1 hsz1 hszA
  go_upto_region 3 with fail
  generalize w1.heap.size = g0 at *
  generalize w1.alloc (.cells #[] 2) = W at *
  go_wp2_with fail
  refine (draw_any W _ _ 0 ((M : Int) + 1) s2 (by omega) (by omega) (by omega)).mono ?_
  rintro e w3 ⟨r, rfl, r0, r1, s3, t3, z3⟩
  obtain ⟨r, rfl⟩ : ∃ n : Nat, r = n := ⟨r.toNat, by omega⟩
  have own3 := ownsRow_touch own0 t3 (Nat.le_refl _)
  have BB3 := BB.trans (t3.below' _ (Nat.le_refl _) BB.size)
  have hsz3 := Lib.hid z3
  clear z3 own0 s2 s1 bA b1 BB
  go_wp2
  go_loopw [8, 9] (fun v i wr => ∃ (k n g gc : Nat) (ds : List Int), i = .int .i64 k ∧ k + ds.length ≤ M ∧ n ≤ 1 + ds.length ∧ v = .slice (some ⟨g, 0, none⟩) ds.length gc ∧ wr.ownsRow (w.heap.size + 1) 2 1 (.slice (some ⟨g, 0, none⟩) ds.length gc) ds.length (ints ds) ∧ Src wr w.heap.size w.heap.size n ∧ (∀ d ∈ ds, 0 ≤ d ∧ d < t) ∧ Below w.heap.size w wr) (fun _ i _ => (intOf i).toNat)
  case atStart => exact ⟨r, 1, _, _, [], rfl, by simp; omega, by simp, rfl, own3, s3, by simp, BB3⟩
  case round =>
    obtain ⟨wo, rfl⟩ : ∃ wo : World, wo = wr := ⟨_, rfl⟩
    obtain ⟨k, n, g, gc, ds, rfl, hk, hn, rfl, hown, hsr, hds, bel⟩ := hrel
    clear own3 s3 BB3 t3
    have hds' := Lib.hid hds
    clear hds
    by_cases hlt : 0 < k
    · have kI : (0 : Int) < (k : Int) := by omega
      go_wp2_with fail
      refine (draw_any wo _ _ n t hsr (by omega) h1 (by omega)).mono ?_
      rintro e w4 ⟨d, rfl, d0, d1, s4, t4, z4⟩
      have own4 := Lib.hid (ownsRow_touch hown t4 (Nat.le_refl _))
      have bel4 := bel.trans (t4.below' _ (Nat.le_refl _) bel.size)
      have hsz4 := bel4.size
      have hne : ∀ k', k' < w.heap.size + 1 → (Value.slice (some ⟨g, 0, none⟩) ds.length gc).ownBlock ≠ some k' := fun k' hk' hh => by have := (ownsRow_type own4.out hh).1; omega
      have hne' := Lib.hid hne
      have hslt := s4.lt
      clear hown hsr t4 z4 hne
      go_wp2_with (at_builtin; (refine wpList_append_own _ rfl _ _ 28 rfl (w.heap.size + 1) 2 i0 (.int .i64 0) 1 8 Try.underlying28 hi'.out hz0'.out hz1'.out hz2'.out rfl (by decide) _ _ _ rfl (own4.out.alloc _) ⟨w4.heap.size, 0, none⟩ 1 1 [.int .i64 d] rfl rfl (one_new _ _ _) (by simp [Value.oneCell']) (by unfold maxLen; omega) (by omega) (by simp; omega) ?_); intro v' w5 hown5 hgr5 _; obtain ⟨g2, c2, rfl⟩ := ownsRow_shape hown5 (by omega))
      go_roundw
      case rel =>
        have bel5 : Below w.heap.size w4 w5 := ((Below.refl w.heap.size w4).alloc (by omega) _).grown hgr5 (by simp; omega) (fun k' hk' => by have := (ownsRow_type own4.out hk').1; omega)
        refine ⟨k - 1, n + 1, g2, c2, ds ++ [d], by go_num, by simp; omega, by simp; omega, by simp, by simpa [ints] using hown5, ?_, ?_, bel4.trans bel5⟩
        · refine s4.grown bel5 ?_
          have h := hgr5.block w.heap.size (by simp; omega) (fun e => hne'.out _ (by omega) e.symm)
          exact h.trans (Below.heap_alloc _ _ _ hslt)
        · intro x hx
          simp only [List.mem_append, List.mem_singleton] at hx
          rcases hx with hx | rfl
          · exact hds'.out x hx
          · exact ⟨d0, d1⟩
      case measure => simp [intOf]; omega
    · obtain rfl : k = 0 := by omega
      go_wp2
      go_ret
      exact ⟨_, ds, rfl, ⟨(Own.of hown (Nat.le_refl _)).wide (by omega) (Nat.le_refl _), Nat.le_refl _⟩, by omega, hds'.out, bel⟩
end Go.Proofs.Ytacnafjmcfcalaa
