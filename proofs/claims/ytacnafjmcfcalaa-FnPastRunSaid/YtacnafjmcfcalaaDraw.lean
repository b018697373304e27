/- Rows and chains that are drawn, and the comparison of lists in laws. What is drawn is told by its validity alone. Conditions: told in each. -/
import Derived.Test.YtacnafjmcfcalaaSrc
import Derived.Test.YtacnafjmcfcalaaStay
import Derived.Test.YtacnafjmcfcalaaRun
namespace Go.Proofs.Ytacnafjmcfcalaa
open Go.RowKit Go.Deep
set_option linter.unusedVariables false

set_option maxHeartbeats 2000000 in
theorem f6ints_any (a b : Value) (xs ys : List Int) (w : World) (ha : Ints w a xs) (hb : Ints w b ys) :
    Calls Try.prog 26 #[a, b] w fun e w' => e = .returned (.bool (decide (xs = ys))) ∧ ∃ n, w' = w.drewN n := by
  obtain ⟨hm1, a1, cap1, rfl⟩ := ha.len
  obtain ⟨hm2, a2, cap2, rfl⟩ := hb.len
  unfold maxLen at hm1 hm2
  by_cases hl : xs.length = ys.length
  · have hl' := Lib.hid hl
    rw [← hl]
    rw [← hl] at hb
    clear hl
    go_enter Try.func26, Try.ntmps26
    go_wp2
    go_loopw [5] (fun i wr => ∃ k m : Nat, k ≤ xs.length ∧ i = .int .i64 k ∧ wr = w.drewN m ∧ Hid (xs.take k = ys.take k)) (fun i _ => xs.length - (intOf i).toNat)
    case atStart => exact ⟨0, 0, Nat.zero_le _, rfl, rfl, show _ = _ by simp⟩
    case round =>
      obtain ⟨k, m, hk, rfl, rfl, ht⟩ := hrel
      by_cases hlt : k < xs.length
      · have hlt2 : k < ys.length := by rw [← hl'.out]; exact hlt
        obtain ⟨b1, o1, c1, hv1, _, hc1⟩ := ha.at (by omega)
        obtain ⟨b2, o2, c2, hv2, _, hc2⟩ := hb.at (by omega)
        simp only [Value.slice.injEq] at hv1 hv2
        obtain ⟨rfl, _, rfl⟩ := hv1
        obtain ⟨rfl, _, rfl⟩ := hv2
        have h1 := hc1 k hlt
        have h2 := hc2 k hlt2
        clear hc1 hc2
        by_cases hq : xs.getD k 0 = ys.getD k 0
        · have hn := Lib.hid (take_eq_succ hlt hlt2 ht.out hq)
          rw [← hq] at h2
          clear hq
          generalize xs.getD k 0 = x at h1 h2
          go_wp2
          go_quiet (fail)
          go_wp2
          go_roundw
          case rel => exact ⟨k + 1, _, by omega, by go_num, rfl, hn⟩
          case measure => simp [intOf]; omega
        · have hd := Lib.hid (decide_eq_false (ne_of_getD hq))
          generalize xs.getD k 0 = x at h1 hq
          generalize ys.getD k 0 = y at h2 hq
          have hq1 : (x != y) = true := by simpa using hq
          clear hq
          go_wp2
          go_quiet (fail)
          go_wp2
          go_ret
          exact ⟨ret_bool hd.out.symm, _, World.drewN_drewN ..⟩
      · obtain rfl : k = xs.length := by omega
        have he : xs = ys := by
          have := ht.out
          rw [List.take_length, hl'.out, List.take_length] at this
          exact this
        have hd := Lib.hid (decide_eq_true he)
        clear he
        go_wp2
        go_ret
        exact ⟨ret_bool hd.out.symm, _, rfl⟩
  · have hne : xs ≠ ys := fun h => hl (by rw [h])
    have hd := Lib.hid (decide_eq_false hne)
    clear hne
    go_enter Try.func26, Try.ntmps26
    go_wp2
    go_ret
    exact ⟨ret_bool hd.out.symm, 0, rfl⟩

theorem Own.touched {w w' : World} {lo hi a b : Nat} {e : TypeId} {v : Value} {vs : List Value} (h : Own w lo hi e v vs) (t : Touched a b w w') (hh : hi ≤ w.heap.size) (hd : b ≤ lo) : Own w' lo hi e v vs :=
  h.same fun k h1 h2 => t.block k (by omega) (Or.inr (by omega))
theorem Touched.setNew {a b : Nat} {w w' : World} (h : Touched a b w w') {c i : Nat} (hc : w.heap.size ≤ c) (v : Value) : Touched a b w (w'.setCell ⟨c, i, none⟩ v) :=
  ⟨h.os, h.tape, h.output, by have := h.size; simpa [World.setCell] using this, fun k h1 h2 => (Below.heap_setCell w' ⟨c, i, none⟩ v k (by show k ≠ c; omega)).trans (h.block k h1 h2)⟩
theorem sum_set (ys : List Int) (q : Nat) (n : Int) (h : q < ys.length) : (ys.set q (ys.getD q 0 + n)).sum = ys.sum + n := by
  induction ys generalizing q with
  | nil => simp at h
  | cons y r ih =>
    cases q with
    | zero => simp [List.getD]; omega
    | succ q =>
      have := ih q (by simpa using h)
      simp only [List.set_cons_succ, List.sum_cons, List.getD_cons_succ, this]; omega
theorem sum_nonneg (ys : List Int) (h : ∀ y ∈ ys, 0 ≤ y) : 0 ≤ ys.sum := by
  induction ys with
  | nil => simp
  | cons y r ih => simp only [List.sum_cons]; have := h y (by simp); have := ih (fun x hx => h x (by simp [hx])); omega
theorem le_sum (ys : List Int) (h : ∀ y ∈ ys, 0 ≤ y) : ∀ x ∈ ys, x ≤ ys.sum := by
  induction ys with
  | nil => simp
  | cons y r ih =>
    intro x hx
    simp only [List.mem_cons] at hx
    simp only [List.sum_cons]
    have h0 := h y (by simp)
    have h1 := sum_nonneg r (fun x hx => h x (by simp [hx]))
    rcases hx with rfl | hx
    · omega
    · have := ih (fun x hx => h x (by simp [hx])) x hx; omega

set_option maxRecDepth 100000 in
set_option maxHeartbeats 8000000 in
theorem l01Row_any (w : World) (B b n N T : Nat) (hs : Src w B b n) (hn : n ≤ 900000) (h1 : 1 ≤ N) (h6 : N ≤ 6) (t1 : 1 ≤ T) (t60 : T ≤ 60) :
    Calls Try.prog 164 #[.pointer (some ⟨b, 0, none⟩), .int .i64 N, .int .i64 T] w fun e w' => ∃ ys : List Int, e = .returned (.slice (some ⟨w.heap.size, 0, none⟩) N N) ∧ Own w' w.heap.size (w.heap.size + 1) 2 (.slice (some ⟨w.heap.size, 0, none⟩) N N) (ints ys) ∧ ys.length = N ∧ (∀ y ∈ ys, 0 ≤ y) ∧ ys.sum = T ∧
      Src w' B b (n + 2 * T) ∧ Touched b (b + 1) w w' ∧ w'.heap.size = w.heap.size + 1 := by
  have hmk := make_len N (by omega) (by omega)
  have hown := Own.made w (.int .i64 0) N 2 (by unfold maxLen; omega)
  have hown0 := Lib.hid (show Own (w.alloc (.cells (madeCells #[.int .i64 0] N) 2)) w.heap.size (w.heap.size + 1) 2 (.slice (some ⟨w.heap.size, 0, none⟩) N N) (ints (List.replicate N 0)) by simpa [ints] using hown)
  have b1 := below1 w (.cells (madeCells #[.int .i64 0] N) 2)
  have s1 := hs.step b1
  have hblt := hs.lt
  have hBb := hs.le
  have tw : Touched b (b + 1) w (w.alloc (.cells (madeCells #[.int .i64 0] N) 2)) := Touched.of b1
  have hsz := Lib.hid (show (w.alloc (.cells (madeCells #[.int .i64 0] N) 2)).heap.size = w.heap.size + 1 by simp)
  clear hown b1
  go_enter Try.func164, Try.ntmps164
  go_wp2
  generalize w.alloc (.cells (madeCells #[.int .i64 0] N) 2) = W at *
  clear hmk
  go_loopw [8] (fun lf wr => ∃ (L m : Nat) (ys : List Int), lf = .int .i64 L ∧ Own wr w.heap.size (w.heap.size + 1) 2 (.slice (some ⟨w.heap.size, 0, none⟩) N N) (ints ys) ∧ Hid (ys.length = N) ∧ Hid (∀ y ∈ ys, 0 ≤ y) ∧ Hid (ys.sum + (L : Int) = T) ∧ L ≤ T ∧ m + 2 * L ≤ n + 2 * T ∧ Src wr B b m ∧ Touched b (b + 1) w wr ∧ Hid (wr.heap.size = w.heap.size + 1)) (fun lf _ => (intOf lf).toNat)
  case atStart => exact ⟨T, n, List.replicate N 0, rfl, hown0.out, (show (List.replicate N (0 : Int)).length = N by simp), (fun y hy => by simp at hy; omega), (show (List.replicate N (0 : Int)).sum + (T : Int) = T by simp), Nat.le_refl _, Nat.le_refl _, s1, tw, hsz⟩
  case round =>
    obtain ⟨wo, rfl⟩ : ∃ wo : World, wo = wr := ⟨_, rfl⟩
    obtain ⟨L, m, ys, rfl, hown, hyl, hy0, hys, hLT, hm, hsr, tt, hsz1⟩ := hrel
    clear hown0 s1 tw hsz
    by_cases hlt : 0 < L
    · have LI : (0 : Int) < (L : Int) := by omega
      have hd1 := draw_any wo B b m L hsr (by omega) (by omega) (by omega)
      go_wp2_with fail
      refine hd1.mono ?_
      rintro e w2 ⟨r, rfl, r0, r1, s2, t2, z2⟩
      obtain ⟨r, rfl⟩ : ∃ n : Nat, r = n := ⟨r.toNat, by omega⟩
      have hle1 : w.heap.size + 1 ≤ wo.heap.size := by have := hsz1.out; omega
      have own2 := hown.touched t2 hle1 (by omega)
      have hd2 := draw_any w2 B b (m + 1) N s2 (by omega) (by omega) (by omega)
      have z2' := Lib.hid z2
      have tt2 := tt.trans t2
      clear z2 hown hsr tt
      go_wp2_with fail
      refine hd2.mono ?_
      rintro e w3 ⟨q, rfl, q0, q1, s3, t3, z3⟩
      obtain ⟨q, rfl⟩ : ∃ n : Nat, q = n := ⟨q.toNat, by omega⟩
      have hle2 : w.heap.size + 1 ≤ w2.heap.size := by have := z2'.out; omega
      have own3 := own2.touched t3 hle2 (by omega)
      have z3' := Lib.hid z3
      have tt3 := tt2.trans t3
      obtain ⟨g, gc, hge, -, -, hglt, hgc, hgf⟩ := own3.at (by simp [ints, hyl.out]; omega)
      simp at hge
      obtain ⟨rfl, -⟩ := hge
      have cq := hgc q (by simp [ints, hyl.out]; omega)
      rw [ints_getD _ _ (by rw [hyl.out]; omega)] at cq
      have fq := hgf q
      have yb := le_sum ys hy0.out _ (getD_mem (d := 0) (show q < ys.length by rw [hyl.out]; omega))
      have y0 := hy0.out _ (getD_mem (d := 0) (show q < ys.length by rw [hyl.out]; omega))
      have hyb2 : ys.getD q 0 ≤ 60 := by have := hys.out; omega
      have own4 := own3.set q (.int .i64 (ys.getD q 0 + (1 + (r : Int))))
      rw [ints_set] at own4
      have own4' := Lib.hid own4
      have hset := Lib.hid (sum_set ys q (1 + (r : Int)) (by rw [hyl.out]; omega))
      have hmem := Lib.hid (show ∀ y ∈ ys.set q (ys.getD q 0 + (1 + (r : Int))), 0 ≤ y from fun y hy => by
        rcases List.mem_or_eq_of_mem_set hy with h | h
        · exact hy0.out y h
        · omega)
      have hlen := Lib.hid (show (ys.set q (ys.getD q 0 + (1 + (r : Int)))).length = N by simp [hyl.out])
      clear z3 own2 own3 own4 hgc hgf tt2 t2 t3 yb
      generalize hx : ys.getD q 0 = x at *
      clear hx
      have qI : (q : Int) < (N : Int) := by omega
      go_wp2
      go_roundw
      case rel =>
        refine ⟨L - (1 + r), m + 2, ys.set q (x + (1 + (r : Int))), by go_num, own4'.out, hlen, hmem, ?_, by omega, by omega, s3.set (by omega) (by omega) _, tt3.setNew (Nat.le_refl _) _, ?_⟩
        · have h1 := hset.out; have h2 := hys.out
          show _ = _
          omega
        · show _ = _
          simp [World.setCell]; have := z3'.out; have := z2'.out; have := hsz1.out; omega
      case measure => simp [intOf]; omega
    · obtain rfl : L = 0 := by omega
      go_wp2
      go_ret
      exact ⟨ys, rfl, hown, hyl.out, hy0.out, by have := hys.out; omega, hsr.more (by omega), tt, hsz1.out⟩
theorem MadeTo.step2 {w1 w2 : World} {lo hi mid : Nat} {v v' rv : Value} {rvs : List Value} {yss : List (List Int)} {y : List Int} {a : Addr} (h : MadeTo w1 lo hi v rvs yss)
    (hrow : Own w1 mid w1.heap.size 2 rv (ints y)) (hmid : hi ≤ mid) (hlo : lo ≤ mid) (o : Obj) (hown : w2.ownsRow lo 28 1 v' (yss.length + 1) (rvs ++ [rv])) (hg : (w1.alloc o).grownBy w2 v.ownBlock) (ha : a.block < lo) (u : Value) :
    MadeTo (w2.setCell a u) lo (w2.setCell a u).heap.size v' (rvs ++ [rv]) (yss ++ [y]) := by
  have hl := h.len
  have hs2 : w1.heap.size + 1 ≤ w2.heap.size := by have := hg.size; simpa using this
  have hs3 : (w2.setCell a u).heap.size = w2.heap.size := by simp [World.setCell]
  -- a row that lay there, or the new one, is as it was
  have keep : ∀ (lo' hi' : Nat) (x : Value) (xs : List Value), lo ≤ lo' → hi' ≤ w1.heap.size → Own w1 lo' hi' 2 x xs → Own (w2.setCell a u) lo' hi' 2 x xs := by
    intro lo' hi' x xs h1 h2 hx
    have hv1 := h.own
    refine hx.sameBlk fun k hk hxk => ?_
    have hne : v.ownBlock ≠ some k := fun hv => types_apart hv1 hx.1 (by decide) hv hxk
    have hlk : lo ≤ k := by have := (hx.1.lt k hxk).1; omega
    rw [Below.heap_setCell _ _ _ _ (by omega), hg.block k (by simp; omega) (fun e => hne e.symm), Below.heap_alloc _ _ _ hk]
  have hn : (rvs ++ [rv]).getD yss.length undef = rv := by simp [List.getD, ← hl]
  have ho : ∀ i, i < yss.length → (rvs ++ [rv]).getD i undef = rvs.getD i undef := fun i hi => by simp only [List.getD]; rw [List.getElem?_append_left (by omega)]
  have hyn : (yss ++ [y]).getD yss.length [] = y := by simp [List.getD]
  have hyo : ∀ i, i < yss.length → (yss ++ [y]).getD i [] = yss.getD i [] := fun i hi => by simp only [List.getD]; rw [List.getElem?_append_left (by omega)]
  have old : ∀ i, i < yss.length → Own w1 lo hi 2 (rvs.getD i undef) (ints (yss.getD i [])) := fun i hi => h.rows i hi
  have apart : ∀ i, i < yss.length → ∀ k, (rvs.getD i undef).ownBlock = some k → k < mid := fun i hi k hk => by have := (h.rows i hi).2.2 k hk; omega
  have fresh : ∀ k, rv.ownBlock = some k → mid ≤ k := fun k hk => (hrow.1.lt k hk).1
  refine ⟨?_, fun i _ => ?_, fun i j _ hj hne k hk => ?_, Nat.le_refl _⟩
  · rw [List.length_append]
    exact ownsRow_setCell_below hown ha u
  · rename_i hii
    rw [List.length_append] at hii
    simp only [List.length_cons, List.length_nil] at hii
    by_cases e : i < yss.length
    · rw [ho i e, hyo i e]
      exact (keep lo hi _ _ (Nat.le_refl _) (by have := h.size; omega) (old i e)).wide (Nat.le_refl _) (by have := h.size; omega)
    · obtain rfl : i = yss.length := by omega
      rw [hn, hyn]
      exact (keep _ _ _ _ hlo (Nat.le_refl _) hrow).wide hlo (by omega)
  · rename_i hii
    rw [List.length_append] at hii hj
    simp only [List.length_cons, List.length_nil] at hii hj
    by_cases e : i < yss.length
    · rw [ho i e] at hk
      by_cases e' : j < yss.length
      · rw [ho j e']; exact h.far i j e e' hne k hk
      · obtain rfl : j = yss.length := by omega
        rw [hn]; intro hc; have := fresh k hc; have := apart i e k hk; omega
    · obtain rfl : i = yss.length := by omega
      rw [hn] at hk
      by_cases e' : j < yss.length
      · rw [ho j e']; intro hc; have := fresh k hk; have := apart j e' k hc; omega
      · omega

theorem MadeTo.touched {w w' : World} {lo hi a b : Nat} {v : Value} {rvs : List Value} {yss : List (List Int)} (h : MadeTo w lo hi v rvs yss) (t : Touched a b w w') (hd : b ≤ lo) : MadeTo w' lo hi v rvs yss :=
  ⟨ownsRow_touch h.own t hd, fun i hi => (h.rows i hi).touched t h.size hd, h.far, Nat.le_trans h.size t.size⟩


theorem Touched.below_new {a b : Nat} {w w' w'' : World} (h : Touched a b w w') (hb : Below w.heap.size w' w'') : Touched a b w w'' :=
  ⟨hb.os.trans h.os, hb.tape.trans h.tape, hb.output.trans h.output, Nat.le_trans h.size hb.size, fun k h1 h2 => (hb.block k h1).trans (h.block k h1 h2)⟩
theorem MadeTo.drew {w : World} {lo hi : Nat} {v : Value} {rvs : List Value} {yss : List (List Int)} (h : MadeTo w lo hi v rvs yss) : MadeTo w.drew lo hi v rvs yss := ⟨h.own, h.rows, h.far, h.size⟩
/-- what one more row does to all that is known -/
theorem draw_round {w wo w3 w5 : World} {B b m k N T : Nat} {sa : Option Addr} {scap gg cap2 : Nat} {rvs : List Value} {yss : List (List Int)} {ys : List Int} {o : Obj} (hBb : B ≤ b) (hb : b < w.heap.size)
    (hC1 : Blk wo (w.heap.size + 2) #[.int .i64 N, .int .i64 T, .slice sa k scap] 50) (hZ1 : Blk wo w.heap.size #[.int .i64 0, .int .i64 0, .slice none 0 0] 50)
    (hM : MadeTo wo (w.heap.size + 3) wo.heap.size (.slice sa k scap) rvs yss) (hyl : yss.length = k) (tt : Touched b (b + 1) w wo) (hs1 : w.heap.size + 3 ≤ wo.heap.size)
    (own3 : Own w3 wo.heap.size (wo.heap.size + 1) 2 (.slice (some ⟨wo.heap.size, 0, none⟩) N N) (ints ys)) (s3 : Src w3 B b m) (t3 : Touched b (b + 1) wo.drew w3) (z3 : w3.heap.size = wo.heap.size + 1)
    (hown5 : w5.ownsRow (w.heap.size + 3) 28 1 (.slice (some ⟨gg, 0, none⟩) (k + 1) cap2) (k + 1) (rvs ++ [.slice (some ⟨wo.heap.size, 0, none⟩) N N])) (hgrow : (w3.alloc o).grownBy w5 (Value.slice sa k scap).ownBlock) (v : Value) (hv : v = .slice (some ⟨gg, 0, none⟩) (k + 1) cap2) :
    Blk (w5.setCell ⟨w.heap.size + 2, 2, none⟩ v) (w.heap.size + 2) #[.int .i64 N, .int .i64 T, .slice (some ⟨gg, 0, none⟩) (k + 1) cap2] 50 ∧ Blk (w5.setCell ⟨w.heap.size + 2, 2, none⟩ v) w.heap.size #[.int .i64 0, .int .i64 0, .slice none 0 0] 50 ∧
      MadeTo (w5.setCell ⟨w.heap.size + 2, 2, none⟩ v) (w.heap.size + 3) (w5.setCell ⟨w.heap.size + 2, 2, none⟩ v).heap.size (.slice (some ⟨gg, 0, none⟩) (k + 1) cap2) (rvs ++ [.slice (some ⟨wo.heap.size, 0, none⟩) N N]) (yss ++ [ys]) ∧
      Src (w5.setCell ⟨w.heap.size + 2, 2, none⟩ v) B b m ∧ Touched b (b + 1) w (w5.setCell ⟨w.heap.size + 2, 2, none⟩ v) ∧ w.heap.size + 3 ≤ (w5.setCell ⟨w.heap.size + 2, 2, none⟩ v).heap.size := by
  subst hv
  have hmt := MadeTo.touched hM.drew t3 (by omega)
  have hMo3 : w3.ownsRow (w.heap.size + 3) 28 1 (.slice sa k scap) yss.length rvs := hmt.own
  have hne : ∀ k', k' < w.heap.size + 3 → (Value.slice sa k scap).ownBlock ≠ some k' := fun k' hk' hh => by have := (ownsRow_type hMo3 hh).1; omega
  have hg2 := hgrow.size
  simp at hg2
  have bel5 : Below w.heap.size w3 w5 := ((Below.refl w.heap.size w3).alloc (by omega) _).grown hgrow (by simp; omega) (fun k' hk' => by have := (ownsRow_type hMo3 hk').1; omega)
  have belB : Below B w3 w5 := bel5.mono (by omega)
  have hZ3 : Blk w3 _ _ _ := Blk.touch (w := wo.drew) hZ1 t3 (by omega)
  have hC3 : Blk w3 _ _ _ := Blk.touch (w := wo.drew) hC1 t3 (by omega)
  have hblk : ∀ q, q < w.heap.size + 3 → w5.heap[q]? = w3.heap[q]? := fun q hq => (hgrow.block q (by simp; omega) (fun e => hne _ hq e.symm)).trans (Below.heap_alloc _ _ _ (by omega))
  have tt3 : Touched b (b + 1) w w3 := (tt.drewN 1).trans t3
  have res := MadeTo.step2 (mid := wo.heap.size) (v' := .slice (some ⟨gg, 0, none⟩) (k + 1) cap2) (a := ⟨w.heap.size + 2, 2, none⟩) hmt (own3.wide (Nat.le_refl _) (by omega)) (Nat.le_refl _) hs1 _ (by rw [hyl]; exact hown5) hgrow (by show w.heap.size + 2 < w.heap.size + 3; omega) (.slice (some ⟨gg, 0, none⟩) (k + 1) cap2)
  refine ⟨?_, ?_, res, ?_, ?_, ?_⟩
  · have hC5 : Blk w5 (w.heap.size + 2) _ _ := (hblk (w.heap.size + 2) (by omega)).trans hC3
    have := hC5.set 2 (.slice (some ⟨gg, 0, none⟩) (k + 1) cap2)
    simpa using this
  · exact Blk.setOther (a := ⟨w.heap.size + 2, 2, none⟩) ((hblk w.heap.size (by omega)).trans hZ3) (by show w.heap.size ≠ w.heap.size + 2; omega) _
  · exact (s3.grown belB (hblk b (by omega))).set (by omega) (by omega) _
  · exact (tt3.below_new bel5).setNew (by omega) _
  · simp [World.setCell]; omega
theorem draw_len {yss : List (List Int)} {ys : List Int} {k : Nat} (h : yss.length = k) : (yss ++ [ys]).length = k + 1 := by rw [List.length_append, h]; rfl
theorem draw_ok {yss : List (List Int)} {ys : List Int} {n t : Int} (h : ∀ y ∈ yss, okRow n t y = true) (k : okRow n t ys = true) : ∀ y ∈ yss ++ [ys], okRow n t y = true := by
  intro y hy
  simp only [List.mem_append, List.mem_singleton] at hy
  rcases hy with hy | rfl
  · exact h y hy
  · exact k
theorem draw_bd {m T k : Nat} (h : m ≤ 2 + 2 * T * k) : m + 2 * T ≤ 2 + 2 * T * (k + 1) := by
  have : 2 * T * (k + 1) = 2 * T * k + 2 * T := by rw [Nat.mul_add, Nat.mul_one]
  omega
theorem draw_ms {N k : Nat} (h : k < N) : N - (intOf (Value.int .i64 ((k : Int) + 1))).toNat < N - (intOf (Value.int .i64 (k : Int))).toNat := by simp [intOf]; omega
theorem lits_row {w : World} {c : Nat} (h : Blk w c #[.int .i64 1, .int .i64 2, .int .i64 2, .int .i64 3, .int .i64 4, .int .i64 6] 2) : Ints w (.slice (some ⟨c, 0, none⟩) 6 6) [1, 2, 2, 3, 4, 6] := by
  refine ⟨by simp [ints, maxLen], some ⟨c, 0, none⟩, 6, by simp [ints], ⟨by simp [ints], by simp [maxLen]⟩, fun i hi => ⟨c, 0, rfl, ?_⟩⟩
  simp [ints] at hi
  have : i = 0 ∨ i = 1 ∨ i = 2 ∨ i = 3 ∨ i = 4 ∨ i = 5 := by omega
  rw [h.cell]
  rcases this with rfl | rfl | rfl | rfl | rfl | rfl <;> simp [ints, List.getD]

set_option maxRecDepth 100000 in
set_option maxHeartbeats 16000000 in
theorem l01Draw_any (w : World) (B b : Nat) (hs : Src w B b 0) :
    Calls Try.prog 105 #[.pointer (some ⟨b, 0, none⟩), .int .i64 4] w fun e w' => ∃ cv c, e = .returned cv ∧ ChOwn 28 2 w' w.heap.size w'.heap.size cv c ∧ chOk c = true ∧ c.n ≤ 4 ∧ c.t ≤ 6 ∧ Touched b (b + 1) w w' := by
  have hblt := hs.lt
  have hBb := hs.le
  have bA := below1 w (.cells #[.int .i64 0, .int .i64 0, .slice none 0 0] 50)
  have hZ := Blk.new w #[.int .i64 0, .int .i64 0, .slice none 0 0] 50
  have s1 := hs.step bA
  have tw : Touched b (b + 1) w (w.alloc (.cells #[.int .i64 0, .int .i64 0, .slice none 0 0] 50)) := Touched.of bA
  have hszA : (w.alloc (.cells #[.int .i64 0, .int .i64 0, .slice none 0 0] 50)).heap.size = w.heap.size + 1 := by simp
  have hd1 := draw_any (w.alloc (.cells #[.int .i64 0, .int .i64 0, .slice none 0 0] 50)) B b 0 4 s1 (by omega) (by omega) (by omega)
  clear bA
  go_enter Try.func105, Try.ntmps105
  go_wp2_with fail
  refine hd1.mono ?_
  rintro e w2 ⟨r, rfl, r0, r1, s2, t2, z2⟩
  obtain ⟨r, rfl⟩ : ∃ n : Nat, r = n := ⟨r.toNat, by omega⟩
  replace tw := tw.trans t2
  replace hZ := hZ.touch t2 (by omega)
  have z2' := Lib.hid (z2.trans hszA)
  have b3 := below1 w2 (.cells #[.int .i64 1, .int .i64 2, .int .i64 2, .int .i64 3, .int .i64 4, .int .i64 6] 2)
  have hL := Blk.new w2 #[.int .i64 1, .int .i64 2, .int .i64 2, .int .i64 3, .int .i64 4, .int .i64 6] 2
  have s3 := s2.step b3
  replace hZ := hZ.step b3
  replace tw := tw.trans (Touched.of b3)
  have hsz3 := Lib.hid (show (w2.alloc (.cells #[.int .i64 1, .int .i64 2, .int .i64 2, .int .i64 3, .int .i64 4, .int .i64 6] 2)).heap.size = w.heap.size + 2 by simp [z2'.out])
  have hw2l : b + 1 ≤ w2.heap.size := by have := z2'.out; omega
  have ham := among_any (w2.alloc (.cells #[.int .i64 1, .int .i64 2, .int .i64 2, .int .i64 3, .int .i64 4, .int .i64 6] 2)) B b 1 (.slice (some ⟨w2.heap.size, 0, none⟩) 6 6) [1, 2, 2, 3, 4, 6] s3 (by omega) (by simp) (by simp) (fun w' ht => lits_row (hL.touch ht (Or.inr hw2l)))
  clear z2 hszA b3 hd1 s1 s2 t2
  go_wp2_with fail
  refine ham.mono ?_
  rintro e w4 ⟨i, hi, rfl, s4, t4, z4⟩
  obtain ⟨T, hT, hT1, hT6⟩ : ∃ T : Nat, ([1, 2, 2, 3, 4, 6] : List Int).getD i 0 = T ∧ 1 ≤ T ∧ T ≤ 6 := by
    have : i = 0 ∨ i = 1 ∨ i = 2 ∨ i = 3 ∨ i = 4 ∨ i = 5 := by simp at hi; omega
    rcases this with rfl | rfl | rfl | rfl | rfl | rfl
    · exact ⟨1, rfl, by omega, by omega⟩
    · exact ⟨2, rfl, by omega, by omega⟩
    · exact ⟨2, rfl, by omega, by omega⟩
    · exact ⟨3, rfl, by omega, by omega⟩
    · exact ⟨4, rfl, by omega, by omega⟩
    · exact ⟨6, rfl, by omega, by omega⟩
  rw [hT]
  obtain ⟨N, hN, hN1, hN4⟩ : ∃ N : Nat, 1 + (r : Int) = N ∧ 1 ≤ N ∧ N ≤ 4 := ⟨1 + r, by omega, by omega, by omega⟩
  have hN' := Lib.hid hN
  replace hZ := hZ.touch t4 (by have := hsz3.out; omega)
  replace tw := tw.trans t4
  have z4' := Lib.hid (show w4.heap.size = w.heap.size + 2 from z4.trans hsz3.out)
  have b5 := below1 w4 (.cells #[.int .i64 N, .int .i64 T, .slice none 0 0] 50)
  have hC := Blk.new w4 #[.int .i64 N, .int .i64 T, .slice none 0 0] 50
  rw [z4'.out] at hC
  have s5 := s4.step b5
  replace hZ := hZ.step b5
  replace tw := tw.trans (Touched.of b5)
  have hsz5 := Lib.hid (show (w4.alloc (.cells #[.int .i64 N, .int .i64 T, .slice none 0 0] 50)).heap.size = w.heap.size + 3 by simp [z4'.out])
  clear z4 hT hN hi hL s3 s4 t4 b5 ham r1
  go_upto_region 2 with fail
  rw [hN'.out, z4'.out]
  generalize w4.alloc (.cells #[.int .i64 N, .int .i64 T, .slice none 0 0] 50) = W at *
  clear hw2l
  go_wp2
  go_loopw [6] (fun i wr => ∃ (k m : Nat) (sa : Option Addr) (scap : Nat) (rvs : List Value) (yss : List (List Int)), k ≤ N ∧ i = .int .i64 k ∧ Blk wr (w.heap.size + 2) #[.int .i64 N, .int .i64 T, .slice sa k scap] 50 ∧ Blk wr w.heap.size #[.int .i64 0, .int .i64 0, .slice none 0 0] 50 ∧
      MadeTo wr (w.heap.size + 3) wr.heap.size (.slice sa k scap) rvs yss ∧ Hid (yss.length = k) ∧ Hid (∀ y ∈ yss, okRow N T y = true) ∧ Src wr B b m ∧ m ≤ 2 + 2 * T * k ∧ Touched b (b + 1) w wr ∧ w.heap.size + 3 ≤ wr.heap.size) (fun i _ => N - (intOf i).toNat)
  case atStart => exact ⟨0, 2, none, 0, [], [], Nat.zero_le _, rfl, hC, hZ, MadeTo.start W (w.heap.size + 3), (show ([] : List (List Int)).length = 0 from rfl), (fun y hy => by simp at hy), s5, by omega, tw, by have := hsz5.out; omega⟩
  case round =>
    obtain ⟨wo, rfl⟩ : ∃ wo : World, wo = wr := ⟨_, rfl⟩
    obtain ⟨k, m, sa, scap, rvs, yss, hk, rfl, hC1, hZ1, hM, hyl, hyo, hsr, hm, tt, hs1⟩ := hrel
    have hM' := Lib.hid hM
    clear hM hC hZ s5 tw
    obtain ⟨c0, c1, c2⟩ := hC1.three
    by_cases hlt : k < N
    · have kI : (k : Int) < (N : Int) := by omega
      have hTk : 2 * T * k ≤ 36 := by
        have := Nat.mul_le_mul (show 2 * T ≤ 12 by omega) (show k ≤ 3 by omega)
        omega
      have hrow := l01Row_any wo.drew B b m N T (hsr.drewN 1) (by omega) hN1 (by omega) hT1 (by omega)
      obtain ⟨i1, ki, kz0, kz1, kz2⟩ := info_parts Try.infoR
      have ki' := Lib.hid ki; have kz0' := Lib.hid kz0; have kz1' := Lib.hid kz1; have kz2' := Lib.hid kz2
      have hMown : wo.drew.ownsRow (w.heap.size + 3) 28 1 (.slice sa k scap) k rvs := by
        have h1 := hM'.out.own
        rw [hyl.out] at h1
        exact h1
      have hMown' := Lib.hid hMown
      have hne : ∀ k', k' < w.heap.size + 3 → (Value.slice sa k scap).ownBlock ≠ some k' := fun k' hk' hh => by have := (ownsRow_type hMown hh).1; omega
      have hne' := Lib.hid hne
      have hrow' := Lib.hid hrow
      clear ki kz0 kz1 kz2 hMown hne hrow
      go_upto_region 5 with fail
      go_region_law (first
        | (refine step_append_lies _ (by rfl) _ _ _ (by rfl) (w.heap.size + 3) 28 i1 (.slice none 0 0) 1 24 Try.underlying48 ki'.out kz0'.out kz1'.out kz2'.out rfl (by omega) (.slice sa k scap) k _ (by rfl) (hMo3.out.alloc _)
            ⟨w3.heap.size, 0, none⟩ 1 1 [.slice (some ⟨wo.heap.size, 0, none⟩) N N] (by rfl) (by rfl) (one_new _ _ _) (by simp [Value.oneCell']) (by omega) (by unfold maxLen; omega) (by omega) (by simp; omega) (w3.heap.size + 1) (by simp) ?_; intro gg cap2 w5 hown5 hgrow hat hlt5; have hC5 : Blk w5 (w.heap.size + 2) _ _ := (hgrow.block (w.heap.size + 2) (by simp; omega) (fun e => hne'.out _ (by omega) e.symm)).trans (hC3.out.alloc _); have e2 := hC5.cell 2; have f2 := hC5.frozen 2; simp at e2)
        | (go_simp; go_at_call 164; refine hrow'.out.mono ?_; rintro e w3 ⟨ys, rfl, own3, yl, y0, ysum, s3, t3, z3⟩; have hC3 := Lib.hid (Blk.touch (w := wo.drew) hC1 t3 (by omega)); have d2 := hC3.out.cell 2; simp at d2; have d3 : ∀ o, (w3.alloc o).cell? ⟨w.heap.size + 2, 2, none⟩ = some (.slice sa k scap) := (fun o => (World.cell?_alloc_past _ _ _ hC3.out.lt).trans d2); have hMo3 := Lib.hid (ownsRow_touch (w := wo.drew) hMown'.out t3 (by omega)); have z3' : w3.heap.size = wo.heap.size + 1 := z3; have hz3 := Lib.hid z3'; have h3l : w.heap.size + 4 ≤ w3.heap.size := (by omega); have own3' := Lib.hid own3; have yl' := Lib.hid yl; have y0' := Lib.hid y0; have ysum' := Lib.hid ysum; clear z3 z3' own3 yl y0 ysum))
      all_goals
        go_wp2
        go_roundw
        case rel =>
          obtain ⟨r1, r2, r3, r4, r5, r6⟩ := draw_round hBb hblt hC1 hZ1 hM'.out hyl.out tt hs1 own3'.out s3 t3 hz3.out hown5 hgrow _ rfl
          exact ⟨k + 1, m + 2 * T, some ⟨gg, 0, none⟩, cap2, rvs ++ [.slice (some ⟨wo.heap.size, 0, none⟩) N N], yss ++ [ys], hlt, by go_num, r1, r2, r3, draw_len hyl.out, draw_ok hyo.out (okRow_of yl'.out y0'.out ysum'.out), r4, draw_bd hm, r5, r6⟩
        case measure => exact draw_ms hlt
    · obtain rfl : k = N := by omega
      obtain ⟨z0, z1, z2⟩ := hZ1.three
      have f10 := hZ1.frozen 0
      have f11 := hZ1.frozen 1
      have f12 := hZ1.frozen 2
      go_wp2
      refine bodyPost_ret (v := .agg #[.int .i64 k, .int .i64 T, .slice sa k scap]) (by simp [results, Try.results105, go_sem, z0, z1, z2]) rfl ?_
      have hown := hM'.out.done
      have hok : chOk ⟨k, T, yss⟩ = true := by
        simp only [chOk, Bool.and_eq_true, decide_eq_true_eq, List.all_eq_true, inB_iff]
        exact ⟨⟨by omega, by omega⟩, ⟨by omega, by omega⟩, by rw [hyl.out], hyo.out⟩
      have hch : ChMine 28 2 wo (w.heap.size + 3) wo.heap.size (.agg #[.int .i64 k, .int .i64 T, .slice sa k scap]) ⟨k, T, yss⟩ := ⟨⟨_, rfl, hown⟩, Nat.le_refl _⟩
      have S5 := hch.filled (b := w.heap.size) (Or.inl (by omega)) (.int .i64 k) (.int .i64 T) (.slice sa k scap)
      refine ⟨_, ⟨k, T, yss⟩, rfl, S5.own.wide (by omega) S5.le, hok, by show (k : Int) ≤ 4; omega, by show (T : Int) ≤ 6; omega, ?_⟩
      exact ((tt.setNew (Nat.le_refl _) _).setNew (Nat.le_refl _) _).setNew (Nat.le_refl _) _
end Go.Proofs.Ytacnafjmcfcalaa
