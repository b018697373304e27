/- The sources from which laws draw: a byte, a number, one of some numbers. What is drawn is told by its bounds alone. Conditions: told in each. -/
import Derived.Test.YtacnafjmcfcalaaKinds
import Derived.Test.YtacnafjmcfcalaaMix2
import Derived.WalkSmall
namespace Go.Proofs.Ytacnafjmcfcalaa
open Go.RowKit Go.Deep
set_option linter.unusedVariables false

/-- v reads as a list of so many bytes as long as nothing below block B turns -/
def BytesUnder (w : World) (B : Nat) (a : Option Addr) (len : Nat) : Prop :=
  B ≤ w.heap.size ∧ ∀ w', Below B w w' → ∀ i, i < len → ∃ (b off : Nat) (x : Int), a = some ⟨b, off, none⟩ ∧ w'.cell? ⟨b, off + i, none⟩ = some (.int .u8 x) ∧ 0 ≤ x ∧ x ≤ 255
/-- a source at block b, from which at most n bytes have been taken -/
def Src (w : World) (B b n : Nat) : Prop :=
  ∃ (a : Option Addr) (len cap pos : Nat) (seed : Int), Blk w b #[.slice a len cap, .int .i64 pos, .int .u64 seed] 183 ∧ pos ≤ n ∧ len ≤ 4096 ∧ BytesUnder w B a len ∧ B ≤ b

theorem wp_drawn {P : Program} {c : Code} {Q : Exit → Act → World → Prop} {a : Act} {w : World} (h : ∀ V, (∃ n, V = w.drewN n) → c.wp P Q a V) (n : Nat) : c.wp P Q a (w.drewN n) := h _ ⟨n, rfl⟩
theorem Touched.drawn {lo hi : Nat} {w V : World} (h : ∃ n, V = w.drewN n) : Touched lo hi w V := by
  obtain ⟨n, rfl⟩ := h
  exact Touched.of (below_drewN (Below.refl _ _) n)
theorem Touched.drewN {lo hi : Nat} {w V : World} (h : Touched lo hi w V) (n : Nat) : Touched lo hi w (V.drewN n) := h.trans (Touched.of (below_drewN (Below.refl _ _) n))
theorem Blk.drawn {w V : World} {b : Nat} {c : Array Value} {t : TypeId} (h : Blk w b c t) (k : ∃ n, V = w.drewN n) : Blk V b c t := by
  obtain ⟨n, rfl⟩ := k; exact h
theorem size_drawn {w V : World} (k : ∃ n, V = w.drewN n) : V.heap.size = w.heap.size := by
  obtain ⟨n, rfl⟩ := k; rfl
theorem wrap_u64m (x : Int) : IntKind.u64.wrap x = x % 18446744073709551616 := by
  simp [IntKind.wrap, IntKind.signed, IntKind.bits]
theorem shr40_bd (x : Int) (h0 : 0 ≤ x) (h1 : x ≤ 18446744073709551615) : 0 ≤ bits .and .u64 x 255 ∧ bits .and .u64 x 255 ≤ 255 := by
  have h := bits_and_u64_nat x.toNat 255 (by omega) (by omega)
  rw [Int.toNat_of_nonneg h0] at h
  have e : ((255 : Nat) : Int) = 255 := rfl
  rw [e] at h
  rw [h]
  have := Nat.and_le_right (n := x.toNat) (m := 255)
  omega

set_option maxRecDepth 100000 in
set_option maxHeartbeats 8000000 in
theorem next_any (w : World) (B b n : Nat) (hs : Src w B b n) (hn : n ≤ 1000000) :
    Calls Try.prog 150 #[.pointer (some ⟨b, 0, none⟩)] w fun e w' => ∃ r : Int, e = .returned (.int .i64 r) ∧ 0 ≤ r ∧ r ≤ 255 ∧ Src w' B b (n + 1) ∧ Touched b (b + 1) w w' ∧ w'.heap.size = w.heap.size := by
  obtain ⟨a, len, cap, pos, seed, hb, hp, hl, hby, hBb⟩ := hs
  obtain ⟨q0, q1, q2⟩ := hb.three
  have hb' := Lib.hid hb
  have hlt0 := hb.lt
  have fin : ∀ (V V' W : World) (s' : Int), (∃ n, V = w.drewN n) → V' = (V.setCell ⟨b, 1, none⟩ (.int .i64 ((pos : Int) + 1))).setCell ⟨b, 2, none⟩ (.int .u64 s') → (∃ n, W = V'.drewN n) → Src W B b (n + 1) ∧ Touched b (b + 1) w W ∧ W.heap.size = w.heap.size := by
    intro V V' W s' hV hV' hW
    have hbV := hb.drawn hV
    have t1 : Touched b (b + 1) w V' := by rw [hV']; exact ((Touched.drawn hV).set (a := ⟨b, 1, none⟩) (Nat.le_refl _) (by simp) _).set (a := ⟨b, 2, none⟩) (Nat.le_refl _) (by simp) _
    have t2 : Touched b (b + 1) w W := by obtain ⟨k, rfl⟩ := hW; exact t1.drewN k
    have b2 : Blk V' b #[.slice a len cap, .int .i64 ((pos : Int) + 1), .int .u64 s'] 183 := by
      rw [hV']; have := (hbV.set 1 (.int .i64 ((pos : Int) + 1))).set 2 (.int .u64 s'); simpa using this
    have sz : W.heap.size = w.heap.size := by rw [size_drawn hW, hV']; simp [World.setCell, size_drawn hV]
    refine ⟨⟨a, len, cap, pos + 1, s', ?_, by omega, hl, ⟨by rw [sz]; exact hby.1, fun w' hw' => hby.2 w' (Below.trans (t2.below' B hBb hby.1) hw')⟩, hBb⟩, t2, sz⟩
    have := b2.drawn hW
    simpa using this
  have fin' := Lib.hid fin
  clear fin
  by_cases hlt : pos < len
  · have hltI : decide ((pos : Int) < (len : Int)) = true := decide_eq_true (by omega)
    obtain ⟨bb, off, x, ha, hx, x0, x1⟩ := hby.2 w (Below.refl _ _) pos hlt
    subst ha
    have p1 : (0 : Int) ≤ (pos : Int) := by omega
    have p2 : (pos : Int) < (len : Int) := by omega
    have p3 : decide ((pos : Int) + 1 ≤ (len : Int)) = true := decide_eq_true (by omega)
    clear hb
    go_enter Try.func150, Try.ntmps150
    go_wp2
    go_quiet (fail)
    go_wp2
    go_quiet (fail)
    go_upto_region 4 with fail
    rw [World.drewN_drewN]
    refine wp_drawn (w := w) (fun V hV => ?_) _
    have hbV := hb'.out.drawn hV
    have hV2 := Lib.hid hV
    clear hV q0 q1 q2 hx
    obtain ⟨q0, q1, q2⟩ := hbV.three
    have f0 := hbV.frozen 0
    have f1 := hbV.frozen 1
    have f2 := hbV.frozen 2
    go_upto_region 6 with fail
    generalize IntKind.u64.wrap (IntKind.u64.wrap (IntKind.u64.wrap (seed * 6364136223846793005) + x) + 1442695040888963407) = s'
    have hb2 : Blk ((V.setCell ⟨b, 1, none⟩ (.int .i64 ((pos : Int) + 1))).setCell ⟨b, 2, none⟩ (.int .u64 s')) b #[.slice (some ⟨bb, off, none⟩) len cap, .int .i64 ((pos : Int) + 1), .int .u64 s'] 183 := by
      have := (hbV.set 1 (.int .i64 ((pos : Int) + 1))).set 2 (.int .u64 s'); simpa using this
    obtain ⟨V', hV'⟩ : ∃ V', (V.setCell ⟨b, 1, none⟩ (.int .i64 ((pos : Int) + 1))).setCell ⟨b, 2, none⟩ (.int .u64 s') = V' := ⟨_, rfl⟩
    rw [hV'] at hb2 ⊢
    have hV3 := Lib.hid hV'.symm
    clear hV' q0 q1 q2 f0 f1 f2 hbV
    obtain ⟨q0, q1, q2⟩ := hb2.three
    go_quiet (fail)
    go_wp2
    go_ret
    exact ⟨x, rfl, x0, x1, fin'.out V V' _ s' hV2.out hV3.out ⟨_, rfl⟩⟩
  · have hltI : decide ((pos : Int) < (len : Int)) = false := decide_eq_false (by omega)
    have p3 : decide ((pos : Int) + 1 ≤ (len : Int)) = false := decide_eq_false (by omega)
    clear hb
    go_enter Try.func150, Try.ntmps150
    go_wp2
    go_quiet (fail)
    go_upto_region 4 with fail
    refine wp_drawn (w := w) (fun V hV => ?_) _
    have hbV := hb'.out.drawn hV
    have hV2 := Lib.hid hV
    clear hV q0 q1 q2
    obtain ⟨q0, q1, q2⟩ := hbV.three
    have f0 := hbV.frozen 0
    have f1 := hbV.frozen 1
    have f2 := hbV.frozen 2
    go_upto_region 6 with fail
    have hsb : 0 ≤ IntKind.u64.wrap (IntKind.u64.wrap (IntKind.u64.wrap (seed * 6364136223846793005)) + 1442695040888963407) ∧ IntKind.u64.wrap (IntKind.u64.wrap (IntKind.u64.wrap (seed * 6364136223846793005)) + 1442695040888963407) ≤ 18446744073709551615 := by
      rw [wrap_u64m]; omega
    generalize IntKind.u64.wrap (IntKind.u64.wrap (IntKind.u64.wrap (seed * 6364136223846793005)) + 1442695040888963407) = s' at *
    have hb2 : Blk ((V.setCell ⟨b, 1, none⟩ (.int .i64 ((pos : Int) + 1))).setCell ⟨b, 2, none⟩ (.int .u64 s')) b #[.slice a len cap, .int .i64 ((pos : Int) + 1), .int .u64 s'] 183 := by
      have := (hbV.set 1 (.int .i64 ((pos : Int) + 1))).set 2 (.int .u64 s'); simpa using this
    obtain ⟨V', hV'⟩ : ∃ V', (V.setCell ⟨b, 1, none⟩ (.int .i64 ((pos : Int) + 1))).setCell ⟨b, 2, none⟩ (.int .u64 s') = V' := ⟨_, rfl⟩
    rw [hV'] at hb2 ⊢
    have hV3 := Lib.hid hV'.symm
    clear hV' q0 q1 q2 f0 f1 f2 hbV
    obtain ⟨q0, q1, q2⟩ := hb2.three
    go_quiet (fail)
    go_wp2
    have hrb := shr40_bd (s' / 1099511627776) (by omega) (by omega)
    generalize bits .and .u64 (s' / 1099511627776) 255 = r at *
    have hwr : wrap64 r = r := by unfold wrap64; omega
    go_ret
    exact ⟨r, ret_int hwr, hrb.1, hrb.2, fin'.out V V' _ s' hV2.out hV3.out ⟨_, rfl⟩⟩

theorem Src.more {w : World} {B b n m : Nat} (h : Src w B b n) (hm : n ≤ m) : Src w B b m := by
  obtain ⟨a, len, cap, pos, seed, h1, h2, h3⟩ := h
  exact ⟨a, len, cap, pos, seed, h1, by omega, h3⟩
theorem Src.step {w w' : World} {B b n : Nat} (h : Src w B b n) (hb : Below w.heap.size w w') : Src w' B b n := by
  obtain ⟨a, len, cap, pos, seed, h1, h2, h3, h4, h5⟩ := h
  exact ⟨a, len, cap, pos, seed, h1.step hb, h2, h3, ⟨Nat.le_trans h4.1 hb.size, fun w2 hw2 => h4.2 w2 ((hb.mono h4.1).trans hw2)⟩, h5⟩
theorem Src.lt {w : World} {B b n : Nat} (h : Src w B b n) : b < w.heap.size := by
  obtain ⟨a, len, cap, pos, seed, h1, _⟩ := h; exact h1.lt
theorem Src.le {w : World} {B b n : Nat} (h : Src w B b n) : B ≤ b := by
  obtain ⟨a, len, cap, pos, seed, _, _, _, _, h5⟩ := h; exact h5
/-- a store elsewhere, in a block from B on -/
theorem Src.set {w : World} {B b n : Nat} (h : Src w B b n) {c i : Nat} (hc : B ≤ c) (hb : b ≠ c) (v : Value) : Src (w.setCell ⟨c, i, none⟩ v) B b n := by
  obtain ⟨a, len, cap, pos, seed, h1, h2, h3, h4, h5⟩ := h
  refine ⟨a, len, cap, pos, seed, h1.setOther (a := ⟨c, i, none⟩) hb v, h2, h3, ⟨by simpa [World.setCell] using h4.1, fun w2 hw2 => h4.2 w2 ?_⟩, h5⟩
  exact Below.trans ((Below.refl B w).setCell (p := ⟨c, i, none⟩) hc v) hw2
theorem Src.drewN {w : World} {B b n : Nat} (h : Src w B b n) (m : Nat) : Src (w.drewN m) B b n := h.step (below_drewN (Below.refl _ _) m)

theorem Src.grown {w w' : World} {B b n : Nat} (h : Src w B b n) (hb : Below B w w') (hk : w'.heap[b]? = w.heap[b]?) : Src w' B b n := by
  obtain ⟨a, len, cap, pos, seed, h1, h2, h3, h4, h5⟩ := h
  exact ⟨a, len, cap, pos, seed, hk.trans h1, h2, h3, ⟨Nat.le_trans h4.1 hb.size, fun w2 hw2 => h4.2 w2 (hb.trans hw2)⟩, h5⟩
theorem ownsRow_touch {w w' : World} {lo n size a b : Nat} {e : TypeId} {v : Value} {vs : List Value} (h : w.ownsRow lo e size v n vs) (t : Touched a b w w') (hd : b ≤ lo) : w'.ownsRow lo e size v n vs := by
  refine ⟨h.1, ?_⟩
  rcases h.2 with h0 | ⟨g, cap, cur, hv, hgg, hh, r⟩
  · exact Or.inl h0
  · exact Or.inr ⟨g, cap, cur, hv, hgg, by rw [t.block g (Array.getElem?_eq_some_iff.1 hh).1 (Or.inr (by omega))]; exact hh, r⟩

set_option maxRecDepth 100000 in
set_option maxHeartbeats 4000000 in
theorem draw_any (w : World) (B b n : Nat) (k : Int) (hs : Src w B b n) (hn : n ≤ 1000000) (h1 : 1 ≤ k) (h2 : k ≤ 200) :
    Calls Try.prog 76 #[.pointer (some ⟨b, 0, none⟩), .int .i64 k] w fun e w' => ∃ r : Int, e = .returned (.int .i64 r) ∧ 0 ≤ r ∧ r < k ∧ Src w' B b (n + 1) ∧ Touched b (b + 1) w w' ∧ w'.heap.size = w.heap.size := by
  by_cases hk : k ≤ 1
  · go_enter Try.func76, Try.ntmps76
    go_wp2
    go_ret
    exact ⟨0, rfl, by omega, by omega, hs.more (by omega), Touched.refl _ _ _, rfl⟩
  · have hk2 : ¬ (200 : Int) < k := by omega
    go_enter Try.func76, Try.ntmps76
    go_wp2_with fail
    refine (next_any w B b n hs hn).mono ?_
    rintro e w1 ⟨x, rfl, x0, x1, s1, t1, z1⟩
    have z1' := Lib.hid z1
    clear z1
    have hk0 : ¬ k = 0 := by omega
    go_wp2
    go_ret
    exact ⟨x % k, rfl, Int.emod_nonneg _ (by omega), Int.emod_lt_of_pos _ (by omega), s1, t1, z1'.out⟩

set_option maxRecDepth 100000 in
set_option maxHeartbeats 4000000 in
theorem among_any (w : World) (B b n : Nat) (v : Value) (xs : List Int) (hs : Src w B b n) (hn : n ≤ 1000000) (h1 : 1 ≤ xs.length) (h2 : xs.length ≤ 200) (hv : ∀ w', Touched b (b + 1) w w' → Ints w' v xs) :
    Calls Try.prog 163 #[.pointer (some ⟨b, 0, none⟩), v] w fun e w' => ∃ i : Nat, i < xs.length ∧ e = .returned (.int .i64 (xs.getD i 0)) ∧ Src w' B b (n + 1) ∧ Touched b (b + 1) w w' ∧ w'.heap.size = w.heap.size := by
  obtain ⟨a, cap, rfl⟩ := (hv w (Touched.refl _ _ _)).shape
  have hv' := Lib.hid hv
  clear hv
  have hd := draw_any w B b n xs.length hs hn (by omega) (by omega)
  go_enter Try.func163, Try.ntmps163
  go_wp2_with fail
  refine hd.mono ?_
  rintro e w1 ⟨r, rfl, r0, r1, s1, t1, z1⟩
  have z1' := Lib.hid z1
  obtain ⟨i, rfl⟩ : ∃ i : Nat, r = i := ⟨r.toNat, by omega⟩
  obtain ⟨bb, off, cc, he, _, hc⟩ := (hv'.out w1 t1).at (by omega)
  have ci := hc i (by omega)
  simp at he
  obtain ⟨rfl, rfl⟩ := he
  have hiI : (i : Int) < (xs.length : Int) := by omega
  obtain ⟨x, hx⟩ : ∃ x, xs.getD i 0 = x := ⟨_, rfl⟩
  rw [hx] at ci
  have hx' := Lib.hid hx
  clear z1 hc hx
  go_wp2
  go_ret
  exact ⟨i, by omega, ret_int hx'.out.symm, s1, t1, z1'.out⟩

/-- a list of bytes that came in -/
def Bytes (w : World) (v : Value) (len : Nat) : Prop :=
  len ≤ maxLen ∧ ∃ a cap, v = .slice a len cap ∧ ∀ i, i < len → ∃ (b off : Nat) (x : Int), a = some ⟨b, off, none⟩ ∧ w.cell? ⟨b, off + i, none⟩ = some (.int .u8 x) ∧ 0 ≤ x ∧ x ≤ 255
theorem Bytes.keep {w w' : World} {v : Value} {len : Nat} (h : Bytes w v len) (hb : Below w.heap.size w w') : Bytes w' v len := by
  obtain ⟨h1, a, cap, h2, h3⟩ := h
  refine ⟨h1, a, cap, h2, fun i hi => ?_⟩
  obtain ⟨b, off, x, e, hx, r⟩ := h3 i hi
  exact ⟨b, off, x, e, (hb.cell (p := ⟨b, off + i, none⟩) (block_lt hx)).trans hx, r⟩

set_option maxHeartbeats 2000000 in
theorem f6big_any (v : Value) (len : Nat) (w : World) (hv : Bytes w v len) :
    Calls Try.prog 15 #[v] w fun e w' => e = .returned (.bool (decide ((4096 : Int) < (len : Int)))) ∧ w = w' := by
  obtain ⟨hm, a, cap, rfl, hc⟩ := hv
  unfold maxLen at hm
  go_enter Try.func15, Try.ntmps15
  go_wp2
  go_ret
  exact ⟨rfl, rfl⟩

set_option maxHeartbeats 2000000 in
theorem l00From_any (v : Value) (len : Nat) (w : World) (hv : Bytes w v len) (hl : len ≤ 4096) :
    Calls Try.prog 75 #[v] w fun e w' => e = .returned (.pointer (some ⟨w.heap.size, 0, none⟩)) ∧ Src w' w.heap.size w.heap.size 0 ∧ Below w.heap.size w w' ∧ w'.heap.size = w.heap.size + 1 := by
  obtain ⟨hm, a, cap, rfl, hc⟩ := hv
  go_enter Try.func75, Try.ntmps75
  go_wp2
  go_ret
  have hb := below1 w (.cells #[.slice a len cap, .int .i64 0, .int .u64 0] 183)
  refine ⟨rfl, ⟨a, len, cap, 0, 0, Blk.new w _ _, Nat.le_refl _, hl, ⟨by simp, fun w' hw' i hi => ?_⟩, Nat.le_refl _⟩, hb, by simp⟩
  obtain ⟨b, off, x, e, hx, r⟩ := hc i hi
  exact ⟨b, off, x, e, ((hb.trans hw').cell (p := ⟨b, off + i, none⟩) (block_lt hx)).trans hx, r⟩

set_option maxRecDepth 100000 in
set_option maxHeartbeats 4000000 in
theorem P6Draws_any (v : Value) (len : Nat) (t : Int) (w : World) (hv : Bytes w v len) (hl : len ≤ 4096) (h1 : 1 ≤ t) (h2 : t ≤ 60) :
    Calls Try.prog 17 #[v, .int .i64 t, .int .i64 8] w fun e w' => ∃ v' ds, e = .returned v' ∧ IntsMine 2 w' w.heap.size w'.heap.size v' ds ∧ ds.length ≤ 8 ∧ (∀ d ∈ ds, 0 ≤ d ∧ d < t) ∧ Below w.heap.size w w' := by
  obtain ⟨a, cap, rfl⟩ : ∃ a cap, v = .slice a len cap := by obtain ⟨_, a, cap, h, _⟩ := hv; exact ⟨a, cap, h⟩
  obtain ⟨i0, hi, hz0, hz1, hz2⟩ := info_parts Try.infoI
  have hi' := Lib.hid hi; have hz0' := Lib.hid hz0; have hz1' := Lib.hid hz1; have hz2' := Lib.hid hz2
  clear hi hz0 hz1 hz2
  go_enter Try.func17, Try.ntmps17
  go_wp2_with fail
  refine (l00From_any _ len w hv hl).mono ?_
  rintro e w1 ⟨rfl, s1, b1, z1⟩
  have bA := below1 w1 (.cells #[] 2)
  have s2 := s1.step bA
  have own0 : (w1.alloc (.cells #[] 2)).ownsRow (w.heap.size + 1) 2 1 (.slice (some ⟨w1.heap.size, 0, none⟩) 0 0) 0 (ints []) :=
    ⟨by simp [ints], Or.inr ⟨w1.heap.size, 0, #[], rfl, by omega, heap_alloc_new w1 _, by simp, by simp, by simp, by simp [ints]⟩⟩
  have BB := below_wt b1 bA
  have hsz1 : w1.heap.size = w.heap.size + 1 := z1
  have hszA : (w1.alloc (.cells #[] 2)).heap.size = w.heap.size + 2 := by simp [hsz1]
  have hszA' := Lib.hid hszA
  clear z1 hsz1 hszA
  go_upto_region 3 with fail
  generalize w1.heap.size = g0 at *
  generalize w1.alloc (.cells #[] 2) = W at *
  go_wp2_with fail
  refine (draw_any W _ _ 0 9 s2 (by omega) (by omega) (by omega)).mono ?_
  rintro e w3 ⟨r, rfl, r0, r1, s3, t3, z3⟩
  obtain ⟨r, rfl⟩ : ∃ n : Nat, r = n := ⟨r.toNat, by omega⟩
  have own3 := ownsRow_touch own0 t3 (Nat.le_refl _)
  have BB3 := BB.trans (t3.below' _ (Nat.le_refl _) BB.size)
  have hsz3 := Lib.hid z3
  clear z3 own0 s2 s1 bA b1 BB
  go_wp2
  go_loopw [8, 9] (fun v i wr => ∃ (k n g gc : Nat) (ds : List Int), i = .int .i64 k ∧ k + ds.length ≤ 8 ∧ n ≤ 1 + ds.length ∧ v = .slice (some ⟨g, 0, none⟩) ds.length gc ∧ wr.ownsRow (w.heap.size + 1) 2 1 (.slice (some ⟨g, 0, none⟩) ds.length gc) ds.length (ints ds) ∧ Src wr w.heap.size w.heap.size n ∧ (∀ d ∈ ds, 0 ≤ d ∧ d < t) ∧ Below w.heap.size w wr) (fun _ i _ => (intOf i).toNat)
  case atStart => exact ⟨r, 1, _, _, [], rfl, by simp; omega, by simp, rfl, own3, s3, by simp, BB3⟩
  case round =>
    obtain ⟨wo, rfl⟩ : ∃ wo : World, wo = wr := ⟨_, rfl⟩
    obtain ⟨k, n, g, gc, ds, rfl, hk, hn, rfl, hown, hsr, hds, bel⟩ := hrel
    clear own3 s3 BB3 t3
    have hds' := Lib.hid hds
    clear hds
    by_cases hlt : 0 < k
    · have kI : (0 : Int) < (k : Int) := by omega
      go_wp2_with fail
      refine (draw_any wo _ _ n t hsr (by omega) h1 (by omega)).mono ?_
      rintro e w4 ⟨d, rfl, d0, d1, s4, t4, z4⟩
      have own4 := Lib.hid (ownsRow_touch hown t4 (Nat.le_refl _))
      have bel4 := bel.trans (t4.below' _ (Nat.le_refl _) bel.size)
      have hsz4 := bel4.size
      have hne : ∀ k', k' < w.heap.size + 1 → (Value.slice (some ⟨g, 0, none⟩) ds.length gc).ownBlock ≠ some k' := fun k' hk' hh => by have := (ownsRow_type own4.out hh).1; omega
      have hne' := Lib.hid hne
      have hslt := s4.lt
      clear hown hsr t4 z4 hne
      go_wp2_with (at_builtin; (refine wpList_append_own _ rfl _ _ 28 rfl (w.heap.size + 1) 2 i0 (.int .i64 0) 1 8 Try.underlying28 hi'.out hz0'.out hz1'.out hz2'.out rfl (by decide) _ _ _ rfl (own4.out.alloc _) ⟨w4.heap.size, 0, none⟩ 1 1 [.int .i64 d] rfl rfl (one_new _ _ _) (by simp [Value.oneCell']) (by unfold maxLen; omega) (by omega) (by simp; omega) ?_); intro v' w5 hown5 hgr5 _; obtain ⟨g2, c2, rfl⟩ := ownsRow_shape hown5 (by omega))
      go_roundw
      case rel =>
        have bel5 : Below w.heap.size w4 w5 := ((Below.refl w.heap.size w4).alloc (by omega) _).grown hgr5 (by simp; omega) (fun k' hk' => by have := (ownsRow_type own4.out hk').1; omega)
        refine ⟨k - 1, n + 1, g2, c2, ds ++ [d], by go_num, by simp; omega, by simp; omega, by simp, by simpa [ints] using hown5, ?_, ?_, bel4.trans bel5⟩
        · refine s4.grown bel5 ?_
          have h := hgr5.block w.heap.size (by simp; omega) (fun e => hne'.out _ (by omega) e.symm)
          exact h.trans (Below.heap_alloc _ _ _ hslt)
        · intro x hx
          simp only [List.mem_append, List.mem_singleton] at hx
          rcases hx with hx | rfl
          · exact hds'.out x hx
          · exact ⟨d0, d1⟩
      case measure => simp [intOf]; omega
    · obtain rfl : k = 0 := by omega
      go_wp2
      go_ret
      exact ⟨_, ds, rfl, ⟨(Own.of hown (Nat.le_refl _)).wide (by omega) (Nat.le_refl _), Nat.le_refl _⟩, by omega, hds'.out, bel⟩
end Go.Proofs.Ytacnafjmcfcalaa
