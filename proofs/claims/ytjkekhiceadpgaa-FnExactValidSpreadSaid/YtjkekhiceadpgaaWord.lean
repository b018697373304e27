/- The project's long numbers: words in base 2^32, the lowest first, in uint32s: what reads as one; trim, longOf, compare. Conditions: none. -/
import Derived.Test.YtjkekhiceadpgaaMem
import Derived.Test.YtjkekhiceadpgaaNum2
import Derived.Test.YtjkekhiceadpgaaLong
namespace Go.Proofs.Ytjkekhiceadpgaa
open Go.RowKit Go.Deep
set_option linter.unusedVariables false

abbrev u32s (l : List Nat) : List Value := l.map fun (x : Nat) => Value.int .u32 (x : Int)
theorem u32s_getD (l : List Nat) (i : Nat) (h : i < l.length) : (u32s l).getD i undef = .int .u32 ((l.getD i 0 : Nat) : Int) := by
  simp [u32s, List.getD, h]
theorem u32s_length (l : List Nat) : (u32s l).length = l.length := by simp [u32s]
theorem u32s_set (l : List Nat) (i x : Nat) : (u32s l).set i (.int .u32 (x : Int)) = u32s (l.set i x) := by simp [u32s, List.map_set]
/-- v reads as the words l -/
def Wd (w : World) (v : Value) (l : List Nat) : Prop := Row w v (u32s l)
theorem Wd.keep {w w' : World} {v : Value} {l : List Nat} (h : Wd w v l) (hb : Below w.heap.size w w') : Wd w' v l := Row.keep h hb
theorem Wd.caps {w : World} {v : Value} {l : List Nat} (h : Wd w v l) : l.length ≤ maxLen ∧ ∃ a cap, v = .slice a l.length cap ∧ l.length ≤ cap ∧ cap ≤ maxLen := by
  have h1 := h.1
  have h2 := Row.caps h
  rw [u32s_length] at h1 h2
  exact ⟨h1, h2⟩
theorem Wd.len {w : World} {v : Value} {l : List Nat} (h : Wd w v l) : l.length ≤ maxLen ∧ ∃ a cap, v = .slice a l.length cap := by
  obtain ⟨h1, a, cap, h2, _⟩ := h.caps
  exact ⟨h1, a, cap, h2⟩
theorem Wd.at {w : World} {v : Value} {l : List Nat} (h : Wd w v l) (hne : 0 < l.length) :
    ∃ b off cap, v = .slice (some ⟨b, off, none⟩) l.length cap ∧ b < w.heap.size ∧ ∀ i, i < l.length → w.cell? ⟨b, off + i, none⟩ = some (.int .u32 ((l.getD i 0 : Nat) : Int)) := by
  obtain ⟨b, off, cap, hv, hb, hc⟩ := Row.at h (by rw [u32s_length]; exact hne)
  rw [u32s_length] at hv hc
  exact ⟨b, off, cap, hv, hb, fun i hi => by rw [hc i hi, u32s_getD l i hi]⟩
theorem Wd.pre {w : World} {a : Option Addr} {len cap : Nat} {l : List Nat} (h : Wd w (.slice a len cap) l) (n : Nat) (hn : n ≤ l.length) : Wd w (.slice a n cap) (l.take n) := by
  have := Row.pre h n (by rw [u32s_length]; exact hn)
  unfold Wd
  rw [show u32s (l.take n) = (u32s l).take n by simp [u32s, List.map_take]]
  exact this

/-- v reads as the number n -/
def LongI (w : World) (v : Value) (n : Nat) : Prop := Wd w v (dgs W32 n (dlen W32 n))
theorem LongI.keep {w w' : World} {v : Value} {n : Nat} (h : LongI w v n) (hb : Below w.heap.size w w') : LongI w' v n := Wd.keep h hb
theorem LongI.len {w : World} {v : Value} {n : Nat} (h : LongI w v n) : dlen W32 n ≤ maxLen ∧ ∃ a cap, v = .slice a (dlen W32 n) cap := by
  have := Wd.len h
  rwa [dgs_length] at this
theorem LongI.caps {w : World} {v : Value} {n : Nat} (h : LongI w v n) : dlen W32 n ≤ maxLen ∧ ∃ a cap, v = .slice a (dlen W32 n) cap ∧ dlen W32 n ≤ cap ∧ cap ≤ maxLen := by
  have := Wd.caps h
  rwa [dgs_length] at this
theorem LongI.at {w : World} {v : Value} {n : Nat} (h : LongI w v n) (hne : 0 < dlen W32 n) :
    ∃ b off cap, v = .slice (some ⟨b, off, none⟩) (dlen W32 n) cap ∧ b < w.heap.size ∧ ∀ i, i < dlen W32 n → w.cell? ⟨b, off + i, none⟩ = some (.int .u32 (dgt W32 n i : Int)) := by
  obtain ⟨b, off, cap, hv, hb, hc⟩ := Wd.at h (by rw [dgs_length]; exact hne)
  rw [dgs_length] at hv hc
  exact ⟨b, off, cap, hv, hb, fun i hi => by rw [hc i hi, dgs_getD W32 n _ i hi]⟩
theorem LongI.nil (w : World) : LongI w (.slice none 0 0) 0 := by
  refine ⟨by simp [dlen_zero, dgs], none, 0, by simp [dlen_zero, dgs], by simp [dlen_zero, dgs], fun i hi => ?_⟩
  simp [dlen_zero, dgs] at hi
theorem LongI.ofCut {w : World} {a : Option Addr} {cap : Nat} {l : List Nat} (h : Wd w (.slice a l.length cap) l) (hd : ∀ x ∈ l, x < W32) (k : Nat) (hk : k ≤ l.length)
    (hv : val W32 (l.take k) = val W32 l) (ht : k = 0 ∨ l.getD (k - 1) 0 ≠ 0) : k = dlen W32 (val W32 l) ∧ LongI w (.slice a k cap) (val W32 l) := by
  obtain ⟨h1, h2⟩ := cut_done w32 l hd k hk hv ht
  have := Wd.pre h k hk
  rw [h2] at this
  refine ⟨h1.symm, ?_⟩
  unfold LongI
  rw [h1]; exact this

set_option maxHeartbeats 2000000 in
theorem trim_at (a1 : Option Addr) (cap1 : Nat) (l : List Nat) (w : World) (ha : Wd w (.slice a1 l.length cap1) l) (hd : ∀ x ∈ l, x < W32) :
    Calls Try.prog 105 #[.slice a1 l.length cap1] w fun e w' => e = .returned (.slice a1 (dlen W32 (val W32 l)) cap1) ∧ LongI w (.slice a1 (dlen W32 (val W32 l)) cap1) (val W32 l) ∧ ∃ k, w' = w.drewN k := by
  obtain ⟨hm1, a2, cap2, hva, hk1, hk2⟩ := ha.caps
  simp only [Value.slice.injEq] at hva
  obtain ⟨rfl, -, rfl⟩ := hva
  unfold maxLen at hm1 hk2
  have hC := Lib.hid (fun k => LongI.ofCut ha hd k)
  have hA := fun h => ha.at h
  clear ha
  go_enter Try.func105, Try.ntmps105
  go_wp2
  go_loopw [3] (fun i wr => ∃ k j : Nat, k ≤ l.length ∧ i = .int .i64 k ∧ wr = w.drewN j ∧ Hid (val W32 (l.take k) = val W32 l)) (fun i _ => (intOf i).toNat)
  case atStart => exact ⟨l.length, 0, Nat.le_refl _, rfl, rfl, by rw [List.take_length]; exact rfl⟩
  case round =>
    obtain ⟨k, j, hk, rfl, rfl, ht⟩ := hrel
    rcases Nat.eq_zero_or_pos k with rfl | hpos
    · obtain ⟨hq1, hq⟩ := hC.out 0 hk ht.out (Or.inl rfl)
      have hq' := Lib.hid hq
      replace hq1 := Lib.hid hq1
      clear hq
      go_wp2
      go_ret
      exact ⟨by rw [← hq1.out]; rfl, by rw [← hq1.out]; exact hq'.out, _, rfl⟩
    · obtain ⟨k, rfl⟩ : ∃ k', k = k' + 1 := ⟨k - 1, by omega⟩
      obtain ⟨b1, o1, c1, hv1, _, hc1⟩ := hA (by omega)
      simp only [Value.slice.injEq] at hv1
      obtain ⟨rfl, _, rfl⟩ := hv1
      have h1 := hc1 k (by omega)
      have hs := take_step (B := W32) l k (by omega)
      by_cases hz : l.getD k 0 = 0
      · have hq : Hid (val W32 (l.take k) = val W32 l) := Lib.hid (by rw [hz] at hs; have := ht.out; omega)
        rw [hz] at h1
        clear hz hs hc1
        go_wp2
        go_roundw
        case rel => exact ⟨k, _, by omega, by go_num, rfl, hq⟩
        case measure => simp [intOf]
      · obtain ⟨hq1, hq⟩ := hC.out (k + 1) hk ht.out (Or.inr (by simpa using hz))
        have hz' : ((l.getD k 0 : Nat) : Int) ≠ 0 := by omega
        generalize ((l.getD k 0 : Nat) : Int) = x at h1 hz'
        clear hz hs hc1
        have hcap : k + 1 ≤ cap1 := by omega
        have hq' := Lib.hid hq
        replace hq1 := Lib.hid hq1
        clear hq
        go_wp2
        go_ret
        exact ⟨by rw [← hq1.out]; rfl, by rw [← hq1.out]; exact hq'.out, _, rfl⟩
theorem trim_any (v : Value) (l : List Nat) (w : World) (ha : Wd w v l) (hd : ∀ x ∈ l, x < W32) :
    Calls Try.prog 105 #[v] w fun e w' => (∃ v, e = .returned v ∧ LongI w v (val W32 l)) ∧ ∃ k, w' = w.drewN k := by
  obtain ⟨_, a, cap, rfl⟩ := ha.len
  exact (trim_at a cap l w ha hd).mono fun _ _ ⟨h1, h2, h3⟩ => ⟨⟨_, h1, h2⟩, h3⟩

theorem two_words (w : World) (x y : Nat) : Wd (w.alloc (.cells #[.int .u32 (x : Int), .int .u32 (y : Int)] 163)) (.slice (some ⟨w.heap.size, 0, none⟩) 2 2) [x, y] := by
  have hB := Blk.new w #[.int .u32 (x : Int), .int .u32 (y : Int)] 163
  refine ⟨by unfold maxLen; simp, _, 2, rfl, ⟨by simp, by unfold maxLen; omega⟩, fun i hi => ⟨_, 0, rfl, ?_⟩⟩
  simp only [u32s, List.map_cons, List.map_nil, List.length_cons, List.length_nil] at hi
  have : i = 0 ∨ i = 1 := by omega
  rcases this with rfl | rfl
  · exact hB.cell 0
  · exact hB.cell 1

set_option maxHeartbeats 2000000 in
theorem longOf_any (n : Nat) (w : World) (hn : n < 18446744073709551616) :
    Calls Try.prog 81 #[.int .u64 (n : Int)] w fun e w' => ∃ v, e = .returned v ∧ LongI w' v n ∧ Below w.heap.size w w' := by
  have c1 : ((n % 4294967296 : Nat) : Int) = (n : Int) % 4294967296 := by omega
  have c2 : ((n / 4294967296 : Nat) : Int) = (n : Int) / 4294967296 := by omega
  have hv : val W32 [n % 4294967296, n / 4294967296] = n := by simp only [val, W32]; omega
  have hd : ∀ x ∈ [n % 4294967296, n / 4294967296], x < W32 := by
    intro x hx; simp only [W32]; simp at hx; rcases hx with rfl | rfl <;> omega
  have hT := trim_any _ _ _ (two_words w (n % 4294967296) (n / 4294967296)) hd
  rw [hv, c1, c2] at hT
  have hT' := Lib.hid hT
  clear hT hd hv c1 c2
  go_enter Try.func81, Try.ntmps81
  go_wp2_with fail
  refine hT'.out.mono ?_
  rintro e w' ⟨⟨v, rfl, hL⟩, k, rfl⟩
  go_wp2
  go_ret
  exact ⟨_, rfl, hL.keep (below_drewN (Below.refl _ _) k), below_drewN (below1 _ _) k⟩

theorem cmpU_any (x y : Nat) (w : World) : Calls Try.prog 113 #[.int .u32 (x : Int), .int .u32 (y : Int)] w fun e w' => e = .returned (.int .i64 (cmpI x y)) ∧ w' = w := by
  rcases Nat.lt_trichotomy x y with h | h | h
  · have hq := Lib.hid (cmpI_lt h)
    go_enter Try.func113, Try.ntmps113
    go_wp2
    go_ret
    exact ⟨ret_int hq.out.symm, rfl⟩
  · subst h
    have hq := Lib.hid (cmpI_eq (show x = x from rfl))
    go_enter Try.func113, Try.ntmps113
    go_wp2
    go_ret
    exact ⟨ret_int hq.out.symm, rfl⟩
  · have hq := Lib.hid (cmpI_gt h)
    go_enter Try.func113, Try.ntmps113
    go_wp2
    go_ret
    exact ⟨ret_int hq.out.symm, rfl⟩

set_option maxHeartbeats 2000000 in
theorem compare_any (a b : Value) (m n : Nat) (w : World) (ha : LongI w a m) (hb : LongI w b n) :
    Calls Try.prog 86 #[a, b] w fun e w' => e = .returned (.int .i64 (cmpI m n)) ∧ ∃ k, w' = w.drewN k := by
  obtain ⟨hm1, a1, cap1, rfl⟩ := ha.len
  obtain ⟨hm2, a2, cap2, rfl⟩ := hb.len
  unfold maxLen at hm1 hm2
  by_cases hl : dlen W32 m = dlen W32 n
  · have hl' := Lib.hid hl
    have hA := fun h => ha.at h
    have hBt := fun h => hb.at h
    have hm9 := lt_dlen w32 m
    have hn9 := lt_dlen w32 n
    have h0 : Hid (m / W32 ^ dlen W32 m = n / W32 ^ dlen W32 m) := Lib.hid (by rw [Nat.div_eq_of_lt hm9, Nat.div_eq_of_lt (by rw [hl]; exact hn9)])
    rw [← hl] at hBt ⊢
    clear hl hm9 hn9 ha hb
    generalize dlen W32 m = L at hm1 hA hBt h0 hl' ⊢
    go_enter Try.func86, Try.ntmps86
    go_wp2
    go_loopw [5] (fun i wr => ∃ k j : Nat, k ≤ L ∧ i = .int .i64 ((k : Int) - 1) ∧ wr = w.drewN j ∧ Hid (m / W32 ^ k = n / W32 ^ k)) (fun i _ => (intOf i + 1).toNat)
    case atStart => exact ⟨L, 0, Nat.le_refl _, by go_num, rfl, h0⟩
    case round =>
      obtain ⟨k, j, hk, rfl, rfl, ht⟩ := hrel
      rcases Nat.eq_zero_or_pos k with rfl | hpos
      · have hq := Lib.hid (cmpI_eq (show m = n by have := ht.out; simpa using this))
        go_wp2
        go_ret
        exact ⟨ret_int hq.out.symm, _, rfl⟩
      · obtain ⟨k, rfl⟩ : ∃ k', k = k' + 1 := ⟨k - 1, by omega⟩
        have hi : (((k + 1 : Nat) : Int) - 1) = (k : Int) := by omega
        rw [hi]
        obtain ⟨b1, o1, c1, hv1, _, hc1⟩ := hA (by omega)
        obtain ⟨b2, o2, c2, hv2, _, hc2⟩ := hBt (by omega)
        simp only [Value.slice.injEq] at hv1 hv2
        obtain ⟨rfl, _, rfl⟩ := hv1
        obtain ⟨rfl, _, rfl⟩ := hv2
        have h1 := hc1 k (by omega)
        have h2 := hc2 k (by omega)
        have hkL : k < L := by omega
        have hs := cmp_step w32 ht.out
        have hs' := cmp_step w32 ht.out.symm
        clear hc1 hc2 hi
        rcases Nat.lt_trichotomy (dgt W32 m k) (dgt W32 n k) with hd | hd | hd
        · have hq := Lib.hid (cmpI_lt (hs.2 hd))
          have hcall := fun w => cmpU_any (dgt W32 m k) (dgt W32 n k) w
          rw [cmpI_lt hd] at hcall
          clear hs hs'
          generalize dgt W32 m k = x at h1 hd hcall
          generalize dgt W32 n k = y at h2 hd hcall
          go_wp2
          go_quiet (fail)
          go_wp2
          go_quiet ((go_at_call 113; exact (hcall _).mono (fun _ _ h => ⟨h.1, _, h.2⟩)))
          go_wp2
          go_ret
          exact ⟨ret_int hq.out.symm, _, by rw [World.drewN_drewN, World.drewN_drewN]⟩
        · have hq := Lib.hid (hs.1 hd)
          clear hs hs'
          rw [← hd] at h2
          generalize dgt W32 m k = x at h1 h2
          go_wp2
          go_quiet (fail)
          go_wp2
          go_roundw
          case rel => exact ⟨k, _, by omega, by go_num, rfl, hq⟩
          case measure => simp [intOf]
        · have hq := Lib.hid (cmpI_gt (hs'.2 hd))
          have hcall := fun w => cmpU_any (dgt W32 m k) (dgt W32 n k) w
          rw [cmpI_gt hd] at hcall
          clear hs hs'
          generalize dgt W32 m k = x at h1 hd hcall
          generalize dgt W32 n k = y at h2 hd hcall
          go_wp2
          go_quiet (fail)
          go_wp2
          go_quiet ((go_at_call 113; exact (hcall _).mono (fun _ _ h => ⟨h.1, _, h.2⟩)))
          go_wp2
          go_ret
          exact ⟨ret_int hq.out.symm, _, by rw [World.drewN_drewN, World.drewN_drewN]⟩
  · go_enter Try.func86, Try.ntmps86
    rcases Nat.lt_or_gt_of_ne hl with hlt | hlt
    · have hq := Lib.hid (cmpI_lt (lt_of_dlen_lt w32 hlt))
      go_wp2
      go_ret
      exact ⟨ret_int hq.out.symm, 0, rfl⟩
    · have hq := Lib.hid (cmpI_gt (lt_of_dlen_lt w32 hlt))
      go_wp2
      go_ret
      exact ⟨ret_int hq.out.symm, 0, rfl⟩
end Go.Proofs.Ytjkekhiceadpgaa
