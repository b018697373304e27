/- WordG: several texts in one (Word, Word2, Word3, Word4, Word5, Word6, Word7). Conditions: told in each. -/
import Derived.Test.YtiddhnnofpbopaaDoorNumG
import Derived.Test.YtiddhnnofpbopaaDoorLongG
import Derived.Laws.Bits64b
import Derived.Deep.QuietTactic
/- The project's long numbers: words in base 2^32, the lowest first, in uint32s: what reads as one; trim, longOf, compare. Conditions: none. -/
namespace Go.Proofs.YtiddhnnofpbopaaDoor
open Go.RowKit Go.Deep
set_option linter.unusedVariables false

abbrev u32s (l : List Nat) : List Value := l.map fun (x : Nat) => Value.int .u32 (x : Int)
theorem u32s_getD (l : List Nat) (i : Nat) (h : i < l.length) : (u32s l).getD i undef = .int .u32 ((l.getD i 0 : Nat) : Int) := by
  simp [u32s, List.getD, h]
theorem u32s_length (l : List Nat) : (u32s l).length = l.length := by simp [u32s]
theorem u32s_set (l : List Nat) (i x : Nat) : (u32s l).set i (.int .u32 (x : Int)) = u32s (l.set i x) := by simp [u32s, List.map_set]
/-- v reads as the words l -/
def Wd (w : World) (v : Value) (l : List Nat) : Prop := Row w v (u32s l)
theorem Wd.keep {w w' : World} {v : Value} {l : List Nat} (h : Wd w v l) (hb : Below w.heap.size w w') : Wd w' v l := Row.keep h hb
theorem Wd.caps {w : World} {v : Value} {l : List Nat} (h : Wd w v l) : l.length ≤ maxLen ∧ ∃ a cap, v = .slice a l.length cap ∧ l.length ≤ cap ∧ cap ≤ maxLen := by
  have h1 := h.1
  have h2 := Row.caps h
  rw [u32s_length] at h1 h2
  exact ⟨h1, h2⟩
theorem Wd.len {w : World} {v : Value} {l : List Nat} (h : Wd w v l) : l.length ≤ maxLen ∧ ∃ a cap, v = .slice a l.length cap := by
  obtain ⟨h1, a, cap, h2, _⟩ := h.caps
  exact ⟨h1, a, cap, h2⟩
theorem Wd.at {w : World} {v : Value} {l : List Nat} (h : Wd w v l) (hne : 0 < l.length) :
    ∃ b off cap, v = .slice (some ⟨b, off, none⟩) l.length cap ∧ b < w.heap.size ∧ ∀ i, i < l.length → w.cell? ⟨b, off + i, none⟩ = some (.int .u32 ((l.getD i 0 : Nat) : Int)) := by
  obtain ⟨b, off, cap, hv, hb, hc⟩ := Row.at h (by rw [u32s_length]; exact hne)
  rw [u32s_length] at hv hc
  exact ⟨b, off, cap, hv, hb, fun i hi => by rw [hc i hi, u32s_getD l i hi]⟩
theorem Wd.pre {w : World} {a : Option Addr} {len cap : Nat} {l : List Nat} (h : Wd w (.slice a len cap) l) (n : Nat) (hn : n ≤ l.length) : Wd w (.slice a n cap) (l.take n) := by
  have := Row.pre h n (by rw [u32s_length]; exact hn)
  unfold Wd
  rw [show u32s (l.take n) = (u32s l).take n by simp [u32s, List.map_take]]
  exact this

/-- v reads as the number n -/
def LongI (w : World) (v : Value) (n : Nat) : Prop := Wd w v (dgs W32 n (dlen W32 n))
theorem LongI.keep {w w' : World} {v : Value} {n : Nat} (h : LongI w v n) (hb : Below w.heap.size w w') : LongI w' v n := Wd.keep h hb
theorem LongI.len {w : World} {v : Value} {n : Nat} (h : LongI w v n) : dlen W32 n ≤ maxLen ∧ ∃ a cap, v = .slice a (dlen W32 n) cap := by
  have := Wd.len h
  rwa [dgs_length] at this
theorem LongI.caps {w : World} {v : Value} {n : Nat} (h : LongI w v n) : dlen W32 n ≤ maxLen ∧ ∃ a cap, v = .slice a (dlen W32 n) cap ∧ dlen W32 n ≤ cap ∧ cap ≤ maxLen := by
  have := Wd.caps h
  rwa [dgs_length] at this
theorem LongI.at {w : World} {v : Value} {n : Nat} (h : LongI w v n) (hne : 0 < dlen W32 n) :
    ∃ b off cap, v = .slice (some ⟨b, off, none⟩) (dlen W32 n) cap ∧ b < w.heap.size ∧ ∀ i, i < dlen W32 n → w.cell? ⟨b, off + i, none⟩ = some (.int .u32 (dgt W32 n i : Int)) := by
  obtain ⟨b, off, cap, hv, hb, hc⟩ := Wd.at h (by rw [dgs_length]; exact hne)
  rw [dgs_length] at hv hc
  exact ⟨b, off, cap, hv, hb, fun i hi => by rw [hc i hi, dgs_getD W32 n _ i hi]⟩
theorem LongI.nil (w : World) : LongI w (.slice none 0 0) 0 := by
  refine ⟨by simp [dlen_zero, dgs], none, 0, by simp [dlen_zero, dgs], by simp [dlen_zero, dgs], fun i hi => ?_⟩
  simp [dlen_zero, dgs] at hi
theorem LongI.ofCut {w : World} {a : Option Addr} {cap : Nat} {l : List Nat} (h : Wd w (.slice a l.length cap) l) (hd : ∀ x ∈ l, x < W32) (k : Nat) (hk : k ≤ l.length)
    (hv : val W32 (l.take k) = val W32 l) (ht : k = 0 ∨ l.getD (k - 1) 0 ≠ 0) : k = dlen W32 (val W32 l) ∧ LongI w (.slice a k cap) (val W32 l) := by
  obtain ⟨h1, h2⟩ := cut_done w32 l hd k hk hv ht
  have := Wd.pre h k hk
  rw [h2] at this
  refine ⟨h1.symm, ?_⟩
  unfold LongI
  rw [h1]; exact this

set_option maxHeartbeats 2000000 in
theorem trim_at (a1 : Option Addr) (cap1 : Nat) (l : List Nat) (w : World) (ha : Wd w (.slice a1 l.length cap1) l) (hd : ∀ x ∈ l, x < W32) :
    Calls Tryd.prog 24 #[.slice a1 l.length cap1] w fun e w' => e = .returned (.slice a1 (dlen W32 (val W32 l)) cap1) ∧ LongI w (.slice a1 (dlen W32 (val W32 l)) cap1) (val W32 l) ∧ ∃ k, w' = w.drewN k := by
  obtain ⟨hm1, a2, cap2, hva, hk1, hk2⟩ := ha.caps
  simp only [Value.slice.injEq] at hva
  obtain ⟨rfl, -, rfl⟩ := hva
  unfold maxLen at hm1 hk2
  have hC := Lib.hid (fun k => LongI.ofCut ha hd k)
  have hA := fun h => ha.at h
  clear ha
  go_enter Tryd.func24, Tryd.ntmps24
  go_wp2
  go_loopw [3] (fun i wr => ∃ k j : Nat, k ≤ l.length ∧ i = .int .i64 k ∧ wr = w.drewN j ∧ Hid (val W32 (l.take k) = val W32 l)) (fun i _ => (intOf i).toNat)
  case atStart => exact ⟨l.length, 0, Nat.le_refl _, rfl, rfl, by rw [List.take_length]; exact rfl⟩
  case round =>
    obtain ⟨k, j, hk, rfl, rfl, ht⟩ := hrel
    rcases Nat.eq_zero_or_pos k with rfl | hpos
    · obtain ⟨hq1, hq⟩ := hC.out 0 hk ht.out (Or.inl rfl)
      have hq' := Lib.hid hq
      replace hq1 := Lib.hid hq1
      clear hq
      go_wp2
      go_ret
      exact ⟨by rw [← hq1.out]; rfl, by rw [← hq1.out]; exact hq'.out, _, rfl⟩
    · obtain ⟨k, rfl⟩ : ∃ k', k = k' + 1 := ⟨k - 1, by omega⟩
      obtain ⟨b1, o1, c1, hv1, _, hc1⟩ := hA (by omega)
      simp only [Value.slice.injEq] at hv1
      obtain ⟨rfl, _, rfl⟩ := hv1
      have h1 := hc1 k (by omega)
      have hs := take_step (B := W32) l k (by omega)
      by_cases hz : l.getD k 0 = 0
      · have hq : Hid (val W32 (l.take k) = val W32 l) := Lib.hid (by rw [hz] at hs; have := ht.out; omega)
        rw [hz] at h1
        clear hz hs hc1
        go_wp2
        go_roundw
        case rel => exact ⟨k, _, by omega, by go_num, rfl, hq⟩
        case measure => simp [intOf]
      · obtain ⟨hq1, hq⟩ := hC.out (k + 1) hk ht.out (Or.inr (by simpa using hz))
        have hz' : ((l.getD k 0 : Nat) : Int) ≠ 0 := by omega
        generalize ((l.getD k 0 : Nat) : Int) = x at h1 hz'
        clear hz hs hc1
        have hcap : k + 1 ≤ cap1 := by omega
        have hq' := Lib.hid hq
        replace hq1 := Lib.hid hq1
        clear hq
        go_wp2
        go_ret
        exact ⟨by rw [← hq1.out]; rfl, by rw [← hq1.out]; exact hq'.out, _, rfl⟩
theorem trim_any (v : Value) (l : List Nat) (w : World) (ha : Wd w v l) (hd : ∀ x ∈ l, x < W32) :
    Calls Tryd.prog 24 #[v] w fun e w' => (∃ v, e = .returned v ∧ LongI w v (val W32 l)) ∧ ∃ k, w' = w.drewN k := by
  obtain ⟨_, a, cap, rfl⟩ := ha.len
  exact (trim_at a cap l w ha hd).mono fun _ _ ⟨h1, h2, h3⟩ => ⟨⟨_, h1, h2⟩, h3⟩

theorem two_words (w : World) (x y : Nat) : Wd (w.alloc (.cells #[.int .u32 (x : Int), .int .u32 (y : Int)] 61)) (.slice (some ⟨w.heap.size, 0, none⟩) 2 2) [x, y] := by
  have hB := Blk.new w #[.int .u32 (x : Int), .int .u32 (y : Int)] 61
  refine ⟨by unfold maxLen; simp, _, 2, rfl, ⟨by simp, by unfold maxLen; omega⟩, fun i hi => ⟨_, 0, rfl, ?_⟩⟩
  simp only [u32s, List.map_cons, List.map_nil, List.length_cons, List.length_nil] at hi
  have : i = 0 ∨ i = 1 := by omega
  rcases this with rfl | rfl
  · exact hB.cell 0
  · exact hB.cell 1

set_option maxHeartbeats 2000000 in
theorem longOf_any (n : Nat) (w : World) (hn : n < 18446744073709551616) :
    Calls Tryd.prog 18 #[.int .u64 (n : Int)] w fun e w' => ∃ v, e = .returned v ∧ LongI w' v n ∧ Below w.heap.size w w' := by
  have c1 : ((n % 4294967296 : Nat) : Int) = (n : Int) % 4294967296 := by omega
  have c2 : ((n / 4294967296 : Nat) : Int) = (n : Int) / 4294967296 := by omega
  have hv : val W32 [n % 4294967296, n / 4294967296] = n := by simp only [val, W32]; omega
  have hd : ∀ x ∈ [n % 4294967296, n / 4294967296], x < W32 := by
    intro x hx; simp only [W32]; simp at hx; rcases hx with rfl | rfl <;> omega
  have hT := trim_any _ _ _ (two_words w (n % 4294967296) (n / 4294967296)) hd
  rw [hv, c1, c2] at hT
  have hT' := Lib.hid hT
  clear hT hd hv c1 c2
  go_enter Tryd.func18, Tryd.ntmps18
  go_wp2_with fail
  refine hT'.out.mono ?_
  rintro e w' ⟨⟨v, rfl, hL⟩, k, rfl⟩
  go_wp2
  go_ret
  exact ⟨_, rfl, hL.keep (below_drewN (Below.refl _ _) k), below_drewN (below1 _ _) k⟩

theorem cmpU_any (x y : Nat) (w : World) : Calls Tryd.prog 59 #[.int .u32 (x : Int), .int .u32 (y : Int)] w fun e w' => e = .returned (.int .i64 (cmpI x y)) ∧ w' = w := by
  rcases Nat.lt_trichotomy x y with h | h | h
  · have hq := Lib.hid (cmpI_lt h)
    go_enter Tryd.func59, Tryd.ntmps59
    go_wp2
    go_ret
    exact ⟨ret_int hq.out.symm, rfl⟩
  · subst h
    have hq := Lib.hid (cmpI_eq (show x = x from rfl))
    go_enter Tryd.func59, Tryd.ntmps59
    go_wp2
    go_ret
    exact ⟨ret_int hq.out.symm, rfl⟩
  · have hq := Lib.hid (cmpI_gt h)
    go_enter Tryd.func59, Tryd.ntmps59
    go_wp2
    go_ret
    exact ⟨ret_int hq.out.symm, rfl⟩

set_option maxHeartbeats 2000000 in
theorem compare_any (a b : Value) (m n : Nat) (w : World) (ha : LongI w a m) (hb : LongI w b n) :
    Calls Tryd.prog 45 #[a, b] w fun e w' => e = .returned (.int .i64 (cmpI m n)) ∧ ∃ k, w' = w.drewN k := by
  obtain ⟨hm1, a1, cap1, rfl⟩ := ha.len
  obtain ⟨hm2, a2, cap2, rfl⟩ := hb.len
  unfold maxLen at hm1 hm2
  by_cases hl : dlen W32 m = dlen W32 n
  · have hl' := Lib.hid hl
    have hA := fun h => ha.at h
    have hBt := fun h => hb.at h
    have hm9 := lt_dlen w32 m
    have hn9 := lt_dlen w32 n
    have h0 : Hid (m / W32 ^ dlen W32 m = n / W32 ^ dlen W32 m) := Lib.hid (by rw [Nat.div_eq_of_lt hm9, Nat.div_eq_of_lt (by rw [hl]; exact hn9)])
    rw [← hl] at hBt ⊢
    clear hl hm9 hn9 ha hb
    generalize dlen W32 m = L at hm1 hA hBt h0 hl' ⊢
    go_enter Tryd.func45, Tryd.ntmps45
    go_wp2
    go_loopw [5] (fun i wr => ∃ k j : Nat, k ≤ L ∧ i = .int .i64 ((k : Int) - 1) ∧ wr = w.drewN j ∧ Hid (m / W32 ^ k = n / W32 ^ k)) (fun i _ => (intOf i + 1).toNat)
    case atStart => exact ⟨L, 0, Nat.le_refl _, by go_num, rfl, h0⟩
    case round =>
      obtain ⟨k, j, hk, rfl, rfl, ht⟩ := hrel
      rcases Nat.eq_zero_or_pos k with rfl | hpos
      · have hq := Lib.hid (cmpI_eq (show m = n by have := ht.out; simpa using this))
        go_wp2
        go_ret
        exact ⟨ret_int hq.out.symm, _, rfl⟩
      · obtain ⟨k, rfl⟩ : ∃ k', k = k' + 1 := ⟨k - 1, by omega⟩
        have hi : (((k + 1 : Nat) : Int) - 1) = (k : Int) := by omega
        rw [hi]
        obtain ⟨b1, o1, c1, hv1, _, hc1⟩ := hA (by omega)
        obtain ⟨b2, o2, c2, hv2, _, hc2⟩ := hBt (by omega)
        simp only [Value.slice.injEq] at hv1 hv2
        obtain ⟨rfl, _, rfl⟩ := hv1
        obtain ⟨rfl, _, rfl⟩ := hv2
        have h1 := hc1 k (by omega)
        have h2 := hc2 k (by omega)
        have hkL : k < L := by omega
        have hs := cmp_step w32 ht.out
        have hs' := cmp_step w32 ht.out.symm
        clear hc1 hc2 hi
        rcases Nat.lt_trichotomy (dgt W32 m k) (dgt W32 n k) with hd | hd | hd
        · have hq := Lib.hid (cmpI_lt (hs.2 hd))
          have hcall := fun w => cmpU_any (dgt W32 m k) (dgt W32 n k) w
          rw [cmpI_lt hd] at hcall
          clear hs hs'
          generalize dgt W32 m k = x at h1 hd hcall
          generalize dgt W32 n k = y at h2 hd hcall
          go_wp2
          go_quiet (fail)
          go_wp2
          go_quiet ((go_at_call 59; exact (hcall _).mono (fun _ _ h => ⟨h.1, _, h.2⟩)))
          go_wp2
          go_ret
          exact ⟨ret_int hq.out.symm, _, by rw [World.drewN_drewN, World.drewN_drewN]⟩
        · have hq := Lib.hid (hs.1 hd)
          clear hs hs'
          rw [← hd] at h2
          generalize dgt W32 m k = x at h1 h2
          go_wp2
          go_quiet (fail)
          go_wp2
          go_roundw
          case rel => exact ⟨k, _, by omega, by go_num, rfl, hq⟩
          case measure => simp [intOf]
        · have hq := Lib.hid (cmpI_gt (hs'.2 hd))
          have hcall := fun w => cmpU_any (dgt W32 m k) (dgt W32 n k) w
          rw [cmpI_gt hd] at hcall
          clear hs hs'
          generalize dgt W32 m k = x at h1 hd hcall
          generalize dgt W32 n k = y at h2 hd hcall
          go_wp2
          go_quiet (fail)
          go_wp2
          go_quiet ((go_at_call 59; exact (hcall _).mono (fun _ _ h => ⟨h.1, _, h.2⟩)))
          go_wp2
          go_ret
          exact ⟨ret_int hq.out.symm, _, by rw [World.drewN_drewN, World.drewN_drewN]⟩
  · go_enter Tryd.func45, Tryd.ntmps45
    rcases Nat.lt_or_gt_of_ne hl with hlt | hlt
    · have hq := Lib.hid (cmpI_lt (lt_of_dlen_lt w32 hlt))
      go_wp2
      go_ret
      exact ⟨ret_int hq.out.symm, 0, rfl⟩
    · have hq := Lib.hid (cmpI_gt (lt_of_dlen_lt w32 hlt))
      go_wp2
      go_ret
      exact ⟨ret_int hq.out.symm, 0, rfl⟩
end Go.Proofs.YtiddhnnofpbopaaDoor

/- plus of the project: the sum of two long numbers. Conditions: fewer than 10^12 words. -/
namespace Go.Proofs.YtiddhnnofpbopaaDoor
open Go.RowKit Go.Deep
set_option linter.unusedVariables false

theorem word_info : (Tryd.prog.info? 61).map (fun i => (i.zero, i.size, i.bytes)) = some (some (.int .u32 0), 1, 4) := by kernel_rfl
theorem plusw_round (m n k : Nat) : ((carry W32 m n k : Int) + (dgt W32 m k : Int) + (dgt W32 n k : Int)) % 4294967296 = (dgt W32 (m + n) k : Int) ∧
    ((carry W32 m n k : Int) + (dgt W32 m k : Int) + (dgt W32 n k : Int)) / 4294967296 = (carry W32 m n (k + 1) : Int) := by
  obtain ⟨h1, h2⟩ := sum_step w32 m n k
  rw [h1, h2]
  simp only [W32]
  omega
/-- the carry behind the last word is the last word -/
theorem plus_top {m n : Nat} (hle : dlen W32 n ≤ dlen W32 m) : carry W32 m n (dlen W32 m) = dgt W32 (m + n) (dlen W32 m) ∧ m + n < W32 ^ (dlen W32 m + 1) := by
  have h := (sum_step w32 m n (dlen W32 m)).1
  rw [dgt_big (lt_dlen w32 m), dgt_big (lt_of_dlen w32 hle)] at h
  have h1 := carry_le w32 m n (dlen W32 m)
  refine ⟨?_, lt_of_dlen w32 (plus_len w32 (Nat.le_refl _) hle)⟩
  rw [h, Nat.mod_eq_of_lt]
  · simp only [Nat.add_zero]
  · have : (1 : Nat) < W32 := by decide
    omega

end Go.Proofs.YtiddhnnofpbopaaDoor

/- minus of the project: the difference of two long numbers, of which the first one is not less. Conditions: fewer than 10^12 words. -/
namespace Go.Proofs.YtiddhnnofpbopaaDoor
open Go.RowKit Go.Deep
set_option linter.unusedVariables false

/-- one word of a difference, as the code computes it: the gap in 64 bits -/
theorem minusw_round {m n : Nat} (h : n ≤ m) (k : Nat) : ∃ G : Nat, IntKind.u64.wrap ((dgt W32 m k : Int) - ((borrow W32 m n k : Int) + (dgt W32 n k : Int))) = (G : Int) ∧ (G : Int) % 4294967296 = (dgt W32 (m - n) k : Int) ∧ (G : Int) / 9223372036854775808 = (borrow W32 m n (k + 1) : Int) := by
  obtain ⟨h1, h2⟩ := less_step w32 h k
  have d1 := dgt_lt w32 m k
  have d2 := dgt_lt w32 n k
  have d3 := dgt_lt w32 (m - n) k
  have hb : borrow W32 m n k ≤ 1 := by unfold borrow; split <;> omega
  rcases Nat.lt_or_ge (dgt W32 m k) (dgt W32 n k + borrow W32 m n k) with c | c
  · obtain ⟨e1, e2⟩ := h1 c
    rw [e1]
    generalize dgt W32 m k = x at *
    generalize dgt W32 n k = y at *
    generalize dgt W32 (m - n) k = d at *
    generalize borrow W32 m n k = b at *
    simp only [W32] at *
    refine ⟨x + 18446744073709551616 - (b + y), ?_, ?_, ?_⟩
    · rw [IntKind.wrap_u64]; omega
    · omega
    · omega
  · obtain ⟨e1, e2⟩ := h2 c
    rw [e1]
    generalize dgt W32 m k = x at *
    generalize dgt W32 n k = y at *
    generalize dgt W32 (m - n) k = d at *
    generalize borrow W32 m n k = b at *
    simp only [W32] at *
    refine ⟨x - (b + y), ?_, ?_, ?_⟩
    · rw [IntKind.wrap_u64]; omega
    · omega
    · omega

set_option maxRecDepth 100000 in
set_option maxHeartbeats 4000000 in
theorem minus_any (a b : Value) (m n : Nat) (w : World) (ha : LongI w a m) (hb : LongI w b n) (hle : n ≤ m) (sm : dlen W32 m ≤ 1000000000000) :
    Calls Tryd.prog 78 #[a, b] w fun e w' => ∃ v, e = .returned v ∧ LongI w' v (m - n) ∧ Below w.heap.size w w' := by
  obtain ⟨hm1, a1, cap1, rfl⟩ := ha.len
  obtain ⟨hm2, a2, cap2, rfl⟩ := hb.len
  unfold maxLen at hm1 hm2
  have hA := fun h => ha.at h
  have hBt := fun h => hb.at h
  have hrd := Lib.hid (fun k => minusw_round hle k)
  have hbm := Lib.hid (fun k => And.intro (dgt_lt w32 m k) (And.intro (dgt_lt w32 n k) (show borrow W32 m n k ≤ 1 by unfold borrow; split <;> omega)))
  have hzn := Lib.hid (fun k (h : dlen W32 n ≤ k) => dgt_big (lt_of_dlen w32 h))
  have hdl := dlen_mono w32 hle
  have hend := Lib.hid (val_dgs_small (Nat.lt_of_le_of_lt (Nat.sub_le m n) (lt_dlen w32 m)))
  have hmk := run_make_row' (P := Tryd.prog) 47 61 (.int .u32 0) 4 Tryd.underlying47 word_info rfl .i64 .i64 (dlen W32 m) (by omega) (by omega)
  clear ha hb
  generalize hL1 : dlen W32 m = L1 at hm1 hA sm hmk hend hdl ⊢
  generalize hL2 : dlen W32 n = L2 at hm2 hBt hzn hdl ⊢
  clear hL1 hL2
  go_enter Tryd.func78, Tryd.ntmps78
  go_wp2
  go_loopw [6, 16] (fun cv iv wr => ∃ k : Nat, k ≤ L1 ∧ cv = .int .u64 (borrow W32 m n k : Nat) ∧ iv = .int .i64 (k : Int) ∧ Own wr w.heap.size (w.heap.size + 1) 61 (.slice (some ⟨w.heap.size, 0, none⟩) L1 L1) (u32s (dz W32 (m - n) k L1)) ∧ Below w.heap.size w wr) (fun _ iv _ => L1 - (intOf iv).toNat)
  case atStart =>
    refine ⟨0, Nat.zero_le _, by rw [borrow_zero]; rfl, rfl, ?_, (Below.refl _ _).alloc (Nat.le_refl _) _⟩
    have := Own.made w (.int .u32 0) L1 61 (by unfold maxLen; omega)
    rw [dz_zero]
    simpa [u32s] using this
  case round =>
    obtain ⟨k, hk, rfl, rfl, hown, bel⟩ := hrel
    have hown' := Lib.hid hown
    have hsz := bel.size
    by_cases hlt : k < L1
    · obtain ⟨g, cap'', hg, -, -, -, hcg, hfg⟩ := hown.at (by rw [u32s_length, dz_length _ _ _ _ (by omega)]; omega)
      simp only [Value.slice.injEq, Option.some.injEq, Addr.mk.injEq, and_true] at hg
      obtain ⟨rfl, -, -⟩ := hg
      have hcg' := hcg k (by rw [u32s_length, dz_length _ _ _ _ (by omega)]; omega)
      have hfg' := hfg k
      generalize (u32s (dz W32 (m - n) k L1)).getD k undef = old at hcg'
      clear hcg hfg hown
      obtain ⟨w1, w2, w3⟩ := hbm.out k
      obtain ⟨G, z0, z1, z2⟩ := hrd.out k
      have hset := Lib.hid (dz_set W32 (m - n) k L1 (by omega))
      obtain ⟨b1, o1, c1, hv1, hl1, hc1⟩ := hA (by omega)
      simp only [Value.slice.injEq] at hv1
      obtain ⟨rfl, -, rfl⟩ := hv1
      have q1 := (bel.cell hl1).trans (hc1 k hlt)
      simp only [show W32 = 4294967296 from rfl] at w1 w2
      generalize hcc : borrow W32 m n (k + 1) = c' at z2
      replace hcc := Lib.hid hcc
      generalize dgt W32 (m - n) k = d at z1 hset
      clear hc1
      by_cases hlt2 : k < L2
      · obtain ⟨b2, o2, c2, hv2, hl2, hc2⟩ := hBt (by omega)
        simp only [Value.slice.injEq] at hv2
        obtain ⟨rfl, -, rfl⟩ := hv2
        have q2 := (bel.cell hl2).trans (hc2 k hlt2)
        clear hc2
        generalize dgt W32 m k = x at q1 z0 w1
        generalize dgt W32 n k = y at q2 z0 w2
        generalize borrow W32 m n k = c at z0 w3 ⊢
        go_wp2
        go_roundw
        case rel =>
          refine ⟨k + 1, by omega, by rw [hcc.out], by go_num, ?_, bel.setCell (Nat.le_refl _) _⟩
          have := hown'.out.set k (.int .u32 (d : Int))
          rw [u32s_set, hset.out] at this
          exact this
        case measure => simp [intOf]; omega
      · rw [hzn.out k (by omega)] at z0
        simp only [Int.natCast_zero, Int.add_zero] at z0
        generalize dgt W32 m k = x at q1 z0 w1
        generalize borrow W32 m n k = c at z0 w3 ⊢
        go_wp2
        go_roundw
        case rel =>
          refine ⟨k + 1, by omega, by rw [hcc.out], by go_num, ?_, bel.setCell (Nat.le_refl _) _⟩
          have := hown'.out.set k (.int .u32 (d : Int))
          rw [u32s_set, hset.out] at this
          exact this
        case measure => simp [intOf]; omega
    · obtain rfl : k = L1 := by omega
      have hrow : Wd wr (.slice (some ⟨w.heap.size, 0, none⟩) k k) (dgs W32 (m - n) k) := by
        have := hown.row
        rw [dz_all] at this
        exact this
      have hT := trim_any _ _ wr hrow (dgs_lt w32 _ _)
      rw [hend.out] at hT
      have hT' := Lib.hid hT
      clear hT hown hrow
      go_wp2_with fail
      refine hT'.out.mono ?_
      rintro e w' ⟨⟨v, rfl, hL⟩, j, rfl⟩
      have hL' := Lib.hid hL
      clear hL
      go_wp2
      go_ret
      exact ⟨_, rfl, hL'.out.keep (below_drewN (Below.refl _ _) j), below_drewN bel j⟩
end Go.Proofs.YtiddhnnofpbopaaDoor

/- times of the project: the product of two long numbers. Conditions: fewer than 10^11 words each. -/
namespace Go.Proofs.YtiddhnnofpbopaaDoor
open Go.RowKit Go.Deep
set_option linter.unusedVariables false

theorem prodw_round {m n i k c : Nat} (l : List Nat) (hlen : i + k < l.length) (hd : ∀ x ∈ l, x < W32) (hc : c < 4294967296)
    (hv : val W32 l + c * W32 ^ (i + k) = m % W32 ^ i * n + dgt W32 m i * (n % W32 ^ k) * W32 ^ i) :
    ∃ o p r c' : Nat, l.getD (i + k) 0 = o ∧ dgt W32 m i * dgt W32 n k = p ∧ o < 4294967296 ∧ p ≤ 18446744065119617025 ∧ ((c : Int) + ((o : Int) + (p : Int))) % 4294967296 = (r : Int) ∧ ((c : Int) + ((o : Int) + (p : Int))) / 4294967296 = (c' : Int) ∧ r < 4294967296 ∧ c' < 4294967296 ∧
      Hid ((l.set (i + k) r).length = l.length ∧ (∀ x ∈ l.set (i + k) r, x < W32) ∧ val W32 (l.set (i + k) r) + c' * W32 ^ (i + (k + 1)) = m % W32 ^ i * n + dgt W32 m i * (n % W32 ^ (k + 1)) * W32 ^ i) := by
  have ho : l.getD (i + k) 0 < W32 := hd _ (lg_mem (d := 0) hlen)
  have h1 := dgt_lt w32 m i
  have h2 := dgt_lt w32 n k
  have h3 := Nat.mul_le_mul (show dgt W32 m i ≤ 4294967295 by simp only [W32] at h1 ⊢; omega) (show dgt W32 n k ≤ 4294967295 by simp only [W32] at h2 ⊢; omega)
  have hs := prod_step l hlen rfl hv
  generalize hp : dgt W32 m i * dgt W32 n k = p at h3 hs
  generalize hoo : l.getD (i + k) 0 = o at ho hs
  have hB9 : W32 = 4294967296 := rfl
  have hr : (o + c + p) % W32 < W32 := Nat.mod_lt _ (by decide)
  refine ⟨o, p, (o + c + p) % W32, (o + c + p) / W32, rfl, rfl, by omega, by omega, ?_, ?_, by omega, ?_, ⟨by simp, ?_, hs⟩⟩
  · rw [hB9]; omega
  · rw [hB9]; omega
  · rw [hB9]; omega
  · intro x hx
    rcases List.mem_or_eq_of_mem_set hx with h | h
    · exact hd x h
    · rw [h]; exact hr
/-- the carry is stored behind the row -/
theorem prodw_last {m n i c L2 : Nat} (l : List Nat) (hlen : i + L2 < l.length) (hd : ∀ x ∈ l, x < W32) (hc : c < 4294967296) (hn : n < W32 ^ L2) (h0 : val W32 (l.drop (i + L2)) = 0)
    (hv : val W32 l + c * W32 ^ (i + L2) = m % W32 ^ i * n + dgt W32 m i * (n % W32 ^ L2) * W32 ^ i) :
    (l.set (i + L2) c).length = l.length ∧ (∀ x ∈ l.set (i + L2) c, x < W32) ∧ val W32 (l.set (i + L2) c) = m % W32 ^ (i + 1) * n := by
  refine ⟨by simp, ?_, ?_⟩
  · intro x hx
    rcases List.mem_or_eq_of_mem_set hx with h | h
    · exact hd x h
    · rw [h]; exact hc
  · rw [prod_row hn (Nat.le_refl _) w32] at hv
    have e := val_set (B := W32) l (i + L2) c hlen
    have hz : l.getD (i + L2) 0 = 0 := by
      rw [List.drop_eq_getElem_cons hlen] at h0
      simp only [val] at h0
      simp only [List.getD, List.getElem?_eq_getElem hlen, Option.getD_some]
      omega
    rw [hz, Nat.mul_zero, Nat.add_zero, Nat.mul_comm] at e
    omega
theorem prodw_zero {m n i L2 : Nat} (l : List Nat) (hlen : i + L2 ≤ l.length) (hn : n < W32 ^ L2) (hv : val W32 l = m % W32 ^ i * n) : val W32 (l.drop (i + L2)) = 0 := by
  apply val_drop_small w32 l _ hlen
  rw [hv, Nat.pow_add]
  have p1 := Nat.mod_lt m (pow_pos' w32 i)
  exact Nat.lt_of_le_of_lt (Nat.mul_le_mul_right _ (Nat.le_of_lt p1)) (Nat.mul_lt_mul_of_pos_left hn (pow_pos' w32 _))
theorem cell_u32 (l : List Nat) (i : Nat) (h : i < l.length) : (u32s l).getD i undef = .int .u32 ((l.getD i 0 : Nat) : Int) := u32s_getD l i h

set_option maxRecDepth 100000 in
set_option maxHeartbeats 4000000 in
theorem times_any (a b : Value) (m n : Nat) (w : World) (ha : LongI w a m) (hb : LongI w b n) (sm : dlen W32 m ≤ 100000000000) (sn : dlen W32 n ≤ 100000000000) :
    Calls Tryd.prog 64 #[a, b] w fun e w' => ∃ v, e = .returned v ∧ LongI w' v (m * n) ∧ Below w.heap.size w w' := by
  obtain ⟨hm1, a1, cap1, rfl⟩ := ha.len
  obtain ⟨hm2, a2, cap2, rfl⟩ := hb.len
  unfold maxLen at hm1 hm2
  have hA := fun h => ha.at h
  have hBt := fun h => hb.at h
  have hmlt := Lib.hid (lt_dlen w32 m)
  have hnlt := Lib.hid (lt_dlen w32 n)
  have hmk := run_make_row' (P := Tryd.prog) 47 61 (.int .u32 0) 4 Tryd.underlying47 word_info rfl .i64 .i64 (dlen W32 m + dlen W32 n) (by omega) (by omega)
  rw [Int.natCast_add] at hmk
  have hbm := Lib.hid (fun i => dgt_lt w32 m i)
  have hbn := Lib.hid (fun i => dgt_lt w32 n i)
  clear ha hb
  generalize hL1 : dlen W32 m = L1 at hm1 hA sm hmk hmlt ⊢
  generalize hL2 : dlen W32 n = L2 at hm2 hBt sn hmk hnlt ⊢
  clear hL1 hL2
  go_enter Tryd.func64, Tryd.ntmps64
  go_wp2
  go_loopw [19] (fun iv wr => ∃ (i : Nat) (l : List Nat), i ≤ L1 ∧ iv = .int .i64 (i : Int) ∧ Own wr w.heap.size (w.heap.size + 1) 61 (.slice (some ⟨w.heap.size, 0, none⟩) (L1 + L2) (L1 + L2)) (u32s l) ∧ Below w.heap.size w wr ∧ Hid (l.length = L1 + L2 ∧ (∀ x ∈ l, x < W32) ∧ val W32 l = m % W32 ^ i * n)) (fun iv _ => L1 - (intOf iv).toNat)
  case atStart =>
    refine ⟨0, List.replicate (L1 + L2) 0, Nat.zero_le _, rfl, ?_, (Below.refl _ _).alloc (Nat.le_refl _) _, ⟨by simp, ?_, ?_⟩⟩
    · have := Own.made w (.int .u32 0) (L1 + L2) 61 (by unfold maxLen; omega)
      simpa [u32s] using this
    · intro x hx; rw [List.mem_replicate] at hx; rw [hx.2]; simp [W32]
    · rw [Nat.pow_zero, Nat.mod_one, Nat.zero_mul]; exact val_zeros _ _
  case round =>
    obtain ⟨i, l, hi, rfl, hown, bel, hl⟩ := hrel
    have hown' := Lib.hid hown
    by_cases hlt : i < L1
    · obtain ⟨b1, o1, c1, hv1, hl1, hc1⟩ := hA (by omega)
      simp only [Value.slice.injEq] at hv1
      obtain ⟨rfl, -, rfl⟩ := hv1
      have q1 := (bel.cell hl1).trans (hc1 i hlt)
      have wi := hbm.out i
      simp only [show W32 = 4294967296 from rfl] at wi
      have hz0 := Lib.hid (prodw_zero l (show i + L2 ≤ l.length by have := hl.out.1; omega) hnlt.out hl.out.2.2)
      clear hc1 hown
      generalize hai : dgt W32 m i = ai at q1 wi
      replace hai := Lib.hid hai
      go_wp2
      go_loopw [8, 26] (fun cv kv wr2 => ∃ (k c : Nat) (l2 : List Nat), k ≤ L2 ∧ kv = .int .i64 (k : Int) ∧ cv = .int .u64 (c : Int) ∧ Own wr2 w.heap.size (w.heap.size + 1) 61 (.slice (some ⟨w.heap.size, 0, none⟩) (L1 + L2) (L1 + L2)) (u32s l2) ∧ Below w.heap.size w wr2 ∧ c < 4294967296 ∧ Hid (l2.length = L1 + L2 ∧ (∀ x ∈ l2, x < W32) ∧ val W32 (l2.drop (i + L2)) = 0 ∧ val W32 l2 + c * W32 ^ (i + k) = m % W32 ^ i * n + dgt W32 m i * (n % W32 ^ k) * W32 ^ i)) (fun _ kv _ => L2 - (intOf kv).toNat)
      case atStart => exact ⟨0, 0, l, by omega, rfl, rfl, hown'.out, bel, by omega, ⟨hl.out.1, hl.out.2.1, hz0.out, by rw [hl.out.2.2, Nat.pow_zero, Nat.mod_one]; simp⟩⟩
      case round =>
        obtain ⟨k, c, l2, hk, rfl, rfl, hown2, bel2, hcc, hl2⟩ := hrel
        have hsz := bel2.size
        have h2len := hl2.out.1
        obtain ⟨g, cap'', hg, -, -, -, hcg, hfg⟩ := hown2.at (by rw [u32s_length]; omega)
        simp only [Value.slice.injEq, Option.some.injEq, Addr.mk.injEq, and_true] at hg
        obtain ⟨rfl, -, -⟩ := hg
        have hcg' := hcg (i + k) (by rw [u32s_length]; omega)
        have hfg' := hfg (i + k)
        have hown2' := Lib.hid hown2
        by_cases hq : k < L2
        · rw [cell_u32 l2 (i + k) (by omega)] at hcg'
          obtain ⟨o, p, r, c', ho, hp, o1', p1', z1, z2, r1, c1', hnew⟩ := prodw_round l2 (by omega) hl2.out.2.1 hcc hl2.out.2.2.2
          rw [ho] at hcg'
          obtain ⟨b2, o2, c2, hv2, hlb, hc2⟩ := hBt (by omega)
          simp only [Value.slice.injEq] at hv2
          obtain ⟨rfl, -, rfl⟩ := hv2
          have q2 := (bel2.cell hlb).trans (hc2 k (by omega))
          have wk := hbn.out k
          simp only [show W32 = 4294967296 from rfl] at wk
          have hpI : (ai : Int) * (dgt W32 n k : Int) = (p : Int) := by rw [← hai.out, ← Int.natCast_mul, hp]
          have hdr := Lib.hid (show val W32 ((l2.set (i + k) r).drop (i + L2)) = 0 by rw [List.drop_set_of_lt (by omega)]; exact hl2.out.2.2.1)
          generalize dgt W32 n k = y at q2 hpI wk
          clear hc2 hown2 hcg hfg ho h2len hp
          go_wp2
          go_roundw
          case rel =>
            refine ⟨k + 1, c', l2.set (i + k) r, by omega, by go_num, rfl, ?_, bel2.setCell (Nat.le_refl _) _, c1', ⟨by rw [hnew.out.1, hl2.out.1], hnew.out.2.1, hdr.out, hnew.out.2.2⟩⟩
            have := hown2'.out.set (i + k) (.int .u32 (r : Int))
            rw [u32s_set] at this; exact this
          case measure => simp [intOf]; omega
        · obtain rfl : k = L2 := by omega
          have hfin := Lib.hid (prodw_last l2 (by omega) hl2.out.2.1 hcc hnlt.out hl2.out.2.2.1 hl2.out.2.2.2)
          generalize (u32s l2).getD (i + k) undef = old at hcg'
          have hwr : ((c : Nat) : Int) % 4294967296 = (c : Int) := by omega
          clear hown2 hcg hfg h2len
          go_wp2
          go_roundw
          case rel =>
            refine ⟨i + 1, l2.set (i + k) c, by omega, by go_num, ?_, bel2.setCell (Nat.le_refl _) _, ⟨by rw [hfin.out.1, hl2.out.1], hfin.out.2.1, hfin.out.2.2⟩⟩
            have := hown2'.out.set (i + k) (.int .u32 (c : Int))
            rw [u32s_set] at this; exact this
          case measure => simp [intOf]; omega
    · obtain rfl : i = L1 := by omega
      have hrow : Wd wr (.slice (some ⟨w.heap.size, 0, none⟩) (i + L2) (i + L2)) l := hown.row
      have hcut := trim_any _ _ wr hrow hl.out.2.1
      rw [hl.out.2.2, Nat.mod_eq_of_lt hmlt.out] at hcut
      have hcut' := Lib.hid hcut
      clear hown hcut hrow
      go_wp2_with fail
      refine hcut'.out.mono ?_
      rintro e w' ⟨⟨v, rfl, hL⟩, j, rfl⟩
      have hL' := Lib.hid hL
      clear hL
      go_wp2
      go_ret
      exact ⟨_, rfl, hL'.out.keep (below_drewN (Below.refl _ _) j), below_drewN bel j⟩
end Go.Proofs.YtiddhnnofpbopaaDoor

/- divideByWord of the project: a long number divided by one word. Conditions: the word is not 0; fewer than 10^12 words. -/
namespace Go.Proofs.YtiddhnnofpbopaaDoor
open Go.RowKit Go.Deep
set_option linter.unusedVariables false

theorem shortw_round (m y k : Nat) (hy : 0 < y) (hyB : y < W32) : ∃ G : Nat,
    bits .or .u64 (((m / W32 ^ (k + 1) % y : Nat) : Int) * 4294967296) (dgt W32 m k : Int) = (G : Int) ∧ G / y = dgt W32 (m / y) k ∧ G % y = m / W32 ^ k % y ∧ G < 18446744073709551616 := by
  obtain ⟨h1, h2⟩ := short_step w32 m k hy
  have h3 := Nat.mod_lt (m / W32 ^ (k + 1)) hy
  have h4 := dgt_lt w32 m k
  generalize m / W32 ^ (k + 1) % y = r at *
  generalize dgt W32 m k = x at *
  refine ⟨r * W32 + x, ?_, h1, h2, ?_⟩
  · have e := bits_or_u64_nat (r * 4294967296) x (by simp only [W32] at hyB; omega) (by simp only [W32] at h4; omega)
    rw [show ((r : Int) * 4294967296) = ((r * 4294967296 : Nat) : Int) by omega, e, show r * 4294967296 = r * 2 ^ 32 by rfl, or_low r x 32 h4]
  · simp only [W32] at *; omega

set_option maxRecDepth 100000 in
set_option maxHeartbeats 4000000 in
theorem divideByWord_any (a : Value) (m y : Nat) (w : World) (ha : LongI w a m) (hy : 0 < y) (hyB : y < 4294967296) (sm : dlen W32 m ≤ 1000000000000) :
    Calls Tryd.prog 38 #[a, .int .u32 (y : Int)] w fun e w' => ∃ v, e = .returned (.tuple #[v, .int .u32 (m % y : Nat)]) ∧ LongI w' v (m / y) ∧ Below w.heap.size w w' := by
  obtain ⟨hm1, a1, cap1, rfl⟩ := ha.len
  unfold maxLen at hm1
  have hA := fun h => ha.at h
  have hrd := Lib.hid (fun k => shortw_round m y k hy hyB)
  have hbm := Lib.hid (fun k => And.intro (dgt_lt w32 m k) (And.intro (Nat.mod_lt (m / W32 ^ k) hy) (And.intro (dgt_lt w32 (m / y) k) (Nat.mod_lt (m / W32 ^ (k + 1)) hy))))
  have hval := Lib.hid (show val W32 (dgs W32 (m / y) (dlen W32 m)) = m / y from val_dgs_small (Nat.lt_of_le_of_lt (Nat.div_le_self m y) (lt_dlen w32 m)))
  have h00 := Lib.hid (show m / W32 ^ dlen W32 m % y = 0 by rw [Nat.div_eq_of_lt (lt_dlen w32 m), Nat.zero_mod])
  have hmk := run_make_row' (P := Tryd.prog) 47 61 (.int .u32 0) 4 Tryd.underlying47 word_info rfl .i64 .i64 (dlen W32 m) (by omega) (by omega)
  clear ha
  generalize hL1 : dlen W32 m = L at hm1 hA sm hval hmk h00 ⊢
  replace hL1 := Lib.hid hL1
  have hy0 : ((y : Int) == 0) = false := by simp; omega
  have hy1 : ¬ (y : Int) = 0 := by omega
  go_enter Tryd.func38, Tryd.ntmps38
  go_wp2
  go_loopw [7, 8] (fun rv i wr => ∃ k : Nat, k ≤ L ∧ i = .int .i64 ((k : Int) - 1) ∧ rv = .int .u64 (m / W32 ^ k % y : Nat) ∧ Own wr w.heap.size (w.heap.size + 1) 61 (.slice (some ⟨w.heap.size, 0, none⟩) L L) (u32s (shL W32 (m / y) L k)) ∧ Below w.heap.size w wr) (fun _ i _ => (intOf i + 1).toNat)
  case atStart =>
    refine ⟨L, Nat.le_refl _, by go_num, by rw [h00.out]; rfl, ?_, (Below.refl _ _).alloc (Nat.le_refl _) _⟩
    have := Own.made w (.int .u32 0) L 61 (by unfold maxLen; omega)
    rw [shL_full]
    simpa [u32s] using this
  case round =>
    obtain ⟨k, hk, rfl, rfl, hown, bel⟩ := hrel
    have hown' := Lib.hid hown
    rcases Nat.eq_zero_or_pos k with rfl | hpos
    · have hrow : Wd wr (.slice (some ⟨w.heap.size, 0, none⟩) L L) (dgs W32 (m / y) L) := by
        have := hown.row
        rw [shL_zero] at this
        have e : (u32s (dgs W32 (m / y) L)).length = L := by rw [u32s_length, dgs_length]
        exact this
      have hcut := trim_any _ _ wr hrow (dgs_lt w32 _ _)
      rw [hval.out] at hcut
      have hcut' := Lib.hid hcut
      have hm0 : ((m / W32 ^ 0 % y : Nat) : Int) = ((m % y : Nat) : Int) := by simp
      rw [hm0]
      have hmy := Nat.mod_lt m hy
      have hwr : ((m % y : Nat) : Int) % 4294967296 = ((m % y : Nat) : Int) := by omega
      generalize hmr : m % y = r at hwr hmy ⊢
      replace hmr := Lib.hid hmr
      clear hown hcut hm0
      go_wp2_with fail
      refine hcut'.out.mono ?_
      rintro e w' ⟨⟨v, rfl, hL⟩, j, rfl⟩
      have hL' := Lib.hid hL
      clear hL
      go_wp2
      go_ret2
      exact ⟨_, by rw [hmr.out]; rfl, hL'.out.keep (below_drewN (Below.refl _ _) j), below_drewN bel j⟩
    · obtain ⟨k, rfl⟩ : ∃ k', k = k' + 1 := ⟨k - 1, by omega⟩
      have hi : (((k + 1 : Nat) : Int) - 1) = (k : Int) := by omega
      rw [hi]
      obtain ⟨b1, o1, c1, hv1, hl1, hc1⟩ := hA (by omega)
      simp only [Value.slice.injEq] at hv1
      obtain ⟨rfl, -, rfl⟩ := hv1
      have q1 := (bel.cell hl1).trans (hc1 k (by omega))
      obtain ⟨g, cap'', hg, -, -, -, hcg, hfg⟩ := hown.at (by rw [u32s_length, shL_length]; omega)
      simp only [Value.slice.injEq, Option.some.injEq, Addr.mk.injEq, and_true] at hg
      obtain ⟨rfl, -, -⟩ := hg
      have hcg' := hcg k (by rw [u32s_length, shL_length]; omega)
      have hfg' := hfg k
      obtain ⟨G, z0, z1, z2, z3⟩ := hrd.out k
      obtain ⟨w1, w2, w3, w4⟩ := hbm.out k
      have hset := Lib.hid (shL_set W32 (m / y) L k)
      have hsz := bel.size
      simp only [show W32 = 4294967296 from rfl] at w1 w3
      clear hc1 hcg hfg hown hi
      generalize m / W32 ^ (k + 1) % y = r at z0 w4 ⊢
      generalize hr' : m / W32 ^ k % y = r' at z2 w2
      replace hr' := Lib.hid hr'
      generalize dgt W32 m k = x at q1 z0 w1
      generalize dgt W32 (m / y) k = d at z1 w3 hset
      generalize (u32s (shL W32 (m / y) L (k + 1))).getD k undef = old at hcg'
      have y1 : (G : Int) / (y : Int) = (d : Int) := by rw [← z1]; simp
      have y2 : (G : Int) % (y : Int) = (r' : Int) := by rw [← z2]; simp
      have y3 : (G : Int).tdiv (y : Int) = (d : Int) := by rw [Int.tdiv_eq_ediv_of_nonneg (by omega)]; exact y1
      have y4 : (G : Int).tmod (y : Int) = (r' : Int) := by rw [Int.tmod_eq_emod_of_nonneg (by omega)]; exact y2
      have v0 : r < 4294967296 := by omega
      have v1 : r' < 4294967296 := by omega
      clear z1 z2
      go_wp2
      go_roundw
      case rel =>
        refine ⟨k, by omega, by go_num, by rw [hr'.out], ?_, bel.setCell (Nat.le_refl _) _⟩
        have := hown'.out.set k (.int .u32 (d : Int))
        rw [u32s_set, hset.out] at this
        exact this
      case measure => simp [intOf]
end Go.Proofs.YtiddhnnofpbopaaDoor

/- shiftUp of the project: a long number times a power of two, in memory of its own. Conditions: fewer than 10^12 words; the shift is less than 32. -/
namespace Go.Proofs.YtiddhnnofpbopaaDoor
open Go.RowKit Go.Deep
set_option linter.unusedVariables false

theorem Own.pre {w : World} {lo hi : Nat} {e : TypeId} {g cap len : Nat} {vs : List Value} (h : Own w lo hi e (.slice (some ⟨g, 0, none⟩) len cap) vs) (n : Nat) (hn : n ≤ vs.length) : Own w lo hi e (.slice (some ⟨g, 0, none⟩) n cap) (vs.take n) := by
  obtain ⟨ho, hm, hk⟩ := h
  have hl : (vs.take n).length = n := by simp; omega
  rcases ho.2 with ⟨hv, h0⟩ | ⟨g', cap', cur, hv, hg, hh, hnc, hc, hs, ht⟩
  · cases hv
  · cases hv
    refine ⟨⟨by omega, Or.inr ⟨g, cap, cur, by rw [hl], hg, hh, by omega, hc, hs, ?_⟩⟩, by omega, hk⟩
    rw [hl]
    simp only [Nat.mul_one] at ht ⊢
    rw [← ht, List.take_take, Nat.min_eq_left hn]
theorem two_pow_cast (s : Nat) : ((2 ^ s : Nat) : Int) = (2 : Int) ^ s := by simp
theorem pow_lt32 {s : Nat} (h : s < 32) : 2 ^ s ≤ 2147483648 := by
  have := Nat.pow_le_pow_right (n := 2) (by omega) (show s ≤ 31 by omega)
  simpa using this
theorem shift_round (m s k : Nat) (hs : s < 32) : ∃ G : Nat, bits .or .u64 (scarry W32 m (2 ^ s) k : Int) (IntKind.u64.wrap ((dgt W32 m k : Int) * 2 ^ s)) = (G : Int) ∧ (G : Int) % 4294967296 = (dgt W32 (m * 2 ^ s) k : Int) ∧ (G : Int) / 4294967296 = (scarry W32 m (2 ^ s) (k + 1) : Int) := by
  obtain ⟨h1, h2⟩ := scale_step w32 m (2 ^ s) k
  have h3 := scarry_le w32 m (2 ^ s) k
  have h4 := dgt_lt w32 m k
  have h5 := Nat.two_pow_pos s
  have h6 := pow_lt32 hs
  generalize scarry W32 m (2 ^ s) k = c at *
  generalize dgt W32 m k = x at *
  have e : ((x : Int) * 2 ^ s) = ((x * 2 ^ s : Nat) : Int) := by rw [Int.natCast_mul, two_pow_cast]
  have hx : x * 2 ^ s ≤ 4294967295 * 2147483648 := Nat.mul_le_mul (by simp only [W32] at h4; omega) h6
  have e2 : IntKind.u64.wrap ((x : Int) * 2 ^ s) = ((x * 2 ^ s : Nat) : Int) := by rw [e, IntKind.wrap_u64]; omega
  have e3 := bits_or_u64_nat c (x * 2 ^ s) (by omega) (by omega)
  refine ⟨c + x * 2 ^ s, by rw [e2, e3, or_low' x c s (by omega)], ?_, ?_⟩
  · rw [h1]; simp only [W32]; omega
  · rw [h2]; simp only [W32]; omega

set_option maxRecDepth 100000 in
set_option maxHeartbeats 4000000 in
theorem shiftUp_own (a : Value) (m s : Nat) (w : World) (ha : LongI w a m) (hs : s < 32) (sm : dlen W32 m ≤ 1000000000000) :
    Calls Tryd.prog 61 #[a, .int .i64 (s : Int)] w fun e w' => e = .returned (.slice (some ⟨w.heap.size, 0, none⟩) (dlen W32 (m * 2 ^ s)) (dlen W32 m + 1)) ∧ Own w' w.heap.size (w.heap.size + 1) 61 (.slice (some ⟨w.heap.size, 0, none⟩) (dlen W32 (m * 2 ^ s)) (dlen W32 m + 1)) (u32s (dgs W32 (m * 2 ^ s) (dlen W32 (m * 2 ^ s)))) ∧ LongI w' (.slice (some ⟨w.heap.size, 0, none⟩) (dlen W32 (m * 2 ^ s)) (dlen W32 m + 1)) (m * 2 ^ s) ∧ Below w.heap.size w w' := by
  obtain ⟨hm1, a1, cap1, rfl⟩ := ha.len
  unfold maxLen at hm1
  have hA := fun h => ha.at h
  have hrd := Lib.hid (fun k => shift_round m s k hs)
  have hbm := Lib.hid (fun k => And.intro (dgt_lt w32 m k) (scarry_le w32 m (2 ^ s) k))
  have hend := Lib.hid (scarry_end (lt_dlen w32 m) (show 2 ^ s ≤ W32 by have := pow_lt32 hs; simp only [W32]; omega) w32)
  have hp := pow_lt32 hs
  have hp0 := Nat.two_pow_pos s
  have hdl := Lib.hid (dlen_le w32 hend.out.2)
  have hmk := run_make_row' (P := Tryd.prog) 47 61 (.int .u32 0) 4 Tryd.underlying47 word_info rfl .i64 .i64 (dlen W32 m + 1) (by omega) (by omega)
  rw [Int.natCast_add, Int.natCast_one] at hmk
  clear ha
  generalize hL1 : dlen W32 m = L at hm1 hA sm hmk hend hdl ⊢
  replace hL1 := Lib.hid hL1
  go_enter Tryd.func61, Tryd.ntmps61
  go_wp2
  go_loopw [6, 15] (fun cv i wr => ∃ (k : Nat), k ≤ L ∧ i = .int .i64 (k : Int) ∧ cv = .int .u64 (scarry W32 m (2 ^ s) k : Nat) ∧ Own wr w.heap.size (w.heap.size + 1) 61 (.slice (some ⟨w.heap.size, 0, none⟩) (L + 1) (L + 1)) (u32s (dz W32 (m * 2 ^ s) k (L + 1))) ∧ Below w.heap.size w wr) (fun _ i _ => L - (intOf i).toNat)
  case atStart =>
    refine ⟨0, Nat.zero_le _, rfl, by rw [scarry_zero]; rfl, ?_, (Below.refl _ _).alloc (Nat.le_refl _) _⟩
    have := Own.made w (.int .u32 0) (L + 1) 61 (by unfold maxLen; omega)
    rw [dz_zero]
    simpa [u32s] using this
  case round =>
    obtain ⟨k, hk, rfl, rfl, hown, bel⟩ := hrel
    have hown' := Lib.hid hown
    have hsz := bel.size
    obtain ⟨g, cap'', hg, -, -, -, hcg, hfg⟩ := hown.at (by rw [u32s_length, dz_length _ _ _ _ (by omega)]; omega)
    simp only [Value.slice.injEq, Option.some.injEq, Addr.mk.injEq, and_true] at hg
    obtain ⟨rfl, -, -⟩ := hg
    have hcg' := hcg k (by rw [u32s_length, dz_length _ _ _ _ (by omega)]; omega)
    have hfg' := hfg k
    have hset := Lib.hid (dz_set W32 (m * 2 ^ s) k (L + 1) (by omega))
    generalize (u32s (dz W32 (m * 2 ^ s) k (L + 1))).getD k undef = old at hcg'
    clear hcg hfg hown
    by_cases hlt : k < L
    · obtain ⟨b1, o1, c1, hv1, hl1, hc1⟩ := hA (by omega)
      simp only [Value.slice.injEq] at hv1
      obtain ⟨rfl, -, rfl⟩ := hv1
      have q1 := (bel.cell hl1).trans (hc1 k (by omega))
      obtain ⟨G, z0, z1, z2⟩ := hrd.out k
      obtain ⟨w1, w2⟩ := hbm.out k
      simp only [show W32 = 4294967296 from rfl] at w1
      clear hc1
      generalize hcc : scarry W32 m (2 ^ s) (k + 1) = c' at z2
      replace hcc := Lib.hid hcc
      generalize dgt W32 m k = x at q1 z0 w1
      generalize dgt W32 (m * 2 ^ s) k = d at z1 hset
      generalize scarry W32 m (2 ^ s) k = c at z0 w2 ⊢
      have wc : c < 4294967296 := by omega
      clear w2 hp hp0
      go_wp2
      go_roundw
      case rel =>
        refine ⟨k + 1, by omega, by go_num, by rw [hcc.out], ?_, bel.setCell (Nat.le_refl _) _⟩
        have := hown'.out.set k (.int .u32 (d : Int))
        rw [u32s_set, hset.out] at this
        exact this
      case measure => simp [intOf]; omega
    · obtain rfl : k = L := by omega
      obtain ⟨e1, e2⟩ := hend.out
      have w2 := (hbm.out k).2
      rw [← e1] at hset
      have hT := Lib.hid (fun (W : World) (h : Own W w.heap.size (w.heap.size + 1) 61 (.slice (some ⟨w.heap.size, 0, none⟩) (k + 1) (k + 1)) (u32s (dz W32 (m * 2 ^ s) (k + 1) (k + 1)))) => by
        rw [dz_all] at h
        have h2 : Wd W (.slice (some ⟨w.heap.size, 0, none⟩) (dgs W32 (m * 2 ^ s) (k + 1)).length (k + 1)) (dgs W32 (m * 2 ^ s) (k + 1)) := by rw [dgs_length]; exact h.row
        have h3 := trim_at _ _ _ W h2 (dgs_lt w32 _ _)
        rw [val_dgs_small e2, dgs_length] at h3
        have h4 := h.pre (dlen W32 (m * 2 ^ s)) (by rw [u32s_length, dgs_length]; exact hdl.out)
        exact And.intro h3 h4)
      clear e1 e2
      generalize scarry W32 m (2 ^ s) k = c at hset w2 ⊢
      have hwr : ((c : Nat) : Int) % 4294967296 = (c : Int) := by omega
      clear w2 hp hp0
      go_wp2_with fail
      have hown2 := hown'.out.set k (.int .u32 (c : Int))
      rw [u32s_set, hset.out] at hown2
      obtain ⟨hT1, hT2⟩ := hT.out _ hown2
      have hT2' := Lib.hid hT2
      clear hT2
      refine hT1.mono ?_
      rintro e w' ⟨rfl, hL, j, rfl⟩
      have hL' := Lib.hid hL
      clear hL hown2 hT1
      have htk := Lib.hid (show (u32s (dgs W32 (m * 2 ^ s) (k + 1))).take (dlen W32 (m * 2 ^ s)) = u32s (dgs W32 (m * 2 ^ s) (dlen W32 (m * 2 ^ s))) by
        simp only [u32s, ← List.map_take, dgs, List.take_range]
        rw [Nat.min_eq_left hdl.out])
      go_wp2
      go_ret
      exact ⟨rfl, by rw [← htk.out]; exact hT2'.out.keep (B := w.heap.size + 1) (Nat.le_refl _) (below_drewN (Below.refl _ _) j), hL'.out.keep (below_drewN (Below.refl _ _) j), below_drewN (bel.setCell (Nat.le_refl _) _) j⟩
end Go.Proofs.YtiddhnnofpbopaaDoor

/- window and shiftDown of the project: 64 bits of a long number from any bit on; a long number divided by a power of two. Conditions: the place of the bit is below 2^40; the shift is less than 32. -/
namespace Go.Proofs.YtiddhnnofpbopaaDoor
open Go.RowKit Go.Deep
set_option linter.unusedVariables false

theorem dgt_val (l : List Nat) (hd : ∀ x ∈ l, x < W32) (j : Nat) : dgt W32 (val W32 l) j = l.getD j 0 := by
  have h1 := val_lt w32 l hd
  rcases Nat.lt_or_ge j l.length with h | h
  · have h2 := congrArg (fun z : List Nat => z.getD j 0) (eq_dgs w32 l hd)
    rw [dgs_getD _ _ _ _ h] at h2
    exact h2.symm
  · rw [dgt_big (Nat.lt_of_lt_of_le h1 (Nat.pow_le_pow_right (by decide) h))]
    simp [List.getD, List.getElem?_eq_none h]

theorem window_or {lo x s t R : Nat} (l1 : lo < 18446744073709551616) (hs : s < 32) (e2 : lo / 2 ^ s < 2 ^ (64 - s)) (e3 : x * 2 ^ (64 - s) % 18446744073709551616 = t * 2 ^ (64 - s)) (e1 : lo / 2 ^ s + x * 2 ^ (64 - s) % 18446744073709551616 = R) :
    bits .or .u64 ((lo : Int) / 2 ^ s) (IntKind.u64.wrap ((x : Int) * 2 ^ (64 - s))) = (R : Int) := by
  have h1 : (lo : Int) / 2 ^ s = ((lo / 2 ^ s : Nat) : Int) := by simp
  have h2 : IntKind.u64.wrap ((x : Int) * 2 ^ (64 - s)) = ((x * 2 ^ (64 - s) % 18446744073709551616 : Nat) : Int) := by
    rw [show ((x : Int) * 2 ^ (64 - s)) = ((x * 2 ^ (64 - s) : Nat) : Int) by simp, IntKind.wrap_u64]
    omega
  have h3 := Nat.div_le_self lo (2 ^ s)
  have h4 := bits_or_u64_nat (lo / 2 ^ s) (x * 2 ^ (64 - s) % 18446744073709551616) (by omega) (Nat.mod_lt _ (by omega))
  rw [h1, h2, h4, e3, or_low' _ _ _ e2, ← e3, e1]
theorem window_or0 {lo s R : Nat} (l1 : lo < 18446744073709551616) (hs : s < 32) (e1 : lo / 2 ^ s + 0 * 2 ^ (64 - s) % 18446744073709551616 = R) :
    bits .or .u64 ((lo : Int) / 2 ^ s) 0 = (R : Int) := by
  have h1 : (lo : Int) / 2 ^ s = ((lo / 2 ^ s : Nat) : Int) := by simp
  have h3 := Nat.div_le_self lo (2 ^ s)
  have h4 := bits_or_u64_nat (lo / 2 ^ s) 0 (by omega) (by omega)
  rw [h1, show (0 : Int) = ((0 : Nat) : Int) from rfl, h4, Nat.or_zero, ← e1]
  simp

set_option maxRecDepth 100000 in
set_option maxHeartbeats 4000000 in
theorem window_any (v : Value) (l : List Nat) (f s : Nat) (w : World) (hv : Wd w v l) (hd : ∀ x ∈ l, x < W32) (hs : s < 32) (hf : f < 1099511627776) :
    Calls Tryd.prog 48 #[v, .int .i64 (((32 * f + s : Nat)) : Int)] w fun e w' => e = .returned (.int .u64 (val W32 l / 2 ^ (32 * f + s) % 18446744073709551616 : Nat)) ∧ ∃ k, w' = w.drewN k := by
  obtain ⟨hm1, a1, cap1, rfl⟩ := hv.len
  unfold maxLen at hm1
  have hA := fun h => hv.at h
  have g0 := dgt_val l hd f
  have g1 := dgt_val l hd (f + 1)
  have g2 := dgt_val l hd (f + 2)
  have l0 := dgt_lt w32 (val W32 l) f
  have l1 := dgt_lt w32 (val W32 l) (f + 1)
  have l2 := dgt_lt w32 (val W32 l) (f + 2)
  obtain ⟨e1, e2, t, e3⟩ := window_eq (val W32 l) f s hs
  rw [g0] at l0 e1 e2
  rw [g1] at l1 e1 e2
  rw [g2] at l2 e1 e3
  have hq : (((32 * f + s : Nat)) : Int).tdiv 32 = (f : Int) := by rw [Int.tdiv_eq_ediv_of_nonneg (by omega)]; omega
  have hr : (((32 * f + s : Nat)) : Int).tmod 32 = (s : Int) := by rw [Int.tmod_eq_emod_of_nonneg (by omega)]; omega
  generalize hF : 32 * f + s = F at e1 hq hr ⊢
  have hF2 : F < 1099511627776 * 33 := by omega
  simp only [show W32 = 4294967296 from rfl] at l0 l1 l2 e2 e1
  generalize val W32 l / 2 ^ F % 18446744073709551616 = R at e1 ⊢
  replace e1 := Lib.hid e1
  clear hv hF g0 g1 g2
  go_enter Tryd.func48, Tryd.ntmps48
  rcases Nat.lt_or_ge f l.length with h0 | h0
  · obtain ⟨b1, o1, c1, hv1, hl1, hc1⟩ := hA (by omega)
    simp only [Value.slice.injEq] at hv1
    obtain ⟨rfl, -, rfl⟩ := hv1
    have q0 := hc1 f h0
    generalize l.getD f 0 = x0 at *
    rcases Nat.lt_or_ge (f + 1) l.length with h1 | h1
    · have q1 := hc1 (f + 1) h1
      generalize l.getD (f + 1) 0 = x1 at *
      have hor : bits .or .u64 (x0 : Int) ((x1 : Int) * 4294967296) = ((x0 + 4294967296 * x1 : Nat) : Int) := by
        have e := bits_or_u64_nat x0 (x1 * 4294967296) (by omega) (by omega)
        rw [show ((x1 : Int) * 4294967296) = ((x1 * 4294967296 : Nat) : Int) by omega, e, show x1 * 4294967296 = x1 * 2 ^ 32 by rfl, or_low' x1 x0 32 (by simpa using l0)]
        omega
      have llo : x0 + 4294967296 * x1 < 18446744073709551616 := by omega
      generalize x0 + 4294967296 * x1 = lo at *
      rcases Nat.lt_or_ge (f + 2) l.length with h2 | h2
      · have q2 := hc1 (f + 2) h2
        generalize l.getD (f + 2) 0 = x2 at *
        have hz := window_or llo hs e2 e3 e1.out
        clear hc1 hA e2 e3 llo
        generalize l.length = L at *
        go_wp2
        go_quiet (fail)
        go_wp2
        go_ret
        exact ⟨rfl, _, rfl⟩
      · have hx2 : l.getD (f + 2) 0 = 0 := by simp [List.getD, List.getElem?_eq_none h2]
        rw [hx2] at e1
        have hz := window_or0 llo hs e1.out
        clear hc1 hA e2 e3 llo hx2
        generalize l.length = L at *
        go_wp2
        go_quiet (fail)
        go_wp2
        go_ret
        exact ⟨rfl, _, rfl⟩
    · have hx1 : l.getD (f + 1) 0 = 0 := by simp [List.getD, List.getElem?_eq_none h1]
      have hx2 : l.getD (f + 2) 0 = 0 := by simp [List.getD, List.getElem?_eq_none (show l.length ≤ f + 2 by omega)]
      rw [hx2, hx1, Nat.mul_zero, Nat.add_zero] at e1
      have hz := window_or0 (show x0 < 18446744073709551616 by omega) hs e1.out
      have h2 : l.length ≤ f + 2 := by omega
      clear hc1 hA e2 e3 hx1 hx2
      generalize l.length = L at *
      go_wp2
      go_quiet (fail)
      go_wp2
      go_ret
      exact ⟨rfl, _, rfl⟩
  · have hx0 : l.getD f 0 = 0 := by simp [List.getD, List.getElem?_eq_none h0]
    have hx1 : l.getD (f + 1) 0 = 0 := by simp [List.getD, List.getElem?_eq_none (show l.length ≤ f + 1 by omega)]
    have hx2 : l.getD (f + 2) 0 = 0 := by simp [List.getD, List.getElem?_eq_none (show l.length ≤ f + 2 by omega)]
    rw [hx2, hx1, hx0] at e1
    have hR : R = 0 := by have := e1.out; simpa using this.symm
    subst hR
    have h1 : l.length ≤ f + 1 := by omega
    have h2 : l.length ≤ f + 2 := by omega
    clear hA e2 e3 hx1 hx2 hx0
    generalize l.length = L at *
    go_wp2
    go_quiet (fail)
    go_wp2
    go_ret
    exact ⟨rfl, _, rfl⟩

/-- a list of words divided by a power of two, word by word -/
theorem down_word (V s j : Nat) : V / 2 ^ (32 * j + s) % 18446744073709551616 % 4294967296 = dgt W32 (V / 2 ^ s) j := by
  have e0 : W32 ^ j = 2 ^ (32 * j) := by rw [show W32 = 2 ^ 32 by rfl, ← Nat.pow_mul]
  rw [dgt, e0, Nat.div_div_eq_div_mul, Nat.add_comm, Nat.pow_add]
  exact Nat.mod_mod_of_dvd _ (by decide)

set_option maxRecDepth 100000 in
set_option maxHeartbeats 4000000 in
theorem shiftDown_any (v : Value) (l : List Nat) (s : Nat) (w : World) (hv : Wd w v l) (hd : ∀ x ∈ l, x < W32) (hs : s < 32) (sm : l.length ≤ 10000000000) :
    Calls Tryd.prog 63 #[v, .int .i64 (s : Int)] w fun e w' => ∃ v', e = .returned v' ∧ LongI w' v' (val W32 l / 2 ^ s) ∧ Below w.heap.size w w' := by
  obtain ⟨hm1, a1, cap1, rfl⟩ := hv.len
  unfold maxLen at hm1
  have hdw := Lib.hid (down_word (val W32 l) s)
  have hbm := Lib.hid (dgt_lt w32 (val W32 l / 2 ^ s))
  have hend := Lib.hid (val_dgs_small (Nat.lt_of_le_of_lt (Nat.div_le_self (val W32 l) (2 ^ s)) (val_lt w32 l hd)))
  have hwin := Lib.hid (fun (f : Nat) (W : World) (h : Below w.heap.size w W) (hf : f < 1099511627776) => window_any _ l f s W (hv.keep h) hd hs hf)
  have hmk := run_make_row' (P := Tryd.prog) 47 61 (.int .u32 0) 4 Tryd.underlying47 word_info rfl .i64 .i64 l.length (by omega) (by omega)
  clear hv
  generalize hL1 : l.length = L at hm1 sm hmk hend hwin ⊢
  clear hL1
  generalize val W32 l = V at *
  go_enter Tryd.func63, Tryd.ntmps63
  go_wp2
  go_loopw [12] (fun i wr => ∃ (k : Nat), k ≤ L ∧ i = .int .i64 (k : Int) ∧ Own wr w.heap.size (w.heap.size + 1) 61 (.slice (some ⟨w.heap.size, 0, none⟩) L L) (u32s (dz W32 (V / 2 ^ s) k L)) ∧ Below w.heap.size w wr) (fun i _ => L - (intOf i).toNat)
  case atStart =>
    refine ⟨0, Nat.zero_le _, rfl, ?_, (Below.refl _ _).alloc (Nat.le_refl _) _⟩
    have := Own.made w (.int .u32 0) L 61 (by unfold maxLen; omega)
    rw [dz_zero]
    simpa [u32s] using this
  case round =>
    obtain ⟨k, hk, rfl, hown, bel⟩ := hrel
    have hown' := Lib.hid hown
    have hsz := bel.size
    by_cases hlt : k < L
    · obtain ⟨g, cap'', hg, -, -, hgs, hcg, hfg⟩ := hown.at (by rw [u32s_length, dz_length _ _ _ _ (by omega)]; omega)
      simp only [Value.slice.injEq, Option.some.injEq, Addr.mk.injEq, and_true] at hg
      obtain ⟨rfl, -, -⟩ := hg
      have hcg' := hcg k (by rw [u32s_length, dz_length _ _ _ _ (by omega)]; omega)
      have hfg' := hfg k
      have hset := Lib.hid (dz_set W32 (V / 2 ^ s) k L (by omega))
      generalize (u32s (dz W32 (V / 2 ^ s) k L)).getD k undef = old at hcg'
      clear hcg hfg hown
      have hcall := hwin.out k wr bel (by omega)
      have hd1 : ((V / 2 ^ (32 * k + s) % 18446744073709551616 : Nat) : Int) % 4294967296 = ((dgt W32 (V / 2 ^ s) k : Nat) : Int) := by rw [← hdw.out k]; omega
      have hR : V / 2 ^ (32 * k + s) % 18446744073709551616 < 18446744073709551616 := Nat.mod_lt _ (by omega)
      have ha : ((k : Int) * 32 + (s : Int)) = ((32 * k + s : Nat) : Int) := by omega
      generalize V / 2 ^ (32 * k + s) % 18446744073709551616 = R at *
      generalize hdd : dgt W32 (V / 2 ^ s) k = d at *
      generalize 32 * k + s = F at *
      clear hdd
      have hcall' := Lib.hid hcall
      clear hcall
      go_wp2_with fail
      refine hcall'.out.mono ?_
      rintro e w' ⟨rfl, j, rfl⟩
      go_wp2
      go_roundw
      case rel =>
        refine ⟨k + 1, by omega, by go_num, ?_, (below_drewN bel j).setCell (Nat.le_refl _) _⟩
        have := (hown'.out.keep (B := w.heap.size + 1) (Nat.le_refl _) (below_drewN (Below.refl _ wr) j)).set k (.int .u32 (d : Int))
        rw [u32s_set, hset.out] at this
        exact this
      case measure => simp [intOf]; omega
    · obtain rfl : k = L := by omega
      have hrow : Wd wr (.slice (some ⟨w.heap.size, 0, none⟩) k k) (dgs W32 (V / 2 ^ s) k) := by
        have := hown.row
        rw [dz_all] at this
        exact this
      have hT := trim_any _ _ wr hrow (dgs_lt w32 _ _)
      rw [hend.out] at hT
      have hT' := Lib.hid hT
      clear hT hown hrow
      go_wp2_with fail
      refine hT'.out.mono ?_
      rintro e w' ⟨⟨v, rfl, hL⟩, j, rfl⟩
      have hL' := Lib.hid hL
      clear hL
      go_wp2
      go_ret
      exact ⟨_, rfl, hL'.out.keep (below_drewN (Below.refl _ _) j), below_drewN bel j⟩
end Go.Proofs.YtiddhnnofpbopaaDoor
