/- OpsG: several texts in one (FAdd, Whole). Conditions: told in each. -/
import Derived.Test.YtiddhnnofpbopaaDoorDigG
/- AddFraction of both sides. Conditions: none but, of the project's, that strconv's table of powers lies as its text has it. -/
namespace Go.Proofs.YtiddhnnofpbopaaDoor
open Go.RowKit Go.Deep
set_option linter.unusedVariables false
set_option linter.unusedSimpArgs false

/-- what an operation on two fractions returns -/
def opR (ok bad : Bool) (N D : Nat) : ByteArray × ByteArray × Int :=
  match ok, bad with
  | false, _ => (⟨#[]⟩, ⟨#[]⟩, 1)
  | true, true => (⟨#[]⟩, ⟨#[]⟩, 4)
  | true, false => (toldN (N / Nat.gcd N D) (D / Nat.gcd N D), toldD (N / Nat.gcd N D) (D / Nat.gcd N D), toldC (N / Nat.gcd N D) (D / Nat.gcd N D))
def opV (r : ByteArray × ByteArray × Int) : Value := .tuple #[.agg #[.string r.1, .string r.2.1], .int .i64 r.2.2]
theorem frOk_den {n d : ByteArray} (h : frOk n d = true) : 0 < numV d := by
  unfold frOk at h
  simp only [Bool.and_eq_true] at h
  exact of_decide_eq_true h.2.2.1
theorem len_n9 {s : ByteArray} (h : numB s = true) : dlen B9 (numV s) ≤ 1000000 := Nat.le_trans (numV_len9 h) (by decide)
theorem len_n32 {s : ByteArray} (h : numB s = true) : dlen W32 (numV s) ≤ 1000000 := Nat.le_trans (numV_len h) (by decide)
theorem low9 {N D L : Nat} (h : dlen B9 N ≤ L) : dlen B9 (N / Nat.gcd N D) ≤ L := Nat.le_trans (dlen_mono b9 (Nat.div_le_self _ _)) h
theorem low9' {N D L : Nat} (h : dlen B9 D ≤ L) : dlen B9 (D / Nat.gcd N D) ≤ L := Nat.le_trans (dlen_mono b9 (Nat.div_le_self _ _)) h
theorem prod9 {a b : Nat} (h1 : dlen B9 a ≤ 300) (h2 : dlen B9 b ≤ 300) : dlen B9 (a * b) ≤ 1000 := by have := mul_dlen9 h1 h2; omega
theorem prod32 {a b : Nat} (h1 : dlen W32 a ≤ 300) (h2 : dlen W32 b ≤ 300) : dlen W32 (a * b) ≤ 1000 := by have := mul_dlen w32 h1 h2; omega
theorem no_digits {n : Nat} (h : dlen B9 n = 0) : n = 0 := by
  have := lt_dlen b9 n
  rw [h, Nat.pow_zero] at this; omega
set_option maxHeartbeats 2000000 in
theorem isZero_any (a : Value) (N : Nat) (w : World) (ha : LongI w a N) :
    Calls Tryd.prog 37 #[a] w fun e w' => e = .returned (.bool (decide (N = 0))) ∧ Below w.heap.size w w' := by
  obtain ⟨_, a0, k0, rfl⟩ := ha.len
  have h : ((dlen W32 N : Int) == 0) = decide (N = 0) := by
    by_cases h0 : N = 0
    · rw [h0, dlen_zero]; rfl
    · have : ¬ dlen W32 N = 0 := fun e => h0 (no_words e)
      rw [decide_eq_false h0]; simp; omega
  clear ha
  generalize decide (N = 0) = Z at *
  generalize dlen W32 N = L at *
  go_enter Tryd.func37, Tryd.ntmps37
  go_wp2
  go_ret
  exact ⟨by first | rfl | rw [h], Below.refl _ _⟩
theorem sum9 {a b : Nat} (h1 : dlen B9 a ≤ 1000) (h2 : dlen B9 b ≤ 1000) : dlen B9 (a + b) ≤ 2000 := by have := plus_len b9 h1 h2; omega
theorem sum32 {a b : Nat} (h1 : dlen W32 a ≤ 1000) (h2 : dlen W32 b ≤ 1000) : dlen W32 (a + b) ≤ 2000 := by have := plus_len w32 h1 h2; omega
theorem gap9 {a b : Nat} (h1 : dlen B9 a ≤ 1000) : dlen B9 (a - b) ≤ 2000 := by have := dlen_mono b9 (Nat.sub_le a b); omega
theorem gap32 {a b : Nat} (h1 : dlen W32 a ≤ 1000) : dlen W32 (a - b) ≤ 2000 := by have := dlen_mono w32 (Nat.sub_le a b); omega

end Go.Proofs.YtiddhnnofpbopaaDoor

/- l01Whole and l01Small of the specification, and FractionOf of both sides. Conditions: told by the code. -/
namespace Go.Proofs.YtiddhnnofpbopaaDoor
open Go.RowKit Go.Deep
set_option linter.unusedVariables false
set_option linter.unusedSimpArgs false

theorem three_ints (w : World) (x y z : Nat) : Ints (w.alloc (.cells #[.int .i64 (x : Int), .int .i64 (y : Int), .int .i64 (z : Int)] 2)) (.slice (some ⟨w.heap.size, 0, none⟩) 3 3) (nats [x, y, z]) := by
  have hB := Blk.new w #[.int .i64 (x : Int), .int .i64 (y : Int), .int .i64 (z : Int)] 2
  refine ⟨by unfold maxLen; simp [nats, ints], _, 3, rfl, ⟨by simp [nats, ints], by unfold maxLen; omega⟩, fun i hi => ⟨_, 0, rfl, ?_⟩⟩
  simp only [nats, ints, List.map_cons, List.map_nil, List.length_cons, List.length_nil] at hi
  have : i = 0 ∨ i = 1 ∨ i = 2 := by omega
  rcases this with rfl | rfl | rfl
  · exact hB.cell 0
  · exact hB.cell 1
  · exact hB.cell 2

theorem LongS.setBlk {w : World} {v : Value} {n b : Nat} {cs : Array Value} {t : TypeId} (h : LongS w v n) (hB : Blk w b cs t) (hno : ∀ (j : Nat) (x : Int), cs[j]? ≠ some (.int .i64 x)) (j : Nat) (u : Value) : LongS (w.setCell ⟨b, j, none⟩ u) v n := by
  obtain ⟨hm, a, cap, rfl, hk, hc⟩ := h
  refine ⟨hm, a, cap, rfl, hk, fun i hi => ?_⟩
  obtain ⟨b', off, ha, hcell⟩ := hc i hi
  refine ⟨b', off, ha, ?_⟩
  have hne : b' ≠ b := by
    rintro rfl
    rw [hB.cell] at hcell
    have hi' : i < (longS n).length := by simpa [ints] using hi
    rw [ints_getD (longS n) i hi'] at hcell
    exact hno _ _ hcell
  rw [World.cell?_of_block (w := w) (Below.heap_setCell w ⟨b, j, none⟩ u b' hne)]
  exact hcell
theorem no_int2 {v1 : Bool} {a : Option Addr} {l c : Nat} : ∀ (j : Nat) (x : Int), (#[Value.bool v1, .slice a l c])[j]? ≠ some (.int .i64 x)
  | 0, x, h => by simp at h
  | 1, x, h => by simp at h
  | j + 2, x, h => by simp at h

/-- what FractionOf returns -/
def ofR (a b : Int) : ByteArray × ByteArray × Int :=
  if 0 ≤ a ∧ 1 ≤ b then (toldN (a.toNat / Nat.gcd a.toNat b.toNat) (b.toNat / Nat.gcd a.toNat b.toNat), toldD (a.toNat / Nat.gcd a.toNat b.toNat) (b.toNat / Nat.gcd a.toNat b.toNat), toldC (a.toNat / Nat.gcd a.toNat b.toNat) (b.toNat / Nat.gcd a.toNat b.toNat))
  else (⟨#[]⟩, ⟨#[]⟩, 2)
theorem ofR_no {a b : Int} (h : ¬ (0 ≤ a ∧ 1 ≤ b)) : ofR a b = (⟨#[]⟩, ⟨#[]⟩, 2) := if_neg h
theorem ofR_yes {n d : Nat} (h : 0 < d) : ofR n d = (toldN (n / Nat.gcd n d) (d / Nat.gcd n d), toldD (n / Nat.gcd n d) (d / Nat.gcd n d), toldC (n / Nat.gcd n d) (d / Nat.gcd n d)) := by
  unfold ofR; rw [if_pos (by omega)]; rfl
theorem small9 {n : Nat} (h : n ≤ 9223372036854775807) (g : Nat) : dlen B9 (n / g) ≤ 10000000 := Nat.le_trans (dlen_mono b9 (Nat.div_le_self _ _)) (Nat.le_trans (dlen_le b9 (L := 3) (by simp only [B9]; omega)) (by decide))

theorem two64 {n : Nat} (h : n ≤ 9223372036854775807) : dlen W32 n ≤ 1000000 := Nat.le_trans (dlen_le w32 (L := 2) (by simp only [W32]; omega)) (by decide)
set_option maxRecDepth 100000 in
set_option maxHeartbeats 2000000 in
theorem FractionOf_impl (a b : Int) (w : World) (ha : -9223372036854775808 ≤ a ∧ a ≤ 9223372036854775807) (hb : -9223372036854775808 ≤ b ∧ b ≤ 9223372036854775807) (htab : Tab10 w) :
    Calls Tryd.prog 12 #[.int .i64 a, .int .i64 b] w fun e w' => e = .returned (opV (ofR a b)) ∧ Below w.heap.size w w' := by
  have hZ := Blk.new w #[.string ⟨#[]⟩, .string ⟨#[]⟩] 35
  have bel := below1 w (.cells #[.string ⟨#[]⟩, .string ⟨#[]⟩] 35)
  have htab' := Lib.hid htab
  clear htab
  by_cases h0 : 0 ≤ a
  · by_cases h1 : 1 ≤ b
    · obtain ⟨n, rfl⟩ : ∃ n : Nat, a = n := ⟨a.toNat, by omega⟩
      obtain ⟨d, rfl⟩ : ∃ d : Nat, b = d := ⟨b.toNat, by omega⟩
      have hn : n ≤ 9223372036854775807 := by omega
      have hd : d ≤ 9223372036854775807 := by omega
      have hd0 : 0 < d := by omega
      have hr := Lib.hid (ofR_yes (n := n) hd0)
      have hl1 := Lib.hid (fun W => longOf_any n W (by omega))
      have hl2 := Lib.hid (fun W => longOf_any d W (by omega))
      have hfr := Lib.hid (fun p q W hp hq ht => fraction_any p q n d W hp hq hd0 (two64 hn) (two64 hd) ht)
      have i1 : ¬ (n : Int) < 0 := by omega
      have i2 : ¬ (d : Int) ≤ 0 := by omega
      have w1 : IntKind.u64.wrap (n : Int) = (n : Int) := by rw [IntKind.wrap_u64]; omega
      have w2 : IntKind.u64.wrap (d : Int) = (d : Int) := by rw [IntKind.wrap_u64]; omega
      clear ha hb hn hd hd0 h0 h1
      go_enter Tryd.func12, Tryd.ntmps12
      go_wp2_with fail
      generalize hW : w.alloc _ = W at *
      clear hW
      (with_reducible refine (hl1.out _).mono ?_)
      rintro e u1 ⟨p, rfl, hp, b1⟩
      obtain ⟨_, pa, pc, rfl⟩ := hp.len
      have hp' := Lib.hid hp
      clear hp
      go_wp2_with fail
      (with_reducible refine (hl2.out _).mono ?_)
      rintro e u2 ⟨q, rfl, hq, b2⟩
      obtain ⟨_, qa, qc, rfl⟩ := hq.len
      have ht := Lib.hid (hfr.out _ _ u2 (hp'.out.keep b2) hq (htab'.out.keep (below_wt (below_wt bel b1) b2)))
      clear hq
      go_wp2_with fail
      (with_reducible refine ht.out.mono ?_)
      rintro e u3 ⟨rfl, b3⟩
      have b12 := below_wt (below_wt b1 b2) b3
      have hZ2 := hZ.keep b12 hZ.lt
      have z0 := hZ2.cell 0
      have z1 := hZ2.cell 1
      have f0 := hZ2.frozen 0
      have f1 := hZ2.frozen 1
      simp only [List.getElem?_toArray, List.getElem?_cons_zero, List.getElem?_cons_succ] at z0 z1
      have B2 := Lib.hid (below_wt bel b12)
      clear b1 b2 b3 b12 bel ht hZ hZ2 hfr
      generalize toldN (n / Nat.gcd n d) (d / Nat.gcd n d) = TN at *
      generalize toldD (n / Nat.gcd n d) (d / Nat.gcd n d) = TD at *
      generalize toldC (n / Nat.gcd n d) (d / Nat.gcd n d) = TC at *
      go_wp2
      refine bodyPost_ret (v := .tuple #[.agg #[.string TN, .string TD], .int .i64 TC]) (by simp [results, Tryd.results12, go_sem, z0, z1]) rfl ?_
      exact ⟨by rw [hr.out]; rfl, (B2.out.setCell (p := ⟨w.heap.size, 0, none⟩) (Nat.le_refl _) _).setCell (p := ⟨w.heap.size, 1, none⟩) (Nat.le_refl _) _⟩
    · have hr := Lib.hid (ofR_no (a := a) (b := b) (by omega))
      have i1 : ¬ a < 0 := by omega
      have i2 : b ≤ 0 := by omega
      clear h0 h1
      go_enter Tryd.func12, Tryd.ntmps12
      go_wp2
      refine bodyPost_ret (v := .tuple #[.agg #[.string ⟨#[]⟩, .string ⟨#[]⟩], .int .i64 2]) (by simp [results, Tryd.results12, go_sem]) rfl ?_
      exact ⟨by rw [hr.out]; rfl, bel⟩
  · have hr := Lib.hid (ofR_no (a := a) (b := b) (by omega))
    have i1 : a < 0 := by omega
    clear h0
    go_enter Tryd.func12, Tryd.ntmps12
    go_wp2
    refine bodyPost_ret (v := .tuple #[.agg #[.string ⟨#[]⟩, .string ⟨#[]⟩], .int .i64 2]) (by simp [results, Tryd.results12, go_sem]) rfl ?_
    exact ⟨by rw [hr.out]; rfl, bel⟩
end Go.Proofs.YtiddhnnofpbopaaDoor
