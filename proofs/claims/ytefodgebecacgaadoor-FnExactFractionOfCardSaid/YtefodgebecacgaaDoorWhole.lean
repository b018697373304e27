/- l01Whole and l01Small of the specification, and FractionOf of both sides. Conditions: told by the code. -/
import Derived.Test.YtefodgebecacgaaDoorFAdd
namespace Go.Proofs.YtefodgebecacgaaDoor
open Go.RowKit Go.Deep
set_option linter.unusedVariables false
set_option linter.unusedSimpArgs false

theorem three_ints (w : World) (x y z : Nat) : Ints (w.alloc (.cells #[.int .i64 (x : Int), .int .i64 (y : Int), .int .i64 (z : Int)] 2)) (.slice (some ⟨w.heap.size, 0, none⟩) 3 3) (nats [x, y, z]) := by
  have hB := Blk.new w #[.int .i64 (x : Int), .int .i64 (y : Int), .int .i64 (z : Int)] 2
  refine ⟨by unfold maxLen; simp [nats, ints], _, 3, rfl, ⟨by simp [nats, ints], by unfold maxLen; omega⟩, fun i hi => ⟨_, 0, rfl, ?_⟩⟩
  simp only [nats, ints, List.map_cons, List.map_nil, List.length_cons, List.length_nil] at hi
  have : i = 0 ∨ i = 1 ∨ i = 2 := by omega
  rcases this with rfl | rfl | rfl
  · exact hB.cell 0
  · exact hB.cell 1
  · exact hB.cell 2

theorem LongS.setBlk {w : World} {v : Value} {n b : Nat} {cs : Array Value} {t : TypeId} (h : LongS w v n) (hB : Blk w b cs t) (hno : ∀ (j : Nat) (x : Int), cs[j]? ≠ some (.int .i64 x)) (j : Nat) (u : Value) : LongS (w.setCell ⟨b, j, none⟩ u) v n := by
  obtain ⟨hm, a, cap, rfl, hk, hc⟩ := h
  refine ⟨hm, a, cap, rfl, hk, fun i hi => ?_⟩
  obtain ⟨b', off, ha, hcell⟩ := hc i hi
  refine ⟨b', off, ha, ?_⟩
  have hne : b' ≠ b := by
    rintro rfl
    rw [hB.cell] at hcell
    have hi' : i < (longS n).length := by simpa [ints] using hi
    rw [ints_getD (longS n) i hi'] at hcell
    exact hno _ _ hcell
  rw [World.cell?_of_block (w := w) (Below.heap_setCell w ⟨b, j, none⟩ u b' hne)]
  exact hcell
theorem no_int2 {v1 : Bool} {a : Option Addr} {l c : Nat} : ∀ (j : Nat) (x : Int), (#[Value.bool v1, .slice a l c])[j]? ≠ some (.int .i64 x)
  | 0, x, h => by simp at h
  | 1, x, h => by simp at h
  | j + 2, x, h => by simp at h

set_option maxRecDepth 100000 in
set_option maxHeartbeats 2000000 in
theorem l01Whole_any (n : Nat) (w : World) (hn : n ≤ 9223372036854775807) :
    Calls Tryd.prog 51 #[.int .i64 (n : Int)] w fun e w' => ∃ v, e = .returned (.agg #[.bool false, v]) ∧ LongS w' v n ∧ Below w.heap.size w w' := by
  have hr : (n : Int).tmod 1000000000 = ((n % 1000000000 : Nat) : Int) := by rw [Int.tmod_eq_emod_of_nonneg (by omega)]; rfl
  have hq : (n : Int).tdiv 1000000000 = ((n / 1000000000 : Nat) : Int) := by rw [Int.tdiv_eq_ediv_of_nonneg (by omega)]; rfl
  have hr2 : ((n / 1000000000 : Nat) : Int).tmod 1000000000 = ((n / 1000000000 % 1000000000 : Nat) : Int) := by rw [Int.tmod_eq_emod_of_nonneg (by omega)]; rfl
  have hq2 : ((n / 1000000000 : Nat) : Int).tdiv 1000000000 = ((n / 1000000000 / 1000000000 : Nat) : Int) := by rw [Int.tdiv_eq_ediv_of_nonneg (by omega)]; rfl
  have hv : val B9 [n % 1000000000, n / 1000000000 % 1000000000, n / 1000000000 / 1000000000] = n := by simp only [val, B9]; omega
  have hd : ∀ x ∈ [n % 1000000000, n / 1000000000 % 1000000000, n / 1000000000 / 1000000000], x < B9 := by
    intro x hx; simp only [B9]; simp at hx; rcases hx with rfl | rfl | rfl <;> omega
  have k1 : n / 1000000000 ≤ 9223372037 := by omega
  have k2 : n % 1000000000 < 1000000000 := by omega
  have k3 : n / 1000000000 % 1000000000 < 1000000000 := by omega
  have k4 : n / 1000000000 / 1000000000 ≤ 10 := by omega
  generalize n / 1000000000 % 1000000000 = y at *
  generalize n / 1000000000 / 1000000000 = z at *
  generalize n / 1000000000 = q at *
  generalize n % 1000000000 = x at *
  have hT := l01Cut_any _ [x, y, z] _ (three_ints (w.alloc (.cells #[.bool false, .slice none 0 0] 70)) x y z) hd
  rw [hv] at hT
  have hT' := Lib.hid hT
  have hZ := (Blk.new w #[.bool false, .slice none 0 0] 70).alloc (.cells #[.int .i64 (x : Int), .int .i64 (y : Int), .int .i64 (z : Int)] 2)
  have bel := below2 w (.cells #[.bool false, .slice none 0 0] 70) (.cells #[.int .i64 (x : Int), .int .i64 (y : Int), .int .i64 (z : Int)] 2)
  have hn' : n < 9223372036854775808 := by omega
  clear hT hd hv hn
  simp only [World.size_alloc] at hT'
  go_enter Tryd.func51, Tryd.ntmps51
  go_wp2_with fail
  generalize hW : (w.alloc _).alloc _ = W at *
  clear hW
  refine hT'.out.mono ?_
  rintro e w' ⟨⟨v, rfl, hL⟩, k, rfl⟩
  obtain ⟨_, va, vc, rfl⟩ := hL.len
  have bk := below_drewN (Below.refl W.heap.size W) k
  have hZ2 := hZ.keep bk hZ.lt
  have hL2 := hL.keep bk
  have B2 := below_wt bel bk
  have z0 := hZ2.cell 0
  have z1 := hZ2.cell 1
  have f0 := hZ2.frozen 0
  have f1 := hZ2.frozen 1
  simp only [List.getElem?_toArray, List.getElem?_cons_zero, List.getElem?_cons_succ] at z0 z1
  generalize W.drewN k = U at *
  have hf := Lib.hid ((hL2.setBlk hZ2 no_int2 0 (.bool false)).setBlk (hZ2.set 0 (.bool false)) no_int2 1 (.slice va (dlen B9 n) vc))
  have hb := Lib.hid ((B2.setCell (p := ⟨w.heap.size, 0, none⟩) (Nat.le_refl _) (.bool false)).setCell (p := ⟨w.heap.size, 1, none⟩) (Nat.le_refl _) (.slice va (dlen B9 n) vc))
  clear hL2 hL hZ hZ2 bk B2 bel
  go_wp2
  refine bodyPost_ret (v := .agg #[.bool false, .slice va (dlen B9 n) vc]) (by simp [results, Tryd.results51, go_sem, z0, z1]) rfl ?_
  exact ⟨_, rfl, hf.out, hb.out⟩

set_option maxRecDepth 100000 in
set_option maxHeartbeats 2000000 in
theorem l01Small_any (n d : Nat) (w : World) (hn : n ≤ 9223372036854775807) (hd : d ≤ 9223372036854775807) (hd0 : 0 < d) :
    Calls Tryd.prog 28 #[.int .i64 (n : Int), .int .i64 (d : Int)] w fun e w' => ∃ p q, e = .returned (.agg #[p, q]) ∧ LongS w' p (n / Nat.gcd n d) ∧ LongS w' q (d / Nat.gcd n d) ∧ Below w.heap.size w w' := by
  have sn : dlen B9 n ≤ 3 := dlen_le b9 (by simp only [B9]; omega)
  have sd : dlen B9 d ≤ 3 := dlen_le b9 (by simp only [B9]; omega)
  have h1 := Lib.hid (fun W => l01Whole_any n W hn)
  have h2 := Lib.hid (fun W => l01Whole_any d W hd)
  have hov := Lib.hid (fun a b W ha hb => l01Over_any a b n d W ha hb hd0 (by omega) (by omega))
  have hZ := Blk.new w #[.slice none 0 0, .slice none 0 0] 42
  have bel := below1 w (.cells #[.slice none 0 0, .slice none 0 0] 42)
  have hfd := Lib.hid (fun (a : Option Addr) (l c : Nat) (u : World) => (show (Instr.field 70 (.agg #[.bool false, .slice a l c]) 1).run Tryd.prog u = .ok (.slice a l c) u by kernel_rfl))
  generalize n / Nat.gcd n d = N at *
  generalize d / Nat.gcd n d = D at *
  go_enter Tryd.func28, Tryd.ntmps28
  go_wp2_with fail
  generalize hW : w.alloc _ = W at *
  clear hW
  (with_reducible refine (h1.out _).mono ?_)
  rintro e w1 ⟨a, rfl, ha, b1⟩
  obtain ⟨_, aa, ac, rfl⟩ := ha.len
  have fd1 := hfd.out aa (dlen B9 n) ac
  have ha' := Lib.hid ha
  clear ha
  go_wp2_with fail
  (with_reducible refine (h2.out _).mono ?_)
  rintro e w2 ⟨b, rfl, hb, b2⟩
  obtain ⟨_, ba, bc, rfl⟩ := hb.len
  have fd2 := hfd.out ba (dlen B9 d) bc
  have hov' := Lib.hid (hov.out _ _ w2 (ha'.out.keep b2) hb)
  clear hb
  go_wp2_with fail
  (with_reducible refine hov'.out.mono ?_)
  rintro e w3 ⟨p, q, rfl, hp, hq, b3⟩
  obtain ⟨_, pa, pc, rfl⟩ := hp.len
  obtain ⟨_, qa, qc, rfl⟩ := hq.len
  have b13 := below_wt (below_wt b1 b2) b3
  have hZ3 := hZ.keep b13 hZ.lt
  have B3 := below_wt bel b13
  have z0 := hZ3.cell 0
  have z1 := hZ3.cell 1
  have f0 := hZ3.frozen 0
  have f1 := hZ3.frozen 1
  simp only [List.getElem?_toArray, List.getElem?_cons_zero, List.getElem?_cons_succ] at z0 z1
  have hfp := Lib.hid ((hp.setBox hZ3 0 (.slice pa (dlen B9 N) pc)).setBox (hZ3.set 0 (.slice pa (dlen B9 N) pc)) 1 (.slice qa (dlen B9 D) qc))
  have hfq := Lib.hid ((hq.setBox hZ3 0 (.slice pa (dlen B9 N) pc)).setBox (hZ3.set 0 (.slice pa (dlen B9 N) pc)) 1 (.slice qa (dlen B9 D) qc))
  have hBf := Lib.hid ((B3.setCell (p := ⟨w.heap.size, 0, none⟩) (Nat.le_refl _) (.slice pa (dlen B9 N) pc)).setCell (p := ⟨w.heap.size, 1, none⟩) (Nat.le_refl _) (.slice qa (dlen B9 D) qc))
  clear hp hq hZ3 hZ B3 b1 b2 b3 b13 fd1 fd2 bel
  go_wp2
  refine bodyPost_ret (v := .agg #[.slice pa (dlen B9 N) pc, .slice qa (dlen B9 D) qc]) (by simp [results, Tryd.results28, go_sem, z0, z1]) rfl ?_
  exact ⟨_, _, rfl, hfp.out, hfq.out, hBf.out⟩

/-- what FractionOf returns -/
def ofR (a b : Int) : ByteArray × ByteArray × Int :=
  if 0 ≤ a ∧ 1 ≤ b then (toldN (a.toNat / Nat.gcd a.toNat b.toNat) (b.toNat / Nat.gcd a.toNat b.toNat), toldD (a.toNat / Nat.gcd a.toNat b.toNat) (b.toNat / Nat.gcd a.toNat b.toNat), toldC (a.toNat / Nat.gcd a.toNat b.toNat) (b.toNat / Nat.gcd a.toNat b.toNat))
  else (⟨#[]⟩, ⟨#[]⟩, 2)
theorem ofR_no {a b : Int} (h : ¬ (0 ≤ a ∧ 1 ≤ b)) : ofR a b = (⟨#[]⟩, ⟨#[]⟩, 2) := if_neg h
theorem ofR_yes {n d : Nat} (h : 0 < d) : ofR n d = (toldN (n / Nat.gcd n d) (d / Nat.gcd n d), toldD (n / Nat.gcd n d) (d / Nat.gcd n d), toldC (n / Nat.gcd n d) (d / Nat.gcd n d)) := by
  unfold ofR; rw [if_pos (by omega)]; rfl
theorem small9 {n : Nat} (h : n ≤ 9223372036854775807) (g : Nat) : dlen B9 (n / g) ≤ 10000000 := Nat.le_trans (dlen_mono b9 (Nat.div_le_self _ _)) (Nat.le_trans (dlen_le b9 (L := 3) (by simp only [B9]; omega)) (by decide))

set_option maxRecDepth 100000 in
set_option maxHeartbeats 2000000 in
theorem FractionOf_spec (a b : Int) (w : World) (ha : -9223372036854775808 ≤ a ∧ a ≤ 9223372036854775807) (hb : -9223372036854775808 ≤ b ∧ b ≤ 9223372036854775807) :
    Calls Tryd.prog 9 #[.int .i64 a, .int .i64 b] w fun e w' => e = .returned (opV (ofR a b)) ∧ Below w.heap.size w w' := by
  have hZ := Blk.new w #[.string ⟨#[]⟩, .string ⟨#[]⟩] 23
  have bel := below1 w (.cells #[.string ⟨#[]⟩, .string ⟨#[]⟩] 23)
  by_cases h0 : 0 ≤ a
  · by_cases h1 : 1 ≤ b
    · obtain ⟨n, rfl⟩ : ∃ n : Nat, a = n := ⟨a.toNat, by omega⟩
      obtain ⟨d, rfl⟩ : ∃ d : Nat, b = d := ⟨b.toNat, by omega⟩
      have hn : n ≤ 9223372036854775807 := by omega
      have hd : d ≤ 9223372036854775807 := by omega
      have hd0 : 0 < d := by omega
      have hr := Lib.hid (ofR_yes (n := n) hd0)
      have hsm := Lib.hid (fun W => l01Small_any n d W hn hd hd0)
      have tn := Lib.hid (small9 hn (Nat.gcd n d))
      have td := Lib.hid (small9 hd (Nat.gcd n d))
      have i1 : ¬ (n : Int) < 0 := by omega
      have i2 : ¬ (d : Int) < 1 := by omega
      generalize n / Nat.gcd n d = N at *
      generalize d / Nat.gcd n d = D at *
      clear ha hb hn hd hd0 h0 h1
      go_enter Tryd.func9, Tryd.ntmps9
      go_wp2_with fail
      generalize hW : w.alloc _ = W at *
      clear hW
      (with_reducible refine (hsm.out _).mono ?_)
      rintro e w1 ⟨p, q, rfl, hp, hq, b1⟩
      have ht := Lib.hid (l01Told_any p q N D w1 hp hq tn.out td.out)
      obtain ⟨_, pa, pc, rfl⟩ := hp.len
      obtain ⟨_, qa, qc, rfl⟩ := hq.len
      clear hp hq
      go_wp2_with fail
      (with_reducible refine ht.out.mono ?_)
      rintro e w2 ⟨rfl, b2⟩
      have b12 := below_wt b1 b2
      have hZ2 := hZ.keep b12 hZ.lt
      have z0 := hZ2.cell 0
      have z1 := hZ2.cell 1
      have f0 := hZ2.frozen 0
      have f1 := hZ2.frozen 1
      simp only [List.getElem?_toArray, List.getElem?_cons_zero, List.getElem?_cons_succ] at z0 z1
      have B2 := Lib.hid (below_wt bel b12)
      clear b1 b2 b12 bel ht hZ hZ2
      generalize toldN N D = TN at *
      generalize toldD N D = TD at *
      generalize toldC N D = TC at *
      go_wp2
      refine bodyPost_ret (v := .tuple #[.agg #[.string TN, .string TD], .int .i64 TC]) (by simp [results, Tryd.results9, go_sem, z0, z1]) rfl ?_
      exact ⟨by rw [hr.out]; rfl, (B2.out.setCell (p := ⟨w.heap.size, 0, none⟩) (Nat.le_refl _) _).setCell (p := ⟨w.heap.size, 1, none⟩) (Nat.le_refl _) _⟩
    · have hr := Lib.hid (ofR_no (a := a) (b := b) (by omega))
      have i1 : ¬ a < 0 := by omega
      have i2 : b < 1 := by omega
      clear h0 h1
      go_enter Tryd.func9, Tryd.ntmps9
      go_wp2
      refine bodyPost_ret (v := .tuple #[.agg #[.string ⟨#[]⟩, .string ⟨#[]⟩], .int .i64 2]) (by simp [results, Tryd.results9, go_sem]) rfl ?_
      exact ⟨by rw [hr.out]; rfl, bel⟩
  · have hr := Lib.hid (ofR_no (a := a) (b := b) (by omega))
    have i1 : a < 0 := by omega
    clear h0
    go_enter Tryd.func9, Tryd.ntmps9
    go_wp2
    refine bodyPost_ret (v := .tuple #[.agg #[.string ⟨#[]⟩, .string ⟨#[]⟩], .int .i64 2]) (by simp [results, Tryd.results9, go_sem]) rfl ?_
    exact ⟨by rw [hr.out]; rfl, bel⟩

theorem two64 {n : Nat} (h : n ≤ 9223372036854775807) : dlen W32 n ≤ 1000000 := Nat.le_trans (dlen_le w32 (L := 2) (by simp only [W32]; omega)) (by decide)
set_option maxRecDepth 100000 in
set_option maxHeartbeats 2000000 in
theorem FractionOf_impl (a b : Int) (w : World) (ha : -9223372036854775808 ≤ a ∧ a ≤ 9223372036854775807) (hb : -9223372036854775808 ≤ b ∧ b ≤ 9223372036854775807) (htab : Tab10 w) :
    Calls Tryd.prog 10 #[.int .i64 a, .int .i64 b] w fun e w' => e = .returned (opV (ofR a b)) ∧ Below w.heap.size w w' := by
  have hZ := Blk.new w #[.string ⟨#[]⟩, .string ⟨#[]⟩] 23
  have bel := below1 w (.cells #[.string ⟨#[]⟩, .string ⟨#[]⟩] 23)
  have htab' := Lib.hid htab
  clear htab
  by_cases h0 : 0 ≤ a
  · by_cases h1 : 1 ≤ b
    · obtain ⟨n, rfl⟩ : ∃ n : Nat, a = n := ⟨a.toNat, by omega⟩
      obtain ⟨d, rfl⟩ : ∃ d : Nat, b = d := ⟨b.toNat, by omega⟩
      have hn : n ≤ 9223372036854775807 := by omega
      have hd : d ≤ 9223372036854775807 := by omega
      have hd0 : 0 < d := by omega
      have hr := Lib.hid (ofR_yes (n := n) hd0)
      have hl1 := Lib.hid (fun W => longOf_any n W (by omega))
      have hl2 := Lib.hid (fun W => longOf_any d W (by omega))
      have hfr := Lib.hid (fun p q W hp hq ht => fraction_any p q n d W hp hq hd0 (two64 hn) (two64 hd) ht)
      have i1 : ¬ (n : Int) < 0 := by omega
      have i2 : ¬ (d : Int) ≤ 0 := by omega
      have w1 : IntKind.u64.wrap (n : Int) = (n : Int) := by rw [IntKind.wrap_u64]; omega
      have w2 : IntKind.u64.wrap (d : Int) = (d : Int) := by rw [IntKind.wrap_u64]; omega
      clear ha hb hn hd hd0 h0 h1
      go_enter Tryd.func10, Tryd.ntmps10
      go_wp2_with fail
      generalize hW : w.alloc _ = W at *
      clear hW
      (with_reducible refine (hl1.out _).mono ?_)
      rintro e u1 ⟨p, rfl, hp, b1⟩
      obtain ⟨_, pa, pc, rfl⟩ := hp.len
      have hp' := Lib.hid hp
      clear hp
      go_wp2_with fail
      (with_reducible refine (hl2.out _).mono ?_)
      rintro e u2 ⟨q, rfl, hq, b2⟩
      obtain ⟨_, qa, qc, rfl⟩ := hq.len
      have ht := Lib.hid (hfr.out _ _ u2 (hp'.out.keep b2) hq (htab'.out.keep (below_wt (below_wt bel b1) b2)))
      clear hq
      go_wp2_with fail
      (with_reducible refine ht.out.mono ?_)
      rintro e u3 ⟨rfl, b3⟩
      have b12 := below_wt (below_wt b1 b2) b3
      have hZ2 := hZ.keep b12 hZ.lt
      have z0 := hZ2.cell 0
      have z1 := hZ2.cell 1
      have f0 := hZ2.frozen 0
      have f1 := hZ2.frozen 1
      simp only [List.getElem?_toArray, List.getElem?_cons_zero, List.getElem?_cons_succ] at z0 z1
      have B2 := Lib.hid (below_wt bel b12)
      clear b1 b2 b3 b12 bel ht hZ hZ2 hfr
      generalize toldN (n / Nat.gcd n d) (d / Nat.gcd n d) = TN at *
      generalize toldD (n / Nat.gcd n d) (d / Nat.gcd n d) = TD at *
      generalize toldC (n / Nat.gcd n d) (d / Nat.gcd n d) = TC at *
      go_wp2
      refine bodyPost_ret (v := .tuple #[.agg #[.string TN, .string TD], .int .i64 TC]) (by simp [results, Tryd.results10, go_sem, z0, z1]) rfl ?_
      exact ⟨by rw [hr.out]; rfl, (B2.out.setCell (p := ⟨w.heap.size, 0, none⟩) (Nat.le_refl _) _).setCell (p := ⟨w.heap.size, 1, none⟩) (Nat.le_refl _) _⟩
    · have hr := Lib.hid (ofR_no (a := a) (b := b) (by omega))
      have i1 : ¬ a < 0 := by omega
      have i2 : b ≤ 0 := by omega
      clear h0 h1
      go_enter Tryd.func10, Tryd.ntmps10
      go_wp2
      refine bodyPost_ret (v := .tuple #[.agg #[.string ⟨#[]⟩, .string ⟨#[]⟩], .int .i64 2]) (by simp [results, Tryd.results10, go_sem]) rfl ?_
      exact ⟨by rw [hr.out]; rfl, bel⟩
  · have hr := Lib.hid (ofR_no (a := a) (b := b) (by omega))
    have i1 : a < 0 := by omega
    clear h0
    go_enter Tryd.func10, Tryd.ntmps10
    go_wp2
    refine bodyPost_ret (v := .tuple #[.agg #[.string ⟨#[]⟩, .string ⟨#[]⟩], .int .i64 2]) (by simp [results, Tryd.results10, go_sem]) rfl ?_
    exact ⟨by rw [hr.out]; rfl, bel⟩
end Go.Proofs.YtefodgebecacgaaDoor
