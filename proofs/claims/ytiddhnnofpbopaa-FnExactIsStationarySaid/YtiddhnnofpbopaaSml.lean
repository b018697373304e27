/- l01Whole and l01Small of the specification (XWhole's first part: never both). Conditions: told by the code. -/
import Derived.Test.YtiddhnnofpbopaaRsG
import Derived.Test.YtiddhnnofpbopaaNtxG
namespace Go.Proofs.Ytiddhnnofpbopaa
open Go.RowKit Go.Deep
set_option linter.unusedVariables false
set_option linter.unusedSimpArgs false

theorem three_ints (w : World) (x y z : Nat) : Ints (w.alloc (.cells #[.int .i64 (x : Int), .int .i64 (y : Int), .int .i64 (z : Int)] 2)) (.slice (some ⟨w.heap.size, 0, none⟩) 3 3) (nats [x, y, z]) := by
  have hB := Blk.new w #[.int .i64 (x : Int), .int .i64 (y : Int), .int .i64 (z : Int)] 2
  refine ⟨by unfold maxLen; simp [nats, ints], _, 3, rfl, ⟨by simp [nats, ints], by unfold maxLen; omega⟩, fun i hi => ⟨_, 0, rfl, ?_⟩⟩
  simp only [nats, ints, List.map_cons, List.map_nil, List.length_cons, List.length_nil] at hi
  have : i = 0 ∨ i = 1 ∨ i = 2 := by omega
  rcases this with rfl | rfl | rfl
  · exact hB.cell 0
  · exact hB.cell 1
  · exact hB.cell 2

theorem LongS.setBlk {w : World} {v : Value} {n b : Nat} {cs : Array Value} {t : TypeId} (h : LongS w v n) (hB : Blk w b cs t) (hno : ∀ (j : Nat) (x : Int), cs[j]? ≠ some (.int .i64 x)) (j : Nat) (u : Value) : LongS (w.setCell ⟨b, j, none⟩ u) v n := by
  obtain ⟨hm, a, cap, rfl, hk, hc⟩ := h
  refine ⟨hm, a, cap, rfl, hk, fun i hi => ?_⟩
  obtain ⟨b', off, ha, hcell⟩ := hc i hi
  refine ⟨b', off, ha, ?_⟩
  have hne : b' ≠ b := by
    rintro rfl
    rw [hB.cell] at hcell
    have hi' : i < (longS n).length := by simpa [ints] using hi
    rw [ints_getD (longS n) i hi'] at hcell
    exact hno _ _ hcell
  rw [World.cell?_of_block (w := w) (Below.heap_setCell w ⟨b, j, none⟩ u b' hne)]
  exact hcell
theorem no_int2 {v1 : Bool} {a : Option Addr} {l c : Nat} : ∀ (j : Nat) (x : Int), (#[Value.bool v1, .slice a l c])[j]? ≠ some (.int .i64 x)
  | 0, x, h => by simp at h
  | 1, x, h => by simp at h
  | j + 2, x, h => by simp at h

set_option maxRecDepth 100000 in
set_option maxHeartbeats 2000000 in
theorem l01Whole_any (n : Nat) (w : World) (hn : n ≤ 9223372036854775807) :
    Calls Try.prog 50 #[.int .i64 (n : Int)] w fun e w' => ∃ v, e = .returned (.agg #[.bool false, v]) ∧ LongS w' v n ∧ Below w.heap.size w w' := by
  have hr : (n : Int).tmod 1000000000 = ((n % 1000000000 : Nat) : Int) := by rw [Int.tmod_eq_emod_of_nonneg (by omega)]; rfl
  have hq : (n : Int).tdiv 1000000000 = ((n / 1000000000 : Nat) : Int) := by rw [Int.tdiv_eq_ediv_of_nonneg (by omega)]; rfl
  have hr2 : ((n / 1000000000 : Nat) : Int).tmod 1000000000 = ((n / 1000000000 % 1000000000 : Nat) : Int) := by rw [Int.tmod_eq_emod_of_nonneg (by omega)]; rfl
  have hq2 : ((n / 1000000000 : Nat) : Int).tdiv 1000000000 = ((n / 1000000000 / 1000000000 : Nat) : Int) := by rw [Int.tdiv_eq_ediv_of_nonneg (by omega)]; rfl
  have hv : val B9 [n % 1000000000, n / 1000000000 % 1000000000, n / 1000000000 / 1000000000] = n := by simp only [val, B9]; omega
  have hd : ∀ x ∈ [n % 1000000000, n / 1000000000 % 1000000000, n / 1000000000 / 1000000000], x < B9 := by
    intro x hx; simp only [B9]; simp at hx; rcases hx with rfl | rfl | rfl <;> omega
  have k1 : n / 1000000000 ≤ 9223372037 := by omega
  have k2 : n % 1000000000 < 1000000000 := by omega
  have k3 : n / 1000000000 % 1000000000 < 1000000000 := by omega
  have k4 : n / 1000000000 / 1000000000 ≤ 10 := by omega
  generalize n / 1000000000 % 1000000000 = y at *
  generalize n / 1000000000 / 1000000000 = z at *
  generalize n / 1000000000 = q at *
  generalize n % 1000000000 = x at *
  have hT := l01Cut_any _ [x, y, z] _ (three_ints (w.alloc (.cells #[.bool false, .slice none 0 0] 97)) x y z) hd
  rw [hv] at hT
  have hT' := Lib.hid hT
  have hZ := (Blk.new w #[.bool false, .slice none 0 0] 97).alloc (.cells #[.int .i64 (x : Int), .int .i64 (y : Int), .int .i64 (z : Int)] 2)
  have bel := below2 w (.cells #[.bool false, .slice none 0 0] 97) (.cells #[.int .i64 (x : Int), .int .i64 (y : Int), .int .i64 (z : Int)] 2)
  have hn' : n < 9223372036854775808 := by omega
  clear hT hd hv hn
  simp only [World.size_alloc] at hT'
  go_enter Try.func50, Try.ntmps50
  go_wp2_with fail
  generalize hW : (w.alloc _).alloc _ = W at *
  clear hW
  refine hT'.out.mono ?_
  rintro e w' ⟨⟨v, rfl, hL⟩, k, rfl⟩
  obtain ⟨_, va, vc, rfl⟩ := hL.len
  have bk := below_drewN (Below.refl W.heap.size W) k
  have hZ2 := hZ.keep bk hZ.lt
  have hL2 := hL.keep bk
  have B2 := below_wt bel bk
  have z0 := hZ2.cell 0
  have z1 := hZ2.cell 1
  have f0 := hZ2.frozen 0
  have f1 := hZ2.frozen 1
  simp only [List.getElem?_toArray, List.getElem?_cons_zero, List.getElem?_cons_succ] at z0 z1
  generalize W.drewN k = U at *
  have hf := Lib.hid ((hL2.setBlk hZ2 no_int2 0 (.bool false)).setBlk (hZ2.set 0 (.bool false)) no_int2 1 (.slice va (dlen B9 n) vc))
  have hb := Lib.hid ((B2.setCell (p := ⟨w.heap.size, 0, none⟩) (Nat.le_refl _) (.bool false)).setCell (p := ⟨w.heap.size, 1, none⟩) (Nat.le_refl _) (.slice va (dlen B9 n) vc))
  clear hL2 hL hZ hZ2 bk B2 bel
  go_wp2
  refine bodyPost_ret (v := .agg #[.bool false, .slice va (dlen B9 n) vc]) (by simp [results, Try.results50, go_sem, z0, z1]) rfl ?_
  exact ⟨_, rfl, hf.out, hb.out⟩

set_option maxRecDepth 100000 in
set_option maxHeartbeats 2000000 in
theorem l01Small_any (n d : Nat) (w : World) (hn : n ≤ 9223372036854775807) (hd : d ≤ 9223372036854775807) (hd0 : 0 < d) :
    Calls Try.prog 28 #[.int .i64 (n : Int), .int .i64 (d : Int)] w fun e w' => ∃ p q, e = .returned (.agg #[p, q]) ∧ LongS w' p (n / Nat.gcd n d) ∧ LongS w' q (d / Nat.gcd n d) ∧ Below w.heap.size w w' := by
  have sn : dlen B9 n ≤ 3 := dlen_le b9 (by simp only [B9]; omega)
  have sd : dlen B9 d ≤ 3 := dlen_le b9 (by simp only [B9]; omega)
  have h1 := Lib.hid (fun W => l01Whole_any n W hn)
  have h2 := Lib.hid (fun W => l01Whole_any d W hd)
  have hov := Lib.hid (fun a b W ha hb => l01Over_any a b n d W ha hb hd0 (by omega) (by omega))
  have hZ := Blk.new w #[.slice none 0 0, .slice none 0 0] 60
  have bel := below1 w (.cells #[.slice none 0 0, .slice none 0 0] 60)
  have hfd := Lib.hid (fun (a : Option Addr) (l c : Nat) (u : World) => (show (Instr.field 97 (.agg #[.bool false, .slice a l c]) 1).run Try.prog u = .ok (.slice a l c) u by kernel_rfl))
  generalize n / Nat.gcd n d = N at *
  generalize d / Nat.gcd n d = D at *
  go_enter Try.func28, Try.ntmps28
  go_wp2_with fail
  generalize hW : w.alloc _ = W at *
  clear hW
  (with_reducible refine (h1.out _).mono ?_)
  rintro e w1 ⟨a, rfl, ha, b1⟩
  obtain ⟨_, aa, ac, rfl⟩ := ha.len
  have fd1 := hfd.out aa (dlen B9 n) ac
  have ha' := Lib.hid ha
  clear ha
  go_wp2_with fail
  (with_reducible refine (h2.out _).mono ?_)
  rintro e w2 ⟨b, rfl, hb, b2⟩
  obtain ⟨_, ba, bc, rfl⟩ := hb.len
  have fd2 := hfd.out ba (dlen B9 d) bc
  have hov' := Lib.hid (hov.out _ _ w2 (ha'.out.keep b2) hb)
  clear hb
  go_wp2_with fail
  (with_reducible refine hov'.out.mono ?_)
  rintro e w3 ⟨p, q, rfl, hp, hq, b3⟩
  obtain ⟨_, pa, pc, rfl⟩ := hp.len
  obtain ⟨_, qa, qc, rfl⟩ := hq.len
  have b13 := below_wt (below_wt b1 b2) b3
  have hZ3 := hZ.keep b13 hZ.lt
  have B3 := below_wt bel b13
  have z0 := hZ3.cell 0
  have z1 := hZ3.cell 1
  have f0 := hZ3.frozen 0
  have f1 := hZ3.frozen 1
  simp only [List.getElem?_toArray, List.getElem?_cons_zero, List.getElem?_cons_succ] at z0 z1
  have hfp := Lib.hid ((hp.setBox hZ3 0 (.slice pa (dlen B9 N) pc)).setBox (hZ3.set 0 (.slice pa (dlen B9 N) pc)) 1 (.slice qa (dlen B9 D) qc))
  have hfq := Lib.hid ((hq.setBox hZ3 0 (.slice pa (dlen B9 N) pc)).setBox (hZ3.set 0 (.slice pa (dlen B9 N) pc)) 1 (.slice qa (dlen B9 D) qc))
  have hBf := Lib.hid ((B3.setCell (p := ⟨w.heap.size, 0, none⟩) (Nat.le_refl _) (.slice pa (dlen B9 N) pc)).setCell (p := ⟨w.heap.size, 1, none⟩) (Nat.le_refl _) (.slice qa (dlen B9 D) qc))
  clear hp hq hZ3 hZ B3 b1 b2 b3 b13 fd1 fd2 bel
  go_wp2
  refine bodyPost_ret (v := .agg #[.slice pa (dlen B9 N) pc, .slice qa (dlen B9 D) qc]) (by simp [results, Try.results28, go_sem, z0, z1]) rfl ?_
  exact ⟨_, _, rfl, hfp.out, hfq.out, hBf.out⟩

end Go.Proofs.Ytiddhnnofpbopaa
