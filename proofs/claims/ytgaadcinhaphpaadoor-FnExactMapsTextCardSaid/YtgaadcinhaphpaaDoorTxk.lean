/- A line of text appended by the project leaves every block of another type as it was. Conditions: told by the code. -/
import Derived.Test.YtgaadcinhaphpaaDoorTxt4
namespace Go.Proofs.YtgaadcinhaphpaaDoor
open Go.RowKit Go.Deep
set_option linter.unusedVariables false

def KeepO (w w' : World) : Prop := ∀ (g : Nat) (o : Obj), w.heap[g]? = some o → (∀ c, o ≠ .cells c 5 (0, 0)) → w'.heap[g]? = some o
theorem KeepO.refl (w : World) : KeepO w w := fun _ _ h _ => h
theorem KeepO.trans {w w1 w2 : World} (h : KeepO w w1) (h' : KeepO w1 w2) : KeepO w w2 := fun g o ho hn => h' g o (h g o ho hn) hn
theorem KeepO.alloc {w w1 : World} (h : KeepO w w1) (x : Obj) : KeepO w (w1.alloc x) := fun g o ho hn => by
  have h1 := h g o ho hn
  obtain ⟨hl, -⟩ := Array.getElem?_eq_some_iff.mp h1
  exact (Below.heap_alloc w1 x g hl).trans h1
theorem KeepO.grown {w w1 w2 : World} {row : Option Nat} (h : KeepO w w1) (hg : w1.grownBy w2 row) (ht : ∀ k, row = some k → ∃ cur, w1.heap[k]? = some (.cells cur 5 (0, 0))) : KeepO w w2 := fun g o ho hn => by
  have h1 := h g o ho hn
  obtain ⟨hl, -⟩ := Array.getElem?_eq_some_iff.mp h1
  refine (hg.block g hl ?_).trans h1
  intro e
  obtain ⟨cur, hc⟩ := ht g e.symm
  rw [h1] at hc
  exact hn cur (by simpa using hc)
theorem KeepO.blk {w w' : World} {g : Nat} {cs : Array Value} {t : TypeId} (h : KeepO w w') (hb : Blk w g cs t) (ht : t ≠ 5) : Blk w' g cs t :=
  h g _ hb (fun c e => ht (by simpa using (Obj.cells.inj e).2.1))

set_option maxRecDepth 100000 in
set_option maxHeartbeats 4000000 in
theorem AppUint_keep (B : Nat) (v : Value) (L : Nat) (l : List UInt8) (x : Int) (w : World) (h0 : 0 ≤ x) (h1 : x < 100) (hown : w.ownsRow B 5 1 v L (byc l)) (hB : B ≤ w.heap.size) (hL : L ≤ 1000000) :
    Calls Tryd.prog 104 #[v, .int .u64 x, .int .i64 10] w fun e w' => ∃ v' L', e = .returned v' ∧ L < L' ∧ L' ≤ L + 2 ∧ w'.ownsRow B 5 1 v' L' (byc (l ++ decL x.toNat)) ∧ Below B w w' ∧ KeepO w w' := by
  obtain ⟨a, cap, rfl⟩ := own_shape hown
  obtain ⟨i0, hi, hz0, hz1, hz2⟩ := info_parts Tryd.infoU
  have hi' := Lib.hid hi; have hz0' := Lib.hid hz0; have hz1' := Lib.hid hz1; have hz2' := Lib.hid hz2
  have hw : IntKind.i64.wrap x = x := by rw [IntKind.wrap_i64]; omega
  have hdl := decL_len x.toNat
  have hsm := Lib.hid (fun u => small_int x u h0 h1)
  generalize decL x.toNat = dl at *
  clear hi hz0 hz1 hz2
  go_enter Tryd.func104, Tryd.ntmps104
  go_wp2_with fail
  refine (hsm.out _).mono ?_
  rintro e w1 ⟨rfl, rfl⟩
  go_wp2_with (at_builtin; (refine Lib.wpList_append_own_string _ rfl _ _ 72 9 rfl B 5 i0 Tryd.underlying72 (by kernel_rfl) hi'.out hz0'.out hz1'.out hz2'.out (.slice a L cap) L (byc l) rfl hown (BA dl) rfl (by rw [BA_size]; unfold maxLen; omega) (by rw [BA_size]; omega) hB ?_); intro v' w2 hown2 hgr2 _; obtain ⟨a2, cap2, rfl⟩ := own_shape hown2)
  go_ret
  refine ⟨_, L + (BA dl).size, rfl, by rw [BA_size]; omega, by rw [BA_size]; omega, by rw [byc_append, ← strCells_BA dl]; exact hown2, (Below.refl B _).grown hgr2 hB (fun k hk => (ownsRow_type hown hk).1), (KeepO.refl _).grown hgr2 (fun k hk => (ownsRow_type hown hk).2)⟩

set_option maxRecDepth 100000 in
set_option maxHeartbeats 4000000 in
theorem AppInt_keep (B : Nat) (v : Value) (L : Nat) (l : List UInt8) (x : Int) (w : World) (h0 : 0 ≤ x) (h1 : x < 100) (hown : w.ownsRow B 5 1 v L (byc l)) (hB : B ≤ w.heap.size) (hL : L ≤ 1000000) :
    Calls Tryd.prog 82 #[v, .int .i64 x, .int .i64 10] w fun e w' => ∃ v' L', e = .returned v' ∧ L < L' ∧ L' ≤ L + 2 ∧ w'.ownsRow B 5 1 v' L' (byc (l ++ decL x.toNat)) ∧ Below B w w' ∧ KeepO w w' := by
  obtain ⟨a, cap, rfl⟩ := own_shape hown
  have hw : IntKind.u64.wrap x = x := IntWalk.u64_in _ (by omega)
  have hlt : ¬ x < 0 := by omega
  have hc := Lib.hid (AppUint_keep B _ L l x w h0 h1 hown hB hL)
  clear hown hB hL h1
  go_enter Tryd.func82, Tryd.ntmps82
  go_wp2_with fail
  refine hc.out.mono ?_
  rintro e w1 ⟨v', L', rfl, q1, q2, hown', b1, kp⟩
  obtain ⟨a2, cap2, rfl⟩ := own_shape hown'
  go_wp2
  go_ret
  exact ⟨_, L', rfl, q1, q2, hown', b1, kp⟩

set_option maxRecDepth 100000 in
set_option maxHeartbeats 4000000 in
theorem AppendInt_keep (B : Nat) (v : Value) (L : Nat) (l : List UInt8) (x : Int) (w : World) (h0 : 0 ≤ x) (h1 : x < 100) (hown : w.ownsRow B 5 1 v L (byc l)) (hB : B ≤ w.heap.size) (hL : L ≤ 1000000) :
    Calls Tryd.prog 63 #[v, .int .i64 x, .int .i64 10] w fun e w' => ∃ v' L', e = .returned v' ∧ L < L' ∧ L' ≤ L + 2 ∧ w'.ownsRow B 5 1 v' L' (byc (l ++ decL x.toNat)) ∧ Below B w w' ∧ KeepO w w' := by
  obtain ⟨a, cap, rfl⟩ := own_shape hown
  have hc := Lib.hid (AppInt_keep B _ L l x w h0 h1 hown hB hL)
  clear hown hB hL h1 h0
  go_enter Tryd.func63, Tryd.ntmps63
  go_wp2_with fail
  refine hc.out.mono ?_
  rintro e w1 ⟨v', L', rfl, q1, q2, hown', b1, kp⟩
  obtain ⟨a2, cap2, rfl⟩ := own_shape hown'
  go_wp2
  go_ret
  exact ⟨_, L', rfl, q1, q2, hown', b1, kp⟩

set_option maxRecDepth 100000 in
set_option maxHeartbeats 4000000 in
theorem appendLine_keep (B : Nat) (v : Value) (L : Nat) (l wd : List UInt8) (ns : List Int) (nb no nc : Nat) (w : World)
    (hown : w.ownsRow B 5 1 v L (byc l)) (hB : B ≤ w.heap.size) (hL : L ≤ 100000) (hwd : wd.length ≤ 10) (hn1 : 1 ≤ ns.length) (hn6 : ns.length ≤ 6)
    (hnb : nb < B) (hc : ∀ j, j < ns.length → w.cell? ⟨nb, no + j, none⟩ = some (.int .i64 (ns.getD j 0))) (hx : ∀ x ∈ ns, 0 ≤ x ∧ x < 100) :
    Calls Tryd.prog 37 #[v, .string (BA wd), .slice (some ⟨nb, no, none⟩) ns.length nc] w fun e w' => ∃ v' L', e = .returned v' ∧ L < L' ∧ L' ≤ L + 30 ∧ w'.ownsRow B 5 1 v' L' (byc (l ++ lineL wd ns)) ∧ Below B w w' ∧ KeepO w w' := by
  obtain ⟨a, cap, rfl⟩ := own_shape hown
  obtain ⟨i0, hi, hz0, hz1, hz2⟩ := info_parts Tryd.infoU
  have hi' := Lib.hid hi; have hz0' := Lib.hid hz0; have hz1' := Lib.hid hz1; have hz2' := Lib.hid hz2
  have hc' := Lib.hid hc
  have hx' := Lib.hid hx
  have hnx := Lib.hid (fun j h => numsL_next ns j h)
  have hty2 := Lib.hid (fun k (hk : (Value.slice a L cap).ownBlock = some k) => (ownsRow_type hown hk).2)
  have hty := Lib.hid (fun k (hk : (Value.slice a L cap).ownBlock = some k) => (ownsRow_type hown hk).1)
  obtain ⟨m, hm⟩ : ∃ m, m = ns.length := ⟨_, rfl⟩
  have hfin := Lib.hid (show byc (l ++ lineL wd ns) = byc (l ++ (wd ++ numsL (ns.take m))) ++ [.int .u8 10] by
    rw [hm, List.take_length]; simp [lineL, byc])
  rw [← hm] at hc' hn1 hn6 hnx ⊢
  clear hi hz0 hz1 hz2 hc hx
  have hms := Lib.hid hm
  clear hm
  go_enter Tryd.func37, Tryd.ntmps37
  go_wp2_with (at_builtin; (refine Lib.wpList_append_own_string _ rfl _ _ 72 9 rfl B 5 i0 Tryd.underlying72 (by kernel_rfl) hi'.out hz0'.out hz1'.out hz2'.out (.slice a L cap) L (byc l) rfl hown (BA wd) rfl (by rw [BA_size]; unfold maxLen; omega) (by rw [BA_size]; omega) hB ?_); intro v1 w1 hown1 hgr1 _; obtain ⟨a1, cap1, rfl⟩ := own_shape hown1)
  have B1 := (Below.refl B w).grown hgr1 hB (fun k hk => hty.out k hk)
  have K1 := (KeepO.refl w).grown hgr1 (fun k hk => hty2.out k hk)
  have hsz1 := hgr1.size
  have hown1' : w1.ownsRow B 5 1 (.slice a1 (L + (BA wd).size) cap1) (L + (BA wd).size) (byc (l ++ (wd ++ numsL (ns.take 0)))) := by
    rw [strCells_BA, ← byc_append] at hown1
    simpa [numsL] using hown1
  have hL1 : L + (BA wd).size ≤ L + 10 := by rw [BA_size]; omega
  have hL1' : L ≤ L + (BA wd).size := by omega
  generalize L + (BA wd).size = L1 at *
  clear hgr1 hown1
  go_loopw [0, 14] (fun tv i wr => ∃ (j L2 : Nat) (a2 : Option Addr) (cap2 : Nat), j ≤ m ∧ i = .int .i64 (j : Int) ∧ tv = .slice a2 L2 cap2 ∧ L ≤ L2 ∧ L2 ≤ L1 + 3 * j ∧ Hid (wr.ownsRow B 5 1 (.slice a2 L2 cap2) L2 (byc (l ++ (wd ++ numsL (ns.take j))))) ∧ Below B w wr ∧ B ≤ wr.heap.size ∧ KeepO w wr) (fun _ i _ => m - (intOf i).toNat)
  case atStart => exact ⟨0, L1, a1, cap1, Nat.zero_le _, rfl, rfl, hL1', by omega, Lib.hid hown1', B1, by omega, K1⟩
  case round =>
    obtain ⟨wo, rfl⟩ : ∃ wo : World, wo = wr := ⟨_, rfl⟩
    obtain ⟨j, L2, a2, cap2, hj, rfl, rfl, hl1, hl2, hown2, bel, hBo, kp⟩ := hrel
    by_cases hlt : j < m
    · have hjI : (j : Int) < (m : Int) := by omega
      have hcj := (bel.cell (p := ⟨nb, no + j, none⟩) hnb).trans (hc'.out j hlt)
      have hxj := hx'.out _ (getD_mem (d := 0) (show j < ns.length by have := hms.out; omega))
      have hn' := Lib.hid (hnx.out j (by have := hms.out; omega))
      generalize ns.getD j 0 = x at hcj hxj hn'
      have hap := Lib.hid (fun v3 L3 u o => AppendInt_keep B v3 L3 (l ++ (wd ++ numsL (ns.take j)) ++ [32]) x u hxj.1 hxj.2 o)
      clear hxj
      go_wp2_with (at_builtin; (refine wpList_append_own _ rfl _ _ 72 rfl B 5 i0 (.int .u8 0) 1 1 Tryd.underlying72 hi'.out hz0'.out hz1'.out hz2'.out rfl (by decide) (.slice a2 L2 cap2) _ _ rfl (hown2.out.alloc _) ⟨wo.heap.size, 0, none⟩ 1 1 [.int .u8 32] rfl rfl (one_new _ _ _) (by simp [Value.oneCell']) (by unfold maxLen; omega) (by omega) (by simp; omega) ?_); intro v3 w3 hown3 hgr3 _; obtain ⟨a3, cap3, rfl⟩ := own_shape hown3)
      have B3 : Below B w w3 := (bel.alloc hBo _).grown hgr3 (by simp; omega) (fun k hk => (ownsRow_type hown2.out hk).1)
      have K3 : KeepO w w3 := (kp.alloc _).grown hgr3 (fun k hk => (ownsRow_type (hown2.out.alloc _) hk).2)
      have hsz3 : B ≤ w3.heap.size := by have := hgr3.size; simp at this; omega
      have hown3' : w3.ownsRow B 5 1 (.slice a3 (L2 + 1) cap3) (L2 + 1) (byc (l ++ (wd ++ numsL (ns.take j)) ++ [32])) := by
        rw [byc_append]; exact hown3
      clear hown3 hgr3
      refine (hap.out _ _ w3 hown3' hsz3 (by omega)).mono ?_
      rintro e w4 ⟨v4, L4, rfl, q1, q2, hown4, b4, k4⟩
      obtain ⟨a4, cap4, rfl⟩ := own_shape hown4
      have hown4' : w4.ownsRow B 5 1 (.slice a4 L4 cap4) L4 (byc (l ++ (wd ++ numsL (ns.take (j + 1))))) := by
        rw [hn'.out]
        simpa [List.append_assoc] using hown4
      have hsz4 := b4.size
      go_wp2
      go_roundw
      case rel => exact ⟨j + 1, L4, a4, cap4, by omega, by go_num, rfl, by omega, by omega, Lib.hid hown4', B3.trans b4, by omega, K3.trans k4⟩
      case measure => simp [intOf]; omega
    · obtain rfl : j = m := by omega
      have hown2' := Lib.hid (show wo.ownsRow B 5 1 (.slice a2 L2 cap2) L2 _ from hown2.out)
      go_wp2_with (at_builtin; (refine wpList_append_own _ rfl _ _ 72 rfl B 5 i0 (.int .u8 0) 1 1 Tryd.underlying72 hi'.out hz0'.out hz1'.out hz2'.out rfl (by decide) (.slice a2 L2 cap2) _ _ rfl (hown2.out.alloc _) ⟨wo.heap.size, 0, none⟩ 1 1 [.int .u8 10] rfl rfl (one_new _ _ _) (by simp [Value.oneCell']) (by unfold maxLen; omega) (by omega) (by simp; omega) ?_); intro v3 w3 hown3 hgr3 _; obtain ⟨a3, cap3, rfl⟩ := own_shape hown3)
      go_ret
      exact ⟨_, L2 + 1, rfl, by omega, by omega, by rw [hfin.out]; exact hown3, (bel.alloc hBo _).grown hgr3 (by simp; omega) (fun k hk => (ownsRow_type hown2.out hk).1), (kp.alloc _).grown hgr3 (fun k hk => (ownsRow_type (hown2.out.alloc _) hk).2)⟩
end Go.Proofs.YtgaadcinhaphpaaDoor
