/- Numbers below a hundred appended to a text that the call owns (strconv), and a line of the project. Conditions: told by the code. -/
import Derived.Test.YtgaadcinhaphpaaDoorTxt2
import Derived.Test.YtgaadcinhaphpaaDoorTo
import Derived.Test.YtgaadcinhaphpaaDoorMake
import Derived.Lib.AppendStr
namespace Go.Proofs.YtgaadcinhaphpaaDoor
open Go.RowKit Go.Deep
set_option linter.unusedVariables false

def byc (l : List UInt8) : List Value := l.map fun b => Value.int .u8 (b.toNat : Int)
theorem strCells_BA (l : List UInt8) : Lib.strCells (BA l) = byc l := by simp [Lib.strCells, BA, byc]
theorem byc_append (a b : List UInt8) : byc (a ++ b) = byc a ++ byc b := by simp [byc]
theorem BA_size (l : List UInt8) : (BA l).size = l.length := by simp [BA, ByteArray.size]
theorem own_shape {w : World} {lo n : Nat} {e : TypeId} {v : Value} {vs : List Value} (h : w.ownsRow lo e 1 v n vs) : ∃ a cap, v = .slice a n cap := by
  rcases h.2 with ⟨rfl, rfl⟩ | ⟨g, cap, cur, rfl, hg, _⟩
  · exact ⟨none, 0, rfl⟩
  · exact ⟨_, cap, rfl⟩
theorem Tryd.infoU : (Tryd.prog.info? 5).map (fun i => (i.zero, i.size, i.bytes)) = some (some (.int .u8 0), 1, 1) := by kernel_rfl

theorem small_int (x : Int) (w : World) (h : 0 ≤ x) (h1 : x < 100) : Calls Tryd.prog 85 #[.int .i64 x] w fun e w' => e = .returned (.string (BA (decL x.toNat))) ∧ w' = w := by
  have := small_any x.toNat w (by omega)
  rw [show ((x.toNat : Nat) : Int) = x by omega] at this
  exact this.mono fun e w' h => ⟨h.1, h.2.symm⟩

theorem decL_len (n : Nat) : (decL n).length ≤ 2 ∧ 1 ≤ (decL n).length := by
  unfold decL
  by_cases h : n < 10 <;> simp [h]

set_option maxRecDepth 100000 in
set_option maxHeartbeats 4000000 in
theorem AppUint_any (B : Nat) (v : Value) (L : Nat) (l : List UInt8) (x : Int) (w : World) (h0 : 0 ≤ x) (h1 : x < 100) (hown : w.ownsRow B 5 1 v L (byc l)) (hB : B ≤ w.heap.size) (hL : L ≤ 1000000) :
    Calls Tryd.prog 104 #[v, .int .u64 x, .int .i64 10] w fun e w' => ∃ v' L', e = .returned v' ∧ L < L' ∧ L' ≤ L + 2 ∧ w'.ownsRow B 5 1 v' L' (byc (l ++ decL x.toNat)) ∧ Below B w w' := by
  obtain ⟨a, cap, rfl⟩ := own_shape hown
  obtain ⟨i0, hi, hz0, hz1, hz2⟩ := info_parts Tryd.infoU
  have hi' := Lib.hid hi; have hz0' := Lib.hid hz0; have hz1' := Lib.hid hz1; have hz2' := Lib.hid hz2
  have hw : IntKind.i64.wrap x = x := by rw [IntKind.wrap_i64]; omega
  have hdl := decL_len x.toNat
  have hsm := Lib.hid (fun u => small_int x u h0 h1)
  generalize decL x.toNat = dl at *
  clear hi hz0 hz1 hz2
  go_enter Tryd.func104, Tryd.ntmps104
  go_wp2_with fail
  refine (hsm.out _).mono ?_
  rintro e w1 ⟨rfl, rfl⟩
  go_wp2_with (at_builtin; (refine Lib.wpList_append_own_string _ rfl _ _ 72 9 rfl B 5 i0 Tryd.underlying72 (by kernel_rfl) hi'.out hz0'.out hz1'.out hz2'.out (.slice a L cap) L (byc l) rfl hown (BA dl) rfl (by rw [BA_size]; unfold maxLen; omega) (by rw [BA_size]; omega) hB ?_); intro v' w2 hown2 hgr2 _; obtain ⟨a2, cap2, rfl⟩ := own_shape hown2)
  go_ret
  refine ⟨_, L + (BA dl).size, rfl, by rw [BA_size]; omega, by rw [BA_size]; omega, by rw [byc_append, ← strCells_BA dl]; exact hown2, (Below.refl B _).grown hgr2 hB (fun k hk => (ownsRow_type hown hk).1)⟩

set_option maxRecDepth 100000 in
set_option maxHeartbeats 4000000 in
theorem AppInt_any (B : Nat) (v : Value) (L : Nat) (l : List UInt8) (x : Int) (w : World) (h0 : 0 ≤ x) (h1 : x < 100) (hown : w.ownsRow B 5 1 v L (byc l)) (hB : B ≤ w.heap.size) (hL : L ≤ 1000000) :
    Calls Tryd.prog 82 #[v, .int .i64 x, .int .i64 10] w fun e w' => ∃ v' L', e = .returned v' ∧ L < L' ∧ L' ≤ L + 2 ∧ w'.ownsRow B 5 1 v' L' (byc (l ++ decL x.toNat)) ∧ Below B w w' := by
  obtain ⟨a, cap, rfl⟩ := own_shape hown
  have hw : IntKind.u64.wrap x = x := IntWalk.u64_in _ (by omega)
  have hlt : ¬ x < 0 := by omega
  have hc := Lib.hid (AppUint_any B _ L l x w h0 h1 hown hB hL)
  clear hown hB hL h1
  go_enter Tryd.func82, Tryd.ntmps82
  go_wp2_with fail
  refine hc.out.mono ?_
  rintro e w1 ⟨v', L', rfl, q1, q2, hown', b1⟩
  obtain ⟨a2, cap2, rfl⟩ := own_shape hown'
  go_wp2
  go_ret
  exact ⟨_, L', rfl, q1, q2, hown', b1⟩

set_option maxRecDepth 100000 in
set_option maxHeartbeats 4000000 in
theorem AppendInt_any (B : Nat) (v : Value) (L : Nat) (l : List UInt8) (x : Int) (w : World) (h0 : 0 ≤ x) (h1 : x < 100) (hown : w.ownsRow B 5 1 v L (byc l)) (hB : B ≤ w.heap.size) (hL : L ≤ 1000000) :
    Calls Tryd.prog 63 #[v, .int .i64 x, .int .i64 10] w fun e w' => ∃ v' L', e = .returned v' ∧ L < L' ∧ L' ≤ L + 2 ∧ w'.ownsRow B 5 1 v' L' (byc (l ++ decL x.toNat)) ∧ Below B w w' := by
  obtain ⟨a, cap, rfl⟩ := own_shape hown
  have hc := Lib.hid (AppInt_any B _ L l x w h0 h1 hown hB hL)
  clear hown hB hL h1 h0
  go_enter Tryd.func63, Tryd.ntmps63
  go_wp2_with fail
  refine hc.out.mono ?_
  rintro e w1 ⟨v', L', rfl, q1, q2, hown', b1⟩
  obtain ⟨a2, cap2, rfl⟩ := own_shape hown'
  go_wp2
  go_ret
  exact ⟨_, L', rfl, q1, q2, hown', b1⟩
end Go.Proofs.YtgaadcinhaphpaaDoor
