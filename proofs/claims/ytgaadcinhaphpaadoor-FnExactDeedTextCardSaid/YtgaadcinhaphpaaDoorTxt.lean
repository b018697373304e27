/- Numbers below a hundred in decimal: the specification's Decimal, and strconv's small numbers. Conditions: from 0 to 99. -/
import Derived.Test.YtgaadcinhaphpaaDoorKinds
import Derived.Test.YtgaadcinhaphpaaDoorStep
import Derived.Laws.BytesArg
import Derived.Lib.AppendStr
import Derived.Deep.RegionWith
import Derived.Deep.DeepCutAuto
import Derived.IntWalk
namespace Go.Proofs.YtgaadcinhaphpaaDoor
open Go.RowKit Go.Deep
set_option linter.unusedVariables false

/-- a number below a hundred in decimal -/
def decL (n : Nat) : List UInt8 := if n < 10 then [UInt8.ofNat (48 + n)] else [UInt8.ofNat (48 + n / 10), UInt8.ofNat (48 + n % 10)]
def decB (n : Nat) : ByteArray := ⟨(decL n).toArray⟩

theorem str_cut {P : Program} (w : World) (t : TypeId) (s : ByteArray) (ht : P.underlying t = some .string) (l h : Nat) (h1 : l ≤ h) (h2 : h ≤ s.size) :
    (Instr.slice t (.string s) (some (.int .i64 (l : Int))) (some (.int .i64 (h : Int))) none).run P w = .ok (.string (s.extract l h)) w := by
  simp [Instr.slice, run_underlying ht, Instr.sliceBounds, run_sliceBound, *]
theorem small_one : ∀ k : Fin 10, (ByteArray.mk #[48, 49, 50, 51, 52, 53, 54, 55, 56, 57, 97, 98, 99, 100, 101, 102, 103, 104, 105, 106, 107, 108, 109, 110, 111, 112, 113, 114, 115, 116, 117, 118, 119, 120, 121, 122]).extract k.1 (k.1 + 1) = decB k.1 := by decide +kernel

theorem two_digits (S : ByteArray) (hS : ∀ k : Fin 100, 10 ≤ k.1 → S.extract (k.1 * 2) (k.1 * 2 + 2) = decB k.1) (n : Nat) (h : n < 100) (h1 : 10 ≤ n) : S.extract (n * 2) (n * 2 + 2) = decB n := hS ⟨n, h⟩ h1

set_option maxRecDepth 100000 in
set_option maxHeartbeats 4000000 in
theorem small_any (n : Nat) (w : World) (h : n < 100) : Calls Tryd.prog 85 #[.int .i64 (n : Int)] w fun e w' => e = .returned (.string (decB n)) ∧ w = w' := by
  by_cases h1 : n < 10
  · go_enter Tryd.func85, Tryd.ntmps85
    go_wp2
    rw [show ((n : Int) + 1) = ((n + 1 : Nat) : Int) by omega, str_cut _ _ _ (by kernel_rfl) n (n + 1) (by omega) (by show n + 1 ≤ 36; omega), small_one ⟨n, h1⟩]
    go_wp2
    go_ret
    exact ⟨rfl, rfl⟩
  · go_enter Tryd.func85, Tryd.ntmps85
    go_wp2
    rw [show ((n : Int) * 2 + 2) = ((n * 2 + 2 : Nat) : Int) by omega, show ((n : Int) * 2) = ((n * 2 : Nat) : Int) by omega, str_cut _ _ _ (by kernel_rfl) (n * 2) (n * 2 + 2) (by omega) (Nat.le_trans (show n * 2 + 2 ≤ 200 by omega) (by decide +kernel)), two_digits _ ?hS n h (by omega)]
    case hS => decide +kernel
    go_wp2
    go_ret
    exact ⟨rfl, rfl⟩

theorem oneByte {P : Program} (u : World) (src dst e : TypeId) (hs : P.underlying src = some (.slice e)) (he : P.underlying e = some (.int .u8)) (hd : P.underlying dst = some .string) (b c n : Nat) (hn : n < 10) (hc : u.cell? ⟨b, 0, none⟩ = some (.int .u8 (48 + (n : Int)))) :
    (convert src dst (.slice (some ⟨b, 0, none⟩) 1 c)).run P u = .ok (.string (decB n)) u := by
  have h1 : ((UInt8.ofNat (48 + n)).toNat : Int) = 48 + (n : Int) := by
    rw [UInt8.toNat_ofNat']; omega
  have := run_convert_bytes_back (P := P) u src dst e ⟨b, 0, none⟩ c [UInt8.ofNat (48 + n)] hs he hd (fun j hj => by
    have : j = 0 := by simpa using hj
    subst this
    rw [List.getElem_cons_zero, h1]
    simpa [Addr.add] using hc)
  have e1 : decB n = ⟨[UInt8.ofNat (48 + n)].toArray⟩ := by simp [decB, decL, hn]
  rw [e1]
  exact this
theorem decB_size (n : Nat) : (decB n).size ≤ 2 := by
  unfold decB decL ByteArray.size
  by_cases h : n < 10 <;> simp [h]
theorem cell_back {a w1 : World} {p : Addr} {v : Value} (b : Below a.heap.size a w1) (h1 : p.block < a.heap.size) (h2 : a.cell? p = some v) : w1.cell? p = some v := by rw [b.cell h1]; exact h2
theorem back1 {w w1 : World} {v : Value} {t : TypeId} (b : Below (w.alloc (.cells #[v] t)).drew.heap.size (w.alloc (.cells #[v] t)).drew w1) : w1.cell? ⟨w.heap.size, 0, none⟩ = some v := cell_back b (by simp) (by simp)
theorem back0 {w w1 : World} {v : Value} {t : TypeId} (b : Below (w.alloc (.cells #[v] t)).heap.size (w.alloc (.cells #[v] t)) w1) : w1.cell? ⟨w.heap.size, 0, none⟩ = some v := cell_back b (by simp) (by simp)
theorem top1 (u : World) (v : Value) (t : TypeId) : (u.alloc (.cells #[v] t)).cell? ⟨u.heap.size, 0, none⟩ = some v := by simp
theorem fin1 {w w1 : World} {o : Obj} (b : Below w.drew.heap.size w.drew w1) : Below w.heap.size w (w1.alloc o) :=
  Below.alloc ((Below.drew (Below.refl w.heap.size w)).trans b) b.size o
theorem fin2 {w w1 : World} {o : Obj} (b : Below (w.alloc o).drew.heap.size (w.alloc o).drew w1) : Below w.heap.size w w1 :=
  ((below1 w o).drew).trans (b.mono (by simp))
theorem dec_two {n : Nat} (h : n < 100) (h1 : ¬ n < 10) : decB (n / 10) ++ decB (n % 10) = decB n := by
  have a : n / 10 < 10 := by omega
  have b : n % 10 < 10 := by omega
  simp only [decB, decL, a, b, h1, if_true, if_false]
  rfl

set_option maxRecDepth 100000 in
set_option maxHeartbeats 4000000 in
theorem Decimal_one (n : Nat) (w : World) (h : n < 10) : Calls Tryd.prog 48 #[.int .i64 (n : Int)] w fun e w' => e = .returned (.string (decB n)) ∧ Below w.heap.size w w' := by
  have hc := oneByte (P := Tryd.prog) (w.alloc (.cells #[.int .u8 (48 + (n : Int))] 5)) 72 9 5 Tryd.underlying72 Tryd.underlying5 (by kernel_rfl) w.heap.size 1 n h (by simp)
  generalize decB n = s at hc ⊢
  go_enter Tryd.func48, Tryd.ntmps48
  go_wp2
  go_ret
  exact ⟨rfl, below1 _ _⟩

set_option maxRecDepth 100000 in
set_option maxHeartbeats 8000000 in
theorem Decimal_any (n : Nat) (w : World) (h : n < 100) : Calls Tryd.prog 48 #[.int .i64 (n : Int)] w fun e w' => e = .returned (.string (decB n)) ∧ Below w.heap.size w w' := by
  by_cases h1 : n < 10
  · exact Decimal_one n w h1
  · have hcg := Lib.hid (fun u b c hc => oneByte (P := Tryd.prog) u 72 9 5 Tryd.underlying72 Tryd.underlying5 (by kernel_rfl) b c (n % 10) (by omega) hc)
    have h2 := Lib.hid (dec_two h h1)
    have hq : (n : Int).tdiv 10 = ((n / 10 : Nat) : Int) := by rw [Int.tdiv_eq_ediv_of_nonneg (by omega)]; omega
    have hr : (n : Int).tmod 10 = ((n % 10 : Nat) : Int) := by rw [Int.tmod_eq_emod_of_nonneg (by omega)]; omega
    have hge : (10 : Int) ≤ (n : Int) := by omega
    have hd := Lib.hid (show n / 10 < 10 by omega)
    have hm : n % 10 < 10 := by omega
    generalize n / 10 = q at *
    generalize n % 10 = d at *
    obtain ⟨D, hD⟩ : ∃ D : Int, D = (d : Int) := ⟨_, rfl⟩
    obtain ⟨Q, hQ⟩ : ∃ Q : Int, Q = (q : Int) := ⟨_, rfl⟩
    obtain ⟨M, hM⟩ : ∃ M : Int, M = (n : Int) := ⟨_, rfl⟩
    have d0 : 0 ≤ D := by omega
    have d1 : D ≤ 9 := by omega
    rw [← hD] at hcg hr
    rw [← hQ] at hq
    rw [← hM] at hq hr hge ⊢
    have hone := fun w => Decimal_one q w hd.out
    rw [← hQ] at hone
    have hone' := Lib.hid hone
    have q1 : 0 ≤ Q ∧ Q ≤ 9 := by have := hd.out; omega
    clear hD hQ hM hm hone
    have hw2 : IntKind.u8.wrap (48 + D) = 48 + D := IntWalk.u8_in _ (by omega)
    have hw1 : IntKind.i64.wrap (48 + D) = 48 + D := by rw [IntKind.wrap_i64]; omega
    have hw3 : IntKind.i64.wrap Q = Q := by rw [IntKind.wrap_i64]; omega
    clear h1
    have hs : ¬ 9223372036854775807 < (decB q).size + (decB d).size := by have := decB_size q; have := decB_size d; omega
    generalize decB q = sq at *
    generalize decB d = sd at *
    generalize decB n = sn at *
    have hcA := hcg.out (w.alloc (.cells #[.int .u8 (48 + D)] 5)).drew w.heap.size 1 (by simp)
    go_enter Tryd.func48, Tryd.ntmps48
    go_upto_region 2 with fail
    go_region_with ((go_at_call 48; refine (hone'.out _).mono ?_; rintro e w1 ⟨rfl, b1⟩; (first | (have hcC := hcg.out w1 w.heap.size 1 (back1 b1)) | (have hcC := hcg.out w1 w.heap.size 1 (back0 b1)) | (have hcB := hcg.out (w1.alloc (.cells #[.int .u8 (48 + D)] 5)) w1.heap.size 1 (top1 w1 _ _)))))
    all_goals go_wp2
    all_goals go_ret
    all_goals refine ⟨show Ending.returned (.string (sq ++ sd)) = _ by rw [h2.out], ?_⟩
    all_goals (first | exact fin2 b1 | exact fin1 b1)
end Go.Proofs.YtgaadcinhaphpaaDoor
