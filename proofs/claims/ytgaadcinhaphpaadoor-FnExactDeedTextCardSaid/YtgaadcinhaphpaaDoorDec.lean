/- Decimal of the specification, for any number below 10^18. Conditions: told by the code. -/
import Derived.Test.YtgaadcinhaphpaaDoorMem
import Derived.Laws.BytesArg
import Derived.Lib.AppendStr
import Derived.Lib.Hide
import Derived.Deep.RegionWith
import Derived.Deep.DeepCutAuto
import Derived.IntWalk
namespace Go.Proofs.YtgaadcinhaphpaaDoor
open Go.RowKit Go.Deep
set_option linter.unusedVariables false

/-- a number in decimal -/
def decW (n : Nat) : List UInt8 := if h : n < 10 then [UInt8.ofNat (48 + n)] else decW (n / 10) ++ [UInt8.ofNat (48 + n % 10)]
termination_by n
decreasing_by omega
def decS (n : Nat) : ByteArray := ⟨(decW n).toArray⟩
theorem decW_small {n : Nat} (h : n < 10) : decW n = [UInt8.ofNat (48 + n)] := by rw [decW, dif_pos h]
theorem decW_more {n : Nat} (h : ¬ n < 10) : decW n = decW (n / 10) ++ [UInt8.ofNat (48 + n % 10)] := by rw [decW, dif_neg h]
theorem decS_join {n : Nat} (h : ¬ n < 10) : decS (n / 10) ++ decS (n % 10) = decS n := by
  have h2 : n % 10 < 10 := Nat.mod_lt _ (by omega)
  simp only [decS, ByteArray.mk_append_mk]
  rw [decW_more h, decW_small h2]
theorem decW_len : ∀ (f n : Nat), n < 10 ^ (f + 1) → (decW n).length ≤ f + 1
  | 0, n, h => by rw [decW_small (by omega)]; simp
  | f + 1, n, h => by
    by_cases h1 : n < 10
    · rw [decW_small h1]; simp
    · rw [decW_more h1, List.length_append]
      have := decW_len f (n / 10) (by rw [Nat.div_lt_iff_lt_mul (by omega), ← Nat.pow_succ]; exact h)
      simp; omega
theorem decS_size {n : Nat} (h : n < 10 ^ 18) : (decS n).size ≤ 18 := by
  have := decW_len 17 n h
  simpa [decS, ByteArray.size] using this

theorem dc_byte {P : Program} (u : World) (src dst e : TypeId) (hs : P.underlying src = some (.slice e)) (he : P.underlying e = some (.int .u8)) (hd : P.underlying dst = some .string) (b c n : Nat) (hn : n < 10) (hc : u.cell? ⟨b, 0, none⟩ = some (.int .u8 (48 + (n : Int)))) :
    (convert src dst (.slice (some ⟨b, 0, none⟩) 1 c)).run P u = .ok (.string (decS n)) u := by
  have h1 : ((UInt8.ofNat (48 + n)).toNat : Int) = 48 + (n : Int) := by
    rw [UInt8.toNat_ofNat']; omega
  have := run_convert_bytes_back (P := P) u src dst e ⟨b, 0, none⟩ c [UInt8.ofNat (48 + n)] hs he hd (fun j hj => by
    have : j = 0 := by simpa using hj
    subst this
    rw [List.getElem_cons_zero, h1]
    simpa [Addr.add] using hc)
  have e1 : decS n = ⟨[UInt8.ofNat (48 + n)].toArray⟩ := by rw [decS, decW_small hn]
  rw [e1]
  exact this
theorem dc_back {a w1 : World} {p : Addr} {v : Value} (b : Below a.heap.size a w1) (h1 : p.block < a.heap.size) (h2 : a.cell? p = some v) : w1.cell? p = some v := by rw [b.cell h1]; exact h2
theorem dc_back1 {w w1 : World} {v : Value} {t : TypeId} (b : Below (w.alloc (.cells #[v] t)).drew.heap.size (w.alloc (.cells #[v] t)).drew w1) : w1.cell? ⟨w.heap.size, 0, none⟩ = some v := dc_back b (by simp) (by simp)
theorem dc_back0 {w w1 : World} {v : Value} {t : TypeId} (b : Below (w.alloc (.cells #[v] t)).heap.size (w.alloc (.cells #[v] t)) w1) : w1.cell? ⟨w.heap.size, 0, none⟩ = some v := dc_back b (by simp) (by simp)
theorem dc_top (u : World) (v : Value) (t : TypeId) : (u.alloc (.cells #[v] t)).cell? ⟨u.heap.size, 0, none⟩ = some v := by simp
theorem dc_fin1 {w w1 : World} {o : Obj} (b : Below w.drew.heap.size w.drew w1) : Below w.heap.size w (w1.alloc o) :=
  Below.alloc ((Below.drew (Below.refl w.heap.size w)).trans b) b.size o
theorem dc_fin2 {w w1 : World} {o : Obj} (b : Below (w.alloc o).drew.heap.size (w.alloc o).drew w1) : Below w.heap.size w w1 :=
  ((below1 w o).drew).trans (b.mono (by simp))

set_option maxRecDepth 100000 in
set_option maxHeartbeats 4000000 in
theorem Dec_one (n : Nat) (w : World) (h : n < 10) : Calls Tryd.prog 48 #[.int .i64 (n : Int)] w fun e w' => e = .returned (.string (decS n)) ∧ Below w.heap.size w w' := by
  have hc := dc_byte (P := Tryd.prog) (w.alloc (.cells #[.int .u8 (48 + (n : Int))] 5)) 72 9 5 Tryd.underlying72 Tryd.underlying5 (by kernel_rfl) w.heap.size 1 n h (by simp)
  generalize decS n = s at hc ⊢
  go_enter Tryd.func48, Tryd.ntmps48
  go_wp2
  go_ret
  exact ⟨rfl, below1 _ _⟩

set_option maxRecDepth 100000 in
set_option maxHeartbeats 8000000 in
theorem Dec_step (n : Nat) (h : n < 1000000000000000000) (h1 : ¬ n < 10)
    (hone0 : ∀ w, Calls Tryd.prog 48 #[.int .i64 ((n / 10 : Nat) : Int)] w fun e w' => e = .returned (.string (decS (n / 10))) ∧ Below w.heap.size w w') (w : World) :
    Calls Tryd.prog 48 #[.int .i64 (n : Int)] w fun e w' => e = .returned (.string (decS n)) ∧ Below w.heap.size w w' := by
  have hcg := Lib.hid (fun u b c hc => dc_byte (P := Tryd.prog) u 72 9 5 Tryd.underlying72 Tryd.underlying5 (by kernel_rfl) b c (n % 10) (by omega) hc)
  have h2 := Lib.hid (decS_join h1)
  have hq : (n : Int).tdiv 10 = ((n / 10 : Nat) : Int) := by rw [Int.tdiv_eq_ediv_of_nonneg (by omega)]; omega
  have hr : (n : Int).tmod 10 = ((n % 10 : Nat) : Int) := by rw [Int.tmod_eq_emod_of_nonneg (by omega)]; omega
  have hge : (10 : Int) ≤ (n : Int) := by omega
  have hm : n % 10 < 10 := by omega
  have hqz : n / 10 < 1000000000000000000 := by omega
  have hs : ¬ 9223372036854775807 < (decS (n / 10)).size + (decS (n % 10)).size := by
    have a1 := decS_size (n := n / 10) (Nat.lt_of_lt_of_le hqz (by decide))
    have a2 := decS_size (n := n % 10) (Nat.lt_of_lt_of_le hm (by decide))
    omega
  generalize n / 10 = q at *
  generalize n % 10 = d at *
  obtain ⟨D, hD⟩ : ∃ D : Int, D = (d : Int) := ⟨_, rfl⟩
  obtain ⟨Q, hQ⟩ : ∃ Q : Int, Q = (q : Int) := ⟨_, rfl⟩
  obtain ⟨M, hM⟩ : ∃ M : Int, M = (n : Int) := ⟨_, rfl⟩
  have d0 : 0 ≤ D := by omega
  have d1 : D ≤ 9 := by omega
  rw [← hD] at hcg hr
  rw [← hQ] at hq hone0
  rw [← hM] at hq hr hge ⊢
  have hone' := Lib.hid hone0
  have q1 : 0 ≤ Q ∧ Q < 1000000000000000000 := by omega
  clear hD hQ hM hm hone0 h h1 hqz
  have hw2 : IntKind.u8.wrap (48 + D) = 48 + D := IntWalk.u8_in _ (by omega)
  have hw1 : IntKind.i64.wrap (48 + D) = 48 + D := by rw [IntKind.wrap_i64]; omega
  have hw3 : IntKind.i64.wrap Q = Q := by rw [IntKind.wrap_i64]; omega
  generalize decS q = sq at *
  generalize decS d = sd at *
  generalize decS n = sn at *
  have hcA := hcg.out (w.alloc (.cells #[.int .u8 (48 + D)] 5)).drew w.heap.size 1 (by simp)
  go_enter Tryd.func48, Tryd.ntmps48
  go_upto_region 2 with fail
  go_region_with ((go_at_call 48; refine (hone'.out _).mono ?_; rintro e w1 ⟨rfl, b1⟩; (first | (have hcC := hcg.out w1 w.heap.size 1 (dc_back1 b1)) | (have hcC := hcg.out w1 w.heap.size 1 (dc_back0 b1)) | (have hcB := hcg.out (w1.alloc (.cells #[.int .u8 (48 + D)] 5)) w1.heap.size 1 (dc_top w1 _ _)))))
  all_goals go_wp2
  all_goals go_ret
  all_goals refine ⟨show Ending.returned (.string (sq ++ sd)) = _ by rw [h2.out], ?_⟩
  all_goals (first | exact dc_fin2 b1 | exact dc_fin1 b1)

theorem Dec_any : ∀ (f n : Nat), n < f → n < 1000000000000000000 → ∀ w, Calls Tryd.prog 48 #[.int .i64 (n : Int)] w fun e w' => e = .returned (.string (decS n)) ∧ Below w.heap.size w w'
  | 0, n, h, _, _ => absurd h (Nat.not_lt_zero n)
  | f + 1, n, h, h9, w => by
    by_cases h1 : n < 10
    · exact Dec_one n w h1
    · exact Dec_step n h9 h1 (fun u => Dec_any f (n / 10) (by omega) (by omega) u) w

/-- any number below 10^18 -/
theorem Dec_all (n : Nat) (w : World) (h : n < 1000000000000000000) : Calls Tryd.prog 48 #[.int .i64 (n : Int)] w fun e w' => e = .returned (.string (decS n)) ∧ Below w.heap.size w w' := Dec_any (n + 1) n (Nat.lt_succ_self n) h w
end Go.Proofs.YtgaadcinhaphpaaDoor
