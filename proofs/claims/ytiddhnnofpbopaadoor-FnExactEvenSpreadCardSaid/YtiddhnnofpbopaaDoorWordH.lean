/- WordH: several texts in one (Word8, Word9, Word10, Word11, Word12, Word13, Word14). Conditions: told in each. -/
import Derived.Test.YtiddhnnofpbopaaDoorWordG
import Derived.Lib.BitFns
import Derived.Lib.ItoaNum
import Derived.Lib.Small
import Derived.Lib.Walk
import Derived.Deep.RegionWith
import Derived.Deep.DeepCutAuto
import Derived.Deep.RegionHeld3
import Derived.Test.YtiddhnnofpbopaaDoorNumG
import Derived.BigRegion
/- guessDigit of the project: a digit of a quotient out of three words by two, or one more. Conditions: the divisor's highest bit is set; told by the code. -/
namespace Go.Proofs.YtiddhnnofpbopaaDoor
open Go.RowKit Go.Deep
set_option linter.unusedVariables false

theorem or_words (a b : Nat) (ha : a < 4294967296) (hb : b < 4294967296) : bits .or .u64 ((a : Int) * 4294967296) (b : Int) = ((a * 4294967296 + b : Nat) : Int) := by
  have e := bits_or_u64_nat (a * 4294967296) b (by omega) (by omega)
  rw [show ((a : Int) * 4294967296) = ((a * 4294967296 : Nat) : Int) by omega, e, show a * 4294967296 = a * 2 ^ 32 by rfl, or_low a b 32 (by simpa using hb)]

theorem guess_first {B H p0 y1 y0 q : Nat} (hy : 0 < y1) (l0 : p0 < B) (hge : ∀ G, H * B + p0 < G * (y1 * B + y0) → q < G) : q ≤ H / y1 := by
  have h1 := Nat.div_add_mod H y1
  have h2 := Nat.mod_lt H hy
  apply Nat.le_of_lt_succ
  apply hge
  generalize H / y1 = u at *
  generalize H % y1 = v at *
  have h3 : (y1 * u + v + 1) * B ≤ (y1 * u + y1) * B := Nat.mul_le_mul_right _ (by omega)
  have e : u.succ * (y1 * B + y0) = (y1 * u + y1) * B + u.succ * y0 := by rw [Nat.succ_eq_add_one]; grind
  rw [e, ← h1]
  rw [Nat.add_mul (y1 * u + v), Nat.one_mul] at h3
  omega
/-- what the guess is -/
def GuessI (q p2 p1 p0 y1 y0 : Nat) (w : World) (e : Ending) (w' : World) : Prop :=
  ∃ G : Nat, e = .returned (.int .u64 (G : Int)) ∧ q ≤ G ∧ G ≤ 4294967296 ∧ G * (y1 * 4294967296 + y0) ≤ (p2 * 4294967296 + p1) * 4294967296 + p0 ∧ ∃ k, w' = w.drewN k

set_option maxRecDepth 100000 in
set_option maxHeartbeats 4000000 in
theorem guess_any (g i pc by' oy yc n n1 n0 p2 p1 p0 y1 y0 q : Nat) (w : World) (e1 : n = n1 + 1) (e0 : n1 = n0 + 1)
    (hn : n < 1000000000000) (c2 : w.cell? ⟨g, i + n, none⟩ = some (.int .u32 (p2 : Int))) (c1 : w.cell? ⟨g, i + n1, none⟩ = some (.int .u32 (p1 : Int))) (c0 : w.cell? ⟨g, i + n0, none⟩ = some (.int .u32 (p0 : Int)))
    (d1 : w.cell? ⟨by', oy + n1, none⟩ = some (.int .u32 (y1 : Int))) (d0 : w.cell? ⟨by', oy + n0, none⟩ = some (.int .u32 (y0 : Int)))
    (l2 : p2 < 4294967296) (l1 : p1 < 4294967296) (l0 : p0 < 4294967296) (m1 : y1 < 4294967296) (m0 : y0 < 4294967296) (hy : 4294967296 ≤ 2 * y1) (hst : (p2 * 4294967296 + p1) / y1 ≤ 4294967297)
    (hq : q < 4294967296) (hge : ∀ G, (p2 * 4294967296 + p1) * 4294967296 + p0 < G * (y1 * 4294967296 + y0) → q < G) :
    Calls Tryd.prog 76 #[.slice (some ⟨g, i, none⟩) (n + 1) pc, .slice (some ⟨by', oy, none⟩) n yc] w (GuessI q p2 p1 p0 y1 y0 w) := by
  have hor := or_words p2 p1 l2 l1
  have hH : p2 * 4294967296 + p1 < 18446744073709551616 := by omega
  have hle0 : q ≤ (p2 * 4294967296 + p1) / y1 := guess_first (show 0 < y1 by omega) l0 hge
  have hrem := Nat.mod_lt (p2 * 4294967296 + p1) (show 0 < y1 by omega)
  have hsum : (p2 * 4294967296 + p1) / y1 * y1 + (p2 * 4294967296 + p1) % y1 = p2 * 4294967296 + p1 := by rw [Nat.mul_comm]; exact Nat.div_add_mod _ _
  have yd1 : ((p2 * 4294967296 + p1 : Nat) : Int) / (y1 : Int) = (((p2 * 4294967296 + p1) / y1 : Nat) : Int) := rfl
  have yd2 : ((p2 * 4294967296 + p1 : Nat) : Int) % (y1 : Int) = (((p2 * 4294967296 + p1) % y1 : Nat) : Int) := rfl
  have yd3 : ((p2 * 4294967296 + p1 : Nat) : Int).tdiv (y1 : Int) = (((p2 * 4294967296 + p1) / y1 : Nat) : Int) := by rw [Int.tdiv_eq_ediv_of_nonneg (by omega)]; exact yd1
  have yd4 : ((p2 * 4294967296 + p1 : Nat) : Int).tmod (y1 : Int) = (((p2 * 4294967296 + p1) % y1 : Nat) : Int) := by rw [Int.tmod_eq_emod_of_nonneg (by omega)]; exact yd2
  unfold GuessI
  obtain ⟨H, hHH⟩ : ∃ H, p2 * 4294967296 + p1 = H := ⟨_, rfl⟩
  rw [hHH] at hor hH hle0 hrem hsum yd1 yd2 yd3 yd4 hst hge
  rw [hHH]
  replace hHH := Lib.hid hHH
  have hge' := Lib.hid hge
  have i1 : (n : Int) - 1 = (n1 : Int) := by omega
  have i0 : (n : Int) - 2 = (n0 : Int) := by omega
  have k0 : n < n + 1 := by omega
  have k1 : n1 < n + 1 := by omega
  have k2 : n0 < n + 1 := by omega
  have k3 : n1 < n := by omega
  have k4 : n0 < n := by omega
  have z0 : ((y1 : Int) == 0) = false := by simp; omega
  have z1 : ¬ (y1 : Int) = 0 := by omega
  generalize hg0 : H / y1 = g0 at *
  generalize hr0 : H % y1 = r0 at *
  have e1' := Lib.hid e1
  have e0' := Lib.hid e0
  have hsum' := Lib.hid hsum
  clear hge e1 e0 hg0 hr0 hsum
  go_enter Tryd.func76, Tryd.ntmps76
  go_wp2
  go_quiet (fail)
  go_wp2
  go_quiet (fail)
  go_wp2
  go_loopw [7, 8] (fun gv rv wr => ∃ gs r j : Nat, gv = .int .u64 (gs : Int) ∧ rv = .int .u64 (r : Int) ∧ wr = w.drewN j ∧ Hid (gs * y1 + r = H) ∧ q ≤ gs ∧ gs ≤ 4294967297 ∧ (gs ≤ 4294967296 ∨ r < 4294967296) ∧ r < 8589934592) (fun gv _ _ => (intOf gv).toNat)
  case atStart => exact ⟨g0, r0, _, rfl, rfl, World.drewN_drewN _ _ _, hsum'.out, hle0, hst, Or.inr (by omega), by omega⟩
  case round =>
    obtain ⟨gs, r, j, rfl, rfl, rfl, hs, hqs, hgs, hor2, hr⟩ := hrel
    by_cases hlt : r < 4294967296
    · by_cases hgl : gs < 4294967296
      · have hI : (r : Int) < 4294967296 := by omega
        have hJ : (gs : Int) < 4294967296 := by omega
        have hD : decide ((gs : Int) < 4294967296) = true := decide_eq_true hJ
        have hor3 := or_words r p0 hlt l0
        have hm := Nat.mul_le_mul (show gs ≤ 4294967295 by omega) (show y0 ≤ 4294967295 by omega)
        have hm2 : gs * y0 ≤ 18446744065119617025 := by omega
        clear hm
        have hpI : (gs : Int) * (y0 : Int) = ((gs * y0 : Nat) : Int) := (Int.natCast_mul _ _).symm
        obtain ⟨Q, hQe⟩ : ∃ Q, r * 4294967296 + p0 = Q := ⟨_, rfl⟩
        rw [hQe] at hor3
        by_cases hb : gs * y0 ≤ r * 4294967296 + p0
        · have hbr := Lib.hid (guess_break hs.out hb)
          have hQ : r * 4294967296 + p0 < 18446744073709551616 := by omega
          generalize gs * y0 = pr at *
          rw [hQe] at hQ hb
          clear hQe
          have hgB := Lib.hid (show gs ≤ 4294967296 by omega)
          have hw1 : IntKind.u64.wrap (pr : Int) = (pr : Int) := by rw [IntKind.wrap_u64]; omega
          obtain ⟨RS, hRS⟩ : ∃ RS : Int, (r : Int) * 4294967296 = RS := ⟨_, rfl⟩
          have hw2 : IntKind.u64.wrap ((r : Int) * 4294967296) = RS := by rw [IntKind.wrap_u64]; omega
          rw [hRS] at hor3
          clear hRS
          have hcm : decide (pr ≤ Q) = true := decide_eq_true (by omega)
          clear hor2 hlt hgl hgs hr hJ
          go_wp2
          go_quiet (fail)
          go_wp2
          go_ret
          exact ⟨gs, rfl, hqs, hgB.out, hbr.out, _, by first | rfl | rw [World.drewN_drewN]⟩
        · have hbr := Lib.hid (guess_go hs.out (show r * 4294967296 + p0 < gs * y0 by omega))
          replace hb : r * 4294967296 + p0 < gs * y0 := by omega
          have hQ : r * 4294967296 + p0 < 18446744073709551616 := by omega
          have hg1 := hge'.out gs hbr.out
          have hs2 := Lib.hid (show (gs - 1) * y1 + (r + y1) = H by
            obtain ⟨u, rfl⟩ : ∃ u, gs = u + 1 := ⟨gs - 1, by omega⟩
            have := hs.out
            rw [Nat.add_mul, Nat.one_mul] at this
            rw [Nat.add_sub_cancel]; omega)
          generalize gs * y0 = pr at *
          rw [hQe] at hQ hb
          clear hQe
          obtain ⟨g2, hg2⟩ : ∃ g2, gs - 1 = g2 := ⟨_, rfl⟩
          obtain ⟨r2, hr2⟩ : ∃ r2, r + y1 = r2 := ⟨_, rfl⟩
          have hx1 : IntKind.u64.wrap ((gs : Int) - 1) = (g2 : Int) := by rw [IntKind.wrap_u64]; omega
          have hx2 : IntKind.u64.wrap ((r : Int) + (y1 : Int)) = (r2 : Int) := by rw [IntKind.wrap_u64]; omega
          rw [hg2, hr2] at hs2
          have hA1 := Lib.hid (show q ≤ g2 ∧ g2 ≤ 4294967297 ∧ g2 ≤ 4294967296 ∧ r2 < 8589934592 ∧ g2 < gs by omega)
          have hw1 : IntKind.u64.wrap (pr : Int) = (pr : Int) := by rw [IntKind.wrap_u64]; omega
          obtain ⟨RS, hRS⟩ : ∃ RS : Int, (r : Int) * 4294967296 = RS := ⟨_, rfl⟩
          have hw2 : IntKind.u64.wrap ((r : Int) * 4294967296) = RS := by rw [IntKind.wrap_u64]; omega
          rw [hRS] at hor3
          have hcm : decide (pr ≤ Q) = false := decide_eq_false (by omega)
          clear hRS hor2 hlt hgl hgs hr hJ hg2 hr2
          go_wp2
          go_quiet (fail)
          clear hI hD hw1 hw2 hor3 hpI hm2 hQ hb hg1
          go_wp2
          go_roundw
          case rel => exact ⟨g2, r2, _, rfl, rfl, by first | rfl | rw [World.drewN_drewN], hs2, hA1.out.1, hA1.out.2.1, Or.inl hA1.out.2.2.1, hA1.out.2.2.2.1⟩
          case measure => simp [intOf]; exact hA1.out.2.2.2.2
      · have hJ : ¬ (gs : Int) < 4294967296 := by omega
        have hg9 : 1 ≤ gs := by omega
        have hs2 := Lib.hid (show (gs - 1) * y1 + (r + y1) = H by
          obtain ⟨u, rfl⟩ : ∃ u, gs = u + 1 := ⟨gs - 1, by omega⟩
          have := hs.out
          rw [Nat.add_mul, Nat.one_mul] at this
          rw [Nat.add_sub_cancel]; omega)
        have hA1 := Lib.hid (show q ≤ gs - 1 ∧ gs - 1 ≤ 4294967297 ∧ gs - 1 ≤ 4294967296 ∧ r + y1 < 8589934592 by omega)
        have hI : (r : Int) < 4294967296 := by omega
        have hD : decide ((gs : Int) < 4294967296) = false := decide_eq_false hJ
        clear hor2 hgl hlt hr hJ
        go_wp2
        go_quiet (fail)
        go_wp2
        go_roundw
        case rel => exact ⟨gs - 1, r + y1, _, by go_num, by go_num, by first | rfl | rw [World.drewN_drewN], hs2, hA1.out.1, hA1.out.2.1, Or.inl hA1.out.2.2.1, hA1.out.2.2.2⟩
        case measure => simp [intOf]; omega
    · have hI : ¬ (r : Int) < 4294967296 := by omega
      have hgl : gs ≤ 4294967296 := by omega
      have hfin := Lib.hid (guess_break (p0 := p0) hs.out (show gs * y0 ≤ r * 4294967296 + p0 by
        have := Nat.mul_le_mul hgl (show y0 ≤ 4294967296 by omega)
        omega))
      clear hor2 hlt
      go_wp2
      go_ret
      exact ⟨gs, rfl, hqs, hgl, hfin.out, _, rfl⟩
end Go.Proofs.YtiddhnnofpbopaaDoor

/- putBack and takeOut of the project: a multiple of the divisor is taken out of a part of a list, in place. Conditions: the divisor has two words or more, its highest bit is set; fewer than 2^40 words. -/
namespace Go.Proofs.YtiddhnnofpbopaaDoor
open Go.RowKit Go.Deep
set_option linter.unusedVariables false

/-- nothing but block g has turned -/
structure Upon (g : Nat) (w w' : World) : Prop where
  os : w'.os = w.os
  tape : w'.tape = w.tape
  output : w'.output = w.output
  size : w'.heap.size = w.heap.size
  block : ∀ k, k ≠ g → w'.heap[k]? = w.heap[k]?
theorem Upon.refl (g : Nat) (w : World) : Upon g w w := ⟨rfl, rfl, rfl, rfl, fun _ _ => rfl⟩
theorem Upon.trans {g : Nat} {a b c : World} (h : Upon g a b) (k : Upon g b c) : Upon g a c :=
  ⟨k.os.trans h.os, k.tape.trans h.tape, k.output.trans h.output, k.size.trans h.size, fun i hi => (k.block i hi).trans (h.block i hi)⟩
theorem Upon.drewN {g : Nat} {a b : World} (h : Upon g a b) (n : Nat) : Upon g a (b.drewN n) := h.trans ⟨rfl, rfl, rfl, rfl, fun _ _ => rfl⟩
theorem Upon.set {g : Nat} {a b : World} (h : Upon g a b) (i : Nat) (u : Value) : Upon g a (b.setCell ⟨g, i, none⟩ u) :=
  h.trans ⟨rfl, rfl, rfl, by simp [World.setCell], fun k hk => Below.heap_setCell b ⟨g, i, none⟩ u k hk⟩
theorem Upon.cell {g : Nat} {a b : World} (h : Upon g a b) {p : Addr} (hp : p.block ≠ g) : b.cell? p = a.cell? p := World.cell?_of_block (w := a) (h.block p.block hp)
theorem Upon.below {g : Nat} {a b : World} (h : Upon g a b) {B : Nat} (hB : B ≤ g) : Below B a b := ⟨h.os, h.tape, h.output, Nat.le_of_eq h.size.symm, fun k hk => h.block k (by omega)⟩
theorem Upon.same {g : Nat} {a b : World} (h : Upon g a b) {lo hi : Nat} (hg : g < lo ∨ hi ≤ g) : SameOn lo hi a b := fun k h1 h2 => h.block k (by omega)

/-- a list of words that a call works in -/
structure Work (w : World) (lo hi g M cap : Nat) (l : List Nat) : Prop where
  own : Own w lo hi 61 (.slice (some ⟨g, 0, none⟩) M cap) (u32s l)
  len : l.length = M
  dig : ∀ x ∈ l, x < W32
theorem Work.at {w : World} {lo hi g M cap : Nat} {l : List Nat} (h : Work w lo hi g M cap l) {j : Nat} (hj : j < M) : w.cell? ⟨g, j, none⟩ = some (.int .u32 ((l.getD j 0 : Nat) : Int)) ∧ w.frozen? ⟨g, j, none⟩ = false ∧ l.getD j 0 < 4294967296 := by
  have hl := h.len
  obtain ⟨g', cap', hv, -, -, -, hc, hf⟩ := h.own.at (by rw [u32s_length]; omega)
  simp only [Value.slice.injEq, Option.some.injEq, Addr.mk.injEq, and_true] at hv
  obtain ⟨rfl, -, -⟩ := hv
  refine ⟨?_, hf j, h.dig _ (lg_mem (d := 0) (by omega))⟩
  rw [hc j (by rw [u32s_length]; omega), cell_u32 l j (by omega)]
theorem Work.set {w : World} {lo hi g M cap : Nat} {l : List Nat} (h : Work w lo hi g M cap l) (j d : Nat) (hd : d < W32) : Work (w.setCell ⟨g, j, none⟩ (.int .u32 (d : Int))) lo hi g M cap (l.set j d) := by
  refine ⟨?_, by rw [List.length_set]; exact h.len, ?_⟩
  · have := h.own.set j (.int .u32 (d : Int))
    rw [u32s_set] at this; exact this
  · intro x hx
    rcases List.mem_or_eq_of_mem_set hx with h' | h'
    · exact h.dig x h'
    · rw [h']; exact hd
theorem Work.drewN {w : World} {lo hi g M cap : Nat} {l : List Nat} (h : Work w lo hi g M cap l) (n : Nat) : Work (w.drewN n) lo hi g M cap l := ⟨h.own.keep (B := hi) (Nat.le_refl _) (below_drewN (Below.refl _ w) n), h.len, h.dig⟩

/-- what putBack leaves -/
def PutI (lo hi g M cap i n Y : Nat) (l : List Nat) (w : World) (e : Ending) (w' : World) : Prop :=
  (∃ v, e = .returned v) ∧ ∃ l' c, Work w' lo hi g M cap l' ∧ c ≤ 1 ∧ val W32 (l'.drop (i + (n + 1))) = val W32 (l.drop (i + (n + 1))) ∧ val W32 l' + c * W32 ^ (i + (n + 1)) = val W32 l + W32 ^ i * Y ∧ Upon g w w'

theorem put_round {c o s : Nat} (hc : c ≤ 1) (ho : o < 4294967296) (hs : s < 4294967296) : ∃ d c2 : Nat, ((c : Int) + (o : Int) + (s : Int)) % 4294967296 = (d : Int) ∧ ((c : Int) + (o : Int) + (s : Int)) / 4294967296 = (c2 : Int) ∧ d < 4294967296 ∧ c2 ≤ 1 ∧ d + W32 * c2 = o + s + c := by
  refine ⟨(c + o + s) % 4294967296, (c + o + s) / 4294967296, by omega, by omega, by omega, by omega, ?_⟩
  simp only [W32]; omega

set_option maxRecDepth 100000 in
set_option maxHeartbeats 4000000 in
theorem putBack_any (g i M cap pc by' oy yc n Y lo hi : Nat) (l : List Nat) (w : World) (hW : Work w lo hi g M cap l) (hin : i + (n + 1) ≤ M) (hM : M < 1099511627776)
    (hy : ∀ j, j < n → w.cell? ⟨by', oy + j, none⟩ = some (.int .u32 (dgt W32 Y j : Int))) (hYn : Y < W32 ^ n) (hne : by' ≠ g) :
    Calls Tryd.prog 77 #[.slice (some ⟨g, i, none⟩) (n + 1) pc, .slice (some ⟨by', oy, none⟩) n yc] w (PutI lo hi g M cap i n Y l w) := by
  unfold PutI
  have hyb := Lib.hid (dgt_lt w32 Y)
  have hyz := Lib.hid (dgt_big hYn)
  have hYm := Lib.hid (Nat.mod_eq_of_lt (Nat.lt_of_lt_of_le hYn (Nat.pow_le_pow_right (show 0 < W32 by decide) (Nat.le_succ n))))
  have hy' := Lib.hid hy
  have hW' := Lib.hid hW
  clear hW hy hYn
  go_enter Tryd.func77, Tryd.ntmps77
  go_wp2
  go_loopw [4, 8] (fun cv iv wr => ∃ (k c : Nat) (l2 : List Nat), k ≤ n + 1 ∧ cv = .int .u64 (c : Int) ∧ iv = .int .i64 (k : Int) ∧ c ≤ 1 ∧ Hid (Work wr lo hi g M cap l2) ∧ Hid (Upon g w wr) ∧ Hid (val W32 (l2.drop (i + (n + 1))) = val W32 (l.drop (i + (n + 1))) ∧ val W32 l2 + c * W32 ^ (i + k) = val W32 l + W32 ^ i * (Y % W32 ^ k))) (fun _ iv _ => n + 1 - (intOf iv).toNat)
  case atStart => exact ⟨0, 0, l, by omega, rfl, rfl, by omega, hW'.out, Upon.refl _ _, rfl, by rw [Nat.pow_zero, Nat.mod_one]; simp⟩
  case round =>
    obtain ⟨k, c, l2, hk, rfl, rfl, hc, hW2, hU, hv⟩ := hrel
    by_cases hlt : k < n + 1
    · obtain ⟨q1, f1, o1⟩ := hW2.out.at (show i + k < M by omega)
      have hll := Lib.hid (show i + k < l2.length by rw [hW2.out.len]; omega)
      by_cases hlt2 : k < n
      · have q2 := (hU.out.cell (p := ⟨by', oy + k, none⟩) hne).trans (hy'.out k hlt2)
        have s1 := hyb.out k
        simp only [show W32 = 4294967296 from rfl] at s1
        obtain ⟨d, c2, z1, z2, d1, c21, hd⟩ := put_round (c := c) (o := l2.getD (i + k) 0) (s := dgt W32 Y k) hc o1 s1
        have hv2 := Lib.hid (put_back_step (B := W32) l2 hll.out rfl rfl hd hv.out.2)
        have hdr := Lib.hid (show (l2.set (i + k) d).drop (i + (n + 1)) = l2.drop (i + (n + 1)) from List.drop_set_of_lt (by omega))
        clear hd
        generalize l2.getD (i + k) 0 = o at *
        generalize dgt W32 Y k = s at *
        go_wp2
        go_roundw
        case rel => exact ⟨k + 1, c2, l2.set (i + k) d, by omega, rfl, by go_num, c21, hW2.out.set _ _ d1, hU.out.set _ _, by rw [hdr.out]; exact hv.out.1, hv2.out⟩
        case measure => simp [intOf] <;> omega
      · obtain rfl : k = n := by omega
        obtain ⟨d, c2, z1, z2, d1, c21, hd⟩ := put_round (c := c) (o := l2.getD (i + k) 0) (s := 0) hc o1 (by omega)
        have hv2 := Lib.hid (put_back_step (B := W32) (s := 0) l2 hll.out rfl hyz.out.symm hd hv.out.2)
        have hdr := Lib.hid (show (l2.set (i + k) d).drop (i + (k + 1)) = l2.drop (i + (k + 1)) from List.drop_set_of_lt (by omega))
        simp only [Int.natCast_zero, Int.add_zero] at z1 z2
        clear hd
        generalize l2.getD (i + k) 0 = o at *
        go_wp2
        go_roundw
        case rel => exact ⟨k + 1, c2, l2.set (i + k) d, by omega, rfl, by go_num, c21, hW2.out.set _ _ d1, hU.out.set _ _, by rw [hdr.out]; exact hv.out.1, hv2.out⟩
        case measure => simp [intOf] <;> omega
    · obtain rfl : k = n + 1 := by omega
      have hend := Lib.hid (show val W32 l2 + c * W32 ^ (i + (n + 1)) = val W32 l + W32 ^ i * Y by have := hv.out.2; rw [hYm.out] at this; exact this)
      go_wp2
      go_end0
      exact ⟨⟨_, rfl⟩, l2, c, hW2.out, hc, hv.out.1, hend.out, hU.out⟩

theorem dgt_shift (B X i k : Nat) : dgt B (X / B ^ i) k = dgt B X (i + k) := by rw [dgt, dgt, Nat.div_div_eq_div_mul, Nat.pow_add]
/-- one word of what is taken out -/
theorem out_round {o s b : Nat} (ho : o < 4294967296) (hs : s < 4294967296) (hb : b ≤ 1) : ∃ G1 G2 d b2 : Nat, IntKind.u64.wrap ((o : Int) - (s : Int)) = (G1 : Int) ∧ IntKind.u64.wrap ((G1 : Int) - (b : Int)) = (G2 : Int) ∧ (G2 : Int) % 4294967296 = (d : Int) ∧ (G2 : Int) / 9223372036854775808 = (b2 : Int) ∧ d < 4294967296 ∧ b2 ≤ 1 ∧ d + s + b = o + W32 * b2 := by
  have e1 : IntKind.u64.wrap ((o : Int) - (s : Int)) = (((if s ≤ o then o - s else o + 18446744073709551616 - s) : Nat) : Int) := by
    rw [IntKind.wrap_u64]; split <;> omega
  rcases Nat.lt_or_ge o (s + b) with h | h
  · refine ⟨_, o + 18446744073709551616 - s - b, o + 4294967296 - s - b, 1, e1, ?_, by omega, by omega, by omega, by omega, by simp only [W32]; omega⟩
    rw [IntKind.wrap_u64]; split <;> omega
  · refine ⟨_, o - s - b, o - s - b, 0, e1, ?_, by omega, by omega, by omega, by omega, by simp only [W32]; omega⟩
    rw [IntKind.wrap_u64, if_pos (by omega)]; omega
/-- what is carried at place k: behind the divisor's last word nothing more comes -/
def crr (Y G n k : Nat) : Nat := if k ≤ n then scarry W32 Y G k else 0

/-- what takeOut leaves -/
def TakeI (lo hi g M cap i q Y : Nat) (l : List Nat) (w : World) (e : Ending) (w' : World) : Prop :=
  e = .returned (.int .u32 (q : Int)) ∧ ∃ l', Work w' lo hi g M cap l' ∧ val W32 l' = val W32 l % (Y * W32 ^ i) ∧ Upon g w w'

set_option maxRecDepth 100000 in
set_option maxHeartbeats 2000000 in
theorem takeOut_any (g i M cap pc by' oy yc n n1 n0 Y lo hi : Nat) (l : List Nat) (w : World) (e1 : n = n1 + 1) (e0 : n1 = n0 + 1) (hW : Work w lo hi g M cap l) (hin : i + (n + 1) ≤ M) (hM : M < 1000000000000)
    (hy : ∀ j, j < n → w.cell? ⟨by', oy + j, none⟩ = some (.int .u32 (dgt W32 Y j : Int))) (hYn : Y < W32 ^ n) (htop : W32 ≤ 2 * dgt W32 Y n1) (hne : by' ≠ g) (hV : val W32 l < Y * W32 ^ (i + 1)) :
    Calls Tryd.prog 62 #[.slice (some ⟨g, i, none⟩) (n + 1) pc, .slice (some ⟨by', oy, none⟩) n yc] w (TakeI lo hi g M cap i (val W32 l / W32 ^ i / Y) Y l w) := by
  unfold TakeI
  have hYp : 0 < Y := by
    rcases Nat.eq_zero_or_pos Y with rfl | h
    · simp at hV
    · exact h
  have hVY : val W32 l / W32 ^ i < Y * W32 := by
    apply (Nat.div_lt_iff_lt_mul (pow_pos' w32 i)).2
    rw [Nat.mul_assoc, Nat.mul_comm W32, ← pow_succ']; exact hV
  have hV0 : val W32 l < W32 ^ (i + (n + 1)) := by
    have h1 : Y * W32 ^ (i + 1) ≤ W32 ^ n * W32 ^ (i + 1) := Nat.mul_le_mul_right _ (Nat.le_of_lt hYn)
    rw [← Nat.pow_add, show n + (i + 1) = i + (n + 1) by omega] at h1
    omega
  have hn2 : 2 ≤ n := by omega
  have t2 := top2 w32 hn2 hYn
  have hVn : val W32 l / W32 ^ i < W32 ^ (n + 1) := by
    apply (Nat.div_lt_iff_lt_mul (pow_pos' w32 i)).2
    rw [← Nat.pow_add, Nat.add_comm]; exact hV0
  have t3 := top3 w32 hn2 hVn
  have hst := guess_start w32 hn2 hYn hVY (by rw [show n - 1 = n1 by omega]; exact htop)
  have hq : val W32 l / W32 ^ i / Y < W32 := (Nat.div_lt_iff_lt_mul hYp).2 (by rw [Nat.mul_comm]; exact hVY)
  have hge := fun G => guess_ge (V := val W32 l / W32 ^ i) (Y := Y) (n := n) (g := G) w32
  have hle := fun G => guess_le (V := val W32 l / W32 ^ i) (Y := Y) (n := n) (g := G) w32
  rw [t2, t3] at hge hle
  rw [show n - 1 = n1 by omega] at hge hle hst
  rw [show n - 2 = n0 by omega] at hge hle
  simp only [dgt_shift, dgt_val l hW.dig] at hge hle hst
  have hT : 0 < dgt W32 Y n1 * W32 + dgt W32 Y n0 := by simp only [W32] at htop ⊢; omega
  have hT1 : 1 ≤ dgt W32 Y n1 := by simp only [W32] at htop ⊢; omega
  have hT2 : W32 ≤ dgt W32 Y n1 * W32 + dgt W32 Y n0 := Nat.le_trans (by have := Nat.mul_le_mul_right W32 hT1; rwa [Nat.one_mul] at this) (Nat.le_add_right _ _)
  obtain ⟨c2, -, l2⟩ := hW.at (show i + n < M by omega)
  obtain ⟨c1, -, l1⟩ := hW.at (show i + n1 < M by omega)
  obtain ⟨c0, -, l0⟩ := hW.at (show i + n0 < M by omega)
  have hguess := guess_any g i pc by' oy yc n n1 n0 _ _ _ _ _ (val W32 l / W32 ^ i / Y) w e1 e0 (by omega) c2 c1 c0 (hy n1 (by omega)) (hy n0 (by omega)) l2 l1 l0 (by have := dgt_lt w32 Y n1; exact this) (by have := dgt_lt w32 Y n0; exact this) htop hst hq (fun G hG => hge G hT hG)
  have hle' := Lib.hid (fun G => hle G hT2)
  have hend := Lib.hid (fun (v G b : Nat) (hv : v < W32 ^ (i + (n + 1))) => take_out_end (v := v) (g := G) (b := b) w32 hv hV0 rfl hYp hYn)
  have hyb := Lib.hid (dgt_lt w32 Y)
  have hyz := Lib.hid (dgt_big hYn)
  have hY0 := Lib.hid hYn
  have hy' := Lib.hid hy
  have hW' := Lib.hid hW
  have hdz := Lib.hid (val_drop_small w32 l (i + (n + 1)) (by rw [hW.len]; omega) hV0)
  replace hguess := Lib.hid hguess
  have hq' : val W32 l / W32 ^ i / Y < 4294967296 := hq
  replace hYp := Lib.hid hYp
  have hyz2 : dgt W32 Y n = 0 := hyz.out
  clear hle hge hW hy hYn htop hV hVY hV0 t2 hVn t3 hst hq hT hT1 hT2 c2 c1 c0 l2 l1 l0 hyz2
  generalize hqq : val W32 l / W32 ^ i / Y = q at *
  replace hqq := Lib.hid hqq
  have e1' := Lib.hid e1
  have e0' := Lib.hid e0
  clear e1 e0
  go_enter Tryd.func62, Tryd.ntmps62
  go_wp2_with fail
  (with_reducible refine hguess.out.mono ?_)
  rintro e wg ⟨G, rfl, hG1, hG2, hG3, jg, rfl⟩
  have hG4 := Lib.hid (hle'.out G hG2 hYp.out hG3)
  have hsc := Lib.hid (fun k => And.intro (scale_step w32 Y G k) (scarry_le w32 Y G k))
  have hse := Lib.hid (scarry_end hY0.out hG2 w32)
  have hmod := Lib.hid (Nat.mod_eq_of_lt hse.out.2)
  have hG1' := Lib.hid hG1
  clear hguess hG3 hG1
  go_wp2
  go_loopw [7, 8, 18] (fun cv bv iv wr => ∃ (k b : Nat) (l2 : List Nat), k ≤ n + 1 ∧ cv = .int .u64 (crr Y G n k : Nat) ∧ bv = .int .u64 (b : Int) ∧ iv = .int .i64 (k : Int) ∧ b ≤ 1 ∧ Hid (Work wr lo hi g M cap l2) ∧ Hid (Upon g w wr) ∧ Hid (val W32 (l2.drop (i + (n + 1))) = 0 ∧ val W32 l2 + W32 ^ i * (Y * G % W32 ^ k) = val W32 l + b * W32 ^ (i + k))) (fun _ _ iv _ => n + 1 - (intOf iv).toNat)
  case atStart => exact ⟨0, 0, l, by omega, by simp [crr, scarry_zero], rfl, rfl, by omega, hW'.out.drewN jg, (Upon.refl _ _).drewN jg, hdz.out, by rw [Nat.pow_zero, Nat.mod_one]; simp⟩
  case round =>
    obtain ⟨k, b, l2, hk, rfl, rfl, rfl, hb, hW2, hU, hv⟩ := hrel
    by_cases hlt : k < n + 1
    · obtain ⟨q1, f1, o1⟩ := hW2.out.at (show i + k < M by omega)
      have hll := Lib.hid (show i + k < l2.length by rw [hW2.out.len]; omega)
      have hc0 : crr Y G n k = scarry W32 Y G k := by unfold crr; rw [if_pos (by omega)]
      obtain ⟨⟨s1, s2⟩, s3⟩ := hsc.out k
      have s5 := dgt_lt w32 (Y * G) k
      obtain ⟨G1, G2', d, b2, x1, x2, x3, x4, x5, x6, x7⟩ := out_round (o := l2.getD (i + k) 0) (s := dgt W32 (Y * G) k) (b := b) o1 s5 hb
      have hv2 := Lib.hid (take_out_step (B := W32) l2 hll.out rfl rfl x7 hv.out.2)
      have hdr := Lib.hid (show (l2.set (i + k) d).drop (i + (n + 1)) = l2.drop (i + (n + 1)) from List.drop_set_of_lt (by omega))
      have hWs := Lib.hid (hW2.out.set (i + k) d x5)
      rw [hc0]
      clear hc0 x7
      by_cases hlt2 : k < n
      · have q2 := (hU.out.cell (p := ⟨by', oy + k, none⟩) hne).trans (hy'.out k hlt2)
        have s4 := hyb.out k
        have hc1 := Lib.hid (show crr Y G n (k + 1) = scarry W32 Y G (k + 1) by unfold crr; rw [if_pos (by omega)])
        have hcs := (hsc.out (k + 1)).2
        have hp := Nat.mul_le_mul (show dgt W32 Y k ≤ 4294967295 by simp only [W32] at s4 ⊢; omega) hG2
        have hpI : (G : Int) * (dgt W32 Y k : Int) = ((dgt W32 Y k * G : Nat) : Int) := by rw [Int.natCast_mul, Int.mul_comm]
        simp only [show W32 = 4294967296 from rfl] at s4 s5
        have hp2 : dgt W32 Y k * G ≤ 18446744069414584320 := by omega
        generalize dgt W32 Y k * G = p at *
        generalize dgt W32 Y k = y at *
        generalize scarry W32 Y G (k + 1) = c' at *
        generalize scarry W32 Y G k = c at *
        generalize dgt W32 (Y * G) k = s at *
        generalize l2.getD (i + k) 0 = o at *
        have s1' : ((c : Int) + (p : Int)) % 4294967296 = (s : Int) := by rw [s1]; simp only [W32]; omega
        have s2' : ((c : Int) + (p : Int)) / 4294967296 = (c' : Int) := by rw [s2]; simp only [W32]; omega
        have cb : c ≤ 4294967295 := by omega
        clear s1 s2 hp s3 hcs
        go_wp2
        go_roundw
        case rel => exact ⟨k + 1, b2, l2.set (i + k) d, by omega, by rw [hc1.out], rfl, by go_num, x6, hWs.out, hU.out.set _ _, by rw [hdr.out]; exact hv.out.1, hv2.out⟩
        case measure => simp [intOf] <;> omega
      · obtain rfl : k = n := by omega
        have hc1 := Lib.hid (show crr Y G k (k + 1) = 0 by unfold crr; rw [if_neg (by omega)])
        have hs := hse.out.1
        rw [← hs] at x1
        simp only [show W32 = 4294967296 from rfl] at s5
        clear s1 s2 s5 hs
        generalize scarry W32 Y G k = c at *
        generalize l2.getD (i + k) 0 = o at *
        have cb : c ≤ 4294967295 := by omega
        have s1' : (c : Int) % 4294967296 = (c : Int) := by omega
        have s2' : (c : Int) / 4294967296 = 0 := by omega
        clear s3
        go_wp2
        go_roundw
        case rel => exact ⟨k + 1, b2, l2.set (i + k) d, by omega, by rw [hc1.out]; rfl, rfl, by go_num, x6, hWs.out, hU.out.set _ _, by rw [hdr.out]; exact hv.out.1, hv2.out⟩
        case measure => simp [intOf] <;> omega
    · obtain rfl : k = n + 1 := by omega
      have hv1 := hv.out.2
      rw [hmod.out] at hv1
      have hvs := val_small w32 l2 hW2.out.dig (i + (n + 1)) (by rw [hW2.out.len]; omega) hv.out.1
      obtain ⟨r0, r1⟩ := hend.out _ G b hvs hG1'.out hG4.out hb hv1
      have hyz3 : crr Y G n (n + 1) = 0 := by unfold crr; rw [if_neg (by omega)]
      rw [hyz3]
      clear hyz3 hvs hv1
      rcases Nat.le_one_iff_eq_zero_or_eq_one.1 hb with rfl | rfl
      · obtain ⟨r2, r3⟩ := r0 rfl
        have hfin := Lib.hid r3
        subst r2
        clear r0 r1 r3 hb
        go_wp2
        go_ret
        exact ⟨rfl, l2, hW2.out, hfin.out, hU.out⟩
      · obtain ⟨r2, r3⟩ := r1 rfl
        subst r2
        have hput := Lib.hid (putBack_any g i M cap pc by' oy yc n Y lo hi l2 wr hW2.out hin (by omega) (fun j hj => (hU.out.cell (p := ⟨by', oy + j, none⟩) hne).trans (hy'.out j hj)) hY0.out hne)
        have r3' := Lib.hid r3
        clear r0 r1 r3 hb
        have hq1 : q + 1 ≤ 4294967296 := hG2
        go_wp2_with fail
        refine hput.out.mono ?_
        rintro e w4 ⟨⟨v, rfl⟩, l4, c4, hW4, hc4, hd4, hv4, hU4⟩
        have hvs4 := val_small w32 l4 hW4.dig (i + (n + 1)) (by rw [hW4.len]; omega) (by rw [hd4]; exact hv.out.1)
        have hfin := Lib.hid (r3'.out _ _ hvs4 hc4 hv4)
        have hW4' := Lib.hid hW4
        have hU4' := Lib.hid hU4
        clear hW4 hd4 hv4 hU4 hvs4
        go_wp2
        go_ret
        exact ⟨by congr 2, l4, hW4'.out, hfin.out, hU.out.trans hU4'.out⟩
end Go.Proofs.YtiddhnnofpbopaaDoor

/- bits.Len32, bits.LeadingZeros32 (the library's own text, walked), and what the shift by leading zeros makes of a divisor. Conditions: none. -/
namespace Go.Proofs.YtiddhnnofpbopaaDoor
open Go.RowKit Go.Deep
set_option linter.unusedVariables false

set_option maxRecDepth 100000 in
theorem tab_size : Lib.len8tab.size = 256 := by decide
theorem tab_get (y : Int) (h0 : 0 ≤ y) (h1 : y ≤ 255) (h : y.toNat < Lib.len8tab.size) : ((Lib.len8tab[y.toNat]'h).toNat : Int) = (Lib.bitLen y.toNat : Int) := by
  rw [← Lib.len8_of y h0 h1, Lib.len8, getElem?_pos Lib.len8tab y.toNat h]
  rfl
theorem w64_in {n : Int} (h0 : 0 ≤ n) (h1 : n ≤ 1000) : wrap64 n = n := by unfold wrap64; omega

set_option maxHeartbeats 4000000 in
set_option maxRecDepth 100000 in
theorem Len32_any (x : Int) (w : World) (h0 : 0 ≤ x) (h1 : x ≤ 4294967295) :
    Calls Tryd.prog 75 #[.int .u32 x] w fun e w' => e = .returned (.int .i64 (Lib.bitLen x.toNat)) ∧ w' = w := by
  have hsz := Lib.hid tab_size
  go_enter Tryd.func75, Tryd.ntmps75
  go_wp2
  all_goals first
    | (go_ret
       refine ⟨congrArg Ending.returned (congrArg (Value.int IntKind.i64) ?_), rfl⟩)
    | (exfalso; have := hsz.out; omega)
  all_goals first
    | (have a1 : 0 ≤ x / 65536 / 256 ∧ x / 65536 / 256 ≤ 255 := by omega
       have a2 := Lib.bitLen_shift24 x.toNat (by omega) (by omega)
       have a3 := Lib.bitLen_le (x / 65536 / 256).toNat 8 (by omega) (by omega)
       rw [tab_get (x / 65536 / 256) a1.1 a1.2 _]
       rw [show x.toNat / 16777216 = (x / 65536 / 256).toNat by omega] at a2
       rw [a2]
       generalize Lib.bitLen (x / 65536 / 256).toNat = t at *
       rw [w64_in (n := (t : Int)) (by omega) (by omega), w64_in (by omega) (by omega)]; omega)
    | (have a1 : 0 ≤ x / 65536 ∧ x / 65536 ≤ 255 := by omega
       have a2 := Lib.bitLen_shift16 x.toNat (by omega) (by omega)
       have a3 := Lib.bitLen_le (x / 65536).toNat 8 (by omega) (by omega)
       rw [tab_get (x / 65536) a1.1 a1.2 _]
       rw [show x.toNat / 65536 = (x / 65536).toNat by omega] at a2
       rw [a2]
       generalize Lib.bitLen (x / 65536).toNat = t at *
       rw [w64_in (n := (t : Int)) (by omega) (by omega), w64_in (by omega) (by omega)]; omega)
    | (have a1 : 0 ≤ x / 256 ∧ x / 256 ≤ 255 := by omega
       have a2 := Lib.bitLen_shift8 x.toNat (by omega) (by omega)
       have a3 := Lib.bitLen_le (x / 256).toNat 8 (by omega) (by omega)
       rw [tab_get (x / 256) a1.1 a1.2 _]
       rw [show x.toNat / 256 = (x / 256).toNat by omega] at a2
       rw [a2]
       generalize Lib.bitLen (x / 256).toNat = t at *
       rw [w64_in (n := (t : Int)) (by omega) (by omega), w64_in (by omega) (by omega)]; omega)
    | (have a1 : 0 ≤ x ∧ x ≤ 255 := by omega
       have a3 := Lib.bitLen_le x.toNat 8 (by omega) (by omega)
       rw [tab_get x a1.1 a1.2 _]
       generalize Lib.bitLen x.toNat = t at *
       rw [w64_in (n := (t : Int)) (by omega) (by omega), w64_in (by omega) (by omega)])
theorem lz_bounds {x : Nat} (h0 : 0 < x) (h1 : x < 4294967296) : 1 ≤ Lib.bitLen x ∧ Lib.bitLen x ≤ 32 ∧ 2147483648 ≤ x * 2 ^ (32 - Lib.bitLen x) ∧ (x + 1) * 2 ^ (32 - Lib.bitLen x) ≤ 4294967296 := by
  obtain ⟨b1, b2, b3⟩ := Lib.bitLenAux_bounds 64 x (by omega) (by omega)
  have b4 := Lib.bitLen_le x 32 (by omega) (by omega)
  change 1 ≤ Lib.bitLen x at b1
  change 2 ^ (Lib.bitLen x - 1) ≤ x at b2
  change x < 2 ^ Lib.bitLen x at b3
  refine ⟨b1, b4, ?_, ?_⟩
  · have := Nat.mul_le_mul_right (2 ^ (32 - Lib.bitLen x)) b2
    rw [← Nat.pow_add, show Lib.bitLen x - 1 + (32 - Lib.bitLen x) = 31 by omega] at this
    simpa using this
  · have := Nat.mul_le_mul_right (2 ^ (32 - Lib.bitLen x)) b3
    rw [← Nat.pow_add, show Lib.bitLen x + (32 - Lib.bitLen x) = 32 by omega] at this
    simpa using this

/-- the leading zeros of a word that is not 0 -/
theorem lz_any (x : Nat) (w : World) (h0 : 0 < x) (h1 : x < 4294967296) :
    Calls Tryd.prog 60 #[.int .u32 (x : Int)] w fun e w' => e = .returned (.int .i64 ((32 - Lib.bitLen x : Nat) : Int)) ∧ w' = w := by
  have hc := Len32_any (x : Int) w (by omega) (by omega)
  obtain ⟨b1, b2, -, -⟩ := lz_bounds h0 h1
  rw [Int.toNat_natCast] at hc
  have e : (32 : Int) - (Lib.bitLen x : Int) = ((32 - Lib.bitLen x : Nat) : Int) := by omega
  generalize 32 - Lib.bitLen x = s at *
  generalize Lib.bitLen x = b at *
  have hc' := Lib.hid hc
  clear hc
  go_enter Tryd.func60, Tryd.ntmps60
  go_wp2_with fail
  refine hc'.out.mono ?_
  rintro e w' ⟨rfl, rfl⟩
  go_wp2
  go_ret
  exact ⟨rfl, rfl⟩

/-- a divisor, shifted up by the leading zeros of its highest word: as many words, the highest bit set -/
theorem shift_top {d s : Nat} (hd : 0 < d) (hs1 : 2147483648 ≤ dgt W32 d (dlen W32 d - 1) * 2 ^ s) (hs2 : (dgt W32 d (dlen W32 d - 1) + 1) * 2 ^ s ≤ 4294967296) :
    dlen W32 (d * 2 ^ s) = dlen W32 d ∧ W32 ≤ 2 * dgt W32 (d * 2 ^ s) (dlen W32 d - 1) := by
  have hn : 0 < dlen W32 d := by
    rcases Nat.eq_zero_or_pos (dlen W32 d) with h | h
    · have := lt_dlen w32 d; rw [h, Nat.pow_zero] at this; omega
    · exact h
  have hlt := lt_dlen w32 d
  obtain ⟨k, hk⟩ : ∃ k, dlen W32 d = k + 1 := ⟨dlen W32 d - 1, by omega⟩
  rw [hk] at hs1 hs2 hlt ⊢
  rw [Nat.add_sub_cancel] at hs1 hs2 ⊢
  have hp := pow_pos' w32 k
  have ht : dgt W32 d k = d / W32 ^ k := by
    rw [dgt, Nat.mod_eq_of_lt]
    apply (Nat.div_lt_iff_lt_mul hp).2
    rw [Nat.mul_comm, ← pow_succ']; exact hlt
  rw [ht] at hs1 hs2
  have h1 : d / W32 ^ k * W32 ^ k ≤ d := Nat.div_mul_le_self _ _
  have h2 : d < (d / W32 ^ k + 1) * W32 ^ k := by have := Nat.lt_mul_div_succ d hp; rw [Nat.mul_comm]; exact this
  have hsp := Nat.two_pow_pos s
  generalize d / W32 ^ k = t at *
  have g1 : 2147483648 * W32 ^ k ≤ d * 2 ^ s := by
    have a := Nat.mul_le_mul_right (W32 ^ k) hs1
    have b := Nat.mul_le_mul_right (2 ^ s) h1
    have e : t * 2 ^ s * W32 ^ k = t * W32 ^ k * 2 ^ s := by ac_rfl
    omega
  have g2 : d * 2 ^ s < W32 ^ (k + 1) := by
    have a := Nat.mul_le_mul_right (W32 ^ k) hs2
    have b := Nat.mul_lt_mul_of_pos_right h2 hsp
    have e : (t + 1) * 2 ^ s * W32 ^ k = (t + 1) * W32 ^ k * 2 ^ s := by ac_rfl
    rw [pow_succ', Nat.mul_comm (W32 ^ k)]
    rw [e] at a
    exact Nat.lt_of_lt_of_le b a
  have hD : 2147483648 ≤ d * 2 ^ s / W32 ^ k := (Nat.le_div_iff_mul_le hp).2 g1
  refine ⟨dlen_eq w32 g2 (Or.inr ?_), ?_⟩
  · rw [Nat.add_sub_cancel]
    have := Nat.mul_le_mul_right (W32 ^ k) (show 1 ≤ 2147483648 by decide)
    rw [Nat.one_mul] at this
    exact Nat.le_trans this g1
  · have : dgt W32 (d * 2 ^ s) k = d * 2 ^ s / W32 ^ k := by
      rw [dgt, Nat.mod_eq_of_lt]
      apply (Nat.div_lt_iff_lt_mul hp).2
      rw [Nat.mul_comm W32 (W32 ^ k), ← pow_succ']; exact g2
    rw [this]; simp only [W32] at hD ⊢; omega
end Go.Proofs.YtiddhnnofpbopaaDoor

/- divide of the project: the quotient of two long numbers, and what is left over. Conditions: the divisor is not 0; at most 10^9 words. -/
namespace Go.Proofs.YtiddhnnofpbopaaDoor
open Go.RowKit Go.Deep
set_option linter.unusedVariables false

/-- what divide leaves -/
def DivI (m d : Nat) (w : World) (e : Ending) (w' : World) : Prop := ∃ q r, e = .returned (.tuple #[q, r]) ∧ LongI w' q (m / d) ∧ LongI w' r (m % d) ∧ Below w.heap.size w w'

theorem dlen_pos {d : Nat} (h : 0 < d) : 0 < dlen W32 d := by
  rcases Nat.eq_zero_or_pos (dlen W32 d) with e | e
  · have := lt_dlen w32 d; rw [e, Nat.pow_zero] at this; omega
  · exact e

set_option maxRecDepth 100000 in
set_option maxHeartbeats 4000000 in
theorem divide_less (a b : Value) (m d : Nat) (w : World) (ha : LongI w a m) (hb : LongI w b d) (hlt : m < d) :
    Calls Tryd.prog 49 #[a, b] w (DivI m d w) := by
  have hcmp := compare_any a b m d w ha hb
  rw [cmpI_lt hlt] at hcmp
  obtain ⟨hm1, a1, cap1, rfl⟩ := ha.len
  obtain ⟨hm2, a2, cap2, rfl⟩ := hb.len
  have h1 := Lib.hid (Nat.div_eq_of_lt hlt)
  have h2 := Lib.hid (Nat.mod_eq_of_lt hlt)
  have ha' := Lib.hid ha
  have hcmp' := Lib.hid hcmp
  unfold DivI
  clear ha hb hlt hcmp
  go_enter Tryd.func49, Tryd.ntmps49
  go_wp2_with fail
  (with_reducible refine hcmp'.out.mono ?_)
  rintro e w1 ⟨rfl, j, rfl⟩
  go_wp2
  go_ret2
  exact ⟨_, _, rfl, by rw [h1.out]; exact LongI.nil _, by rw [h2.out]; exact ha'.out.keep (below_drewN (Below.refl _ _) j), below_drewN (Below.refl _ _) j⟩

set_option maxRecDepth 100000 in
set_option maxHeartbeats 4000000 in
theorem divide_one (a b : Value) (m d : Nat) (w : World) (ha : LongI w a m) (hb : LongI w b d) (hge : d ≤ m) (hd : 0 < d) (h1 : dlen W32 d = 1) (sm : dlen W32 m ≤ 1000000000) :
    Calls Tryd.prog 49 #[a, b] w (DivI m d w) := by
  have hcmp := compare_any a b m d w ha hb
  have hdl : d < 4294967296 := by have := lt_dlen w32 d; rw [h1, Nat.pow_one] at this; exact this
  have hd0 : dgt W32 d 0 = d := by rw [dgt, Nat.pow_zero, Nat.div_one]; exact Nat.mod_eq_of_lt hdl
  obtain ⟨c, hc1, hc2⟩ : ∃ c : Int, cmpI m d = c ∧ ¬ c < 0 := ⟨_, rfl, by unfold cmpI; rw [if_neg (by omega)]; split <;> omega⟩
  rw [hc1] at hcmp
  obtain ⟨hm1, a1, cap1, rfl⟩ := ha.len
  obtain ⟨b2, o2, cap2, rfl, hb2, hcell⟩ := hb.at (by omega)
  have q0 := hcell 0 (by omega)
  rw [hd0, Nat.add_zero] at q0
  have hq := Lib.hid (fun j => divideByWord_any _ m d (w.drewN j) (ha.keep (below_drewN (Below.refl _ _) j)) hd hdl (by omega))
  rw [h1] at hcmp ⊢
  have hcmp' := Lib.hid hcmp
  have hr := Lib.hid (fun (W : World) => longOf_any (m % d) W (by have := Nat.mod_lt m hd; omega))
  have hrl := Nat.mod_lt m hd
  unfold DivI
  clear ha hb hge hcmp hcell hc1 h1 hd0
  generalize hrr : m % d = r at *
  replace hrr := Lib.hid hrr
  have hrw : r < 4294967296 := by omega
  go_enter Tryd.func49, Tryd.ntmps49
  go_wp2_with fail
  (with_reducible refine hcmp'.out.mono ?_)
  rintro e w1 ⟨rfl, j, rfl⟩
  go_wp2_with fail
  (with_reducible refine (hq.out j).mono ?_)
  rintro e w2 ⟨v, rfl, hL2, bel2⟩
  have hL2' := Lib.hid hL2
  have bel2' := Lib.hid bel2
  clear hL2 bel2
  go_wp2_with fail
  (with_reducible refine (hr.out w2).mono ?_)
  rintro e w3 ⟨v3, rfl, hL3, bel3⟩
  have hL3' := Lib.hid hL3
  have bel3' := Lib.hid bel3
  clear hL3 bel3
  go_wp2
  go_ret2
  exact ⟨_, _, rfl, hL2'.out.keep bel3'.out, hL3'.out, below_wt (below_wt (below_drewN (Below.refl _ _) j) bel2'.out) bel3'.out⟩

theorem u32s_snoc (l : List Nat) (x : Nat) : u32s (l ++ [x]) = u32s l ++ [.int .u32 (x : Int)] := by simp [u32s]
theorem val_snoc0 (l : List Nat) : val W32 (l ++ [0]) = val W32 l := by rw [val_snoc]; simp
theorem Work.cap {w : World} {lo hi g M cap : Nat} {l : List Nat} (h : Work w lo hi g M cap l) : M ≤ cap ∧ cap ≤ maxLen := by
  obtain ⟨a, c, hv, h1, h2⟩ := h.own.row.caps
  simp only [Value.slice.injEq] at hv
  obtain ⟨-, e2, e3⟩ := hv
  rw [e2, e3]; exact ⟨h1, h2⟩
theorem own_frozen {w : World} {lo hi : Nat} {e : TypeId} {g n cap : Nat} {vs : List Value} (h : Own w lo hi e (.slice (some ⟨g, 0, none⟩) n cap) vs) (hne : 0 < vs.length) (i : Nat) : w.frozen? ⟨g, i, none⟩ = false := by
  obtain ⟨g', c', hv, -, -, -, -, hf⟩ := h.at hne
  simp only [Value.slice.injEq, Option.some.injEq, Addr.mk.injEq, and_true] at hv
  obtain ⟨rfl, -, -⟩ := hv
  exact hf i
theorem div_room {X Y n lx K : Nat} (hX : X < W32 ^ lx) (hY : W32 ^ (n - 1) ≤ Y) (hn : 1 ≤ n) (hK : K + n = lx + 1) : X < Y * W32 ^ K := by
  have h := Nat.mul_le_mul_right (W32 ^ K) hY
  rw [← Nat.pow_add, show n - 1 + K = lx by omega] at h
  omega
theorem below_set_quot {w w' : World} {B b i : Nat} {u : Value} (h : Below B w w') (hb : B ≤ b) : Below B w (w'.setCell ⟨b, i, none⟩ u) := h.setCell hb u

set_option maxRecDepth 100000 in
set_option maxHeartbeats 4000000 in
theorem divide_more (a b : Value) (m d : Nat) (w : World) (ha : LongI w a m) (hb : LongI w b d) (hge : d ≤ m) (hd : 0 < d) (h2 : 2 ≤ dlen W32 d) (sm : dlen W32 m ≤ 1000000000) :
    Calls Tryd.prog 49 #[a, b] w (DivI m d w) := by
  have hcmp := compare_any a b m d w ha hb
  obtain ⟨c, hc1, hc2⟩ : ∃ c : Int, cmpI m d = c ∧ ¬ c < 0 := ⟨_, rfl, by unfold cmpI; rw [if_neg (by omega)]; split <;> omega⟩
  rw [hc1] at hcmp
  obtain ⟨hm1, a1, cap1, rfl⟩ := ha.len
  obtain ⟨b2, o2, cap2, rfl, hb2, hcell⟩ := hb.at (by omega)
  have sd := dlen_mono w32 hge
  obtain ⟨n1, hn1⟩ : ∃ n1, dlen W32 d = n1 + 1 := ⟨dlen W32 d - 1, by omega⟩
  obtain ⟨n0, hn0⟩ : ∃ n0, n1 = n0 + 1 := ⟨n1 - 1, by omega⟩
  have q0 := hcell n1 (by omega)
  have t0 := dgt_top w32 (show 0 < dlen W32 d by omega)
  have t1 := dgt_lt w32 d (dlen W32 d - 1)
  obtain ⟨-, b4, b5, b6⟩ := lz_bounds (Nat.pos_of_ne_zero t0) t1
  have hlz := Lib.hid (fun W => lz_any (dgt W32 d n1) W (by rw [hn1, Nat.add_sub_cancel] at t0; omega) (dgt_lt w32 d n1))
  obtain ⟨y1, y2⟩ := shift_top hd b5 b6
  rw [hn1, Nat.add_sub_cancel] at y2
  rw [hn1, Nat.add_sub_cancel] at y1 b4 b5 b6
  have hs32 : 32 - Lib.bitLen (dgt W32 d n1) < 32 := by
    have : 1 ≤ Lib.bitLen (dgt W32 d n1) := (lz_bounds (by rw [hn1, Nat.add_sub_cancel] at t0; omega) (dgt_lt w32 d n1)).1
    omega
  generalize hss : 32 - Lib.bitLen (dgt W32 d n1) = s at *
  have hsp := Nat.two_pow_pos s
  have hX1 := lt_dlen w32 (m * 2 ^ s)
  have hXl : dlen W32 (m * 2 ^ s) ≤ dlen W32 m + 1 := dlen_le w32 (scarry_end (lt_dlen w32 m) (show 2 ^ s ≤ W32 by have := pow_lt32 hs32; simp only [W32]; omega) w32).2
  have hXg : n1 + 1 ≤ dlen W32 (m * 2 ^ s) := by rw [← y1]; exact dlen_mono w32 (Nat.mul_le_mul_right _ hge)
  have hYlt := lt_dlen w32 (d * 2 ^ s)
  rw [y1] at hYlt
  have hYge : W32 ^ n1 ≤ d * 2 ^ s := le_of_dlen w32 (by rw [y1]; omega)
  obtain ⟨K, hK⟩ : ∃ K, K + (n1 + 1) = dlen W32 (m * 2 ^ s) + 1 := ⟨dlen W32 (m * 2 ^ s) + 1 - (n1 + 1), by omega⟩
  have hroom := div_room (n := n1 + 1) hX1 (by rw [Nat.add_sub_cancel]; exact hYge) (by omega) hK
  have hYp : 0 < d * 2 ^ s := Nat.mul_pos hd hsp
  have hqd : m * 2 ^ s / (d * 2 ^ s) = m / d := Nat.mul_div_mul_right m d hsp
  have hqm : m * 2 ^ s % (d * 2 ^ s) / 2 ^ s = m % d := by rw [Nat.mul_mod_mul_right, Nat.mul_div_cancel _ hsp]
  have hshx := Lib.hid (fun j => shiftUp_own _ m s (w.drewN j) (ha.keep (below_drewN (Below.refl _ _) j)) hs32 (by omega))
  have hshy := Lib.hid (fun (W : World) (h : Below w.heap.size w W) => shiftUp_own _ d s W (hb.keep h) hs32 (by omega))
  have hst := Lib.hid (fun k => quot_step w32 (X := m * 2 ^ s) (i := k) hYp)
  have hcmp' := Lib.hid hcmp
  obtain ⟨i0, hi, hz0, hz1, hz2⟩ := info_parts word_info
  have hi' := Lib.hid hi; have hz0' := Lib.hid hz0; have hz1' := Lib.hid hz1; have hz2' := Lib.hid hz2
  have hmk := run_make_row' (P := Tryd.prog) 47 61 (.int .u32 0) 4 Tryd.underlying47 word_info rfl .i64 .i64 K (by omega) (by omega)
  have htest : (((n1 : Int) + 1) == 1) = false := by simp; omega
  have hn1p : 1 ≤ n1 := by omega
  unfold DivI
  have hm0 : Hid (dlen W32 m ≤ 1000000000) := Lib.hid sm
  rw [hn1] at hcmp' hshy ⊢
  rw [y1] at hshy
  replace hss := Lib.hid hss
  replace hn1 := Lib.hid hn1
  replace hn0 := Lib.hid hn0
  replace y1 := Lib.hid y1
  replace hqd := Lib.hid hqd
  replace hqm := Lib.hid hqm
  replace hroom := Lib.hid hroom
  replace hX1 := Lib.hid hX1
  replace hYlt := Lib.hid hYlt
  replace hYp := Lib.hid hYp
  replace y2 := Lib.hid y2
  clear ha hb hge hd h2 hcmp hcell hc1 t0 t1 b4 b5 b6 hsp hYge hi hz0 hz1 hz2
  generalize dgt W32 d n1 = top at *
  generalize hXX : m * 2 ^ s = X at *
  generalize hYY : d * 2 ^ s = Y at *
  generalize hlx : dlen W32 X = lx at *
  clear hXX hYY
  replace hlx := Lib.hid hlx
  have hKI : (lx : Int) + 1 - ((n1 : Int) + 1) = (K : Int) := by omega
  have hn1i : ((n1 : Int) + 1) - 1 = (n1 : Int) := by omega
  go_enter Tryd.func49, Tryd.ntmps49
  go_wp2_with fail
  (with_reducible refine hcmp'.out.mono ?_)
  rintro e w1 ⟨rfl, j, rfl⟩
  go_wp2_with fail
  (with_reducible refine (hlz.out _).mono ?_)
  rintro e w1 ⟨rfl, rfl⟩
  go_wp2_with fail
  (with_reducible refine (hshx.out j).mono ?_)
  rintro e w2 ⟨rfl, hown2, -, bel2⟩
  have hown2' := Lib.hid (show w2.ownsRow w.heap.size 61 1 (.slice (some ⟨w.heap.size, 0, none⟩) lx (dlen W32 m + 1)) lx (u32s (dgs W32 X lx)) by
    have := hown2.1
    rw [u32s_length, dgs_length] at this
    exact this)
  have bel2' : Below w.heap.size w w2 := (below_drewN (Below.refl _ w) j).trans bel2
  clear hown2 bel2
  have hsz2 := bel2'.size
  go_wp2_with (at_builtin; (refine wpList_append_own _ rfl _ _ 47 rfl w.heap.size 61 i0 (.int .u32 0) 1 4 Tryd.underlying47 hi'.out hz0'.out hz1'.out hz2'.out rfl (by decide) _ _ _ rfl (hown2'.out.alloc _) ⟨w2.heap.size, 0, none⟩ 1 1 [.int .u32 ((0 : Nat) : Int)] rfl rfl (one_new _ _ _) (by simp [Value.oneCell']) (by unfold maxLen; omega) (by omega) (by simp; omega) ?_); intro v' w5 hown5 hgr5 _; obtain ⟨g2, c2, rfl⟩ := lg_shape hown5 (by omega))
  have hg2 := (lg_type hown5 rfl).1
  have hW5 := Lib.hid (show Work w5 w.heap.size w5.heap.size g2 (lx + 1) c2 (dgs W32 X lx ++ [0]) from ⟨by
      have h := Own.of hown5 (Nat.le_refl _)
      rw [← u32s_snoc] at h
      exact h, by rw [List.length_append, dgs_length]; rfl, by
      intro x hx
      rw [List.mem_append] at hx
      rcases hx with hx | hx
      · exact dgs_lt w32 _ _ x hx
      · simp at hx; subst hx; decide⟩)
  have hg5 := (hown5.lt g2 rfl).2
  have bel5 : Below w.heap.size w w5 := (bel2'.alloc hsz2 _).grown hgr5 (by simp; omega) (fun k' hk' => (lg_type hown2'.out hk').1)
  have hw5v := Lib.hid (show val W32 (dgs W32 X lx ++ [0]) = X by rw [val_snoc0]; exact val_dgs_small hX1.out)
  clear hown5 hgr5 hown2' bel2'
  generalize dgs W32 X lx ++ [0] = l0 at hW5 hw5v
  have hcy := hshy.out w5 bel5
  clear hshy hshx
  (with_reducible refine hcy.mono ?_)
  rintro e w6 ⟨rfl, -, hY6, bel6⟩
  have hW6 := Lib.hid (show Work w6 w.heap.size w5.heap.size g2 (lx + 1) c2 l0 from ⟨hW5.out.own.keep (Nat.le_refl _) bel6, hW5.out.len, hW5.out.dig⟩)
  have hsz6 := bel6.size
  have B6 := below_wt bel5 bel6
  have hy6 := Lib.hid (show ∀ j', j' < n1 + 1 → w6.cell? ⟨w5.heap.size, 0 + j', none⟩ = some (.int .u32 (dgt W32 Y j' : Int)) from fun j' hj' => by
    have hlen : dlen W32 Y = n1 + 1 := y1.out
    obtain ⟨b', o', c', hv', -, hc'⟩ := hY6.at (by omega)
    simp only [Value.slice.injEq, Option.some.injEq, Addr.mk.injEq, and_true] at hv'
    obtain ⟨⟨rfl, rfl⟩, -, -⟩ := hv'
    exact hc' j' (by omega))
  have hlt56 : w5.heap.size < w6.heap.size := block_lt (hy6.out 0 (by omega))
  clear hW5 hY6 bel6 bel5 hcy
  go_wp2
  replace hK := Lib.hid hK
  have hKle : K + n1 ≤ lx := by have := hK.out; omega
  have hKle2 : lx ≤ K + n1 := by have := hK.out; omega
  go_loopw [10] (fun iv wr => ∃ (k : Nat) (l2 : List Nat), k ≤ K ∧ iv = .int .i64 ((k : Int) - 1) ∧ Hid (Work wr w.heap.size w5.heap.size g2 (lx + 1) c2 l2) ∧ Hid (val W32 l2 = X % (Y * W32 ^ k)) ∧ Own wr w6.heap.size (w6.heap.size + 1) 61 (.slice (some ⟨w6.heap.size, 0, none⟩) K K) (u32s (shL W32 (X / Y) K k)) ∧ Hid (∀ j', j' < n1 + 1 → wr.cell? ⟨w5.heap.size, 0 + j', none⟩ = some (.int .u32 (dgt W32 Y j' : Int))) ∧ Below w.heap.size w wr) (fun iv _ => (intOf iv + 1).toNat)
  case atStart =>
    refine ⟨K, l0, Nat.le_refl _, by go_num, ⟨(hW6.out.own.alloc _), hW6.out.len, hW6.out.dig⟩, ?_, ?_, fun j' hj' => ?_, B6.alloc (by have := B6.size; omega) _⟩
    · show val W32 l0 = _
      rw [hw5v.out, Nat.mod_eq_of_lt hroom.out]
    · have := Own.made w6 (.int .u32 0) K 61 (by unfold maxLen; omega)
      rw [shL_full]
      simpa [u32s] using this
    · exact ((below1 w6 _).cell (p := ⟨w5.heap.size, 0 + j', none⟩) (block_lt (hy6.out j' hj'))).trans (hy6.out j' hj')
  case round =>
    obtain ⟨k, l2, hk, rfl, hWk, hvk, hown, hyk, bel⟩ := hrel
    have hown' := Lib.hid hown
    rcases Nat.eq_zero_or_pos k with rfl | hpos
    · obtain ⟨cap1', cap2'⟩ := hWk.out.cap
      unfold maxLen at cap2'
      have hvX : val W32 l2 = X % Y := by have := hvk.out; rw [Nat.pow_zero, Nat.mul_one] at this; exact this
      have hvt : val W32 (l2.take (n1 + 1)) = X % Y := by
        have h1 := val_drop (B := W32) l2 (n1 + 1) (by rw [hWk.out.len]; omega)
        have h2 := val_drop_small w32 l2 (n1 + 1) (by rw [hWk.out.len]; omega) (by rw [hvX]; exact Nat.lt_trans (Nat.mod_lt _ hYp.out) hYlt.out)
        rw [h2, Nat.mul_zero, Nat.add_zero, hvX] at h1
        exact h1.symm
      have hxr : Wd wr (.slice (some ⟨g2, 0, none⟩) (n1 + 1) c2) (l2.take (n1 + 1)) := by
        have h1 : Wd wr (.slice (some ⟨g2, 0, none⟩) (lx + 1) c2) l2 := hWk.out.own.row
        exact h1.pre (n1 + 1) (by rw [hWk.out.len]; omega)
      have hqr : Wd wr (.slice (some ⟨w6.heap.size, 0, none⟩) (dgs W32 (X / Y) K).length K) (dgs W32 (X / Y) K) := by
        rw [dgs_length]
        have := hown.row
        rw [shL_zero] at this
        exact this
      have hqv : val W32 (dgs W32 (X / Y) K) = X / Y := val_dgs_small (Nat.div_lt_of_lt_mul hroom.out)
      have hTrim := Lib.hid (fun (W : World) (h : Below wr.heap.size wr W) => trim_at _ _ _ W (hqr.keep h) (dgs_lt w32 _ _))
      rw [hqv, dgs_length] at hTrim
      have hDown := Lib.hid (fun (W : World) (h : Below wr.heap.size wr W) => shiftDown_any _ _ s W (hxr.keep h) (fun x hx => hWk.out.dig x (List.mem_of_mem_take hx)) hs32 (by rw [List.length_take]; have := hm0.out; have := hWk.out.len; omega))
      rw [hvt, hqm.out] at hDown
      rw [hqd.out] at hTrim
      have hc3 : n1 + 1 ≤ c2 := by omega
      clear hown hvX hvt hxr hqr hqv
      go_wp2_with fail
      go_region_with (first
        | (go_at_call 24; ((with_reducible refine (hTrim.out _ (by first | exact (Below.refl _ wr).drew | exact below_drewN (Below.refl _ wr) _ | exact (Below.refl _ wr).drew.trans br)).mono ?_); rintro e u1 ⟨rfl, hq1, jq, rfl⟩))
        | (go_at_call 63; ((with_reducible refine (hDown.out _ (by first | exact (Below.refl _ wr).drew | exact below_drewN (Below.refl _ wr) _ | exact below_drewN (Below.refl _ wr).drew jq)).mono ?_); rintro e u2 ⟨v3, rfl, hr1, br⟩)))
      all_goals go_wp2
      all_goals go_ret2
      all_goals first
        | exact ⟨_, _, rfl, LongI.keep (w := wr) hq1 ((below_drewN (Below.refl _ wr) _).trans br), hr1, below_wt bel ((below_drewN (Below.refl _ wr) _).trans br)⟩
        | exact ⟨_, _, rfl, LongI.keep (w := wr) hq1 ((Below.refl _ wr).drew.trans br), hr1, below_wt bel ((Below.refl _ wr).drew.trans br)⟩
        | exact ⟨_, _, rfl, hq1.keep (below_drewN (Below.refl _ _) _), hr1.keep (below_drewN (Below.refl _ _) _), below_drewN (below_wt bel ((Below.refl _ wr).drew.trans br)) _⟩
    · obtain ⟨k, rfl⟩ : ∃ k', k = k' + 1 := ⟨k - 1, by omega⟩
      have hi : (((k + 1 : Nat) : Int) - 1) = (k : Int) := by omega
      rw [hi]
      obtain ⟨g, cap'', hg, -, -, hgs, hcg, hfg⟩ := hown.at (by rw [u32s_length, shL_length]; omega)
      simp only [Value.slice.injEq, Option.some.injEq, Addr.mk.injEq, and_true] at hg
      obtain ⟨rfl, -, -⟩ := hg
      have hcg' := hcg k (by rw [u32s_length, shL_length]; omega)
      have hfg' := hfg k
      generalize (u32s (shL W32 (X / Y) K (k + 1))).getD k undef = old at hcg'
      obtain ⟨r1, r2, r3⟩ := hst.out k
      obtain ⟨cap1', cap2'⟩ := hWk.out.cap
      unfold maxLen at cap2'
      have hk2 : k + (n1 + 1 + 1) ≤ lx + 1 := by omega
      have hk3 : k + (n1 + 1 + 1) ≤ c2 := by omega
      have hkK := Lib.hid hk
      have hk4 : k < K := by omega
      have hgne : w5.heap.size ≠ g2 := by omega
      have hqne : w6.heap.size ≠ g2 := by omega
      have htk := Lib.hid (takeOut_any g2 k (lx + 1) c2 (c2 - k) w5.heap.size 0 (n1 + 1 + 1) (n1 + 1) n1 n0 Y w.heap.size w5.heap.size l2 wr rfl hn0.out hWk.out hk2 (by have := hm0.out; omega) hyk.out hYlt.out y2.out hgne (by rw [hvk.out]; exact Nat.mod_lt _ (Nat.mul_pos hYp.out (pow_pos' w32 _))))
      rw [hvk.out, r1] at htk
      have hset := Lib.hid (shL_set W32 (X / Y) K k)
      have hdl := dgt_lt w32 (X / Y) k
      simp only [show W32 = 4294967296 from rfl] at hdl
      have r2' := Lib.hid r2
      clear hcg hfg hown hi r1 r2 r3
      generalize dgt W32 (X / Y) k = dq at *
      go_wp2_with fail
      rw [show k + (n1 + 1) + 1 - k = n1 + 1 + 1 by omega]
      (with_reducible refine htk.out.mono ?_)
      rintro e w8 ⟨rfl, l8, hW8, hv8, hU8⟩
      have hcg8 := (hU8.cell (p := ⟨w6.heap.size, k, none⟩) hqne).trans hcg'
      have hfg8 : w8.frozen? ⟨w6.heap.size, k, none⟩ = false := by
        have : SameOn w6.heap.size (w6.heap.size + 1) wr w8 := hU8.same (Or.inl (by omega))
        exact own_frozen (hown'.out.same this) (by rw [u32s_length, shL_length]; omega) k
      have hn8 := Lib.hid (show Work (w8.setCell ⟨w6.heap.size, k, none⟩ (.int .u32 (dq : Int))) w.heap.size w5.heap.size g2 (lx + 1) c2 l8 from ⟨hW8.own.setOther (a := ⟨w6.heap.size, k, none⟩) (by simp [Value.ownBlock]; omega) _, hW8.len, hW8.dig⟩)
      have hv8' := Lib.hid (show val W32 l8 = X % (Y * W32 ^ k) by rw [hv8, hvk.out, r2'.out])
      have ho8 := Lib.hid (show Own (w8.setCell ⟨w6.heap.size, k, none⟩ (.int .u32 (dq : Int))) w6.heap.size (w6.heap.size + 1) 61 (.slice (some ⟨w6.heap.size, 0, none⟩) K K) (u32s (shL W32 (X / Y) K k)) by
        have h1 : SameOn w6.heap.size (w6.heap.size + 1) wr w8 := hU8.same (Or.inl (by omega))
        have h2 := (hown'.out.same h1).set k (.int .u32 (dq : Int))
        rw [u32s_set, hset.out] at h2
        exact h2)
      have hy8 := Lib.hid (show ∀ j', j' < n1 + 1 → (w8.setCell ⟨w6.heap.size, k, none⟩ (.int .u32 (dq : Int))).cell? ⟨w5.heap.size, 0 + j', none⟩ = some (.int .u32 (dgt W32 Y j' : Int)) from fun j' hj' => by
        rw [World.cell?_of_block (w := w8) (Below.heap_setCell w8 ⟨w6.heap.size, k, none⟩ _ w5.heap.size (by simp only; omega))]
        exact (hU8.cell (p := ⟨w5.heap.size, 0 + j', none⟩) hgne).trans (hyk.out j' hj'))
      have hb8 := Lib.hid (show Below w.heap.size w (w8.setCell ⟨w6.heap.size, k, none⟩ (.int .u32 (dq : Int))) from (bel.trans (hU8.below (B := w.heap.size) hg2)).setCell (p := ⟨w6.heap.size, k, none⟩) B6.size _)
      clear hW8 hv8 hU8 htk
      go_wp2
      go_roundw
      case rel => exact ⟨k, l8, by omega, by go_num, hn8.out, hv8'.out, ho8.out, hy8.out, hb8.out⟩
      case measure => simp [intOf]

theorem divide_any (a b : Value) (m d : Nat) (w : World) (ha : LongI w a m) (hb : LongI w b d) (hd : 0 < d) (sm : dlen W32 m ≤ 1000000000) :
    Calls Tryd.prog 49 #[a, b] w (DivI m d w) := by
  rcases Nat.lt_or_ge m d with h | h
  · exact divide_less a b m d w ha hb h
  · have := dlen_pos hd
    by_cases h1 : dlen W32 d = 1
    · exact divide_one a b m d w ha hb h hd h1 sm
    · exact divide_more a b m d w ha hb h hd (by omega) sm
end Go.Proofs.YtiddhnnofpbopaaDoor

/- bitLen, over, commonDivisor and gap of the project. Conditions: at most 10^9 words; told by the code. -/
namespace Go.Proofs.YtiddhnnofpbopaaDoor
open Go.RowKit Go.Deep
set_option linter.unusedVariables false

/-- how many bits a number has -/
def bitsN (n : Nat) : Nat := if n = 0 then 0 else 32 * dlen W32 n - (32 - Lib.bitLen (dgt W32 n (dlen W32 n - 1)))
theorem bitsN_zero : bitsN 0 = 0 := rfl
theorem bitsN_bounds {n : Nat} (h : 0 < n) : 1 ≤ bitsN n ∧ 2 ^ (bitsN n - 1) ≤ n ∧ n < 2 ^ bitsN n := by
  have hp := dlen_pos h
  have t0 := dgt_top w32 hp
  have hlt := lt_dlen w32 n
  obtain ⟨k, hk⟩ : ∃ k, dlen W32 n = k + 1 := ⟨dlen W32 n - 1, by omega⟩
  unfold bitsN
  rw [if_neg (by omega), hk, Nat.add_sub_cancel]
  rw [hk, Nat.add_sub_cancel] at t0
  rw [hk] at hlt
  have hpk := pow_pos' w32 k
  have ht : dgt W32 n k = n / W32 ^ k := by
    rw [dgt, Nat.mod_eq_of_lt]
    apply (Nat.div_lt_iff_lt_mul hpk).2
    rw [Nat.mul_comm W32, ← pow_succ']; exact hlt
  have t1 := dgt_lt w32 n k
  obtain ⟨b1, b2, b3⟩ := Lib.bitLenAux_bounds 64 (dgt W32 n k) (Nat.lt_trans t1 (by decide)) (by omega)
  have b4 := Lib.bitLen_le (dgt W32 n k) 32 (by omega) (by have e : W32 = 2 ^ 32 := rfl; rw [← e]; exact t1)
  change 1 ≤ Lib.bitLen (dgt W32 n k) at b1
  change 2 ^ (Lib.bitLen (dgt W32 n k) - 1) ≤ dgt W32 n k at b2
  change dgt W32 n k < 2 ^ Lib.bitLen (dgt W32 n k) at b3
  generalize Lib.bitLen (dgt W32 n k) = B at *
  rw [ht] at b2 b3
  have e0 : W32 ^ k = 2 ^ (32 * k) := by rw [show W32 = 2 ^ 32 by rfl, ← Nat.pow_mul]
  have h1 : n / W32 ^ k * W32 ^ k ≤ n := Nat.div_mul_le_self _ _
  have h2 : n < (n / W32 ^ k + 1) * W32 ^ k := by have := Nat.lt_mul_div_succ n hpk; rw [Nat.mul_comm]; exact this
  rw [show 32 * (k + 1) - (32 - B) = 32 * k + B by omega]
  refine ⟨by omega, ?_, ?_⟩
  · rw [show 32 * k + B - 1 = B - 1 + 32 * k by omega, Nat.pow_add, ← e0]
    exact Nat.le_trans (Nat.mul_le_mul_right _ b2) h1
  · rw [Nat.add_comm, Nat.pow_add, ← e0]
    exact Nat.lt_of_lt_of_le h2 (Nat.mul_le_mul_right _ b3)
theorem bitsN_le {n : Nat} : bitsN n ≤ 32 * dlen W32 n := by unfold bitsN; split <;> omega
theorem bitsN_mono {m n : Nat} (h : m ≤ n) : bitsN m ≤ bitsN n := by
  rcases Nat.eq_zero_or_pos m with rfl | h0
  · rw [bitsN_zero]; exact Nat.zero_le _
  · obtain ⟨a1, a2, a3⟩ := bitsN_bounds h0
    obtain ⟨b1, b2, b3⟩ := bitsN_bounds (show 0 < n by omega)
    by_cases c : bitsN m ≤ bitsN n
    · exact c
    · have := Nat.pow_le_pow_right (n := 2) (by omega) (show bitsN n ≤ bitsN m - 1 by omega)
      omega

set_option maxHeartbeats 2000000 in
theorem bitLen_any (a : Value) (n : Nat) (w : World) (ha : LongI w a n) (sm : dlen W32 n ≤ 1000000000) :
    Calls Tryd.prog 46 #[a] w fun e w' => e = .returned (.int .i64 (bitsN n : Nat)) ∧ w' = w := by
  rcases Nat.eq_zero_or_pos n with rfl | h
  · obtain ⟨hm1, a1, cap1, rfl⟩ := ha.len
    rw [dlen_zero]
    go_enter Tryd.func46, Tryd.ntmps46
    go_wp2
    go_ret
    exact ⟨rfl, rfl⟩
  · have hp := dlen_pos h
    obtain ⟨b2, o2, cap2, rfl, hb2, hcell⟩ := ha.at hp
    have t0 := dgt_top w32 hp
    have q0 := hcell (dlen W32 n - 1) (by omega)
    have hlz := Lib.hid (fun W => lz_any (dgt W32 n (dlen W32 n - 1)) W (Nat.pos_of_ne_zero t0) (dgt_lt w32 n _))
    have hb : bitsN n = 32 * dlen W32 n - (32 - Lib.bitLen (dgt W32 n (dlen W32 n - 1))) := by unfold bitsN; rw [if_neg (by omega)]
    have hb2 : 32 - Lib.bitLen (dgt W32 n (dlen W32 n - 1)) ≤ 32 := by omega
    obtain ⟨k, hk⟩ : ∃ k, dlen W32 n = k + 1 := ⟨dlen W32 n - 1, by omega⟩
    rw [hk, Nat.add_sub_cancel] at q0 hlz hb hb2
    rw [hk] at sm ⊢
    generalize 32 - Lib.bitLen (dgt W32 n k) = s at *
    generalize dgt W32 n k = top at *
    have hr : ((k : Int) + 1) * 32 - (s : Int) = ((bitsN n : Nat) : Int) := by rw [hb]; omega
    have hk1 : ((k : Int) + 1) - 1 = (k : Int) := by omega
    clear hb hcell ha t0 hk
    generalize bitsN n = R at *
    go_enter Tryd.func46, Tryd.ntmps46
    go_wp2_with (first | (go_at_call 60; ((with_reducible refine (hlz.out _).mono ?_); rintro e w' ⟨rfl, rfl⟩)) | go_in)
    go_ret
    exact ⟨rfl, rfl⟩

set_option maxHeartbeats 2000000 in
theorem over_any (a b : Value) (m d : Nat) (w : World) (ha : LongI w a m) (hb : LongI w b d) (hd : 0 < d) (sm : dlen W32 m ≤ 1000000000) :
    Calls Tryd.prog 36 #[a, b] w fun e w' => ∃ v, e = .returned v ∧ LongI w' v (m / d) ∧ Below w.heap.size w w' := by
  have hdv := divide_any a b m d w ha hb hd sm
  obtain ⟨hm1, a1, cap1, rfl⟩ := ha.len
  obtain ⟨hm2, a2, cap2, rfl⟩ := hb.len
  have hdv' := Lib.hid hdv
  clear hdv ha hb
  go_enter Tryd.func36, Tryd.ntmps36
  go_wp2_with fail
  (with_reducible refine hdv'.out.mono ?_)
  rintro e w1 ⟨q, r, rfl, hq, hr, bel⟩
  have hq' := Lib.hid hq
  clear hq hr
  go_wp2
  go_ret
  exact ⟨_, rfl, hq'.out, bel⟩

set_option maxHeartbeats 2000000 in
theorem commonDivisor_any (x y : Nat) (w : World) (hx : x < 18446744073709551616) (hy : y < 18446744073709551616) :
    Calls Tryd.prog 51 #[.int .u64 (x : Int), .int .u64 (y : Int)] w fun e w' => e = .returned (.int .u64 (Nat.gcd x y : Nat)) ∧ ∃ k, w' = w.drewN k := by
  go_enter Tryd.func51, Tryd.ntmps51
  go_wp2
  go_loopw [0, 1] (fun xv yv wr => ∃ a b j : Nat, xv = .int .u64 (a : Int) ∧ yv = .int .u64 (b : Int) ∧ a < 18446744073709551616 ∧ b < 18446744073709551616 ∧ wr = w.drewN j ∧ Hid (Nat.gcd a b = Nat.gcd x y)) (fun _ yv _ => (intOf yv).toNat)
  case atStart => exact ⟨x, y, 0, rfl, rfl, hx, hy, rfl, Lib.hid rfl⟩
  case round =>
    obtain ⟨a, b, j, rfl, rfl, ha, hb, rfl, hg⟩ := hrel
    rcases Nat.eq_zero_or_pos b with rfl | hpos
    · have hr := Lib.hid (show a = Nat.gcd x y by rw [← hg.out, Nat.gcd_zero_right])
      go_wp2
      go_ret
      exact ⟨by rw [← hr.out]; rfl, _, rfl⟩
    · have hgg := Lib.hid (show Nat.gcd b (a % b) = Nat.gcd x y by rw [← hg.out, Nat.gcd_comm a b, Nat.gcd_rec b a, Nat.gcd_comm])
      have hml := Nat.mod_lt a hpos
      have e1 : (a : Int) % (b : Int) = ((a % b : Nat) : Int) := rfl
      have e2 : (a : Int).tmod (b : Int) = ((a % b : Nat) : Int) := by rw [Int.tmod_eq_emod_of_nonneg (by omega)]; rfl
      have z0 : ((b : Int) == 0) = false := by simp; omega
      have z1 : ¬ (b : Int) = 0 := by omega
      have hp : (0 : Int) < (b : Int) := by omega
      generalize a % b = r at *
      have e3 : IntKind.u64.wrap (r : Int) = (r : Int) := by rw [IntKind.wrap_u64]; omega
      clear hpos
      go_wp2
      go_quiet (fail)
      go_wp2
      go_roundw
      case rel => exact ⟨b, r, _, rfl, rfl, hb, by omega, by first | rfl | rw [World.drewN_drewN], hgg⟩
      case measure => simp [intOf]; omega

theorem times_len' {x a L : Nat} (ha : a < 18446744073709551616) (sx : dlen W32 x ≤ L) : dlen W32 (x * a) ≤ L + 3 := by
  apply dlen_le w32
  have h1 := lt_of_dlen w32 sx
  have h2 : a ≤ W32 ^ 3 := Nat.le_trans (Nat.le_of_lt ha) (by decide)
  rw [Nat.pow_add]
  exact Nat.lt_of_lt_of_le (Nat.mul_lt_mul_of_lt_of_le h1 h2 (pow_pos' w32 3)) (Nat.le_refl _)
theorem times_len {x a : Nat} (ha : a < 18446744073709551616) (sx : dlen W32 x ≤ 1000000000) : dlen W32 (x * a) ≤ 1000000003 := times_len' ha sx
theorem small_len {a : Nat} (ha : a < 18446744073709551616) : dlen W32 a ≤ 2 := dlen_le w32 (by
  have : W32 ^ 2 = 18446744073709551616 := by decide
  omega)

/-- by how much the greater one is greater -/
def gapL (m n : Nat) : Nat := if m < n then n - m else m - n
/-- what the remainder's gap returns -/
def gapN (x y a b : Nat) : Nat := if x * a < y * b then y * b - x * a else x * a - y * b

set_option maxHeartbeats 4000000 in
theorem gapL_any (xv yv : Value) (m n : Nat) (w : World) (hx : LongI w xv m) (hy : LongI w yv n) (sx : dlen W32 m ≤ 1000000000000) (sy : dlen W32 n ≤ 1000000000000) :
    Calls Tryd.prog 65 #[xv, yv] w fun e w' => ∃ v, e = .returned v ∧ LongI w' v (gapL m n) ∧ Below w.heap.size w w' := by
  have hcm := Lib.hid (compare_any _ _ _ _ w hx hy)
  obtain ⟨_, p1, k1, rfl⟩ := hx.len
  obtain ⟨_, p2, k2, rfl⟩ := hy.len
  have hg : gapL m n = if m < n then n - m else m - n := rfl
  by_cases hlt : m < n
  · rw [if_pos hlt] at hg
    rw [cmpI_lt hlt] at hcm
    have hm := Lib.hid (fun j => minus_any _ _ n m (w.drewN j) (hy.keep (below_drewN (Below.refl _ _) j)) (hx.keep (below_drewN (Below.refl _ _) j)) (Nat.le_of_lt hlt) sy)
    have hg' := Lib.hid hg
    clear hx hy hlt hg sx sy
    go_enter Tryd.func65, Tryd.ntmps65
    go_wp2_with fail
    (with_reducible refine hcm.out.mono ?_)
    rintro e w2 ⟨rfl, j, rfl⟩
    go_wp2_with fail
    (with_reducible refine (hm.out j).mono ?_)
    rintro e w3 ⟨v, rfl, hv, b6⟩
    have hv' := Lib.hid hv
    clear hv
    go_wp2
    go_ret
    exact ⟨_, rfl, by rw [hg'.out]; exact hv'.out, below_wt (below_drewN (Below.refl _ _) j) b6⟩
  · rw [if_neg hlt] at hg
    obtain ⟨c, hc1, hc2⟩ : ∃ c : Int, cmpI m n = c ∧ ¬ c < 0 := ⟨_, rfl, by unfold cmpI; rw [if_neg hlt]; split <;> omega⟩
    rw [hc1] at hcm
    have hm := Lib.hid (fun j => minus_any _ _ m n (w.drewN j) (hx.keep (below_drewN (Below.refl _ _) j)) (hy.keep (below_drewN (Below.refl _ _) j)) (by omega) sx)
    have hg' := Lib.hid hg
    clear hx hy hlt hg hc1 sx sy
    go_enter Tryd.func65, Tryd.ntmps65
    go_wp2_with fail
    (with_reducible refine hcm.out.mono ?_)
    rintro e w2 ⟨rfl, j, rfl⟩
    go_wp2_with fail
    (with_reducible refine (hm.out j).mono ?_)
    rintro e w3 ⟨v, rfl, hv, b6⟩
    have hv' := Lib.hid hv
    clear hv
    go_wp2
    go_ret
    exact ⟨_, rfl, by rw [hg'.out]; exact hv'.out, below_wt (below_drewN (Below.refl _ _) j) b6⟩

set_option maxRecDepth 100000 in
set_option maxHeartbeats 4000000 in
theorem gap_any (xv yv : Value) (x y a b : Nat) (w : World) (hx : LongI w xv x) (hy : LongI w yv y) (ha : a < 18446744073709551616) (hb : b < 18446744073709551616) (sx : dlen W32 x ≤ 1000000000) (sy : dlen W32 y ≤ 1000000000) :
    Calls Tryd.prog 50 #[.agg #[.int .u64 (a : Int), .int .u64 (b : Int)], xv, yv] w fun e w' => ∃ v, e = .returned v ∧ LongI w' v (gapN x y a b) ∧ Below w.heap.size w w' := by
  obtain ⟨hm1, a1, cap1, rfl⟩ := hx.len
  obtain ⟨hm2, a2, cap2, rfl⟩ := hy.len
  have fx := (hx.keep (below1 w (.cells #[.int .u64 (a : Int), .int .u64 (b : Int)] 88))).keep ((Below.refl _ _).drew)
  have fy := (hy.keep (below1 w (.cells #[.int .u64 (a : Int), .int .u64 (b : Int)] 88))).keep ((Below.refl _ _).drew)
  have bel : Below w.heap.size w (w.alloc (.cells #[.int .u64 (a : Int), .int .u64 (b : Int)] 88)).drew := (below1 w _).drew
  have hZ := (Blk.new w #[.int .u64 (a : Int), .int .u64 (b : Int)] 88)
  have c0 : (w.alloc (.cells #[.int .u64 (a : Int), .int .u64 (b : Int)] 88)).drew.cell? ⟨w.heap.size, 0, none⟩ = some (.int .u64 (a : Int)) := hZ.cell 0
  have c1 : (w.alloc (.cells #[.int .u64 (a : Int), .int .u64 (b : Int)] 88)).drew.cell? ⟨w.heap.size, 1, none⟩ = some (.int .u64 (b : Int)) := hZ.cell 1
  have sa := times_len ha sx
  have sb := times_len hb sy
  have sxa : dlen W32 (x * a) ≤ 1000000000000 := by omega
  have syb : dlen W32 (y * b) ≤ 1000000000000 := by omega
  clear hx hy hZ
  go_enter Tryd.func50, Tryd.ntmps50
  go_wp2
  generalize hW : w.alloc _ = W at *
  clear hW
  go_cut [6] (fun s1 wx => ∃ (p : Option Addr) (n k : Nat), s1 = .slice p n k ∧ LongI wx (.slice p n k) (gapN x y a b) ∧ Below w.heap.size w wx)
  case first =>
    go_region_held3 (fun w' => w'.cell? ⟨w.heap.size, 0, none⟩ = some (.int .u64 (a : Int)) ∧ w'.cell? ⟨w.heap.size, 1, none⟩ = some (.int .u64 (b : Int)))
      (go_keep)
      (first
        | (go_at_call 65; ((with_reducible refine (gapL_any _ _ (x * a) (y * b) _ ta tb sxa syb).mono ?_); rintro e u5 ⟨rg, rfl, tg, b5⟩; replace bel := below_wt bel b5; replace c0 := (b5.cell (p := ⟨w.heap.size, 0, none⟩) (block_lt c0)).trans c0; replace c1 := (b5.cell (p := ⟨w.heap.size, 1, none⟩) (block_lt c1)).trans c1))
        | (go_at_call_of 18 (Value.int IntKind.u64 (a : Int)); ((with_reducible refine (longOf_any a _ ha).mono ?_); rintro e u1 ⟨va, rfl, pa, b1⟩; replace fx := fx.keep b1; replace fy := fy.keep b1; (try replace pb := pb.keep b1); (try replace tb := tb.keep b1); replace bel := below_wt bel b1; replace c0 := (b1.cell (p := ⟨w.heap.size, 0, none⟩) (block_lt c0)).trans c0; replace c1 := (b1.cell (p := ⟨w.heap.size, 1, none⟩) (block_lt c1)).trans c1))
        | (go_at_call_of 18 (Value.int IntKind.u64 (b : Int)); ((with_reducible refine (longOf_any b _ hb).mono ?_); rintro e u2 ⟨vb, rfl, pb, b2⟩; replace fx := fx.keep b2; replace fy := fy.keep b2; (try replace pa := pa.keep b2); (try replace ta := ta.keep b2); replace bel := below_wt bel b2; replace c0 := (b2.cell (p := ⟨w.heap.size, 0, none⟩) (block_lt c0)).trans c0; replace c1 := (b2.cell (p := ⟨w.heap.size, 1, none⟩) (block_lt c1)).trans c1))
        | (go_at_call 64; first
            | ((with_reducible refine (times_any _ _ x a _ fx pa (by omega) (by have := small_len ha; omega)).mono ?_); rintro e u3 ⟨ra, rfl, ta, b3⟩; replace fx := fx.keep b3; replace fy := fy.keep b3; replace pa := pa.keep b3; (try replace pb := pb.keep b3); (try replace tb := tb.keep b3); replace bel := below_wt bel b3; replace c0 := (b3.cell (p := ⟨w.heap.size, 0, none⟩) (block_lt c0)).trans c0; replace c1 := (b3.cell (p := ⟨w.heap.size, 1, none⟩) (block_lt c1)).trans c1)
            | ((with_reducible refine (times_any _ _ y b _ fy pb (by omega) (by have := small_len hb; omega)).mono ?_); rintro e u4 ⟨rb, rfl, tb, b4⟩; replace fx := fx.keep b4; replace fy := fy.keep b4; replace pb := pb.keep b4; (try replace pa := pa.keep b4); (try replace ta := ta.keep b4); replace bel := below_wt bel b4; replace c0 := (b4.cell (p := ⟨w.heap.size, 0, none⟩) (block_lt c0)).trans c0; replace c1 := (b4.cell (p := ⟨w.heap.size, 1, none⟩) (block_lt c1)).trans c1)))
    all_goals (go_wp2_with fail; go_meet)
    all_goals
      obtain ⟨_, pg, kg, rfl⟩ := tg.len
      exact ⟨pg, _, kg, rfl, tg, bel⟩
  case rest =>
    obtain ⟨p, n, k, rfl, hv, bel2⟩ := hcut
    have hv' := Lib.hid hv
    clear hv fx fy c0 c1
    go_wp2
    go_ret
    exact ⟨_, rfl, hv'.out, bel2⟩
end Go.Proofs.YtiddhnnofpbopaaDoor

/- guessRemainders of the project: two remainders of long numbers, told by their 64 highest bits. Conditions: the first is not less than the second one. -/
namespace Go.Proofs.YtiddhnnofpbopaaDoor
open Go.RowKit Go.Deep
set_option linter.unusedVariables false

abbrev rmV (a b : Nat) : Value := .agg #[.int .u64 (a : Int), .int .u64 (b : Int)]
abbrev rmC (a b : Nat) : Array Value := #[.int .u64 (a : Int), .int .u64 (b : Int)]
/-- what guessRemainders returns -/
def GuR (x y : Nat) (w : World) (e : Ending) (w' : World) : Prop :=
  ∃ a0 b0 a1 b1 : Nat, e = .returned (.tuple #[rmV a0 b0, rmV a1 b1]) ∧ (a0 < 18446744073709551616 ∧ b0 < 18446744073709551616 ∧ a1 < 18446744073709551616 ∧ b1 < 18446744073709551616) ∧
    (b0 ≠ 0 → ∃ (even : Bool) (R0 R1 : Nat), Cert x y even a0 b0 a1 b1 R0 R1 ∧ R1 < R0 ∧ R0 ≤ y) ∧ Below w.heap.size w w'
/-- the five boxes -/
structure Boxes (W : World) (B : Nat) (a0 b0 a1 b1 a2 b2 : Nat) : Prop where
  z0 : Blk W B #[.int .u64 0, .int .u64 0] 88
  z1 : Blk W (B + 1) #[.int .u64 0, .int .u64 0] 88
  p0 : Blk W (B + 1 + 1) (rmC a0 b0) 88
  p1 : Blk W (B + 1 + 1 + 1) (rmC a1 b1) 88
  p2 : Blk W (B + 1 + 1 + 1 + 1) (rmC a2 b2) 88

/-- one box filled anew -/
abbrev fillB (W : World) (b : Nat) (x y : Nat) : World := (W.setCell ⟨b, 0, none⟩ (.int .u64 (x : Int))).setCell ⟨b, 1, none⟩ (.int .u64 (y : Int))
theorem Blk.fill {W : World} {b x y x' y' : Nat} {t : TypeId} (h : Blk W b (rmC x y) t) : Blk (fillB W b x' y') b (rmC x' y') t := by
  have := (h.set 0 (.int .u64 (x' : Int))).set 1 (.int .u64 (y' : Int))
  simpa using this
theorem Blk.fillOther {W : World} {b b' x' y' : Nat} {c : Array Value} {t : TypeId} (h : Blk W b c t) (hne : b ≠ b') : Blk (fillB W b' x' y') b c t :=
  (h.setOther (a := ⟨b', 0, none⟩) hne _).setOther (a := ⟨b', 1, none⟩) hne _
theorem Boxes.drew {W : World} {B a0 b0 a1 b1 a2 b2 : Nat} (h : Boxes W B a0 b0 a1 b1 a2 b2) : Boxes W.drew B a0 b0 a1 b1 a2 b2 := ⟨h.z0, h.z1, h.p0, h.p1, h.p2⟩
theorem Boxes.drewN {W : World} {B a0 b0 a1 b1 a2 b2 : Nat} (h : Boxes W B a0 b0 a1 b1 a2 b2) (n : Nat) : Boxes (W.drewN n) B a0 b0 a1 b1 a2 b2 := ⟨h.z0, h.z1, h.p0, h.p1, h.p2⟩
theorem Boxes.step {W : World} {B a0 b0 a1 b1 a2 b2 : Nat} (h : Boxes W B a0 b0 a1 b1 a2 b2) (a3 b3 : Nat) :
    Boxes (fillB (fillB (fillB W (B + 1 + 1) a1 b1) (B + 1 + 1 + 1) a2 b2) (B + 1 + 1 + 1 + 1) a3 b3) B a1 b1 a2 b2 a3 b3 := by
  obtain ⟨z0, z1, p0, p1, p2⟩ := h
  refine ⟨?_, ?_, ?_, ?_, ?_⟩
  · exact Blk.fillOther (Blk.fillOther (Blk.fillOther z0 (by omega)) (by omega)) (by omega)
  · exact Blk.fillOther (Blk.fillOther (Blk.fillOther z1 (by omega)) (by omega)) (by omega)
  · exact Blk.fillOther (Blk.fillOther (Blk.fill p0) (by omega)) (by omega)
  · exact Blk.fillOther (Blk.fill (Blk.fillOther p1 (by omega))) (by omega)
  · exact Blk.fill (Blk.fillOther (Blk.fillOther p2 (by omega)) (by omega))
theorem below_fill {w W : World} {b x y : Nat} (h : Below w.heap.size w W) (hb : w.heap.size ≤ b) : Below w.heap.size w (fillB W b x y) := (h.setCell (p := ⟨b, 0, none⟩) hb _).setCell (p := ⟨b, 1, none⟩) hb _
theorem Boxes.new (w : World) : Boxes (((((w.alloc (.cells #[.int .u64 0, .int .u64 0] 88)).alloc (.cells #[.int .u64 0, .int .u64 0] 88)).alloc (.cells #[.int .u64 0, .int .u64 0] 88)).alloc (.cells #[.int .u64 1, .int .u64 0] 88)).alloc (.cells #[.int .u64 0, .int .u64 1] 88)) w.heap.size 0 0 1 0 0 1 := by
  have h0 := ((((Blk.new w #[.int .u64 0, .int .u64 0] 88).alloc (.cells #[.int .u64 0, .int .u64 0] 88)).alloc (.cells #[.int .u64 0, .int .u64 0] 88)).alloc (.cells #[.int .u64 1, .int .u64 0] 88)).alloc (.cells #[.int .u64 0, .int .u64 1] 88)
  have h1 := (((Blk.new (w.alloc (.cells #[.int .u64 0, .int .u64 0] 88)) #[.int .u64 0, .int .u64 0] 88).alloc (.cells #[.int .u64 0, .int .u64 0] 88)).alloc (.cells #[.int .u64 1, .int .u64 0] 88)).alloc (.cells #[.int .u64 0, .int .u64 1] 88)
  have h2 := ((Blk.new ((w.alloc (.cells #[.int .u64 0, .int .u64 0] 88)).alloc (.cells #[.int .u64 0, .int .u64 0] 88)) #[.int .u64 0, .int .u64 0] 88).alloc (.cells #[.int .u64 1, .int .u64 0] 88)).alloc (.cells #[.int .u64 0, .int .u64 1] 88)
  have h3 := (Blk.new (((w.alloc (.cells #[.int .u64 0, .int .u64 0] 88)).alloc (.cells #[.int .u64 0, .int .u64 0] 88)).alloc (.cells #[.int .u64 0, .int .u64 0] 88)) #[.int .u64 1, .int .u64 0] 88).alloc (.cells #[.int .u64 0, .int .u64 1] 88)
  have h4 := Blk.new ((((w.alloc (.cells #[.int .u64 0, .int .u64 0] 88)).alloc (.cells #[.int .u64 0, .int .u64 0] 88)).alloc (.cells #[.int .u64 0, .int .u64 0] 88)).alloc (.cells #[.int .u64 1, .int .u64 0] 88)) #[.int .u64 0, .int .u64 1] 88
  simp only [World.size_alloc] at h1 h2 h3 h4
  exact ⟨h0, h1, h2, h3, h4⟩

set_option maxRecDepth 100000 in
set_option maxHeartbeats 4000000 in
theorem guessRemainders_any (F x y xh yh xl yl : Nat) (w : World) (hle : yh ≤ xh) (hxh : xh < 18446744073709551616) (ex : x = xh * F + xl) (ey : y = yh * F + yl) (lx : xl < F) (ly : yl < F) :
    Calls Tryd.prog 47 #[.int .u64 (xh : Int), .int .u64 (yh : Int)] w (GuR x y w) := by
  unfold GuR
  have hstep := Lib.hid (fun (even : Bool) (a0 b0 a1 b1 a2 b2 r1 r2 R1 : Nat) (h : Lehm F x y xh yh even a0 b0 a1 b1 a2 b2 r1 r2 R1) => h.step ex ey lx ly)
  have hstart := Lib.hid (Lehm.start (F := F) (x := x) (y := y) hle)
  clear ex ey lx ly
  go_enter Tryd.func47, Tryd.ntmps47
  go_wp2
  go_loopw [0, 1] (fun xv yv wr => ∃ (even : Bool) (a0 b0 a1 b1 a2 b2 r1 r2 R1 : Nat), xv = .int .u64 (r1 : Int) ∧ yv = .int .u64 (r2 : Int) ∧ Hid (Boxes wr w.heap.size a0 b0 a1 b1 a2 b2) ∧ Hid (Lehm F x y xh yh even a0 b0 a1 b1 a2 b2 r1 r2 R1) ∧ Hid (a0 < 18446744073709551616 ∧ b0 < 18446744073709551616 ∧ a1 < 18446744073709551616 ∧ b1 < 18446744073709551616 ∧ a2 < 18446744073709551616 ∧ b2 < 18446744073709551616) ∧ r1 < 18446744073709551616 ∧ Below w.heap.size w wr) (fun _ yv _ => (intOf yv).toNat)
  case atStart => exact ⟨true, 0, 0, 1, 0, 0, 1, xh, yh, x, rfl, rfl, Boxes.new w, hstart.out, Lib.hid (by decide), hxh, (below4 w _ _ _ _).alloc (by simp; omega) _⟩
  case round =>
    obtain ⟨even, a0, b0, a1, b1, a2, b2, r1, r2, R1, rfl, rfl, hB, hL, hb, hr1, bel⟩ := hrel
    have hle2 := hL.out.le
    have z00 := hB.out.z0.cell 0
    have z01 := hB.out.z0.cell 1
    have z10 := hB.out.z1.cell 0
    have z11 := hB.out.z1.cell 1
    have p00 := hB.out.p0.cell 0
    have p01 := hB.out.p0.cell 1
    have p10 := hB.out.p1.cell 0
    have p11 := hB.out.p1.cell 1
    have p20 := hB.out.p2.cell 0
    have p21 := hB.out.p2.cell 1
    simp only [rmC, List.getElem?_toArray, List.getElem?_cons_zero, List.getElem?_cons_succ] at z00 z01 z10 z11 p00 p01 p10 p11 p20 p21
    have fz0 := hB.out.z0.frozen
    have fz1 := hB.out.z1.frozen
    have fp0 := hB.out.p0.frozen
    have fp1 := hB.out.p1.frozen
    have fp2 := hB.out.p2.frozen
    by_cases c1 : b2 ≤ r2
    · have hpos := hL.out.pos
      have hr2 : 1 ≤ r2 := by omega
      obtain ⟨f1, f2, f3⟩ := hL.out.fits hr2
      have f1' : b1 + b2 < 18446744073709551616 := by omega
      by_cases c2 : b1 + b2 ≤ r1 - r2
      · obtain ⟨R2, hL2⟩ := hstep.out _ _ _ _ _ _ _ _ _ _ hL.out c1 c2
        have hL2' := Lib.hid hL2
        have hml := Nat.mod_lt r1 (show 0 < r2 by omega)
        have hbb := hb.out
        have p1I : ((r1 / r2 : Nat) : Int) * (a2 : Int) = ((r1 / r2 * a2 : Nat) : Int) := (Int.natCast_mul _ _).symm
        have p2I : ((r1 / r2 : Nat) : Int) * (b2 : Int) = ((r1 / r2 * b2 : Nat) : Int) := (Int.natCast_mul _ _).symm
        have q1I : (r1 : Int) / (r2 : Int) = ((r1 / r2 : Nat) : Int) := rfl
        have q2I : (r1 : Int).tdiv (r2 : Int) = ((r1 / r2 : Nat) : Int) := by rw [Int.tdiv_eq_ediv_of_nonneg (by omega)]; rfl
        have m1I : (r1 : Int) % (r2 : Int) = ((r1 % r2 : Nat) : Int) := rfl
        have m2I : (r1 : Int).tmod (r2 : Int) = ((r1 % r2 : Nat) : Int) := by rw [Int.tmod_eq_emod_of_nonneg (by omega)]; rfl
        have hqr : r1 / r2 ≤ r1 := Nat.div_le_self _ _
        generalize r1 / r2 = q at *
        generalize r1 % r2 = r3 at *
        obtain ⟨p1, hp1⟩ : ∃ p, q * a2 = p := ⟨_, rfl⟩
        obtain ⟨p2, hp2⟩ : ∃ p, q * b2 = p := ⟨_, rfl⟩
        rw [hp1] at p1I hL2' f3
        rw [hp2] at p2I hL2' f3 f2
        have w1 : IntKind.u64.wrap (p1 : Int) = (p1 : Int) := by rw [IntKind.wrap_u64]; omega
        have w2 : IntKind.u64.wrap (p2 : Int) = (p2 : Int) := by rw [IntKind.wrap_u64]; omega
        obtain ⟨a3, ha3⟩ : ∃ p, a1 + p1 = p := ⟨_, rfl⟩
        obtain ⟨b3, hb3⟩ : ∃ p, b1 + p2 = p := ⟨_, rfl⟩
        have s1 : IntKind.u64.wrap ((a1 : Int) + (p1 : Int)) = (a3 : Int) := by rw [IntKind.wrap_u64]; omega
        have s2 : IntKind.u64.wrap ((b1 : Int) + (p2 : Int)) = (b3 : Int) := by rw [IntKind.wrap_u64]; omega
        have s3 : IntKind.u64.wrap (r3 : Int) = (r3 : Int) := by rw [IntKind.wrap_u64]; omega
        rw [ha3, hb3] at hL2'
        have hbnd := Lib.hid (show a1 < 18446744073709551616 ∧ b1 < 18446744073709551616 ∧ a2 < 18446744073709551616 ∧ b2 < 18446744073709551616 ∧ a3 < 18446744073709551616 ∧ b3 < 18446744073709551616 by omega)
        have z2 : ((r2 : Int) == 0) = false := by simp; omega
        have z3 : ¬ (r2 : Int) = 0 := by omega
        have hBs := Lib.hid (fun n => (hB.out.drewN n).step a3 b3)
        have s0 : IntKind.u64.wrap (q : Int) = (q : Int) := by rw [IntKind.wrap_u64]; omega
        have hmeas := Lib.hid hml
        have hr2b := Lib.hid (show r2 < 18446744073709551616 by omega)
        clear hL2 ha3 hb3 hp1 hp2 f3 f2 hbb hqr hml
        go_wp2
        go_quiet (fail)
        go_wp2
        go_region
        all_goals go_wp2
        go_roundw
        case rel => exact ⟨!even, a1, b1, a2, b2, a3, b3, r2, r3, R2, rfl, rfl, hBs.out _, hL2'.out, hbnd.out, hr2b.out, below_fill (b := w.heap.size + 1 + 1 + 1 + 1) (below_fill (b := w.heap.size + 1 + 1 + 1) (below_fill (b := w.heap.size + 1 + 1) (below_drewN bel _) (by omega)) (by omega)) (by omega)⟩
        case measure => simp [intOf]; exact hmeas.out
      · have c2' : r1 - r2 < b1 + b2 := by omega
        have c3 : ((r1 - r2 : Nat) : Int) = (r1 : Int) - (r2 : Int) := by omega
        have c4 : (r1 : Int) - (r2 : Int) < (b1 : Int) + (b2 : Int) := by omega
        clear c2
        go_wp2
        go_region
        all_goals go_wp2
        refine bodyPost_ret (v := .tuple #[rmV a0 b0, rmV a1 b1]) (by simp [results, Tryd.results47, go_sem, z00, z01, z10, z11]) rfl ?_
        exact ⟨a0, b0, a1, b1, rfl, ⟨hb.out.1, hb.out.2.1, hb.out.2.2.1, hb.out.2.2.2.1⟩, fun h => by obtain ⟨R0, k1, k2, k3⟩ := hL.out.bef h; exact ⟨_, R0, R1, k1, k2, k3⟩, (below_fill (b := w.heap.size + 1) (below_fill (b := w.heap.size) bel (Nat.le_refl _)) (by omega)).drew⟩
    · have c1' : r2 < b2 := by omega
      clear c1
      go_wp2
      go_region
      all_goals go_wp2
      refine bodyPost_ret (v := .tuple #[rmV a0 b0, rmV a1 b1]) (by simp [results, Tryd.results47, go_sem, z00, z01, z10, z11]) rfl ?_
      exact ⟨a0, b0, a1, b1, rfl, ⟨hb.out.1, hb.out.2.1, hb.out.2.2.1, hb.out.2.2.2.1⟩, fun h => by obtain ⟨R0, k1, k2, k3⟩ := hL.out.bef h; exact ⟨_, R0, R1, k1, k2, k3⟩, (below_fill (b := w.heap.size + 1) (below_fill (b := w.heap.size) bel (Nat.le_refl _)) (by omega)).drew⟩
end Go.Proofs.YtiddhnnofpbopaaDoor

/- divisorWith of the project: the greatest common divisor of two long numbers. Conditions: at most 10^9 words. -/
namespace Go.Proofs.YtiddhnnofpbopaaDoor
open Go.RowKit Go.Deep
set_option linter.unusedVariables false

theorem bits_small {n : Nat} (h : ¬ 64 < bitsN n) : n < 18446744073709551616 := by
  rcases Nat.eq_zero_or_pos n with rfl | h0
  · omega
  · obtain ⟨a1, a2, a3⟩ := bitsN_bounds h0
    have := Nat.pow_le_pow_right (n := 2) (by omega) (show bitsN n ≤ 64 by omega)
    have e : (2 : Nat) ^ 64 = 18446744073709551616 := by decide
    omega
/-- the highest 64 bits of the greater one, and what lies at the same place in the lesser one -/
theorem top_bits {x y : Nat} (hle : y ≤ x) (hb : 64 < bitsN y) :
    ∃ f s : Nat, s < 32 ∧ 32 * f + s + 64 = bitsN x ∧ x / 2 ^ (32 * f + s) < 18446744073709551616 ∧ y / 2 ^ (32 * f + s) ≤ x / 2 ^ (32 * f + s) := by
  have hm := bitsN_mono hle
  have h0 : 0 < x := by
    rcases Nat.eq_zero_or_pos x with rfl | h
    · have : y = 0 := by omega
      subst this; rw [bitsN_zero] at hb; omega
    · exact h
  obtain ⟨a1, a2, a3⟩ := bitsN_bounds h0
  refine ⟨(bitsN x - 64) / 32, (bitsN x - 64) % 32, by omega, by omega, ?_, Nat.div_le_div_right hle⟩
  rw [show 32 * ((bitsN x - 64) / 32) + (bitsN x - 64) % 32 = bitsN x - 64 by omega]
  apply (Nat.div_lt_iff_lt_mul (Nat.two_pow_pos _)).2
  have e : (18446744073709551616 : Nat) = 2 ^ 64 := by decide
  rw [e, ← Nat.pow_add, show 64 + (bitsN x - 64) = bitsN x by omega]
  exact a3
theorem LongI.wd {w : World} {v : Value} {n : Nat} (h : LongI w v n) : Wd w v (dgs W32 n (dlen W32 n)) := h
/-- a window of a long number -/
theorem window_long (v : Value) (n f s : Nat) (w : World) (h : LongI w v n) (hs : s < 32) (hf : f < 1099511627776) :
    Calls Tryd.prog 48 #[v, .int .i64 ((32 * f + s : Nat) : Int)] w fun e w' => e = .returned (.int .u64 (n / 2 ^ (32 * f + s) % 18446744073709551616 : Nat)) ∧ ∃ k, w' = w.drewN k := by
  have := window_any v _ f s w h.wd (dgs_lt w32 _ _) hs hf
  rwa [val_dgs_small (lt_dlen w32 n)] at this
theorem window_zero (v : Value) (n : Nat) (w : World) (h : LongI w v n) (hn : n < 18446744073709551616) :
    Calls Tryd.prog 48 #[v, .int .i64 0] w fun e w' => e = .returned (.int .u64 (n : Int)) ∧ ∃ k, w' = w.drewN k := by
  have := window_long v n 0 0 w h (by omega) (by omega)
  rw [show 32 * 0 + 0 = 0 by rfl, Nat.pow_zero, Nat.div_one, Nat.mod_eq_of_lt hn] at this
  exact this
theorem dlen_zero_iff' {n : Nat} (h : dlen W32 n = 0) : n = 0 := by
  have := lt_dlen w32 n
  rw [h, Nat.pow_zero] at this; omega

set_option maxRecDepth 100000 in
set_option maxHeartbeats 4000000 in
theorem divisor_ge (a b : Value) (m n : Nat) (w : World) (ha : LongI w a m) (hb : LongI w b n) (hle : n ≤ m) (sm : dlen W32 m ≤ 1000000000) :
    Calls Tryd.prog 35 #[a, b] w fun e w' => ∃ v, e = .returned v ∧ LongI w' v (Nat.gcd m n) ∧ Below w.heap.size w w' := by
  have hcmp := compare_any a b m n w ha hb
  obtain ⟨c, hc1, hc2⟩ : ∃ c : Int, cmpI m n = c ∧ ¬ c < 0 := ⟨_, rfl, by unfold cmpI; rw [if_neg (by omega)]; split <;> omega⟩
  rw [hc1] at hcmp
  have sn := Nat.le_trans (dlen_mono w32 hle) sm
  obtain ⟨_, a1, cap1, rfl⟩ := ha.len
  obtain ⟨_, a2, cap2, rfl⟩ := hb.len
  have ha' := Lib.hid ha
  have hb' := Lib.hid hb
  have hle' := Lib.hid hle
  obtain ⟨lm, hlm⟩ : ∃ l, l = dlen W32 m := ⟨_, rfl⟩
  obtain ⟨ln, hln⟩ : ∃ l, l = dlen W32 n := ⟨_, rfl⟩
  have hlm' := Lib.hid hlm
  have hln' := Lib.hid hln
  rw [← hlm] at ha' sm hcmp ⊢
  rw [← hln] at hb' sn hcmp ⊢
  have hcmp' := Lib.hid hcmp
  clear ha hb hlm hln hle hc1 hcmp
  go_enter Tryd.func35, Tryd.ntmps35
  go_wp2_with fail
  (with_reducible refine hcmp'.out.mono ?_)
  rintro e w1 ⟨rfl, j0, rfl⟩
  go_wp2_with fail
  go_loopg [0, 1] n (fun k av bv wr => ∃ (x lx lk cx ck : Nat) (ax ak : Option Addr), av = .slice ax lx cx ∧ bv = .slice ak lk ck ∧ Hid (lx = dlen W32 x) ∧ Hid (lk = dlen W32 k) ∧ lx ≤ 1000000000 ∧ lk ≤ 1000000000 ∧ Hid (LongI wr (.slice ax lx cx) x) ∧ Hid (LongI wr (.slice ak lk ck) k) ∧ Hid (k ≤ x) ∧ Hid (Nat.gcd x k = Nat.gcd m n) ∧ Below w.heap.size w wr)
  case atStart => exact ⟨m, lm, ln, cap1, cap2, a1, a2, rfl, rfl, hlm', hln', sm, sn, ha'.out.keep (below_drewN (Below.refl _ _) j0), hb'.out.keep (below_drewN (Below.refl _ _) j0), hle', Lib.hid rfl, below_drewN (Below.refl _ _) j0⟩
  case round =>
    obtain ⟨x, lx, lk, cx, ck, ax, ak, rfl, rfl, hlx, hlk, sx, sk, hx, hk, hkx, hg, bel⟩ := hrel
    have hbl := Lib.hid (bitLen_any _ gk wr hk.out (by rw [← hlk.out]; exact sk))
    by_cases hbt : 64 < bitsN gk
    · obtain ⟨f, s, hs, hfs, hx64, hyx⟩ := top_bits hkx.out hbt
      have hF : f < 1099511627776 := by
        have := bitsN_le (n := x)
        rw [← hlx.out] at this
        omega
      have hfb : 32 * f + s ≤ 32000000000 := by
        have := bitsN_le (n := x)
        rw [← hlx.out] at this
        omega
      have hwx := Lib.hid (window_long _ x f s wr hx.out hs hF)
      have hwy := Lib.hid (fun j => window_long _ gk f s (wr.drewN j) (hk.out.keep (below_drewN (Below.refl _ _) j)) hs hF)
      have hblx := Lib.hid (bitLen_any _ x wr hx.out (by rw [← hlx.out]; exact sx))
      have hyx64 : gk / 2 ^ (32 * f + s) < 18446744073709551616 := Nat.lt_of_le_of_lt hyx hx64
      rw [Nat.mod_eq_of_lt hx64] at hwx
      rw [Nat.mod_eq_of_lt hyx64] at hwy
      have hgu := Lib.hid (fun W => guessRemainders_any (2 ^ (32 * f + s)) x gk (x / 2 ^ (32 * f + s)) (gk / 2 ^ (32 * f + s)) (x % 2 ^ (32 * f + s)) (gk % 2 ^ (32 * f + s)) W hyx hx64 (by rw [Nat.mul_comm]; exact (Nat.div_add_mod _ _).symm) (by rw [Nat.mul_comm]; exact (Nat.div_add_mod _ _).symm) (Nat.mod_lt _ (Nat.two_pow_pos _)) (Nat.mod_lt _ (Nat.two_pow_pos _)))
      have hfr : ((bitsN x : Nat) : Int) - 64 = ((32 * f + s : Nat) : Int) := by omega
      have hbt' : (64 : Int) < ((bitsN gk : Nat) : Int) := by omega
      generalize x / 2 ^ (32 * f + s) = xh at *
      generalize gk / 2 ^ (32 * f + s) = yh at *
      generalize 32 * f + s = fr at *
      generalize bitsN x = bx at *
      generalize hbk : bitsN gk = bk at *
      have hbk0 := Lib.hid hbk
      clear hbt hbk hfs
      go_wp2_with fail
      (with_reducible refine hbl.out.mono ?_)
      rintro e wr ⟨rfl, rfl⟩
      go_wp2_with fail
      (with_reducible refine hblx.out.mono ?_)
      rintro e wr ⟨rfl, rfl⟩
      go_wp2_with fail
      (with_reducible refine hwx.out.mono ?_)
      rintro e w1 ⟨rfl, j1, rfl⟩
      go_wp2_with fail
      (with_reducible refine (hwy.out j1).mono ?_)
      rintro e w1 ⟨rfl, j2, rfl⟩
      go_wp2_with fail
      (with_reducible refine (hgu.out _).mono ?_)
      rintro e w5 ⟨a0, b0, a1, b1, rfl, ⟨la0, lb0, la1, lb1⟩, hcert, b5⟩
      have B5 : Below wr.heap.size wr w5 := (below_drewN (Below.refl _ wr) _).trans b5
      have B7 : Below wr.heap.size wr ((w5.alloc (.cells (rmC a0 b0) 88)).alloc (.cells (rmC a1 b1) 88)) := below_wt B5 (below2 w5 _ _)
      have fx := hx.out.keep B7
      have fy := hk.out.keep B7
      have hZ0 := (Blk.new w5 (rmC a0 b0) 88).alloc (.cells (rmC a1 b1) 88)
      have hZ1 := Blk.new (w5.alloc (.cells (rmC a0 b0) 88)) (rmC a1 b1) 88
      simp only [World.size_alloc] at hZ1
      have C7 := below_wt bel B7
      by_cases hb0 : b0 = 0
      · have hz1 : ((b0 : Int) == 0) = true := by simp [hb0]
        have hz2 : Hid (b0 = 0) := Lib.hid hb0
        have hkp : 0 < gk := by
          rcases Nat.eq_zero_or_pos gk with h | h
          · subst h; exfalso; have h2 := hbk0.out; rw [bitsN_zero] at h2; omega
          · exact h
        have hdv := Lib.hid (divide_any _ _ x gk _ fx fy hkp (by rw [← hlx.out]; exact sx))
        have hml := Lib.hid (Nat.mod_lt x hkp)
        have hgg := Lib.hid (show Nat.gcd gk (x % gk) = Nat.gcd m n by rw [← hg.out, Nat.gcd_comm x gk, Nat.gcd_rec gk x, Nat.gcd_comm])
        have fy' := Lib.hid fy
        obtain ⟨lr, hlr⟩ : ∃ l, l = dlen W32 (x % gk) := ⟨_, rfl⟩
        have slr : lr ≤ 1000000000 := by have := dlen_mono w32 (Nat.le_of_lt hml.out); rw [← hlr, ← hlk.out] at this; omega
        have hlr' := Lib.hid hlr
        clear fx fy hcert hkp hb0
        go_wp2_with fail
        (with_reducible refine hdv.out.mono ?_)
        rintro e w8 ⟨q, r, rfl, hq, hr, b8⟩
        obtain ⟨_, qa, qc, rfl⟩ := hq.len
        obtain ⟨_, ra, rc, rfl⟩ := hr.len
        rw [← hlr] at hr ⊢
        have hr8 := Lib.hid hr
        have hk8 := Lib.hid (fy'.out.keep b8)
        have B8 := Lib.hid (below_wt C7 b8)
        clear hq hr b8 hdv hlr
        go_wp2
        go_roundg (x % gk)
        case measure => exact hml.out
        case rel => exact ⟨gk, lk, lr, ck, rc, ak, ra, rfl, rfl, hlk, hlr', sk, slr, hk8, hr8, Nat.le_of_lt hml.out, hgg, B8.out⟩
      · obtain ⟨even, R0, R1, ct, ct1, ct2⟩ := hcert hb0
        have hgg := Lib.hid (show Nat.gcd R0 R1 = Nat.gcd m n by rw [ct.gcd]; exact hg.out)
        obtain ⟨gp0, gp1⟩ := ct.gaps
        have ct1' := Lib.hid ct1
        have hml := Lib.hid (show R1 < gk by omega)
        have hp0 : ¬ (b0 : Int) = 0 := by omega
        have hp1 : ((b0 : Int) == 0) = false := by simp; omega
        have s0 : dlen W32 R0 ≤ 1000000000 := by have := dlen_mono w32 ct2; rw [← hlk.out] at this; omega
        have s1 : dlen W32 R1 ≤ 1000000000 := Nat.le_trans (dlen_mono w32 (Nat.le_of_lt ct1)) s0
        have hg0 := Lib.hid (fun (W : World) (h1 : LongI W (.slice ax lx cx) x) (h2 : LongI W (.slice ak lk ck) gk) => gap_any _ _ x gk a0 b0 W h1 h2 la0 lb0 (by rw [← hlx.out]; exact sx) (by rw [← hlk.out]; exact sk))
        have hg1 := Lib.hid (fun (W : World) (h1 : LongI W (.slice ax lx cx) x) (h2 : LongI W (.slice ak lk ck) gk) => gap_any _ _ x gk a1 b1 W h1 h2 la1 lb1 (by rw [← hlx.out]; exact sx) (by rw [← hlk.out]; exact sk))
        rw [show gapN x gk a0 b0 = R0 from gp0] at hg0
        rw [show gapN x gk a1 b1 = R1 from gp1] at hg1
        have d0 := hZ0.cell 0
        have d1 := hZ0.cell 1
        have e0 := hZ1.cell 0
        have e1 := hZ1.cell 1
        simp only [rmC, List.getElem?_toArray, List.getElem?_cons_zero, List.getElem?_cons_succ] at d0 d1 e0 e1
        clear hcert gp0 gp1 ct ct1 ct2 hb0
        go_wp2_with fail
        generalize hW7 : (w5.alloc _).alloc _ = W7 at *
        have fx := fx.keep (Below.refl _ W7).drew
        have fy := fy.keep (Below.refl _ W7).drew
        have C8 := C7.drew
        replace d0 : W7.drew.cell? ⟨w5.heap.size, 0, none⟩ = some (.int .u64 (a0 : Int)) := d0
        replace d1 : W7.drew.cell? ⟨w5.heap.size, 1, none⟩ = some (.int .u64 (b0 : Int)) := d1
        replace e0 : W7.drew.cell? ⟨w5.heap.size + 1, 0, none⟩ = some (.int .u64 (a1 : Int)) := e0
        replace e1 : W7.drew.cell? ⟨w5.heap.size + 1, 1, none⟩ = some (.int .u64 (b1 : Int)) := e1
        clear hZ0 hZ1 C7 B7 hW7
        go_region_held3 (fun w' => w'.cell? ⟨w5.heap.size, 0, none⟩ = some (.int .u64 (a0 : Int)) ∧ w'.cell? ⟨w5.heap.size, 1, none⟩ = some (.int .u64 (b0 : Int)) ∧ w'.cell? ⟨w5.heap.size + 1, 0, none⟩ = some (.int .u64 (a1 : Int)) ∧ w'.cell? ⟨w5.heap.size + 1, 1, none⟩ = some (.int .u64 (b1 : Int)))
          (go_keep)
          (first
            | (go_at_call 50; first
                | ((with_reducible refine (hg0.out _ fx fy).mono ?_); rintro e u1 ⟨v0, rfl, p0, b1'⟩; replace fx := fx.keep b1'; replace fy := fy.keep b1'; (try replace p1 := p1.keep b1'); replace C8 := below_wt C8 b1'; replace d0 := (b1'.cell (p := ⟨w5.heap.size, 0, none⟩) (block_lt d0)).trans d0; replace d1 := (b1'.cell (p := ⟨w5.heap.size, 1, none⟩) (block_lt d1)).trans d1; replace e0 := (b1'.cell (p := ⟨w5.heap.size + 1, 0, none⟩) (block_lt e0)).trans e0; replace e1 := (b1'.cell (p := ⟨w5.heap.size + 1, 1, none⟩) (block_lt e1)).trans e1)
                | ((with_reducible refine (hg1.out _ fx fy).mono ?_); rintro e u2 ⟨v1, rfl, p1, b2'⟩; replace fx := fx.keep b2'; replace fy := fy.keep b2'; (try replace p0 := p0.keep b2'); replace C8 := below_wt C8 b2'; replace d0 := (b2'.cell (p := ⟨w5.heap.size, 0, none⟩) (block_lt d0)).trans d0; replace d1 := (b2'.cell (p := ⟨w5.heap.size, 1, none⟩) (block_lt d1)).trans d1; replace e0 := (b2'.cell (p := ⟨w5.heap.size + 1, 0, none⟩) (block_lt e0)).trans e0; replace e1 := (b2'.cell (p := ⟨w5.heap.size + 1, 1, none⟩) (block_lt e1)).trans e1)))
        all_goals
          obtain ⟨_, pa0, pc0, rfl⟩ := p0.len
          obtain ⟨_, pa1, pc1, rfl⟩ := p1.len
        all_goals
          have ps0 := Lib.hid p0
          have ps1 := Lib.hid p1
          have B9 := Lib.hid C8
          clear p0 p1 fx fy C8 d0 d1 e0 e1
          go_wp2
          go_roundg R1
        case measure => exact hml.out
        case rel => exact ⟨R0, _, _, pc0, pc1, pa0, pa1, rfl, rfl, Lib.hid rfl, Lib.hid rfl, s0, s1, ps0, ps1, Nat.le_of_lt ct1'.out, hgg, B9.out⟩
    · have hks := bits_small hbt
      have hbt' : ¬ (64 : Int) < ((bitsN gk : Nat) : Int) := by omega
      generalize bitsN gk = bk at *
      clear hbt
      go_wp2_with fail
      (with_reducible refine hbl.out.mono ?_)
      rintro e wr ⟨rfl, rfl⟩
      by_cases h0 : lk = 0
      · have hgk := dlen_zero_iff' (hlk.out.symm.trans h0)
        have hr := Lib.hid (show LongI wr (.slice ax lx cx) (Nat.gcd m n) by rw [← hg.out, hgk, Nat.gcd_zero_right]; exact hx.out)
        have hz : ((lk : Int) == 0) = true := by simp [h0]
        clear h0 hgk
        go_wp2
        go_ret
        exact ⟨_, rfl, hr.out, bel⟩
      · have hz : ((lk : Int) == 0) = false := by simp; omega
        have hkp : 0 < gk := by
          rcases Nat.eq_zero_or_pos gk with h | h
          · exfalso; apply h0; rw [hlk.out, h, dlen_zero]
          · exact h
        have hdv := Lib.hid (divide_any _ _ x gk wr hx.out hk.out hkp (by rw [← hlx.out]; exact sx))
        have hml := Nat.mod_lt x hkp
        have hgg := Lib.hid (show Nat.gcd gk (x % gk) = Nat.gcd m n by rw [← hg.out, Nat.gcd_comm x gk, Nat.gcd_rec gk x, Nat.gcd_comm])
        have hcd := Lib.hid (fun W => commonDivisor_any gk (x % gk) W hks (by omega))
        have hlo := Lib.hid (fun W => longOf_any (Nat.gcd gk (x % gk)) W (Nat.lt_of_le_of_lt (Nat.gcd_le_left _ hkp) hks))
        have hr64 : x % gk < 18446744073709551616 := by omega
        have hr64' := Lib.hid hr64
        have hks' := Lib.hid hks
        rw [hgg.out] at hcd hlo
        generalize hrr : x % gk = rr at *
        replace hrr := Lib.hid hrr
        clear h0 hml hks hr64 hkp
        go_wp2_with (go_at_call 37; go_in)
        (with_reducible refine hdv.out.mono ?_)
        rintro e w8 ⟨q, r, rfl, hq, hr, b8⟩
        rw [hrr.out] at hr
        obtain ⟨_, qa, qc, rfl⟩ := hq.len
        obtain ⟨_, ra, rc, rfl⟩ := hr.len
        have hw1 := Lib.hid (window_zero _ gk w8 (hk.out.keep b8) hks'.out)
        have hw2 := Lib.hid (fun j => window_zero _ rr (w8.drewN j) (hr.keep (below_drewN (Below.refl _ _) j)) hr64'.out)
        have B8 := Lib.hid (below_wt bel b8)
        clear hq hr b8 hdv
        go_wp2_with fail
        (with_reducible refine hw1.out.mono ?_)
        rintro e w9 ⟨rfl, j1, rfl⟩
        go_wp2_with fail
        (with_reducible refine (hw2.out j1).mono ?_)
        rintro e w9 ⟨rfl, j2, rfl⟩
        go_wp2_with fail
        (with_reducible refine (hcd.out _).mono ?_)
        rintro e w9 ⟨rfl, j3, rfl⟩
        go_wp2_with fail
        (with_reducible refine (hlo.out _).mono ?_)
        rintro e w9 ⟨v9, rfl, hL9, b9⟩
        have hL9' := Lib.hid hL9
        have b9' := Lib.hid b9
        clear hL9 b9
        go_wp2
        go_ret
        exact ⟨_, rfl, hL9'.out, below_wt B8.out ((below_drewN (Below.refl _ w8) _).trans b9'.out)⟩
set_option maxRecDepth 100000 in
set_option maxHeartbeats 4000000 in
theorem divisor_lt (a b : Value) (m n : Nat) (w : World) (ha : LongI w a m) (hb : LongI w b n) (hlt0 : n < m) (sm : dlen W32 m ≤ 1000000000) :
    Calls Tryd.prog 35 #[b, a] w fun e w' => ∃ v, e = .returned v ∧ LongI w' v (Nat.gcd m n) ∧ Below w.heap.size w w' := by
  have hle : n ≤ m := Nat.le_of_lt hlt0
  have hcmp := compare_any b a n m w hb ha
  rw [cmpI_lt hlt0] at hcmp
  have sn := Nat.le_trans (dlen_mono w32 hle) sm
  obtain ⟨_, a1, cap1, rfl⟩ := ha.len
  obtain ⟨_, a2, cap2, rfl⟩ := hb.len
  have ha' := Lib.hid ha
  have hb' := Lib.hid hb
  have hle' := Lib.hid hle
  obtain ⟨lm, hlm⟩ : ∃ l, l = dlen W32 m := ⟨_, rfl⟩
  obtain ⟨ln, hln⟩ : ∃ l, l = dlen W32 n := ⟨_, rfl⟩
  have hlm' := Lib.hid hlm
  have hln' := Lib.hid hln
  rw [← hlm] at ha' sm hcmp ⊢
  rw [← hln] at hb' sn hcmp ⊢
  have hcmp' := Lib.hid hcmp
  clear ha hb hlm hln hle hcmp hlt0
  go_enter Tryd.func35, Tryd.ntmps35
  go_wp2_with fail
  (with_reducible refine hcmp'.out.mono ?_)
  rintro e w1 ⟨rfl, j0, rfl⟩
  go_wp2_with fail
  go_loopg [0, 1] n (fun k av bv wr => ∃ (x lx lk cx ck : Nat) (ax ak : Option Addr), av = .slice ax lx cx ∧ bv = .slice ak lk ck ∧ Hid (lx = dlen W32 x) ∧ Hid (lk = dlen W32 k) ∧ lx ≤ 1000000000 ∧ lk ≤ 1000000000 ∧ Hid (LongI wr (.slice ax lx cx) x) ∧ Hid (LongI wr (.slice ak lk ck) k) ∧ Hid (k ≤ x) ∧ Hid (Nat.gcd x k = Nat.gcd m n) ∧ Below w.heap.size w wr)
  case atStart => exact ⟨m, lm, ln, cap1, cap2, a1, a2, rfl, rfl, hlm', hln', sm, sn, ha'.out.keep (below_drewN (Below.refl _ _) j0), hb'.out.keep (below_drewN (Below.refl _ _) j0), hle', Lib.hid rfl, below_drewN (Below.refl _ _) j0⟩
  case round =>
    obtain ⟨x, lx, lk, cx, ck, ax, ak, rfl, rfl, hlx, hlk, sx, sk, hx, hk, hkx, hg, bel⟩ := hrel
    have hbl := Lib.hid (bitLen_any _ gk wr hk.out (by rw [← hlk.out]; exact sk))
    by_cases hbt : 64 < bitsN gk
    · obtain ⟨f, s, hs, hfs, hx64, hyx⟩ := top_bits hkx.out hbt
      have hF : f < 1099511627776 := by
        have := bitsN_le (n := x)
        rw [← hlx.out] at this
        omega
      have hfb : 32 * f + s ≤ 32000000000 := by
        have := bitsN_le (n := x)
        rw [← hlx.out] at this
        omega
      have hwx := Lib.hid (window_long _ x f s wr hx.out hs hF)
      have hwy := Lib.hid (fun j => window_long _ gk f s (wr.drewN j) (hk.out.keep (below_drewN (Below.refl _ _) j)) hs hF)
      have hblx := Lib.hid (bitLen_any _ x wr hx.out (by rw [← hlx.out]; exact sx))
      have hyx64 : gk / 2 ^ (32 * f + s) < 18446744073709551616 := Nat.lt_of_le_of_lt hyx hx64
      rw [Nat.mod_eq_of_lt hx64] at hwx
      rw [Nat.mod_eq_of_lt hyx64] at hwy
      have hgu := Lib.hid (fun W => guessRemainders_any (2 ^ (32 * f + s)) x gk (x / 2 ^ (32 * f + s)) (gk / 2 ^ (32 * f + s)) (x % 2 ^ (32 * f + s)) (gk % 2 ^ (32 * f + s)) W hyx hx64 (by rw [Nat.mul_comm]; exact (Nat.div_add_mod _ _).symm) (by rw [Nat.mul_comm]; exact (Nat.div_add_mod _ _).symm) (Nat.mod_lt _ (Nat.two_pow_pos _)) (Nat.mod_lt _ (Nat.two_pow_pos _)))
      have hfr : ((bitsN x : Nat) : Int) - 64 = ((32 * f + s : Nat) : Int) := by omega
      have hbt' : (64 : Int) < ((bitsN gk : Nat) : Int) := by omega
      generalize x / 2 ^ (32 * f + s) = xh at *
      generalize gk / 2 ^ (32 * f + s) = yh at *
      generalize 32 * f + s = fr at *
      generalize bitsN x = bx at *
      generalize hbk : bitsN gk = bk at *
      have hbk0 := Lib.hid hbk
      clear hbt hbk hfs
      go_wp2_with fail
      (with_reducible refine hbl.out.mono ?_)
      rintro e wr ⟨rfl, rfl⟩
      go_wp2_with fail
      (with_reducible refine hblx.out.mono ?_)
      rintro e wr ⟨rfl, rfl⟩
      go_wp2_with fail
      (with_reducible refine hwx.out.mono ?_)
      rintro e w1 ⟨rfl, j1, rfl⟩
      go_wp2_with fail
      (with_reducible refine (hwy.out j1).mono ?_)
      rintro e w1 ⟨rfl, j2, rfl⟩
      go_wp2_with fail
      (with_reducible refine (hgu.out _).mono ?_)
      rintro e w5 ⟨a0, b0, a1, b1, rfl, ⟨la0, lb0, la1, lb1⟩, hcert, b5⟩
      have B5 : Below wr.heap.size wr w5 := (below_drewN (Below.refl _ wr) _).trans b5
      have B7 : Below wr.heap.size wr ((w5.alloc (.cells (rmC a0 b0) 88)).alloc (.cells (rmC a1 b1) 88)) := below_wt B5 (below2 w5 _ _)
      have fx := hx.out.keep B7
      have fy := hk.out.keep B7
      have hZ0 := (Blk.new w5 (rmC a0 b0) 88).alloc (.cells (rmC a1 b1) 88)
      have hZ1 := Blk.new (w5.alloc (.cells (rmC a0 b0) 88)) (rmC a1 b1) 88
      simp only [World.size_alloc] at hZ1
      have C7 := below_wt bel B7
      by_cases hb0 : b0 = 0
      · have hz1 : ((b0 : Int) == 0) = true := by simp [hb0]
        have hz2 : Hid (b0 = 0) := Lib.hid hb0
        have hkp : 0 < gk := by
          rcases Nat.eq_zero_or_pos gk with h | h
          · subst h; exfalso; have h2 := hbk0.out; rw [bitsN_zero] at h2; omega
          · exact h
        have hdv := Lib.hid (divide_any _ _ x gk _ fx fy hkp (by rw [← hlx.out]; exact sx))
        have hml := Lib.hid (Nat.mod_lt x hkp)
        have hgg := Lib.hid (show Nat.gcd gk (x % gk) = Nat.gcd m n by rw [← hg.out, Nat.gcd_comm x gk, Nat.gcd_rec gk x, Nat.gcd_comm])
        have fy' := Lib.hid fy
        obtain ⟨lr, hlr⟩ : ∃ l, l = dlen W32 (x % gk) := ⟨_, rfl⟩
        have slr : lr ≤ 1000000000 := by have := dlen_mono w32 (Nat.le_of_lt hml.out); rw [← hlr, ← hlk.out] at this; omega
        have hlr' := Lib.hid hlr
        clear fx fy hcert hkp hb0
        go_wp2_with fail
        (with_reducible refine hdv.out.mono ?_)
        rintro e w8 ⟨q, r, rfl, hq, hr, b8⟩
        obtain ⟨_, qa, qc, rfl⟩ := hq.len
        obtain ⟨_, ra, rc, rfl⟩ := hr.len
        rw [← hlr] at hr ⊢
        have hr8 := Lib.hid hr
        have hk8 := Lib.hid (fy'.out.keep b8)
        have B8 := Lib.hid (below_wt C7 b8)
        clear hq hr b8 hdv hlr
        go_wp2
        go_roundg (x % gk)
        case measure => exact hml.out
        case rel => exact ⟨gk, lk, lr, ck, rc, ak, ra, rfl, rfl, hlk, hlr', sk, slr, hk8, hr8, Nat.le_of_lt hml.out, hgg, B8.out⟩
      · obtain ⟨even, R0, R1, ct, ct1, ct2⟩ := hcert hb0
        have hgg := Lib.hid (show Nat.gcd R0 R1 = Nat.gcd m n by rw [ct.gcd]; exact hg.out)
        obtain ⟨gp0, gp1⟩ := ct.gaps
        have ct1' := Lib.hid ct1
        have hml := Lib.hid (show R1 < gk by omega)
        have hp0 : ¬ (b0 : Int) = 0 := by omega
        have hp1 : ((b0 : Int) == 0) = false := by simp; omega
        have s0 : dlen W32 R0 ≤ 1000000000 := by have := dlen_mono w32 ct2; rw [← hlk.out] at this; omega
        have s1 : dlen W32 R1 ≤ 1000000000 := Nat.le_trans (dlen_mono w32 (Nat.le_of_lt ct1)) s0
        have hg0 := Lib.hid (fun (W : World) (h1 : LongI W (.slice ax lx cx) x) (h2 : LongI W (.slice ak lk ck) gk) => gap_any _ _ x gk a0 b0 W h1 h2 la0 lb0 (by rw [← hlx.out]; exact sx) (by rw [← hlk.out]; exact sk))
        have hg1 := Lib.hid (fun (W : World) (h1 : LongI W (.slice ax lx cx) x) (h2 : LongI W (.slice ak lk ck) gk) => gap_any _ _ x gk a1 b1 W h1 h2 la1 lb1 (by rw [← hlx.out]; exact sx) (by rw [← hlk.out]; exact sk))
        rw [show gapN x gk a0 b0 = R0 from gp0] at hg0
        rw [show gapN x gk a1 b1 = R1 from gp1] at hg1
        have d0 := hZ0.cell 0
        have d1 := hZ0.cell 1
        have e0 := hZ1.cell 0
        have e1 := hZ1.cell 1
        simp only [rmC, List.getElem?_toArray, List.getElem?_cons_zero, List.getElem?_cons_succ] at d0 d1 e0 e1
        clear hcert gp0 gp1 ct ct1 ct2 hb0
        go_wp2_with fail
        generalize hW7 : (w5.alloc _).alloc _ = W7 at *
        have fx := fx.keep (Below.refl _ W7).drew
        have fy := fy.keep (Below.refl _ W7).drew
        have C8 := C7.drew
        replace d0 : W7.drew.cell? ⟨w5.heap.size, 0, none⟩ = some (.int .u64 (a0 : Int)) := d0
        replace d1 : W7.drew.cell? ⟨w5.heap.size, 1, none⟩ = some (.int .u64 (b0 : Int)) := d1
        replace e0 : W7.drew.cell? ⟨w5.heap.size + 1, 0, none⟩ = some (.int .u64 (a1 : Int)) := e0
        replace e1 : W7.drew.cell? ⟨w5.heap.size + 1, 1, none⟩ = some (.int .u64 (b1 : Int)) := e1
        clear hZ0 hZ1 C7 B7 hW7
        go_region_held3 (fun w' => w'.cell? ⟨w5.heap.size, 0, none⟩ = some (.int .u64 (a0 : Int)) ∧ w'.cell? ⟨w5.heap.size, 1, none⟩ = some (.int .u64 (b0 : Int)) ∧ w'.cell? ⟨w5.heap.size + 1, 0, none⟩ = some (.int .u64 (a1 : Int)) ∧ w'.cell? ⟨w5.heap.size + 1, 1, none⟩ = some (.int .u64 (b1 : Int)))
          (go_keep)
          (first
            | (go_at_call 50; first
                | ((with_reducible refine (hg0.out _ fx fy).mono ?_); rintro e u1 ⟨v0, rfl, p0, b1'⟩; replace fx := fx.keep b1'; replace fy := fy.keep b1'; (try replace p1 := p1.keep b1'); replace C8 := below_wt C8 b1'; replace d0 := (b1'.cell (p := ⟨w5.heap.size, 0, none⟩) (block_lt d0)).trans d0; replace d1 := (b1'.cell (p := ⟨w5.heap.size, 1, none⟩) (block_lt d1)).trans d1; replace e0 := (b1'.cell (p := ⟨w5.heap.size + 1, 0, none⟩) (block_lt e0)).trans e0; replace e1 := (b1'.cell (p := ⟨w5.heap.size + 1, 1, none⟩) (block_lt e1)).trans e1)
                | ((with_reducible refine (hg1.out _ fx fy).mono ?_); rintro e u2 ⟨v1, rfl, p1, b2'⟩; replace fx := fx.keep b2'; replace fy := fy.keep b2'; (try replace p0 := p0.keep b2'); replace C8 := below_wt C8 b2'; replace d0 := (b2'.cell (p := ⟨w5.heap.size, 0, none⟩) (block_lt d0)).trans d0; replace d1 := (b2'.cell (p := ⟨w5.heap.size, 1, none⟩) (block_lt d1)).trans d1; replace e0 := (b2'.cell (p := ⟨w5.heap.size + 1, 0, none⟩) (block_lt e0)).trans e0; replace e1 := (b2'.cell (p := ⟨w5.heap.size + 1, 1, none⟩) (block_lt e1)).trans e1)))
        all_goals
          obtain ⟨_, pa0, pc0, rfl⟩ := p0.len
          obtain ⟨_, pa1, pc1, rfl⟩ := p1.len
        all_goals
          have ps0 := Lib.hid p0
          have ps1 := Lib.hid p1
          have B9 := Lib.hid C8
          clear p0 p1 fx fy C8 d0 d1 e0 e1
          go_wp2
          go_roundg R1
        case measure => exact hml.out
        case rel => exact ⟨R0, _, _, pc0, pc1, pa0, pa1, rfl, rfl, Lib.hid rfl, Lib.hid rfl, s0, s1, ps0, ps1, Nat.le_of_lt ct1'.out, hgg, B9.out⟩
    · have hks := bits_small hbt
      have hbt' : ¬ (64 : Int) < ((bitsN gk : Nat) : Int) := by omega
      generalize bitsN gk = bk at *
      clear hbt
      go_wp2_with fail
      (with_reducible refine hbl.out.mono ?_)
      rintro e wr ⟨rfl, rfl⟩
      by_cases h0 : lk = 0
      · have hgk := dlen_zero_iff' (hlk.out.symm.trans h0)
        have hr := Lib.hid (show LongI wr (.slice ax lx cx) (Nat.gcd m n) by rw [← hg.out, hgk, Nat.gcd_zero_right]; exact hx.out)
        have hz : ((lk : Int) == 0) = true := by simp [h0]
        clear h0 hgk
        go_wp2
        go_ret
        exact ⟨_, rfl, hr.out, bel⟩
      · have hz : ((lk : Int) == 0) = false := by simp; omega
        have hkp : 0 < gk := by
          rcases Nat.eq_zero_or_pos gk with h | h
          · exfalso; apply h0; rw [hlk.out, h, dlen_zero]
          · exact h
        have hdv := Lib.hid (divide_any _ _ x gk wr hx.out hk.out hkp (by rw [← hlx.out]; exact sx))
        have hml := Nat.mod_lt x hkp
        have hgg := Lib.hid (show Nat.gcd gk (x % gk) = Nat.gcd m n by rw [← hg.out, Nat.gcd_comm x gk, Nat.gcd_rec gk x, Nat.gcd_comm])
        have hcd := Lib.hid (fun W => commonDivisor_any gk (x % gk) W hks (by omega))
        have hlo := Lib.hid (fun W => longOf_any (Nat.gcd gk (x % gk)) W (Nat.lt_of_le_of_lt (Nat.gcd_le_left _ hkp) hks))
        have hr64 : x % gk < 18446744073709551616 := by omega
        have hr64' := Lib.hid hr64
        have hks' := Lib.hid hks
        rw [hgg.out] at hcd hlo
        generalize hrr : x % gk = rr at *
        replace hrr := Lib.hid hrr
        clear h0 hml hks hr64 hkp
        go_wp2_with (go_at_call 37; go_in)
        (with_reducible refine hdv.out.mono ?_)
        rintro e w8 ⟨q, r, rfl, hq, hr, b8⟩
        rw [hrr.out] at hr
        obtain ⟨_, qa, qc, rfl⟩ := hq.len
        obtain ⟨_, ra, rc, rfl⟩ := hr.len
        have hw1 := Lib.hid (window_zero _ gk w8 (hk.out.keep b8) hks'.out)
        have hw2 := Lib.hid (fun j => window_zero _ rr (w8.drewN j) (hr.keep (below_drewN (Below.refl _ _) j)) hr64'.out)
        have B8 := Lib.hid (below_wt bel b8)
        clear hq hr b8 hdv
        go_wp2_with fail
        (with_reducible refine hw1.out.mono ?_)
        rintro e w9 ⟨rfl, j1, rfl⟩
        go_wp2_with fail
        (with_reducible refine (hw2.out j1).mono ?_)
        rintro e w9 ⟨rfl, j2, rfl⟩
        go_wp2_with fail
        (with_reducible refine (hcd.out _).mono ?_)
        rintro e w9 ⟨rfl, j3, rfl⟩
        go_wp2_with fail
        (with_reducible refine (hlo.out _).mono ?_)
        rintro e w9 ⟨v9, rfl, hL9, b9⟩
        have hL9' := Lib.hid hL9
        have b9' := Lib.hid b9
        clear hL9 b9
        go_wp2
        go_ret
        exact ⟨_, rfl, hL9'.out, below_wt B8.out ((below_drewN (Below.refl _ w8) _).trans b9'.out)⟩

/-- the greatest common divisor -/
theorem divisor_any (a b : Value) (m n : Nat) (w : World) (ha : LongI w a m) (hb : LongI w b n) (sm : dlen W32 m ≤ 1000000000) (sn : dlen W32 n ≤ 1000000000) :
    Calls Tryd.prog 35 #[a, b] w fun e w' => ∃ v, e = .returned v ∧ LongI w' v (Nat.gcd m n) ∧ Below w.heap.size w w' := by
  rcases Nat.lt_or_ge m n with h | h
  · rw [Nat.gcd_comm]
    exact divisor_lt b a n m w hb ha h sn
  · exact divisor_ge a b m n w ha hb h sm
end Go.Proofs.YtiddhnnofpbopaaDoor
