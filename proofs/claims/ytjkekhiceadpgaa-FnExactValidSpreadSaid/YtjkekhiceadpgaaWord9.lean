/- putBack and takeOut of the project: a multiple of the divisor is taken out of a part of a list, in place. Conditions: the divisor has two words or more, its highest bit is set; fewer than 2^40 words. -/
import Derived.Test.YtjkekhiceadpgaaWord8
namespace Go.Proofs.Ytjkekhiceadpgaa
open Go.RowKit Go.Deep
set_option linter.unusedVariables false

/-- nothing but block g has turned -/
structure Upon (g : Nat) (w w' : World) : Prop where
  os : w'.os = w.os
  tape : w'.tape = w.tape
  output : w'.output = w.output
  size : w'.heap.size = w.heap.size
  block : ∀ k, k ≠ g → w'.heap[k]? = w.heap[k]?
theorem Upon.refl (g : Nat) (w : World) : Upon g w w := ⟨rfl, rfl, rfl, rfl, fun _ _ => rfl⟩
theorem Upon.trans {g : Nat} {a b c : World} (h : Upon g a b) (k : Upon g b c) : Upon g a c :=
  ⟨k.os.trans h.os, k.tape.trans h.tape, k.output.trans h.output, k.size.trans h.size, fun i hi => (k.block i hi).trans (h.block i hi)⟩
theorem Upon.drewN {g : Nat} {a b : World} (h : Upon g a b) (n : Nat) : Upon g a (b.drewN n) := h.trans ⟨rfl, rfl, rfl, rfl, fun _ _ => rfl⟩
theorem Upon.set {g : Nat} {a b : World} (h : Upon g a b) (i : Nat) (u : Value) : Upon g a (b.setCell ⟨g, i, none⟩ u) :=
  h.trans ⟨rfl, rfl, rfl, by simp [World.setCell], fun k hk => Below.heap_setCell b ⟨g, i, none⟩ u k hk⟩
theorem Upon.cell {g : Nat} {a b : World} (h : Upon g a b) {p : Addr} (hp : p.block ≠ g) : b.cell? p = a.cell? p := World.cell?_of_block (w := a) (h.block p.block hp)
theorem Upon.below {g : Nat} {a b : World} (h : Upon g a b) {B : Nat} (hB : B ≤ g) : Below B a b := ⟨h.os, h.tape, h.output, Nat.le_of_eq h.size.symm, fun k hk => h.block k (by omega)⟩
theorem Upon.same {g : Nat} {a b : World} (h : Upon g a b) {lo hi : Nat} (hg : g < lo ∨ hi ≤ g) : SameOn lo hi a b := fun k h1 h2 => h.block k (by omega)

/-- a list of words that a call works in -/
structure Work (w : World) (lo hi g M cap : Nat) (l : List Nat) : Prop where
  own : Own w lo hi 163 (.slice (some ⟨g, 0, none⟩) M cap) (u32s l)
  len : l.length = M
  dig : ∀ x ∈ l, x < W32
theorem Work.at {w : World} {lo hi g M cap : Nat} {l : List Nat} (h : Work w lo hi g M cap l) {j : Nat} (hj : j < M) : w.cell? ⟨g, j, none⟩ = some (.int .u32 ((l.getD j 0 : Nat) : Int)) ∧ w.frozen? ⟨g, j, none⟩ = false ∧ l.getD j 0 < 4294967296 := by
  have hl := h.len
  obtain ⟨g', cap', hv, -, -, -, hc, hf⟩ := h.own.at (by rw [u32s_length]; omega)
  simp only [Value.slice.injEq, Option.some.injEq, Addr.mk.injEq, and_true] at hv
  obtain ⟨rfl, -, -⟩ := hv
  refine ⟨?_, hf j, h.dig _ (lg_mem (d := 0) (by omega))⟩
  rw [hc j (by rw [u32s_length]; omega), cell_u32 l j (by omega)]
theorem Work.set {w : World} {lo hi g M cap : Nat} {l : List Nat} (h : Work w lo hi g M cap l) (j d : Nat) (hd : d < W32) : Work (w.setCell ⟨g, j, none⟩ (.int .u32 (d : Int))) lo hi g M cap (l.set j d) := by
  refine ⟨?_, by rw [List.length_set]; exact h.len, ?_⟩
  · have := h.own.set j (.int .u32 (d : Int))
    rw [u32s_set] at this; exact this
  · intro x hx
    rcases List.mem_or_eq_of_mem_set hx with h' | h'
    · exact h.dig x h'
    · rw [h']; exact hd
theorem Work.drewN {w : World} {lo hi g M cap : Nat} {l : List Nat} (h : Work w lo hi g M cap l) (n : Nat) : Work (w.drewN n) lo hi g M cap l := ⟨h.own.keep (B := hi) (Nat.le_refl _) (below_drewN (Below.refl _ w) n), h.len, h.dig⟩

/-- what putBack leaves -/
def PutI (lo hi g M cap i n Y : Nat) (l : List Nat) (w : World) (e : Ending) (w' : World) : Prop :=
  (∃ v, e = .returned v) ∧ ∃ l' c, Work w' lo hi g M cap l' ∧ c ≤ 1 ∧ val W32 (l'.drop (i + (n + 1))) = val W32 (l.drop (i + (n + 1))) ∧ val W32 l' + c * W32 ^ (i + (n + 1)) = val W32 l + W32 ^ i * Y ∧ Upon g w w'

theorem put_round {c o s : Nat} (hc : c ≤ 1) (ho : o < 4294967296) (hs : s < 4294967296) : ∃ d c2 : Nat, ((c : Int) + (o : Int) + (s : Int)) % 4294967296 = (d : Int) ∧ ((c : Int) + (o : Int) + (s : Int)) / 4294967296 = (c2 : Int) ∧ d < 4294967296 ∧ c2 ≤ 1 ∧ d + W32 * c2 = o + s + c := by
  refine ⟨(c + o + s) % 4294967296, (c + o + s) / 4294967296, by omega, by omega, by omega, by omega, ?_⟩
  simp only [W32]; omega

set_option maxRecDepth 100000 in
set_option maxHeartbeats 4000000 in
theorem putBack_any (g i M cap pc by' oy yc n Y lo hi : Nat) (l : List Nat) (w : World) (hW : Work w lo hi g M cap l) (hin : i + (n + 1) ≤ M) (hM : M < 1099511627776)
    (hy : ∀ j, j < n → w.cell? ⟨by', oy + j, none⟩ = some (.int .u32 (dgt W32 Y j : Int))) (hYn : Y < W32 ^ n) (hne : by' ≠ g) :
    Calls Try.prog 144 #[.slice (some ⟨g, i, none⟩) (n + 1) pc, .slice (some ⟨by', oy, none⟩) n yc] w (PutI lo hi g M cap i n Y l w) := by
  unfold PutI
  have hyb := Lib.hid (dgt_lt w32 Y)
  have hyz := Lib.hid (dgt_big hYn)
  have hYm := Lib.hid (Nat.mod_eq_of_lt (Nat.lt_of_lt_of_le hYn (Nat.pow_le_pow_right (show 0 < W32 by decide) (Nat.le_succ n))))
  have hy' := Lib.hid hy
  have hW' := Lib.hid hW
  clear hW hy hYn
  go_enter Try.func144, Try.ntmps144
  go_wp2
  go_loopw [4, 8] (fun cv iv wr => ∃ (k c : Nat) (l2 : List Nat), k ≤ n + 1 ∧ cv = .int .u64 (c : Int) ∧ iv = .int .i64 (k : Int) ∧ c ≤ 1 ∧ Hid (Work wr lo hi g M cap l2) ∧ Hid (Upon g w wr) ∧ Hid (val W32 (l2.drop (i + (n + 1))) = val W32 (l.drop (i + (n + 1))) ∧ val W32 l2 + c * W32 ^ (i + k) = val W32 l + W32 ^ i * (Y % W32 ^ k))) (fun _ iv _ => n + 1 - (intOf iv).toNat)
  case atStart => exact ⟨0, 0, l, by omega, rfl, rfl, by omega, hW'.out, Upon.refl _ _, rfl, by rw [Nat.pow_zero, Nat.mod_one]; simp⟩
  case round =>
    obtain ⟨k, c, l2, hk, rfl, rfl, hc, hW2, hU, hv⟩ := hrel
    by_cases hlt : k < n + 1
    · obtain ⟨q1, f1, o1⟩ := hW2.out.at (show i + k < M by omega)
      have hll := Lib.hid (show i + k < l2.length by rw [hW2.out.len]; omega)
      by_cases hlt2 : k < n
      · have q2 := (hU.out.cell (p := ⟨by', oy + k, none⟩) hne).trans (hy'.out k hlt2)
        have s1 := hyb.out k
        simp only [show W32 = 4294967296 from rfl] at s1
        obtain ⟨d, c2, z1, z2, d1, c21, hd⟩ := put_round (c := c) (o := l2.getD (i + k) 0) (s := dgt W32 Y k) hc o1 s1
        have hv2 := Lib.hid (put_back_step (B := W32) l2 hll.out rfl rfl hd hv.out.2)
        have hdr := Lib.hid (show (l2.set (i + k) d).drop (i + (n + 1)) = l2.drop (i + (n + 1)) from List.drop_set_of_lt (by omega))
        clear hd
        generalize l2.getD (i + k) 0 = o at *
        generalize dgt W32 Y k = s at *
        go_wp2
        go_roundw
        case rel => exact ⟨k + 1, c2, l2.set (i + k) d, by omega, rfl, by go_num, c21, hW2.out.set _ _ d1, hU.out.set _ _, by rw [hdr.out]; exact hv.out.1, hv2.out⟩
        case measure => simp [intOf] <;> omega
      · obtain rfl : k = n := by omega
        obtain ⟨d, c2, z1, z2, d1, c21, hd⟩ := put_round (c := c) (o := l2.getD (i + k) 0) (s := 0) hc o1 (by omega)
        have hv2 := Lib.hid (put_back_step (B := W32) (s := 0) l2 hll.out rfl hyz.out.symm hd hv.out.2)
        have hdr := Lib.hid (show (l2.set (i + k) d).drop (i + (k + 1)) = l2.drop (i + (k + 1)) from List.drop_set_of_lt (by omega))
        simp only [Int.natCast_zero, Int.add_zero] at z1 z2
        clear hd
        generalize l2.getD (i + k) 0 = o at *
        go_wp2
        go_roundw
        case rel => exact ⟨k + 1, c2, l2.set (i + k) d, by omega, rfl, by go_num, c21, hW2.out.set _ _ d1, hU.out.set _ _, by rw [hdr.out]; exact hv.out.1, hv2.out⟩
        case measure => simp [intOf] <;> omega
    · obtain rfl : k = n + 1 := by omega
      have hend := Lib.hid (show val W32 l2 + c * W32 ^ (i + (n + 1)) = val W32 l + W32 ^ i * Y by have := hv.out.2; rw [hYm.out] at this; exact this)
      go_wp2
      go_end0
      exact ⟨⟨_, rfl⟩, l2, c, hW2.out, hc, hv.out.1, hend.out, hU.out⟩

theorem dgt_shift (B X i k : Nat) : dgt B (X / B ^ i) k = dgt B X (i + k) := by rw [dgt, dgt, Nat.div_div_eq_div_mul, Nat.pow_add]
/-- one word of what is taken out -/
theorem out_round {o s b : Nat} (ho : o < 4294967296) (hs : s < 4294967296) (hb : b ≤ 1) : ∃ G1 G2 d b2 : Nat, IntKind.u64.wrap ((o : Int) - (s : Int)) = (G1 : Int) ∧ IntKind.u64.wrap ((G1 : Int) - (b : Int)) = (G2 : Int) ∧ (G2 : Int) % 4294967296 = (d : Int) ∧ (G2 : Int) / 9223372036854775808 = (b2 : Int) ∧ d < 4294967296 ∧ b2 ≤ 1 ∧ d + s + b = o + W32 * b2 := by
  have e1 : IntKind.u64.wrap ((o : Int) - (s : Int)) = (((if s ≤ o then o - s else o + 18446744073709551616 - s) : Nat) : Int) := by
    rw [IntKind.wrap_u64]; split <;> omega
  rcases Nat.lt_or_ge o (s + b) with h | h
  · refine ⟨_, o + 18446744073709551616 - s - b, o + 4294967296 - s - b, 1, e1, ?_, by omega, by omega, by omega, by omega, by simp only [W32]; omega⟩
    rw [IntKind.wrap_u64]; split <;> omega
  · refine ⟨_, o - s - b, o - s - b, 0, e1, ?_, by omega, by omega, by omega, by omega, by simp only [W32]; omega⟩
    rw [IntKind.wrap_u64, if_pos (by omega)]; omega
/-- what is carried at place k: behind the divisor's last word nothing more comes -/
def crr (Y G n k : Nat) : Nat := if k ≤ n then scarry W32 Y G k else 0

/-- what takeOut leaves -/
def TakeI (lo hi g M cap i q Y : Nat) (l : List Nat) (w : World) (e : Ending) (w' : World) : Prop :=
  e = .returned (.int .u32 (q : Int)) ∧ ∃ l', Work w' lo hi g M cap l' ∧ val W32 l' = val W32 l % (Y * W32 ^ i) ∧ Upon g w w'

set_option maxRecDepth 100000 in
set_option maxHeartbeats 2000000 in
theorem takeOut_any (g i M cap pc by' oy yc n n1 n0 Y lo hi : Nat) (l : List Nat) (w : World) (e1 : n = n1 + 1) (e0 : n1 = n0 + 1) (hW : Work w lo hi g M cap l) (hin : i + (n + 1) ≤ M) (hM : M < 1000000000000)
    (hy : ∀ j, j < n → w.cell? ⟨by', oy + j, none⟩ = some (.int .u32 (dgt W32 Y j : Int))) (hYn : Y < W32 ^ n) (htop : W32 ≤ 2 * dgt W32 Y n1) (hne : by' ≠ g) (hV : val W32 l < Y * W32 ^ (i + 1)) :
    Calls Try.prog 134 #[.slice (some ⟨g, i, none⟩) (n + 1) pc, .slice (some ⟨by', oy, none⟩) n yc] w (TakeI lo hi g M cap i (val W32 l / W32 ^ i / Y) Y l w) := by
  unfold TakeI
  have hYp : 0 < Y := by
    rcases Nat.eq_zero_or_pos Y with rfl | h
    · simp at hV
    · exact h
  have hVY : val W32 l / W32 ^ i < Y * W32 := by
    apply (Nat.div_lt_iff_lt_mul (pow_pos' w32 i)).2
    rw [Nat.mul_assoc, Nat.mul_comm W32, ← pow_succ']; exact hV
  have hV0 : val W32 l < W32 ^ (i + (n + 1)) := by
    have h1 : Y * W32 ^ (i + 1) ≤ W32 ^ n * W32 ^ (i + 1) := Nat.mul_le_mul_right _ (Nat.le_of_lt hYn)
    rw [← Nat.pow_add, show n + (i + 1) = i + (n + 1) by omega] at h1
    omega
  have hn2 : 2 ≤ n := by omega
  have t2 := top2 w32 hn2 hYn
  have hVn : val W32 l / W32 ^ i < W32 ^ (n + 1) := by
    apply (Nat.div_lt_iff_lt_mul (pow_pos' w32 i)).2
    rw [← Nat.pow_add, Nat.add_comm]; exact hV0
  have t3 := top3 w32 hn2 hVn
  have hst := guess_start w32 hn2 hYn hVY (by rw [show n - 1 = n1 by omega]; exact htop)
  have hq : val W32 l / W32 ^ i / Y < W32 := (Nat.div_lt_iff_lt_mul hYp).2 (by rw [Nat.mul_comm]; exact hVY)
  have hge := fun G => guess_ge (V := val W32 l / W32 ^ i) (Y := Y) (n := n) (g := G) w32
  have hle := fun G => guess_le (V := val W32 l / W32 ^ i) (Y := Y) (n := n) (g := G) w32
  rw [t2, t3] at hge hle
  rw [show n - 1 = n1 by omega] at hge hle hst
  rw [show n - 2 = n0 by omega] at hge hle
  simp only [dgt_shift, dgt_val l hW.dig] at hge hle hst
  have hT : 0 < dgt W32 Y n1 * W32 + dgt W32 Y n0 := by simp only [W32] at htop ⊢; omega
  have hT1 : 1 ≤ dgt W32 Y n1 := by simp only [W32] at htop ⊢; omega
  have hT2 : W32 ≤ dgt W32 Y n1 * W32 + dgt W32 Y n0 := Nat.le_trans (by have := Nat.mul_le_mul_right W32 hT1; rwa [Nat.one_mul] at this) (Nat.le_add_right _ _)
  obtain ⟨c2, -, l2⟩ := hW.at (show i + n < M by omega)
  obtain ⟨c1, -, l1⟩ := hW.at (show i + n1 < M by omega)
  obtain ⟨c0, -, l0⟩ := hW.at (show i + n0 < M by omega)
  have hguess := guess_any g i pc by' oy yc n n1 n0 _ _ _ _ _ (val W32 l / W32 ^ i / Y) w e1 e0 (by omega) c2 c1 c0 (hy n1 (by omega)) (hy n0 (by omega)) l2 l1 l0 (by have := dgt_lt w32 Y n1; exact this) (by have := dgt_lt w32 Y n0; exact this) htop hst hq (fun G hG => hge G hT hG)
  have hle' := Lib.hid (fun G => hle G hT2)
  have hend := Lib.hid (fun (v G b : Nat) (hv : v < W32 ^ (i + (n + 1))) => take_out_end (v := v) (g := G) (b := b) w32 hv hV0 rfl hYp hYn)
  have hyb := Lib.hid (dgt_lt w32 Y)
  have hyz := Lib.hid (dgt_big hYn)
  have hY0 := Lib.hid hYn
  have hy' := Lib.hid hy
  have hW' := Lib.hid hW
  have hdz := Lib.hid (val_drop_small w32 l (i + (n + 1)) (by rw [hW.len]; omega) hV0)
  replace hguess := Lib.hid hguess
  have hq' : val W32 l / W32 ^ i / Y < 4294967296 := hq
  replace hYp := Lib.hid hYp
  have hyz2 : dgt W32 Y n = 0 := hyz.out
  clear hle hge hW hy hYn htop hV hVY hV0 t2 hVn t3 hst hq hT hT1 hT2 c2 c1 c0 l2 l1 l0 hyz2
  generalize hqq : val W32 l / W32 ^ i / Y = q at *
  replace hqq := Lib.hid hqq
  have e1' := Lib.hid e1
  have e0' := Lib.hid e0
  clear e1 e0
  go_enter Try.func134, Try.ntmps134
  go_wp2_with fail
  (with_reducible refine hguess.out.mono ?_)
  rintro e wg ⟨G, rfl, hG1, hG2, hG3, jg, rfl⟩
  have hG4 := Lib.hid (hle'.out G hG2 hYp.out hG3)
  have hsc := Lib.hid (fun k => And.intro (scale_step w32 Y G k) (scarry_le w32 Y G k))
  have hse := Lib.hid (scarry_end hY0.out hG2 w32)
  have hmod := Lib.hid (Nat.mod_eq_of_lt hse.out.2)
  have hG1' := Lib.hid hG1
  clear hguess hG3 hG1
  go_wp2
  go_loopw [7, 8, 18] (fun cv bv iv wr => ∃ (k b : Nat) (l2 : List Nat), k ≤ n + 1 ∧ cv = .int .u64 (crr Y G n k : Nat) ∧ bv = .int .u64 (b : Int) ∧ iv = .int .i64 (k : Int) ∧ b ≤ 1 ∧ Hid (Work wr lo hi g M cap l2) ∧ Hid (Upon g w wr) ∧ Hid (val W32 (l2.drop (i + (n + 1))) = 0 ∧ val W32 l2 + W32 ^ i * (Y * G % W32 ^ k) = val W32 l + b * W32 ^ (i + k))) (fun _ _ iv _ => n + 1 - (intOf iv).toNat)
  case atStart => exact ⟨0, 0, l, by omega, by simp [crr, scarry_zero], rfl, rfl, by omega, hW'.out.drewN jg, (Upon.refl _ _).drewN jg, hdz.out, by rw [Nat.pow_zero, Nat.mod_one]; simp⟩
  case round =>
    obtain ⟨k, b, l2, hk, rfl, rfl, rfl, hb, hW2, hU, hv⟩ := hrel
    by_cases hlt : k < n + 1
    · obtain ⟨q1, f1, o1⟩ := hW2.out.at (show i + k < M by omega)
      have hll := Lib.hid (show i + k < l2.length by rw [hW2.out.len]; omega)
      have hc0 : crr Y G n k = scarry W32 Y G k := by unfold crr; rw [if_pos (by omega)]
      obtain ⟨⟨s1, s2⟩, s3⟩ := hsc.out k
      have s5 := dgt_lt w32 (Y * G) k
      obtain ⟨G1, G2', d, b2, x1, x2, x3, x4, x5, x6, x7⟩ := out_round (o := l2.getD (i + k) 0) (s := dgt W32 (Y * G) k) (b := b) o1 s5 hb
      have hv2 := Lib.hid (take_out_step (B := W32) l2 hll.out rfl rfl x7 hv.out.2)
      have hdr := Lib.hid (show (l2.set (i + k) d).drop (i + (n + 1)) = l2.drop (i + (n + 1)) from List.drop_set_of_lt (by omega))
      have hWs := Lib.hid (hW2.out.set (i + k) d x5)
      rw [hc0]
      clear hc0 x7
      by_cases hlt2 : k < n
      · have q2 := (hU.out.cell (p := ⟨by', oy + k, none⟩) hne).trans (hy'.out k hlt2)
        have s4 := hyb.out k
        have hc1 := Lib.hid (show crr Y G n (k + 1) = scarry W32 Y G (k + 1) by unfold crr; rw [if_pos (by omega)])
        have hcs := (hsc.out (k + 1)).2
        have hp := Nat.mul_le_mul (show dgt W32 Y k ≤ 4294967295 by simp only [W32] at s4 ⊢; omega) hG2
        have hpI : (G : Int) * (dgt W32 Y k : Int) = ((dgt W32 Y k * G : Nat) : Int) := by rw [Int.natCast_mul, Int.mul_comm]
        simp only [show W32 = 4294967296 from rfl] at s4 s5
        have hp2 : dgt W32 Y k * G ≤ 18446744069414584320 := by omega
        generalize dgt W32 Y k * G = p at *
        generalize dgt W32 Y k = y at *
        generalize scarry W32 Y G (k + 1) = c' at *
        generalize scarry W32 Y G k = c at *
        generalize dgt W32 (Y * G) k = s at *
        generalize l2.getD (i + k) 0 = o at *
        have s1' : ((c : Int) + (p : Int)) % 4294967296 = (s : Int) := by rw [s1]; simp only [W32]; omega
        have s2' : ((c : Int) + (p : Int)) / 4294967296 = (c' : Int) := by rw [s2]; simp only [W32]; omega
        have cb : c ≤ 4294967295 := by omega
        clear s1 s2 hp s3 hcs
        go_wp2
        go_roundw
        case rel => exact ⟨k + 1, b2, l2.set (i + k) d, by omega, by rw [hc1.out], rfl, by go_num, x6, hWs.out, hU.out.set _ _, by rw [hdr.out]; exact hv.out.1, hv2.out⟩
        case measure => simp [intOf] <;> omega
      · obtain rfl : k = n := by omega
        have hc1 := Lib.hid (show crr Y G k (k + 1) = 0 by unfold crr; rw [if_neg (by omega)])
        have hs := hse.out.1
        rw [← hs] at x1
        simp only [show W32 = 4294967296 from rfl] at s5
        clear s1 s2 s5 hs
        generalize scarry W32 Y G k = c at *
        generalize l2.getD (i + k) 0 = o at *
        have cb : c ≤ 4294967295 := by omega
        have s1' : (c : Int) % 4294967296 = (c : Int) := by omega
        have s2' : (c : Int) / 4294967296 = 0 := by omega
        clear s3
        go_wp2
        go_roundw
        case rel => exact ⟨k + 1, b2, l2.set (i + k) d, by omega, by rw [hc1.out]; rfl, rfl, by go_num, x6, hWs.out, hU.out.set _ _, by rw [hdr.out]; exact hv.out.1, hv2.out⟩
        case measure => simp [intOf] <;> omega
    · obtain rfl : k = n + 1 := by omega
      have hv1 := hv.out.2
      rw [hmod.out] at hv1
      have hvs := val_small w32 l2 hW2.out.dig (i + (n + 1)) (by rw [hW2.out.len]; omega) hv.out.1
      obtain ⟨r0, r1⟩ := hend.out _ G b hvs hG1'.out hG4.out hb hv1
      have hyz3 : crr Y G n (n + 1) = 0 := by unfold crr; rw [if_neg (by omega)]
      rw [hyz3]
      clear hyz3 hvs hv1
      rcases Nat.le_one_iff_eq_zero_or_eq_one.1 hb with rfl | rfl
      · obtain ⟨r2, r3⟩ := r0 rfl
        have hfin := Lib.hid r3
        subst r2
        clear r0 r1 r3 hb
        go_wp2
        go_ret
        exact ⟨rfl, l2, hW2.out, hfin.out, hU.out⟩
      · obtain ⟨r2, r3⟩ := r1 rfl
        subst r2
        have hput := Lib.hid (putBack_any g i M cap pc by' oy yc n Y lo hi l2 wr hW2.out hin (by omega) (fun j hj => (hU.out.cell (p := ⟨by', oy + j, none⟩) hne).trans (hy'.out j hj)) hY0.out hne)
        have r3' := Lib.hid r3
        clear r0 r1 r3 hb
        have hq1 : q + 1 ≤ 4294967296 := hG2
        go_wp2_with fail
        refine hput.out.mono ?_
        rintro e w4 ⟨⟨v, rfl⟩, l4, c4, hW4, hc4, hd4, hv4, hU4⟩
        have hvs4 := val_small w32 l4 hW4.dig (i + (n + 1)) (by rw [hW4.len]; omega) (by rw [hd4]; exact hv.out.1)
        have hfin := Lib.hid (r3'.out _ _ hvs4 hc4 hv4)
        have hW4' := Lib.hid hW4
        have hU4' := Lib.hid hU4
        clear hW4 hd4 hv4 hU4 hvs4
        go_wp2
        go_ret
        exact ⟨by congr 2, l4, hW4'.out, hfin.out, hU.out.trans hU4'.out⟩
end Go.Proofs.Ytjkekhiceadpgaa
