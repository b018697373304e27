/- NtxG: several texts in one (Ntx, Ntx2, Frs, Told). Conditions: told in each. -/
import Derived.Test.YtiddhnnofpbopaaDoorNumG
import Derived.Test.YtiddhnnofpbopaaDoorLongG
import Derived.Test.YtiddhnnofpbopaaDoorReadG
import Derived.Deep.DeepCutAuto
/- The decimal text of a long number, by digits in base 10^9. Conditions: none: plain lemmas. -/
namespace Go.Proofs.YtiddhnnofpbopaaDoor
open Go.RowKit Go.Deep
set_option linter.unusedVariables false

/-- nine digits -/
def pad9 (g : Nat) : List UInt8 := List.replicate (9 - (decW g).length) 48 ++ decW g
/-- a number in decimal -/
def numW (n : Nat) : List UInt8 := if h : n < B9 then decW n else numW (n / B9) ++ pad9 (n % B9)
termination_by n
decreasing_by exact Nat.div_lt_self (by simp only [B9] at h; omega) (by decide)
def numT (n : Nat) : ByteArray := ⟨(numW n).toArray⟩
theorem numW_small {n : Nat} (h : n < B9) : numW n = decW n := by rw [numW, dif_pos h]
theorem numW_more {n : Nat} (h : ¬ n < B9) : numW n = numW (n / B9) ++ pad9 (n % B9) := by rw [numW, dif_neg h]
theorem decW_pos (n : Nat) : 1 ≤ (decW n).length := by
  by_cases h : n < 10
  · rw [decW_small h]; simp
  · rw [decW_more h]; simp
theorem dec9 {g : Nat} (h : g < B9) : (decW g).length ≤ 9 := decW_len 8 g h
theorem pad9_len {g : Nat} (h : g < B9) : (pad9 g).length = 9 := by
  have := dec9 h
  simp [pad9]; omega
/-- the highest digit -/
theorem numW_top {n k : Nat} (h : dlen B9 n = k + 1) : n / B9 ^ k = dgt B9 n k ∧ numW (n / B9 ^ k) = decW (dgt B9 n k) := by
  have h1 := lt_dlen b9 n
  rw [h] at h1
  have h2 : n / B9 ^ k < B9 := by
    apply (Nat.div_lt_iff_lt_mul (pow_pos' b9 k)).2
    rw [Nat.mul_comm, ← pow_succ']; exact h1
  have h3 : n / B9 ^ k = dgt B9 n k := by rw [dgt, Nat.mod_eq_of_lt h2]
  exact ⟨h3, by rw [numW_small h2, h3]⟩
/-- one digit more -/
theorem numW_down {n i : Nat} (h : i + 1 < dlen B9 n) : numW (n / B9 ^ i) = numW (n / B9 ^ (i + 1)) ++ pad9 (dgt B9 n i) := by
  have h1 := le_of_dlen b9 h
  have h2 : ¬ n / B9 ^ i < B9 := by
    rw [Nat.div_lt_iff_lt_mul (pow_pos' b9 i), Nat.mul_comm, ← pow_succ']; omega
  rw [numW_more h2, dgt, Nat.div_div_eq_div_mul, ← pow_succ']
theorem numW_len (L : Nat) : ∀ (n : Nat), n < B9 ^ (L + 1) → (numW n).length ≤ 9 * (L + 1) := by
  induction L with
  | zero => intro n h; rw [numW_small (by simpa using h)]; exact dec9 (by simpa using h)
  | succ k ih =>
    intro n h
    by_cases h1 : n < B9
    · rw [numW_small h1]; have := dec9 h1; omega
    · rw [numW_more h1, List.length_append, pad9_len (Nat.mod_lt _ (by decide))]
      have := ih (n / B9) (by rw [Nat.div_lt_iff_lt_mul (by decide), ← pow_succ']; exact h)
      omega
theorem numW_pos (n : Nat) : 1 ≤ (numW n).length := by
  by_cases h : n < B9
  · rw [numW_small h]; exact decW_pos n
  · rw [numW_more h, List.length_append, pad9_len (Nat.mod_lt _ (by decide))]; omega
theorem numT_size (n : Nat) : (numT n).size = (numW n).length := by simp [numT, ByteArray.size]
theorem numT_le {n L : Nat} (h : dlen B9 n ≤ L) : (numT n).size ≤ 9 * L + 9 := by
  rw [numT_size]
  have := numW_len L n (Nat.lt_of_lt_of_le (lt_of_dlen b9 h) (Nat.pow_le_pow_right (by decide) (Nat.le_succ L)))
  omega
/-- the texts of the digits, the highest first -/
def grpT (n : Nat) : Nat → List ByteArray
  | 0 => []
  | k + 1 => decS (dgt B9 n k) :: grpT n k
/-- the digits below k, each with nine digits -/
def padT (n : Nat) : Nat → List (List UInt8)
  | 0 => []
  | k + 1 => pad9 (dgt B9 n k) :: padT n k
theorem padT_join {n : Nat} : ∀ (i : Nat), i < dlen B9 n → numW n = numW (n / B9 ^ i) ++ (padT n i).flatten
  | 0, h => by simp [padT]
  | i + 1, h => by
    rw [padT_join i (by omega), numW_down h, padT, List.flatten_cons, List.append_assoc]
/-- a text brought to nine digits -/
def padB (s : ByteArray) : ByteArray := ⟨(List.replicate (9 - s.size) 48 ++ s.data.toList).toArray⟩
theorem padB_dec (g : Nat) : padB (decS g) = ⟨(pad9 g).toArray⟩ := by simp [padB, decS, pad9, ByteArray.size]
theorem grpT_length (n : Nat) : ∀ k, (grpT n k).length = k
  | 0 => rfl
  | k + 1 => by rw [grpT, List.length_cons, grpT_length n k]
theorem grpT_rev (n : Nat) : ∀ k, ((List.range k).map fun i => decS (dgt B9 n i)).reverse = grpT n k
  | 0 => rfl
  | k + 1 => by rw [List.range_succ, List.map_append, List.reverse_append, grpT_rev n k]; rfl
theorem grpT_get (n : Nat) : ∀ k i, i < k → (grpT n k)[i]? = some (decS (dgt B9 n (k - 1 - i)))
  | 0, i, h => absurd h (Nat.not_lt_zero i)
  | k + 1, 0, h => by rw [grpT, List.getElem?_cons_zero]; rfl
  | k + 1, i + 1, h => by
    rw [grpT, List.getElem?_cons_succ, grpT_get n k i (by omega)]
    rw [show k + 1 - 1 - (i + 1) = k - 1 - i by omega]
theorem grpT_pad (n : Nat) : ∀ k, (grpT n k).map padB = (padT n k).map fun l => ⟨l.toArray⟩
  | 0 => rfl
  | k + 1 => by rw [grpT, padT, List.map_cons, List.map_cons, grpT_pad n k, padB_dec]
/-- the texts of the digits, of which those behind the first one, i of them, have been brought to nine digits -/
def mixT (l : List ByteArray) (i : Nat) : List ByteArray := l.take 1 ++ (((l.drop 1).take i).map padB ++ l.drop (1 + i))
theorem mixT_zero (l : List ByteArray) : mixT l 0 = l := by cases l <;> simp [mixT]
theorem mixT_length (l : List ByteArray) (i : Nat) (h : i + 1 ≤ l.length) : (mixT l i).length = l.length := by
  simp [mixT]; omega
theorem mixT_get (l : List ByteArray) (i : Nat) (h : i + 1 < l.length) : (mixT l i)[i + 1]? = l[i + 1]? := by
  unfold mixT
  rw [List.getElem?_append_right (by simp; omega), List.getElem?_append_right (by simp; omega), List.getElem?_drop]
  congr 1
  simp; omega
theorem mixT_next (l : List ByteArray) (i : Nat) (s : ByteArray) (h : l[i + 1]? = some s) : (mixT l i).set (i + 1) (padB s) = mixT l (i + 1) := by
  obtain ⟨hl, rfl⟩ := List.getElem?_eq_some_iff.1 h
  obtain ⟨x, r, rfl⟩ : ∃ x r, l = x :: r := by
    cases l with
    | nil => simp at hl
    | cons x r => exact ⟨x, r, rfl⟩
  have hr : i < r.length := by simpa using hl
  simp only [mixT, List.take_succ_cons, List.take_zero, List.drop_succ_cons, List.drop_zero, List.cons_append, List.nil_append, List.set_cons_succ, List.getElem_cons_succ, List.cons.injEq, true_and, Nat.add_comm 1]
  rw [List.set_append_right _ _ (by simp; omega), List.take_add_one, List.getElem?_eq_getElem hr]
  have hn : i - (List.map padB (List.take i r)).length = 0 := by simp; omega
  rw [hn, List.drop_eq_getElem_cons hr, List.set_cons_zero, List.map_append, List.append_assoc]
  rfl
theorem mixT_all (n k : Nat) : mixT (grpT n (k + 1)) k = decS (dgt B9 n k) :: (padT n k).map fun l => ⟨l.toArray⟩ := by
  rw [mixT, grpT]
  simp only [List.take_succ_cons, List.take_zero, List.drop_succ_cons, List.drop_zero, Nat.add_comm 1, List.cons_append, List.nil_append]
  rw [List.take_of_length_le (by rw [grpT_length]; omega), List.drop_of_length_le (by rw [grpT_length]; omega), grpT_pad, List.append_nil]
/-- joined they are the number in decimal -/
theorem join_text {n k : Nat} (h : dlen B9 n = k + 1) : ((mixT (grpT n (k + 1)) k).map (·.data.toList)).flatten = numW n := by
  rw [mixT_all, padT_join (n := n) k (by omega), (numW_top h).2]
  simp [decS, Function.comp_def]
theorem mixT_size {n k : Nat} (i : Nat) : ∀ s ∈ mixT (grpT n k) i, s.size ≤ 9 := by
  have h1 : ∀ k, ∀ s ∈ grpT n k, s.size ≤ 9 ∧ (padB s).size ≤ 9 := by
    intro k
    induction k with
    | zero => intro s hs; cases hs
    | succ k ih =>
      intro s hs
      rw [grpT] at hs
      rcases List.mem_cons.1 hs with rfl | hs
      · have hd := dgt_lt b9 n k
        have e1 := dec9 hd
        have e2 := pad9_len hd
        rw [padB_dec]
        exact ⟨by simpa [decS, ByteArray.size] using e1, by simp [ByteArray.size, e2]⟩
      · exact ih s hs
  intro s hs
  rw [mixT, List.mem_append, List.mem_append] at hs
  rcases hs with hs | hs | hs
  · exact (h1 k s (List.mem_of_mem_take hs)).1
  · obtain ⟨t, ht, rfl⟩ := List.mem_map.1 hs
    exact (h1 k t (List.mem_of_mem_drop (List.mem_of_mem_take ht))).2
  · exact (h1 k s (List.mem_of_mem_drop hs)).1
end Go.Proofs.YtiddhnnofpbopaaDoor

/- l01Text and l01Told of the specification. Conditions: at most 10^9 digits in base 10^9. -/
namespace Go.Proofs.YtiddhnnofpbopaaDoor
open Go.RowKit Go.Deep
set_option linter.unusedVariables false

/-- digits with zeros ahead -/
def padJ (j g : Nat) : ByteArray := ⟨(List.replicate j 48 ++ decW g).toArray⟩
theorem padJ_zero (g : Nat) : padJ 0 g = decS g := by simp [padJ, decS]
theorem padJ_size (j g : Nat) : (padJ j g).size = j + (decW g).length := by simp [padJ, ByteArray.size]
theorem padJ_more (j g : Nat) : (⟨#[48]⟩ : ByteArray) ++ padJ j g = padJ (j + 1) g := by
  simp only [padJ, ByteArray.mk_append_mk, List.replicate_succ, List.cons_append]
  congr 1
theorem padJ_full (g : Nat) : padJ (9 - (decW g).length) g = ⟨(pad9 g).toArray⟩ := rfl
theorem numT_down {n i : Nat} (h : i + 1 < dlen B9 n) : numT (n / B9 ^ (i + 1)) ++ (⟨(pad9 (dgt B9 n i)).toArray⟩ : ByteArray) = numT (n / B9 ^ i) := by
  simp only [numT, ByteArray.mk_append_mk, numW_down h]
theorem numT_top {n k : Nat} (h : dlen B9 n = k + 1) : numT (n / B9 ^ k) = decS (dgt B9 n k) := by
  rw [numT, (numW_top h).2]; rfl
theorem numT_some {n L : Nat} (i : Nat) (h : dlen B9 n ≤ L) : (numT (n / B9 ^ i)).size ≤ 9 * L + 9 := numT_le (Nat.le_trans (dlen_mono b9 (Nat.div_le_self _ _)) h)

set_option maxRecDepth 100000 in
set_option maxHeartbeats 4000000 in
theorem l01Text_any (a : Value) (n : Nat) (w : World) (ha : LongS w a n) (sm : dlen B9 n ≤ 1000000000) :
    Calls Tryd.prog 21 #[a] w fun e w' => e = .returned (.string (numT n)) ∧ Below w.heap.size w w' := by
  obtain ⟨hm1, a1, cap1, rfl⟩ := ha.len
  unfold maxLen at hm1
  rcases Nat.eq_zero_or_pos (dlen B9 n) with h0 | hp
  · have hn0 : n = 0 := by
      have := lt_dlen b9 n
      rw [h0, Nat.pow_zero] at this; omega
    subst hn0
    have hr := Lib.hid (show numT 0 = ⟨#[48]⟩ by rw [numT, numW_small (by decide), decW_small (by decide)]; rfl)
    rw [dlen_zero]
    clear ha hm1 sm h0
    generalize numT 0 = R at *
    go_enter Tryd.func21, Tryd.ntmps21
    go_wp2
    go_ret
    exact ⟨by rw [hr.out]; rfl, Below.refl _ _⟩
  · obtain ⟨k, hk⟩ : ∃ k, dlen B9 n = k + 1 := ⟨dlen B9 n - 1, by omega⟩
    obtain ⟨b1, o1, c1, hv1, hb1, hc1⟩ := ha.at hp
    rw [hk] at hv1 hc1 ⊢
    simp only [Value.slice.injEq] at hv1
    obtain ⟨rfl, -, rfl⟩ := hv1
    have hk9 : k ≤ 1000000000 := by omega
    have hcell := Lib.hid hc1
    have htop := Lib.hid (numT_top hk)
    have hdown := Lib.hid (fun i (h : i < k) => numT_down (n := n) (i := i) (by omega))
    have hsize := Lib.hid (fun i => numT_some (n := n) (L := 1000000000) i sm)
    have hlt := Lib.hid (fun i => dgt_lt b9 n i)
    have hdec := Lib.hid (fun i W => Dec_all (dgt B9 n i) W (Nat.lt_trans (dgt_lt b9 n i) (by decide)))
    have hlen := Lib.hid (fun i => dec9 (dgt_lt b9 n i))
    have hpos := Lib.hid (fun i => decW_pos (dgt B9 n i))
    have hfin := Lib.hid (show numT (n / B9 ^ 0) = numT n by simp)
    have q0 := hc1 k (by omega)
    clear ha hm1 sm hk hp hc1
    generalize hx : dgt B9 n k = x at q0
    have hd0 := hdec.out k
    rw [hx] at hd0
    have hd0' := Lib.hid hd0
    have hx' := Lib.hid hx
    clear hx hd0
    go_enter Tryd.func21, Tryd.ntmps21
    go_wp2_with fail
    (with_reducible refine (hd0'.out _).mono ?_)
    rintro e w1 ⟨rfl, bb⟩
    have B1 := Lib.hid bb
    clear bb q0
    go_wp2
    go_loopw [3, 4] (fun s i wr => ∃ j : Nat, j ≤ k ∧ i = .int .i64 ((j : Int) - 1) ∧ s = .string (numT (n / B9 ^ j)) ∧ Hid (Below w.heap.size w wr)) (fun _ i _ => (intOf i + 1).toNat)
    case atStart => exact ⟨k, Nat.le_refl _, by go_num, by rw [htop.out, hx'.out], B1⟩
    case round =>
      obtain ⟨j, hj, rfl, rfl, bel⟩ := hrel
      rcases Nat.eq_zero_or_pos j with rfl | hpos0
      · go_wp2
        go_ret
        exact ⟨by rw [hfin.out]; rfl, bel.out⟩
      · obtain ⟨j, rfl⟩ : ∃ j', j = j' + 1 := ⟨j - 1, by omega⟩
        have hi : (((j + 1 : Nat) : Int) - 1) = (j : Int) := by omega
        rw [hi]
        have q1 := (bel.out.cell hb1).trans (hcell.out j (by omega))
        have hdj := Lib.hid (hdec.out j)
        have hlj := hlen.out j
        have hpj := hpos.out j
        have hnx := Lib.hid (hdown.out j (by omega))
        have hs1 := hsize.out (j + 1)
        clear hi
        generalize dgt B9 n j = g at q1 hdj hlj hpj hnx
        generalize numT (n / B9 ^ (j + 1)) = A at hnx hs1 ⊢
        go_wp2_with fail
        (with_reducible refine (hdj.out _).mono ?_)
        rintro e w2 ⟨rfl, bb⟩
        have B2 := Lib.hid (below_wt bel.out bb)
        clear bb q1
        go_wp2
        go_loopw [5] (fun s wr => ∃ c : Nat, c + (decW g).length ≤ 9 ∧ s = .string (padJ c g) ∧ wr = w2) (fun s _ => 9 - (match s with | .string b => b.size | _ => 0))
        case atStart => exact ⟨0, by omega, by rw [padJ_zero], by trivial⟩
        case round =>
          obtain ⟨c, hc, rfl, rfl⟩ := hrel
          have hsz := padJ_size c g
          by_cases h9 : c + (decW g).length < 9
          · have hm := Lib.hid (padJ_more c g)
            have hms := Lib.hid (padJ_size (c + 1) g)
            have hb : ¬ 9223372036854775807 < (⟨#[48]⟩ : ByteArray).size + (padJ c g).size := by rw [hsz]; show ¬ _ < 1 + _; omega
            have hl9 : ((padJ c g).size : Int) < 9 := by omega
            generalize padJ c g = S at *
            go_wp2
            go_roundw
            case rel => exact ⟨c + 1, by omega, by rw [hm.out], by trivial⟩
            case measure => rw [hm.out]; simp only [hms.out, hsz]; omega
          · have hf := Lib.hid (show padJ c g = ⟨(pad9 g).toArray⟩ by rw [← padJ_full, show 9 - (decW g).length = c by omega])
            have hl9 : ¬ ((padJ c g).size : Int) < 9 := by omega
            have hb : ¬ 9223372036854775807 < A.size + (padJ c g).size := by rw [hsz]; omega
            have hnx' := Lib.hid (show A ++ padJ c g = numT (n / B9 ^ j) by rw [hf.out]; exact hnx.out)
            generalize padJ c g = S at *
            go_wp2
            go_roundw
            case rel => exact ⟨j, by omega, by go_num, by rw [hnx'.out], B2⟩
            case measure => simp [intOf]
end Go.Proofs.YtiddhnnofpbopaaDoor

/- Sums, differences and products of the specification's fractions. Conditions: told by the code; at most 10^6 words in each part. -/
namespace Go.Proofs.YtiddhnnofpbopaaDoor
open Go.RowKit Go.Deep
set_option linter.unusedVariables false
set_option linter.unusedSimpArgs false

theorem mul_dlen9 {m n L M : Nat} (h1 : dlen B9 m ≤ L) (h2 : dlen B9 n ≤ M) : dlen B9 (m * n) ≤ L + M :=
  dlen_le b9 (by rw [Nat.pow_add]; exact Nat.mul_lt_mul'' (lt_of_dlen b9 h1) (lt_of_dlen b9 h2))

end Go.Proofs.YtiddhnnofpbopaaDoor

/- l01Told of the specification: a fraction's two texts. Conditions: at most 10^6 digits in base 10^9. -/
namespace Go.Proofs.YtiddhnnofpbopaaDoor
open Go.RowKit Go.Deep
set_option linter.unusedVariables false
set_option linter.unusedSimpArgs false

/-- both texts have at most 300 digits -/
def toldB (n d : Nat) : Bool := decide ((numT n).size ≤ 300 ∧ (numT d).size ≤ 300)
def toldN (n d : Nat) : ByteArray := if toldB n d then numT n else ⟨#[]⟩
def toldD (n d : Nat) : ByteArray := if toldB n d then numT d else ⟨#[]⟩
def toldC (n d : Nat) : Int := if toldB n d then 0 else 3
theorem told_yes {n d : Nat} (h1 : (numT n).size ≤ 300) (h2 : (numT d).size ≤ 300) : toldN n d = numT n ∧ toldD n d = numT d ∧ toldC n d = 0 := by
  have h : toldB n d = true := decide_eq_true ⟨h1, h2⟩
  simp [toldN, toldD, toldC, h]
theorem told_no {n d : Nat} (h1 : ¬ ((numT n).size ≤ 300 ∧ (numT d).size ≤ 300)) : toldN n d = ⟨#[]⟩ ∧ toldD n d = ⟨#[]⟩ ∧ toldC n d = 3 := by
  have h : toldB n d = false := decide_eq_false h1
  simp [toldN, toldD, toldC, h]

/-- what stands behind the making of both texts -/
def TwoT (w wx : World) (n d : ByteArray) (s4 : Value) : Prop := ∃ B : Nat, s4 = .pointer (some ⟨B, 0, none⟩) ∧ Blk wx B #[.string n, .string d] 35 ∧ Blk wx (w.heap.size + 1) #[.string ⟨#[]⟩, .string ⟨#[]⟩] 35 ∧ Below w.heap.size w wx ∧ B ≠ w.heap.size + 1
theorem TwoT.new {w W u2 : World} {n d : ByteArray} (hR : Blk W (w.heap.size + 1) #[.string ⟨#[]⟩, .string ⟨#[]⟩] 35) (bel : Below w.heap.size w W) (bW : Below W.heap.size W u2) :
    TwoT w (u2.alloc (.cells #[.string n, .string d] 35)) n d (.pointer (some ⟨u2.heap.size, 0, none⟩)) := by
  have h1 := hR.lt
  have h2 := bW.size
  exact ⟨_, rfl, Blk.new _ _ _, (hR.keep bW h1).keep (below1 u2 _) (by omega), below_wt (below_wt bel bW) (below1 _ _), by omega⟩
theorem TwoT.fill {w W u2 : World} {n d : ByteArray} {B : Nat} (hR : Blk W (w.heap.size + 1) #[.string ⟨#[]⟩, .string ⟨#[]⟩] 35) (bel : Below w.heap.size w W) (bW : Below W.heap.size W u2)
    (Z4 : Blk u2 B #[.string ⟨#[]⟩, .string ⟨#[]⟩] 35) (hB : W.heap.size ≤ B) :
    TwoT w ((u2.setCell ⟨B, 0, none⟩ (.string n)).setCell ⟨B, 1, none⟩ (.string d)) n d (.pointer (some ⟨B, 0, none⟩)) := by
  have h1 := hR.lt
  have h2 := bW.size
  have Z5 := Z4.set 0 (.string n)
  refine ⟨B, rfl, ?_, ((hR.keep bW h1).setOther (a := ⟨B, 0, none⟩) (by simp only; omega) _).setOther (a := ⟨B, 1, none⟩) (by simp only; omega) _, ?_, by omega⟩
  · have := Z5.set 1 (.string d)
    simpa using this
  · have b := below_wt bel bW
    exact (b.setCell (p := ⟨B, 0, none⟩) (by have := bel.size; simp only; omega) _).setCell (p := ⟨B, 1, none⟩) (by have := bel.size; simp only; omega) _

set_option maxRecDepth 100000 in
set_option maxHeartbeats 4000000 in
theorem l01Told_any (a b : Value) (N D : Nat) (w : World) (ha : LongS w a N) (hb : LongS w b D) (sa : dlen B9 N ≤ 10000000) (sb : dlen B9 D ≤ 10000000) :
    Calls Tryd.prog 16 #[.agg #[a, b]] w fun e w' => e = .returned (.tuple #[.agg #[.string (toldN N D), .string (toldD N D)], .int .i64 (toldC N D)]) ∧ Below w.heap.size w w' := by
  obtain ⟨_, xa0, xa1, rfl⟩ := ha.len
  obtain ⟨_, xb0, xb1, rfl⟩ := hb.len
  have hB0 := (Blk.new w #[(.slice xa0 (dlen B9 N) xa1), (.slice xb0 (dlen B9 D) xb1)] 44).alloc (.cells #[.string ⟨#[]⟩, .string ⟨#[]⟩] 35)
  have hR := Blk.new (w.alloc (.cells #[.slice xa0 (dlen B9 N) xa1, .slice xb0 (dlen B9 D) xb1] 44)) #[.string ⟨#[]⟩, .string ⟨#[]⟩] 35
  have bel := below2 w (.cells #[.slice xa0 (dlen B9 N) xa1, .slice xb0 (dlen B9 D) xb1] 44) (.cells #[.string ⟨#[]⟩, .string ⟨#[]⟩] 35)
  simp only [World.size_alloc] at hR
  have t0 := Lib.hid (fun W b => l01Text_any _ N W ((ha.keep bel).keep (w' := W) b) (by omega))
  have t1 := Lib.hid (fun W b => l01Text_any _ D W ((hb.keep bel).keep (w' := W) b) (by omega))
  clear ha hb sa sb
  go_enter Tryd.func16, Tryd.ntmps16
  go_upto_region 1 with fail
  generalize hW : (w.alloc _).alloc _ = W at *
  clear hW
  go_cut [4] (fun s4 wx => TwoT w wx (numT N) (numT D) s4)
  case first =>
    have c0 : W.drew.cell? ⟨w.heap.size, 0, none⟩ = some (.slice xa0 (dlen B9 N) xa1) := hB0.cell 0
    have c1 : W.drew.cell? ⟨w.heap.size, 1, none⟩ = some (.slice xb0 (dlen B9 D) xb1) := hB0.cell 1
    have cW0 : W.cell? ⟨w.heap.size, 0, none⟩ = some (.slice xa0 (dlen B9 N) xa1) := c0
    have cW1 : W.cell? ⟨w.heap.size, 1, none⟩ = some (.slice xb0 (dlen B9 D) xb1) := c1
    have neW : w.heap.size ≠ W.heap.size := Nat.ne_of_lt (block_lt c0)
    have neW' : W.heap.size ≠ w.heap.size := Ne.symm neW
    go_region_held3 (fun w' => w'.cell? ⟨w.heap.size, 0, none⟩ = some (.slice xa0 (dlen B9 N) xa1) ∧ w'.cell? ⟨w.heap.size, 1, none⟩ = some (.slice xb0 (dlen B9 D) xb1))
      (first | go_keep | exact ⟨((below1 W _).cell (block_lt cW0)).trans cW0, ((below1 W _).cell (block_lt cW1)).trans cW1⟩ | exact ⟨((below1 _ _).cell (block_lt c0)).trans c0, ((below1 _ _).cell (block_lt c1)).trans c1⟩)
      (first
        | (go_at_call 21; first
            | ((with_reducible refine (t0.out _ (by (repeat (first | exact Below.refl _ _ | refine Below.drew ?_ | refine below_wt ?_ (below1 _ _))))).mono ?_); rintro e u1 ⟨rfl, b1⟩; (first | (have Z4 := (Blk.new _ #[.string ⟨#[]⟩, .string ⟨#[]⟩] 35).keep b1 (by simp)) | (have Z4 := (Blk.drewN1 (Blk.new W #[.string ⟨#[]⟩, .string ⟨#[]⟩] 35)).keep b1 (by simp)) | skip); replace c0 : u1.cell? ⟨w.heap.size, 0, none⟩ = some (.slice xa0 (dlen B9 N) xa1) := (by first | exact (b1.cell (p := ⟨w.heap.size, 0, none⟩) (block_lt c0)).trans c0 | exact (b1.cell (p := ⟨w.heap.size, 0, none⟩) (block_lt (((below1 _ _).cell (block_lt c0)).trans c0))).trans (((below1 _ _).cell (block_lt c0)).trans c0)); replace c1 : u1.cell? ⟨w.heap.size, 1, none⟩ = some (.slice xb0 (dlen B9 D) xb1) := (by first | exact (b1.cell (p := ⟨w.heap.size, 1, none⟩) (block_lt c1)).trans c1 | exact (b1.cell (p := ⟨w.heap.size, 1, none⟩) (block_lt (((below1 _ _).cell (block_lt c1)).trans c1))).trans (((below1 _ _).cell (block_lt c1)).trans c1)); have ne1 : w.heap.size ≠ u1.heap.size := Nat.ne_of_lt (block_lt c0); have ne1' : u1.heap.size ≠ w.heap.size := Ne.symm ne1)
            | ((with_reducible refine (t1.out _ (by (repeat (first | exact Below.refl _ _ | refine Below.drew ?_ | refine below_wt ?_ b1 | refine below_wt ?_ (below1 _ _))))).mono ?_); rintro e u2 ⟨rfl, b2⟩; (first | (replace Z4 := Z4.keep b2 Z4.lt) | (first | (have Z4 := (Blk.new _ #[.string ⟨#[]⟩, .string ⟨#[]⟩] 35).keep b2 (by simp)) | (have Z4 := (Blk.drewN1 (Blk.new W #[.string ⟨#[]⟩, .string ⟨#[]⟩] 35)).keep b2 (by simp)) | skip)); (try (have zq0 := Z4.cell 0; have zq1 := Z4.cell 1; have fq0 := Z4.frozen 0; have fq1 := Z4.frozen 1; simp only [List.getElem?_toArray, List.getElem?_cons_zero, List.getElem?_cons_succ] at zq0 zq1)); replace c0 : u2.cell? ⟨w.heap.size, 0, none⟩ = some (.slice xa0 (dlen B9 N) xa1) := (by first | exact (b2.cell (p := ⟨w.heap.size, 0, none⟩) (block_lt c0)).trans c0 | exact (b2.cell (p := ⟨w.heap.size, 0, none⟩) (block_lt (((below1 _ _).cell (block_lt c0)).trans c0))).trans (((below1 _ _).cell (block_lt c0)).trans c0)); replace c1 : u2.cell? ⟨w.heap.size, 1, none⟩ = some (.slice xb0 (dlen B9 D) xb1) := (by first | exact (b2.cell (p := ⟨w.heap.size, 1, none⟩) (block_lt c1)).trans c1 | exact (b2.cell (p := ⟨w.heap.size, 1, none⟩) (block_lt (((below1 _ _).cell (block_lt c1)).trans c1))).trans (((below1 _ _).cell (block_lt c1)).trans c1)); have ne2 : w.heap.size ≠ u2.heap.size := Nat.ne_of_lt (block_lt c0); have ne2' : u2.heap.size ≠ w.heap.size := Ne.symm ne2)))
    all_goals (go_wp2_with fail; go_meet)
    · exact TwoT.new (W := W) hR bel (below_wt ((Below.refl _ W).drew.trans b1) b2)
    · exact TwoT.fill (W := W) hR bel (below_wt (below_wt ((Below.refl _ W).drew.trans b1) (below1 u1 _)) b2) Z4 b1.size
    · exact TwoT.fill (W := W) hR bel (below_wt (below_wt ((below1 W _).drew) b1) b2) Z4 (Nat.le_refl _)
  case rest =>
    obtain ⟨B, rfl, hB, hR, bel5, hne⟩ := hcut
    have q0 := hB.cell 0
    have q1 := hB.cell 1
    have z0 := hR.cell 0
    have z1 := hR.cell 1
    have f0 := hR.frozen 0
    have f1 := hR.frozen 1
    simp only [List.getElem?_toArray, List.getElem?_cons_zero, List.getElem?_cons_succ] at q0 q1 z0 z1
    have B5 := Lib.hid bel5
    have hne' : w.heap.size + 1 ≠ B := Ne.symm hne
    clear hB hR bel5
    by_cases h1 : (numT N).size ≤ 300
    · by_cases h2 : (numT D).size ≤ 300
      · have ht := Lib.hid (told_yes h1 h2)
        have hx := Lib.hid (fun x y => ((B5.out.setCell (p := ⟨w.heap.size + 1, 0, none⟩) (by simp only; omega) x).setCell (p := ⟨w.heap.size + 1, 1, none⟩) (by simp only; omega) y))
        generalize numT N = TN at *
        generalize numT D = TD at *
        have n1 : ¬ (300 : Int) < (TN.size : Int) := by omega
        have n2 : ¬ (300 : Int) < (TD.size : Int) := by omega
        go_wp2
        all_goals (refine bodyPost_ret (v := .tuple #[.agg #[.string TN, .string TD], .int .i64 0]) (by simp [results, Tryd.results16, go_sem, z0, z1]) rfl ?_)
        all_goals exact ⟨by rw [ht.out.1, ht.out.2.1, ht.out.2.2], hx.out _ _⟩
      · have ht := Lib.hid (told_no (n := N) (d := D) (by omega))
        have hx := Lib.hid (fun x y => ((B5.out.setCell (p := ⟨w.heap.size + 1, 0, none⟩) (by simp only; omega) x).setCell (p := ⟨w.heap.size + 1, 1, none⟩) (by simp only; omega) y))
        generalize numT N = TN at *
        generalize numT D = TD at *
        have n1 : ¬ (300 : Int) < (TN.size : Int) := by omega
        have n2 : (300 : Int) < (TD.size : Int) := by omega
        go_wp2
        all_goals (refine bodyPost_ret (v := .tuple #[.agg #[.string ⟨#[]⟩, .string ⟨#[]⟩], .int .i64 3]) (by simp [results, Tryd.results16, go_sem, z0, z1]) rfl ?_)
        all_goals exact ⟨by rw [ht.out.1, ht.out.2.1, ht.out.2.2], hx.out _ _⟩
    · have ht := Lib.hid (told_no (n := N) (d := D) (by omega))
      have hx := Lib.hid (fun x y => ((B5.out.setCell (p := ⟨w.heap.size + 1, 0, none⟩) (by simp only; omega) x).setCell (p := ⟨w.heap.size + 1, 1, none⟩) (by simp only; omega) y))
      generalize numT N = TN at *
      generalize numT D = TD at *
      have n1 : (300 : Int) < (TN.size : Int) := by omega
      go_wp2
      all_goals (refine bodyPost_ret (v := .tuple #[.agg #[.string ⟨#[]⟩, .string ⟨#[]⟩], .int .i64 3]) (by simp [results, Tryd.results16, go_sem, z0, z1]) rfl ?_)
      all_goals exact ⟨by rw [ht.out.1, ht.out.2.1, ht.out.2.2], hx.out _ _⟩
end Go.Proofs.YtiddhnnofpbopaaDoor
