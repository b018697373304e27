/- FsG: several texts in one (FsT, FsM, FsH, Vt). Conditions: told in each. -/
import Derived.Test.YtiddhnnofpbopaaDoorListG
import Derived.Test.YtiddhnnofpbopaaDoorReadG
import Derived.Test.YtiddhnnofpbopaaDoorChainG
import Derived.ChangeSame
import Derived.Deep.Slices
import Derived.Deep.RegionHeld3
import Derived.Test.YtiddhnnofpbopaaDoorNtxG
import Derived.Deep.DeepCutAuto
import Derived.Deep.AppendLies
/- The laws' lists of fractions: opened, measured, copied, compared. Conditions: told in each. -/
namespace Go.Proofs.YtiddhnnofpbopaaDoor
open Go.ChangeShapes Go.WideShapes Go.ChangeAt Go.RowKit Go.Deep Go.Joins
set_option linter.unusedVariables false
set_option linter.unusedSimpArgs false

def frZ : ByteArray × ByteArray := (⟨#[]⟩, ⟨#[]⟩)
/-- the slice v reads as fractions whose texts are no longer than a text may be -/
def FrsIn (w : World) (v : Value) (l : List (ByteArray × ByteArray)) : Prop :=
  FrL w v l ∧ ∀ i, i < l.length → (l.getD i (⟨#[]⟩, ⟨#[]⟩)).1.size ≤ maxLen ∧ (l.getD i (⟨#[]⟩, ⟨#[]⟩)).2.size ≤ maxLen
theorem FrsIn.keep {w w' : World} {v : Value} {l : List (ByteArray × ByteArray)} (h : FrsIn w v l) (hb : Below w.heap.size w w') : FrsIn w' v l := ⟨h.1.keep hb, h.2⟩

/-! ### copies -/
theorem Tryd.infoFr : (Tryd.prog.info? 35).map (fun i => (i.zero, i.size, i.bytes)) = some (some (.agg #[.string ⟨#[]⟩, .string ⟨#[]⟩]), 2, 32) := by kernel_rfl
theorem make_frs (n : Nat) (hb : n ≤ 2097152) (w : World) :
    (Instr.makeSlice 22 (.int .i64 (n : Int)) (.int .i64 (n : Int))).run Tryd.prog w = .ok (.slice (some ⟨w.heap.size, 0, none⟩) n n) (w.alloc (.cells (madeCells #[.string ⟨#[]⟩, .string ⟨#[]⟩] (n * 2)) 35)) := by
  obtain ⟨i0, hi, hz0, hz1, hz2⟩ := info_parts Tryd.infoFr
  have := run_make (P := Tryd.prog) w 22 35 i0 (.agg #[.string ⟨#[]⟩, .string ⟨#[]⟩]) Tryd.underlying22 hi hz0 .i64 .i64 (n : Int) (n : Int) (by omega) (Int.le_refl _) (by rw [hz2]; omega) (by omega)
  rw [this, hz1, Int.toNat_natCast]
  rfl
/-- fractions copied so far: the first k -/
def FrsTo (w : World) (g n : Nat) (l : List (ByteArray × ByteArray)) (k : Nat) : Prop :=
  ∃ c : Array Value, Blk w g c 35 ∧ c.size = n * 2 ∧ ∀ i, i < k → c[i * 2]? = some (.string (l.getD i (⟨#[]⟩, ⟨#[]⟩)).1) ∧ c[i * 2 + 1]? = some (.string (l.getD i (⟨#[]⟩, ⟨#[]⟩)).2)
theorem FrsTo.new (w : World) (n : Nat) (l : List (ByteArray × ByteArray)) : FrsTo (w.alloc (.cells (madeCells #[.string ⟨#[]⟩, .string ⟨#[]⟩] (n * 2)) 35)) w.heap.size n l 0 :=
  ⟨_, Blk.new _ _ _, size_madeCells _ _, fun i hi => by omega⟩
theorem FrsTo.at {w : World} {g n k : Nat} {l : List (ByteArray × ByteArray)} (h : FrsTo w g n l k) (hk : k < n) :
    ∃ u u', w.cell? ⟨g, k * 2, none⟩ = some u ∧ w.cell? ⟨g, k * 2 + 1, none⟩ = some u' ∧ w.frozen? ⟨g, k * 2, none⟩ = false ∧ w.frozen? ⟨g, k * 2 + 1, none⟩ = false ∧ g < w.heap.size := by
  obtain ⟨c, hB, hs, _⟩ := h
  refine ⟨c[k * 2]'(by omega), c[k * 2 + 1]'(by omega), ?_, ?_, hB.frozen _, hB.frozen _, hB.lt⟩
  · rw [hB.cell, Array.getElem?_eq_getElem (by omega)]
  · rw [hB.cell, Array.getElem?_eq_getElem (by omega)]
theorem FrsTo.keep {w w' : World} {g n k : Nat} {l : List (ByteArray × ByteArray)} (h : FrsTo w g n l k) (hb : Below w.heap.size w w') : FrsTo w' g n l k := by
  obtain ⟨c, hB, hs, hc⟩ := h
  exact ⟨c, hB.keep hb hB.lt, hs, hc⟩
theorem FrsTo.step {w : World} {g n k : Nat} {l : List (ByteArray × ByteArray)} {x y : ByteArray} (h : FrsTo w g n l k) (hk : k < n) (hx : (l.getD k (⟨#[]⟩, ⟨#[]⟩)) = (x, y)) :
    FrsTo ((w.setCell ⟨g, k * 2, none⟩ (.string x)).setCell ⟨g, k * 2 + 1, none⟩ (.string y)) g n l (k + 1) := by
  obtain ⟨c, hB, hs, hc⟩ := h
  refine ⟨_, (hB.set (k * 2) (.string x)).set (k * 2 + 1) (.string y), by simp [hs], fun i hi => ?_⟩
  by_cases e : i = k
  · subst e
    rw [hx]
    refine ⟨?_, ?_⟩
    · rw [Array.getElem?_setIfInBounds_ne (by omega), Array.getElem?_setIfInBounds_self_of_lt (by omega)]
    · rw [Array.getElem?_setIfInBounds_self_of_lt (by simp; omega)]
  · obtain ⟨h1, h2⟩ := hc i (by omega)
    refine ⟨?_, ?_⟩
    · rw [Array.getElem?_setIfInBounds_ne (by omega), Array.getElem?_setIfInBounds_ne (by omega)]; exact h1
    · rw [Array.getElem?_setIfInBounds_ne (by omega), Array.getElem?_setIfInBounds_ne (by omega)]; exact h2
theorem FrsTo.done {w : World} {g : Nat} {l : List (ByteArray × ByteArray)} (h : FrsTo w g l.length l l.length) (hm : l.length ≤ 2097152) : FrL w (.slice (some ⟨g, 0, none⟩) l.length l.length) l := by
  obtain ⟨c, hB, hs, hc⟩ := h
  refine ⟨by unfold maxLen; omega, _, _, rfl, fun i hi => ⟨g, 0, rfl, ?_, ?_⟩⟩
  · rw [Nat.zero_add, hB.cell]; exact (hc i hi).1
  · rw [Nat.zero_add, hB.cell]; exact (hc i hi).2
theorem cell_set_next' (w : World) (b i : Nat) (u : Value) : (w.setCell ⟨b, i, none⟩ u).cell? ⟨b, i + 1, none⟩ = w.cell? ⟨b, i + 1, none⟩ := by
  exact World.cell?_setCell_other _ _ _ _ (fun h => by injection h with _ h2 _; omega)
theorem frozen_set_next' (w : World) (b i : Nat) (u : Value) : (w.setCell ⟨b, i, none⟩ u).frozen? ⟨b, i + 1, none⟩ = w.frozen? ⟨b, i + 1, none⟩ := by
  rw [World.frozen?_setCell]

theorem eqFraction_same (n d : ByteArray) (w : World) : Calls Tryd.prog 14 #[.agg #[.string n, .string d], .agg #[.string n, .string d]] w fun e w' => e = .returned (.bool true) ∧ Below w.heap.size w w' := by
  have bel := below2 w (.cells #[.string n, .string d] 35) (.cells #[.string n, .string d] 35)
  go_enter Tryd.func14, Tryd.ntmps14
  go_wp2
  go_ret
  exact ⟨rfl, bel⟩

set_option maxHeartbeats 4000000 in
theorem eqFractionS_same (v1 v2 : Value) (l : List (ByteArray × ByteArray)) (w : World) (hv1 : FrL w v1 l) (hv2 : FrL w v2 l) :
    Calls Tryd.prog 6 #[v1, v2] w fun e w' => e = .returned (.bool true) ∧ Below w.heap.size w w' := by
  have g1 := Lib.hid hv1
  have g2 := Lib.hid hv2
  obtain ⟨hm, va, vc, rfl, _⟩ := hv1
  obtain ⟨_, ua, uc, rfl, _⟩ := hv2
  unfold maxLen at hm
  obtain ⟨n, hn⟩ : ∃ n, n = l.length := ⟨_, rfl⟩
  rw [← hn] at hm g1 g2 ⊢
  have hn' := Lib.hid hn
  clear hn
  go_enter Tryd.func6, Tryd.ntmps6
  go_wp2
  go_loopw [5] (fun i wr => ∃ k : Nat, k ≤ n ∧ i = .int .i64 k ∧ Hid (Below w.heap.size w wr)) (fun i _ => n - (intOf i).toNat)
  case atStart => exact ⟨0, Nat.zero_le _, rfl, Lib.hid (Below.refl _ _)⟩
  case round =>
    obtain ⟨k, hk, rfl, bel⟩ := hrel
    by_cases hlt : k < n
    · obtain ⟨b, off, rfl, q0, q1⟩ := (g1.out.keep bel.out).at k (by rw [← hn'.out]; exact hlt)
      obtain ⟨b', off', rfl, p0, p1⟩ := (g2.out.keep bel.out).at k (by rw [← hn'.out]; exact hlt)
      generalize l.getD k (⟨#[]⟩, ⟨#[]⟩) = c at *
      obtain ⟨cn, cd⟩ := c
      simp only at q0 q1 p0 p1
      have i0 : (0 : Int) ≤ (k : Int) := by omega
      have i1 : (k : Int) < (n : Int) := by omega
      replace q0 : wr.drew.cell? ⟨b, off + k * 2, none⟩ = some (.string cn) := q0
      replace q1 : wr.drew.cell? ⟨b, off + k * 2 + 1, none⟩ = some (.string cd) := q1
      replace p0 : wr.drew.cell? ⟨b', off' + k * 2, none⟩ = some (.string cn) := p0
      replace p1 : wr.drew.cell? ⟨b', off' + k * 2 + 1, none⟩ = some (.string cd) := p1
      go_wp2_with fail
      go_region_held3 (fun w' => w'.cell? ⟨b, off + k * 2, none⟩ = some (.string cn) ∧ w'.cell? ⟨b, off + k * 2 + 1, none⟩ = some (.string cd) ∧ w'.cell? ⟨b', off' + k * 2, none⟩ = some (.string cn) ∧ w'.cell? ⟨b', off' + k * 2 + 1, none⟩ = some (.string cd))
        (first | go_keep | fail "no keep")
        (first
          | (go_at_call 14; ((with_reducible refine (eqFraction_same cn cd _).mono ?_); rintro e u1 ⟨rfl, b1⟩; replace q0 : u1.cell? ⟨b, off + k * 2, none⟩ = some (.string cn) := (b1.cell (p := ⟨b, off + k * 2, none⟩) (block_lt q0)).trans q0; replace q1 : u1.cell? ⟨b, off + k * 2 + 1, none⟩ = some (.string cd) := (b1.cell (p := ⟨b, off + k * 2 + 1, none⟩) (block_lt q1)).trans q1; replace p0 : u1.cell? ⟨b', off' + k * 2, none⟩ = some (.string cn) := (b1.cell (p := ⟨b', off' + k * 2, none⟩) (block_lt p0)).trans p0; replace p1 : u1.cell? ⟨b', off' + k * 2 + 1, none⟩ = some (.string cd) := (b1.cell (p := ⟨b', off' + k * 2 + 1, none⟩) (block_lt p1)).trans p1))
          | fail "no arm")
      have B1 := Lib.hid (below_wt bel.out.drew b1)
      clear b1 q0 q1 p0 p1
      go_wp2
      go_roundw
      case rel => exact ⟨k + 1, by omega, by go_num, B1⟩
      case measure => simp [intOf]; omega
    · obtain rfl : n = k := by omega
      go_wp2
      go_ret
      exact ⟨rfl, bel.out⟩
end Go.Proofs.YtiddhnnofpbopaaDoor

/- The laws' marks on lists of fractions: texts. Conditions: few (told). -/
namespace Go.Proofs.YtiddhnnofpbopaaDoor
open Go.RowKit Go.Deep
set_option linter.unusedVariables false
set_option linter.unusedSimpArgs false

/-- the decimal digits of k ahead of a text -/
def digT : Nat → Nat → ByteArray → ByteArray
  | 0, _, t => t
  | f + 1, k, t => if k = 0 then t else digT f (k / 10) (⟨#[UInt8.ofNat (48 + k % 10)]⟩ ++ t)
def markT (k : Nat) : ByteArray := ⟨#[109]⟩ ++ digT 20 k ⟨#[]⟩
theorem digT_zero (f : Nat) (t : ByteArray) : digT f 0 t = t := by cases f <;> simp [digT]
theorem digT_size (f : Nat) : ∀ (k : Nat) (t : ByteArray), (digT f k t).size ≤ f + t.size := by
  induction f with
  | zero => intro k t; simp [digT]
  | succ f ih =>
    intro k t
    unfold digT
    split
    · omega
    · have := ih (k / 10) (⟨#[UInt8.ofNat (48 + k % 10)]⟩ ++ t)
      rw [ByteArray.size_append] at this
      have h1 : (⟨#[UInt8.ofNat (48 + k % 10)]⟩ : ByteArray).size = 1 := rfl
      omega

theorem oneDig {P : Program} (u : World) (src dst e : TypeId) (hs : P.underlying src = some (.slice e)) (he : P.underlying e = some (.int .u8)) (hd : P.underlying dst = some .string) (b c n : Nat) (hc : u.cell? ⟨b, 0, none⟩ = some (.int .u8 (48 + (n : Int) % 10))) :
    (convert src dst (.slice (some ⟨b, 0, none⟩) 1 c)).run P u = .ok (.string ⟨#[UInt8.ofNat (48 + n % 10)]⟩) u := by
  have h1 : ((UInt8.ofNat (48 + n % 10)).toNat : Int) = 48 + (n : Int) % 10 := by
    rw [UInt8.toNat_ofNat']; omega
  have := run_convert_bytes_back (P := P) u src dst e ⟨b, 0, none⟩ c [UInt8.ofNat (48 + n % 10)] hs he hd (fun j hj => by
    have : j = 0 := by simpa using hj
    subst this
    rw [List.getElem_cons_zero, h1]
    simpa [Addr.add] using hc)
  exact this

set_option maxRecDepth 100000 in
set_option maxHeartbeats 4000000 in
theorem markText_any (k : Nat) (w : World) (h0 : 0 < k) (h1 : k ≤ 1099511627776) :
    Calls Tryd.prog 15 #[.int .i64 (k : Int)] w fun e w' => e = .returned (.string (markT k)) ∧ Below w.heap.size w w' := by
  have hk : ¬ (k : Int) ≤ 0 := by omega
  go_enter Tryd.func15, Tryd.ntmps15
  go_wp2
  go_loopw [0, 3] (fun q s wr => ∃ (f n : Nat) (t : ByteArray), q = .int .i64 (n : Int) ∧ s = .string t ∧ f ≤ 20 ∧ n ≤ 1099511627776 ∧ n < 10 ^ f ∧ t.size + f ≤ 20 ∧ Hid (digT f n t = digT 20 k ⟨#[]⟩) ∧ Hid (Below w.heap.size w wr)) (fun q _ _ => (intOf q).toNat)
  case atStart => exact ⟨20, k, _, rfl, rfl, Nat.le_refl _, h1, by omega, by decide, Lib.hid rfl, Lib.hid (Below.refl _ _)⟩
  case round =>
    obtain ⟨f, n, t, rfl, rfl, hf, hb, hn, hs, hd, bel⟩ := hrel
    by_cases hz : 0 < n
    · have hz' : (0 : Int) < (n : Int) := by omega
      obtain ⟨f, rfl⟩ : ∃ g, f = g + 1 := by
        cases f with
        | zero => simp at hn; omega
        | succ g => exact ⟨g, rfl⟩
      have hn' : n / 10 < 10 ^ f := by rw [Nat.pow_succ] at hn; omega
      have hm0 : (0 : Int) ≤ (n : Int) % 10 := by omega
      have hm1 : (n : Int) % 10 < 10 := by omega
      have hq : (n : Int).tdiv 10 = ((n / 10 : Nat) : Int) := by rw [Int.tdiv_eq_ediv_of_nonneg (by omega)]; omega
      have hQb : n / 10 ≤ 1099511627776 := by omega
      have hQl : n / 10 < n := by omega
      have hd' := Lib.hid (show digT f (n / 10) (⟨#[UInt8.ofNat (48 + n % 10)]⟩ ++ t) = digT 20 k ⟨#[]⟩ by
        have := hd.out
        unfold digT at this
        rwa [if_neg (by omega)] at this)
      have hsz : ¬ 9223372036854775807 < (⟨#[UInt8.ofNat (48 + n % 10)]⟩ : ByteArray).size + t.size := by
        have h1 : (⟨#[UInt8.ofNat (48 + n % 10)]⟩ : ByteArray).size = 1 := rfl
        omega
      have hcv := oneDig (P := Tryd.prog) (wr.alloc (.cells #[.int .u8 (48 + (n : Int) % 10)] 5)) 56 9 5 Tryd.underlying56 Tryd.underlying5 (by kernel_rfl) wr.heap.size 1 n (by simp)
      have hsb : ((⟨#[UInt8.ofNat (48 + n % 10)]⟩ : ByteArray) ++ t).size + f ≤ 20 := by
        rw [ByteArray.size_append]
        have h1 : (⟨#[UInt8.ofNat (48 + n % 10)]⟩ : ByteArray).size = 1 := rfl
        omega
      clear hn
      generalize (⟨#[UInt8.ofNat (48 + n % 10)]⟩ : ByteArray) = dg at *
      generalize n / 10 = Q at *
      go_wp2
      go_roundw
      case rel => exact ⟨f, Q, dg ++ t, by first | rfl | go_num, rfl, by omega, hQb, hn', hsb, hd', Lib.hid (below_wt bel.out (below1 wr _))⟩
      case measure => simp [intOf]; omega
    · obtain rfl : n = 0 := by omega
      have he : t = digT 20 k ⟨#[]⟩ := by
        have := hd.out
        rwa [digT_zero] at this
      have hsz : ¬ 9223372036854775807 < (⟨#[109]⟩ : ByteArray).size + t.size := by
        have h1 : (⟨#[109]⟩ : ByteArray).size = 1 := rfl
        omega
      have hfin := Lib.hid (show markT k = ⟨#[109]⟩ ++ t by unfold markT; rw [he])
      clear hd he
      go_wp2
      go_ret
      exact ⟨by rw [hfin.out]; rfl, bel.out⟩

/-! ### lists of fractions that a call made -/
def FrOwn (w : World) (lo hi : Nat) (v : Value) (l : List (ByteArray × ByteArray)) : Prop :=
  l.length ≤ 2097152 ∧ ((∃ cap, l = [] ∧ v = .slice none 0 cap) ∨ ∃ g cap c, v = .slice (some ⟨g, 0, none⟩) l.length cap ∧ lo ≤ g ∧ g < hi ∧ Blk w g c 35 ∧ l.length * 2 ≤ c.size ∧
    ∀ i, i < l.length → c[i * 2]? = some (.string (l.getD i (⟨#[]⟩, ⟨#[]⟩)).1) ∧ c[i * 2 + 1]? = some (.string (l.getD i (⟨#[]⟩, ⟨#[]⟩)).2))
theorem FrOwn.frl {w : World} {lo hi : Nat} {v : Value} {l : List (ByteArray × ByteArray)} (h : FrOwn w lo hi v l) : FrL w v l := by
  obtain ⟨hm, ⟨cap, rfl, rfl⟩ | ⟨g, cap, c, rfl, _, _, hB, _, hc⟩⟩ := h
  · exact ⟨by simp, none, cap, rfl, fun i hi => by simp at hi⟩
  · refine ⟨by unfold maxLen; omega, _, cap, rfl, fun i hi => ⟨g, 0, rfl, ?_, ?_⟩⟩
    · rw [Nat.zero_add, hB.cell]; exact (hc i hi).1
    · rw [Nat.zero_add, hB.cell]; exact (hc i hi).2
theorem FrOwn.shape {w : World} {lo hi : Nat} {v : Value} {l : List (ByteArray × ByteArray)} (h : FrOwn w lo hi v l) : ∃ a cap, v = .slice a l.length cap := by
  obtain ⟨hm, ⟨cap, rfl, rfl⟩ | ⟨g, cap, c, rfl, _⟩⟩ := h
  · exact ⟨none, cap, rfl⟩
  · exact ⟨_, cap, rfl⟩
theorem FrOwn.keep {w w' : World} {lo hi : Nat} {v : Value} {l : List (ByteArray × ByteArray)} (h : FrOwn w lo hi v l) (hb : Below w.heap.size w w') : FrOwn w' lo hi v l := by
  obtain ⟨hm, h0 | ⟨g, cap, c, rfl, h1, h2, hB, hs, hc⟩⟩ := h
  · exact ⟨hm, Or.inl h0⟩
  · exact ⟨hm, Or.inr ⟨g, cap, c, rfl, h1, h2, hB.keep hb hB.lt, hs, hc⟩⟩
theorem FrOwn.same {w w' : World} {lo hi : Nat} {v : Value} {l : List (ByteArray × ByteArray)} (h : FrOwn w lo hi v l) (hs' : SameOn lo hi w w') : FrOwn w' lo hi v l := by
  obtain ⟨hm, h0 | ⟨g, cap, c, rfl, h1, h2, hB, hs, hc⟩⟩ := h
  · exact ⟨hm, Or.inl h0⟩
  · exact ⟨hm, Or.inr ⟨g, cap, c, rfl, h1, h2, (hs' g h1 h2).trans hB, hs, hc⟩⟩
theorem FrOwn.wide {w : World} {lo hi lo' hi' : Nat} {v : Value} {l : List (ByteArray × ByteArray)} (h : FrOwn w lo hi v l) (h1 : lo' ≤ lo) (h2 : hi ≤ hi') : FrOwn w lo' hi' v l := by
  obtain ⟨hm, h0 | ⟨g, cap, c, rfl, a, b, r⟩⟩ := h
  · exact ⟨hm, Or.inl h0⟩
  · exact ⟨hm, Or.inr ⟨g, cap, c, rfl, by omega, by omega, r⟩⟩
theorem FrsTo.own {w : World} {g lo hi : Nat} {l : List (ByteArray × ByteArray)} (h : FrsTo w g l.length l l.length) (hm : l.length ≤ 2097152) (h1 : lo ≤ g) (h2 : g < hi) : FrOwn w lo hi (.slice (some ⟨g, 0, none⟩) l.length l.length) l := by
  obtain ⟨c, hB, hs, hc⟩ := h
  exact ⟨hm, Or.inr ⟨g, _, c, rfl, h1, h2, hB, by omega, hc⟩⟩

/-- the marks k, k + 1, .. in a list of n fractions -/
def markL (k n : Nat) : List (ByteArray × ByteArray) := (List.range n).map fun i => (markT (k + i * 2), markT (k + i * 2 + 1))
theorem markL_length (k n : Nat) : (markL k n).length = n := by simp [markL]
theorem markL_get (k n i : Nat) (h : i < n) : (markL k n).getD i (⟨#[]⟩, ⟨#[]⟩) = (markT (k + i * 2), markT (k + i * 2 + 1)) := by simp [markL, List.getD, h]
/-- the first j marked -/
def FrsMk (w : World) (g n k j : Nat) : Prop :=
  ∃ c : Array Value, Blk w g c 35 ∧ n * 2 ≤ c.size ∧ ∀ i, i < j → c[i * 2]? = some (.string (markT (k + i * 2))) ∧ c[i * 2 + 1]? = some (.string (markT (k + i * 2 + 1)))
theorem FrsMk.at {w : World} {g n k j : Nat} (h : FrsMk w g n k j) (hk : j < n) :
    ∃ u u', w.cell? ⟨g, j * 2, none⟩ = some u ∧ w.cell? ⟨g, j * 2 + 1, none⟩ = some u' ∧ w.frozen? ⟨g, j * 2, none⟩ = false ∧ w.frozen? ⟨g, j * 2 + 1, none⟩ = false ∧ g < w.heap.size := by
  obtain ⟨c, hB, hs, _⟩ := h
  refine ⟨c[j * 2]'(by omega), c[j * 2 + 1]'(by omega), ?_, ?_, hB.frozen _, hB.frozen _, hB.lt⟩
  · rw [hB.cell, Array.getElem?_eq_getElem (by omega)]
  · rw [hB.cell, Array.getElem?_eq_getElem (by omega)]
theorem FrsMk.keep {w w' : World} {g n k j : Nat} (h : FrsMk w g n k j) (hb : Below w.heap.size w w') : FrsMk w' g n k j := by
  obtain ⟨c, hB, hs, hc⟩ := h
  exact ⟨c, hB.keep hb hB.lt, hs, hc⟩
theorem FrsMk.half {w : World} {g n k j : Nat} (h : FrsMk w g n k j) (hj : j < n) (x : Value) : FrsMk (w.setCell ⟨g, j * 2, none⟩ x) g n k j := by
  obtain ⟨c, hB, hs, hc⟩ := h
  refine ⟨_, hB.set (j * 2) x, by simpa using hs, fun i hi => ?_⟩
  obtain ⟨h1, h2⟩ := hc i hi
  exact ⟨by rw [Array.getElem?_setIfInBounds_ne (by omega)]; exact h1, by rw [Array.getElem?_setIfInBounds_ne (by omega)]; exact h2⟩
theorem FrsMk.step {w w1 : World} {g n k j : Nat} (h : FrsMk w g n k j) (hj : j < n) (hb : Below (w.setCell ⟨g, j * 2, none⟩ (.string (markT (k + j * 2)))).heap.size (w.setCell ⟨g, j * 2, none⟩ (.string (markT (k + j * 2)))) w1) :
    FrsMk (w1.setCell ⟨g, j * 2 + 1, none⟩ (.string (markT (k + j * 2 + 1)))) g n k (j + 1) := by
  obtain ⟨c, hB, hs, hc⟩ := h
  have hB1 := hB.set (j * 2) (.string (markT (k + j * 2)))
  refine ⟨_, (hB1.keep hb hB1.lt).set (j * 2 + 1) (.string (markT (k + j * 2 + 1))), by simpa using hs, fun i hi => ?_⟩
  by_cases e : i = j
  · subst e
    refine ⟨?_, ?_⟩
    · rw [Array.getElem?_setIfInBounds_ne (by omega), Array.getElem?_setIfInBounds_self_of_lt (by omega)]
    · rw [Array.getElem?_setIfInBounds_self_of_lt (by simp; omega)]
  · obtain ⟨h1, h2⟩ := hc i (by omega)
    refine ⟨?_, ?_⟩
    · rw [Array.getElem?_setIfInBounds_ne (by omega), Array.getElem?_setIfInBounds_ne (by omega)]; exact h1
    · rw [Array.getElem?_setIfInBounds_ne (by omega), Array.getElem?_setIfInBounds_ne (by omega)]; exact h2

set_option maxRecDepth 100000 in
set_option maxHeartbeats 8000000 in
theorem markFractionS_any (v : Value) (l : List (ByteArray × ByteArray)) (k lo hi : Nat) (w : World) (hv : FrOwn w lo hi v l) (h0 : 0 < k) (h1 : k + l.length * 2 ≤ 1099511627776) :
    Calls Tryd.prog 7 #[v, .int .i64 (k : Int)] w fun e w' => e = .returned (.int .i64 ((k + l.length * 2 : Nat) : Int)) ∧ FrOwn w' lo hi v (markL k l.length) ∧ Touched lo hi w w' := by
  obtain ⟨hm, ⟨cap, rfl, rfl⟩ | ⟨g, cap, c, rfl, hg1, hg2, hB, hs, hc⟩⟩ := hv
  · go_enter Tryd.func7, Tryd.ntmps7
    go_wp2
    refine wp_loop_rounds 1 ?_
    rw [rounds_succ]
    go_wp2
    go_ret
    exact ⟨by simp, ⟨by simp [markL], Or.inl ⟨cap, by simp [markL], rfl⟩⟩, Touched.refl _ _ _⟩
  · have hst := Lib.hid (show FrsMk w g l.length k 0 from ⟨c, hB, hs, fun i hi => by omega⟩)
    clear hB hs hc
    have hfin := Lib.hid (show ∀ W, FrsMk W g l.length k l.length → FrOwn W lo hi (.slice (some ⟨g, 0, none⟩) l.length cap) (markL k l.length) by
      rintro W ⟨c, hB, hs, hc⟩
      refine ⟨by rw [markL_length]; exact hm, Or.inr ⟨g, cap, c, by rw [markL_length], hg1, hg2, hB, by rw [markL_length]; exact hs, fun i hi => ?_⟩⟩
      rw [markL_length] at hi
      rw [markL_get k _ i hi]
      exact hc i hi)
    generalize l.length = n at *
    have hmt := Lib.hid (fun j W (h : j < n * 2) => markText_any (k + j) W (by omega) (by omega))
    go_enter Tryd.func7, Tryd.ntmps7
    go_wp2
    go_loopw [1, 5] (fun q i wr => ∃ j : Nat, j ≤ n ∧ i = .int .i64 (j : Int) ∧ q = .int .i64 ((k + j * 2 : Nat) : Int) ∧ Hid (FrsMk wr g n k j) ∧ Hid (Touched lo hi w wr)) (fun _ i _ => n - (intOf i).toNat)
    case atStart => exact ⟨0, Nat.zero_le _, rfl, by simp, hst, Lib.hid (Touched.refl _ _ _)⟩
    case round =>
      obtain ⟨j, hj, rfl, rfl, hmk, htou⟩ := hrel
      by_cases hlt : j < n
      · have hq1 := Lib.hid (hmt.out (j * 2) wr (by omega))
        have hq2 := Lib.hid (fun W => hmt.out (j * 2 + 1) W (by omega))
        have hlt' := Lib.hid hlt
        have e2 : ((k + j * 2 : Nat) : Int) + 1 = ((k + (j * 2 + 1) : Nat) : Int) := by omega
        obtain ⟨K, hK⟩ : ∃ K, K = k + j * 2 := ⟨_, rfl⟩
        rw [← hK] at hq1 e2 ⊢
        obtain ⟨K2, hK2⟩ : ∃ K2, K2 = k + (j * 2 + 1) := ⟨_, rfl⟩
        rw [← hK2] at hq2 e2
        have hKb : K ≤ 1099511627776 := by omega
        have hK2b : K2 ≤ 1099511627776 := by omega
        have hK' := Lib.hid hK
        have hK2' := Lib.hid hK2
        clear hK hK2
        go_wp2_with fail
        (with_reducible refine hq1.out.mono ?_)
        rintro e w1 ⟨rfl, b1⟩
        have hmk1 := hmk.out.keep b1
        obtain ⟨u, u', c0, c1, f0, f1, hlo⟩ := hmk1.at hlt
        have hT1 := Lib.hid ((htou.out.trans (Touched.of b1)).set (a := ⟨g, j * 2, none⟩) hg1 hg2 (.string (markT K)))
        have hh1 := Lib.hid (hmk1.half hlt (.string (markT K)))
        have hm1 := Lib.hid hmk1
        clear b1 hmk1
        go_wp2_with fail
        (with_reducible refine (hq2.out _).mono ?_)
        rintro e w2 ⟨rfl, b2⟩
        have hmk2 := hh1.out.keep b2
        obtain ⟨u2, u2', d0, d1, g0, g1, hlo2⟩ := hmk2.at hlt
        have hT2 := Lib.hid ((hT1.out.trans (Touched.of b2)).set (a := ⟨g, j * 2 + 1, none⟩) hg1 hg2 (.string (markT K2)))
        have hst2 := Lib.hid (show FrsMk (w2.setCell ⟨g, j * 2 + 1, none⟩ (.string (markT K2))) g n k (j + 1) by
          have e3 := hK'.out
          have e4 := hK2'.out
          subst e3 e4
          exact hm1.out.step hlt b2)
        clear b2 hmk2
        go_wp2
        go_roundw
        case rel => exact ⟨j + 1, by omega, by go_num, by have := hK2'.out; congr 1; omega, hst2, hT2⟩
        case measure => simp [intOf]; omega
      · obtain rfl : n = j := by omega
        have hfo := Lib.hid (hfin.out _ hmk.out)
        go_wp2
        go_ret
        exact ⟨rfl, hfo.out, htou.out⟩
end Go.Proofs.YtiddhnnofpbopaaDoor

/- Lists of fractions that a call made: copied with their block's bounds; the marks found again. Conditions: few (told). -/
namespace Go.Proofs.YtiddhnnofpbopaaDoor
open Go.RowKit Go.Deep
set_option linter.unusedVariables false
set_option linter.unusedSimpArgs false

theorem FrOwn.untouched {w w' : World} {lo hi a b : Nat} {v : Value} {l : List (ByteArray × ByteArray)} (h : FrOwn w lo hi v l) (ht : Touched a b w w') (hd : hi ≤ a ∨ b ≤ lo) : FrOwn w' lo hi v l := by
  obtain ⟨hm, h0 | ⟨g, cap, c, rfl, h1, h2, hB, hs, hc⟩⟩ := h
  · exact ⟨hm, Or.inl h0⟩
  · exact ⟨hm, Or.inr ⟨g, cap, c, rfl, h1, h2, (ht.block g hB.lt (by omega)).trans hB, hs, hc⟩⟩

set_option maxRecDepth 100000 in
set_option maxHeartbeats 8000000 in
theorem heldFractionS_any (v : Value) (k n : Nat) (w : World) (hv : FrL w v (markL k n)) (h0 : 0 < k) (h1 : k + n * 2 ≤ 1099511627776) :
    Calls Tryd.prog 8 #[v, .int .i64 (k : Int)] w fun e w' => e = .returned (.int .i64 ((k + n * 2 : Nat) : Int)) ∧ Below w.heap.size w w' := by
  have hv' := Lib.hid hv
  obtain ⟨hm, va, vc, rfl, _⟩ := hv
  unfold maxLen at hm
  rw [markL_length] at hm ⊢
  have hv2 := Lib.hid (show FrL w (.slice va n vc) (markL k n) by have := hv'.out; rwa [markL_length] at this)
  have hgt := Lib.hid (fun i (h : i < n) => markL_get k n i h)
  have hln := Lib.hid (markL_length k n)
  have hmt := Lib.hid (fun j W (h : j < n * 2) => markText_any (k + j) W (by omega) (by omega))
  clear hv'
  go_enter Tryd.func8, Tryd.ntmps8
  go_wp2
  go_loopw [1, 5] (fun q i wr => ∃ j : Nat, j ≤ n ∧ i = .int .i64 (j : Int) ∧ q = .int .i64 ((k + j * 2 : Nat) : Int) ∧ Hid (Below w.heap.size w wr)) (fun _ i _ => n - (intOf i).toNat)
  case atStart => exact ⟨0, Nat.zero_le _, rfl, by simp, Lib.hid (Below.refl _ _)⟩
  case round =>
    obtain ⟨j, hj, rfl, rfl, bel⟩ := hrel
    by_cases hlt : j < n
    · obtain ⟨b, off, rfl, q0, q1⟩ := (hv2.out.keep bel.out).at j (by rw [hln.out]; exact hlt)
      rw [hgt.out j hlt] at q0 q1
      simp only at q0 q1
      have hq1 := Lib.hid (fun W => hmt.out (j * 2) W (by omega))
      have hq2 := Lib.hid (fun W => hmt.out (j * 2 + 1) W (by omega))
      have hlt' := Lib.hid hlt
      have e2 : ((k + j * 2 : Nat) : Int) + 1 = ((k + (j * 2 + 1) : Nat) : Int) := by omega
      rw [show k + j * 2 + 1 = k + (j * 2 + 1) by omega] at q1
      obtain ⟨K, hK⟩ : ∃ K, K = k + j * 2 := ⟨_, rfl⟩
      rw [← hK] at hq1 e2 q0 ⊢
      obtain ⟨K2, hK2⟩ : ∃ K2, K2 = k + (j * 2 + 1) := ⟨_, rfl⟩
      rw [← hK2] at hq2 e2 q1
      have hKb : K ≤ 1099511627776 := by omega
      have hK2b : K2 ≤ 1099511627776 := by omega
      have hK2' := Lib.hid hK2
      clear hK hK2
      have i0 : (0 : Int) ≤ (j : Int) := by omega
      have i1 : (j : Int) < (n : Int) := by omega
      replace q0 : wr.drew.cell? ⟨b, off + j * 2, none⟩ = some (.string (markT K)) := q0
      replace q1 : wr.drew.cell? ⟨b, off + j * 2 + 1, none⟩ = some (.string (markT K2)) := q1
      go_wp2_with fail
      go_region_held3 (fun w' => w'.cell? ⟨b, off + j * 2, none⟩ = some (.string (markT K)))
        (first | go_keep | fail "no keep")
        (first
          | (go_at_call 15; ((with_reducible refine (hq1.out _).mono ?_); rintro e u1 ⟨rfl, b1⟩; replace q0 : u1.cell? ⟨b, off + j * 2, none⟩ = some (.string (markT K)) := (b1.cell (p := ⟨b, off + j * 2, none⟩) (block_lt q0)).trans q0; replace q1 : u1.cell? ⟨b, off + j * 2 + 1, none⟩ = some (.string (markT K2)) := (b1.cell (p := ⟨b, off + j * 2 + 1, none⟩) (block_lt q1)).trans q1))
          | fail "no arm")
      have B1 := Lib.hid (below_wt bel.out.drew b1)
      clear b1 q0
      replace q1 : u1.drew.cell? ⟨b, off + j * 2 + 1, none⟩ = some (.string (markT K2)) := q1
      go_wp2_with fail
      go_region_held3 (fun w' => w'.cell? ⟨b, off + j * 2 + 1, none⟩ = some (.string (markT K2)))
        (first | go_keep | fail "no keep")
        (first
          | (go_at_call 15; ((with_reducible refine (hq2.out _).mono ?_); rintro e u2 ⟨rfl, b2⟩; replace q1 : u2.cell? ⟨b, off + j * 2 + 1, none⟩ = some (.string (markT K2)) := (b2.cell (p := ⟨b, off + j * 2 + 1, none⟩) (block_lt q1)).trans q1))
          | fail "no arm")
      have B2 := Lib.hid (below_wt B1.out.drew b2)
      clear b2 q1
      go_wp2
      go_roundw
      case rel => exact ⟨j + 1, by omega, by go_num, by have := hK2'.out; congr 1; omega, B2⟩
      case measure => simp [intOf]; omega
    · obtain rfl : n = j := by omega
      go_wp2
      go_ret
      exact ⟨rfl, bel.out⟩
end Go.Proofs.YtiddhnnofpbopaaDoor

/- (*l01Vector).told of the specification: a vector in texts. Conditions: the common denominator is not 0; told by the code. -/
namespace Go.Proofs.YtiddhnnofpbopaaDoor
open Go.RowKit Go.Deep
set_option linter.unusedVariables false
set_option linter.unusedSimpArgs false

def vecOne (n d : Nat) : ByteArray × ByteArray := (toldN (n / Nat.gcd n d) (d / Nat.gcd n d), toldD (n / Nat.gcd n d) (d / Nat.gcd n d))
def vecGood (n d : Nat) : Bool := toldB (n / Nat.gcd n d) (d / Nat.gcd n d)
def vecOk (R : List Nat) (D : Nat) : Bool := R.all fun n => vecGood n D
def vecT (R : List Nat) (D : Nat) : List (ByteArray × ByteArray) := if vecOk R D = true then R.map fun n => vecOne n D else []
def vecC (R : List Nat) (D : Nat) : Int := if vecOk R D = true then 0 else 3
theorem vecOk_no {R : List Nat} {D k : Nat} (h : k < R.length) (hk : vecGood (R.getD k 0) D = false) : vecOk R D = false := by
  rw [Bool.eq_false_iff]; intro hc
  have := List.all_eq_true.1 hc (R.getD k 0) (by simp [List.getD, h])
  rw [hk] at this; cases this
theorem vecOk_next {R : List Nat} {D k : Nat} (h : k < R.length) (h1 : vecOk (R.take k) D = true) (hk : vecGood (R.getD k 0) D = true) : vecOk (R.take (k + 1)) D = true := by
  unfold vecOk at *
  rw [List.take_add_one, List.getElem?_eq_getElem h, List.all_append, h1]
  simpa [List.getD, h] using hk
theorem vec_take (R : List Nat) (D k : Nat) (h : k < R.length) : (R.take (k + 1)).map (fun n => vecOne n D) = (R.take k).map (fun n => vecOne n D) ++ [vecOne (R.getD k 0) D] := by
  rw [List.take_add_one, List.getElem?_eq_getElem h, List.map_append]
  congr 1
  simp [List.getD, h]

/-- texts of fractions while a call makes their list -/
def MadeT (w : World) (B : Nat) (v : Value) (l : List (ByteArray × ByteArray)) : Prop :=
  ∃ xs, w.ownsRow B 35 2 v l.length xs ∧ ∀ i, i < l.length → xs[i * 2]? = some (.string (l.getD i (⟨#[]⟩, ⟨#[]⟩)).1) ∧ xs[i * 2 + 1]? = some (.string (l.getD i (⟨#[]⟩, ⟨#[]⟩)).2)
theorem MadeT.keep {w w' : World} {B : Nat} {v : Value} {l : List (ByteArray × ByteArray)} (h : MadeT w B v l) (hb : Below w.heap.size w w') : MadeT w' B v l := by
  obtain ⟨xs, ho, hc⟩ := h
  refine ⟨xs, ⟨ho.1, ?_⟩, hc⟩
  rcases ho.2 with h0 | ⟨g, cap, cur, hv, hg, hh, r⟩
  · exact Or.inl h0
  · exact Or.inr ⟨g, cap, cur, hv, hg, by rw [hb.block g (Array.getElem?_eq_some_iff.1 hh).1]; exact hh, r⟩
theorem MadeT.step {w2 : World} {B : Nat} {v' : Value} {l : List (ByteArray × ByteArray)} {x y : ByteArray} {xs : List Value}
    (hc : ∀ i, i < l.length → xs[i * 2]? = some (.string (l.getD i (⟨#[]⟩, ⟨#[]⟩)).1) ∧ xs[i * 2 + 1]? = some (.string (l.getD i (⟨#[]⟩, ⟨#[]⟩)).2)) (hlen : xs.length = l.length * 2)
    (hown : w2.ownsRow B 35 2 v' (l.length + 1) (xs ++ [.string x, .string y])) : MadeT w2 B v' (l ++ [(x, y)]) := by
  refine ⟨_, by rw [List.length_append]; exact hown, fun i hi => ?_⟩
  rw [List.length_append] at hi
  by_cases h : i < l.length
  · obtain ⟨h1, h2⟩ := hc i h
    have e : (l ++ [(x, y)]).getD i (⟨#[]⟩, ⟨#[]⟩) = l.getD i (⟨#[]⟩, ⟨#[]⟩) := by simp [List.getD, List.getElem?_append_left h]
    rw [e]
    exact ⟨by rw [List.getElem?_append_left (by omega)]; exact h1, by rw [List.getElem?_append_left (by omega)]; exact h2⟩
  · have hi' : i = l.length := by simp at hi; omega
    subst hi'
    have e : (l ++ [(x, y)]).getD l.length (⟨#[]⟩, ⟨#[]⟩) = (x, y) := by simp [List.getD]
    rw [e]
    exact ⟨by rw [List.getElem?_append_right (by omega), hlen, Nat.sub_self]; rfl, by rw [List.getElem?_append_right (by omega), hlen, show l.length * 2 + 1 - l.length * 2 = 1 by omega]; rfl⟩
theorem MadeT.own {w : World} {B : Nat} {v : Value} {l : List (ByteArray × ByteArray)} (h : MadeT w B v l) (hm : l.length ≤ 2097152) : FrOwn w B w.heap.size v l := by
  obtain ⟨xs, ho, hc⟩ := h
  have hl := ho.1
  rcases ho.2 with ⟨rfl, h0⟩ | ⟨g, cap, cur, rfl, hg, hh, h1, h2, h3, h4⟩
  · have : l = [] := List.eq_nil_of_length_eq_zero h0
    subst this
    exact ⟨hm, Or.inl ⟨0, rfl, rfl⟩⟩
  · refine ⟨hm, Or.inr ⟨g, cap, cur, rfl, hg, (Array.getElem?_eq_some_iff.1 hh).1, hh, by rw [h3]; exact Nat.mul_le_mul_right _ h1, fun i hi => ?_⟩⟩
    have hget : ∀ j, j < l.length * 2 → cur[j]? = xs[j]? := fun j hj => by
      rw [← h4]
      simp [List.getElem?_take, hj]
    exact ⟨by rw [hget _ (by omega)]; exact (hc i hi).1, by rw [hget _ (by omega)]; exact (hc i hi).2⟩
theorem Tryd.infoFrV : (Tryd.prog.info? 35).map (fun i => (i.zero, i.size, i.bytes)) = some (some (.agg #[.string ⟨#[]⟩, .string ⟨#[]⟩]), 2, 32) := by kernel_rfl
theorem made_frs (w : World) : MadeT (w.alloc (.cells #[] 35)) w.heap.size (.slice (some ⟨w.heap.size, 0, none⟩) 0 0) [] :=
  ⟨[], World.ownsRow_made w #[] 0 (Nat.le_refl _) (by unfold maxLen; omega) (by simp), fun i hi => by simp at hi⟩
theorem told_code {n d : Nat} (h : toldB n d = true) : toldC n d = 0 := by simp [toldC, h]
theorem told_code' {n d : Nat} (h : toldB n d = false) : toldC n d = 3 := by simp [toldC, h]

/-- a fraction and a code that a call has returned, in a box and a variable -/
def GotV (b wx : World) (n d : ByteArray) (c : Int) (s s' : Value) : Prop := ∃ B : Nat, s = .pointer (some ⟨B, 0, none⟩) ∧ s' = .int .i64 c ∧ Blk wx B #[.string n, .string d] 35 ∧ Below b.heap.size b wx
theorem GotV.new {b u : World} {n d : ByteArray} {c : Int} (h : Below b.heap.size b u) : GotV b (u.alloc (.cells #[.string n, .string d] 35)) n d c (.pointer (some ⟨u.heap.size, 0, none⟩)) (.int .i64 c) :=
  ⟨_, rfl, rfl, Blk.new _ _ _, below_wt h (below1 _ _)⟩
theorem GotV.fill {b u : World} {n d : ByteArray} {c : Int} {B : Nat} (h : Below b.heap.size b u) (Z : Blk u B #[.string ⟨#[]⟩, .string ⟨#[]⟩] 35) (hB : b.heap.size ≤ B) :
    GotV b ((u.setCell ⟨B, 0, none⟩ (.string n)).setCell ⟨B, 1, none⟩ (.string d)) n d c (.pointer (some ⟨B, 0, none⟩)) (.int .i64 c) := by
  refine ⟨B, rfl, rfl, ?_, (h.setCell (p := ⟨B, 0, none⟩) (by simpa using hB) _).setCell (p := ⟨B, 1, none⟩) (by simpa using hB) _⟩
  have := (Z.set 0 (.string n)).set 1 (.string d)
  simpa using this

set_option maxRecDepth 100000 in
set_option maxHeartbeats 8000000 in
theorem told_any (B : Nat) (na da : Option Addr) (n nc dl dc : Nat) (R : List Nat) (D : Nat) (w : World) (hB : Blk w B #[.slice na n nc, .slice da dl dc] 32) (hnl : n = R.length) (hv : RowL LongS w (.slice na n nc) R)
    (hd : LongS w (.slice da dl dc) D) (hD : 0 < D) (hs : ∀ i, i < R.length → dlen B9 (R.getD i 0) ≤ 10000000) (sD : dlen B9 D ≤ 10000000) (hn : n ≤ 1000000) :
    Calls Tryd.prog 10 #[.pointer (some ⟨B, 0, none⟩)] w fun e w' => ∃ v, e = .returned (.tuple #[v, .int .i64 (vecC R D)]) ∧ FrOwn w' w.heap.size w'.heap.size v (vecT R D) ∧ Below w.heap.size w w' := by
  have hB' := Lib.hid hB
  have hv' := Lib.hid hv
  have hd' := Lib.hid hd
  have hsz := Lib.hid hs
  have hno := Lib.hid (fun k h h2 => vecOk_no (R := R) (D := D) (k := k) h h2)
  have hnx := Lib.hid (fun k h h1 h2 => vecOk_next (R := R) (D := D) (k := k) h h1 h2)
  have hvt := Lib.hid (fun k h => vec_take R D k h)
  have hall := Lib.hid (show R.take R.length = R from List.take_length)
  have hkl := Lib.hid (fun k (h : k ≤ R.length) => (show ((R.take k).map fun n => vecOne n D).length = k by rw [List.length_map, List.length_take]; omega))
  have hst := Lib.hid (show MadeT _ w.heap.size _ ((R.take 0).map fun n => vecOne n D) from made_frs w)
  have h0 := Lib.hid (show vecOk (R.take 0) D = true by rfl)
  have B0 := Lib.hid (below1 w (.cells #[] 35))
  obtain ⟨i0, hi, hz0, hz1, hz2⟩ := info_parts Tryd.infoFrV
  have hi' := Lib.hid hi; have hz0' := Lib.hid hz0; have hz1' := Lib.hid hz1; have hz2' := Lib.hid hz2
  rw [← hnl] at hsz hno hnx hvt hall hkl
  have hnl' := Lib.hid hnl
  clear hB hv hd hs hnl hi hz0 hz1 hz2
  go_enter Tryd.func10, Tryd.ntmps10
  go_wp2_with fail
  go_loopw [4, 5] (fun s i wr => ∃ (k c : Nat) (a : Option Addr), k ≤ n ∧ i = .int .i64 (k : Int) ∧ s = .slice a k c ∧ Hid (vecOk (R.take k) D = true) ∧ Hid (MadeT wr w.heap.size (.slice a k c) ((R.take k).map fun n => vecOne n D)) ∧ Hid (Below w.heap.size w wr)) (fun _ i _ => n - (intOf i).toNat)
  case atStart => exact ⟨0, _, _, Nat.zero_le _, rfl, rfl, h0, hst, B0⟩
  case round =>
    obtain ⟨k, c, a, hk, rfl, rfl, hok, hmade, bel⟩ := hrel
    have hBk := hB'.out.keep bel.out hB'.out.lt
    have z0 := hBk.cell 0
    have z1 := hBk.cell 1
    simp only [List.getElem?_toArray, List.getElem?_cons_zero, List.getElem?_cons_succ] at z0 z1
    by_cases hlt : k < n
    · obtain ⟨b, off, x, rfl, q2, hx⟩ := (hv'.out.keep likeS bel.out).at k (by rw [← hnl'.out]; exact hlt)
      obtain ⟨_, xa, xc, rfl⟩ := hx.len
      have sx := hsz.out k hlt
      have hno1 := Lib.hid (hno.out k hlt)
      have hnx1 := Lib.hid (hnx.out k hlt hok.out)
      have hvt1 := Lib.hid (hvt.out k hlt)
      have hlt' := Lib.hid hlt
      have gd := Lib.hid (fun V b => (hd'.out.keep bel.out).keep (w' := V) b)
      have gx := Lib.hid (fun V b => hx.keep (w' := V) b)
      clear hx hBk
      generalize R.getD k 0 = XN at *
      have sp := dlen_mono b9 (Nat.div_le_self XN (Nat.gcd XN D))
      have sq := dlen_mono b9 (Nat.div_le_self D (Nat.gcd XN D))
      have i1 : (0 : Int) ≤ (k : Int) := by omega
      have i2 : (k : Int) < (n : Int) := by omega
      go_upto_region 5 with fail
      go_cut [6, 7] (fun s s' wx => GotV wr wx (toldN (XN / Nat.gcd XN D) (D / Nat.gcd XN D)) (toldD (XN / Nat.gcd XN D) (D / Nat.gcd XN D)) (toldC (XN / Nat.gcd XN D) (D / Nat.gcd XN D)) s s')
      case first =>
        have q0 : wr.drew.cell? ⟨B, 0, none⟩ = some (.slice (some ⟨b, off, none⟩) n nc) := z0
        have q1 : wr.drew.cell? ⟨B, 1, none⟩ = some (.slice da dl dc) := z1
        replace q2 : wr.drew.cell? ⟨b, off + k, none⟩ = some (.slice xa (dlen B9 XN) xc) := q2
        have cW0 : wr.cell? ⟨B, 0, none⟩ = some (.slice (some ⟨b, off, none⟩) n nc) := z0
        have cW1 : wr.cell? ⟨B, 1, none⟩ = some (.slice da dl dc) := z1
        have cW2 : wr.cell? ⟨b, off + k, none⟩ = some (.slice xa (dlen B9 XN) xc) := q2
        have ne0 : B ≠ wr.heap.size := Nat.ne_of_lt (block_lt q0)
        have ne0' : wr.heap.size ≠ B := Ne.symm ne0
        have nf0 : b ≠ wr.heap.size := Nat.ne_of_lt (block_lt q2)
        have nf0' : wr.heap.size ≠ b := Ne.symm nf0
        go_region_held3 (fun w' => w'.cell? ⟨B, 0, none⟩ = some (.slice (some ⟨b, off, none⟩) n nc) ∧ w'.cell? ⟨B, 1, none⟩ = some (.slice da dl dc) ∧ w'.cell? ⟨b, off + k, none⟩ = some (.slice xa (dlen B9 XN) xc))
          (first | go_keep | exact ⟨((below1 wr _).cell (block_lt cW0)).trans cW0, ((below1 wr _).cell (block_lt cW1)).trans cW1, ((below1 wr _).cell (block_lt cW2)).trans cW2⟩ | exact ⟨((below1 _ _).cell (block_lt q0)).trans q0, ((below1 _ _).cell (block_lt q1)).trans q1, ((below1 _ _).cell (block_lt q2)).trans q2⟩ | fail "no keep")
          (first
            | (go_at_call 17; ((with_reducible refine (l01Over_any (.slice xa (dlen B9 XN) xc) (.slice da dl dc) XN D _ (gx.out _ (by (repeat (first | exact Below.refl _ _ | refine Below.drew ?_ | refine below_wt ?_ b1 | refine below_wt ?_ (below1 _ _))))) (gd.out _ (by (repeat (first | exact Below.refl _ _ | refine Below.drew ?_ | refine below_wt ?_ b1 | refine below_wt ?_ (below1 _ _))))) hD (by omega) (by omega)).mono ?_); rintro e u1 ⟨p, q, rfl, hp, hq, b1⟩; obtain ⟨_, pa, pc, rfl⟩ := hp.len; obtain ⟨_, qa, qc, rfl⟩ := hq.len; (first | (replace Z4 := Z4.keep b1 Z4.lt) | (have Z4 := (Blk.new _ #[.string ⟨#[]⟩, .string ⟨#[]⟩] 35).keep b1 (by simp)) | (have Z4 := (Blk.drewN1 (Blk.new wr #[.string ⟨#[]⟩, .string ⟨#[]⟩] 35)).keep b1 (by simp)) | skip); replace q0 : u1.cell? ⟨B, 0, none⟩ = some (.slice (some ⟨b, off, none⟩) n nc) := (by first | exact (b1.cell (p := ⟨B, 0, none⟩) (block_lt q0)).trans q0 | exact (b1.cell (p := ⟨B, 0, none⟩) (block_lt (((below1 _ _).cell (block_lt q0)).trans q0))).trans (((below1 _ _).cell (block_lt q0)).trans q0)); replace q1 : u1.cell? ⟨B, 1, none⟩ = some (.slice da dl dc) := (by first | exact (b1.cell (p := ⟨B, 1, none⟩) (block_lt q1)).trans q1 | exact (b1.cell (p := ⟨B, 1, none⟩) (block_lt (((below1 _ _).cell (block_lt q1)).trans q1))).trans (((below1 _ _).cell (block_lt q1)).trans q1)); replace q2 : u1.cell? ⟨b, off + k, none⟩ = some (.slice xa (dlen B9 XN) xc) := (by first | exact (b1.cell (p := ⟨b, off + k, none⟩) (block_lt q2)).trans q2 | exact (b1.cell (p := ⟨b, off + k, none⟩) (block_lt (((below1 _ _).cell (block_lt q2)).trans q2))).trans (((below1 _ _).cell (block_lt q2)).trans q2)); have ne1 : B ≠ u1.heap.size := Nat.ne_of_lt (block_lt q0); have ne1' : u1.heap.size ≠ B := Ne.symm ne1; have nf1 : b ≠ u1.heap.size := Nat.ne_of_lt (block_lt q2); have nf1' : u1.heap.size ≠ b := Ne.symm nf1))
            | (go_at_call 16; ((with_reducible refine (l01Told_any (.slice pa (dlen B9 (XN / Nat.gcd XN D)) pc) (.slice qa (dlen B9 (D / Nat.gcd XN D)) qc) (XN / Nat.gcd XN D) (D / Nat.gcd XN D) _ (by (repeat (first | exact hp | refine LongS.keep ?_ (below1 _ _)))) (by (repeat (first | exact hq | refine LongS.keep ?_ (below1 _ _)))) (by omega) (by omega)).mono ?_); rintro e u2 ⟨rfl, b2⟩; (first | (replace Z4 := Z4.keep b2 Z4.lt) | (have Z4 := (Blk.new _ #[.string ⟨#[]⟩, .string ⟨#[]⟩] 35).keep b2 (by simp)) | (have Z4 := (Blk.drewN1 (Blk.new wr #[.string ⟨#[]⟩, .string ⟨#[]⟩] 35)).keep b2 (by simp)) | skip); (try (have zq0 := Z4.cell 0; have zq1 := Z4.cell 1; have fq0 := Z4.frozen 0; have fq1 := Z4.frozen 1; simp only [List.getElem?_toArray, List.getElem?_cons_zero, List.getElem?_cons_succ] at zq0 zq1)); replace q0 : u2.cell? ⟨B, 0, none⟩ = some (.slice (some ⟨b, off, none⟩) n nc) := (by first | exact (b2.cell (p := ⟨B, 0, none⟩) (block_lt q0)).trans q0 | exact (b2.cell (p := ⟨B, 0, none⟩) (block_lt (((below1 _ _).cell (block_lt q0)).trans q0))).trans (((below1 _ _).cell (block_lt q0)).trans q0)); replace q1 : u2.cell? ⟨B, 1, none⟩ = some (.slice da dl dc) := (by first | exact (b2.cell (p := ⟨B, 1, none⟩) (block_lt q1)).trans q1 | exact (b2.cell (p := ⟨B, 1, none⟩) (block_lt (((below1 _ _).cell (block_lt q1)).trans q1))).trans (((below1 _ _).cell (block_lt q1)).trans q1)); replace q2 : u2.cell? ⟨b, off + k, none⟩ = some (.slice xa (dlen B9 XN) xc) := (by first | exact (b2.cell (p := ⟨b, off + k, none⟩) (block_lt q2)).trans q2 | exact (b2.cell (p := ⟨b, off + k, none⟩) (block_lt (((below1 _ _).cell (block_lt q2)).trans q2))).trans (((below1 _ _).cell (block_lt q2)).trans q2)); have ne2 : B ≠ u2.heap.size := Nat.ne_of_lt (block_lt q0); have ne2' : u2.heap.size ≠ B := Ne.symm ne2; have nf2 : b ≠ u2.heap.size := Nat.ne_of_lt (block_lt q2); have nf2' : u2.heap.size ≠ b := Ne.symm nf2))
            | fail "no arm")
        all_goals (go_wp2_with fail; go_meet)
        all_goals first
          | exact GotV.new (by (repeat (first | exact Below.refl _ _ | refine Below.drew ?_ | refine below_wt ?_ b2 | refine below_wt ?_ b1 | refine below_wt ?_ (below1 _ _))))
          | exact GotV.fill (by (repeat (first | exact Below.refl _ _ | refine Below.drew ?_ | refine below_wt ?_ b2 | refine below_wt ?_ b1 | refine below_wt ?_ (below1 _ _)))) Z4 (by (repeat (first | exact Nat.le_refl _ | exact b1.size | exact Nat.le_trans b1.size b2.size | exact (below_wt (below_wt (Below.refl _ _).drew b1) b2).size)))
      case rest =>
        obtain ⟨Bx, rfl, rfl, hZ6, b6⟩ := hcut
        have B6 := Lib.hid (below_wt bel.out b6)
        have hm6 := Lib.hid (hmade.out.keep b6)
        have y0 := hZ6.cell 0
        have y1 := hZ6.cell 1
        simp only [List.getElem?_toArray, List.getElem?_cons_zero, List.getElem?_cons_succ] at y0 y1
        clear z0 z1 q2 b6 bel hmade
        rcases hgd : vecGood XN D with _ | _
        · have hc := Lib.hid (told_code' hgd)
          have hbad := hno1.out hgd
          have hfin := Lib.hid (show FrOwn (wc.alloc (.cells #[] 35)) w.heap.size (wc.alloc (.cells #[] 35)).heap.size (.slice (some ⟨wc.heap.size, 0, none⟩) 0 0) (vecT R D) by
            have e : vecT R D = [] := by unfold vecT; rw [if_neg (by rw [hbad]; decide)]
            rw [e]
            exact ⟨by simp, Or.inr ⟨wc.heap.size, 0, #[], rfl, B6.out.size, by simp, Blk.new _ _ _, by simp, fun i hi => by simp at hi⟩⟩)
          have hcv := Lib.hid (show vecC R D = 3 by unfold vecC; rw [if_neg (by rw [hbad]; decide)])
          have Bf := Lib.hid (below_wt B6.out (below1 wc (.cells #[] 35)))
          clear hbad hgd
          rw [hc.out]
          go_wp2
          go_ret2
          exact ⟨_, by rw [hcv.out]; rfl, hfin.out, Bf.out⟩
        · have hc := Lib.hid (told_code hgd)
          have hok1 := Lib.hid (hnx1.out hgd)
          have hvt2 := hvt1.out
          rw [show vecOne XN D = (toldN (XN / Nat.gcd XN D) (D / Nat.gcd XN D), toldD (XN / Nat.gcd XN D) (D / Nat.gcd XN D)) from rfl] at hvt2
          have hvt3 := Lib.hid hvt2
          rw [hc.out]
          clear hvt2 hgd
          generalize toldN (XN / Nat.gcd XN D) (D / Nat.gcd XN D) = tn at *
          generalize toldD (XN / Nat.gcd XN D) (D / Nat.gcd XN D) = td at *
          have bA := below1 wc (.cells #[.string tn, .string td] 35)
          obtain ⟨xs, ho, hcx⟩ := hm6.out.keep bA
          have hcx' := Lib.hid hcx
          have hkl1 := hkl.out k hk
          rw [hkl1] at ho
          have hxl := Lib.hid (show xs.length = k * 2 from ho.1)
          have ho' := Lib.hid ho
          have sB := B6.out.size
          clear ho hcx bA
          go_wp2_with (at_builtin; (refine wpList_append_lies _ rfl _ _ 22 rfl w.heap.size 35 i0 (.agg #[.string ⟨#[]⟩, .string ⟨#[]⟩]) 2 32 Tryd.underlying22 hi'.out hz0'.out hz1'.out hz2'.out rfl (by decide) _ _ _ rfl ho'.out ⟨wc.heap.size, 0, none⟩ 1 1 [.string tn, .string td] rfl rfl (two_new wc (.string tn) (.string td) 35) (by simp [Value.oneCell']) (by omega) (by unfold maxLen; omega) (by omega) (by simp; omega) (wc.heap.size + 1) (by simp) ?_); intro gg cap2 w5 hown5 hgr5 hal5 hlt5)
          have B5 := Lib.hid ((below_wt B6.out (below1 wc (.cells #[.string tn, .string td] 35))).grown hgr5 (by simp; omega) (fun k' hk' => by have := (ho'.out.lt k' hk').1; omega))
          have hM5 := Lib.hid (show MadeT w5 w.heap.size (.slice (some ⟨gg, 0, none⟩) (k + 1) cap2) ((R.take (k + 1)).map fun n => vecOne n D) by
            rw [hvt3.out]
            exact MadeT.step hcx'.out (by rw [hkl1]; exact hxl.out) (by rw [hkl1]; exact hown5))
          clear hgr5 hal5 hown5 hkl1
          go_wp2
          go_roundw
          case rel => exact ⟨k + 1, cap2, some ⟨gg, 0, none⟩, by have := hlt'.out; omega, by go_num, rfl, hok1, hM5, B5⟩
          case measure => have := hlt'.out; simp [intOf]; omega
    · obtain rfl : n = k := by omega
      have hM := hmade.out
      have hO := hok.out
      rw [hall.out] at hM hO
      have hcv := Lib.hid (show vecC R D = 0 by unfold vecC; rw [if_pos hO])
      have hfin := Lib.hid (show FrOwn wr w.heap.size wr.heap.size (.slice a n c) (vecT R D) by
        have e : vecT R D = R.map fun n => vecOne n D := by unfold vecT; rw [if_pos hO]
        rw [e]
        exact hM.own (by rw [List.length_map, ← hnl'.out]; omega))
      clear hM hO hmade hok
      go_wp2
      go_ret2
      exact ⟨_, by rw [hcv.out]; rfl, hfin.out, bel.out⟩
end Go.Proofs.YtiddhnnofpbopaaDoor
