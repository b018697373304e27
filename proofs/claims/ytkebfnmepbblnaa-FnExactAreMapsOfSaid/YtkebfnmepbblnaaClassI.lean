/- Classes in the project: classesOf. Conditions: the chain is valid. -/
import Derived.Test.YtkebfnmepbblnaaClassT
import Derived.Test.YtkebfnmepbblnaaReach7
import Derived.Test.YtkebfnmepbblnaaDense
import Derived.Deep.RegionLaw
import Derived.Deep.AppendLies
import Derived.Deep.DeepCutAuto
import Derived.Carry
namespace Go.Proofs.Ytkebfnmepbblnaa
open Go.RowKit Go.Deep
open Go.ChangeMaps (setBlock)
set_option linter.unusedVariables false

def xsAt (r : Nat → Nat → Bool) (s i : Nat) : List Int := if i = 0 then numL r s else selL (fun t => num r t == i - 1) s
def valsOf (vs : Nat → Value) (m : Nat) : List Value := (List.range m).map fun k => vs (k + 1)
theorem valsOf_len (vs : Nat → Value) (m : Nat) : (valsOf vs m).length = m := by simp [valsOf]
theorem valsOf_getD (vs : Nat → Value) (m k : Nat) (h : ∀ j, m ≤ j → vs (j + 1) = .slice none 0 0) : (valsOf vs m).getD k (.slice none 0 0) = vs (k + 1) := by
  by_cases hk : k < m
  · simp [valsOf, List.getD, hk]
  · rw [h k (by omega)]; simp [valsOf, List.getD, hk]

/-- what the project's loop has made: the table, the map, the lists -/
structure CI (w wr : World) (bx mb lo1 hi1 N : Nat) (r : Nat → Nat → Bool) (mv : Value) (rvs ds : List Value) (vs : Nat → Value) (xs : Nat → List Int) : Prop where
  mat : MadeV 213 212 wr lo1 hi1 mv rvs (tabV N N (tr r))
  dense : Dense wr mb ds
  fam : Fam wr (bx + 1) wr.heap.size vs xs
  bel : Below w.heap.size w wr
  lo : w.heap.size ≤ lo1
  hi : hi1 ≤ mb
  lt : mb < bx
  le : w.heap.size ≤ mb
  blt : bx < wr.heap.size
theorem MadeV.same {e2 e1 : TypeId} {w w' : World} {lo hi : Nat} {v : Value} {rvs : List Value} {yss : List (List Value)} (h : MadeV e2 e1 w lo hi v rvs yss) (hb : SameOn lo hi w w') (hs : hi ≤ w'.heap.size) : MadeV e2 e1 w' lo hi v rvs yss :=
  ⟨h.own.same hb, h.len, fun i hi => (h.rows i hi).same hb, h.apart, h.far, hs⟩
section
variable {w wr : World} {bx mb lo1 hi1 N : Nat} {r : Nat → Nat → Bool} {mv : Value} {rvs ds : List Value} {vs : Nat → Value} {xs : Nat → List Int}
theorem CI.set (h : CI w wr bx mb lo1 hi1 N r mv rvs ds vs xs) (a : Addr) (u : Value)
    (h1 : w.heap.size ≤ a.block) (h2 : a.block < lo1 ∨ hi1 ≤ a.block) (h3 : a.block ≠ mb) (h4 : a.block < bx + 1) : CI w (wr.setCell a u) bx mb lo1 hi1 N r mv rvs ds vs xs := by
  have hsz : (wr.setCell a u).heap.size = wr.heap.size := by simp [World.setCell]
  refine ⟨h.mat.same (fun k k1 k2 => Below.heap_setCell _ _ _ _ (by omega)) (by rw [hsz]; exact h.mat.size), h.dense.block (Below.heap_setCell _ _ _ _ (Ne.symm h3)), ?_, h.bel.setCell h1 u, h.lo, h.hi, h.lt, h.le, by rw [hsz]; exact h.blt⟩
  rw [hsz]
  exact h.fam.same (fun k k1 _ => Below.heap_setCell _ _ _ _ (by omega)) (by rw [hsz]; exact Nat.le_refl _)
theorem CI.keep {wr' : World} (h : CI w wr bx mb lo1 hi1 N r mv rvs ds vs xs) (hb : Below wr.heap.size wr wr') : CI w wr' bx mb lo1 hi1 N r mv rvs ds vs xs :=
  ⟨h.mat.keep hb, h.dense.keep hb, by
    have := h.fam.keep hb
    exact ⟨fun i => (this.own i).wide (Nat.le_refl _) hb.size, this.far, Nat.le_refl _⟩, below_wt h.bel hb, h.lo, h.hi, h.lt, h.le, Nat.lt_of_lt_of_le h.blt hb.size⟩
theorem CI.grow {wr' : World} (h : CI w wr bx mb lo1 hi1 N r mv rvs ds vs xs) (i : Nat) {v' : Value} {ys : List Int} (hg : wr.grownBy wr' (vs i).ownBlock) (ho : wr'.ownsRow (bx + 1) 2 1 v' ys.length (ints ys))
    (hat : v'.ownBlock = (vs i).ownBlock ∨ ∃ k, v'.ownBlock = some k ∧ wr.heap.size ≤ k) : CI w wr' bx mb lo1 hi1 N r mv rvs ds (fun j => if j = i then v' else vs j) (fun j => if j = i then ys else xs j) := by
  have hblk : ∀ k, k < bx + 1 → wr'.heap[k]? = wr.heap[k]? := fun k hk => hg.block k (by have := h.blt; omega) (fun e => by
    have := ((h.fam.own i).1.lt k e.symm).1; omega)
  have hlt := h.lt; have hhi := h.hi; have hle := h.le
  exact ⟨h.mat.same (fun k k1 k2 => hblk k (by omega)) (Nat.le_trans h.mat.size hg.size), h.dense.block (hblk mb (by omega)), h.fam.grow i hg ho hat,
    h.bel.grown hg (Nat.le_trans (by omega) (Nat.le_of_lt h.blt)) (fun k hk => by have := ((h.fam.own i).1.lt k hk).1; omega), h.lo, h.hi, h.lt, h.le, Nat.lt_of_lt_of_le h.blt hg.size⟩
theorem CI.put (h : CI w wr bx mb lo1 hi1 N r mv rvs ds vs xs) (ds' : List Value) : CI w (setBlock wr mb (.map (ents 0 ds').toArray ds'.length)) bx mb lo1 hi1 N r mv rvs ds' vs xs := by
  have hsz : (setBlock wr mb (.map (ents 0 ds').toArray ds'.length)).heap.size = wr.heap.size := by simp [setBlock]
  have hlt := h.lt; have hhi := h.hi; have hle := h.le
  refine ⟨h.mat.same (fun k k1 k2 => setBlock_other _ _ _ (by omega)) (by rw [hsz]; exact h.mat.size), Dense.put h.dense, ?_, ?_, h.lo, h.hi, h.lt, h.le, by rw [hsz]; exact h.blt⟩
  · rw [hsz]
    exact h.fam.same (fun k k1 _ => setBlock_other _ _ _ (by omega)) (by rw [hsz]; exact Nat.le_refl _)
  · exact h.bel.trans ⟨rfl, rfl, rfl, by rw [hsz]; exact Nat.le_refl _, fun k hk => setBlock_other _ _ _ (by omega)⟩
end
/-- the state of the project's loop when s states are in -/
structure ClInv (w wr : World) (bx mb lo1 hi1 N : Nat) (r : Nat → Nat → Bool) (mv : Value) (rvs : List Value) (s : Nat) (vs : Nat → Value) : Prop where
  ci : CI w wr bx mb lo1 hi1 N r mv rvs (valsOf vs (cnt r s)) vs (xsAt r s)
  nil : ∀ j, cnt r s ≤ j → vs (j + 1) = .slice none 0 0
def nextV (vs : Nat → Value) (x : Nat) (v1 v2 : Value) : Nat → Value := fun j => if j = x + 1 then v2 else if j = 0 then v1 else vs j
/-- one state more is in -/
theorem ClInv.next {w wr : World} {bx mb lo1 hi1 N s : Nat} {r : Nat → Nat → Bool} {mv v1 v2 : Value} {rvs : List Value} {vs : Nat → Value} (P : Pre N r) (hs : s < N) (hn : ∀ j, cnt r s ≤ j → vs (j + 1) = .slice none 0 0)
    (h : CI w wr bx mb lo1 hi1 N r mv rvs (putD (valsOf vs (cnt r s)) (num r s) v2) (fun j => if j = num r s + 1 then v2 else if j = 0 then v1 else vs j)
      (fun j => if j = num r s + 1 then xsAt r s (num r s + 1) ++ [(s : Int)] else if j = 0 then numL r s ++ [((num r s : Nat) : Int)] else xsAt r s j)) :
    ClInv w wr bx mb lo1 hi1 N r mv rvs (s + 1) (nextV vs (num r s) v1 v2) := by
  have e1 : (fun j => if j = num r s + 1 then xsAt r s (num r s + 1) ++ [(s : Int)] else if j = 0 then numL r s ++ [((num r s : Nat) : Int)] else xsAt r s j) = xsAt r (s + 1) := by
    funext j
    by_cases h1 : j = num r s + 1
    · subst h1
      rw [if_pos rfl]
      simp only [xsAt, Nat.add_one_ne_zero, if_false, Nat.add_sub_cancel]
      rw [sel_succ_yes (by simp)]
    · rw [if_neg h1]
      by_cases h2 : j = 0
      · subst h2; simp only [if_true, xsAt]; rw [numL_succ]
      · rw [if_neg h2]
        simp only [xsAt, h2, if_false]
        rw [sel_succ_no (by simp; omega)]
  have hlt : num r s < cnt r (s + 1) := num_lt P hs (Nat.lt_succ_self s)
  have e2 : putD (valsOf vs (cnt r s)) (num r s) v2 = valsOf (nextV vs (num r s) v1 v2) (cnt r (s + 1)) := by
    cases hr : rep r s with
    | true =>
      have hx := num_rep P hs hr
      rw [cnt_yes hr]
      unfold putD
      rw [valsOf_len, if_neg (by omega)]
      unfold valsOf
      rw [range_map_succ]
      congr 1
      · apply List.map_congr_left
        intro k hk
        have : k < cnt r s := by simpa using hk
        unfold nextV
        rw [if_neg (by omega), if_neg (by omega)]
      · simp [nextV, hx]
    | false =>
      obtain ⟨t, ht, hm⟩ := rep_not hr
      have hx : num r s < cnt r s := by rw [num_same P hs (by omega) hm]; exact num_lt P (by omega) ht
      rw [cnt_no hr]
      unfold putD
      rw [valsOf_len, if_pos hx]
      unfold valsOf
      apply List.ext_getElem
      · simp
      · intro j h1 h2
        simp only [List.getElem_set, List.getElem_map, List.getElem_range, nextV]
        by_cases e : num r s = j
        · subst e; simp
        · rw [if_neg e, if_neg (by omega), if_neg (by omega)]
  refine ⟨?_, fun j hj => ?_⟩
  · rw [← e1, ← e2]; exact h
  · have := hn j (by have : cnt r s ≤ cnt r (s + 1) := by simp only [cnt]; omega
                     omega)
    unfold nextV
    rw [if_neg (by omega), if_neg (by omega), this]

theorem cl_round {w V w7 : World} {bx mb lo1 hi1 N s gb cb L : Nat} {r : Nat → Nat → Bool} {mv v1 : Value} {rvs : List Value} {vs : Nat → Value} {oa : Option Addr} {oc : Nat} (P : Pre N r) (hs : s < N) (hn : ∀ j, cnt r s ≤ j → vs (j + 1) = .slice none 0 0)
    (C1 : CI w V bx mb lo1 hi1 N r mv rvs (valsOf vs (cnt r s)) (fun j => if j = 0 then v1 else vs j) (fun j => if j = 0 then numL r s ++ [((num r s : Nat) : Int)] else xsAt r s j))
    (hL : (xsAt r s (num r s + 1)).length = L) (hov : vs (num r s + 1) = .slice oa L oc) (o : Obj)
    (hown : w7.ownsRow (bx + 1) 2 1 (.slice (some ⟨gb, 0, none⟩) (L + 1) cb) (L + 1) (ints (xsAt r s (num r s + 1)) ++ [.int .i64 (s : Int)]))
    (hgr : (V.alloc o).drew.grownBy w7 (Value.slice oa L oc).ownBlock) (hat : (Value.slice oa L oc).ownBlock = some gb ∨ gb = V.heap.size + 1) :
    ClInv w (setBlock w7 mb (.map (ents 0 (putD (valsOf vs (cnt r s)) (num r s) (.slice (some ⟨gb, 0, none⟩) (L + 1) cb))).toArray (putD (valsOf vs (cnt r s)) (num r s) (.slice (some ⟨gb, 0, none⟩) (L + 1) cb)).length)) bx mb lo1 hi1 N r mv rvs (s + 1) (nextV vs (num r s) v1 (.slice (some ⟨gb, 0, none⟩) (L + 1) cb)) ∧
    (∀ k, k < bx + 1 → k ≠ mb → (setBlock w7 mb (.map (ents 0 (putD (valsOf vs (cnt r s)) (num r s) (.slice (some ⟨gb, 0, none⟩) (L + 1) cb))).toArray (putD (valsOf vs (cnt r s)) (num r s) (.slice (some ⟨gb, 0, none⟩) (L + 1) cb)).length)).heap[k]? = V.heap[k]?) ∧
    bx < (setBlock w7 mb (.map (ents 0 (putD (valsOf vs (cnt r s)) (num r s) (.slice (some ⟨gb, 0, none⟩) (L + 1) cb))).toArray (putD (valsOf vs (cnt r s)) (num r s) (.slice (some ⟨gb, 0, none⟩) (L + 1) cb)).length)).heap.size := by
  have C2 := (C1.keep (below1 V o).drew).grow (num r s + 1) (v' := .slice (some ⟨gb, 0, none⟩) (L + 1) cb) (ys := xsAt r s (num r s + 1) ++ [(s : Int)])
    (by simp only [Nat.add_one_ne_zero, if_false]; rw [hov]; exact hgr) (by rw [List.length_append, hL]; simpa [ints] using hown)
    (by
      simp only [Nat.add_one_ne_zero, if_false]
      rw [hov]
      rcases hat with h | h
      · exact Or.inl h.symm
      · exact Or.inr ⟨gb, rfl, by rw [h]; simp [World.drew]⟩)
  have C3 := C2.put (putD (valsOf vs (cnt r s)) (num r s) (.slice (some ⟨gb, 0, none⟩) (L + 1) cb))
  refine ⟨ClInv.next P hs hn C3, fun k hk hm => ?_, C3.blt⟩
  rw [setBlock_other _ _ _ hm, hgr.block k (by have := C1.blt; simp [World.drew]; omega) (fun e => ?_)]
  · exact Below.heap_alloc V o k (by have := C1.blt; omega)
  · have h1 := C1.fam.own (num r s + 1)
    simp only [Nat.add_one_ne_zero, if_false] at h1
    rw [hov] at h1
    have := (h1.1.lt k e.symm).1
    omega

def numV (f : Bool) (c x : Nat) : Nat := if f then x else c
theorem Try.underMap : Try.prog.underlying 176 = some (.map 2 25) := by kernel_rfl
theorem Try.underKey : Try.prog.underlying 2 = some (.int .i64) := by kernel_rfl

set_option maxRecDepth 100000 in
set_option maxHeartbeats 16000000 in
theorem classesOf_any (cv : Value) (c : Ch) (w : World) (hc : ChR w cv c) (oc : chOk c = true) :
    Calls Try.prog 149 #[cv] w fun e w' => ∃ mv na ncap mb bx lo1 hi1 rvs vs, e = .returned (.agg #[mv, .slice na c.w.length ncap, .map (some mb)]) ∧ ClInv w w' bx mb lo1 hi1 c.w.length (rchB c) mv rvs c.w.length vs ∧ vs 0 = .slice na c.w.length ncap ∧ w.heap.size ≤ lo1 ∧ hi1 ≤ mb ∧ mb < bx ∧ bx < w'.heap.size := by
  obtain ⟨a, cap, rfl⟩ := hc.shape
  obtain ⟨n1, n2, t1, t2, hlen, hrows⟩ := chOk_all oc
  have B0 := below2 w (.cells #[.int .i64 c.n, .int .i64 c.t, .slice a c.w.length cap] 29) (.cells #[.slice none 0 0, .slice none 0 0, .map none] 178)
  have hB := (Blk.new w #[.int .i64 c.n, .int .i64 c.t, .slice a c.w.length cap] 29).alloc (.cells #[.slice none 0 0, .slice none 0 0, .map none] 178)
  have hZ := Blk.new (w.alloc (.cells #[.int .i64 c.n, .int .i64 c.t, .slice a c.w.length cap] 29)) #[.slice none 0 0, .slice none 0 0, .map none] 178
  simp only [World.size_alloc] at hZ
  have Kc := hc.keep B0
  have hre := reachOf_any _ c _ Kc oc
  have hP := pre_rch c
  have hsz0 : w.heap.size + 2 ≤ ((w.alloc (.cells #[.int .i64 c.n, .int .i64 c.t, .slice a c.w.length cap] 29)).alloc (.cells #[.slice none 0 0, .slice none 0 0, .map none] 178)).heap.size := by simp
  obtain ⟨N, hN⟩ : ∃ N, c.w.length = N := ⟨_, rfl⟩
  have hnN : c.n = (N : Int) := by omega
  have hN6 : N ≤ 6 := by omega
  have hN1 : 1 ≤ N := by omega
  simp only [hN, hnN] at hre hB hZ B0 hsz0 hP ⊢
  clear hc oc hrows hlen Kc hN hnN n1 n2 t1 t2
  generalize rchB c = r at *
  have hP' := Lib.hid hP
  clear hP
  generalize hA : (w.alloc (.cells #[.int .i64 (N : Int), .int .i64 c.t, .slice a N cap] 29)).alloc (.cells #[.slice none 0 0, .slice none 0 0, .map none] 178) = A at *
  have hA' := Lib.hid hA
  clear hA
  go_enter Try.func149, Try.ntmps149
  go_wp2_with fail
  rw [hA'.out]
  refine hre.mono ?_
  rintro e w1 ⟨mv, rvs, rfl, hM, b1⟩
  obtain ⟨q0, q1, q2⟩ := (hB.keep b1 hB.lt).three
  obtain ⟨g, gcap, rfl, g1, g2⟩ := hM.shape (by rw [tabV_len]; omega)
  simp only [tabV_len] at *
  have hM' := Lib.hid hM
  have bel := below_wt B0 b1
  have hs1 := b1.size
  clear hM hre
  have hmm := @run_makeMap Try.prog
  have z0 : w.heap.size < w1.heap.size := by omega
  have z1 : w.heap.size + 1 < w1.heap.size := by omega
  go_wp2
  clear hmm q0 q1 q2
  have hD0 := Dense.made w1
  have hb12 := below2 w1 (.map #[] 0) (.cells #[.slice (some ⟨g, 0, none⟩) N gcap, .slice none 0 0, .map (some w1.heap.size)] 178)
  have hX := Blk.new (w1.alloc (.map #[] 0)) #[.slice (some ⟨g, 0, none⟩) N gcap, .slice none 0 0, .map (some w1.heap.size)] 178
  have hD1 := hD0.keep (below1 _ (.cells #[.slice (some ⟨g, 0, none⟩) N gcap, .slice none 0 0, .map (some w1.heap.size)] 178))
  have hsW : ((w1.alloc (.map #[] 0)).alloc (.cells #[.slice (some ⟨g, 0, none⟩) N gcap, .slice none 0 0, .map (some w1.heap.size)] 178)).heap.size = w1.heap.size + 2 := by simp
  simp only [World.size_alloc] at hX
  have hZW := (hZ.keep b1 hZ.lt).keep hb12 (by show w.heap.size + 1 < w1.heap.size; omega)
  have hMW := hM'.out.keep hb12
  have belW := below_wt bel hb12
  obtain ⟨mb, hmb⟩ : ∃ mb, w1.heap.size = mb := ⟨_, rfl⟩
  rw [hmb] at hX hD1 hMW hsW belW hZW z0 z1 g2 hs1 ⊢
  have hFW := Fam.start ((w1.alloc (.map #[] 0)).alloc (.cells #[.slice (some ⟨g, 0, none⟩) N gcap, .slice none 0 0, .map (some mb)] 178)) (mb + 2)
  generalize (w1.alloc (.map #[] 0)).alloc (.cells #[.slice (some ⟨g, 0, none⟩) N gcap, .slice none 0 0, .map (some mb)] 178) = W at *
  have hI0 := Lib.hid (show ClInv w W (mb + 1) mb A.heap.size mb N r (.slice (some ⟨g, 0, none⟩) N gcap) rvs 0 (fun _ => .slice none 0 0) from
    ⟨⟨hMW, hD1, by
      have e : xsAt r 0 = fun _ => [] := by funext i; unfold xsAt; split <;> rfl
      rw [e]; exact hFW, belW, by omega, Nat.le_refl _, by omega, by omega, by omega⟩, fun _ _ => rfl⟩)
  have hsW' := Lib.hid hsW
  have hmb' := Lib.hid hmb
  clear hD0 hb12 hD1 hMW hFW belW hM' hB hZ B0 b1 bel hsW hmb
  go_loopw [13] (fun i wr => ∃ (s : Nat) (vs : Nat → Value) (na : Option Addr) (nc : Nat), s ≤ N ∧ i = .int .i64 (s : Int) ∧ Blk wr (mb + 1) #[.slice (some ⟨g, 0, none⟩) N gcap, .slice na s nc, .map (some mb)] 178 ∧ Blk wr (w.heap.size + 1) #[.slice none 0 0, .slice none 0 0, .map none] 178 ∧
      Hid (ClInv w wr (mb + 1) mb A.heap.size mb N r (.slice (some ⟨g, 0, none⟩) N gcap) rvs s vs) ∧ Hid (vs 0 = .slice na s nc) ∧ mb + 1 < wr.heap.size) (fun i _ => N - (intOf i).toNat)
  case atStart => exact ⟨0, fun _ => .slice none 0 0, none, 0, Nat.zero_le _, rfl, hX, hZW, hI0, Lib.hid rfl, by have := hsW'.out; omega⟩
  case round =>
    clear hX hZW hI0
    obtain ⟨wo, rfl⟩ : ∃ wo : World, wo = wr := ⟨_, rfl⟩
    obtain ⟨s, vs, na, nc, hs, rfl, hX, hZ, hI, hv0, hsb⟩ := hrel
    have x0 := hX.cell 0
    have x1 := hX.cell 1
    have x2 := hX.cell 2
    simp only [List.getElem?_toArray, List.getElem?_cons_zero, List.getElem?_cons_succ] at x0 x1 x2
    by_cases hlt : s < N
    · have hsI : (s : Int) < (N : Int) := by omega
      have hlen := len_dense (P := Try.prog) hI.out.ci.dense Try.underMap
      rw [valsOf_len] at hlen
      have hcl := cnt_le r s
      have hnl := num_lt hP'.out (s := s) hlt (Nat.lt_succ_self s)
      have hcs : cnt r (s + 1) ≤ cnt r s + 1 := by simp only [cnt]; split <;> omega
      have hmat := hI.out.ci.mat
      have hnat : ∀ t, t < s → ∃ ng, vs 0 = .slice (some ⟨ng, 0, none⟩) s nc ∧ wo.cell? ⟨ng, t, none⟩ = some (.int .i64 ((num r t : Nat) : Int)) := by
        intro t ht
        have h1 : Own wo (mb + 1 + 1) wo.heap.size 2 (vs 0) (ints (numL r s)) := hI.out.ci.fam.own 0
        obtain ⟨ng, cp, e1, -, -, -, e2, -⟩ := h1.at (by simp [ints, numL_len]; omega)
        have e3 : (ints (numL r s)).length = s := by simp [ints, numL_len]
        rw [e3] at e1
        have e4 := hv0.out
        rw [e1] at e4
        simp only [Value.slice.injEq] at e4
        refine ⟨ng, by rw [e1, e4.2.2], ?_⟩
        rw [e2 t (by rw [e3]; exact ht)]
        simp [ints, numL, List.getD, ht]
      have hnat' := Lib.hid hnat
      have hrow : ∀ u, u < N → ∃ ru ruc, wo.cell? ⟨g, u, none⟩ = some (.slice (some ⟨ru, 0, none⟩) N ruc) ∧ ∀ t, t < N → wo.cell? ⟨ru, t, none⟩ = some (.bool (r u t)) := by
        intro u hu
        obtain ⟨g', cap', ru, rc, hv, -, -, c1, hr, r1, r2, c2, c3⟩ := hmat.at u (by rw [tabV_len]; exact hu) (by rw [tabV_rowlen _ _ _ _ hu]; omega)
        rw [tabV_rowlen _ _ _ _ hu] at c1 c2
        simp only [Value.slice.injEq, Option.some.injEq, Addr.mk.injEq] at hv
        obtain ⟨⟨rfl, -⟩, -⟩ := hv
        exact ⟨ru, rc, c1, fun t ht => by rw [c2 t ht, tabV_at _ _ _ _ _ hu ht]; rfl⟩
      have hrow' := Lib.hid hrow
      have hsame := Lib.hid (fun t ht hm => num_same hP'.out (s := s) (t := t) hlt ht hm)
      clear hmat hnat hrow
      go_wp2
      clear hlen
      go_loop [5, 20] (fun nv i => ∃ (t : Nat) (f : Bool), t ≤ s ∧ i = .int .i64 (t : Int) ∧ nv = .int .i64 ((numV f (cnt r s) (num r s) : Nat) : Int) ∧ Hid (f = false → ∀ x, x < t → both r x s = false) ∧ Hid (f = true → rep r s = false)) (fun _ i => s - (intOf i).toNat)
      case atStart => exact ⟨0, false, Nat.zero_le _, rfl, rfl, Lib.hid (fun _ x hx => by omega), Lib.hid (fun h => by cases h)⟩
      case round =>
        obtain ⟨t, f, ht, rfl, rfl, hno, hyes⟩ := hrel
        by_cases htl : t < s
        · have htI : (t : Int) < (s : Int) := by omega
          have htN : (t : Int) < (N : Int) := by omega
          obtain ⟨rs, rsc, ys, ys2⟩ := hrow'.out s hlt
          obtain ⟨rt, rtc, yt, yt2⟩ := hrow'.out t (by omega)
          have yst := ys2 t (by omega)
          have yts := yt2 s hlt
          clear ys2 yt2
          obtain ⟨ng, en, yn⟩ := hnat'.out t htl
          rw [hv0.out] at en
          simp only [Value.slice.injEq] at en
          obtain ⟨rfl, -, -⟩ := en
          cases hst : r s t with
          | false =>
            have hb := Lib.hid (pre_both_false (r := r) (s := s) (t := t) (Or.inl hst))
            rw [hst] at yst
            clear hst
            go_wp2
            go_round
            case rel =>
              refine ⟨t + 1, f, by omega, by go_num, rfl, Lib.hid (fun hf x hx => ?_), hyes⟩
              by_cases e : x = t
              · subst e; exact hb.out
              · exact hno.out hf x (by omega)
            case measure => simp [intOf]; omega
          | true =>
            rw [hst] at yst
            cases hts : r t s with
            | false =>
              have hb := Lib.hid (pre_both_false (r := r) (s := s) (t := t) (Or.inr hts))
              rw [hts] at yts
              clear hst hts
              go_wp2
              go_round
              case rel =>
                refine ⟨t + 1, f, by omega, by go_num, rfl, Lib.hid (fun hf x hx => ?_), hyes⟩
                by_cases e : x = t
                · subst e; exact hb.out
                · exact hno.out hf x (by omega)
              case measure => simp [intOf]; omega
            | true =>
              have hbo : both r t s = true := both_iff.2 ⟨hts, hst⟩
              have hnum := Lib.hid (hsame.out t (by omega) hbo)
              have hrf : rep r s = false := by
                rw [Bool.eq_false_iff]; intro h
                rw [rep_iff.1 h t htl] at hbo; cases hbo
              have hrf' := Lib.hid hrf
              rw [hts] at yts
              clear hst hts hbo hrf
              go_wp2
              go_round
              case rel => exact ⟨t + 1, true, by omega, by go_num, by simp only [numV, if_true]; rw [hnum.out], Lib.hid (fun h => by cases h), Lib.hid (fun _ => hrf'.out)⟩
              case measure => simp [intOf]; omega
        · obtain rfl : t = s := by omega
          have hval : numV f (cnt r t) (num r t) = num r t := by
            cases f with
            | true => rfl
            | false => exact (num_rep hP'.out hlt (rep_iff.2 (hno.out rfl))).symm
          rw [hval]
          have hxc : num r t ≤ cnt r t := by have : num r t < cnt r (t + 1) := hnl; omega
          obtain ⟨i0, hi, hz0, hz1, hz2⟩ := info_parts put_info
          have hi' := Lib.hid hi; have hz0' := Lib.hid hz0; have hz1' := Lib.hid hz1; have hz2' := Lib.hid hz2
          have own0 := hI.out.ci.fam.owns 0
          rw [hv0.out, show xsAt r t 0 = numL r t from rfl, numL_len] at own0
          have own0' := Lib.hid own0
          have hne : ∀ k, k < mb + 1 + 1 → (Value.slice na t nc).ownBlock ≠ some k := fun k hk hh => by have := (own0.lt k hh).1; omega
          have hne' := Lib.hid hne
          have hnx := Lib.hid (show ∀ w', ClInv w w' (mb + 1) mb A.heap.size mb N r (.slice (some ⟨g, 0, none⟩) N gcap) rvs (t + 1) (nextV vs (num r t) .nilIface .nilIface) → True from fun _ _ => trivial)
          clear hi hz0 hz1 hz2 own0 hne hval hno hyes hnx
          have hxdef := Lib.hid (show num r t = num r t from rfl)
          obtain ⟨x, hx⟩ : ∃ x, num r t = x := ⟨_, rfl⟩
          have hx' := Lib.hid hx
          rw [hx] at hxc ⊢
          clear hx hxdef hnat' hrow' hsame hnl
          go_upto_region 13 with (at_builtin; (refine wpList_append_lies _ rfl _ _ _ rfl (mb + 1 + 1) 2 i0 (.int .i64 0) 1 8 Try.underlying25 hi'.out hz0'.out hz1'.out hz2'.out rfl (by omega) (.slice na t nc) t _ rfl (own0'.out.alloc _) ⟨wo.heap.size, 0, none⟩ 1 1 [.int .i64 (x : Int)] rfl rfl (one_new _ _ _) (by simp [Value.oneCell']) (by omega) (by unfold maxLen; omega) (by omega) (by simp; omega) (wo.heap.size + 1) (by simp) ?_); intro ga ca w5 hown5 hgr5 hat5 hlt5; have hX5 : Blk w5 (mb + 1) _ _ := (hgr5.block (mb + 1) (by simp; omega) (fun e => hne'.out _ (by omega) e.symm)).trans (hX.alloc _); have fx1 := hX5.frozen 1; have cx1 := hX5.cell 1; simp only [List.getElem?_toArray, List.getElem?_cons_zero, List.getElem?_cons_succ] at cx1)
          have C1 := ((hI.out.ci.keep (below1 wo (.cells #[.int .i64 (x : Int)] 2))).grow 0 (v' := .slice (some ⟨ga, 0, none⟩) (t + 1) ca) (ys := numL r t ++ [(x : Int)]) (by rw [hv0.out]; exact hgr5) (by rw [List.length_append, numL_len]; simpa [ints] using hown5) (by
            rw [hv0.out]
            rcases hat5 with h | h
            · exact Or.inl h.symm
            · exact Or.inr ⟨ga, rfl, by rw [h]; simp⟩)).set ⟨mb + 1, 1, none⟩ (.slice (some ⟨ga, 0, none⟩) (t + 1) ca) (by show w.heap.size ≤ mb + 1; omega) (Or.inr (by show mb ≤ mb + 1; omega)) (by show mb + 1 ≠ mb; omega) (by show mb + 1 < mb + 1 + 1; omega)
          have hZ5 : Blk w5 (w.heap.size + 1) _ _ := (hgr5.block (w.heap.size + 1) (by have := hZ.lt; simp; omega) (fun e => hne'.out _ (by omega) e.symm)).trans (hZ.alloc _)
          have hZV := hZ5.setOther (a := ⟨mb + 1, 1, none⟩) (by simp; omega) (.slice (some ⟨ga, 0, none⟩) (t + 1) ca)
          have hXV := hX5.set 1 (.slice (some ⟨ga, 0, none⟩) (t + 1) ca)
          simp only [List.setIfInBounds_toArray, List.set_cons_succ, List.set_cons_zero] at hXV
          clear hgr5 hown5 hat5 hX5 fx1 cx1 hZ5 hX hZ x0 x1 x2 hlt5 hsb hne' own0'
          generalize w5.setCell ⟨mb + 1, 1, none⟩ (.slice (some ⟨ga, 0, none⟩) (t + 1) ca) = V at *
          have y2 := hXV.cell 2
          simp only [List.getElem?_toArray, List.getElem?_cons_zero, List.getElem?_cons_succ] at y2
          have hVb := hXV.lt
          have hC1 := Lib.hid C1
          have own2 := C1.fam.owns (x + 1)
          simp only [Nat.add_one_ne_zero, if_false] at own2
          have hrowx := (C1.fam.own (x + 1)).row
          simp only [Nat.add_one_ne_zero, if_false] at hrowx
          obtain ⟨hLm, oa, oc, hov⟩ := (show Ints V (vs (x + 1)) (xsAt r t (x + 1)) from hrowx).len
          have hLx : (xsAt r t (x + 1)).length ≤ t := by simp only [xsAt, Nat.add_one_ne_zero, if_false]; exact sel_len _ _
          have hlk0 := lookup_dense (P := Try.prog) (w := V.drew) C1.dense Try.underMap Try.underKey (by kernel_rfl) x
          have hlkA := fun o => lookup_dense (P := Try.prog) (w := (V.alloc o).drew) (C1.dense.keep (below1 V o).drew) Try.underMap Try.underKey (by kernel_rfl) x
          rw [valsOf_getD vs _ x hI.out.nil, hov] at hlk0
          simp only [valsOf_getD vs _ x hI.out.nil, hov] at hlkA
          rw [hov] at own2
          have own2' := Lib.hid own2
          have hdn := Lib.hid C1.dense
          obtain ⟨L, hL⟩ : ∃ L, (xsAt r t (x + 1)).length = L := ⟨_, rfl⟩
          rw [hL] at hlk0 hlkA own2' hov hLx
          have hL' := Lib.hid hL
          have hov' := Lib.hid hov
          have hneV : ∀ k, k < mb + 1 + 1 → (Value.slice oa L oc).ownBlock ≠ some k := fun k hk hh => by have := (own2'.out.lt k hh).1; omega
          have hneV' := Lib.hid hneV
          clear own2 hrowx hLm hL hov C1 hneV
          go_upto_region 13 with fail
          go_region_law (first
            | (refine step_append_lies _ (by rfl) _ _ _ (by rfl) (mb + 1 + 1) 2 i0 (.int .i64 0) 1 8 Try.underlying25 hi'.out hz0'.out hz1'.out hz2'.out rfl (by omega) (.slice oa L oc) L _ (by rfl) ((own2'.out.alloc _).drew) ⟨V.heap.size, 0, none⟩ 1 1 [.int .i64 (t : Int)] (by rfl) (by rfl) (one_new _ _ _) (by simp [Value.oneCell']) (by omega) (by unfold maxLen; omega) (by omega) (by simp; omega) (V.heap.size + 1) (by simp) ?_; intro gb cb w7 hown7 hgr7 hat7 hlt7; have hy7 : w7.cell? ⟨mb + 1, 2, none⟩ = some (.map (some mb)) := hgr7.cell (a := ⟨mb + 1, 2, none⟩) ((World.cell?_alloc_past _ _ _ hVb).trans y2) (fun e => hneV'.out (mb + 1) (by omega) e.symm); have hmu := update_dense (P := Try.prog) (hdn.out.block ((hgr7.block mb (by simp; omega) (fun e => hneV'.out _ (by omega) e.symm)).trans (Below.heap_alloc V _ mb (by omega)))) Try.underMap Try.underKey x (by rw [valsOf_len]; exact hxc) (.slice (some ⟨gb, 0, none⟩) (L + 1) cb)))
          all_goals
            go_wp2
            go_roundw
            case rel =>
              have e := hx'.out
              obtain ⟨R1, R2, R3⟩ := cl_round hP'.out hlt hI.out.nil (by rw [e]; exact hC1.out) (by rw [e]; exact hL'.out) (by rw [e]; exact hov'.out) _ (by rw [e]; exact hown7) hgr7 hat7
              rw [e] at R1 R2 R3
              exact ⟨t + 1, _, _, _, by omega, by go_num, (R2 (mb + 1) (by omega) (by omega)).trans hXV, (R2 (w.heap.size + 1) (by omega) (by omega)).trans hZV, Lib.hid R1, Lib.hid (by simp [nextV]), R3⟩
            case measure => simp [intOf]; omega
    · obtain rfl : s = N := by omega
      have z00 := hZ.cell 0
      have z01 := hZ.cell 1
      have z02 := hZ.cell 2
      have f00 := hZ.frozen 0
      have f01 := hZ.frozen 1
      have f02 := hZ.frozen 2
      simp only [List.getElem?_toArray, List.getElem?_cons_zero, List.getElem?_cons_succ] at z00 z01 z02
      go_wp2
      refine bodyPost_ret (v := .agg #[.slice (some ⟨g, 0, none⟩) s gcap, .slice na s nc, .map (some mb)]) (by simp [results, Try.results149, go_sem, z00, z01, z02]) rfl ?_
      refine ⟨_, na, nc, mb, mb + 1, A.heap.size, mb, rvs, vs, rfl, ⟨((hI.out.ci.set _ _ ?_ ?_ ?_ ?_).set _ _ ?_ ?_ ?_ ?_).set _ _ ?_ ?_ ?_ ?_, hI.out.nil⟩, hv0.out, by omega, Nat.le_refl _, by omega, by simpa [World.setCell] using hsb⟩
      all_goals (simp only; omega)
end Go.Proofs.Ytkebfnmepbblnaa
