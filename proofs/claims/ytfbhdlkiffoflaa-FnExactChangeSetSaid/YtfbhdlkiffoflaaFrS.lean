/- Neighbours and free colours in the specification. Conditions: the graph is valid, and there is a colour for each node. -/
import Derived.Test.YtfbhdlkiffoflaaIcS
namespace Go.Proofs.Ytfbhdlkiffoflaa
open Go.RowKit Go.Deep
set_option linter.unusedVariables false

def nearP (a b : Int) (p : Int × Int) : Bool := (decide (p.1 = a) && decide (p.2 = b)) || (decide (p.1 = b) && decide (p.2 = a))
def nearB (ps : List (Int × Int)) (a b : Int) : Bool := ps.any (nearP a b)

set_option maxRecDepth 100000 in
set_option maxHeartbeats 8000000 in
theorem l08Near_any (bp : Nat) (g : Gr) (a b : Int) (w : World) (hg : GrP w bp g) (hok : grOk g = true) :
    Calls Try.prog 79 #[.pointer (some ⟨bp, 0, none⟩), .int .i64 a, .int .i64 b] w fun e w' => e = .returned (.bool (nearB (edgesOf g.e) a b)) ∧ w = w' := by
  have hedge := Lib.hid (fun k (hk : k < g.e.length) => edgeB_facts (grOk_edge hok hk))
  obtain ⟨gv, g0, g1, hr⟩ := hg
  obtain ⟨n, xss⟩ := g
  simp only at g0 g1 hr hedge ⊢
  obtain ⟨hm, ga, gc, rfl⟩ := hr.len
  unfold maxLen at hm
  have hel := Lib.hid (edgesOf_length xss)
  go_enter Try.func79, Try.ntmps79
  go_wp2
  go_loop [7] (fun i => ∃ k : Nat, k ≤ xss.length ∧ i = .int .i64 k ∧ Hid (((edgesOf xss).take k).any (nearP a b) = false)) (fun i => xss.length - (intOf i).toNat)
  case atStart => exact ⟨0, Nat.zero_le _, rfl, show _ = _ by simp⟩
  case round =>
    obtain ⟨k, hk, rfl, ht⟩ := hrel
    by_cases hlt : k < xss.length
    · obtain ⟨eb, eo, ec, rv, hvv, hbl, hec⟩ := hr.at (by omega)
      simp only [Value.slice.injEq] at hvv
      obtain ⟨rfl, -, rfl⟩ := hvv
      obtain ⟨hcell, hrow⟩ := hec k hlt
      obtain ⟨hl2, p0, p1, p2⟩ := hedge.out k hlt
      obtain ⟨rb, ro, rc, hrv, hrb, hrc⟩ := hrow.at (by omega)
      rw [hrv, hl2] at hcell
      have x0 := hrc 0 (by omega)
      have x1 := hrc 1 (by omega)
      rw [Nat.add_zero] at x0
      have hgo := Lib.hid (fun h => anyP_take_succ (p := nearP a b) (edgesOf xss) k (by rw [hel.out]; exact hlt) ht.out h)
      have hyes := Lib.hid (fun h => anyP_yes (p := nearP a b) (edgesOf xss) k (by rw [hel.out]; exact hlt) h)
      rw [edgesOf_getD xss k hlt] at hgo hyes
      clear hec hrow hrc hrv hl2 p0 p1 p2
      generalize (xss.getD k []).getD 0 0 = x at x0 hgo hyes
      generalize (xss.getD k []).getD 1 0 = y at x1 hgo hyes
      have hdef := Lib.hid (show nearP a b (x, y) = ((decide (x = a) && decide (y = b)) || (decide (x = b) && decide (y = a))) from rfl)
      have q1 : (x == a) = decide (x = a) := by by_cases h : x = a <;> simp [h]
      have q2 : (y == b) = decide (y = b) := by by_cases h : y = b <;> simp [h]
      have q3 : (x == b) = decide (x = b) := by by_cases h : x = b <;> simp [h]
      have q4 : (y == a) = decide (y = a) := by by_cases h : y = a <;> simp [h]
      generalize decide (x = a) = c1 at q1 hdef
      generalize decide (y = b) = c2 at q2 hdef
      generalize decide (x = b) = c3 at q3 hdef
      generalize decide (y = a) = c4 at q4 hdef
      rcases c1 with _ | _ <;> rcases c2 with _ | _ <;> rcases c3 with _ | _ <;> rcases c4 with _ | _
      all_goals first
        | (have hfin := Lib.hid (show nearB (edgesOf xss) a b = true from hyes.out (by rw [hdef.out]; rfl))
           go_wp2
           go_ret
           exact ⟨ret_bool hfin.out.symm, rfl⟩)
        | (have hn := Lib.hid (hgo.out (by rw [hdef.out]; rfl))
           go_wp2
           go_round
           case rel => exact ⟨k + 1, by omega, by go_num, hn⟩
           case measure => simp [intOf]; omega)
    · obtain rfl : k = xss.length := by omega
      have hfin := Lib.hid (show nearB (edgesOf xss) a b = false by have := ht.out; rw [← hel.out, List.take_length] at this; exact this)
      go_wp2
      go_ret
      exact ⟨ret_bool hfin.out.symm, rfl⟩

/-- at i the colour c is no hindrance -/
def freeAt (f : Nat → Int) (ps : List (Int × Int)) (node c : Int) (i : Nat) : Bool := !decide (f i = c) || !nearB ps node (i : Int)
def freeB (f : Nat → Int) (ps : List (Int × Int)) (n : Nat) (node c : Int) : Bool := (List.range n).all (freeAt f ps node c)
/-- the free colours below k -/
def freeL (f : Nat → Int) (ps : List (Int × Int)) (n : Nat) (node : Int) (k : Nat) : List Int := ((List.range k).filter fun (c : Nat) => freeB f ps n node (c : Int)).map fun (c : Nat) => (c : Int)
theorem freeL_succ (f : Nat → Int) (ps : List (Int × Int)) (n : Nat) (node : Int) (k : Nat) : freeL f ps n node (k + 1) = freeL f ps n node k ++ if freeB f ps n node (k : Int) then [(k : Int)] else [] := by
  unfold freeL
  rw [List.range_succ, List.filter_append, List.map_append]
  congr 1
  by_cases h : freeB f ps n node (k : Int) = true
  · simp [h]
  · simp [h]
theorem freeL_len (f : Nat → Int) (ps : List (Int × Int)) (n : Nat) (node : Int) (k : Nat) : (freeL f ps n node k).length ≤ k := by
  unfold freeL
  rw [List.length_map]
  exact Nat.le_trans (List.length_filter_le _ _) (by simp)

set_option maxRecDepth 100000 in
set_option maxHeartbeats 8000000 in
theorem l08Free_any (bp : Nat) (g : Gr) (Q : Nat) (v : Value) (xs : List Int) (node : Int) (w : World) (hg : GrP w bp g) (hv : Ints w v xs) (hok : grOk g = true) (hlen : (xs.length : Int) = g.n) (hQ : Q ≤ 4) :
    Calls Try.prog 52 #[.pointer (some ⟨bp, 0, none⟩), .int .i64 (Q : Int), v, .int .i64 node] w fun e w' => ∃ rv, e = .returned rv ∧ w'.ownsRow w.heap.size 2 1 rv (freeL (colF xs) (edgesOf g.e) xs.length node Q).length (ints (freeL (colF xs) (edgesOf g.e) xs.length node Q)) ∧ Below w.heap.size w w' := by
  have hn := grOk_nodes hok
  have hNear := Lib.hid (fun b W (hW : Below w.heap.size w W) => l08Near_any bp g node b W (hg.keep hW) hok)
  obtain ⟨gv, g0, g1, hr⟩ := hg
  obtain ⟨b, off, cap, rfl, hb, hc⟩ := hv.at (by omega)
  obtain ⟨i0, hi, hz0, hz1, hz2⟩ := info_parts Try.infoI
  have hi' := Lib.hid hi; have hz0' := Lib.hid hz0; have hz1' := Lib.hid hz1; have hz2' := Lib.hid hz2
  have hc' := Lib.hid hc
  have hlen' := Lib.hid hlen
  have hl6 : xs.length ≤ 5 := by omega
  have gb := block_lt g0
  simp only at gb
  obtain ⟨n, hnn⟩ : ∃ n, g.n = n := ⟨_, rfl⟩
  rw [hnn] at g0 hlen'
  have hnl : n ≤ 5 := by omega
  have hnl' : ((xs.length : Nat) : Int) ≤ n := by have := hlen'.out; omega
  have hnl2 : n ≤ ((xs.length : Nat) : Int) := by have := hlen'.out; omega
  have g0' := Lib.hid g0
  clear hi hz0 hz1 hz2 hc hlen hn g1 hr hnn
  go_enter Try.func52, Try.ntmps52
  go_wp2
  go_loopw [9, 10] (fun ov cv wr => ∃ (c g1 gc : Nat), c ≤ Q ∧ cv = .int .i64 c ∧ ov = .slice (some ⟨g1, 0, none⟩) (freeL (colF xs) (edgesOf g.e) xs.length node c).length gc ∧ Hid (wr.ownsRow w.heap.size 2 1 (.slice (some ⟨g1, 0, none⟩) (freeL (colF xs) (edgesOf g.e) xs.length node c).length gc) (freeL (colF xs) (edgesOf g.e) xs.length node c).length (ints (freeL (colF xs) (edgesOf g.e) xs.length node c))) ∧ Hid (Below w.heap.size w wr)) (fun _ cv _ => Q - (intOf cv).toNat)
  case atStart => exact ⟨0, _, _, Nat.zero_le _, rfl, rfl, Lib.hid (by simpa [freeL] using World.ownsRow_made w #[] 0 (Nat.le_refl _) (Nat.zero_le _) (by simp)), below1 _ _⟩
  case round =>
    obtain ⟨wo, rfl⟩ : ∃ wo : World, wo = wr := ⟨_, rfl⟩
    obtain ⟨c, g1, gc, hc, rfl, rfl, hown, bel⟩ := hrel
    obtain ⟨out, hout⟩ : ∃ o, freeL (colF xs) (edgesOf g.e) xs.length node c = o := ⟨_, rfl⟩
    have hol : out.length ≤ c := by rw [← hout]; exact freeL_len _ _ _ _ _
    have hsucc := Lib.hid (freeL_succ (colF xs) (edgesOf g.e) xs.length node c)
    rw [hout] at hown hsucc ⊢
    by_cases hlt : c < Q
    · have hltI : (c : Int) < (Q : Int) := by omega
      have g0o : wo.cell? ⟨bp, 0, none⟩ = some (.int .i64 n) := (bel.out.cell (p := ⟨bp, 0, none⟩) gb).trans g0'.out
      have hfrl : (List.range xs.length).all (freeAt (colF xs) (edgesOf g.e) node c) = freeB (colF xs) (edgesOf g.e) xs.length node c := rfl
      have hfr := Lib.hid hfrl
      have hout' := Lib.hid hout
      clear hfrl hout
      go_wp2
      go_loop [11, 12] (fun fv iv => ∃ (k : Nat) (F : Bool), k ≤ xs.length ∧ iv = .int .i64 k ∧ fv = .bool F ∧ Hid (F = (List.range k).all (freeAt (colF xs) (edgesOf g.e) node c))) (fun _ iv => xs.length - (intOf iv).toNat)
      case atStart => exact ⟨0, true, Nat.zero_le _, rfl, rfl, show _ = _ by simp⟩
      case round =>
        obtain ⟨k, F, hk, rfl, rfl, hF⟩ := hrel
        by_cases hlt2 : k < xs.length
        · have hlt3 : (k : Int) < n := by omega
          have hck : wo.cell? ⟨b, off + k, none⟩ = some (.int .i64 (colF xs k)) := (bel.out.cell (p := ⟨b, off + k, none⟩) hb).trans (hc'.out k hlt2)
          have hall := Lib.hid (range_all_succ (freeAt (colF xs) (edgesOf g.e) node c) k)
          have hat := Lib.hid (show freeAt (colF xs) (edgesOf g.e) node c k = (!decide (colF xs k = c) || !nearB (edgesOf g.e) node k) from rfl)
          have hnr := hNear.out k wo bel.out
          generalize colF xs k = x at hck hat
          rcases F with _ | _
          · have hn := Lib.hid (show false = (List.range (k + 1)).all (freeAt (colF xs) (edgesOf g.e) node c) by rw [hall.out, ← hF.out]; rfl)
            clear hnr
            go_wp2
            go_round
            case rel => exact ⟨k + 1, false, by omega, by go_num, rfl, hn⟩
            case measure => simp [intOf]; omega
          · by_cases hx : x = c
            · have hn := Lib.hid (show (!nearB (edgesOf g.e) node k) = (List.range (k + 1)).all (freeAt (colF xs) (edgesOf g.e) node c) by rw [hall.out, ← hF.out, hat.out]; simp [hx])
              have hx2 : (x != (c : Int)) = false := by simpa using hx
              generalize nearB (edgesOf g.e) node k = r at hnr hn
              clear hx
              go_wp2_with fail
              (with_reducible refine hnr.mono ?_)
              rintro e w2 ⟨rfl, rfl⟩
              go_wp2
              go_round
              case rel => exact ⟨k + 1, !r, by omega, by go_num, rfl, hn⟩
              case measure => simp [intOf]; omega
            · have hn := Lib.hid (show true = (List.range (k + 1)).all (freeAt (colF xs) (edgesOf g.e) node c) by rw [hall.out, ← hF.out, hat.out]; simp [hx])
              have hx2 : (x != (c : Int)) = true := by simpa using hx
              clear hx hnr
              go_wp2
              go_round
              case rel => exact ⟨k + 1, true, by omega, by go_num, rfl, hn⟩
              case measure => simp [intOf]; omega
        · obtain rfl : k = xs.length := by omega
          have hge : ¬ ((xs.length : Nat) : Int) < n := by omega
          have hF2 := Lib.hid (hF.out.trans hfr.out)
          have hsz := bel.out.size
          rcases F with _ | _
          · have hs2 := Lib.hid (show freeL (colF xs) (edgesOf g.e) xs.length node (c + 1) = out by rw [hsucc.out, ← hF2.out]; simp)
            go_wp2
            go_roundw
            case rel => exact ⟨c + 1, g1, gc, by omega, by go_num, by rw [hs2.out], by rw [hs2.out]; exact hown, bel⟩
            case measure => simp [intOf]; omega
          · have hs2 := Lib.hid (show freeL (colF xs) (edgesOf g.e) xs.length node (c + 1) = out ++ [(c : Int)] by rw [hsucc.out, ← hF2.out]; simp)
            go_wp2_with (at_builtin; (refine wpList_append_lies _ rfl _ _ 32 rfl w.heap.size 2 i0 (.int .i64 0) 1 8 Try.underlying32 hi'.out hz0'.out hz1'.out hz2'.out rfl (by omega) (.slice (some ⟨g1, 0, none⟩) out.length gc) out.length _ rfl (hown.out.alloc _) ⟨wo.heap.size, 0, none⟩ 1 1 [.int .i64 (c : Int)] rfl rfl (one_new _ _ _) (by simp [Value.oneCell']) (by omega) (by unfold maxLen; omega) (by omega) (by simp; omega) _ rfl ?_); intro gg cap2 w3 hown3 hgrow hat3 hlt3)
            have B3 : Below w.heap.size w w3 := (bel.out.alloc hsz _).grown hgrow (by simp; omega) (fun k' hk' => (hown.out.lt k' hk').1)
            have B3' := Lib.hid B3
            clear B3
            go_roundw
            case rel => exact ⟨c + 1, gg, cap2, by omega, by go_num, by rw [hs2.out]; simp, Lib.hid (by rw [hs2.out]; simpa [ints] using hown3), B3'⟩
            case measure => simp [intOf]; omega
    · obtain rfl : c = Q := by omega
      have hout' := Lib.hid hout
      go_wp2
      go_ret
      exact ⟨_, rfl, by rw [hout'.out]; exact hown.out, bel.out⟩
end Go.Proofs.Ytfbhdlkiffoflaa
