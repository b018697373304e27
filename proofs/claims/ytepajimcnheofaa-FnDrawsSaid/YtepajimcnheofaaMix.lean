/- The chain that mixes two, of the specification. Conditions: both are valid and have the same states. -/
import Derived.Test.YtepajimcnheofaaMake
import Derived.Deep.AppendLies
import Derived.Deep.RegionHeld3
namespace Go.Proofs.Ytepajimcnheofaa
open Go.RowKit Go.Deep

def mixF (c d : Ch) (s t : Nat) : Int := (c.w.getD s []).getD t 0 * d.t + (d.w.getD s []).getD t 0 * c.t
def mixCh (c d : Ch) : Ch := ⟨c.n, 2 * c.t * d.t, rowsOf c.n.toNat (mixF c d)⟩

theorem wrap_id {x : Int} (h : -9223372036854775808 ≤ x ∧ x ≤ 9223372036854775807) : IntKind.i64.wrap x = x := by rw [IntKind.wrap_i64]; omega
theorem mul_bd {x y a b : Int} (hx : 0 ≤ x) (hxa : x ≤ a) (hy : 0 ≤ y) (hyb : y ≤ b) : 0 ≤ x * y ∧ x * y ≤ a * b :=
  ⟨Int.mul_nonneg hx hy, Int.mul_le_mul hxa hyb hy (by omega)⟩

set_option maxRecDepth 100000 in
set_option maxHeartbeats 8000000 in
theorem l01Mixed_any (b1 b2 : Nat) (c d : Ch) (w : World) (hc : ChP w b1 c) (hd : ChP w b2 d) (oc : chOk c = true) (od : chOk d = true) (hn : d.n = c.n) :
    Calls Try.prog 58 #[.pointer (some ⟨b1, 0, none⟩), .pointer (some ⟨b2, 0, none⟩)] w fun e w' => ∃ cv, e = .returned cv ∧ ChOwn 37 2 w' w.heap.size w'.heap.size cv (mixCh c d) ∧ Below w.heap.size w w' := by
  obtain ⟨n1, n2, t1, t2, hlen, hrows⟩ := chOk_all oc
  obtain ⟨m1, m2, u1, u2, hlen2, hrows2⟩ := chOk_all od
  have e1 := Lib.hid hlen; have e2 := Lib.hid hlen2; have e3 := Lib.hid hn
  have r1 := Lib.hid hrows; have r2 := Lib.hid hrows2
  have B1 := below1 w (.cells #[.int .i64 0, .int .i64 0, .slice none 0 0] 26)
  have hA := Blk.new w #[.int .i64 0, .int .i64 0, .slice none 0 0] 26
  have Pc := hc.keep B1
  have Pd := hd.keep B1
  obtain ⟨vc, c0, c1, c2, Rc⟩ := Pc
  obtain ⟨vd, d0, d1, d2, Rd⟩ := Pd
  clear hlen hlen2 hn hrows hrows2 oc od hc hd
  have hp1 : 0 ≤ 2 * c.t := by omega
  have hp2 : 2 * c.t ≤ 120 := by omega
  have hp3 : 0 ≤ 2 * c.t * d.t := Int.mul_nonneg hp1 (by omega)
  have hp4 : 2 * c.t * d.t ≤ 7200 := by
    have := Int.mul_le_mul hp2 u2 (by omega) (by omega)
    omega
  have l1 := block_lt c0
  have l2 := block_lt d0
  simp only at l1 l2
  have hw1 : IntKind.i64.wrap (2 * c.t) = 2 * c.t := wrap_id (by omega)
  have hw2 : IntKind.i64.wrap (2 * c.t * d.t) = 2 * c.t * d.t := wrap_id (by omega)
  obtain ⟨N, hN⟩ : ∃ N : Nat, c.n = N := ⟨c.n.toNat, by omega⟩
  have hNl : N = c.w.length := by have := e1.out; omega
  have hNl2 : N = d.w.length := by have := e2.out; have := e3.out; omega
  obtain ⟨oc, kc, ccap, rc, rfl, lc, Rc'⟩ := Rc.at (by omega)
  obtain ⟨od, kd, dcap, rd, rfl, ld, Rd'⟩ := Rd.at (by omega)
  have Rc1 := Lib.hid Rc'
  have Rd1 := Lib.hid Rd'
  have hNl' := Lib.hid hNl
  have hNl2' := Lib.hid hNl2
  have hN' := Lib.hid hN
  have hsz0 := Lib.hid (show (w.alloc (.cells #[.int .i64 0, .int .i64 0, .slice none 0 0] 26)).heap.size = w.heap.size + 1 by simp)
  clear Rc' Rd' hNl hNl2 hN Rc Rd
  go_enter Try.func58, Try.ntmps58
  go_wp2_with fail
  go_region_held3 (fun w' => w'.cell? ⟨b1, 0, none⟩ = some (.int .i64 c.n) ∧ w'.cell? ⟨b1, 1, none⟩ = some (.int .i64 c.t) ∧ w'.cell? ⟨b2, 1, none⟩ = some (.int .i64 d.t)) (go_keep) (first | fail)
  clear hw1 hw2
  go_wp2
  have hW0 := below1 (w.alloc (.cells #[.int .i64 0, .int .i64 0, .slice none 0 0] 26)) (.cells #[.int .i64 c.n, .int .i64 (2 * c.t * d.t), .slice none 0 0] 26)
  have hC : Blk (((w.alloc (.cells #[.int .i64 0, .int .i64 0, .slice none 0 0] 26)).alloc (.cells #[.int .i64 c.n, .int .i64 (2 * c.t * d.t), .slice none 0 0] 26)).drew) (w.heap.size + 1) #[.int .i64 c.n, .int .i64 (2 * c.t * d.t), .slice none 0 0] 26 := by
    have := Blk.new (w.alloc (.cells #[.int .i64 0, .int .i64 0, .slice none 0 0] 26)) #[.int .i64 c.n, .int .i64 (2 * c.t * d.t), .slice none 0 0] 26
    rw [hsz0.out] at this
    exact this
  have hb0 : Below (w.alloc (.cells #[.int .i64 0, .int .i64 0, .slice none 0 0] 26)).heap.size (w.alloc (.cells #[.int .i64 0, .int .i64 0, .slice none 0 0] 26)) (((w.alloc (.cells #[.int .i64 0, .int .i64 0, .slice none 0 0] 26)).alloc (.cells #[.int .i64 c.n, .int .i64 (2 * c.t * d.t), .slice none 0 0] 26)).drew) := hW0.drew
  have hsz1 := Lib.hid (show (((w.alloc (.cells #[.int .i64 0, .int .i64 0, .slice none 0 0] 26)).alloc (.cells #[.int .i64 c.n, .int .i64 (2 * c.t * d.t), .slice none 0 0] 26)).drew).heap.size = w.heap.size + 2 by simp [World.drew])
  generalize (((w.alloc (.cells #[.int .i64 0, .int .i64 0, .slice none 0 0] 26)).alloc (.cells #[.int .i64 c.n, .int .i64 (2 * c.t * d.t), .slice none 0 0] 26)).drew) = W at *
  generalize w.alloc (.cells #[.int .i64 0, .int .i64 0, .slice none 0 0] 26) = V at *
  go_loopw [6] (fun i wr => ∃ (k : Nat) (a : Option Addr) (cap : Nat) (rvs : List Value), k ≤ N ∧ i = .int .i64 k ∧ Blk wr (w.heap.size + 1) #[.int .i64 c.n, .int .i64 (2 * c.t * d.t), .slice a k cap] 26 ∧
      MadeTo wr (w.heap.size + 2) wr.heap.size (.slice a k cap) rvs ((List.range k).map fun s => (List.range N).map fun j => mixF c d s j) ∧ Below V.heap.size V wr ∧ w.heap.size + 2 ≤ wr.heap.size) (fun i _ => N - (intOf i).toNat)
  case atStart => exact ⟨0, none, 0, [], Nat.zero_le _, rfl, hC, by simpa using MadeTo.start W (w.heap.size + 2), hb0, by have := hsz1.out; omega⟩
  case round =>
    obtain ⟨wo, rfl⟩ : ∃ wo : World, wo = wr := ⟨_, rfl⟩
    obtain ⟨k, a, cap, rvs, hk, rfl, hC1, hM, hb1, hs1⟩ := hrel
    have hM' := Lib.hid hM
    clear hM
    have c0o := (hb1.cell (p := ⟨b1, 0, none⟩) l1).trans c0
    by_cases hlt : k < N
    · have hkn : (k : Int) < c.n := by have := hN'.out; omega
      have hkc : k < c.w.length := by have := hNl'.out; omega
      have hkd : k < d.w.length := by have := hNl2'.out; omega
      -- the two rows, and what is read beside them
      obtain ⟨xc, hrc⟩ := Rc1.out k hkc
      obtain ⟨xd, hrd⟩ := Rd1.out k hkd
      obtain ⟨p1, p2, _⟩ := okRow_all (r1.out _ (getD_mem (d := []) hkc))
      obtain ⟨p3, p4, _⟩ := okRow_all (r2.out _ (getD_mem (d := []) hkd))
      have hmx := Lib.hid (show ∀ j, mixF c d k j = (c.w.getD k []).getD j 0 * d.t + (d.w.getD k []).getD j 0 * c.t from fun _ => rfl)
      generalize c.w.getD k [] = rowc at hrc p1 p2 hmx
      generalize d.w.getD k [] = rowd at hrd p3 p4 hmx
      generalize rc k = vrc at xc hrc
      generalize rd k = vrd at xd hrd
      obtain ⟨ob, oo, occ, rfl, olt, hxc⟩ := hrc.at (by omega)
      obtain ⟨pb, po, pcc, rfl, plt, hxd⟩ := hrd.at (by omega)
      have lcN : (rowc.length : Int) = N := by have := hN'.out; omega
      have ldN : (rowd.length : Int) = N := by have := hN'.out; have := e3.out; omega
      have lcN' := Lib.hid lcN
      have ldN' := Lib.hid ldN
      have hxc' := Lib.hid hxc
      have hxd' := Lib.hid hxd
      have p2' := Lib.hid p2
      have p4' := Lib.hid p4
      have hbo := hb1.size
      clear hxc hxd p1 p2 p3 p4 lcN ldN hrc hrd
      go_wp2
      go_loopw [7, 8] (fun v i wr => ∃ (j : Nat) (g gc : Nat), j ≤ N ∧ i = .int .i64 j ∧ v = .slice (some ⟨g, 0, none⟩) j gc ∧ wr.ownsRow wo.heap.size 2 1 (.slice (some ⟨g, 0, none⟩) j gc) j (ints ((List.range j).map fun j => mixF c d k j)) ∧ Below wo.heap.size wo wr) (fun _ i _ => N - (intOf i).toNat)
      case atStart =>
        exact ⟨0, _, _, Nat.zero_le _, rfl, rfl, by simpa using World.ownsRow_made wo #[] 0 (Nat.le_refl _) (Nat.zero_le _) (by simp), below1 _ _⟩
      case round =>
        obtain ⟨j, g, gc, hj, rfl, rfl, hown, bel⟩ := hrel
        have bel0 : Below V.heap.size V wr := hb1.trans (bel.mono hbo)
        have q0 := (bel0.cell (p := ⟨b1, 0, none⟩) l1).trans c0
        by_cases hjlt : j < N
        · have hjn : (j : Int) < c.n := by have := hN'.out; omega
          have q1 := (bel0.cell (p := ⟨b1, 1, none⟩) l1).trans c1
          have q2 := (bel0.cell (p := ⟨b1, 2, none⟩) l1).trans c2
          have q3 := (bel0.cell (p := ⟨b2, 1, none⟩) l2).trans d1
          have q4 := (bel0.cell (p := ⟨b2, 2, none⟩) l2).trans d2
          have q5 := (bel0.cell (p := ⟨oc, kc + k, none⟩) lc).trans xc
          have q6 := (bel0.cell (p := ⟨od, kd + k, none⟩) ld).trans xd
          have q7 := (bel0.cell (p := ⟨ob, oo + j, none⟩) olt).trans (hxc'.out j (by have := lcN'.out; omega))
          have q8 := (bel0.cell (p := ⟨pb, po + j, none⟩) plt).trans (hxd'.out j (by have := ldN'.out; omega))
          have g7 := hxc'.out j (by have := lcN'.out; omega)
          have g8 := hxd'.out j (by have := ldN'.out; omega)
          have w1 := p2'.out _ (getD_mem (d := 0) (show j < rowc.length by have := lcN'.out; omega))
          have w2 := p4'.out _ (getD_mem (d := 0) (show j < rowd.length by have := ldN'.out; omega))
          have hts := range_map_succ (fun j => mixF c d k j) j
          rw [hmx.out j] at hts
          have hts' := Lib.hid hts
          have kc1 : (k : Int) < (c.w.length : Int) := by omega
          have kd1 : (k : Int) < (d.w.length : Int) := by omega
          have jc1 : (j : Int) < (rowc.length : Int) := by have := lcN'.out; omega
          have jd1 : (j : Int) < (rowd.length : Int) := by have := ldN'.out; omega
          clear hts
          generalize rowc.getD j 0 = x at q7 w1 hts' g7
          generalize rowd.getD j 0 = y at q8 w2 hts' g8
          have hS := Lib.hid (fun (w' : World) (h : Below V.heap.size V w') => show w'.cell? ⟨b1, 1, none⟩ = some (.int .i64 c.t) ∧ w'.cell? ⟨b1, 2, none⟩ = some (.slice (some ⟨oc, kc, none⟩) c.w.length ccap) ∧ w'.cell? ⟨b2, 1, none⟩ = some (.int .i64 d.t) ∧ w'.cell? ⟨b2, 2, none⟩ = some (.slice (some ⟨od, kd, none⟩) d.w.length dcap) ∧
              w'.cell? ⟨oc, kc + k, none⟩ = some (.slice (some ⟨ob, oo, none⟩) rowc.length occ) ∧ w'.cell? ⟨od, kd + k, none⟩ = some (.slice (some ⟨pb, po, none⟩) rowd.length pcc) ∧ w'.cell? ⟨ob, oo + j, none⟩ = some (.int .i64 x) ∧ w'.cell? ⟨pb, po + j, none⟩ = some (.int .i64 y) from ⟨(h.cell (p := ⟨b1, 1, none⟩) l1).trans c1, (h.cell (p := ⟨b1, 2, none⟩) l1).trans c2, (h.cell (p := ⟨b2, 1, none⟩) l2).trans d1, (h.cell (p := ⟨b2, 2, none⟩) l2).trans d2, (h.cell (p := ⟨oc, kc + k, none⟩) lc).trans xc, (h.cell (p := ⟨od, kd + k, none⟩) ld).trans xd, (h.cell (p := ⟨ob, oo + j, none⟩) olt).trans g7, (h.cell (p := ⟨pb, po + j, none⟩) plt).trans g8⟩)
          clear g7 g8
          obtain ⟨x0, x1⟩ := w1
          obtain ⟨y0, y1⟩ := w2
          have v1 := mul_bd x0 (Int.le_trans x1 t2) (show 0 ≤ d.t by omega) u2
          have v2 := mul_bd y0 (Int.le_trans y1 u2) (show 0 ≤ c.t by omega) t2
          have z1 : IntKind.i64.wrap (x * d.t) = x * d.t := wrap_id (by omega)
          have z2 : IntKind.i64.wrap (y * c.t) = y * c.t := wrap_id (by omega)
          have z3 : IntKind.i64.wrap (x * d.t + y * c.t) = x * d.t + y * c.t := wrap_id (by omega)
          have hsz := bel.size
          have s1 : b1 < wr.heap.size := by have := bel0.size; omega
          have s2 : b2 < wr.heap.size := by have := bel0.size; omega
          have s3 : oc < wr.heap.size := by have := bel0.size; omega
          have s4 : od < wr.heap.size := by have := bel0.size; omega
          have s5 : ob < wr.heap.size := by have := bel0.size; omega
          have s6 : pb < wr.heap.size := by have := bel0.size; omega
          obtain ⟨i0, hi, hz0, hz1, hz2⟩ := info_parts Try.infoI
          have hi' := Lib.hid hi; have hz0' := Lib.hid hz0; have hz1' := Lib.hid hz1; have hz2' := Lib.hid hz2
          have hNs : N ≤ 6 := by have := hN'.out; omega
          clear hi hz0 hz1 hz2 v1 v2 c0 c1 c2 d0 d1 d2 c0o xc xd
          go_wp2_with fail
          go_region_held3 (fun w' => w'.cell? ⟨b1, 1, none⟩ = some (.int .i64 c.t) ∧ w'.cell? ⟨b1, 2, none⟩ = some (.slice (some ⟨oc, kc, none⟩) c.w.length ccap) ∧ w'.cell? ⟨b2, 1, none⟩ = some (.int .i64 d.t) ∧ w'.cell? ⟨b2, 2, none⟩ = some (.slice (some ⟨od, kd, none⟩) d.w.length dcap) ∧
              w'.cell? ⟨oc, kc + k, none⟩ = some (.slice (some ⟨ob, oo, none⟩) rowc.length occ) ∧ w'.cell? ⟨od, kd + k, none⟩ = some (.slice (some ⟨pb, po, none⟩) rowd.length pcc) ∧ w'.cell? ⟨ob, oo + j, none⟩ = some (.int .i64 x) ∧ w'.cell? ⟨pb, po + j, none⟩ = some (.int .i64 y))
            (first | go_keep | exact hS.out _ hb3)
            ((refine step_append_lies _ (by rfl) _ _ _ (by rfl) wo.heap.size 2 i0 (.int .i64 0) 1 8 Try.underlying37 hi'.out hz0'.out hz1'.out hz2'.out rfl (by omega) (.slice (some ⟨g, 0, none⟩) j gc) j _ (by rfl) ((hown.alloc _).drew)
                ⟨wr.heap.size, 0, none⟩ 1 1 [.int .i64 (x * d.t + y * c.t)] (by rfl) (by rfl) (one_new _ _ _) (by simp [Value.oneCell']) (by omega) (by unfold maxLen; omega) (by omega) (by simp; omega) (wr.heap.size + 1) (by simp) ?_; intro gg cap2 w3 hown3 hgrow hat hlt3; have bel3 : Below wo.heap.size wo w3 := ((bel.alloc hsz _).drew).grown hgrow (by simp; omega) (fun k' hk' => (hown.lt k' hk').1); have hb3 := hb1.trans (bel3.mono hbo)))
          go_wp2
          go_roundw
          case rel =>
            refine ⟨j + 1, gg, cap2, by omega, by go_num, rfl, ?_, bel3⟩
            rw [hts'.out]
            simpa [ints] using hown3
          case measure => simp [intOf]; omega
        · obtain rfl : j = N := by omega
          have hjn : ¬ ((j : Int) < c.n) := by have := hN'.out; omega
          obtain ⟨i1, ki, kz0, kz1, kz2⟩ := info_parts Try.infoR
          have ki' := Lib.hid ki; have kz0' := Lib.hid kz0; have kz1' := Lib.hid kz1; have kz2' := Lib.hid kz2
          have hsz := bel.size
          have hNs : j ≤ 6 := by have := hN'.out; omega
          have hrow : Own wr wo.heap.size wr.heap.size 2 _ (ints ((List.range j).map fun i => mixF c d k i)) := Own.of hown (Nat.le_refl _)
          have hrow' := Lib.hid hrow
          have hM := hM'.out
          have hMown : wr.ownsRow (w.heap.size + 2) 37 1 (.slice a k cap) k rvs := by
            have h1 := hM.own
            simp only [List.length_map, List.length_range] at h1
            refine ⟨h1.1, ?_⟩
            rcases h1.2 with h0 | ⟨g, cap, cur, hv, hgg, hh, r⟩
            · exact Or.inl h0
            · exact Or.inr ⟨g, cap, cur, hv, hgg, by rw [bel.block g (Array.getElem?_eq_some_iff.1 hh).1]; exact hh, r⟩
          have hC2 := hC1.keep bel hC1.lt
          have q2 : wr.cell? ⟨w.heap.size + 1, 2, none⟩ = some (.slice a k cap) := hC2.cell 2
          have ltC := hC2.lt
          have q2' : ∀ o, (wr.alloc o).cell? ⟨w.heap.size + 1, 2, none⟩ = some (.slice a k cap) := fun o => (World.cell?_alloc_past _ _ _ ltC).trans q2
          have hne : ∀ k', k' < w.heap.size + 2 → (Value.slice a k cap).ownBlock ≠ some k' := fun k' hk' hh => by have := (ownsRow_type hMown hh).1; omega
          have hne' := Lib.hid hne
          have hVs := Lib.hid (show V.heap.size = w.heap.size + 1 from hsz0.out)
          clear hM hrow hown hne ki kz0 kz1 kz2 c0 c1 c2 d0 d1 d2 c0o xc xd
          go_wp2_with (at_builtin; (refine wpList_append_own _ rfl _ _ 22 rfl (w.heap.size + 2) 37 i1 (.slice none 0 0) 1 24 Try.underlying22 ki'.out kz0'.out kz1'.out kz2'.out rfl (by decide) _ _ _ rfl (hMown.alloc _) ⟨wr.heap.size, 0, none⟩ 1 1 [.slice (some ⟨g, 0, none⟩) j gc] rfl rfl (one_new _ _ _) (by simp [Value.oneCell']) (by unfold maxLen; omega) (by omega) (by simp; omega) ?_); intro v' w2 hown2 hgr2 _; obtain ⟨g2, c2, rfl⟩ := ownsRow_shape hown2 (by omega); have hC3 : Blk w2 (w.heap.size + 1) _ _ := (hgr2.block (w.heap.size + 1) (by simp; omega) (fun e => hne'.out _ (by omega) e.symm)).trans (hC2.alloc _); have hf3 := hC3.frozen 2; have hc3 := hC3.cell 2; simp at hc3)
          go_roundw
          case rel =>
            have hg2 := hgr2.size
            simp at hg2
            have res := MadeTo.step (v' := .slice (some ⟨g2, 0, none⟩) (k + 1) c2) (a := ⟨w.heap.size + 1, 2, none⟩) hM'.out bel hrow'.out (by omega) _ (by simpa using hown2) hgr2 (by show w.heap.size + 1 < w.heap.size + 2; omega) (.slice (some ⟨g2, 0, none⟩) (k + 1) c2)
            refine ⟨k + 1, some ⟨g2, 0, none⟩, c2, rvs ++ [.slice (some ⟨g, 0, none⟩) j gc], by omega, by go_num, ?_, ?_, ?_, by simp [World.setCell]; omega⟩
            · have := hC3.set 2 (.slice (some ⟨g2, 0, none⟩) (k + 1) c2)
              simpa using this
            · rw [range_map_succ]
              exact res
            · refine Below.setCell ?_ (by show V.heap.size ≤ w.heap.size + 1; have := hVs.out; omega) _
              exact ((hb1.trans (bel.mono hbo)).alloc (by omega) _).grown hgr2 (by simp; omega) (fun k' hk' => by have := (ownsRow_type hMown hk').1; have := hVs.out; omega)
          case measure => simp [intOf]; omega
    · obtain rfl : k = N := by omega
      have hkn : ¬ ((k : Int) < c.n) := by have := hN'.out; omega
      have hA1 := hA.keep hb1 hA.lt
      have f10 := hA1.frozen 0
      have f11 := hA1.frozen 1
      have f12 := hA1.frozen 2
      have c10 := hA1.cell 0
      have c11 := hA1.cell 1
      have c12 := hA1.cell 2
      have c20 := hC1.cell 0
      have c21 := hC1.cell 1
      have c22 := hC1.cell 2
      simp at c10 c11 c12 c20 c21 c22
      have ll := hC1.lt
      clear c0 c1 c2 d0 d1 d2
      go_wp2
      refine bodyPost_ret (v := .agg #[.int .i64 c.n, .int .i64 (2 * c.t * d.t), .slice a k cap]) (by simp [results, Try.results58, go_sem, c10, c11, c12]) rfl ?_
      have hown := hM'.out.done
      have hres : mixCh c d = ⟨c.n, 2 * c.t * d.t, rowsOf k (mixF c d)⟩ := by unfold mixCh; rw [hN'.out]; rfl
      have hBw : Below w.heap.size w wo := below_wt B1 hb1
      refine ⟨_, rfl, ?_, ((hBw.setCell ?_ _).setCell ?_ _).setCell ?_ _⟩
      · rw [hres]
        refine ⟨_, rfl, (hown.same ((((SameOn.refl _ _ _).set ?_ _).set ?_ _).set ?_ _)).wide (by omega) (by simp [World.setCell])⟩
        all_goals (simp only; omega)
      all_goals (simp only; omega)
end Go.Proofs.Ytepajimcnheofaa
