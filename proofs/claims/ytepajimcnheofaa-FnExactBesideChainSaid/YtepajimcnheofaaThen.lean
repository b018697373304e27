/- The chain that makes a step of one and then one of the other, of the specification. Conditions: both are valid and have the same states. -/
import Derived.Test.YtepajimcnheofaaRename
import Derived.Test.YtepajimcnheofaaStay
import Derived.StillTailTactics
import Derived.Deep.DeepCutAuto
namespace Go.Proofs.Ytepajimcnheofaa
open Go.RowKit Go.Deep
set_option linter.unusedVariables false

/-- the chance's weight to go from s to j by way of the first m states -/
def psum (c d : Ch) (s j : Nat) : Nat → Int
  | 0 => 0
  | m + 1 => psum c d s j m + (c.w.getD s []).getD m 0 * (d.w.getD m []).getD j 0
def thenF (c d : Ch) (s j : Nat) : Int := psum c d s j c.n.toNat
def thenCh (c d : Ch) : Ch := ⟨c.n, c.t * d.t, rowsOf c.n.toNat (thenF c d)⟩
/-- a row under way: the first j numbers have one term more -/
def rowL (c d : Ch) (N s k j : Nat) : List Int := (List.range N).map fun t => psum c d s t (if t < j then k + 1 else k)
theorem rowL_length (c d : Ch) (N s k j : Nat) : (rowL c d N s k j).length = N := by simp [rowL]
theorem rowL_zero (c d : Ch) (N s : Nat) : rowL c d N s 0 0 = List.replicate N 0 := by
  apply List.ext_getElem <;> simp [rowL, psum]
theorem rowL_next (c d : Ch) (N s k : Nat) : rowL c d N s k N = rowL c d N s (k + 1) 0 := by
  apply List.ext_getElem
  · simp [rowL]
  · intro i h1 h2
    simp [rowL] at h1 ⊢
    simp [h1]
theorem rowL_getD (c d : Ch) (N s k j : Nat) (h : j < N) : (rowL c d N s k j).getD j 0 = psum c d s j k := by simp [rowL, List.getD, h]
theorem rowL_set (c d : Ch) (N s k j : Nat) (h : j < N) : (rowL c d N s k j).set j (psum c d s j (k + 1)) = rowL c d N s k (j + 1) := by
  apply List.ext_getElem
  · simp [rowL]
  · intro i h1 h2
    simp only [List.getElem_set, rowL, List.getElem_map, List.getElem_range]
    by_cases e : j = i
    · subst e; simp
    · rw [if_neg e]
      by_cases l : i < j
      · rw [if_pos l, if_pos (by omega)]
      · rw [if_neg l, if_neg (by omega)]
theorem rowL_done (c d : Ch) (N s : Nat) (h : c.n.toNat = N) : rowL c d N s N 0 = (List.range N).map fun j => thenF c d s j := by
  simp [rowL, thenF, h]
/-- bounds of the weights of a valid chain -/
theorem w_bd {c : Ch} (oc : chOk c = true) (s j : Nat) : 0 ≤ (c.w.getD s []).getD j 0 ∧ (c.w.getD s []).getD j 0 ≤ c.t := by
  obtain ⟨n1, n2, t1, t2, hlen, hrows⟩ := chOk_all oc
  by_cases hs : s < c.w.length
  · by_cases hj : j < (c.w.getD s []).length
    · exact (okRow_all (hrows _ (getD_mem (d := []) hs))).2.1 _ (getD_mem hj)
    · have : (c.w.getD s []).getD j 0 = 0 := by rw [List.getD_eq_getElem?_getD, List.getElem?_eq_none (by omega)]; rfl
      omega
  · have e : c.w.getD s [] = [] := by rw [List.getD_eq_getElem?_getD, List.getElem?_eq_none (by omega)]; rfl
    have : (c.w.getD s []).getD j 0 = 0 := by rw [e]; rfl
    omega
theorem psum_bd {c d : Ch} (oc : chOk c = true) (od : chOk d = true) (s j m : Nat) : 0 ≤ psum c d s j m ∧ psum c d s j m ≤ 3600 * m := by
  obtain ⟨-, -, t1, t2, -, -⟩ := chOk_all oc
  obtain ⟨-, -, u1, u2, -, -⟩ := chOk_all od
  induction m with
  | zero => simp [psum]
  | succ m ih =>
    have a := w_bd oc s m
    have b := w_bd od m j
    have := mul_bd a.1 (Int.le_trans a.2 t2) b.1 (Int.le_trans b.2 u2)
    simp only [psum]; omega

set_option maxRecDepth 100000 in
set_option maxHeartbeats 16000000 in
theorem l01Then_any (b1 b2 : Nat) (c d : Ch) (w : World) (hc : ChP w b1 c) (hd : ChP w b2 d) (oc : chOk c = true) (od : chOk d = true) (hn : d.n = c.n) :
    Calls Try.prog 67 #[.pointer (some ⟨b1, 0, none⟩), .pointer (some ⟨b2, 0, none⟩)] w fun e w' => ∃ cv, e = .returned cv ∧ ChOwn 37 2 w' w.heap.size w'.heap.size cv (thenCh c d) ∧ Below w.heap.size w w' := by
  obtain ⟨n1, n2, t1, t2, hlen, hrows⟩ := chOk_all oc
  obtain ⟨m1, m2, u1, u2, hlen2, hrows2⟩ := chOk_all od
  have e1 := Lib.hid hlen; have e2 := Lib.hid hlen2; have e3 := Lib.hid hn
  have r1 := Lib.hid hrows; have r2 := Lib.hid hrows2
  have oc' := Lib.hid oc; have od' := Lib.hid od
  have B1 := below1 w (.cells #[.int .i64 0, .int .i64 0, .slice none 0 0] 26)
  have hA := Blk.new w #[.int .i64 0, .int .i64 0, .slice none 0 0] 26
  have Pc := hc.keep B1
  have Pd := hd.keep B1
  obtain ⟨vc, c0, c1, c2, Rc⟩ := Pc
  obtain ⟨vd, d0, d1, d2, Rd⟩ := Pd
  clear hlen hlen2 hn hrows hrows2 oc od hc hd
  obtain ⟨hp3, hp4⟩ := mul_bd (show 0 ≤ c.t by omega) t2 (show 0 ≤ d.t by omega) u2
  have l1 := block_lt c0
  have l2 := block_lt d0
  simp only at l1 l2
  have hw2 : IntKind.i64.wrap (c.t * d.t) = c.t * d.t := wrap_id (by omega)
  obtain ⟨N, hN⟩ : ∃ N : Nat, c.n = N := ⟨c.n.toNat, by omega⟩
  have hN1 : 1 ≤ N := by omega
  have hN6 : N ≤ 6 := by omega
  have hNl : N = c.w.length := by have := e1.out; omega
  have hNl2 : N = d.w.length := by have := e2.out; have := e3.out; omega
  have hmk := make_len N (by omega) (by omega)
  rw [← hN] at hmk
  have hNt := Lib.hid (show c.n.toNat = N by omega)
  obtain ⟨oc, kc, ccap, rc, rfl, lc, Rc'⟩ := Rc.at (by omega)
  obtain ⟨od, kd, dcap, rd, rfl, ld, Rd'⟩ := Rd.at (by omega)
  have Rc1 := Lib.hid Rc'
  have Rd1 := Lib.hid Rd'
  have hNl' := Lib.hid hNl
  have hNl2' := Lib.hid hNl2
  have hN' := Lib.hid hN
  have hmk' := Lib.hid hmk
  have hsz0 := Lib.hid (show (w.alloc (.cells #[.int .i64 0, .int .i64 0, .slice none 0 0] 26)).heap.size = w.heap.size + 1 by simp)
  clear Rc' Rd' hNl hNl2 hN Rc Rd hmk
  go_enter Try.func67, Try.ntmps67
  go_wp2_with fail
  go_region_held3 (fun w' => w'.cell? ⟨b1, 0, none⟩ = some (.int .i64 c.n) ∧ w'.cell? ⟨b1, 1, none⟩ = some (.int .i64 c.t) ∧ w'.cell? ⟨b2, 1, none⟩ = some (.int .i64 d.t)) (go_keep) (first | fail)
  clear hw2
  go_wp2
  have hW0 := below1 (w.alloc (.cells #[.int .i64 0, .int .i64 0, .slice none 0 0] 26)) (.cells #[.int .i64 c.n, .int .i64 (c.t * d.t), .slice none 0 0] 26)
  have hC : Blk (((w.alloc (.cells #[.int .i64 0, .int .i64 0, .slice none 0 0] 26)).alloc (.cells #[.int .i64 c.n, .int .i64 (c.t * d.t), .slice none 0 0] 26)).drew) (w.heap.size + 1) #[.int .i64 c.n, .int .i64 (c.t * d.t), .slice none 0 0] 26 := by
    have := Blk.new (w.alloc (.cells #[.int .i64 0, .int .i64 0, .slice none 0 0] 26)) #[.int .i64 c.n, .int .i64 (c.t * d.t), .slice none 0 0] 26
    rw [hsz0.out] at this
    exact this
  have hb0 : Below (w.alloc (.cells #[.int .i64 0, .int .i64 0, .slice none 0 0] 26)).heap.size (w.alloc (.cells #[.int .i64 0, .int .i64 0, .slice none 0 0] 26)) (((w.alloc (.cells #[.int .i64 0, .int .i64 0, .slice none 0 0] 26)).alloc (.cells #[.int .i64 c.n, .int .i64 (c.t * d.t), .slice none 0 0] 26)).drew) := hW0.drew
  have hsz1 := Lib.hid (show (((w.alloc (.cells #[.int .i64 0, .int .i64 0, .slice none 0 0] 26)).alloc (.cells #[.int .i64 c.n, .int .i64 (c.t * d.t), .slice none 0 0] 26)).drew).heap.size = w.heap.size + 2 by simp [World.drew])
  generalize (((w.alloc (.cells #[.int .i64 0, .int .i64 0, .slice none 0 0] 26)).alloc (.cells #[.int .i64 c.n, .int .i64 (c.t * d.t), .slice none 0 0] 26)).drew) = W at *
  generalize w.alloc (.cells #[.int .i64 0, .int .i64 0, .slice none 0 0] 26) = V at *
  go_loopw [6] (fun i wr => ∃ (s : Nat) (a : Option Addr) (cap : Nat) (rvs : List Value), s ≤ N ∧ i = .int .i64 s ∧ Blk wr (w.heap.size + 1) #[.int .i64 c.n, .int .i64 (c.t * d.t), .slice a s cap] 26 ∧
      MadeTo wr (w.heap.size + 2) wr.heap.size (.slice a s cap) rvs ((List.range s).map fun s => (List.range N).map fun j => thenF c d s j) ∧ Below V.heap.size V wr ∧ w.heap.size + 2 ≤ wr.heap.size) (fun i _ => N - (intOf i).toNat)
  case atStart => exact ⟨0, none, 0, [], Nat.zero_le _, rfl, hC, by simpa using MadeTo.start W (w.heap.size + 2), hb0, by have := hsz1.out; omega⟩
  case round =>
    obtain ⟨wo, rfl⟩ : ∃ wo : World, wo = wr := ⟨_, rfl⟩
    obtain ⟨s, a, cap, rvs, hk, rfl, hC1, hM, hb1, hs1⟩ := hrel
    have hM' := Lib.hid hM
    clear hM
    have c0o := (hb1.cell (p := ⟨b1, 0, none⟩) l1).trans c0
    by_cases hlt : s < N
    · have hkn : (s : Int) < c.n := by have := hN'.out; omega
      have hkc : s < c.w.length := by have := hNl'.out; omega
      obtain ⟨xc, hrc⟩ := Rc1.out s hkc
      obtain ⟨p1, -, -⟩ := okRow_all (r1.out _ (getD_mem (d := []) hkc))
      have hps := Lib.hid (show ∀ j m, psum c d s j (m + 1) = psum c d s j m + (c.w.getD s []).getD m 0 * (d.w.getD m []).getD j 0 from fun _ _ => rfl)
      have hbw := Lib.hid (show ∀ m, 0 ≤ (c.w.getD s []).getD m 0 ∧ (c.w.getD s []).getD m 0 ≤ 60 from fun m => ⟨(w_bd oc'.out s m).1, Int.le_trans (w_bd oc'.out s m).2 t2⟩)
      generalize c.w.getD s [] = rowc at hrc p1 hps hbw
      generalize rc s = vrc at xc hrc
      obtain ⟨ob, oo, occ, rfl, olt, hxc⟩ := hrc.at (by omega)
      have lcN := Lib.hid (show rowc.length = N by have := hN'.out; omega)
      have hxc' := Lib.hid hxc
      have hbo := hb1.size
      have hmk := hmk'.out
      have hown0 := Own.made wo (.int .i64 0) N 2 (by unfold maxLen; omega)
      have hown0' := Lib.hid (show Own (wo.alloc (.cells (madeCells #[.int .i64 0] N) 2)) wo.heap.size (wo.heap.size + 1) 2 (.slice (some ⟨wo.heap.size, 0, none⟩) N N) (ints (rowL c d N s 0 0)) by rw [rowL_zero]; simpa [ints] using hown0)
      have hNt0 : (c.n).toNat = N := hNt.out
      clear hxc p1 hrc hown0
      go_wp2
      clear hNt0 hmk
      go_loopw [8] (fun i wr => ∃ (k : Nat), k ≤ N ∧ i = .int .i64 k ∧ Own wr wo.heap.size (wo.heap.size + 1) 2 (.slice (some ⟨wo.heap.size, 0, none⟩) N N) (ints (rowL c d N s k 0)) ∧ Below wo.heap.size wo wr ∧ wo.heap.size + 1 ≤ wr.heap.size) (fun i _ => N - (intOf i).toNat)
      case atStart => exact ⟨0, Nat.zero_le _, rfl, hown0'.out, below1 _ _, by simp⟩
      case round =>
        obtain ⟨wk, rfl⟩ : ∃ wk : World, wk = wr := ⟨_, rfl⟩
        obtain ⟨k, hk2, rfl, hown, bel, hs2⟩ := hrel
        have hown' := Lib.hid hown
        clear hown
        have belV : Below V.heap.size V wk := hb1.trans (bel.mono hbo)
        have q0 := (belV.cell (p := ⟨b1, 0, none⟩) l1).trans c0
        by_cases hklt : k < N
        · have hkn2 : (k : Int) < c.n := by have := hN'.out; omega
          have hkd : k < d.w.length := by have := hNl2'.out; omega
          obtain ⟨xd, hrd⟩ := Rd1.out k hkd
          obtain ⟨p3, -, -⟩ := okRow_all (r2.out _ (getD_mem (d := []) hkd))
          have hxk := hxc'.out k (by have := lcN.out; omega)
          have hxb := hbw.out k
          have hps2 := Lib.hid (fun j => hps.out j k)
          have hbd2 := Lib.hid (show ∀ j, 0 ≤ (d.w.getD k []).getD j 0 ∧ (d.w.getD k []).getD j 0 ≤ 60 from fun j => ⟨(w_bd od'.out k j).1, Int.le_trans (w_bd od'.out k j).2 u2⟩)
          generalize rowc.getD k 0 = x at hxk hxb hps2
          generalize d.w.getD k [] = rowd at hrd p3 hps2 hbd2
          generalize rd k = vrd at xd hrd
          obtain ⟨pb, po, pcc, rfl, plt, hxd⟩ := hrd.at (by omega)
          have ldN := Lib.hid (show rowd.length = N by have := hN'.out; have := e3.out; omega)
          have hxd' := Lib.hid hxd
          clear hxd p3 hrd
          go_wp2
          clear q0
          go_loopw [9] (fun i wr => ∃ (j : Nat), j ≤ N ∧ i = .int .i64 j ∧ Own wr wo.heap.size (wo.heap.size + 1) 2 (.slice (some ⟨wo.heap.size, 0, none⟩) N N) (ints (rowL c d N s k j)) ∧ Below wo.heap.size wo wr ∧ wo.heap.size + 1 ≤ wr.heap.size) (fun i _ => N - (intOf i).toNat)
          case atStart => exact ⟨0, Nat.zero_le _, rfl, hown'.out, bel, hs2⟩
          case round =>
            obtain ⟨wj, rfl⟩ : ∃ wj : World, wj = wr := ⟨_, rfl⟩
            obtain ⟨j, hj, rfl, hown, bel, hs2⟩ := hrel
            have belV : Below V.heap.size V wj := hb1.trans (bel.mono hbo)
            have q0 := (belV.cell (p := ⟨b1, 0, none⟩) l1).trans c0
            by_cases hjlt : j < N
            · have hjn : (j : Int) < c.n := by have := hN'.out; omega
              have hjN : (j : Int) < (N : Int) := by omega
              have q2 := (belV.cell (p := ⟨b1, 2, none⟩) l1).trans c2
              have q4 := (belV.cell (p := ⟨b2, 2, none⟩) l2).trans d2
              have q5 := (belV.cell (p := ⟨oc, kc + s, none⟩) lc).trans xc
              have q6 := (belV.cell (p := ⟨od, kd + k, none⟩) ld).trans xd
              have q7 := (belV.cell (p := ⟨ob, oo + k, none⟩) olt).trans hxk
              have q8 := (belV.cell (p := ⟨pb, po + j, none⟩) plt).trans (hxd'.out j (by have := ldN.out; omega))
              have hy := hbd2.out j
              have hnx := Lib.hid (hps2.out j)
              obtain ⟨g, gc, hge, -, -, hglt, hgc, hgf⟩ := hown.at (by simp [ints, rowL_length]; omega)
              simp at hge
              obtain ⟨rfl, -⟩ := hge
              have q9 := hgc j (by simp [ints, rowL_length]; exact hjlt)
              rw [ints_getD _ _ (by rw [rowL_length]; exact hjlt), rowL_getD _ _ _ _ _ _ hjlt] at q9
              have f9 := hgf j
              have hpb := psum_bd oc'.out od'.out s j k
              have hset := Lib.hid (rowL_set c d N s k j hjlt)
              have own2 := hown.set j (.int .i64 (psum c d s j (k + 1)))
              rw [ints_set, hset.out] at own2
              have own2' := Lib.hid own2
              have hown' := Lib.hid hown
              clear hown own2 hgc hgf
              generalize rowd.getD j 0 = y at q8 hy hnx
              have hpsv := Lib.hid hnx.out
              generalize psum c d s j k = z at q9 hpb hnx hpsv
              obtain ⟨x0, x1⟩ := hxb
              obtain ⟨y0, y1⟩ := hy
              obtain ⟨z0, z1⟩ := hpb
              have v1 := mul_bd x0 x1 y0 y1
              have w1 : IntKind.i64.wrap (x * y) = x * y := wrap_id (by omega)
              have w2 : IntKind.i64.wrap (z + x * y) = z + x * y := wrap_id (by omega)
              have kc1 : (s : Int) < (c.w.length : Int) := by omega
              have kd1 : (k : Int) < (d.w.length : Int) := by omega
              have kr1 : (k : Int) < (rowc.length : Int) := by have := lcN.out; omega
              have jr1 : (j : Int) < (rowd.length : Int) := by have := ldN.out; omega
              clear c0 c1 c2 d0 d1 d2 c0o xc xd v1
              go_upto_region 12 with fail
              refine wp_region_still_tail 27 (by kernel_rfl) (by kernel_rfl) ?_
              simp only [List.take_succ_cons, List.take_zero, List.drop_succ_cons, List.drop_zero]
              repeat still_step
              try refine wpStill_nil ?_
              change wpList _ _ _ _ _ wj.drew
              go_wp2
              go_roundw
              case rel =>
                have h2 := own2'.out
                rw [hpsv.out] at h2
                exact ⟨j + 1, by omega, by go_num, h2, (bel.setCell (p := ⟨wo.heap.size, j, none⟩) (Nat.le_refl _) _).drew, by simp [World.setCell, World.drew]; omega⟩
              case measure => simp [intOf]; omega
            · obtain rfl : j = N := by omega
              have hjn : ¬ ((j : Int) < c.n) := by have := hN'.out; omega
              have hown2 := hown
              rw [rowL_next] at hown2
              have hown2' := Lib.hid hown2
              clear hown hown2 c0 c1 c2 d0 d1 d2 c0o xc xd
              go_wp2
              go_roundw
              case rel => exact ⟨k + 1, by omega, by go_num, hown2'.out, bel, hs2⟩
              case measure => simp [intOf]; omega
        · obtain rfl : k = N := by omega
          have hkn2 : ¬ ((k : Int) < c.n) := by have := hN'.out; omega
          obtain ⟨i1, ki, kz0, kz1, kz2⟩ := info_parts Try.infoR
          have ki' := Lib.hid ki; have kz0' := Lib.hid kz0; have kz1' := Lib.hid kz1; have kz2' := Lib.hid kz2
          have hsz := bel.size
          have hrow' := Lib.hid (show Own wk wo.heap.size wk.heap.size 2 (.slice (some ⟨wo.heap.size, 0, none⟩) k k) (ints ((List.range k).map fun j => thenF c d s j)) by
            have := hown'.out
            rw [rowL_done c d k s hNt.out] at this
            exact this.wide (Nat.le_refl _) hs2)
          have hM := hM'.out
          have hMown : wk.ownsRow (w.heap.size + 2) 37 1 (.slice a s cap) s rvs := by
            have h1 := hM.own
            simp only [List.length_map, List.length_range] at h1
            refine ⟨h1.1, ?_⟩
            rcases h1.2 with h0 | ⟨g, cap, cur, hv, hgg, hh, r⟩
            · exact Or.inl h0
            · exact Or.inr ⟨g, cap, cur, hv, hgg, by rw [bel.block g (Array.getElem?_eq_some_iff.1 hh).1]; exact hh, r⟩
          have hC2 := hC1.keep bel hC1.lt
          have q2 : wk.cell? ⟨w.heap.size + 1, 2, none⟩ = some (.slice a s cap) := hC2.cell 2
          have ltC := hC2.lt
          have q2' : ∀ o, (wk.alloc o).cell? ⟨w.heap.size + 1, 2, none⟩ = some (.slice a s cap) := fun o => (World.cell?_alloc_past _ _ _ ltC).trans q2
          have hne : ∀ k', k' < w.heap.size + 2 → (Value.slice a s cap).ownBlock ≠ some k' := fun k' hk' hh => by have := (ownsRow_type hMown hh).1; omega
          have hne' := Lib.hid hne
          have hVs := Lib.hid (show V.heap.size = w.heap.size + 1 from hsz0.out)
          clear hM hne ki kz0 kz1 kz2 c0 c1 c2 d0 d1 d2 c0o xc
          go_wp2_with (at_builtin; (refine wpList_append_own _ rfl _ _ 22 rfl (w.heap.size + 2) 37 i1 (.slice none 0 0) 1 24 Try.underlying22 ki'.out kz0'.out kz1'.out kz2'.out rfl (by decide) _ _ _ rfl (hMown.alloc _) ⟨wk.heap.size, 0, none⟩ 1 1 [.slice (some ⟨wo.heap.size, 0, none⟩) k k] rfl rfl (one_new _ _ _) (by simp [Value.oneCell']) (by unfold maxLen; omega) (by omega) (by simp; omega) ?_); intro v' w2 hown2 hgr2 _; obtain ⟨g2, c2, rfl⟩ := ownsRow_shape hown2 (by omega); have hC3 : Blk w2 (w.heap.size + 1) _ _ := (hgr2.block (w.heap.size + 1) (by simp; omega) (fun e => hne'.out _ (by omega) e.symm)).trans (hC2.alloc _); have hf3 := hC3.frozen 2; have hc3 := hC3.cell 2; simp at hc3)
          go_roundw
          case rel =>
            have hg2 := hgr2.size
            simp at hg2
            have res := MadeTo.step (v' := .slice (some ⟨g2, 0, none⟩) (s + 1) c2) (a := ⟨w.heap.size + 1, 2, none⟩) hM'.out bel hrow'.out (by omega) _ (by simpa using hown2) hgr2 (by show w.heap.size + 1 < w.heap.size + 2; omega) (.slice (some ⟨g2, 0, none⟩) (s + 1) c2)
            refine ⟨s + 1, some ⟨g2, 0, none⟩, c2, rvs ++ [.slice (some ⟨wo.heap.size, 0, none⟩) k k], by omega, by go_num, ?_, ?_, ?_, by simp [World.setCell]; omega⟩
            · have := hC3.set 2 (.slice (some ⟨g2, 0, none⟩) (s + 1) c2)
              simpa using this
            · rw [range_map_succ]
              exact res
            · refine Below.setCell ?_ (by show V.heap.size ≤ w.heap.size + 1; have := hVs.out; omega) _
              exact ((hb1.trans (bel.mono hbo)).alloc (by omega) _).grown hgr2 (by simp; omega) (fun k' hk' => by have := (ownsRow_type hMown hk').1; have := hVs.out; omega)
          case measure => simp [intOf]; omega
    · obtain rfl : s = N := by omega
      have hkn : ¬ ((s : Int) < c.n) := by have := hN'.out; omega
      have hA1 := hA.keep hb1 hA.lt
      have f10 := hA1.frozen 0
      have f11 := hA1.frozen 1
      have f12 := hA1.frozen 2
      have c10 := hA1.cell 0
      have c11 := hA1.cell 1
      have c12 := hA1.cell 2
      have c20 := hC1.cell 0
      have c21 := hC1.cell 1
      have c22 := hC1.cell 2
      simp at c10 c11 c12 c20 c21 c22
      have ll := hC1.lt
      clear c0 c1 c2 d0 d1 d2
      go_wp2
      refine bodyPost_ret (v := .agg #[.int .i64 c.n, .int .i64 (c.t * d.t), .slice a s cap]) (by simp [results, Try.results67, go_sem, c10, c11, c12]) rfl ?_
      have hown := hM'.out.done
      have hres : thenCh c d = ⟨c.n, c.t * d.t, rowsOf s (thenF c d)⟩ := by unfold thenCh; rw [hN'.out]; rfl
      have hBw : Below w.heap.size w wo := below_wt B1 hb1
      refine ⟨_, rfl, ?_, ((hBw.setCell ?_ _).setCell ?_ _).setCell ?_ _⟩
      · rw [hres]
        refine ⟨_, rfl, (hown.same ((((SameOn.refl _ _ _).set ?_ _).set ?_ _).set ?_ _)).wide (by omega) (by simp [World.setCell])⟩
        all_goals (simp only; omega)
      all_goals (simp only; omega)
end Go.Proofs.Ytepajimcnheofaa
