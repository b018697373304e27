/- The chain that stays, of the specification. Conditions: it has 1 to 6 states. -/
import Derived.Test.YtepajimcnheofaaMix2
import Derived.Deep.DeepCutAuto
namespace Go.Proofs.Ytepajimcnheofaa
open Go.RowKit Go.Deep

def stayF (t : Int) (s j : Nat) : Int := if s = j then t else 0
def stayCh (n t : Int) : Ch := ⟨n, t, rowsOf n.toNat (stayF t)⟩
theorem stay_row (n k : Nat) (t : Int) : (List.replicate n (Value.int .i64 0)).set k (.int .i64 t) = ints ((List.range n).map fun j => stayF t k j) := by
  apply List.ext_getElem
  · simp [ints]
  · intro i h1 h2
    simp only [List.getElem_set, List.getElem_replicate, ints, List.getElem_map, List.getElem_range, stayF]
    split <;> rfl

/-- 'make([]int64, n)' -/
theorem make_len (n : Int) (h0 : 0 ≤ n) (h1 : n ≤ 1000000) : ∀ u : World, (Instr.makeSlice 37 (.int .i64 n) (.int .i64 n)).run Try.prog u =
    .ok (.slice (some ⟨u.heap.size, 0, none⟩) n.toNat n.toNat) (u.alloc (.cells (madeCells #[.int .i64 0] n.toNat) 2)) := fun u => by
  obtain ⟨i0, hi, hz0, hz1, hz2⟩ := info_parts Try.infoI
  have h := run_make (P := Try.prog) u 37 2 i0 (.int .i64 0) Try.underlying37 hi hz0 .i64 .i64 n n h0 (by omega) (by rw [hz2]; omega) (by omega)
  simpa [hz1, Value.cells] using h

set_option maxRecDepth 100000 in
set_option maxHeartbeats 8000000 in
theorem l01Stay_any (n : Nat) (t : Int) (w : World) (hn : 1 ≤ n) (hn6 : n ≤ 6) :
    Calls Try.prog 64 #[.int .i64 n, .int .i64 t] w fun e w' => ∃ cv, e = .returned cv ∧ ChOwn 37 2 w' w.heap.size w'.heap.size cv ⟨n, t, rowsOf n (stayF t)⟩ ∧ Below w.heap.size w w' := by
  have hmk := make_len n (by omega) (by omega)
  obtain ⟨i1, ki, kz0, kz1, kz2⟩ := info_parts Try.infoR
  have ki' := Lib.hid ki; have kz0' := Lib.hid kz0; have kz1' := Lib.hid kz1; have kz2' := Lib.hid kz2
  clear ki kz0 kz1 kz2
  have B2 := below2 w (.cells #[.int .i64 0, .int .i64 0, .slice none 0 0] 26) (.cells #[.int .i64 n, .int .i64 t, .slice none 0 0] 26)
  have hA := (Blk.new w #[.int .i64 0, .int .i64 0, .slice none 0 0] 26).alloc (.cells #[.int .i64 n, .int .i64 t, .slice none 0 0] 26)
  have hC := Blk.new (w.alloc (.cells #[.int .i64 0, .int .i64 0, .slice none 0 0] 26)) #[.int .i64 n, .int .i64 t, .slice none 0 0] 26
  simp only [World.size_alloc] at hC
  go_enter Try.func64, Try.ntmps64
  go_wp2
  have hsz0 : ((w.alloc (.cells #[.int .i64 0, .int .i64 0, .slice none 0 0] 26)).alloc (.cells #[.int .i64 n, .int .i64 t, .slice none 0 0] 26)).heap.size = w.heap.size + 2 := by simp
  generalize (w.alloc (.cells #[.int .i64 0, .int .i64 0, .slice none 0 0] 26)).alloc (.cells #[.int .i64 n, .int .i64 t, .slice none 0 0] 26) = W at *
  have hsz0' := Lib.hid hsz0
  clear hsz0
  go_loopw [6] (fun i wr => ∃ (k : Nat) (a : Option Addr) (cap : Nat) (rvs : List Value), k ≤ n ∧ i = .int .i64 k ∧ Blk wr (w.heap.size + 1) #[.int .i64 n, .int .i64 t, .slice a k cap] 26 ∧ Blk wr w.heap.size #[.int .i64 0, .int .i64 0, .slice none 0 0] 26 ∧
      MadeTo wr (w.heap.size + 2) wr.heap.size (.slice a k cap) rvs ((List.range k).map fun s => (List.range n).map fun j => stayF t s j) ∧ Below w.heap.size w wr ∧ w.heap.size + 2 ≤ wr.heap.size) (fun i _ => n - (intOf i).toNat)
  case atStart => exact ⟨0, none, 0, [], Nat.zero_le _, rfl, hC, hA, by simpa using MadeTo.start W (w.heap.size + 2), B2, by have := hsz0'.out; omega⟩
  case round =>
    obtain ⟨wo, rfl⟩ : ∃ wo : World, wo = wr := ⟨_, rfl⟩
    obtain ⟨k, a, cap, rvs, hk, rfl, hC1, hA1, hM, hb1, hs1⟩ := hrel
    have hM' := Lib.hid hM
    clear hM
    by_cases hlt : k < n
    · have hown := Own.made wo (.int .i64 0) n 2 (by unfold maxLen; omega)
      have hown2 := (hown.set k (.int .i64 t)).wide (Nat.le_refl _) (show wo.heap.size + 1 ≤ ((wo.alloc (.cells (madeCells #[.int .i64 0] n) 2)).setCell ⟨wo.heap.size, k, none⟩ (.int .i64 t)).heap.size by simp [World.setCell])
      rw [stay_row, World.setCell_alloc_at _ _ _ _ _ rfl] at hown2
      have bel : Below wo.heap.size wo ((wo.alloc (.cells (madeCells #[.int .i64 0] n) 2)).setCell ⟨wo.heap.size, k, none⟩ (.int .i64 t)) := (below1 _ _).setCell (Nat.le_refl _) _
      rw [World.setCell_alloc_at _ _ _ _ _ rfl] at bel
      obtain ⟨g0, gc0, hge, -, -, -, hce, hfr⟩ := hown.at (by simp; omega)
      simp at hge
      obtain ⟨rfl, -⟩ := hge
      have q0 := hce k (by simp; omega)
      have q1 := hfr k
      clear hown hce hfr
      have kk : (k : Int) < (n : Int) := by omega
      go_upto_region 7 with fail
      obtain ⟨w1, hw1⟩ : ∃ w1, (wo.alloc (.cells ((madeCells #[.int .i64 0] n).setIfInBounds k (.int .i64 t)) 2)) = w1 := ⟨_, rfl⟩
      rw [hw1] at hown2 bel ⊢
      clear hw1 q0 q1
      have hsz := bel.size
      have hrow' := Lib.hid hown2
      have hM := hM'.out
      have hMown : w1.ownsRow (w.heap.size + 2) 37 1 (.slice a k cap) k rvs := by
        have h1 := hM.own
        simp only [List.length_map, List.length_range] at h1
        refine ⟨h1.1, ?_⟩
        rcases h1.2 with h0 | ⟨g, cap, cur, hv, hgg, hh, r⟩
        · exact Or.inl h0
        · exact Or.inr ⟨g, cap, cur, hv, hgg, by rw [bel.block g (Array.getElem?_eq_some_iff.1 hh).1]; exact hh, r⟩
      have hC2 := hC1.keep bel hC1.lt
      have hA2 := hA1.keep bel hA1.lt
      have q2 : w1.cell? ⟨w.heap.size + 1, 2, none⟩ = some (.slice a k cap) := hC2.cell 2
      have ltC := hC2.lt
      have q2' : ∀ o, (w1.alloc o).cell? ⟨w.heap.size + 1, 2, none⟩ = some (.slice a k cap) := fun o => (World.cell?_alloc_past _ _ _ ltC).trans q2
      have hne : ∀ k', k' < w.heap.size + 2 → (Value.slice a k cap).ownBlock ≠ some k' := fun k' hk' hh => by have := (ownsRow_type hMown hh).1; omega
      have hne' := Lib.hid hne
      clear hM hown2 hne
      go_wp2_with (at_builtin; (refine wpList_append_own _ rfl _ _ 22 rfl (w.heap.size + 2) 37 i1 (.slice none 0 0) 1 24 Try.underlying22 ki'.out kz0'.out kz1'.out kz2'.out rfl (by decide) _ _ _ rfl (hMown.alloc _) ⟨w1.heap.size, 0, none⟩ 1 1 [.slice (some ⟨wo.heap.size, 0, none⟩) n n] rfl rfl (one_new _ _ _) (by simp [Value.oneCell']) (by unfold maxLen; omega) (by omega) (by simp; omega) ?_); intro v' w2 hown2 hgr2 _; obtain ⟨g2, c2, rfl⟩ := ownsRow_shape hown2 (by omega); have hC3 : Blk w2 (w.heap.size + 1) _ _ := (hgr2.block (w.heap.size + 1) (by simp; omega) (fun e => hne'.out _ (by omega) e.symm)).trans (hC2.alloc _); have hf3 := hC3.frozen 2; have hc3 := hC3.cell 2; simp at hc3)
      go_roundw
      case rel =>
        have hg2 := hgr2.size
        simp at hg2
        have hA3 : Blk w2 w.heap.size _ _ := (hgr2.block w.heap.size (by simp; omega) (fun e => hne'.out _ (by omega) e.symm)).trans (hA2.alloc _)
        have res := MadeTo.step (v' := .slice (some ⟨g2, 0, none⟩) (k + 1) c2) (a := ⟨w.heap.size + 1, 2, none⟩) hM'.out bel hrow'.out (by omega) _ (by simpa using hown2) hgr2 (by show w.heap.size + 1 < w.heap.size + 2; omega) (.slice (some ⟨g2, 0, none⟩) (k + 1) c2)
        refine ⟨k + 1, some ⟨g2, 0, none⟩, c2, rvs ++ [.slice (some ⟨wo.heap.size, 0, none⟩) n n], by omega, by go_num, ?_, hA3.setOther (by simp) _, ?_, ?_, by simp [World.setCell]; omega⟩
        · have := hC3.set 2 (.slice (some ⟨g2, 0, none⟩) (k + 1) c2)
          simpa using this
        · rw [range_map_succ]
          exact res
        · refine Below.setCell ?_ (by show w.heap.size ≤ w.heap.size + 1; omega) _
          exact ((hb1.trans (bel.mono (by omega))).alloc (by omega) _).grown hgr2 (by simp; omega) (fun k' hk' => by have := (ownsRow_type hMown hk').1; omega)
      case measure => simp [intOf]; omega
    · obtain rfl : k = n := by omega
      have c10 := hA1.cell 0
      have c11 := hA1.cell 1
      have c12 := hA1.cell 2
      have c20 := hC1.cell 0
      have c21 := hC1.cell 1
      have c22 := hC1.cell 2
      have f10 := hA1.frozen 0
      have f11 := hA1.frozen 1
      have f12 := hA1.frozen 2
      simp at c10 c11 c12 c20 c21 c22
      go_wp2
      refine bodyPost_ret (v := .agg #[.int .i64 k, .int .i64 t, .slice a k cap]) (by simp [results, Try.results64, go_sem, c10, c11, c12]) rfl ?_
      have hown := hM'.out.done
      refine ⟨_, rfl, ?_, ((hb1.setCell ?_ _).setCell ?_ _).setCell ?_ _⟩
      · refine ⟨_, rfl, (hown.same ((((SameOn.refl _ _ _).set ?_ _).set ?_ _).set ?_ _)).wide (by omega) (by simp [World.setCell])⟩
        all_goals (simp only; omega)
      all_goals (simp only; omega)
end Go.Proofs.Ytepajimcnheofaa
