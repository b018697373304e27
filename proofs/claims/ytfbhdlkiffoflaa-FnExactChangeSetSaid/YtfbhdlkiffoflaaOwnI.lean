/- Copies of lists of numbers: slices.Clone and l00Own; the colours of a painting. Conditions: at least one number. -/
import Derived.Laws.CopyOwn
import Derived.Deep.RegionLaw
import Derived.Lib.SliceRun
import Derived.WalkSpells
import Derived.Test.YtfbhdlkiffoflaaFc
namespace Go.Proofs.Ytfbhdlkiffoflaa
open Go.RowKit Go.Deep
set_option linter.unusedVariables false

set_option maxHeartbeats 4000000 in
theorem cloneI_any (v : Value) (xs : List Int) (w : World) (hv : Ints w v xs) (hne : 0 < xs.length) (hs : xs.length ≤ 1000) :
    Calls Try.prog 83 #[v] w fun e w' => ∃ rv, e = .returned rv ∧ w'.ownsRow w.heap.size 2 1 rv xs.length (ints xs) ∧ Below w.heap.size w w' := by
  obtain ⟨b, off, cap, rfl, hb, hc⟩ := hv.at hne
  obtain ⟨i0, hi, hz0, hz1, hz2⟩ := info_parts Try.infoI
  have hi' := Lib.hid hi; have hz0' := Lib.hid hz0; have hz1' := Lib.hid hz1; have hz2' := Lib.hid hz2
  have hc' := Lib.hid hc
  have h1' := Lib.hid (show ∀ u ∈ ints xs, u.oneCell' = true by intro u hu; simp [ints] at hu; obtain ⟨z, _, rfl⟩ := hu; rfl)
  clear hi hz0 hz1 hz2 hv hc
  have hown : (w.alloc (.cells #[] 2)).ownsRow w.heap.size 2 1 (.slice (some ⟨w.heap.size, 0, none⟩) 0 0) 0 [] := World.ownsRow_made w #[] 0 (Nat.le_refl _) (Nat.zero_le _) (by simp)
  have hown' := Lib.hid hown
  have hnews := Lib.hid (show ∀ j u, (ints xs)[j]? = some u → (w.alloc (.cells #[] 2)).cell? ((⟨b, off, none⟩ : Addr).add j) = some u by
    intro j u hu
    have hj : j < xs.length := by have := (List.getElem?_eq_some_iff.1 hu).1; simpa [ints] using this
    have e := ints_getD xs j hj
    simp only [List.getD, hu, Option.getD_some] at e
    rw [Addr.add_lit, World.cell?_alloc_past _ _ _ hb, hc'.out j hj, e]
    rfl)
  clear hown
  have qT : ∀ (w : World) (a : Addr) (n c : Nat), (binOp .eql 32 (.slice (some a) n c) (.slice none 0 0)).run Try.prog w = .ok (.bool false) w := fun w a n c => Lib.run_eql_slice_nil w _ _ (some a) n c 0 0 Try.underlying32
  have hlen : (ints xs).length = xs.length := by simp [ints]
  generalize hvs : ints xs = vs at *
  go_enter Try.func83, Try.ntmps83
  go_wp2_with (at_builtin; (refine wpList_append_own _ rfl _ _ 32 rfl w.heap.size 2 i0 (.int .i64 0) 1 8 Try.underlying32 hi'.out hz0'.out hz1'.out hz2'.out rfl (by decide) (.slice (some ⟨w.heap.size, 0, none⟩) 0 0) 0 [] rfl hown'.out ⟨b, off, none⟩ xs.length cap vs rfl (by simp; omega) hnews.out h1'.out (by unfold maxLen; omega) (by omega) (by simp) ?_); intro v' w5 hown5 hgr5 _)
  go_ret
  refine ⟨_, rfl, by simpa using hown5, (below1 w _).grown hgr5 (by simp) (fun k' hk' => by simp [Value.ownBlock] at hk'; omega)⟩

set_option maxHeartbeats 4000000 in
theorem l00Own_any (v : Value) (xs : List Int) (w : World) (hv : Ints w v xs) (hne : 0 < xs.length) (hs : xs.length ≤ 1000) :
    Calls Try.prog 56 #[v] w fun e w' => ∃ rv, e = .returned rv ∧ w'.ownsRow w.heap.size 2 1 rv xs.length (ints xs) ∧ Below w.heap.size w w' := by
  obtain ⟨b, off, cap, rfl, hb, hc⟩ := hv.at hne
  obtain ⟨i0, hi, hz0, hz1, hz2⟩ := info_parts Try.infoI
  have hi' := Lib.hid hi; have hz0' := Lib.hid hz0; have hz1' := Lib.hid hz1; have hz2' := Lib.hid hz2
  have hc' := Lib.hid hc
  have h1' := Lib.hid (show ∀ u ∈ ints xs, u.oneCell' = true by intro u hu; simp [ints] at hu; obtain ⟨z, _, rfl⟩ := hu; rfl)
  clear hi hz0 hz1 hz2 hv hc
  have hown : (w.alloc (.cells #[] 2)).ownsRow w.heap.size 2 1 (.slice (some ⟨w.heap.size, 0, none⟩) 0 0) 0 [] := World.ownsRow_made w #[] 0 (Nat.le_refl _) (Nat.zero_le _) (by simp)
  have hown' := Lib.hid hown
  have hnews := Lib.hid (show ∀ j u, (ints xs)[j]? = some u → (w.alloc (.cells #[] 2)).cell? ((⟨b, off, none⟩ : Addr).add j) = some u by
    intro j u hu
    have hj : j < xs.length := by have := (List.getElem?_eq_some_iff.1 hu).1; simpa [ints] using this
    have e := ints_getD xs j hj
    simp only [List.getD, hu, Option.getD_some] at e
    rw [Addr.add_lit, World.cell?_alloc_past _ _ _ hb, hc'.out j hj, e]
    rfl)
  clear hown
  have hlen : (ints xs).length = xs.length := by simp [ints]
  generalize hvs : ints xs = vs at *
  go_enter Try.func56, Try.ntmps56
  go_wp2_with (at_builtin; (refine wpList_append_own _ rfl _ _ 32 rfl w.heap.size 2 i0 (.int .i64 0) 1 8 Try.underlying32 hi'.out hz0'.out hz1'.out hz2'.out rfl (by decide) (.slice (some ⟨w.heap.size, 0, none⟩) 0 0) 0 [] rfl hown'.out ⟨b, off, none⟩ xs.length cap vs rfl (by simp; omega) hnews.out h1'.out (by unfold maxLen; omega) (by omega) (by simp) ?_); intro v' w5 hown5 hgr5 _)
  go_ret
  refine ⟨_, rfl, by simpa using hown5, (below1 w _).grown hgr5 (by simp) (fun k' hk' => by simp [Value.ownBlock] at hk'; omega)⟩


set_option maxHeartbeats 4000000 in
theorem colours_any (C : Nat) (lv ev wv : Value) (parts : Int) (f : Nat → Int) (nb : List (List Int)) (w : World) (hv : Rows2 w lv nb) (h1 : 0 < nb.length) (h5 : nb.length ≤ 10) :
    Calls Try.prog 57 #[.agg (palA lv ev wv C parts), .agg (tenA f)] w fun e w' => ∃ rv, e = .returned rv ∧ w'.ownsRow w.heap.size 2 1 rv nb.length (ints ((List.range nb.length).map f)) ∧ Below w.heap.size w w' := by
  have B0 := below2 w (.cells (palA lv ev wv C parts) 68) (.cells (tenA f) 74)
  have H1 := (Blk.new w (palA lv ev wv C parts) 68).alloc (.cells (tenA f) 74)
  have H2 := Blk.new (w.alloc (.cells (palA lv ev wv C parts) 68)) (tenA f) 74
  simp only [World.size_alloc] at H2
  have hnd := nodes_any lv nb _ (hv.keep B0)
  obtain ⟨⟨z0, z1, z2, z3, z4⟩, -⟩ := H1.five
  obtain ⟨_, la, lc, rfl⟩ := hv.len
  obtain ⟨n, hn⟩ : ∃ n, nb.length = n := ⟨_, rfl⟩
  have hn' := Lib.hid hn
  rw [hn] at z0 hnd h1 h5
  have hcl := Lib.hid (fun W (hW : Below ((w.alloc (.cells (palA (.slice la n lc) ev wv C parts) 68)).alloc (.cells (tenA f) 74)).heap.size ((w.alloc (.cells (palA (.slice la n lc) ev wv C parts) 68)).alloc (.cells (tenA f) 74)) W) =>
    cloneI_any (.slice (some ⟨w.heap.size + 1, 0, none⟩) n 10) ((List.range n).map f) W (by
      have HW := (hn ▸ H2).step hW
      refine ⟨by simp [ints]; unfold maxLen; omega, some ⟨w.heap.size + 1, 0, none⟩, 10, by simp [ints], ⟨by simp [ints]; omega, by unfold maxLen; omega⟩, fun i hi => ⟨w.heap.size + 1, 0, rfl, ?_⟩⟩
      have hi' : i < n := by simpa [ints] using hi
      rw [Nat.zero_add, HW.ten i (by omega)]
      simp [ints, List.getD, hi']) (by simp; omega) (by simp; omega))
  rw [hn] at B0 ⊢
  have nI : (n : Int) ≤ 10 := by omega
  clear H1 H2 hv hn
  go_enter Try.func57, Try.ntmps57
  go_wp2_with fail
  (with_reducible refine hnd.mono ?_)
  rintro e w1 ⟨rfl, b1⟩
  have hc1 := hcl.out w1 b1
  simp only [List.length_map, List.length_range] at hc1
  have hs1 := (below_wt B0 b1).size
  have B1 := Lib.hid (below_wt B0 b1)
  clear b1 hcl
  go_wp2_with fail
  (with_reducible refine hc1.mono ?_)
  rintro e w2 ⟨rv, rfl, hown, b2⟩
  go_wp2
  go_ret
  exact ⟨rv, rfl, ownsRow_lower hown (by omega), below_wt B1.out b2⟩
end Go.Proofs.Ytfbhdlkiffoflaa
