/- A drawn chain, as laws get it. Conditions: the code has at most 4096 bytes. -/
import Derived.Test.YtepajimcnheofaaDraw
namespace Go.Proofs.Ytepajimcnheofaa
open Go.RowKit Go.Deep
set_option linter.unusedVariables false

set_option maxRecDepth 100000 in
set_option maxHeartbeats 1000000 in
theorem P6Chain_any (v : Value) (len : Nat) (w : World) (hv : Bytes w v len) (hl : len ≤ 4096) :
    Calls Try.prog 39 #[v, .int .i64 4] w fun e w' => ∃ cv c, e = .returned cv ∧ ChMine 37 2 w' w.heap.size w'.heap.size cv c ∧ chOk c = true ∧ c.n ≤ 4 ∧ c.t ≤ 6 ∧ Below w.heap.size w w' := by
  obtain ⟨a, cap, rfl⟩ : ∃ a cap, v = .slice a len cap := by obtain ⟨_, a, cap, h, _⟩ := hv; exact ⟨a, cap, h⟩
  have bA := below1 w (.cells #[.int .i64 0, .int .i64 0, .slice none 0 0] 26)
  have hZ := Blk.new w #[.int .i64 0, .int .i64 0, .slice none 0 0] 26
  have hv1 := hv.keep bA
  have hszA := Lib.hid (show (w.alloc (.cells #[.int .i64 0, .int .i64 0, .slice none 0 0] 26)).heap.size = w.heap.size + 1 by simp)
  have hfr := l00From_any _ len _ hv1 hl
  go_enter Try.func39, Try.ntmps39
  go_wp2_with fail
  refine hfr.mono ?_
  rintro e w2 ⟨rfl, s2, b2, z2⟩
  have z2' := Lib.hid (z2.trans (by rw [hszA.out]))
  have hZ2 := hZ.step b2
  have BB2 := below_wt bA b2
  rw [hszA.out] at s2
  clear z2 hfr hZ
  go_wp2_with fail
  with_reducible refine (l01Draw_any w2 _ _ s2).mono ?_
  rintro e w3 ⟨cv, c, rfl, own, ok, c4, c6, t3⟩
  have hlt : w.heap.size + 2 ≤ w2.heap.size := by have := z2'.out; omega
  have hZ3 := hZ2.touch t3 (by have := hszA.out; omega)
  have BB3 := BB2.trans (t3.below' w.heap.size (by have := hszA.out; omega) (by omega))
  obtain ⟨ra, rcap, rfl⟩ := own.shape
  obtain ⟨z0, z1, z2⟩ := hZ3.three
  have f0 := hZ3.frozen 0
  have f1 := hZ3.frozen 1
  have f2 := hZ3.frozen 2
  clear t3 BB2 hZ2 bA b2 s2
  go_wp2
  refine bodyPost_ret (v := .agg #[.int .i64 c.n, .int .i64 c.t, .slice ra c.w.length rcap]) (by simp [results, Try.results39, go_sem, z0, z1, z2]) rfl ?_
  have S5 := (ChMine.filled own.mine (b := w.heap.size) (Or.inl (by omega)) (.int .i64 c.n) (.int .i64 c.t) (.slice ra c.w.length rcap))
  exact ⟨_, c, rfl, ⟨S5.own.wide (by omega) S5.le, Nat.le_refl _⟩, ok, c4, c6, Below.filled BB3 (Nat.le_refl _) _ _ _⟩
end Go.Proofs.Ytepajimcnheofaa
