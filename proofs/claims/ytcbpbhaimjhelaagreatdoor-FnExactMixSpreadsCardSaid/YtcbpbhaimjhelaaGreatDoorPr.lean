/- One pair of long numbers more behind a list that a call makes, as the last step of a region. Conditions: at most 10^6 pairs. -/
import Derived.Test.YtcbpbhaimjhelaaGreatDoorListG
import Derived.Test.YtcbpbhaimjhelaaGreatDoorRg
namespace Go.Proofs.YtcbpbhaimjhelaaGreatDoor
open Go.RowKit Go.Deep
set_option linter.unusedVariables false
set_option linter.unusedSimpArgs false

theorem wp_append_pair {ops : Array Oper} {o : Oper} {a : Act} {w w0 : World} {K : Act → World → Prop} {Q : Exit → Act → World → Prop} (hgd : o.guard = none) (s x : Operand)
    (ho : o.op = .call { callee := .builtin .append, args := #[s, x], argTypes := #[119, 119] }) (B : Nat) (v : Value) (l : List (Nat × Nat)) (hM : MadeP LongI 72 w B v l) (hs : a.eval s = v)
    (b c : Nat) (p q : Value) (N D : Nat) (hx : a.eval x = .slice (some ⟨b, 0, none⟩) 1 c) (hb : Blk w b #[p, q] 72) (hp : LongI w p N) (hq : LongI w q D) (hl : l.length ≤ 1000000) (hB : B ≤ w.heap.size) (h0 : Below B w0 w)
    (h : ∀ g cap w', MadeP LongI 72 w' B (.slice (some ⟨g, 0, none⟩) (l.length + 1) cap) (l ++ [(N, D)]) → Below B w0 w' → K (a.put o.dst (.slice (some ⟨g, 0, none⟩) (l.length + 1) cap)) w') : o.wp Tryz.prog a w K Q := by
  obtain ⟨i0, hi, hz0, hz1, hz2⟩ := info_parts Tryz.infoRat
  obtain ⟨xs, hown, hal, hc⟩ := hM
  have hlen := hown.1
  obtain ⟨pa, pn, pc, rfl⟩ := likeI.shape hp
  obtain ⟨qa, qn, qc, rfl⟩ := likeI.shape hq
  have hw : Region.wanted o (yielded ops a.tmps) = true := by simp [Region.wanted, hgd]
  have := step_append_sl (ops := ops) (E := True) (K := K) (Q := Q) (a := a) w hgd s x 119 ho B 72 i0 (.agg #[.slice none 0 0, .slice none 0 0]) 2 48 Tryz.underlying119 hi hz0 hz1 hz2 rfl (by decide) v l.length xs hs hown
    ⟨b, 0, none⟩ 1 c [.slice pa pn pc, .slice qa qn qc] hx rfl (fun j u hu => by rw [add_plain, hb.cell]; simpa using hu) (by simp [Value.oneCell']) (by decide) (by unfold maxLen; omega) (by omega) hB zero_sl (two_sl _ _ _ _ _ _) hal
    (fun g cap w' ho' hg ha' => h g cap w' (MadeP.step likeI hc (by omega) hal hp hq ho' hg ha') (h0.grown hg hB (fun k hk => (hown.lt k hk).1)))
  rwa [if_pos hw] at this
end Go.Proofs.YtcbpbhaimjhelaaGreatDoor
