/- A vector of the specification while a call makes it: a box with a list of long numbers and a denominator; one number more behind the list. Conditions: at most 10^6 numbers. -/
import Derived.Test.YtiddhnnofpbopaaDoorRsG
import Derived.Test.YtiddhnnofpbopaaDoorRg2
namespace Go.Proofs.YtiddhnnofpbopaaDoor
open Go.RowKit Go.Deep
set_option linter.unusedVariables false
set_option linter.unusedSimpArgs false

theorem wp_append_long {ops : Array Oper} {o : Oper} {a : Act} {w : World} {K : Act → World → Prop} {Q : Exit → Act → World → Prop} (hgd : o.guard = none) (s x : Operand)
    (ho : o.op = .call { callee := .builtin .append, args := #[s, x], argTypes := #[30, 30] }) (O : Nat) (v : Value) (R : List Nat) (hM : MadeL LongS 29 w (O + 1) v R) (hs : a.eval s = v)
    (b c : Nat) (p : Value) (N : Nat) (hx : a.eval x = .slice (some ⟨b, 0, none⟩) 1 c) (hb : Blk w b #[p] 29) (hp : LongS w p N) (hl : R.length ≤ 1000000) (hB : O + 1 ≤ w.heap.size)
    (h : ∀ g cap w', MadeL LongS 29 w' (O + 1) (.slice (some ⟨g, 0, none⟩) (R.length + 1) cap) (R ++ [N]) → O + 1 ≤ g → Below (O + 1) w w' → (∀ u D, LongS w u D → LongS w' u D) → K (a.put o.dst (.slice (some ⟨g, 0, none⟩) (R.length + 1) cap)) w') : o.wp Tryd.prog a w K Q := by
  obtain ⟨i0, hi, hz0, hz1, hz2⟩ := info_parts Tryd.infoRow
  obtain ⟨xs, hown, hal, hc⟩ := hM
  have hlen := hown.1
  obtain ⟨pa, pn, pc, rfl⟩ := likeS.shape hp
  have hw : Region.wanted o (yielded ops a.tmps) = true := by simp [Region.wanted, hgd]
  have := step_append_sl (ops := ops) (E := True) (K := K) (Q := Q) (a := a) w hgd s x 30 ho (O + 1) 29 i0 (.slice none 0 0) 1 24 Tryd.underlying30 hi hz0 hz1 hz2 rfl (by decide) v R.length xs hs hown
    ⟨b, 0, none⟩ 1 c [.slice pa pn pc] hx rfl (fun j u hu => by rw [add_plain, hb.cell]; simpa using hu) (by simp [Value.oneCell']) (by decide) (by unfold maxLen; omega) (by omega) hB zero_sl1 (sl1 _ _ _) hal
    (fun g cap w' ho' hg ha' => h g cap w' (MadeL.step likeS hc (by omega) hal hp ho' hg ha') ((ho'.lt g rfl).1) ((Below.refl (O + 1) w).grown hg hB (fun k hk => (hown.lt k hk).1)) (fun u D hu => hu.grownSl hal hg))
  rwa [if_pos hw] at this

/-- a vector at a box -/
def VecAt (w : World) (O : Nat) (R : List Nat) (na : Option Addr) (nc : Nat) (den : Value) (D : Nat) : Prop :=
  Blk w O #[.slice na R.length nc, den] 32 ∧ MadeL LongS 29 w (O + 1) (.slice na R.length nc) R ∧ LongS w den D
theorem VecAt.keep {w w' : World} {O : Nat} {R : List Nat} {na : Option Addr} {nc : Nat} {den : Value} {D : Nat} (h : VecAt w O R na nc den D) (hb : Below w.heap.size w w') : VecAt w' O R na nc den D :=
  ⟨h.1.keep hb h.1.lt, h.2.1.keep likeS hb, h.2.2.keep hb⟩
/-- the longer list stored into the box -/
theorem VecAt.store {w : World} {O : Nat} {R : List Nat} {na : Option Addr} {nc g cap : Nat} {den : Value} {D N : Nat} (hB : Blk w O #[.slice na R.length nc, den] 32) (hM : MadeL LongS 29 w (O + 1) (.slice (some ⟨g, 0, none⟩) (R.length + 1) cap) (R ++ [N])) (hg : O + 1 ≤ g) (hD : LongS w den D) :
    VecAt (w.setCell ⟨O, 0, none⟩ (.slice (some ⟨g, 0, none⟩) (R.length + 1) cap)) O (R ++ [N]) (some ⟨g, 0, none⟩) cap den D := by
  obtain ⟨da, dl, dc, rfl⟩ := likeS.shape hD
  have e : (R ++ [N]).length = R.length + 1 := by simp
  refine ⟨?_, ?_, hD.setBox hB 0 _⟩
  · rw [e]; have := hB.set 0 (.slice (some ⟨g, 0, none⟩) (R.length + 1) cap); simpa using this
  · rw [e]; exact hM.setBox (fun h hB j u => h.setBox hB j u) hB (by simp [Value.ownBlock]; omega) 0 _
end Go.Proofs.YtiddhnnofpbopaaDoor
