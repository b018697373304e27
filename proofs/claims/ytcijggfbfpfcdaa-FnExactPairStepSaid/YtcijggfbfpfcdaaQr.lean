/- Regions that draw their order inside a round of a range over a function: one walk in the text's order serves, where the operations and callees only read, draw or lay blocks of their own. Conditions: no 'defer' among them. -/
import Derived.RangeFuncNested
import Derived.RangeFuncBound
import Derived.RangeFuncCalls
import Derived.RangeFuncLeaves
import Derived.RangeFuncFrom
import Derived.OrdersIn
import Derived.ControlIn
import Derived.BigQuiet
import Derived.Shelf.SlSortCmp.QuietGrown
import Derived.Shelf.RegionOpen
import Derived.Test.YtcijggfbfpfcdaaKinds
namespace Go.Proofs.Ytcijggfbfpfcdaa
open Go.RowKit Go.Shelf Go.Sort

def calmOp (o : Oper) : Bool := match o.op with | .defer _ => false | _ => true
theorem calmOp_no {o : Oper} (h : calmOp o = true) (c) : o.op ≠ .defer c := by
  intro e; unfold calmOp at h; rw [e] at h; cases h
theorem oper_round {P : Program} {C : World → Prop} {o : Oper} {a : Act} {K : Act → Prop} {K' : Act → World → Prop} {Q' : Exit → Act → World → Prop} {w : World} {n l : Nat} (hd : calmOp o = true) (hw : C w)
    (h : ∀ a w', C w' → K a → K' a w') (hh : o.quiet P a C K) : o.wpIn (Fence.wide.inRound l) n P a w K' Q' := by
  obtain ⟨v, h1, h2⟩ := hh
  have h3 := h1 w hw
  refine ⟨fun _ _ => trivial, ?_⟩
  rw [Fence.inRound_round, Oper.semAt_some _ _ _ (calmOp_no hd)]
  unfold Oper.quietAt at h3
  generalize (execOp a.eval o).run P w = r at *
  rcases r with ⟨x, w1⟩ | ⟨x, w1⟩
  · cases x with
    | value u => obtain ⟨rfl, rfl⟩ := h3; exact h _ _ hw h2
    | skip => obtain ⟨rfl, rfl⟩ := h3; exact h _ _ hw h2
    | enter f args =>
      obtain ⟨rfl, hc⟩ := h3
      refine ⟨fun hs => by simp [Fence.wide] at hs, CallsIn.inRound l (callsIn_wide.2 (hc.mono fun e w2 ⟨he, hw2⟩ => ?_))⟩
      subst he
      exact h _ _ hw2 h2
    | _ => exact h3.elim
  · exact h3.elim
theorem any_round {P : Program} {C : World → Prop} {md : Region.Mode} {ops : Array Oper} {n l : Nat} (hd : ∀ (i : Nat) (o : Oper), ops[i]? = some o → calmOp o = true) {Q : Act → Prop} {Q' : Exit → Act → World → Prop} (hQ : ∀ a w, C w → Q a → Q' .normal a w) :
    ∀ (fuel : Nat) (listed : Array Bool) (a : Act) (w : World), C w → wpAnyQ P md ops C Q fuel listed a → wpAnyIn (Fence.wide.inRound l) n P md ops Q' fuel listed a w
  | 0, _, _, _, hw, h => ⟨h.1, hQ _ _ hw h.2⟩
  | fuel + 1, listed, a, w, hw, h => by
    refine ⟨fun h0 => hQ _ _ hw (h.1 h0), fun i hi => ?_⟩
    have hq := h.2 i hi
    unfold qOp at hq
    unfold wpOpIn
    cases ho : ops[i]? with
    | none => rw [ho] at hq; exact any_round hd hQ fuel _ _ _ hw hq
    | some o =>
      rw [ho] at hq
      simp only at hq ⊢
      by_cases hwn : Region.wanted o (yielded ops a.tmps) = true
      · rw [if_pos hwn] at hq ⊢
        exact oper_round (hd i o ho) hw (fun a' w' hw' hk => any_round hd hQ fuel _ a' w' hw' hk) hq
      · rw [if_neg hwn] at hq ⊢
        exact ⟨fun _ _ => trivial, any_round hd hQ fuel _ _ _ hw hq⟩
theorem region_round {P : Program} {C : World → Prop} {id n l : Nat} {Q : Exit → Act → World → Prop} {a : Act} {w : World} {ops : List Oper} (hm : P.follows .mixedOrders = true) (hB : Region.lexB .any ops.toArray = true) (hd : ops.all calmOp = true)
    (hC : C { w with drawn := w.drawn + 1 }) (h : wpQuiet P ops.toArray C (fun a' => ∀ w', C w' → Q .normal a' w') ops a) : (Code.region id ops.toArray true).wpIn (Fence.wide.inRound l) n P Q a w := by
  simp only [Region.lexB, Bool.and_eq_true] at hB
  refine wpIn_region_any hm (any_round (Q := fun a' => ∀ w', C w' → Q .normal a' w') (fun i o ho => ?_) (fun _ w' hw' h => h w' hw') _ _ _ _ hC ?_)
  · rw [List.all_eq_true] at hd
    rw [List.getElem?_toArray] at ho
    exact hd o (List.mem_of_getElem? ho)
  · have := wpAnyQ_lex (C := C) (md := .any) hB.1 ops 0 (Array.replicate ops.toArray.size false) a (by simp) (by simpa using hB.2) (by simpa using h)
    simpa using this
/-- callees that draw, and lay nothing -/
theorem region_round_q {P : Program} {id n l : Nat} {Q : Exit → Act → World → Prop} {a : Act} {w : World} {ops : List Oper} (hm : P.follows .mixedOrders = true) (hB : Region.lexB .any ops.toArray = true) (hd : ops.all calmOp = true)
    (h : wpQuiet P ops.toArray (fun w' => ∃ n, w' = w.drewN n) (fun a' => ∀ w', (∃ n, w' = w.drewN n) → Q .normal a' w') ops a) : (Code.region id ops.toArray true).wpIn (Fence.wide.inRound l) n P Q a w :=
  region_round (C := fun w' => ∃ n, w' = w.drewN n) hm hB hd ⟨1, rfl⟩ h
/-- callees that lay blocks of their own -/
theorem region_round_g {P : Program} {id n l : Nat} {Q : Exit → Act → World → Prop} {a : Act} {w : World} {ops : List Oper} (hm : P.follows .mixedOrders = true) (hB : Region.lexB .any ops.toArray = true) (hd : ops.all calmOp = true)
    (h : wpQuiet P ops.toArray (fun w' => ∃ p : GrownBy, w' = grow (w.drewN p.n) p.os) (fun a' => ∀ w', (∃ p : GrownBy, w' = grow (w.drewN p.n) p.os) → Q .normal a' w') ops a) : (Code.region id ops.toArray true).wpIn (Fence.wide.inRound l) n P Q a w :=
  region_round (C := fun w' => ∃ p : GrownBy, w' = grow (w.drewN p.n) p.os) hm hB hd ⟨⟨1, #[]⟩, by rw [grow_empty]; rfl⟩ h
theorem below_grown (w : World) (n : Nat) (os : Array Obj) : Below w.heap.size w (grow (w.drewN n) os) :=
  ⟨rfl, rfl, rfl, by simp [grow], fun k hk => by simp only [grow]; exact Array.getElem?_append_left hk⟩
theorem keeps_grown (w : World) (n : Nat) (os : Array Obj) : KeepsOthers w (grow (w.drewN n) os) :=
  ⟨by simp [grow], fun l o h _ => by simp only [grow]; exact (Array.getElem?_append_left (Array.getElem?_eq_some_iff.1 h).1).trans h⟩
end Go.Proofs.Ytcijggfbfpfcdaa
