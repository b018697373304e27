/- A region that draws its order, whose operations only read, and whose callees make memory of their own and hand back a number or a Bool: one walk in the text's order serves. Conditions: what a callee hands back is the same in every later world. -/
import Derived.Test.YtcbpbhaimjhelaaGreatDoorChainG
namespace Go.Proofs.YtcbpbhaimjhelaaGreatDoor
open Go.RowKit Go.Deep
set_option linter.unusedVariables false

/-- a world behind w: nothing of w has turned -/
structure Later (w : World) where
  wd : World
  bel : Below w.heap.size w wd

instance (w : World) : Inhabited (Later w) := ⟨⟨w, Below.refl _ _⟩⟩

theorem Later.cell {w : World} {a : Addr} {v : Value} (h : w.cell? a = some v) (p : Later w) : p.wd.cell? a = some v := (p.bel.cell (block_lt h)).trans h
theorem region_later {P : Program} {id : Nat} {Q : Exit → Act → World → Prop} {a : Act} {w : World} {l : List Oper} (hm : P.follows .mixedOrders = true) (hB : Region.lexB .any l.toArray = true)
    (h : wpQuiet P l.toArray (fun w' => ∃ p : Later w, w' = p.wd) (fun a' => ∀ w', (∃ p : Later w, w' = p.wd) → Q .normal a' w') l a) : (Code.region id l.toArray true).wp P Q a w :=
  wp_region_quiet (C := fun w' => ∃ p : Later w, w' = p.wd) hm hB ⟨⟨_, below_drewN (Below.refl _ _) 1⟩, rfl⟩ (by simpa using h)
/-- a callee's contract, met in a world of the class -/
theorem later_of {P : Program} {f : FuncId} {args : Array Value} {w : World} {p : Later w} {v : Value}
    (h : Calls P f args p.wd fun e w' => e = .returned v ∧ Below p.wd.heap.size p.wd w') : Calls P f args p.wd fun e w'' => e = .returned v ∧ ∃ q : Later w, w'' = q.wd :=
  h.mono fun _ _ ⟨he, hb⟩ => ⟨he, ⟨_, below_wt p.bel hb⟩, rfl⟩
theorem later_same {P : Program} {f : FuncId} {args : Array Value} {w : World} {p : Later w} {v : Value}
    (h : Calls P f args p.wd fun e w' => e = .returned v ∧ p.wd = w') : Calls P f args p.wd fun e w'' => e = .returned v ∧ ∃ q : Later w, w'' = q.wd :=
  h.mono fun _ _ ⟨he, hb⟩ => ⟨he, p, hb.symm⟩
theorem later_drewn {P : Program} {f : FuncId} {args : Array Value} {w : World} {p : Later w} {v : Value}
    (h : Calls P f args p.wd fun e w' => e = .returned v ∧ ∃ m, w' = p.wd.drewN m) : Calls P f args p.wd fun e w'' => e = .returned v ∧ ∃ q : Later w, w'' = q.wd :=
  h.mono fun _ _ ⟨he, m, hb⟩ => ⟨he, ⟨_, below_drewN p.bel m⟩, hb⟩
end Go.Proofs.YtcbpbhaimjhelaaGreatDoor
