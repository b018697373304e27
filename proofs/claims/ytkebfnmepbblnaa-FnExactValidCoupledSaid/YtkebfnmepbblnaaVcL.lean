/- ValidCoupled of the specification, and what the law imports. Conditions: none. -/
import Derived.Test.YtkebfnmepbblnaaVcS2
import Derived.Test.YtkebfnmepbblnaaCoup
namespace Go.Proofs.Ytkebfnmepbblnaa
open Go.RowKit Go.Deep
set_option linter.unusedVariables false

set_option maxHeartbeats 4000000 in
theorem ValidCoupled_spec (cv mv : Value) (c m : Ch) (w : World) (hc : ChR w cv c) (hm : ChR w mv m) :
    Calls Try.prog 55 #[cv, mv] w fun e w' => e = .returned (.bool (coOk c m)) ∧ Below w.heap.size w w' := by
  obtain ⟨a, cap, rfl⟩ := hc.shape
  obtain ⟨ma, mcap, rfl⟩ := hm.shape
  have B0 := below2 w (.cells #[.int .i64 c.n, .int .i64 c.t, .slice a c.w.length cap] 29) (.cells #[.int .i64 m.n, .int .i64 m.t, .slice ma m.w.length mcap] 76)
  have hB := (Blk.new w #[.int .i64 c.n, .int .i64 c.t, .slice a c.w.length cap] 29).alloc (.cells #[.int .i64 m.n, .int .i64 m.t, .slice ma m.w.length mcap] 76)
  have hD := Blk.new (w.alloc (.cells #[.int .i64 c.n, .int .i64 c.t, .slice a c.w.length cap] 29)) #[.int .i64 m.n, .int .i64 m.t, .slice ma m.w.length mcap] 76
  simp only [World.size_alloc] at hD
  have Pc : ChP _ w.heap.size c := ⟨_, hB.cell 0, hB.cell 1, hB.cell 2, (hc.keep B0).rows⟩
  have Pm : ChP _ (w.heap.size + 1) m := ⟨_, hD.cell 0, hD.cell 1, hD.cell 2, (hm.keep B0).rows⟩
  have hcall := Lib.hid (l04Ok_any w.heap.size (w.heap.size + 1) c m _ Pc Pm)
  generalize coOk c m = r at *
  clear hB hD Pc Pm hc hm
  go_enter Try.func55, Try.ntmps55
  go_wp2_with fail
  (with_reducible refine hcall.out.mono ?_)
  rintro e w' ⟨rfl, k, rfl⟩
  go_wp2
  go_ret
  exact ⟨rfl, below_drewN B0 _⟩
end Go.Proofs.Ytkebfnmepbblnaa
