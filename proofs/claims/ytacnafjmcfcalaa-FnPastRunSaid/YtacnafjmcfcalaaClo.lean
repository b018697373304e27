/- What the kernel reckons of a seat's whole program, once for all its laws. Conditions: none. -/
import Derived.Test.YtacnafjmcfcalaaOpen
namespace Go.Proofs.Ytacnafjmcfcalaa
open Go.ChangeShapes Go.WideShapes Go.ChangeAt Go.RowKit Go.Deep Go.Joins

theorem clo_laid : laidOutB Try.prog = true := by kernel_rfl
theorem clo_maps : mapsRowed Try.prog = true := by kernel_rfl
theorem clo_stops : (Try.prog.stops == []) = true := by kernel_rfl
theorem clo_knobs : (Try.prog.stopKnobs == []) = true := by kernel_rfl
theorem clo_keys : (Rows.fnForwardRow.plainKeys == Try.prog.plainKeys) = true := by kernel_rfl
theorem clo_heard : Try.prog.stopsHeard = true := by kernel_rfl
theorem clo_enter : Try.prog.mayEnter = true := by kernel_rfl
theorem clo_lifts : (Rows.fnForwardRow.lifted == Try.prog.liftsFinal) = true := by kernel_rfl
theorem clo_make : (Try.prog.make == some Rows.fnForwardRow.make) = true := by kernel_rfl
end Go.Proofs.Ytacnafjmcfcalaa
