/- For every maps the project's MapsText and the specification's answer alike, and the maps are left as they were.
   Conditions: none beyond the row's own (every input that can be read as data); the listed tables hold what their texts say. -/
import Derived.Test.YtgaadcinhaphpaaDoorMt
import Derived.Test.YtgaadcinhaphpaaDoorMapsM
import Derived.Test.YtgaadcinhaphpaaDoorMapsT
import Derived.Test.YtgaadcinhaphpaaDoorTabL
namespace Go.Proofs.YtgaadcinhaphpaaDoor.fnExactMapsText
open Go.ChangeShapes Go.WideShapes Go.ChangeAt Go.RowKit Go.Deep Go.Joins
open Go.ChangeMaps (open_string shut_string)
set_option linter.unusedVariables false
set_option linter.unusedSimpArgs false

theorem own : ownKnob Tryd.prog.godebug = none := by kernel_rfl
theorem laidOut : laidOutB Tryd.prog = true := by kernel_rfl

theorem allcells {w : World} {b : Nat} {x0 x1 x2 : Value} {t : TypeId} (h : Blk w b #[x0, x1, x2] t) : w.cell? ⟨b, 0, none⟩ = some x0 ∧ w.cell? ⟨b, 1, none⟩ = some x1 ∧ w.cell? ⟨b, 2, none⟩ = some x2 := ⟨h.cell 0, h.cell 1, h.cell 2⟩
theorem eqMaps_self (x y : Value) (s : Ms) (w : World) (hx : MsR w x s) (hy : MsR w y s) :
    Calls Tryd.prog 21 #[x, y] w fun e w' => e = .returned (.bool true) ∧ Below w.heap.size w w' := eq_ms x y s w hx hy
set_option maxRecDepth 100000 in
set_option maxHeartbeats 16000000 in
theorem walk {w : World} (v : Value) (s : Ms) (hv : MsR w v s) :
    Calls Tryd.prog 5 #[v] w fun e w' => e = .returned (.bool true) ∧ Below w.heap.size w w' := by
  obtain ⟨a, cap, rfl⟩ := hv.shape
  have B0 := below1 w (.cells #[.int .i64 s.n, .int .i64 s.t, .slice a s.l.length cap] 39)
  have hX := Blk.new w #[.int .i64 s.n, .int .i64 s.t, .slice a s.l.length cap] 39
  have hz := Lib.hid (szMaps_any _ s 1048576 _ (hv.keep B0) (by decide) (by decide))
  have hv' := Lib.hid hv
  have hs := Lib.hid (fun x W h => MapsText_spec x s W h)
  have hi := Lib.hid (fun x W h => MapsText_impl x s W h)
  have he := Lib.hid (fun x y W h h' => eqMaps_self x y s W h h')
  clear hv
  by_cases hq : (1048576 : Int) < ((s.l.length + tot s.l : Nat) : Int)
  · have hn := Lib.hid (szLeft_no hq)
    have hneg : szLeft 1048576 (s.l.length + tot s.l) < 0 := by rw [hn.out]; decide
    generalize szLeft 1048576 (s.l.length + tot s.l) = L at *
    clear hq
    go_enter Tryd.func5, Tryd.ntmps5
    go_wp2_with fail
    (with_reducible refine hz.out.mono ?_)
    rintro e w1 ⟨rfl, b1⟩
    go_wp2
    go_ret
    exact ⟨rfl, below_wt B0 b1⟩
  · have hn := Lib.hid (szLeft_yes (show ((s.l.length + tot s.l : Nat) : Int) ≤ 1048576 by omega))
    have hneg : ¬ szLeft 1048576 (s.l.length + tot s.l) < 0 := by rw [hn.out]; omega
    have ht := Lib.hid (fun W h => toMaps_any (.agg #[.int .i64 s.n, .int .i64 s.t, .slice a s.l.length cap]) s W h (by omega))
    generalize szLeft 1048576 (s.l.length + tot s.l) = L at *
    generalize mtextOf s = ok at hs hi
    clear hq
    go_enter Tryd.func5, Tryd.ntmps5
    go_wp2_with fail
    (with_reducible refine hz.out.mono ?_)
    rintro e w1 ⟨rfl, b1⟩
    have X1 := hX.keep b1 hX.lt
    have B1 := below_wt B0 b1
    obtain ⟨x0, x1, x2⟩ := allcells X1
    go_wp2_with fail
    (with_reducible refine (ht.out _ (hv'.out.keep B1)).mono ?_)
    rintro e w2 ⟨y2, rfl, o2, b2⟩
    go_wp2_with fail
    (with_reducible refine (hs.out _ _ o2.ch).mono ?_)
    rintro e w3 ⟨rfl, b3⟩
    clear x0 x1 x2
    have X3 := (X1.keep b2 X1.lt).keep b3 (X1.keep b2 X1.lt).lt
    have B3 := below_wt (below_wt B1 b2) b3
    obtain ⟨x0, x1, x2⟩ := allcells X3
    clear X1 B1 b1 b2 b3 o2
    go_wp2_with fail
    (with_reducible refine (ht.out _ (hv'.out.keep B3)).mono ?_)
    rintro e w4 ⟨y4, rfl, o4, b4⟩
    clear x0 x1 x2
    obtain ⟨a4, cap4, rfl⟩ := o4.ch.shape
    have X4 := (X3.keep b4 X3.lt).alloc (.cells #[.int .i64 s.n, .int .i64 s.t, .slice a4 s.l.length cap4] 44)
    have Y4 := Blk.new w4 #[.int .i64 s.n, .int .i64 s.t, .slice a4 s.l.length cap4] 44
    have b45 := below1 w4 (.cells #[.int .i64 s.n, .int .i64 s.t, .slice a4 s.l.length cap4] 44)
    have O5 := o4.ch.keep b45
    have B5 := below_wt (below_wt B3 b4) b45
    clear o4 X3 B3 b4 b45
    go_upto_region 7 with fail
    obtain ⟨w5, hw5⟩ : ∃ u, w4.alloc (.cells #[.int .i64 s.n, .int .i64 s.t, .slice a4 s.l.length cap4] 44) = u := ⟨_, rfl⟩
    rw [hw5] at X4 Y4 O5 B5 ⊢
    have hw5' := Lib.hid hw5
    clear hw5
    obtain ⟨y0, y1, y2⟩ := allcells Y4
    go_wp2_with fail
    (with_reducible refine (hi.out _ _ O5).mono ?_)
    rintro e w6 ⟨rfl, b6⟩
    clear y0 y1 y2
    have X6 := X4.keep b6 X4.lt
    have Y6 := Y4.keep b6 Y4.lt
    have O6 := O5.keep b6
    have B6 := below_wt B5 b6
    clear X4 Y4 O5 B5 b6
    have hok2 : (ok.toList == ok.toList) = true := by simp
    go_upto_region 10 with fail
    obtain ⟨x0, x1, x2⟩ := allcells X6
    obtain ⟨y0, y1, y2⟩ := allcells Y6
    have l1 := X6.lt
    have l2 := Y6.lt
    go_region_held3 (fun w' => w'.cell? ⟨w.heap.size, 0, none⟩ = some (.int .i64 s.n) ∧ w'.cell? ⟨w.heap.size, 1, none⟩ = some (.int .i64 s.t) ∧ w'.cell? ⟨w.heap.size, 2, none⟩ = some (.slice a s.l.length cap) ∧ w'.cell? ⟨w4.heap.size, 0, none⟩ = some (.int .i64 s.n) ∧ w'.cell? ⟨w4.heap.size, 1, none⟩ = some (.int .i64 s.t) ∧ w'.cell? ⟨w4.heap.size, 2, none⟩ = some (.slice a4 s.l.length cap4))
      (go_keep)
      (first
        | (go_at_call 19; (with_reducible refine (ht.out _ (hv'.out.keep B6.drew)).mono ?_); rintro e w7 ⟨z, rfl, o7, b7⟩; obtain ⟨a7, cap7, rfl⟩ := o7.ch.shape; obtain ⟨x0', x1', x2'⟩ := allcells (X6.drew.keep b7 l1); obtain ⟨y0', y1', y2'⟩ := allcells (Y6.drew.keep b7 l2))
        | (go_at_call 21; (with_reducible refine (he.out _ _ _ ((O6.keep (Below.refl _ _).drew).keep b7) o7.ch).mono ?_); rintro e w8 ⟨rfl, b8⟩; obtain ⟨x0'', x1'', x2''⟩ := allcells ((X6.drew.keep b7 l1).keep b8 (by have := b7.size; simp at this; omega)); obtain ⟨y0'', y1'', y2''⟩ := allcells ((Y6.drew.keep b7 l2).keep b8 (by have := b7.size; simp at this; omega)))
        | fail "no arm")
    go_wp2
    go_ret
    exact ⟨rfl, below_wt (below_wt B6.drew b7) b8⟩

set_option maxRecDepth 100000 in
theorem lifted (os : Os) (started : os.Started) (H : Type) (enc : TypeId × Value → H) :
    ReturnsInHanded {} Tryd.checked os 5 .any (fun w args => (Rows.fnExactMapsTextSpec.pre enc Tryd.prog Tryd.f5 [] false w args ∧ laidMetH Tryd.prog laidL w) ∧ sizedMet enc Tryd.prog Tryd.f5 (OpenSpec.ofChange Rows.fnExactMapsTextSpec) false w args)
      (Rows.fnExactMapsTextSpec.post enc Tryd.prog Tryd.f5 false true false false) := by
  refine returnsInHanded_of_change_and (C := Tryd.checked) (X := fun w _ => laidMetH Tryd.prog laidL w) (fun _ _ _ hh h => h.of_heap hh) own started (by kernel_rfl) Tryd.func5
    (ChangeSpec.witness_shaped (enc := enc) (C := Tryd.checked) (os := os) (X := fun w _ => laidMetH Tryd.prog laidL w) false (World.doorLaid Tryd.prog 400 os) #[.agg #[.int .i64 0, .int .i64 0, .slice none 0 0]] 8 rfl (World.shaped_of_RefB (by kernel_rfl) (by kernel_rfl)) (by kernel_rfl) (by kernel_rfl) (by kernel_rfl) (door_met os _)) ?_
  intro W base args ds gs before hval0 hW _ _ hL _
  have hval : ∀ (j : Nat) t v, Tryd.f5.params[j]? = some t → args[j]? = some v → Value.okWide Tryd.prog W .any base t v := hval0
  have hW' := hW
  obtain ⟨p, q, hA0, hV, rfl, hfz, hnd⟩ := hW
  have hA : DataW.TrodAll enc Tryd.prog W 0 (fun _ => true) true Tryd.f5.params.toList args.toList ds p := hA0
  rw [Tryd.params5] at hA hval
  obtain ⟨v0, vs0, d0, ds0, p0, q0, hargs, rfl, rfl, h0, r0⟩ := trodAll_cons hA
  obtain ⟨rfl, rfl, rfl⟩ := trodAll_nil r0
  obtain rfl : args = #[v0] := by cases args; simp_all
  obtain ⟨rfl, rfl⟩ := trodVars_none hV
  have k0 := h0
  have lt0 : ∀ x ∈ p0, x.block < W.heap.size := by obtain ⟨m, hm⟩ := k0; exact DataW.trod_lt m _ _ _ hm
  obtain ⟨c0, w0⟩ := open_maps (hval 0 39 v0 rfl rfl) h0
  clear hA0 hval0
  refine (walk v0 c0 w0).mono fun e W' ⟨he, bel⟩ => ?_
  subst he
  exact ⟨_, rfl, _, _, _, [], _, [], hW', trodAll_mk1 (shut_bool Tryd.underlying4 _), (trodAll_cons_mk (Below.trod laidOut (by kernel_rfl) (of_decide_eq_true (by kernel_rfl)) k0 bel lt0) trodAll_mk0), rfl, bel.frame _, fun h => by cases h⟩

theorem over : Rows.FnExactMapsTextSaid :=
  OpenClaim.holds_of_wide 5 Tryd.f5 rfl rfl rfl rfl rfl rfl rfl ⟨rfl, rfl, rfl, rfl, rfl⟩ rfl rfl rfl rfl rfl (by kernel_rfl) Tryd.func5 (by kernel_rfl)
    (of_decide_eq_true (by kernel_rfl)) (by unfold Func.isWrapper; first | (rw [if_pos (by decide +kernel)]; kernel_rfl) | (rw [if_neg (by decide +kernel)]; exact ⟨rfl, rfl⟩))
    (fun os started H enc _ => lifted os started H enc)

/-- the statement: the tied card -/
theorem proved : Rows.FnExactMapsTextCardSaid :=
  Claim7.holds_tied_plain_at .later [] [.data, .data, .data] true (true, "f2186e0d17d8174651a103b60418ff93ea6ac70de63efffaf2396e8adab74000") false
    over (fun _ h => by cases h) (by kernel_rfl) (fun _ h => by cases h) fnExactMapsText_row_tie rfl ⟨rfl, rfl⟩ (by kernel_rfl) rfl
    (fun f fn hf hfn => by
      obtain rfl : f = 5 := Option.some.inj ((show Tryd.prog.funcNamed "loop.example/g01118/laws.FnExactMapsText" = some 5 by kernel_rfl).symm.trans hf) |>.symm
      obtain rfl : fn = Tryd.f5 := (Option.some.inj (Tryd.func5.symm.trans hfn)).symm
      exact ⟨by kernel_rfl, fun j t ht => by
        rw [Tryd.params5] at ht
        have hm : t ∈ [39] := by simpa using Array.mem_of_getElem? ht
        have hall : ([39].all fun u => !Tryd.prog.wantsStandIn u) = true := by kernel_rfl
        exact (show Tryd.prog.wantsStandIn t = false by simpa using List.all_eq_true.1 hall t hm)⟩)
    (by kernel_rfl)
end Go.Proofs.YtgaadcinhaphpaaDoor.fnExactMapsText
