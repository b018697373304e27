/- For every two choices of bytes the law FnFractions holds.
   Conditions: none beyond the row's own (every input that can be read as data); the listed tables hold what their texts say. -/
import Derived.Test.YtcbpbhaimjhelaaGreatDoorFf
import Derived.Test.YtcbpbhaimjhelaaGreatDoorOpsG
import Derived.Test.YtcbpbhaimjhelaaGreatDoorCod
import Derived.Test.YtcbpbhaimjhelaaGreatDoorRg
import Derived.Test.YtcbpbhaimjhelaaGreatDoorTab
namespace Go.Proofs.YtcbpbhaimjhelaaGreatDoor.fnFractions
open Go.ChangeShapes Go.WideShapes Go.ChangeAt Go.RowKit Go.Deep Go.Joins
open Go.ChangeMaps (open_string shut_string)
set_option linter.unusedVariables false
set_option linter.unusedSimpArgs false

theorem own : ownKnob Tryz.prog.godebug = none := by kernel_rfl
theorem laidOut : laidOutB Tryz.prog = true := by kernel_rfl

set_option maxRecDepth 100000 in
set_option maxHeartbeats 8000000 in
theorem walk_big {w : World} (v0 : Value) (l0 : Nat) (k0 : Bytes w v0 l0) (v1 : Value) (l1 : Nat) (k1 : Bytes w v1 l1) (hq : 4096 < l0 ∨ (l0 ≤ 4096 ∧ 4096 < l1)) :
    Calls Tryz.prog 3 #[v0, v1] w fun e w' => e = .returned (.bool true) ∧ Below w.heap.size w w' := by
  obtain ⟨a0, p0, rfl⟩ : ∃ a cap, v0 = .slice a l0 cap := by obtain ⟨_, a, cap, h, _⟩ := k0; exact ⟨a, cap, h⟩
  obtain ⟨a1, p1, rfl⟩ : ∃ a cap, v1 = .slice a l1 cap := by obtain ⟨_, a, cap, h, _⟩ := k1; exact ⟨a, cap, h⟩
  rcases hq with h | ⟨h, h'⟩
  · have hd := Lib.hid (show decide ((4096 : Int) < (l0 : Int)) = true from decide_eq_true (by omega))
    go_enter Tryz.func3, Tryz.ntmps3
    go_wp2_with fail
    refine (f6big_any _ l0 w k0).mono ?_
    rintro e w1 ⟨rfl, rfl⟩
    rw [hd.out]
    go_wp2
    go_ret
    exact ⟨rfl, Below.refl _ _⟩
  · have hd := Lib.hid (show decide ((4096 : Int) < (l0 : Int)) = false from decide_eq_false (by omega))
    have hd' := Lib.hid (show decide ((4096 : Int) < (l1 : Int)) = true from decide_eq_true (by omega))
    go_enter Tryz.func3, Tryz.ntmps3
    go_wp2_with fail
    refine (f6big_any _ l0 w k0).mono ?_
    rintro e w1 ⟨rfl, rfl⟩
    rw [hd.out]
    go_wp2_with fail
    refine (f6big_any _ l1 w k1).mono ?_
    rintro e w1 ⟨rfl, rfl⟩
    rw [hd'.out]
    go_wp2
    go_ret
    exact ⟨rfl, Below.refl _ _⟩

set_option maxRecDepth 100000 in
set_option maxHeartbeats 16000000 in
theorem walk_ok {w : World} (htab : Tab10 w) (v0 : Value) (l0 : Nat) (k0 : Bytes w v0 l0) (v1 : Value) (l1 : Nat) (k1 : Bytes w v1 l1) (h0 : l0 ≤ 4096) (h1 : l1 ≤ 4096) :
    Calls Tryz.prog 3 #[v0, v1] w fun e w' => e = .returned (.bool true) ∧ Below w.heap.size w w' := by
  obtain ⟨a0, p0, rfl⟩ : ∃ a cap, v0 = .slice a l0 cap := by obtain ⟨_, a, cap, h, _⟩ := k0; exact ⟨a, cap, h⟩
  obtain ⟨a1, p1, rfl⟩ : ∃ a cap, v1 = .slice a l1 cap := by obtain ⟨_, a, cap, h, _⟩ := k1; exact ⟨a, cap, h⟩
  have hd := Lib.hid (show decide ((4096 : Int) < (l0 : Int)) = false from decide_eq_false (by omega))
  have hd' := Lib.hid (show decide ((4096 : Int) < (l1 : Int)) = false from decide_eq_false (by omega))
  have htab' := Lib.hid htab
  clear htab
  go_enter Tryz.func3, Tryz.ntmps3
  go_wp2_with fail
  refine (f6big_any _ l0 w k0).mono ?_
  rintro e w1 ⟨rfl, rfl⟩
  rw [hd.out]
  go_wp2_with fail
  refine (f6big_any _ l1 w k1).mono ?_
  rintro e w1 ⟨rfl, rfl⟩
  rw [hd'.out]
  go_wp2_with fail
  refine (P6Fraction_any _ l0 w k0 h0).mono ?_
  rintro e u1 ⟨N, D, rfl, hD, hD2, hN, b1⟩
  go_wp2_with fail
  have n1 := below_wt b1 (below1 u1 (.cells #[.string (FrP N D).1, .string (FrP N D).2] 25))
  refine (P6Fraction_any _ l1 _ (k1.keep n1) h1).mono ?_
  rintro e u2 ⟨M, E, rfl, hE, hE2, hM, b2⟩
  obtain ⟨s, p, t, c, l, h, q, f, c8, c11, n, m, ff⟩ := ff_make N D M E hD hE hN hD2 hM hE2
  generalize FrP N D = a at *
  generalize FrP M E = b at *
  obtain ⟨ga1, ga2⟩ := a
  obtain ⟨gb1, gb2⟩ := b
  obtain ⟨gs1, gs2⟩ := s
  obtain ⟨gp1, gp2⟩ := p
  obtain ⟨gt1, gt2⟩ := t
  obtain ⟨gc1, gc2⟩ := c
  obtain ⟨gl1, gl2⟩ := l
  obtain ⟨gh1, gh2⟩ := h
  obtain ⟨gq1, gq2⟩ := q
  obtain ⟨gf1, gf2⟩ := f
  obtain ⟨add_i, mul_i, add_s, mul_s, less_sb, div_pb, less_ab, add_at, mul_cb, mul_tb, add_ph, val_s, val_p, cmp_ab, cmp_ba, f13, txt_i, txt_s, quo, ord⟩ := ff
  simp only at add_i mul_i add_s mul_s less_sb div_pb less_ab add_at mul_cb mul_tb add_ph val_s val_p cmp_ab cmp_ba f13 txt_i txt_s quo ord n1 ⊢
  replace add_i := Lib.hid add_i
  replace mul_i := Lib.hid mul_i
  replace add_s := Lib.hid add_s
  replace mul_s := Lib.hid mul_s
  replace less_sb := Lib.hid less_sb
  replace div_pb := Lib.hid div_pb
  replace less_ab := Lib.hid less_ab
  replace add_at := Lib.hid add_at
  replace mul_cb := Lib.hid mul_cb
  replace mul_tb := Lib.hid mul_tb
  replace add_ph := Lib.hid add_ph
  replace val_s := Lib.hid val_s
  replace val_p := Lib.hid val_p
  replace cmp_ab := Lib.hid cmp_ab
  replace cmp_ba := Lib.hid cmp_ba
  replace f13 := Lib.hid f13
  replace txt_i := Lib.hid txt_i
  replace txt_s := Lib.hid txt_s
  replace quo := Lib.hid quo
  replace ord := Lib.hid ord
  clear hD hE hN hD2 hM hE2 N D M E k0 k1 h0 h1 hd hd'
  have Xa := Blk.new u1 #[.string ga1, .string ga2] 25
  replace Xa := Xa.keep b2 Xa.lt
  have BB := below_wt n1 b2
  replace Xa := Xa.alloc (.cells #[.string gb1, .string gb2] 25)
  have Xb := Blk.new u2 #[.string gb1, .string gb2] 25
  replace BB := below_wt BB (below1 u2 (.cells #[.string gb1, .string gb2] 25))
  obtain ⟨xa0, xa1⟩ := (⟨Xa.cell 0, Xa.cell 1⟩ : _ ∧ _)
  obtain ⟨xb0, xb1⟩ := (⟨Xb.cell 0, Xb.cell 1⟩ : _ ∧ _)
  simp only [List.getElem?_toArray, List.getElem?_cons_zero, List.getElem?_cons_succ] at xa0 xa1 xb0 xb1
  go_wp2_with fail
  (with_reducible refine (add_i.out _ (htab'.out.keep BB)).mono ?_)
  rintro e u3 ⟨rfl, b3⟩
  clear xa0 xa1 xb0 xb1
  replace Xa := Xa.keep b3 Xa.lt
  replace Xb := Xb.keep b3 Xb.lt
  replace BB := below_wt BB b3
  replace Xa := Xa.alloc (.cells #[.string gs1, .string gs2] 25)
  replace Xb := Xb.alloc (.cells #[.string gs1, .string gs2] 25)
  have XS7 := Blk.new u3 #[.string gs1, .string gs2] 25
  replace BB := below_wt BB (below1 u3 (.cells #[.string gs1, .string gs2] 25))
  obtain ⟨xa0, xa1⟩ := (⟨Xa.cell 0, Xa.cell 1⟩ : _ ∧ _)
  obtain ⟨xb0, xb1⟩ := (⟨Xb.cell 0, Xb.cell 1⟩ : _ ∧ _)
  simp only [List.getElem?_toArray, List.getElem?_cons_zero, List.getElem?_cons_succ] at xa0 xa1 xb0 xb1
  go_wp2_with fail
  (with_reducible refine (mul_i.out _ (htab'.out.keep BB)).mono ?_)
  rintro e u4 ⟨rfl, b4⟩
  clear xa0 xa1 xb0 xb1
  replace Xa := Xa.keep b4 Xa.lt
  replace Xb := Xb.keep b4 Xb.lt
  replace XS7 := XS7.keep b4 XS7.lt
  replace BB := below_wt BB b4
  replace Xa := Xa.alloc (.cells #[.string gp1, .string gp2] 25)
  replace Xb := Xb.alloc (.cells #[.string gp1, .string gp2] 25)
  replace XS7 := XS7.alloc (.cells #[.string gp1, .string gp2] 25)
  have XP9 := Blk.new u4 #[.string gp1, .string gp2] 25
  replace BB := below_wt BB (below1 u4 (.cells #[.string gp1, .string gp2] 25))
  obtain ⟨xa0, xa1⟩ := (⟨Xa.cell 0, Xa.cell 1⟩ : _ ∧ _)
  obtain ⟨xb0, xb1⟩ := (⟨Xb.cell 0, Xb.cell 1⟩ : _ ∧ _)
  simp only [List.getElem?_toArray, List.getElem?_cons_zero, List.getElem?_cons_succ] at xa0 xa1 xb0 xb1
  go_wp2_with fail
  (with_reducible refine (add_s.out _).mono ?_)
  rintro e u5 ⟨rfl, b5⟩
  clear xa0 xa1 xb0 xb1
  replace Xa := Xa.keep b5 Xa.lt
  replace Xb := Xb.keep b5 Xb.lt
  replace XS7 := XS7.keep b5 XS7.lt
  replace XP9 := XP9.keep b5 XP9.lt
  replace BB := below_wt BB b5
  replace Xa := Xa.alloc (.cells #[.string gs1, .string gs2] 25)
  replace Xb := Xb.alloc (.cells #[.string gs1, .string gs2] 25)
  replace XS7 := XS7.alloc (.cells #[.string gs1, .string gs2] 25)
  replace XP9 := XP9.alloc (.cells #[.string gs1, .string gs2] 25)
  have XS11 := Blk.new u5 #[.string gs1, .string gs2] 25
  replace BB := below_wt BB (below1 u5 (.cells #[.string gs1, .string gs2] 25))
  obtain ⟨xa0, xa1⟩ := (⟨Xa.cell 0, Xa.cell 1⟩ : _ ∧ _)
  obtain ⟨xb0, xb1⟩ := (⟨Xb.cell 0, Xb.cell 1⟩ : _ ∧ _)
  simp only [List.getElem?_toArray, List.getElem?_cons_zero, List.getElem?_cons_succ] at xa0 xa1 xb0 xb1
  go_wp2_with fail
  (with_reducible refine (mul_s.out _).mono ?_)
  rintro e u6 ⟨rfl, b6⟩
  clear xa0 xa1 xb0 xb1
  replace Xa := Xa.keep b6 Xa.lt
  replace Xb := Xb.keep b6 Xb.lt
  replace XS7 := XS7.keep b6 XS7.lt
  replace XP9 := XP9.keep b6 XP9.lt
  replace XS11 := XS11.keep b6 XS11.lt
  replace BB := below_wt BB b6
  replace Xa := Xa.alloc (.cells #[.string gp1, .string gp2] 25)
  replace Xb := Xb.alloc (.cells #[.string gp1, .string gp2] 25)
  replace XS7 := XS7.alloc (.cells #[.string gp1, .string gp2] 25)
  replace XP9 := XP9.alloc (.cells #[.string gp1, .string gp2] 25)
  replace XS11 := XS11.alloc (.cells #[.string gp1, .string gp2] 25)
  have XP13 := Blk.new u6 #[.string gp1, .string gp2] 25
  replace BB := below_wt BB (below1 u6 (.cells #[.string gp1, .string gp2] 25))
  obtain ⟨xS70, xS71⟩ := (⟨XS7.cell 0, XS7.cell 1⟩ : _ ∧ _)
  obtain ⟨xS110, xS111⟩ := (⟨XS11.cell 0, XS11.cell 1⟩ : _ ∧ _)
  obtain ⟨xP90, xP91⟩ := (⟨XP9.cell 0, XP9.cell 1⟩ : _ ∧ _)
  obtain ⟨xP130, xP131⟩ := (⟨XP13.cell 0, XP13.cell 1⟩ : _ ∧ _)
  simp only [List.getElem?_toArray, List.getElem?_cons_zero, List.getElem?_cons_succ] at xS70 xS71 xS110 xS111 xP90 xP91 xP130 xP131
  go_wp2_with fail
  (with_reducible refine (val_s.out _).mono ?_)
  rintro e u7 ⟨rfl, b7⟩
  clear xS70 xS71 xS110 xS111 xP90 xP91 xP130 xP131
  replace Xa := Xa.keep b7 Xa.lt
  replace Xb := Xb.keep b7 Xb.lt
  replace XS7 := XS7.keep b7 XS7.lt
  replace XP9 := XP9.keep b7 XP9.lt
  replace XS11 := XS11.keep b7 XS11.lt
  replace XP13 := XP13.keep b7 XP13.lt
  replace BB := below_wt BB b7
  obtain ⟨xP90, xP91⟩ := (⟨XP9.cell 0, XP9.cell 1⟩ : _ ∧ _)
  simp only [List.getElem?_toArray, List.getElem?_cons_zero, List.getElem?_cons_succ] at xP90 xP91
  go_wp2_with fail
  (with_reducible refine (val_p.out _).mono ?_)
  rintro e u8 ⟨rfl, b8⟩
  clear xP90 xP91
  clear XS7 XP9
  replace Xa := Xa.keep b8 Xa.lt
  replace Xb := Xb.keep b8 Xb.lt
  replace XS11 := XS11.keep b8 XS11.lt
  replace XP13 := XP13.keep b8 XP13.lt
  replace BB := below_wt BB b8
  obtain ⟨xS110, xS111⟩ := (⟨XS11.cell 0, XS11.cell 1⟩ : _ ∧ _)
  obtain ⟨xb0, xb1⟩ := (⟨Xb.cell 0, Xb.cell 1⟩ : _ ∧ _)
  simp only [List.getElem?_toArray, List.getElem?_cons_zero, List.getElem?_cons_succ] at xS110 xS111 xb0 xb1
  go_wp2_with fail
  (with_reducible refine (less_sb.out _ (htab'.out.keep BB)).mono ?_)
  rintro e u9 ⟨rfl, b9⟩
  clear xS110 xS111 xb0 xb1
  replace Xa := Xa.keep b9 Xa.lt
  replace Xb := Xb.keep b9 Xb.lt
  replace XS11 := XS11.keep b9 XS11.lt
  replace XP13 := XP13.keep b9 XP13.lt
  replace BB := below_wt BB b9
  replace Xa := Xa.alloc (.cells #[.string ga1, .string ga2] 25)
  replace Xb := Xb.alloc (.cells #[.string ga1, .string ga2] 25)
  replace XS11 := XS11.alloc (.cells #[.string ga1, .string ga2] 25)
  replace XP13 := XP13.alloc (.cells #[.string ga1, .string ga2] 25)
  have XK15 := Blk.new u9 #[.string ga1, .string ga2] 25
  replace BB := below_wt BB (below1 u9 (.cells #[.string ga1, .string ga2] 25))
  obtain ⟨xP130, xP131⟩ := (⟨XP13.cell 0, XP13.cell 1⟩ : _ ∧ _)
  obtain ⟨xb0, xb1⟩ := (⟨Xb.cell 0, Xb.cell 1⟩ : _ ∧ _)
  simp only [List.getElem?_toArray, List.getElem?_cons_zero, List.getElem?_cons_succ] at xP130 xP131 xb0 xb1
  go_wp2_with fail
  (with_reducible refine (div_pb.out _ (htab'.out.keep BB)).mono ?_)
  rintro e u10 ⟨rfl, b10⟩
  clear xP130 xP131 xb0 xb1
  replace Xa := Xa.keep b10 Xa.lt
  replace Xb := Xb.keep b10 Xb.lt
  replace XS11 := XS11.keep b10 XS11.lt
  replace XP13 := XP13.keep b10 XP13.lt
  replace XK15 := XK15.keep b10 XK15.lt
  replace BB := below_wt BB b10
  replace Xa := Xa.alloc (.cells #[.string gq1, .string gq2] 25)
  replace Xb := Xb.alloc (.cells #[.string gq1, .string gq2] 25)
  replace XS11 := XS11.alloc (.cells #[.string gq1, .string gq2] 25)
  replace XP13 := XP13.alloc (.cells #[.string gq1, .string gq2] 25)
  replace XK15 := XK15.alloc (.cells #[.string gq1, .string gq2] 25)
  have XQ17 := Blk.new u10 #[.string gq1, .string gq2] 25
  replace BB := below_wt BB (below1 u10 (.cells #[.string gq1, .string gq2] 25))
  go_upto_region 13 with fail
  go_cut [138] (fun s' wx => s' = .bool false ∧ Below (u10.alloc (.cells #[.string gq1, .string gq2] 25)).heap.size (u10.alloc (.cells #[.string gq1, .string gq2] 25)) wx)
  case first =>
    skip
    obtain ⟨xK150, xK151⟩ := (⟨XK15.cell 0, XK15.cell 1⟩ : _ ∧ _)
    obtain ⟨xa0, xa1⟩ := (⟨Xa.cell 0, Xa.cell 1⟩ : _ ∧ _)
    obtain ⟨xb0, xb1⟩ := (⟨Xb.cell 0, Xb.cell 1⟩ : _ ∧ _)
    obtain ⟨xQ170, xQ171⟩ := (⟨XQ17.cell 0, XQ17.cell 1⟩ : _ ∧ _)
    simp only [List.getElem?_toArray, List.getElem?_cons_zero, List.getElem?_cons_succ] at xK150 xK151 xa0 xa1 xb0 xb1 xQ170 xQ171
    rcases quo.out with ⟨rfl, hz⟩ | ⟨rfl, hz, hq⟩
    · go_wp2_with fail; go_meet; exact ⟨rfl, Below.refl _ _⟩
    · simp only [Prod.mk.injEq] at hq
      obtain ⟨rfl, rfl⟩ := hq
      go_wp2_with fail; go_meet; exact ⟨rfl, Below.refl _ _⟩
  case rest =>
    obtain ⟨rfl, bc⟩ := hcut
    skip
    obtain ⟨u11, hwc⟩ : ∃ u, u = wc := ⟨_, rfl⟩
    subst hwc
    replace Xa := Xa.keep bc Xa.lt
    replace Xb := Xb.keep bc Xb.lt
    replace XS11 := XS11.keep bc XS11.lt
    replace XP13 := XP13.keep bc XP13.lt
    replace XK15 := XK15.keep bc XK15.lt
    replace XQ17 := XQ17.keep bc XQ17.lt
    replace BB := below_wt BB bc
    clear bc
    clear XK15
    clear XQ17
    obtain ⟨xa0, xa1⟩ := (⟨Xa.cell 0, Xa.cell 1⟩ : _ ∧ _)
    obtain ⟨xb0, xb1⟩ := (⟨Xb.cell 0, Xb.cell 1⟩ : _ ∧ _)
    simp only [List.getElem?_toArray, List.getElem?_cons_zero, List.getElem?_cons_succ] at xa0 xa1 xb0 xb1
    go_wp2_with fail
    (with_reducible refine (cmp_ab.out _).mono ?_)
    rintro e u12 ⟨rfl, b12⟩
    clear xa0 xa1 xb0 xb1
    replace Xa := Xa.keep b12 Xa.lt
    replace Xb := Xb.keep b12 Xb.lt
    replace XS11 := XS11.keep b12 XS11.lt
    replace XP13 := XP13.keep b12 XP13.lt
    replace BB := below_wt BB b12
    obtain ⟨xa0, xa1⟩ := (⟨Xa.cell 0, Xa.cell 1⟩ : _ ∧ _)
    obtain ⟨xb0, xb1⟩ := (⟨Xb.cell 0, Xb.cell 1⟩ : _ ∧ _)
    simp only [List.getElem?_toArray, List.getElem?_cons_zero, List.getElem?_cons_succ] at xa0 xa1 xb0 xb1
    go_wp2_with fail
    (with_reducible refine (cmp_ba.out _).mono ?_)
    rintro e u13 ⟨rfl, b13⟩
    clear xa0 xa1 xb0 xb1
    replace Xa := Xa.keep b13 Xa.lt
    replace Xb := Xb.keep b13 Xb.lt
    replace XS11 := XS11.keep b13 XS11.lt
    replace XP13 := XP13.keep b13 XP13.lt
    replace BB := below_wt BB b13
    obtain ⟨xa0, xa1⟩ := (⟨Xa.cell 0, Xa.cell 1⟩ : _ ∧ _)
    obtain ⟨xb0, xb1⟩ := (⟨Xb.cell 0, Xb.cell 1⟩ : _ ∧ _)
    simp only [List.getElem?_toArray, List.getElem?_cons_zero, List.getElem?_cons_succ] at xa0 xa1 xb0 xb1
    go_wp2_with fail
    (with_reducible refine (less_ab.out _ (htab'.out.keep BB)).mono ?_)
    rintro e u14 ⟨rfl, b14⟩
    clear xa0 xa1 xb0 xb1
    replace Xa := Xa.keep b14 Xa.lt
    replace Xb := Xb.keep b14 Xb.lt
    replace XS11 := XS11.keep b14 XS11.lt
    replace XP13 := XP13.keep b14 XP13.lt
    replace BB := below_wt BB b14
    replace Xa := Xa.alloc (.cells #[.string gf1, .string gf2] 25)
    replace Xb := Xb.alloc (.cells #[.string gf1, .string gf2] 25)
    replace XS11 := XS11.alloc (.cells #[.string gf1, .string gf2] 25)
    replace XP13 := XP13.alloc (.cells #[.string gf1, .string gf2] 25)
    have XF23 := Blk.new u14 #[.string gf1, .string gf2] 25
    replace BB := below_wt BB (below1 u14 (.cells #[.string gf1, .string gf2] 25))
    clear XF23
    go_upto_region 18 with fail
    go_cut [183] (fun s' wx => s' = .bool false ∧ Below (u14.alloc (.cells #[.string gf1, .string gf2] 25)).heap.size (u14.alloc (.cells #[.string gf1, .string gf2] 25)) wx)
    case first =>
      skip
      obtain ⟨xa0, xa1⟩ := (⟨Xa.cell 0, Xa.cell 1⟩ : _ ∧ _)
      obtain ⟨xb0, xb1⟩ := (⟨Xb.cell 0, Xb.cell 1⟩ : _ ∧ _)
      simp only [List.getElem?_toArray, List.getElem?_cons_zero, List.getElem?_cons_succ] at xa0 xa1 xb0 xb1
      rcases ord.out with ⟨rfl, rfl, rfl, hab⟩ | ⟨rfl, rfl, rfl, hab⟩ | ⟨rfl, rfl, rfl, hab⟩
      · rcases text_two hab with h1 | h1 <;> (go_wp2_with fail; go_meet; exact ⟨rfl, Below.refl _ _⟩)
      · simp only [Prod.mk.injEq] at hab
        obtain ⟨rfl, rfl⟩ := hab
        go_wp2_with fail; go_meet; exact ⟨rfl, Below.refl _ _⟩
      · rcases text_two hab with h1 | h1 <;> (go_wp2_with fail; go_meet; exact ⟨rfl, Below.refl _ _⟩)
    case rest =>
      obtain ⟨rfl, bc⟩ := hcut
      skip
      obtain ⟨u15, hwc⟩ : ∃ u, u = wc := ⟨_, rfl⟩
      subst hwc
      replace Xa := Xa.keep bc Xa.lt
      replace Xb := Xb.keep bc Xb.lt
      replace XS11 := XS11.keep bc XS11.lt
      replace XP13 := XP13.keep bc XP13.lt
      replace BB := below_wt BB bc
      clear bc
      go_upto_region 20 with fail
      obtain ⟨W20, hW0⟩ : ∃ u, u15 = u := ⟨_, rfl⟩
      rw [hW0] at Xa Xb XS11 XP13 BB ⊢
      clear hW0
      have qq0 := Lib.hid (fun w1 (hb : Below W20.heap.size W20 w1) => (show w1.cell? ⟨u1.heap.size, 0, none⟩ = some (.string ga1) from (Xa.keep hb Xa.lt).cell 0))
      have qq1 := Lib.hid (fun w1 (hb : Below W20.heap.size W20 w1) => (show w1.cell? ⟨u1.heap.size, 1, none⟩ = some (.string ga2) from (Xa.keep hb Xa.lt).cell 1))
      refine' region_by 7 (fun i => i == 5) (fun i _ v w' => match i with
          | 0 => v = .agg #[.string ga1, .string ga2]
          | 1 => v = .agg #[.string gt1, .string gt2]
          | 2 => v = .tuple #[.agg #[.string gc1, .string gc2], .int .i64 0]
          | 3 => v = .tuple #[.agg #[.string gc1, .string gc2], .int .i64 0]
          | 4 => v = .agg #[.string gc1, .string gc2]
          | 5 => v = .int .i64 0
          | 6 => ∃ B : Nat, v = .pointer (some ⟨B, 0, none⟩) ∧ W20.heap.size ≤ B ∧ Blk w' B #[.string ⟨#[]⟩, .string ⟨#[]⟩] 25
          | _ => True) (fun i _ v => match i with
          | 0 => v = .agg #[.string ga1, .string ga2]
          | 1 => v = .agg #[.string gt1, .string gt2]
          | 2 => v = .tuple #[.agg #[.string gc1, .string gc2], .int .i64 0]
          | 3 => v = .tuple #[.agg #[.string gc1, .string gc2], .int .i64 0]
          | 4 => v = .agg #[.string gc1, .string gc2]
          | 5 => v = .int .i64 0
          | 6 => True
          | _ => True)
          (fun p z w' => ∃ B : Nat, z 6 = .pointer (some ⟨B, 0, none⟩) ∧ W20.heap.size ≤ B ∧ Blk w' B #[.string gc1, .string gc2] 25 ∧ Below W20.heap.size W20 w' ∧ (p = 2 → z 8 = .int .i64 0)) (by kernel_rfl) (by kernel_rfl) (by kernel_rfl) ?hst_r20_ ?hG_r20_ _ ?hfr_r20_ ?hob_r20_ ?hend_r20_
      case hfr_r20_ =>
        intro z
        simp only [fillAll, Act.put, List.setIfInBounds_toArray, List.set_cons_zero, List.set_cons_succ, Nat.reduceAdd, Nat.zero_add]
        exact rfl
      case hst_r20_ =>
        intro i z v w1 w2 hi hb hx
        rcases i with _ | i
        · exact hx
        rcases i with _ | i
        · exact (fun v w1 w2 hb h => h) v w1 w2 hb hx
        rcases i with _ | i
        · exact (fun v w1 w2 hb h => h) v w1 w2 hb hx
        rcases i with _ | i
        · exact hx
        rcases i with _ | i
        · exact hx
        rcases i with _ | i
        · exact hx
        rcases i with _ | i
        · exact (fun v w1 w2 hb h => h.elim fun B hB => ⟨B, hB.1, hB.2.1, hB.2.2.step hb⟩) v w1 w2 hb hx
        exact absurd hi (by omega)
      case hG_r20_ =>
        intro i z v w1 hi hx
        rcases i with _ | i
        · exact hx
        rcases i with _ | i
        · exact hx
        rcases i with _ | i
        · exact hx
        rcases i with _ | i
        · exact hx
        rcases i with _ | i
        · exact hx
        rcases i with _ | i
        · exact hx
        rcases i with _ | i
        · trivial
        exact absurd hi (by omega)
      case hob_r20_ =>
        intro hfr
        refine AllOb.cons (j := 1) (by kernel_rfl) ?_ ?_
        · refine' ob_body (fr := _) ?hf_r20_0 ?h1_r20_0 ?h2_r20_0 ?h3_r20_0 ?h_r20_0
          case hf_r20_0 => exact hfr
          case h1_r20_0 => kernel_rfl
          case h2_r20_0 => kernel_rfl
          case h3_r20_0 => rfl
          clear hfr
          intro z w1 hb hd ho K hK
          clear hd ho
          have x0 := qq0.out w1 hb; have x1 := qq1.out w1 hb
          go_simp
          have hh := hK.out (.agg #[.string ga1, .string ga2]) _ (Below.refl _ _) rfl
          simp only [Act.put, List.setIfInBounds_toArray, List.set_cons_zero, List.set_cons_succ] at hh
          exact hh
        refine AllOb.cons (j := 2) (by kernel_rfl) ?_ ?_
        · refine' ob_body (fr := _) ?hf_r20_1 ?h1_r20_1 ?h2_r20_1 ?h3_r20_1 ?h_r20_1
          case hf_r20_1 => exact hfr
          case h1_r20_1 => kernel_rfl
          case h2_r20_1 => kernel_rfl
          case h3_r20_1 => rfl
          clear hfr
          intro z w1 hb hd ho K hK
          clear hd ho
          go_simp
          refine (f13.out _).mono ?_
          rintro e w2 ⟨rfl, b⟩
          have hh := hK.out _ _ b (rfl)
          simp only [Act.put, List.setIfInBounds_toArray, List.set_cons_zero, List.set_cons_succ] at hh
          exact hh
        refine AllOb.cons (j := 3) (by kernel_rfl) ?_ ?_
        · refine' ob_body (fr := _) ?hf_r20_2 ?h1_r20_2 ?h2_r20_2 ?h3_r20_2 ?h_r20_2
          case hf_r20_2 => exact hfr
          case h1_r20_2 => kernel_rfl
          case h2_r20_2 => kernel_rfl
          case h3_r20_2 => rfl
          clear hfr
          intro z w1 hb hd ho K hK
          have e0 : z 0 = .agg #[.string ga1, .string ga2] := hd.out 0 (by kernel_rfl)
          have e1 : (z 1) = .agg #[.string gt1, .string gt2] := hd.out 1 (by kernel_rfl)
          clear hd ho
          go_simp
          refine (add_at.out _ (htab'.out.keep (below_wt BB hb))).mono ?_
          rintro e w2 ⟨rfl, b⟩
          have hh := hK.out _ _ b (rfl)
          simp only [Act.put, List.setIfInBounds_toArray, List.set_cons_zero, List.set_cons_succ, e0, e1] at hh
          exact hh
        refine AllOb.cons (j := 4) (by kernel_rfl) ?_ ?_
        · refine' ob_body (fr := _) ?hf_r20_3 ?h1_r20_3 ?h2_r20_3 ?h3_r20_3 ?h_r20_3
          case hf_r20_3 => exact hfr
          case h1_r20_3 => kernel_rfl
          case h2_r20_3 => kernel_rfl
          case h3_r20_3 => rfl
          clear hfr
          intro z w1 hb hd ho K hK
          have e2 : (z 2) = .tuple #[.agg #[.string gc1, .string gc2], .int .i64 0] := hd.out 2 (by kernel_rfl)
          clear hd ho
          go_simp
          have hh := hK.out (.tuple #[.agg #[.string gc1, .string gc2], .int .i64 0]) _ (Below.refl _ _) rfl
          simp only [Act.put, List.setIfInBounds_toArray, List.set_cons_zero, List.set_cons_succ, e2] at hh
          exact hh
        refine AllOb.cons (j := 5) (by kernel_rfl) ?_ ?_
        · refine' ob_body (fr := _) ?hf_r20_4 ?h1_r20_4 ?h2_r20_4 ?h3_r20_4 ?h_r20_4
          case hf_r20_4 => exact hfr
          case h1_r20_4 => kernel_rfl
          case h2_r20_4 => kernel_rfl
          case h3_r20_4 => rfl
          clear hfr
          intro z w1 hb hd ho K hK
          have e3 : z 3 = .tuple #[.agg #[.string gc1, .string gc2], .int .i64 0] := hd.out 3 (by kernel_rfl)
          clear hd ho
          go_simp
          have hh := hK.out (.agg #[.string gc1, .string gc2]) _ (Below.refl _ _) rfl
          simp only [Act.put, List.setIfInBounds_toArray, List.set_cons_zero, List.set_cons_succ, e3] at hh
          exact hh
        refine AllOb.cons (j := 6) (by kernel_rfl) ?_ ?_
        · refine' ob_late (fr := _) ?hf_r20_5 ?h1_r20_5 ?h2_r20_5 ?h3_r20_5 ?h_r20_5
          case hf_r20_5 => exact hfr
          case h1_r20_5 => kernel_rfl
          case h2_r20_5 => kernel_rfl
          case h3_r20_5 => rfl
          clear hfr
          intro z w1 hd ho K hK
          have e3 : z 3 = .tuple #[.agg #[.string gc1, .string gc2], .int .i64 0] := hd.out 3 (by kernel_rfl)
          clear hd ho
          go_simp
          have hh := hK.out (.int .i64 0) rfl
          simp only [Act.put, List.setIfInBounds_toArray, List.set_cons_zero, List.set_cons_succ, e3] at hh
          exact hh
        refine AllOb.cons (j := 7) (by kernel_rfl) ?_ ?_
        · refine' ob_body (fr := _) ?hf_r20_6 ?h1_r20_6 ?h2_r20_6 ?h3_r20_6 ?h_r20_6
          case hf_r20_6 => exact hfr
          case h1_r20_6 => kernel_rfl
          case h2_r20_6 => kernel_rfl
          case h3_r20_6 => rfl
          clear hfr
          intro z w1 hb hd ho K hK
          clear hd ho
          go_simp
          have hh := hK.out _ _ (below1 _ _) ⟨_, rfl, hb.size, Blk.new _ _ _⟩
          simp only [Act.put, List.setIfInBounds_toArray, List.set_cons_zero, List.set_cons_succ] at hh
          exact hh
        refine AllOb.cons (j := 8) (by kernel_rfl) ?_ ?_
        · refine' ob_tail0 (fr := _) ?hf_r20_7 ?h1_r20_7 ?h3_r20_7 ?h_r20_7
          case hf_r20_7 => exact hfr
          case h1_r20_7 => rfl
          case h3_r20_7 => rfl
          clear hfr
          intro z w1 hb hf hd ho K hK
          have e4 : z 4 = .agg #[.string gc1, .string gc2] := hd.out 4 (by decide) (by kernel_rfl)
          obtain ⟨B, e6, hB, hX⟩ : ∃ B : Nat, z 6 = .pointer (some ⟨B, 0, none⟩) ∧ W20.heap.size ≤ B ∧ Blk w1 B #[.string ⟨#[]⟩, .string ⟨#[]⟩] 25 := hf.out 6 (by decide) (by kernel_rfl)
          have y0 := hX.cell 0
          have y1 := hX.cell 1
          have f0 := hX.frozen 0
          have f1 := hX.frozen 1
          simp only [List.getElem?_toArray, List.getElem?_cons_zero, List.getElem?_cons_succ] at y0 y1
          go_simp
          have hh := hK.out undef _ ⟨B, e6, hB, by have := (hX.set 0 (.string gc1)).set 1 (.string gc2); simpa using this, (hb.setCell (p := ⟨B, 0, none⟩) hB _).setCell (p := ⟨B, 1, none⟩) hB _, fun h => by cases h⟩
          simp only [Act.put, List.setIfInBounds_toArray, List.set_cons_zero, List.set_cons_succ, e4, e6] at hh
          exact hh
        refine AllOb.cons (j := 9) (by kernel_rfl) ?_ ?_
        · refine' ob_tail (fr := _) ?hf_r20_8 ?h1_r20_8 ?h3_r20_8 1 ?h4_r20_8 ?h_r20_8
          case hf_r20_8 => exact hfr
          case h1_r20_8 => kernel_rfl
          case h3_r20_8 => rfl
          case h4_r20_8 => rfl
          clear hfr
          intro z w1 hT hd ho K hK
          have e5 : z 5 = .int .i64 0 := hd.out 5 (by decide) (by kernel_rfl)
          obtain ⟨B, e6, hB, hX, bb, _⟩ := hT
          go_simp
          have hh := hK.out (.int .i64 0) _ ⟨B, e6, hB, hX, bb, fun _ => rfl⟩
          simp only [Act.put, List.setIfInBounds_toArray, List.set_cons_zero, List.set_cons_succ, e5, e6] at hh
          exact hh
        exact AllOb.nil
      case hend_r20_ =>
        intro hfr
        refine' end_tails (fr := _) ?a20 ?b20 2 ?c20 ?d20
        case a20 => exact hfr
        case b20 => kernel_rfl
        case c20 => kernel_rfl
        clear hfr
        intro z w1 hT hg
        obtain ⟨B20, e6, hB20, hX20, bb, e8⟩ := hT
        replace e6 : z 6 = .pointer (some ⟨B20, 0, none⟩) := e6
        replace e8 : z 8 = .int .i64 0 := e8 rfl
        simp only [e6, e8]
        clear e6 e8 hg qq0 qq1
        replace Xa := Xa.keep bb Xa.lt
        replace Xb := Xb.keep bb Xb.lt
        replace XS11 := XS11.keep bb XS11.lt
        replace XP13 := XP13.keep bb XP13.lt
        replace BB := below_wt BB bb
        clear bb
        have XC25 := hX20
        clear hX20
        obtain ⟨u16, hwc⟩ : ∃ u, u = w1 := ⟨_, rfl⟩
        subst hwc
        obtain ⟨xC250, xC251⟩ := (⟨XC25.cell 0, XC25.cell 1⟩ : _ ∧ _)
        obtain ⟨xb0, xb1⟩ := (⟨Xb.cell 0, Xb.cell 1⟩ : _ ∧ _)
        simp only [List.getElem?_toArray, List.getElem?_cons_zero, List.getElem?_cons_succ] at xC250 xC251 xb0 xb1
        go_wp2_with fail
        (with_reducible refine (mul_cb.out _ (htab'.out.keep BB)).mono ?_)
        rintro e u17 ⟨rfl, b17⟩
        clear xC250 xC251 xb0 xb1
        replace Xa := Xa.keep b17 Xa.lt
        replace Xb := Xb.keep b17 Xb.lt
        replace XS11 := XS11.keep b17 XS11.lt
        replace XP13 := XP13.keep b17 XP13.lt
        replace XC25 := XC25.keep b17 XC25.lt
        replace BB := below_wt BB b17
        replace Xa := Xa.alloc (.cells #[.string gl1, .string gl2] 25)
        replace Xb := Xb.alloc (.cells #[.string gl1, .string gl2] 25)
        replace XS11 := XS11.alloc (.cells #[.string gl1, .string gl2] 25)
        replace XP13 := XP13.alloc (.cells #[.string gl1, .string gl2] 25)
        replace XC25 := XC25.alloc (.cells #[.string gl1, .string gl2] 25)
        have XL27 := Blk.new u17 #[.string gl1, .string gl2] 25
        replace BB := below_wt BB (below1 u17 (.cells #[.string gl1, .string gl2] 25))
        go_upto_region 22 with fail
        obtain ⟨W22, hW0⟩ : ∃ u, (u17.alloc (.cells #[.string gl1, .string gl2] 25)) = u := ⟨_, rfl⟩
        rw [hW0] at Xa Xb XS11 XP13 XL27 BB ⊢
        clear hW0
        have qq0 := Lib.hid (fun w1 (hb : Below W22.heap.size W22 w1) => (show w1.cell? ⟨u2.heap.size, 0, none⟩ = some (.string gb1) from (Xb.keep hb Xb.lt).cell 0))
        have qq1 := Lib.hid (fun w1 (hb : Below W22.heap.size W22 w1) => (show w1.cell? ⟨u2.heap.size, 1, none⟩ = some (.string gb2) from (Xb.keep hb Xb.lt).cell 1))
        refine' region_by 7 (fun i => i == 5) (fun i _ v w' => match i with
            | 0 => v = .agg #[.string gt1, .string gt2]
            | 1 => v = .agg #[.string gb1, .string gb2]
            | 2 => v = .tuple #[.agg #[.string gh1, .string gh2], .int .i64 0]
            | 3 => v = .tuple #[.agg #[.string gh1, .string gh2], .int .i64 0]
            | 4 => v = .agg #[.string gh1, .string gh2]
            | 5 => v = .int .i64 0
            | 6 => ∃ B : Nat, v = .pointer (some ⟨B, 0, none⟩) ∧ W22.heap.size ≤ B ∧ Blk w' B #[.string ⟨#[]⟩, .string ⟨#[]⟩] 25
            | _ => True) (fun i _ v => match i with
            | 0 => v = .agg #[.string gt1, .string gt2]
            | 1 => v = .agg #[.string gb1, .string gb2]
            | 2 => v = .tuple #[.agg #[.string gh1, .string gh2], .int .i64 0]
            | 3 => v = .tuple #[.agg #[.string gh1, .string gh2], .int .i64 0]
            | 4 => v = .agg #[.string gh1, .string gh2]
            | 5 => v = .int .i64 0
            | 6 => True
            | _ => True)
            (fun p z w' => ∃ B : Nat, z 6 = .pointer (some ⟨B, 0, none⟩) ∧ W22.heap.size ≤ B ∧ Blk w' B #[.string gh1, .string gh2] 25 ∧ Below W22.heap.size W22 w' ∧ (p = 2 → z 8 = .int .i64 0)) (by kernel_rfl) (by kernel_rfl) (by kernel_rfl) ?hst_r22_ ?hG_r22_ _ ?hfr_r22_ ?hob_r22_ ?hend_r22_
        case hfr_r22_ =>
          intro z
          simp only [fillAll, Act.put, List.setIfInBounds_toArray, List.set_cons_zero, List.set_cons_succ, Nat.reduceAdd, Nat.zero_add]
          exact rfl
        case hst_r22_ =>
          intro i z v w1 w2 hi hb hx
          rcases i with _ | i
          · exact (fun v w1 w2 hb h => h) v w1 w2 hb hx
          rcases i with _ | i
          · exact hx
          rcases i with _ | i
          · exact (fun v w1 w2 hb h => h) v w1 w2 hb hx
          rcases i with _ | i
          · exact hx
          rcases i with _ | i
          · exact hx
          rcases i with _ | i
          · exact hx
          rcases i with _ | i
          · exact (fun v w1 w2 hb h => h.elim fun B hB => ⟨B, hB.1, hB.2.1, hB.2.2.step hb⟩) v w1 w2 hb hx
          exact absurd hi (by omega)
        case hG_r22_ =>
          intro i z v w1 hi hx
          rcases i with _ | i
          · exact hx
          rcases i with _ | i
          · exact hx
          rcases i with _ | i
          · exact hx
          rcases i with _ | i
          · exact hx
          rcases i with _ | i
          · exact hx
          rcases i with _ | i
          · exact hx
          rcases i with _ | i
          · trivial
          exact absurd hi (by omega)
        case hob_r22_ =>
          intro hfr
          refine AllOb.cons (j := 1) (by kernel_rfl) ?_ ?_
          · refine' ob_body (fr := _) ?hf_r22_0 ?h1_r22_0 ?h2_r22_0 ?h3_r22_0 ?h_r22_0
            case hf_r22_0 => exact hfr
            case h1_r22_0 => kernel_rfl
            case h2_r22_0 => kernel_rfl
            case h3_r22_0 => rfl
            clear hfr
            intro z w1 hb hd ho K hK
            clear hd ho
            go_simp
            refine (f13.out _).mono ?_
            rintro e w2 ⟨rfl, b⟩
            have hh := hK.out _ _ b (rfl)
            simp only [Act.put, List.setIfInBounds_toArray, List.set_cons_zero, List.set_cons_succ] at hh
            exact hh
          refine AllOb.cons (j := 2) (by kernel_rfl) ?_ ?_
          · refine' ob_body (fr := _) ?hf_r22_1 ?h1_r22_1 ?h2_r22_1 ?h3_r22_1 ?h_r22_1
            case hf_r22_1 => exact hfr
            case h1_r22_1 => kernel_rfl
            case h2_r22_1 => kernel_rfl
            case h3_r22_1 => rfl
            clear hfr
            intro z w1 hb hd ho K hK
            clear hd ho
            have x0 := qq0.out w1 hb; have x1 := qq1.out w1 hb
            go_simp
            have hh := hK.out (.agg #[.string gb1, .string gb2]) _ (Below.refl _ _) rfl
            simp only [Act.put, List.setIfInBounds_toArray, List.set_cons_zero, List.set_cons_succ] at hh
            exact hh
          refine AllOb.cons (j := 3) (by kernel_rfl) ?_ ?_
          · refine' ob_body (fr := _) ?hf_r22_2 ?h1_r22_2 ?h2_r22_2 ?h3_r22_2 ?h_r22_2
            case hf_r22_2 => exact hfr
            case h1_r22_2 => kernel_rfl
            case h2_r22_2 => kernel_rfl
            case h3_r22_2 => rfl
            clear hfr
            intro z w1 hb hd ho K hK
            have e0 : (z 0) = .agg #[.string gt1, .string gt2] := hd.out 0 (by kernel_rfl)
            have e1 : z 1 = .agg #[.string gb1, .string gb2] := hd.out 1 (by kernel_rfl)
            clear hd ho
            go_simp
            refine (mul_tb.out _ (htab'.out.keep (below_wt BB hb))).mono ?_
            rintro e w2 ⟨rfl, b⟩
            have hh := hK.out _ _ b (rfl)
            simp only [Act.put, List.setIfInBounds_toArray, List.set_cons_zero, List.set_cons_succ, e0, e1] at hh
            exact hh
          refine AllOb.cons (j := 4) (by kernel_rfl) ?_ ?_
          · refine' ob_body (fr := _) ?hf_r22_3 ?h1_r22_3 ?h2_r22_3 ?h3_r22_3 ?h_r22_3
            case hf_r22_3 => exact hfr
            case h1_r22_3 => kernel_rfl
            case h2_r22_3 => kernel_rfl
            case h3_r22_3 => rfl
            clear hfr
            intro z w1 hb hd ho K hK
            have e2 : (z 2) = .tuple #[.agg #[.string gh1, .string gh2], .int .i64 0] := hd.out 2 (by kernel_rfl)
            clear hd ho
            go_simp
            have hh := hK.out (.tuple #[.agg #[.string gh1, .string gh2], .int .i64 0]) _ (Below.refl _ _) rfl
            simp only [Act.put, List.setIfInBounds_toArray, List.set_cons_zero, List.set_cons_succ, e2] at hh
            exact hh
          refine AllOb.cons (j := 5) (by kernel_rfl) ?_ ?_
          · refine' ob_body (fr := _) ?hf_r22_4 ?h1_r22_4 ?h2_r22_4 ?h3_r22_4 ?h_r22_4
            case hf_r22_4 => exact hfr
            case h1_r22_4 => kernel_rfl
            case h2_r22_4 => kernel_rfl
            case h3_r22_4 => rfl
            clear hfr
            intro z w1 hb hd ho K hK
            have e3 : z 3 = .tuple #[.agg #[.string gh1, .string gh2], .int .i64 0] := hd.out 3 (by kernel_rfl)
            clear hd ho
            go_simp
            have hh := hK.out (.agg #[.string gh1, .string gh2]) _ (Below.refl _ _) rfl
            simp only [Act.put, List.setIfInBounds_toArray, List.set_cons_zero, List.set_cons_succ, e3] at hh
            exact hh
          refine AllOb.cons (j := 6) (by kernel_rfl) ?_ ?_
          · refine' ob_late (fr := _) ?hf_r22_5 ?h1_r22_5 ?h2_r22_5 ?h3_r22_5 ?h_r22_5
            case hf_r22_5 => exact hfr
            case h1_r22_5 => kernel_rfl
            case h2_r22_5 => kernel_rfl
            case h3_r22_5 => rfl
            clear hfr
            intro z w1 hd ho K hK
            have e3 : z 3 = .tuple #[.agg #[.string gh1, .string gh2], .int .i64 0] := hd.out 3 (by kernel_rfl)
            clear hd ho
            go_simp
            have hh := hK.out (.int .i64 0) rfl
            simp only [Act.put, List.setIfInBounds_toArray, List.set_cons_zero, List.set_cons_succ, e3] at hh
            exact hh
          refine AllOb.cons (j := 7) (by kernel_rfl) ?_ ?_
          · refine' ob_body (fr := _) ?hf_r22_6 ?h1_r22_6 ?h2_r22_6 ?h3_r22_6 ?h_r22_6
            case hf_r22_6 => exact hfr
            case h1_r22_6 => kernel_rfl
            case h2_r22_6 => kernel_rfl
            case h3_r22_6 => rfl
            clear hfr
            intro z w1 hb hd ho K hK
            clear hd ho
            go_simp
            have hh := hK.out _ _ (below1 _ _) ⟨_, rfl, hb.size, Blk.new _ _ _⟩
            simp only [Act.put, List.setIfInBounds_toArray, List.set_cons_zero, List.set_cons_succ] at hh
            exact hh
          refine AllOb.cons (j := 8) (by kernel_rfl) ?_ ?_
          · refine' ob_tail0 (fr := _) ?hf_r22_7 ?h1_r22_7 ?h3_r22_7 ?h_r22_7
            case hf_r22_7 => exact hfr
            case h1_r22_7 => rfl
            case h3_r22_7 => rfl
            clear hfr
            intro z w1 hb hf hd ho K hK
            have e4 : z 4 = .agg #[.string gh1, .string gh2] := hd.out 4 (by decide) (by kernel_rfl)
            obtain ⟨B, e6, hB, hX⟩ : ∃ B : Nat, z 6 = .pointer (some ⟨B, 0, none⟩) ∧ W22.heap.size ≤ B ∧ Blk w1 B #[.string ⟨#[]⟩, .string ⟨#[]⟩] 25 := hf.out 6 (by decide) (by kernel_rfl)
            have y0 := hX.cell 0
            have y1 := hX.cell 1
            have f0 := hX.frozen 0
            have f1 := hX.frozen 1
            simp only [List.getElem?_toArray, List.getElem?_cons_zero, List.getElem?_cons_succ] at y0 y1
            go_simp
            have hh := hK.out undef _ ⟨B, e6, hB, by have := (hX.set 0 (.string gh1)).set 1 (.string gh2); simpa using this, (hb.setCell (p := ⟨B, 0, none⟩) hB _).setCell (p := ⟨B, 1, none⟩) hB _, fun h => by cases h⟩
            simp only [Act.put, List.setIfInBounds_toArray, List.set_cons_zero, List.set_cons_succ, e4, e6] at hh
            exact hh
          refine AllOb.cons (j := 9) (by kernel_rfl) ?_ ?_
          · refine' ob_tail (fr := _) ?hf_r22_8 ?h1_r22_8 ?h3_r22_8 1 ?h4_r22_8 ?h_r22_8
            case hf_r22_8 => exact hfr
            case h1_r22_8 => kernel_rfl
            case h3_r22_8 => rfl
            case h4_r22_8 => rfl
            clear hfr
            intro z w1 hT hd ho K hK
            have e5 : z 5 = .int .i64 0 := hd.out 5 (by decide) (by kernel_rfl)
            obtain ⟨B, e6, hB, hX, bb, _⟩ := hT
            go_simp
            have hh := hK.out (.int .i64 0) _ ⟨B, e6, hB, hX, bb, fun _ => rfl⟩
            simp only [Act.put, List.setIfInBounds_toArray, List.set_cons_zero, List.set_cons_succ, e5, e6] at hh
            exact hh
          exact AllOb.nil
        case hend_r22_ =>
          intro hfr
          refine' end_tails (fr := _) ?a22 ?b22 2 ?c22 ?d22
          case a22 => exact hfr
          case b22 => kernel_rfl
          case c22 => kernel_rfl
          clear hfr
          intro z w1 hT hg
          obtain ⟨B22, e6, hB22, hX22, bb, e8⟩ := hT
          replace e6 : z 6 = .pointer (some ⟨B22, 0, none⟩) := e6
          replace e8 : z 8 = .int .i64 0 := e8 rfl
          simp only [e6, e8]
          clear e6 e8 hg qq0 qq1
          replace Xa := Xa.keep bb Xa.lt
          replace Xb := Xb.keep bb Xb.lt
          replace XS11 := XS11.keep bb XS11.lt
          replace XP13 := XP13.keep bb XP13.lt
          replace XL27 := XL27.keep bb XL27.lt
          replace BB := below_wt BB bb
          clear bb
          have XH29 := hX22
          clear hX22
          obtain ⟨u18, hwc⟩ : ∃ u, u = w1 := ⟨_, rfl⟩
          subst hwc
          obtain ⟨xP130, xP131⟩ := (⟨XP13.cell 0, XP13.cell 1⟩ : _ ∧ _)
          obtain ⟨xH290, xH291⟩ := (⟨XH29.cell 0, XH29.cell 1⟩ : _ ∧ _)
          simp only [List.getElem?_toArray, List.getElem?_cons_zero, List.getElem?_cons_succ] at xP130 xP131 xH290 xH291
          go_wp2_with fail
          (with_reducible refine (add_ph.out _ (htab'.out.keep BB)).mono ?_)
          rintro e u19 ⟨rfl, b19⟩
          clear xP130 xP131 xH290 xH291
          replace Xa := Xa.keep b19 Xa.lt
          replace Xb := Xb.keep b19 Xb.lt
          replace XS11 := XS11.keep b19 XS11.lt
          replace XP13 := XP13.keep b19 XP13.lt
          replace XL27 := XL27.keep b19 XL27.lt
          replace XH29 := XH29.keep b19 XH29.lt
          replace BB := below_wt BB b19
          replace Xa := Xa.alloc (.cells #[.string gl1, .string gl2] 25)
          replace Xb := Xb.alloc (.cells #[.string gl1, .string gl2] 25)
          replace XS11 := XS11.alloc (.cells #[.string gl1, .string gl2] 25)
          replace XP13 := XP13.alloc (.cells #[.string gl1, .string gl2] 25)
          replace XL27 := XL27.alloc (.cells #[.string gl1, .string gl2] 25)
          replace XH29 := XH29.alloc (.cells #[.string gl1, .string gl2] 25)
          have XR31 := Blk.new u19 #[.string gl1, .string gl2] 25
          replace BB := below_wt BB (below1 u19 (.cells #[.string gl1, .string gl2] 25))
          go_upto_region 24 with fail
          obtain ⟨W24, hW0⟩ : ∃ u, (u19.alloc (.cells #[.string gl1, .string gl2] 25)) = u := ⟨_, rfl⟩
          clear Xa
          clear Xb
          clear XP13
          clear XH29
          rw [hW0] at XS11 XL27 XR31 BB ⊢
          clear hW0
          have ql0 := Lib.hid (fun w1 (hb : Below W24.heap.size W24 w1) => (show w1.cell? ⟨u17.heap.size, 0, none⟩ = some (.string gl1) from (XL27.keep hb XL27.lt).cell 0))
          have ql1 := Lib.hid (fun w1 (hb : Below W24.heap.size W24 w1) => (show w1.cell? ⟨u17.heap.size, 1, none⟩ = some (.string gl2) from (XL27.keep hb XL27.lt).cell 1))
          have qr0 := Lib.hid (fun w1 (hb : Below W24.heap.size W24 w1) => (show w1.cell? ⟨u19.heap.size, 0, none⟩ = some (.string gl1) from (XR31.keep hb XR31.lt).cell 0))
          have qr1 := Lib.hid (fun w1 (hb : Below W24.heap.size W24 w1) => (show w1.cell? ⟨u19.heap.size, 1, none⟩ = some (.string gl2) from (XR31.keep hb XR31.lt).cell 1))
          have qs0 := Lib.hid (fun w1 (hb : Below W24.heap.size W24 w1) => (show w1.cell? ⟨u5.heap.size, 0, none⟩ = some (.string gs1) from (XS11.keep hb XS11.lt).cell 0))
          have qs1 := Lib.hid (fun w1 (hb : Below W24.heap.size W24 w1) => (show w1.cell? ⟨u5.heap.size, 1, none⟩ = some (.string gs2) from (XS11.keep hb XS11.lt).cell 1))
          generalize frText gs1 gs2 = ST at *
          refine' region_by 27 (fun _ => false) (fun i _ v w' => match i with
              | 0 => v = .int .i64 0
              | 1 => v = .bool true
              | 2 => v = .bool true
              | 3 => v = .int .i64 0
              | 4 => v = .bool true
              | 5 => v = .bool true
              | 6 => v = .bool true
              | 7 => v = .int .i64 0
              | 8 => v = .bool true
              | 9 => v = .bool true
              | 10 => v = .bool true
              | 11 => v = .int .i64 0
              | 12 => v = .bool true
              | 13 => v = .bool true
              | 14 => v = .bool true
              | 15 => v = .agg #[.string gl1, .string gl2]
              | 16 => v = .agg #[.string gl1, .string gl2]
              | 17 => v = .bool true
              | 18 => v = .bool true
              | 19 => v = .bool true
              | 20 => v = .agg #[.string gs1, .string gs2]
              | 21 => v = .string ST
              | 22 => v = .agg #[.string gs1, .string gs2]
              | 23 => v = .string ST
              | 24 => v = .bool true
              | 25 => v = .bool true
              | 26 => v = .bool true
              | _ => True) (fun i _ v => match i with
              | 0 => v = .int .i64 0
              | 1 => v = .bool true
              | 2 => v = .bool true
              | 3 => v = .int .i64 0
              | 4 => v = .bool true
              | 5 => v = .bool true
              | 6 => v = .bool true
              | 7 => v = .int .i64 0
              | 8 => v = .bool true
              | 9 => v = .bool true
              | 10 => v = .bool true
              | 11 => v = .int .i64 0
              | 12 => v = .bool true
              | 13 => v = .bool true
              | 14 => v = .bool true
              | 15 => v = .agg #[.string gl1, .string gl2]
              | 16 => v = .agg #[.string gl1, .string gl2]
              | 17 => v = .bool true
              | 18 => v = .bool true
              | 19 => v = .bool true
              | 20 => v = .agg #[.string gs1, .string gs2]
              | 21 => True
              | 22 => v = .agg #[.string gs1, .string gs2]
              | 23 => True
              | 24 => v = .bool true
              | 25 => v = .bool true
              | 26 => v = .bool true
              | _ => True)
              (fun _ _ _ => True) (by kernel_rfl) (by kernel_rfl) (by kernel_rfl) ?hst_r24_ ?hG_r24_ _ ?hfr_r24_ ?hob_r24_ ?hend_r24_
          case hfr_r24_ =>
            intro z
            simp only [fillAll, Act.put, List.setIfInBounds_toArray, List.set_cons_zero, List.set_cons_succ, Nat.reduceAdd, Nat.zero_add]
            exact rfl
          case hst_r24_ =>
            intro i z v w1 w2 hi hb hx
            rcases i with _ | i
            · exact hx
            rcases i with _ | i
            · exact hx
            rcases i with _ | i
            · exact hx
            rcases i with _ | i
            · exact hx
            rcases i with _ | i
            · exact hx
            rcases i with _ | i
            · exact hx
            rcases i with _ | i
            · exact hx
            rcases i with _ | i
            · exact hx
            rcases i with _ | i
            · exact hx
            rcases i with _ | i
            · exact hx
            rcases i with _ | i
            · exact hx
            rcases i with _ | i
            · exact hx
            rcases i with _ | i
            · exact hx
            rcases i with _ | i
            · exact hx
            rcases i with _ | i
            · exact hx
            rcases i with _ | i
            · exact hx
            rcases i with _ | i
            · exact hx
            rcases i with _ | i
            · exact hx
            rcases i with _ | i
            · exact hx
            rcases i with _ | i
            · exact hx
            rcases i with _ | i
            · exact hx
            rcases i with _ | i
            · exact (fun v w1 w2 hb h => h) v w1 w2 hb hx
            rcases i with _ | i
            · exact hx
            rcases i with _ | i
            · exact (fun v w1 w2 hb h => h) v w1 w2 hb hx
            rcases i with _ | i
            · exact hx
            rcases i with _ | i
            · exact hx
            rcases i with _ | i
            · exact hx
            exact absurd hi (by omega)
          case hG_r24_ =>
            intro i z v w1 hi hx
            rcases i with _ | i
            · exact hx
            rcases i with _ | i
            · exact hx
            rcases i with _ | i
            · exact hx
            rcases i with _ | i
            · exact hx
            rcases i with _ | i
            · exact hx
            rcases i with _ | i
            · exact hx
            rcases i with _ | i
            · exact hx
            rcases i with _ | i
            · exact hx
            rcases i with _ | i
            · exact hx
            rcases i with _ | i
            · exact hx
            rcases i with _ | i
            · exact hx
            rcases i with _ | i
            · exact hx
            rcases i with _ | i
            · exact hx
            rcases i with _ | i
            · exact hx
            rcases i with _ | i
            · exact hx
            rcases i with _ | i
            · exact hx
            rcases i with _ | i
            · exact hx
            rcases i with _ | i
            · exact hx
            rcases i with _ | i
            · exact hx
            rcases i with _ | i
            · exact hx
            rcases i with _ | i
            · exact hx
            rcases i with _ | i
            · trivial
            rcases i with _ | i
            · exact hx
            rcases i with _ | i
            · trivial
            rcases i with _ | i
            · exact hx
            rcases i with _ | i
            · exact hx
            rcases i with _ | i
            · exact hx
            exact absurd hi (by omega)
          case hob_r24_ =>
            intro hfr
            refine AllOb.cons (j := 1) (by kernel_rfl) ?_ ?_
            · refine' ob_body (fr := _) ?hf_r24_0 ?h1_r24_0 ?h2_r24_0 ?h3_r24_0 ?h_r24_0
              case hf_r24_0 => exact hfr
              case h1_r24_0 => kernel_rfl
              case h2_r24_0 => kernel_rfl
              case h3_r24_0 => rfl
              clear hfr
              intro z w1 hb hd ho K hK
              clear hd ho
              go_simp
              have hh := hK.out (.int .i64 0) _ (Below.refl _ _) rfl
              simp only [Act.put, List.setIfInBounds_toArray, List.set_cons_zero, List.set_cons_succ] at hh
              exact hh
            refine AllOb.cons (j := 2) (by kernel_rfl) ?_ ?_
            · refine' ob_body (fr := _) ?hf_r24_1 ?h1_r24_1 ?h2_r24_1 ?h3_r24_1 ?h_r24_1
              case hf_r24_1 => exact hfr
              case h1_r24_1 => kernel_rfl
              case h2_r24_1 => kernel_rfl
              case h3_r24_1 => rfl
              clear hfr
              intro z w1 hb hd ho K hK
              have e0 : z 0 = .int .i64 0 := hd.out 0 (by kernel_rfl)
              clear hd ho
              go_simp
              have hh := hK.out (.bool true) _ (Below.refl _ _) rfl
              simp only [Act.put, List.setIfInBounds_toArray, List.set_cons_zero, List.set_cons_succ, e0] at hh
              exact hh
            refine AllOb.cons (j := 3) (by kernel_rfl) ?_ ?_
            · refine' ob_body (fr := _) ?hf_r24_2 ?h1_r24_2 ?h2_r24_2 ?h3_r24_2 ?h_r24_2
              case hf_r24_2 => exact hfr
              case h1_r24_2 => kernel_rfl
              case h2_r24_2 => kernel_rfl
              case h3_r24_2 => rfl
              clear hfr
              intro z w1 hb hd ho K hK
              have e1 : z 1 = .bool true := hd.out 1 (by kernel_rfl)
              clear hd ho
              go_simp
              have hh := hK.out (.bool true) _ (Below.refl _ _) rfl
              simp only [Act.put, List.setIfInBounds_toArray, List.set_cons_zero, List.set_cons_succ, e1] at hh
              exact hh
            refine AllOb.cons (j := 4) (by kernel_rfl) ?_ ?_
            · refine' ob_bodyg (fr := _) ?hf_r24_3 ?h1_r24_3 ?h2_r24_3 ?h_r24_3
              case hf_r24_3 => exact hfr
              case h1_r24_3 => kernel_rfl
              case h2_r24_3 => kernel_rfl
              clear hfr
              intro z w1 hb hd ho K hK
              have e2 : z 2 = .bool true := hd.out 2 (by kernel_rfl)
              clear hd ho
              refine ⟨Lib.hid (by rw [e2]; kernel_rfl), ?_⟩
              go_simp
              have hh := hK.out (.int .i64 0) _ (Below.refl _ _) rfl
              simp only [Act.put, List.setIfInBounds_toArray, List.set_cons_zero, List.set_cons_succ, e2] at hh
              exact hh
            refine AllOb.cons (j := 5) (by kernel_rfl) ?_ ?_
            · refine' ob_bodyg (fr := _) ?hf_r24_4 ?h1_r24_4 ?h2_r24_4 ?h_r24_4
              case hf_r24_4 => exact hfr
              case h1_r24_4 => kernel_rfl
              case h2_r24_4 => kernel_rfl
              clear hfr
              intro z w1 hb hd ho K hK
              have e2 : z 2 = .bool true := hd.out 2 (by kernel_rfl)
              have e3 : z 3 = .int .i64 0 := hd.out 3 (by kernel_rfl)
              clear hd ho
              refine ⟨Lib.hid (by rw [e2]; kernel_rfl), ?_⟩
              go_simp
              have hh := hK.out (.bool true) _ (Below.refl _ _) rfl
              simp only [Act.put, List.setIfInBounds_toArray, List.set_cons_zero, List.set_cons_succ, e2, e3] at hh
              exact hh
            refine AllOb.cons (j := 6) (by kernel_rfl) ?_ ?_
            · refine' ob_body (fr := _) ?hf_r24_5 ?h1_r24_5 ?h2_r24_5 ?h3_r24_5 ?h_r24_5
              case hf_r24_5 => exact hfr
              case h1_r24_5 => kernel_rfl
              case h2_r24_5 => kernel_rfl
              case h3_r24_5 => rfl
              clear hfr
              intro z w1 hb hd ho K hK
              have e2 : z 2 = .bool true := hd.out 2 (by kernel_rfl)
              have e4 : z 4 = .bool true := hd.out 4 (by kernel_rfl)
              clear hd ho
              go_simp
              have hh := hK.out (.bool true) _ (Below.refl _ _) rfl
              simp only [Act.put, List.setIfInBounds_toArray, List.set_cons_zero, List.set_cons_succ, e2, e4] at hh
              exact hh
            refine AllOb.cons (j := 7) (by kernel_rfl) ?_ ?_
            · refine' ob_body (fr := _) ?hf_r24_6 ?h1_r24_6 ?h2_r24_6 ?h3_r24_6 ?h_r24_6
              case hf_r24_6 => exact hfr
              case h1_r24_6 => kernel_rfl
              case h2_r24_6 => kernel_rfl
              case h3_r24_6 => rfl
              clear hfr
              intro z w1 hb hd ho K hK
              have e5 : z 5 = .bool true := hd.out 5 (by kernel_rfl)
              clear hd ho
              go_simp
              have hh := hK.out (.bool true) _ (Below.refl _ _) rfl
              simp only [Act.put, List.setIfInBounds_toArray, List.set_cons_zero, List.set_cons_succ, e5] at hh
              exact hh
            refine AllOb.cons (j := 8) (by kernel_rfl) ?_ ?_
            · refine' ob_bodyg (fr := _) ?hf_r24_7 ?h1_r24_7 ?h2_r24_7 ?h_r24_7
              case hf_r24_7 => exact hfr
              case h1_r24_7 => kernel_rfl
              case h2_r24_7 => kernel_rfl
              clear hfr
              intro z w1 hb hd ho K hK
              have e6 : z 6 = .bool true := hd.out 6 (by kernel_rfl)
              clear hd ho
              refine ⟨Lib.hid (by rw [e6]; kernel_rfl), ?_⟩
              go_simp
              have hh := hK.out (.int .i64 0) _ (Below.refl _ _) rfl
              simp only [Act.put, List.setIfInBounds_toArray, List.set_cons_zero, List.set_cons_succ, e6] at hh
              exact hh
            refine AllOb.cons (j := 9) (by kernel_rfl) ?_ ?_
            · refine' ob_bodyg (fr := _) ?hf_r24_8 ?h1_r24_8 ?h2_r24_8 ?h_r24_8
              case hf_r24_8 => exact hfr
              case h1_r24_8 => kernel_rfl
              case h2_r24_8 => kernel_rfl
              clear hfr
              intro z w1 hb hd ho K hK
              have e6 : z 6 = .bool true := hd.out 6 (by kernel_rfl)
              have e7 : z 7 = .int .i64 0 := hd.out 7 (by kernel_rfl)
              clear hd ho
              refine ⟨Lib.hid (by rw [e6]; kernel_rfl), ?_⟩
              go_simp
              have hh := hK.out (.bool true) _ (Below.refl _ _) rfl
              simp only [Act.put, List.setIfInBounds_toArray, List.set_cons_zero, List.set_cons_succ, e6, e7] at hh
              exact hh
            refine AllOb.cons (j := 10) (by kernel_rfl) ?_ ?_
            · refine' ob_body (fr := _) ?hf_r24_9 ?h1_r24_9 ?h2_r24_9 ?h3_r24_9 ?h_r24_9
              case hf_r24_9 => exact hfr
              case h1_r24_9 => kernel_rfl
              case h2_r24_9 => kernel_rfl
              case h3_r24_9 => rfl
              clear hfr
              intro z w1 hb hd ho K hK
              have e6 : z 6 = .bool true := hd.out 6 (by kernel_rfl)
              have e8 : z 8 = .bool true := hd.out 8 (by kernel_rfl)
              clear hd ho
              go_simp
              have hh := hK.out (.bool true) _ (Below.refl _ _) rfl
              simp only [Act.put, List.setIfInBounds_toArray, List.set_cons_zero, List.set_cons_succ, e6, e8] at hh
              exact hh
            refine AllOb.cons (j := 11) (by kernel_rfl) ?_ ?_
            · refine' ob_body (fr := _) ?hf_r24_10 ?h1_r24_10 ?h2_r24_10 ?h3_r24_10 ?h_r24_10
              case hf_r24_10 => exact hfr
              case h1_r24_10 => kernel_rfl
              case h2_r24_10 => kernel_rfl
              case h3_r24_10 => rfl
              clear hfr
              intro z w1 hb hd ho K hK
              have e9 : z 9 = .bool true := hd.out 9 (by kernel_rfl)
              clear hd ho
              go_simp
              have hh := hK.out (.bool true) _ (Below.refl _ _) rfl
              simp only [Act.put, List.setIfInBounds_toArray, List.set_cons_zero, List.set_cons_succ, e9] at hh
              exact hh
            refine AllOb.cons (j := 12) (by kernel_rfl) ?_ ?_
            · refine' ob_bodyg (fr := _) ?hf_r24_11 ?h1_r24_11 ?h2_r24_11 ?h_r24_11
              case hf_r24_11 => exact hfr
              case h1_r24_11 => kernel_rfl
              case h2_r24_11 => kernel_rfl
              clear hfr
              intro z w1 hb hd ho K hK
              have e10 : z 10 = .bool true := hd.out 10 (by kernel_rfl)
              clear hd ho
              refine ⟨Lib.hid (by rw [e10]; kernel_rfl), ?_⟩
              go_simp
              have hh := hK.out (.int .i64 0) _ (Below.refl _ _) rfl
              simp only [Act.put, List.setIfInBounds_toArray, List.set_cons_zero, List.set_cons_succ, e10] at hh
              exact hh
            refine AllOb.cons (j := 13) (by kernel_rfl) ?_ ?_
            · refine' ob_bodyg (fr := _) ?hf_r24_12 ?h1_r24_12 ?h2_r24_12 ?h_r24_12
              case hf_r24_12 => exact hfr
              case h1_r24_12 => kernel_rfl
              case h2_r24_12 => kernel_rfl
              clear hfr
              intro z w1 hb hd ho K hK
              have e10 : z 10 = .bool true := hd.out 10 (by kernel_rfl)
              have e11 : z 11 = .int .i64 0 := hd.out 11 (by kernel_rfl)
              clear hd ho
              refine ⟨Lib.hid (by rw [e10]; kernel_rfl), ?_⟩
              go_simp
              have hh := hK.out (.bool true) _ (Below.refl _ _) rfl
              simp only [Act.put, List.setIfInBounds_toArray, List.set_cons_zero, List.set_cons_succ, e10, e11] at hh
              exact hh
            refine AllOb.cons (j := 14) (by kernel_rfl) ?_ ?_
            · refine' ob_body (fr := _) ?hf_r24_13 ?h1_r24_13 ?h2_r24_13 ?h3_r24_13 ?h_r24_13
              case hf_r24_13 => exact hfr
              case h1_r24_13 => kernel_rfl
              case h2_r24_13 => kernel_rfl
              case h3_r24_13 => rfl
              clear hfr
              intro z w1 hb hd ho K hK
              have e10 : z 10 = .bool true := hd.out 10 (by kernel_rfl)
              have e12 : z 12 = .bool true := hd.out 12 (by kernel_rfl)
              clear hd ho
              go_simp
              have hh := hK.out (.bool true) _ (Below.refl _ _) rfl
              simp only [Act.put, List.setIfInBounds_toArray, List.set_cons_zero, List.set_cons_succ, e10, e12] at hh
              exact hh
            refine AllOb.cons (j := 15) (by kernel_rfl) ?_ ?_
            · refine' ob_body (fr := _) ?hf_r24_14 ?h1_r24_14 ?h2_r24_14 ?h3_r24_14 ?h_r24_14
              case hf_r24_14 => exact hfr
              case h1_r24_14 => kernel_rfl
              case h2_r24_14 => kernel_rfl
              case h3_r24_14 => rfl
              clear hfr
              intro z w1 hb hd ho K hK
              have e13 : z 13 = .bool true := hd.out 13 (by kernel_rfl)
              clear hd ho
              go_simp
              have hh := hK.out (.bool true) _ (Below.refl _ _) rfl
              simp only [Act.put, List.setIfInBounds_toArray, List.set_cons_zero, List.set_cons_succ, e13] at hh
              exact hh
            refine AllOb.cons (j := 16) (by kernel_rfl) ?_ ?_
            · refine' ob_bodyg (fr := _) ?hf_r24_15 ?h1_r24_15 ?h2_r24_15 ?h_r24_15
              case hf_r24_15 => exact hfr
              case h1_r24_15 => kernel_rfl
              case h2_r24_15 => kernel_rfl
              clear hfr
              intro z w1 hb hd ho K hK
              have e14 : z 14 = .bool true := hd.out 14 (by kernel_rfl)
              clear hd ho
              refine ⟨Lib.hid (by rw [e14]; kernel_rfl), ?_⟩
              have x0 := ql0.out w1 hb; have x1 := ql1.out w1 hb
              go_simp
              have hh := hK.out (.agg #[.string gl1, .string gl2]) _ (Below.refl _ _) rfl
              simp only [Act.put, List.setIfInBounds_toArray, List.set_cons_zero, List.set_cons_succ, e14] at hh
              exact hh
            refine AllOb.cons (j := 17) (by kernel_rfl) ?_ ?_
            · refine' ob_bodyg (fr := _) ?hf_r24_16 ?h1_r24_16 ?h2_r24_16 ?h_r24_16
              case hf_r24_16 => exact hfr
              case h1_r24_16 => kernel_rfl
              case h2_r24_16 => kernel_rfl
              clear hfr
              intro z w1 hb hd ho K hK
              have e14 : z 14 = .bool true := hd.out 14 (by kernel_rfl)
              clear hd ho
              refine ⟨Lib.hid (by rw [e14]; kernel_rfl), ?_⟩
              have x0 := qr0.out w1 hb; have x1 := qr1.out w1 hb
              go_simp
              have hh := hK.out (.agg #[.string gl1, .string gl2]) _ (Below.refl _ _) rfl
              simp only [Act.put, List.setIfInBounds_toArray, List.set_cons_zero, List.set_cons_succ, e14] at hh
              exact hh
            refine AllOb.cons (j := 18) (by kernel_rfl) ?_ ?_
            · refine' ob_bodyg (fr := _) ?hf_r24_17 ?h1_r24_17 ?h2_r24_17 ?h_r24_17
              case hf_r24_17 => exact hfr
              case h1_r24_17 => kernel_rfl
              case h2_r24_17 => kernel_rfl
              clear hfr
              intro z w1 hb hd ho K hK
              have e14 : z 14 = .bool true := hd.out 14 (by kernel_rfl)
              have e15 : z 15 = .agg #[.string gl1, .string gl2] := hd.out 15 (by kernel_rfl)
              have e16 : z 16 = .agg #[.string gl1, .string gl2] := hd.out 16 (by kernel_rfl)
              clear hd ho
              refine ⟨Lib.hid (by rw [e14]; kernel_rfl), ?_⟩
              go_simp
              have hh := hK.out (.bool true) _ (Below.refl _ _) rfl
              simp only [Act.put, List.setIfInBounds_toArray, List.set_cons_zero, List.set_cons_succ, e14, e15, e16] at hh
              exact hh
            refine AllOb.cons (j := 19) (by kernel_rfl) ?_ ?_
            · refine' ob_body (fr := _) ?hf_r24_18 ?h1_r24_18 ?h2_r24_18 ?h3_r24_18 ?h_r24_18
              case hf_r24_18 => exact hfr
              case h1_r24_18 => kernel_rfl
              case h2_r24_18 => kernel_rfl
              case h3_r24_18 => rfl
              clear hfr
              intro z w1 hb hd ho K hK
              have e14 : z 14 = .bool true := hd.out 14 (by kernel_rfl)
              have e17 : z 17 = .bool true := hd.out 17 (by kernel_rfl)
              clear hd ho
              go_simp
              have hh := hK.out (.bool true) _ (Below.refl _ _) rfl
              simp only [Act.put, List.setIfInBounds_toArray, List.set_cons_zero, List.set_cons_succ, e14, e17] at hh
              exact hh
            refine AllOb.cons (j := 20) (by kernel_rfl) ?_ ?_
            · refine' ob_body (fr := _) ?hf_r24_19 ?h1_r24_19 ?h2_r24_19 ?h3_r24_19 ?h_r24_19
              case hf_r24_19 => exact hfr
              case h1_r24_19 => kernel_rfl
              case h2_r24_19 => kernel_rfl
              case h3_r24_19 => rfl
              clear hfr
              intro z w1 hb hd ho K hK
              have e18 : z 18 = .bool true := hd.out 18 (by kernel_rfl)
              clear hd ho
              go_simp
              have hh := hK.out (.bool true) _ (Below.refl _ _) rfl
              simp only [Act.put, List.setIfInBounds_toArray, List.set_cons_zero, List.set_cons_succ, e18] at hh
              exact hh
            refine AllOb.cons (j := 21) (by kernel_rfl) ?_ ?_
            · refine' ob_bodyg (fr := _) ?hf_r24_20 ?h1_r24_20 ?h2_r24_20 ?h_r24_20
              case hf_r24_20 => exact hfr
              case h1_r24_20 => kernel_rfl
              case h2_r24_20 => kernel_rfl
              clear hfr
              intro z w1 hb hd ho K hK
              have e19 : z 19 = .bool true := hd.out 19 (by kernel_rfl)
              clear hd ho
              refine ⟨Lib.hid (by rw [e19]; kernel_rfl), ?_⟩
              have x0 := qs0.out w1 hb; have x1 := qs1.out w1 hb
              go_simp
              have hh := hK.out (.agg #[.string gs1, .string gs2]) _ (Below.refl _ _) rfl
              simp only [Act.put, List.setIfInBounds_toArray, List.set_cons_zero, List.set_cons_succ, e19] at hh
              exact hh
            refine AllOb.cons (j := 22) (by kernel_rfl) ?_ ?_
            · refine' ob_bodyg (fr := _) ?hf_r24_21 ?h1_r24_21 ?h2_r24_21 ?h_r24_21
              case hf_r24_21 => exact hfr
              case h1_r24_21 => kernel_rfl
              case h2_r24_21 => kernel_rfl
              clear hfr
              intro z w1 hb hd ho K hK
              have e19 : z 19 = .bool true := hd.out 19 (by kernel_rfl)
              have e20 : z 20 = .agg #[.string gs1, .string gs2] := hd.out 20 (by kernel_rfl)
              clear hd ho
              refine ⟨Lib.hid (by rw [e19]; kernel_rfl), ?_⟩
              go_simp
              refine (txt_i.out _).mono ?_
              rintro e w2 ⟨rfl, b⟩
              have hh := hK.out _ _ b (rfl)
              simp only [Act.put, List.setIfInBounds_toArray, List.set_cons_zero, List.set_cons_succ, e19, e20] at hh
              exact hh
            refine AllOb.cons (j := 23) (by kernel_rfl) ?_ ?_
            · refine' ob_bodyg (fr := _) ?hf_r24_22 ?h1_r24_22 ?h2_r24_22 ?h_r24_22
              case hf_r24_22 => exact hfr
              case h1_r24_22 => kernel_rfl
              case h2_r24_22 => kernel_rfl
              clear hfr
              intro z w1 hb hd ho K hK
              have e19 : z 19 = .bool true := hd.out 19 (by kernel_rfl)
              clear hd ho
              refine ⟨Lib.hid (by rw [e19]; kernel_rfl), ?_⟩
              have x0 := qs0.out w1 hb; have x1 := qs1.out w1 hb
              go_simp
              have hh := hK.out (.agg #[.string gs1, .string gs2]) _ (Below.refl _ _) rfl
              simp only [Act.put, List.setIfInBounds_toArray, List.set_cons_zero, List.set_cons_succ, e19] at hh
              exact hh
            refine AllOb.cons (j := 24) (by kernel_rfl) ?_ ?_
            · refine' ob_bodyg (fr := _) ?hf_r24_23 ?h1_r24_23 ?h2_r24_23 ?h_r24_23
              case hf_r24_23 => exact hfr
              case h1_r24_23 => kernel_rfl
              case h2_r24_23 => kernel_rfl
              clear hfr
              intro z w1 hb hd ho K hK
              have e19 : z 19 = .bool true := hd.out 19 (by kernel_rfl)
              have e22 : z 22 = .agg #[.string gs1, .string gs2] := hd.out 22 (by kernel_rfl)
              clear hd ho
              refine ⟨Lib.hid (by rw [e19]; kernel_rfl), ?_⟩
              go_simp
              refine (txt_s.out _).mono ?_
              rintro e w2 ⟨rfl, b⟩
              have hh := hK.out _ _ b (rfl)
              simp only [Act.put, List.setIfInBounds_toArray, List.set_cons_zero, List.set_cons_succ, e19, e22] at hh
              exact hh
            refine AllOb.cons (j := 25) (by kernel_rfl) ?_ ?_
            · refine' ob_bodyg (fr := _) ?hf_r24_24 ?h1_r24_24 ?h2_r24_24 ?h_r24_24
              case hf_r24_24 => exact hfr
              case h1_r24_24 => kernel_rfl
              case h2_r24_24 => kernel_rfl
              clear hfr
              intro z w1 hb hd ho K hK
              have e19 : z 19 = .bool true := hd.out 19 (by kernel_rfl)
              have e21 : (z 21) = .string ST := hd.out 21 (by kernel_rfl)
              have e23 : (z 23) = .string ST := hd.out 23 (by kernel_rfl)
              clear hd ho
              refine ⟨Lib.hid (by rw [e19]; kernel_rfl), ?_⟩
              go_simp
              have hh := hK.out (.bool true) _ (Below.refl _ _) rfl
              simp only [Act.put, List.setIfInBounds_toArray, List.set_cons_zero, List.set_cons_succ, e19, e21, e23] at hh
              exact hh
            refine AllOb.cons (j := 26) (by kernel_rfl) ?_ ?_
            · refine' ob_body (fr := _) ?hf_r24_25 ?h1_r24_25 ?h2_r24_25 ?h3_r24_25 ?h_r24_25
              case hf_r24_25 => exact hfr
              case h1_r24_25 => kernel_rfl
              case h2_r24_25 => kernel_rfl
              case h3_r24_25 => rfl
              clear hfr
              intro z w1 hb hd ho K hK
              have e19 : z 19 = .bool true := hd.out 19 (by kernel_rfl)
              have e24 : z 24 = .bool true := hd.out 24 (by kernel_rfl)
              clear hd ho
              go_simp
              have hh := hK.out (.bool true) _ (Below.refl _ _) rfl
              simp only [Act.put, List.setIfInBounds_toArray, List.set_cons_zero, List.set_cons_succ, e19, e24] at hh
              exact hh
            refine AllOb.cons (j := 27) (by kernel_rfl) ?_ ?_
            · refine' ob_body (fr := _) ?hf_r24_26 ?h1_r24_26 ?h2_r24_26 ?h3_r24_26 ?h_r24_26
              case hf_r24_26 => exact hfr
              case h1_r24_26 => kernel_rfl
              case h2_r24_26 => kernel_rfl
              case h3_r24_26 => rfl
              clear hfr
              intro z w1 hb hd ho K hK
              have e25 : z 25 = .bool true := hd.out 25 (by kernel_rfl)
              clear hd ho
              go_simp
              have hh := hK.out (.bool true) _ (Below.refl _ _) rfl
              simp only [Act.put, List.setIfInBounds_toArray, List.set_cons_zero, List.set_cons_succ, e25] at hh
              exact hh
            exact AllOb.nil
          case hend_r24_ =>
            intro hfr
            refine' end_plain (fr := _) ?a24 ?b24 ?c24
            case a24 => exact hfr
            case b24 => kernel_rfl
            clear hfr
            intro z w1 hb hf
            have e26 : z 26 = .bool true := hf.out 26 (by decide)
            simp only [e26]
            clear e26 hf
            go_wp2
            go_ret
            exact ⟨rfl, below_wt BB hb⟩

theorem walk {w : World} (htab : Tab10 w) (v0 : Value) (l0 : Nat) (k0 : Bytes w v0 l0) (v1 : Value) (l1 : Nat) (k1 : Bytes w v1 l1) :
    Calls Tryz.prog 3 #[v0, v1] w fun e w' => e = .returned (.bool true) ∧ Below w.heap.size w w' := by
  by_cases h0 : l0 ≤ 4096
  · by_cases h1 : l1 ≤ 4096
    · exact walk_ok htab v0 l0 k0 v1 l1 k1 h0 h1
    · exact walk_big v0 l0 k0 v1 l1 k1 (Or.inr ⟨h0, by omega⟩)
  · exact walk_big v0 l0 k0 v1 l1 k1 (Or.inl (by omega))

set_option maxRecDepth 100000 in
theorem lifted (os : Os) (started : os.Started) (H : Type) (enc : TypeId × Value → H) :
    ReturnsInHanded {} Tryz.checked os 3 .any (fun w args => (Rows.fnFractionsSpec.pre enc Tryz.prog Tryz.f3 [] false w args ∧ laidMetH Tryz.prog laidL w) ∧ sizedMet enc Tryz.prog Tryz.f3 (OpenSpec.ofChange Rows.fnFractionsSpec) false w args)
      (Rows.fnFractionsSpec.post enc Tryz.prog Tryz.f3 false true false false) := by
  refine returnsInHanded_of_change_and (C := Tryz.checked) (X := fun w _ => laidMetH Tryz.prog laidL w) (fun _ _ _ hh h => h.of_heap hh) own started (by kernel_rfl) Tryz.func3
    (ChangeSpec.witness_shaped (enc := enc) (C := Tryz.checked) (os := os) (X := fun w _ => laidMetH Tryz.prog laidL w) false (World.doorLaid Tryz.prog 400 os) #[.slice none 0 0, .slice none 0 0] 8 rfl (World.shaped_of_RefB (by kernel_rfl) (by kernel_rfl)) (by kernel_rfl) (by kernel_rfl) (by kernel_rfl) (door_met os _)) ?_
  intro W base args ds gs before hval0 hW _ _ hL _
  have htab : Tab10 W := tab10_of hL
  have hval : ∀ (j : Nat) t v, Tryz.f3.params[j]? = some t → args[j]? = some v → Value.okWide Tryz.prog W .any base t v := hval0
  have hW' := hW
  obtain ⟨p, q, hA0, hV, rfl, hfz, hnd⟩ := hW
  have hA : DataW.TrodAll enc Tryz.prog W 0 (fun _ => true) true Tryz.f3.params.toList args.toList ds p := hA0
  rw [Tryz.params3] at hA hval
  obtain ⟨v0, vs0, d0, ds0, p0, q0, hargs, rfl, rfl, h0, r0⟩ := trodAll_cons hA
  obtain ⟨v1, vs1, d1, ds1, p1, q1, rfl, rfl, rfl, h1, r1⟩ := trodAll_cons r0
  obtain ⟨rfl, rfl, rfl⟩ := trodAll_nil r1
  obtain rfl : args = #[v0, v1] := by cases args; simp_all
  obtain ⟨rfl, rfl⟩ := trodVars_none hV
  have k0 := h0
  have lt0 : ∀ x ∈ p0, x.block < W.heap.size := by obtain ⟨m, hm⟩ := k0; exact DataW.trod_lt m _ _ _ hm
  obtain ⟨c0, w0⟩ := open_code (hval 0 22 v0 rfl rfl) h0
  have k1 := h1
  have lt1 : ∀ x ∈ p1, x.block < W.heap.size := by obtain ⟨m, hm⟩ := k1; exact DataW.trod_lt m _ _ _ hm
  obtain ⟨c1, w1⟩ := open_code (hval 1 22 v1 rfl rfl) h1
  clear hA0 hval0
  refine (walk htab v0 c0 w0 v1 c1 w1).mono fun e W' ⟨he, bel⟩ => ?_
  subst he
  exact ⟨_, rfl, _, _, _, [], _, [], hW', trodAll_mk1 (shut_bool Tryz.underlying4 _), (trodAll_cons_mk (Below.trod laidOut (by kernel_rfl) (of_decide_eq_true (by kernel_rfl)) k0 bel lt0) (trodAll_cons_mk (Below.trod laidOut (by kernel_rfl) (of_decide_eq_true (by kernel_rfl)) k1 bel lt1) trodAll_mk0)), rfl, bel.frame _, fun h => by cases h⟩

theorem over : Rows.FnFractionsSaid :=
  OpenClaim.holds_of_wide 3 Tryz.f3 rfl rfl rfl rfl rfl rfl rfl ⟨rfl, rfl, rfl, rfl, rfl⟩ rfl rfl rfl rfl rfl (by kernel_rfl) Tryz.func3 (by kernel_rfl)
    (of_decide_eq_true (by kernel_rfl)) (by unfold Func.isWrapper; first | (rw [if_pos (by decide +kernel)]; kernel_rfl) | (rw [if_neg (by decide +kernel)]; exact ⟨rfl, rfl⟩))
    (fun os started H enc _ => lifted os started H enc)

/-- the statement: the tied card -/
theorem proved : Rows.FnFractionsCardSaid :=
  Claim7.holds_tied_plain_at .later [] [.data, .data, .data] true (true, "45f2684c3a7f54e46425a959a6a4822fb9a02b91778fd407763758523c5094de") false
    over (fun _ h => by cases h) (by kernel_rfl) (fun _ h => by cases h) fnFractions_row_tie rfl ⟨rfl, rfl⟩ (by kernel_rfl) rfl
    (fun f fn hf hfn => by
      obtain rfl : f = 3 := Option.some.inj ((show Tryz.prog.funcNamed "loop.example/g01118/laws.FnFractions" = some 3 by kernel_rfl).symm.trans hf) |>.symm
      obtain rfl : fn = Tryz.f3 := (Option.some.inj (Tryz.func3.symm.trans hfn)).symm
      exact ⟨by kernel_rfl, fun j t ht => by
        rw [Tryz.params3] at ht
        have hm : t ∈ [22, 22] := by simpa using Array.mem_of_getElem? ht
        have hall : ([22, 22].all fun u => !Tryz.prog.wantsStandIn u) = true := by kernel_rfl
        exact (show Tryz.prog.wantsStandIn t = false by simpa using List.all_eq_true.1 hall t hm)⟩)
    (by kernel_rfl)
end Go.Proofs.YtcbpbhaimjhelaaGreatDoor.fnFractions
