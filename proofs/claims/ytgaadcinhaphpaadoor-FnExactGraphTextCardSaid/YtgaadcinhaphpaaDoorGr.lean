/- Graphs (a number and rows) as the laws handle them: opened, told in size, copied, compared, marked and found again. Conditions: those of the rows. -/
import Derived.Test.YtgaadcinhaphpaaDoorKinds
import Derived.Test.YtgaadcinhaphpaaDoorTo
namespace Go.Proofs.YtgaadcinhaphpaaDoor
open Go.ChangeShapes Go.WideShapes Go.ChangeAt Go.RowKit Go.Deep Go.Joins
set_option linter.unusedVariables false

/-- a graph: the number of nodes, and the edges -/
structure Gr where
  n : Int
  e : List (List Int)

def GrR (w : World) (cv : Value) (c : Gr) : Prop := ∃ v, cv = .agg #[.int .i64 c.n, v] ∧ Rows2 w v c.e
theorem GrR.keep {w w' : World} {cv : Value} {c : Gr} (h : GrR w cv c) (hb : Below w.heap.size w w') : GrR w' cv c := by
  obtain ⟨v, hv, hr⟩ := h
  exact ⟨v, hv, hr.keep hb⟩
theorem GrR.shape {w : World} {cv : Value} {c : Gr} (h : GrR w cv c) : ∃ a cap, cv = .agg #[.int .i64 c.n, .slice a c.e.length cap] := by
  obtain ⟨v, rfl, hr⟩ := h
  obtain ⟨_, a, cap, rfl⟩ := hr.len
  exact ⟨a, cap, rfl⟩
def GrOwn (e2 e1 : TypeId) (w : World) (lo hi : Nat) (cv : Value) (c : Gr) : Prop := ∃ v, cv = .agg #[.int .i64 c.n, v] ∧ OwnRows e2 e1 w lo hi v c.e
theorem GrOwn.ch {e2 e1 : TypeId} {w : World} {lo hi : Nat} {cv : Value} {c : Gr} (h : GrOwn e2 e1 w lo hi cv c) : GrR w cv c := by
  obtain ⟨v, hv, hr⟩ := h
  exact ⟨v, hv, hr.rows⟩
theorem GrOwn.keep {e2 e1 : TypeId} {w w' : World} {lo hi B : Nat} {cv : Value} {c : Gr} (h : GrOwn e2 e1 w lo hi cv c) (hB : hi ≤ B) (hb : Below B w w') : GrOwn e2 e1 w' lo hi cv c := by
  obtain ⟨v, hv, hr⟩ := h
  exact ⟨v, hv, hr.keep hB hb⟩
theorem GrOwn.wide {e2 e1 : TypeId} {w : World} {lo hi lo' hi' : Nat} {cv : Value} {c : Gr} (h : GrOwn e2 e1 w lo hi cv c) (h1 : lo' ≤ lo) (h2 : hi ≤ hi') : GrOwn e2 e1 w lo' hi' cv c := by
  obtain ⟨v, hv, hr⟩ := h
  exact ⟨v, hv, hr.wide h1 h2⟩
theorem GrOwn.same {e2 e1 : TypeId} {w w' : World} {lo hi : Nat} {cv : Value} {c : Gr} (h : GrOwn e2 e1 w lo hi cv c) (hs : SameOn lo hi w w') : GrOwn e2 e1 w' lo hi cv c := by
  obtain ⟨v, hv, hr⟩ := h
  exact ⟨v, hv, hr.same hs⟩
theorem Blk.two {w : World} {b : Nat} {x y : Value} {t : TypeId} (h : Blk w b #[x, y] t) : w.cell? ⟨b, 0, none⟩ = some x ∧ w.cell? ⟨b, 1, none⟩ = some y := ⟨h.cell 0, h.cell 1⟩
theorem duo2 {w : World} {b b' : Nat} {x y x' y' : Value} {t t' : TypeId} (h : Blk w b #[x, y] t) (k : Blk w b' #[x', y'] t') :
    w.cell? ⟨b, 0, none⟩ = some x ∧ w.cell? ⟨b, 1, none⟩ = some y ∧ w.cell? ⟨b', 0, none⟩ = some x' ∧ w.cell? ⟨b', 1, none⟩ = some y' :=
  ⟨h.cell 0, h.cell 1, k.cell 0, k.cell 1⟩

/-- a graph that a call made, told with its blocks' bounds -/
structure GrMine (e2 e1 : TypeId) (w : World) (lo hi : Nat) (cv : Value) (c : Gr) : Prop where
  own : GrOwn e2 e1 w lo hi cv c
  le : hi ≤ w.heap.size
theorem GrMine.step {e2 e1 : TypeId} {w w' : World} {lo hi : Nat} {cv : Value} {c : Gr} (h : GrMine e2 e1 w lo hi cv c) (hb : Below w.heap.size w w') : GrMine e2 e1 w' lo hi cv c :=
  ⟨h.own.keep h.le hb, Nat.le_trans h.le hb.size⟩
theorem GrMine.touch {e2 e1 : TypeId} {w w' : World} {lo hi a b : Nat} {cv : Value} {c : Gr} (h : GrMine e2 e1 w lo hi cv c) (ht : Touched a b w w') (hd : hi ≤ a ∨ b ≤ lo) : GrMine e2 e1 w' lo hi cv c :=
  ⟨h.own.same fun k h1 h2 => ht.block k (by have := h.le; omega) (by omega), Nat.le_trans h.le ht.size⟩
theorem GrMine.ch {e2 e1 : TypeId} {w : World} {lo hi : Nat} {cv : Value} {c : Gr} (h : GrMine e2 e1 w lo hi cv c) : GrR w cv c := h.own.ch
theorem GrMine.shape {e2 e1 : TypeId} {w : World} {lo hi : Nat} {cv : Value} {c : Gr} (h : GrMine e2 e1 w lo hi cv c) : ∃ a cap, cv = .agg #[.int .i64 c.n, .slice a c.e.length cap] := h.ch.shape
theorem GrOwn.mine {e2 e1 : TypeId} {w : World} {lo : Nat} {cv : Value} {c : Gr} (h : GrOwn e2 e1 w lo w.heap.size cv c) : GrMine e2 e1 w lo w.heap.size cv c := ⟨h, Nat.le_refl _⟩

structure GrUnder (w : World) (B : Nat) (cv : Value) (c : Gr) : Prop where
  all : ∀ w', Below B w w' → GrR w' cv c
  le : B ≤ w.heap.size
theorem GrUnder.of {w : World} {cv : Value} {c : Gr} (h : GrR w cv c) : GrUnder w w.heap.size cv c := ⟨fun _ hb => h.keep hb, Nat.le_refl _⟩
theorem GrUnder.now {w : World} {B : Nat} {cv : Value} {c : Gr} (h : GrUnder w B cv c) : GrR w cv c := h.all w (Below.refl _ _)
theorem GrUnder.step {w w' : World} {B : Nat} {cv : Value} {c : Gr} (h : GrUnder w B cv c) (hb : Below w.heap.size w w') : GrUnder w' B cv c :=
  ⟨fun w2 h2 => h.all w2 ((hb.mono h.le).trans h2), Nat.le_trans h.le hb.size⟩
theorem GrUnder.touch {w w' : World} {B a b : Nat} {cv : Value} {c : Gr} (h : GrUnder w B cv c) (ht : Touched a b w w') (hd : B ≤ a) : GrUnder w' B cv c :=
  ⟨fun w2 h2 => h.all w2 ((ht.below' B hd h.le).trans h2), Nat.le_trans h.le ht.size⟩

set_option maxRecDepth 100000 in
theorem open_graph {H : Type} {enc : TypeId × Value → H} {W : World} {base b0 : Nat} {held : Bool} {v : Value} {d : DataW H} {p : List MemPlace}
    (hv : Value.okWide Tryd.prog W .any base 30 v) (h : DataW.Trod enc Tryd.prog W b0 (fun _ => true) held 30 v d p) : ∃ c, GrR W v c := by
  obtain ⟨c0, c1, y0, y1, n, rfl, _, _, h0, h1⟩ := open_agg2 Tryd.underlying30 (by kernel_rfl) (by kernel_rfl) hv h
  obtain ⟨a, e0, _, _⟩ := DataW.trod_int Tryd.underlying2 h0
  obtain ⟨xss, hr⟩ := open_rows h1
  simp at e0
  subst e0
  exact ⟨⟨a, xss⟩, c1, rfl, hr⟩

set_option maxHeartbeats 1000000 in
theorem szGraph_any (cv : Value) (c : Gr) (left : Int) (w : World) (hv : GrR w cv c) (h0 : 0 ≤ left) (h1 : left ≤ 1048576) :
    Calls Tryd.prog 12 #[cv, .int .i64 left] w fun e w' => e = .returned (.int .i64 (szLeft left (c.e.length + total c.e))) ∧ Below w.heap.size w w' := by
  obtain ⟨v, rfl, hr⟩ := hv
  have hr' : Rows2 (w.alloc (.cells #[.int .i64 c.n, v] 30)) v c.e := hr.keep ((Below.refl _ _).alloc (Nat.le_refl _) _)
  obtain ⟨hm, a, cap, rfl⟩ := hr.len
  by_cases h : left < (c.e.length + total c.e : Nat)
  · have hs := Lib.hid (szLeft_no h)
    have hneg : szLeft left (c.e.length + total c.e) < 0 := by rw [hs.out]; decide
    go_enter Tryd.func12, Tryd.ntmps12
    go_wp2_with (go_at_call 32; refine (szInt64SS_any _ c.e _ _ hr' h0 h1).mono ?_; rintro e w' ⟨rfl, rfl⟩)
    go_ret
    exact ⟨ret_int hs.out.symm, (Below.refl _ _).alloc (Nat.le_refl _) _⟩
  · have hs := Lib.hid (szLeft_yes (show ((c.e.length + total c.e : Nat) : Int) ≤ left by omega))
    have hneg : 0 ≤ szLeft left (c.e.length + total c.e) := by rw [hs.out]; omega
    go_enter Tryd.func12, Tryd.ntmps12
    go_wp2_with (go_at_call 32; refine (szInt64SS_any _ c.e _ _ hr' h0 h1).mono ?_; rintro e w' ⟨rfl, rfl⟩)
    go_ret
    exact ⟨rfl, (Below.refl _ _).alloc (Nat.le_refl _) _⟩

set_option maxHeartbeats 2000000 in
theorem toGraph_any (cv : Value) (c : Gr) (w : World) (hv : GrR w cv c) (h1 : c.e.length + total c.e ≤ 2097152) :
    Calls Tryd.prog 14 #[cv] w fun e w' => ∃ cv', e = .returned cv' ∧ GrOwn 55 2 w' w.heap.size w'.heap.size cv' c ∧ Below w.heap.size w w' := by
  obtain ⟨v, rfl, hr⟩ := hv
  go_enter Tryd.func14, Tryd.ntmps14
  go_wp2_with fail
  refine (toInt64SS_any v c.e _ (hr.keep (below3 _ _ _ _)) h1).mono ?_
  rintro e w1 ⟨v', rfl, hown, hbel⟩
  have hB1 := ((Blk.new (w.alloc (.cells #[.int .i64 c.n, v] 30)) #[.int .i64 0, .slice none 0 0] 33).alloc (.cells #[.int .i64 c.n, .slice none 0 0] 33)).keep hbel (by simp)
  have hB2 := (Blk.new ((w.alloc (.cells #[.int .i64 c.n, v] 30)).alloc (.cells #[.int .i64 0, .slice none 0 0] 33)) #[.int .i64 c.n, .slice none 0 0] 33).keep hbel (by simp)
  simp only [World.size_alloc] at hB1 hB2 hown hbel
  obtain ⟨_, a', cap', rfl⟩ := hown.rows.len
  have c10 := hB1.cell 0
  have c11 := hB1.cell 1
  have f10 := hB1.frozen 0
  have f11 := hB1.frozen 1
  have c20 := hB2.cell 0
  have c21 := hB2.cell 1
  have f21 := hB2.frozen 1
  have hbel' := Lib.hid (below_wt (below3 w _ _ _) (by simpa only [World.size_alloc] using hbel))
  clear hbel
  simp at c10 c11 c20 c21
  go_wp2
  refine bodyPost_ret (v := .agg #[.int .i64 c.n, .slice a' c.e.length cap']) (by simp [results, Tryd.results14, go_sem, c10, c11]) rfl ?_
  refine ⟨_, rfl, ⟨_, rfl, (hown.same ((((SameOn.refl _ _ _).set ?_ _).set ?_ _).set ?_ _)).wide (by omega) (by simp [World.setCell])⟩, ((hbel'.out.setCell ?_ _).setCell ?_ _).setCell ?_ _⟩
  all_goals (simp only; omega)

def grEq (c d : Gr) : Bool := decide (c.n = d.n) && decide (c.e = d.e)
theorem grEq_self (c : Gr) : grEq c c = true := by simp [grEq]
theorem eq_of_grEq {c d : Gr} (h : grEq c d = true) : c = d := by
  cases c; cases d; simp [grEq] at h; simp [h]

set_option maxHeartbeats 4000000 in
theorem eqGraph_any (a b : Value) (c d : Gr) (w : World) (ha : GrR w a c) (hb : GrR w b d) :
    Calls Tryd.prog 16 #[a, b] w fun e w' => e = .returned (.bool (grEq c d)) ∧ Below w.heap.size w w' := by
  obtain ⟨v1, rfl, h1⟩ := ha
  obtain ⟨v2, rfl, h2⟩ := hb
  obtain ⟨n1, r1⟩ := c
  obtain ⟨n2, r2⟩ := d
  simp only at h1 h2 ⊢
  have h1' := h1.keep (below2 w (.cells #[.int .i64 n1, v1] 33) (.cells #[.int .i64 n2, v2] 33))
  have h2' := h2.keep (below2 w (.cells #[.int .i64 n1, v1] 33) (.cells #[.int .i64 n2, v2] 33))
  by_cases e1 : n1 = n2
  · subst e1
    have hr := Lib.hid (show grEq ⟨n1, r1⟩ ⟨n1, r2⟩ = decide (r1 = r2) by simp [grEq])
    have hcall := eqInt64SS_any v1 v2 r1 r2 _ h1' h2'
    by_cases e3 : r1 = r2
    · have hr2 := Lib.hid (hr.out.trans (decide_eq_true e3))
      rw [decide_eq_true e3] at hcall
      clear e3
      go_enter Tryd.func16, Tryd.ntmps16
      go_wp2_with fail
      refine hcall.mono ?_
      rintro e w' ⟨rfl, nq, rfl⟩
      go_wp2
      go_ret
      exact ⟨ret_bool hr2.out.symm, below_drewN (below2 _ _ _) _⟩
    · have hr2 := Lib.hid (hr.out.trans (decide_eq_false e3))
      rw [decide_eq_false e3] at hcall
      clear e3
      go_enter Tryd.func16, Tryd.ntmps16
      go_wp2_with fail
      refine hcall.mono ?_
      rintro e w' ⟨rfl, nq, rfl⟩
      go_wp2
      go_ret
      exact ⟨ret_bool hr2.out.symm, below_drewN (below2 _ _ _) _⟩
  · have hr := Lib.hid (show grEq ⟨n1, r1⟩ ⟨n2, r2⟩ = false by simp [grEq, e1])
    have hne : (n1 != n2) = true := by simpa using e1
    clear e1
    go_enter Tryd.func16, Tryd.ntmps16
    go_wp2
    go_ret
    exact ⟨ret_bool hr.out.symm, below2 _ _ _⟩

theorem to_gr (cv : Value) (c : Gr) (w : World) (hv : GrR w cv c) (h1 : c.e.length + total c.e ≤ 2097152) :
    Calls Tryd.prog 14 #[cv] w fun e w' => ∃ v', e = .returned v' ∧ GrMine 55 2 w' w.heap.size w'.heap.size v' c ∧ Below w.heap.size w w' :=
  (toGraph_any cv c w hv h1).mono fun _ _ ⟨v, h1, h2, h3⟩ => ⟨v, h1, h2.mine, h3⟩
theorem eq_gr (a b : Value) (c : Gr) (w : World) (ha : GrR w a c) (hb : GrR w b c) :
    Calls Tryd.prog 16 #[a, b] w fun e w' => e = .returned (.bool true) ∧ Below w.heap.size w w' :=
  (eqGraph_any a b c c w ha hb).mono fun _ _ ⟨h1, h2⟩ => ⟨by rw [h1, grEq_self], h2⟩
end Go.Proofs.YtgaadcinhaphpaaDoor
