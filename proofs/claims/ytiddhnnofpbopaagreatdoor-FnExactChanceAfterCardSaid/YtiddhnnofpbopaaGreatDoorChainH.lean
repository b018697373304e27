/- ChainH: several texts in one (Ok, OkS, Step, Even, Make, Mix, Mix2, Src). Conditions: told in each. -/
import Derived.Test.YtiddhnnofpbopaaGreatDoorNumG
import Derived.Test.YtiddhnnofpbopaaGreatDoorChainG
import Derived.Deep.AppendLies
import Derived.Deep.RegionHeld3
import Derived.WalkSmall
/- ValidChain of the project and of the specification: both answer 'chOk'. Conditions: none on the chain beyond what is read. -/
namespace Go.Proofs.YtiddhnnofpbopaaGreatDoor
open Go.RowKit Go.Deep

/-! ### plain words -/
def inB (n lo hi : Int) : Bool := decide (lo ≤ n) && decide (n ≤ hi)
def okRow (n t : Int) (row : List Int) : Bool := decide ((row.length : Int) = n) && (row.all (fun x => inB x 0 t) && decide (row.sum = t))
def chOk (c : Ch) : Bool := inB c.n 1 6 && (inB c.t 1 60 && (decide ((c.w.length : Int) = c.n) && c.w.all (okRow c.n c.t)))

theorem inB_yes {n lo hi : Int} (h1 : lo ≤ n) (h2 : n ≤ hi) : inB n lo hi = true := by simp [inB, h1, h2]
theorem inB_iff {n lo hi : Int} : inB n lo hi = true ↔ lo ≤ n ∧ n ≤ hi := by simp [inB]

/-! ### isIn, l00In -/
set_option maxHeartbeats 1000000 in
theorem isIn_any (n lo hi : Int) (w : World) : Calls Tryz.prog 34 #[.int .i64 n, .int .i64 lo, .int .i64 hi] w fun e w' => e = .returned (.bool (inB n lo hi)) ∧ w = w' := by
  by_cases h1 : lo ≤ n
  · have he := Lib.hid (show inB n lo hi = decide (n ≤ hi) by simp [inB, h1])
    go_enter Tryz.func34, Tryz.ntmps34
    go_wp2
    go_ret
    exact ⟨ret_bool he.out.symm, rfl⟩
  · have he := Lib.hid (show inB n lo hi = false by simp [inB, h1])
    have h1' : decide (lo ≤ n) = false := by simpa using h1
    go_enter Tryz.func34, Tryz.ntmps34
    go_wp2
    go_ret
    exact ⟨ret_bool he.out.symm, rfl⟩
set_option maxHeartbeats 1000000 in
theorem l00In_any (n lo hi : Int) (w : World) : Calls Tryz.prog 40 #[.int .i64 n, .int .i64 lo, .int .i64 hi] w fun e w' => e = .returned (.bool (inB n lo hi)) ∧ w = w' := by
  by_cases h1 : lo ≤ n
  · have he := Lib.hid (show inB n lo hi = decide (n ≤ hi) by simp [inB, h1])
    go_enter Tryz.func40, Tryz.ntmps40
    go_wp2
    go_ret
    exact ⟨ret_bool he.out.symm, rfl⟩
  · have he := Lib.hid (show inB n lo hi = false by simp [inB, h1])
    have h1' : decide (lo ≤ n) = false := by simpa using h1
    go_enter Tryz.func40, Tryz.ntmps40
    go_wp2
    go_ret
    exact ⟨ret_bool he.out.symm, rfl⟩

/-! ### the folds -/
set_option maxHeartbeats 1000000 in
theorem min_any (a x : Int) (w : World) : Calls Tryz.prog 103 #[.int .i64 a, .int .i64 x] w fun e w' => e = .returned (.int .i64 (min a x)) ∧ w = w' := by
  go_enter Tryz.func103, Tryz.ntmps103
  go_wp2
  all_goals go_ret
  all_goals exact ⟨ret_int (by omega), rfl⟩
set_option maxHeartbeats 1000000 in
theorem max_any (a x : Int) (w : World) : Calls Tryz.prog 104 #[.int .i64 a, .int .i64 x] w fun e w' => e = .returned (.int .i64 (max a x)) ∧ w = w' := by
  go_enter Tryz.func104, Tryz.ntmps104
  go_wp2
  all_goals go_ret
  all_goals exact ⟨ret_int (by omega), rfl⟩
set_option maxHeartbeats 1000000 in
theorem add_any (a x : Int) (w : World) (h1 : -9223372036854775808 ≤ a + x) (h2 : a + x ≤ 9223372036854775807) : Calls Tryz.prog 134 #[.int .i64 a, .int .i64 x] w fun e w' => e = .returned (.int .i64 (a + x)) ∧ w = w' := by
  go_enter Tryz.func134, Tryz.ntmps134
  go_wp2
  go_ret
  exact ⟨rfl, rfl⟩

theorem foldl_take_succ {f : Int → Int → Int} (row : List Int) (a : Int) (k : Nat) (h : k < row.length) : (row.take (k + 1)).foldl f a = f ((row.take k).foldl f a) (row.getD k 0) := by
  rw [List.take_succ_eq_append_getElem h, List.foldl_append]
  simp [List.getD, h]

set_option maxHeartbeats 2000000 in
theorem fold_any' (F : Nat) (f : Int → Int → Int) (Inv : Nat → Int → Prop) (v : Value) (row : List Int) (first : Int) (w : World) (hv : Ints w v row) (h0 : Inv 0 first) (hcf : ∀ args w, (callFunc F args).run Tryz.prog w = .ok (.enter F args) w)
    (hF0 : ∀ (k : Nat) a x w, Inv k a → k < row.length → x ∈ row → Calls Tryz.prog F #[.int .i64 a, .int .i64 x] w fun e w' => e = .returned (.int .i64 (f a x)) ∧ w = w') (hI0 : ∀ (k : Nat) a x, Inv k a → k < row.length → x ∈ row → Inv (k + 1) (f a x)) :
    Calls Tryz.prog 102 #[v, .int .i64 first, .func (.func F) #[] #[]] w fun e w' => e = .returned (.int .i64 (row.foldl f first)) ∧ w = w' := by
  obtain ⟨hm, a, cap, rfl⟩ := hv.len
  unfold maxLen at hm
  have hF := Lib.hid hF0
  have hI := Lib.hid hI0
  clear hF0 hI0
  go_enter Tryz.func102, Tryz.ntmps102
  go_wp2
  go_loop [1, 11] (fun l i => ∃ (k : Nat) (L : Int), k ≤ row.length ∧ i = .int .i64 k ∧ l = .int .i64 L ∧ Hid (L = (row.take k).foldl f first) ∧ Hid (Inv k L)) (fun _ i => row.length - (intOf i).toNat)
  case atStart => exact ⟨0, first, Nat.zero_le _, rfl, rfl, show _ = _ by simp, h0⟩
  case round =>
    obtain ⟨k, L, hk, rfl, rfl, hL, hi⟩ := hrel
    by_cases hlt : k < row.length
    · obtain ⟨b, off, cap', hvv, _, hc⟩ := hv.at (by omega)
      simp only [Value.slice.injEq] at hvv
      obtain ⟨rfl, _, rfl⟩ := hvv
      have hcell := hc k hlt
      clear hc
      have hmem : row.getD k 0 ∈ row := by simp [List.getD, hlt]
      have hstep := Lib.hid (foldl_take_succ (f := f) row first k hlt)
      generalize row.getD k 0 = x at hcell hmem hstep
      have hmem' := Lib.hid hmem
      clear hmem
      go_wp2_with fail
      refine (hF.out k L x _ hi.out hlt hmem'.out).mono ?_
      have hnext := Lib.hid (hI.out k _ _ hi.out hlt hmem'.out)
      have hL' := Lib.hid (show f L x = (row.take (k + 1)).foldl f first by rw [hstep.out, hL.out])
      rintro e w' ⟨rfl, rfl⟩
      generalize f L x = L' at hnext hL'
      go_wp2
      go_round
      case rel => exact ⟨k + 1, L', by omega, by go_num, rfl, hL', hnext⟩
      case measure => simp [intOf]; omega
    · obtain rfl : k = row.length := by omega
      go_wp2
      go_ret
      exact ⟨ret_int (by rw [hL.out, List.take_length]), rfl⟩

theorem foldl_min (row : List Int) (a : Int) (m : Int) : m ≤ row.foldl (fun a b => min a b) a ↔ m ≤ a ∧ ∀ x ∈ row, m ≤ x := by
  induction row generalizing a with
  | nil => simp
  | cons x r ih => simp only [List.foldl_cons, ih, List.mem_cons, forall_eq_or_imp, Int.le_min, and_assoc]
theorem foldl_max (row : List Int) (a : Int) (m : Int) : row.foldl (fun a b => max a b) a ≤ m ↔ a ≤ m ∧ ∀ x ∈ row, x ≤ m := by
  induction row generalizing a with
  | nil => simp
  | cons x r ih => simp only [List.foldl_cons, ih, List.mem_cons, forall_eq_or_imp, Int.max_le, and_assoc]
theorem foldl_add (row : List Int) (a : Int) : row.foldl (fun a b => a + b) a = a + row.sum := by
  induction row generalizing a with
  | nil => simp
  | cons x r ih => simp only [List.foldl_cons, ih, List.sum_cons]; omega

/-- a sum of few small numbers -/
theorem sum_bd (row : List Int) (hi : Int) (h : ∀ x ∈ row, 0 ≤ x ∧ x ≤ hi) : 0 ≤ row.sum ∧ row.sum ≤ hi * row.length := by
  induction row with
  | nil => simp
  | cons x r ih =>
    have h1 := h x (by simp)
    have h2 := ih (fun y hy => h y (by simp [hy]))
    simp only [List.sum_cons, List.length_cons, Int.natCast_add, Int.mul_add]
    omega

theorem cf_min : ∀ args w, (callFunc 103 args).run Tryz.prog w = .ok (.enter 103 args) w := fun _ _ => by go_simp
theorem cf_max : ∀ args w, (callFunc 104 args).run Tryz.prog w = .ok (.enter 104 args) w := fun _ _ => by go_simp
theorem cf_add : ∀ args w, (callFunc 134 args).run Tryz.prog w = .ok (.enter 134 args) w := fun _ _ => by go_simp

set_option maxHeartbeats 1000000 in
/-- numbers from 0 to 'hi' are added without a wrap -/
theorem sumOf_any (v : Value) (row : List Int) (w : World) (hv : Ints w v row) (h : ∀ x ∈ row, 0 ≤ x ∧ x ≤ 3600) (hl : row.length ≤ 36) :
    Calls Tryz.prog 105 #[v] w fun e w' => e = .returned (.int .i64 row.sum) ∧ w = w' := by
  obtain ⟨_, a, cap, rfl⟩ := hv.len
  have hs := Lib.hid (show row.foldl (fun a b => a + b) 0 = row.sum by rw [foldl_add]; omega)
  -- the invariant: at most 3600 a step; steps are counted by the sum's own bound
  have hc := fold_any' 134 (fun a b => a + b) (fun k a => 0 ≤ a ∧ a ≤ 3600 * k) _ row 0 w hv (by omega) cf_add
    (fun k a x w' ha hk hx => by have := h x hx; exact add_any a x w' (by omega) (by omega)) (fun k a x ha hk hx => by have := h x hx; omega)
  rw [hs.out] at hc
  go_enter Tryz.func105, Tryz.ntmps105
  go_wp2_with (go_at_call 102; refine hc.mono ?_; rintro e w' ⟨rfl, rfl⟩)
  go_ret
  exact ⟨rfl, rfl⟩

set_option maxHeartbeats 2000000 in
theorem isRow_any (v : Value) (row : List Int) (n t : Int) (w : World) (hv : Ints w v row) (hn : n ≤ 36) (ht0 : 0 ≤ t) (ht : t ≤ 3600) :
    Calls Tryz.prog 71 #[v, .int .i64 n, .int .i64 t] w fun e w' => e = .returned (.bool (okRow n t row)) ∧ w = w' := by
  obtain ⟨hm, a, cap, rfl⟩ := hv.len
  unfold maxLen at hm
  by_cases h : (row.length : Int) = n
  · subst h
    have hmin := fold_any' 103 (fun a b => min a b) (fun _ _ => True) _ row 0 w hv trivial cf_min (fun k a x w' _ _ _ => min_any a x w') (fun _ _ _ _ _ _ => trivial)
    have hmax := fold_any' 104 (fun a b => max a b) (fun _ _ => True) _ row 0 w hv trivial cf_max (fun k a x w' _ _ _ => max_any a x w') (fun _ _ _ _ _ _ => trivial)
    have i1 := foldl_min row 0 0
    have i2 := foldl_max row 0 t
    generalize row.foldl (fun a b => min a b) 0 = lo at hmin i1
    generalize row.foldl (fun a b => max a b) 0 = hi at hmax i2
    by_cases h1 : 0 ≤ lo
    · by_cases h2 : hi ≤ t
      · have hall : ∀ x ∈ row, 0 ≤ x ∧ x ≤ t := fun x hx => ⟨(i1.1 h1).2 x hx, (i2.1 h2).2 x hx⟩
        have hsum := sumOf_any _ row w hv (fun x hx => by have := hall x hx; omega) (by omega)
        have hok : okRow row.length t row = decide (row.sum = t) := by
          have : row.all (fun x => inB x 0 t) = true := by simp only [List.all_eq_true, inB_iff]; exact hall
          simp [okRow, this]
        have hok' := Lib.hid hok
        clear hok hall i1 i2
        by_cases h3 : row.sum = t
        · rw [h3] at hsum
          have hres := Lib.hid (hok'.out.trans (decide_eq_true h3))
          clear h3
          go_enter Tryz.func71, Tryz.ntmps71
          go_wp2_with fail
          refine hmin.mono ?_
          rintro e w' ⟨rfl, rfl⟩
          go_wp2_with fail
          refine hmax.mono ?_
          rintro e w' ⟨rfl, rfl⟩
          go_wp2_with fail
          refine hsum.mono ?_
          rintro e w' ⟨rfl, rfl⟩
          go_wp2
          go_ret
          exact ⟨ret_bool hres.out.symm, rfl⟩
        · have hres := Lib.hid (hok'.out.trans (decide_eq_false h3))
          have h3' : (row.sum == t) = false := by simpa using h3
          clear h3
          generalize row.sum = sm at hsum h3'
          go_enter Tryz.func71, Tryz.ntmps71
          go_wp2_with fail
          refine hmin.mono ?_
          rintro e w' ⟨rfl, rfl⟩
          go_wp2_with fail
          refine hmax.mono ?_
          rintro e w' ⟨rfl, rfl⟩
          go_wp2_with fail
          refine hsum.mono ?_
          rintro e w' ⟨rfl, rfl⟩
          go_wp2
          go_ret
          exact ⟨ret_bool hres.out.symm, rfl⟩
      · have hres := Lib.hid (show okRow row.length t row = false by
          have : row.all (fun x => inB x 0 t) = false := by
            rw [Bool.eq_false_iff]; intro hc
            simp only [List.all_eq_true, inB_iff] at hc
            exact h2 (i2.2 ⟨ht0, fun x hx => (hc x hx).2⟩)
          simp [okRow, this])
        have h2' : decide (hi ≤ t) = false := decide_eq_false h2
        clear h2 i1 i2
        go_enter Tryz.func71, Tryz.ntmps71
        go_wp2_with fail
        refine hmin.mono ?_
        rintro e w' ⟨rfl, rfl⟩
        go_wp2_with fail
        refine hmax.mono ?_
        rintro e w' ⟨rfl, rfl⟩
        go_wp2
        go_ret
        exact ⟨ret_bool hres.out.symm, rfl⟩
    · have hres := Lib.hid (show okRow row.length t row = false by
        have : row.all (fun x => inB x 0 t) = false := by
          rw [Bool.eq_false_iff]; intro hc
          simp only [List.all_eq_true, inB_iff] at hc
          exact h1 (i1.2 ⟨Int.le_refl _, fun x hx => (hc x hx).1⟩)
        simp [okRow, this])
      have h1' : decide (0 ≤ lo) = false := decide_eq_false h1
      clear h1 i1 i2
      go_enter Tryz.func71, Tryz.ntmps71
      go_wp2_with fail
      refine hmin.mono ?_
      rintro e w' ⟨rfl, rfl⟩
      go_wp2_with fail
      refine hmax.mono ?_
      rintro e w' ⟨rfl, rfl⟩
      go_wp2
      go_ret
      exact ⟨ret_bool hres.out.symm, rfl⟩
  · have hres := Lib.hid (show okRow n t row = false by simp [okRow, h])
    have h' : ((row.length : Int) != n) = true := by simpa using h
    clear h
    go_enter Tryz.func71, Tryz.ntmps71
    go_wp2
    go_ret
    exact ⟨ret_bool hres.out.symm, rfl⟩

/-! ### ValidChain of the project -/
theorem all_take_succ {α : Type} (p : α → Bool) (l : List α) (d : α) (k : Nat) (h : k < l.length) : (l.take (k + 1)).all p = ((l.take k).all p && p (l.getD k d)) := by
  rw [List.take_succ_eq_append_getElem h, List.all_append]
  simp [List.getD, h]
theorem all_false_of {α : Type} (p : α → Bool) (l : List α) (d : α) (k : Nat) (h : k < l.length) (hp : p (l.getD k d) = false) : l.all p = false := by
  rw [Bool.eq_false_iff]; intro hc
  rw [List.all_eq_true] at hc
  have := hc (l.getD k d) (by simp [List.getD, h])
  rw [hp] at this; cases this

set_option maxHeartbeats 4000000 in
theorem ValidChain_impl (cv : Value) (c : Ch) (w : World) (hv : ChR w cv c) :
    Calls Tryz.prog 32 #[cv] w fun e w' => e = .returned (.bool (chOk c)) ∧ Below w.heap.size w w' := by
  obtain ⟨v, rfl, hr⟩ := hv
  obtain ⟨n, t, xss⟩ := c
  simp only at hr ⊢
  obtain ⟨hm, a, cap, rfl⟩ := hr.len
  unfold maxLen at hm
  have hr' := hr.keep (below1 w (.cells #[.int .i64 n, .int .i64 t, .slice a xss.length cap] 26))
  by_cases h1 : inB n 1 6 = true
  · by_cases h2 : inB t 1 60 = true
    · by_cases h3 : (xss.length : Int) = n
      · have hok : chOk ⟨n, t, xss⟩ = xss.all (okRow n t) := by simp [chOk, h1, h2, h3]
        have hok' := Lib.hid hok
        obtain ⟨b1, b2⟩ := inB_iff.1 h1
        obtain ⟨b3, b4⟩ := inB_iff.1 h2
        have c1 := isIn_any n 1 6
        rw [h1] at c1
        have c2 := isIn_any t 1 60
        rw [h2] at c2
        have h3' := Lib.hid h3
        have c1' := Lib.hid c1
        have c2' := Lib.hid c2
        clear hok h1 h2 c1 c2 h3
        have hne : ((xss.length : Int) != n) = false := by simpa using h3'.out
        go_enter Tryz.func32, Tryz.ntmps32
        go_wp2_with fail
        refine (c1'.out _).mono ?_
        rintro e w' ⟨rfl, rfl⟩
        go_wp2_with fail
        refine (c2'.out _).mono ?_
        rintro e w' ⟨rfl, rfl⟩
        go_wp2
        go_loop [26] (fun i => ∃ k : Nat, k ≤ xss.length ∧ i = .int .i64 k ∧ Hid ((xss.take k).all (okRow n t) = true)) (fun i => xss.length - (intOf i).toNat)
        case atStart => exact ⟨0, Nat.zero_le _, rfl, show _ = _ by simp⟩
        case round =>
          obtain ⟨k, hk, rfl, ht⟩ := hrel
          by_cases hlt : k < xss.length
          · obtain ⟨b, off, cap', rv, hvv, _, hc⟩ := hr'.at (by omega)
            simp only [Value.slice.injEq] at hvv
            obtain ⟨rfl, _, rfl⟩ := hvv
            obtain ⟨hcell, hrow⟩ := hc k hlt
            clear hc
            have hts := Lib.hid (all_take_succ (okRow n t) xss [] k hlt)
            have hfs := Lib.hid (all_false_of (okRow n t) xss [] k hlt)
            generalize rv k = rk at hcell hrow
            generalize xss.getD k [] = row at hrow hts hfs
            have hcall := isRow_any rk row n t _ hrow (by omega) (by omega) (by omega)
            by_cases hq : okRow n t row = true
            · rw [hq] at hcall
              have hn := Lib.hid (show (xss.take (k + 1)).all (okRow n t) = true by rw [hts.out, ht.out, hq]; rfl)
              clear hq
              go_wp2_with fail
              refine hcall.mono ?_
              rintro e w' ⟨rfl, rfl⟩
              go_wp2
              go_round
              case rel => exact ⟨k + 1, by omega, by go_num, hn⟩
              case measure => simp [intOf]; omega
            · have hq' : okRow n t row = false := by simpa using hq
              rw [hq'] at hcall
              have hfin := Lib.hid (hok'.out.trans (hfs.out hq'))
              clear hq hq'
              go_wp2_with fail
              refine hcall.mono ?_
              rintro e w' ⟨rfl, rfl⟩
              go_wp2
              go_ret
              exact ⟨ret_bool hfin.out.symm, below1 _ _⟩
          · obtain rfl : k = xss.length := by omega
            have hfin := Lib.hid (show chOk ⟨n, t, xss⟩ = true by rw [hok'.out]; have := ht.out; rw [List.take_length] at this; exact this)
            go_wp2
            go_ret
            exact ⟨ret_bool hfin.out.symm, below1 _ _⟩
      · have hres := Lib.hid (show chOk ⟨n, t, xss⟩ = false by simp [chOk, h3])
        have c1 := isIn_any n 1 6
        rw [h1] at c1
        have c2 := isIn_any t 1 60
        rw [h2] at c2
        have hne : ((xss.length : Int) != n) = true := by simpa using h3
        have c1' := Lib.hid c1
        have c2' := Lib.hid c2
        clear h1 h2 c1 c2 h3
        go_enter Tryz.func32, Tryz.ntmps32
        go_wp2_with fail
        refine (c1'.out _).mono ?_
        rintro e w' ⟨rfl, rfl⟩
        go_wp2_with fail
        refine (c2'.out _).mono ?_
        rintro e w' ⟨rfl, rfl⟩
        go_wp2
        go_ret
        exact ⟨ret_bool hres.out.symm, below1 _ _⟩
    · have h2' : inB t 1 60 = false := by simpa using h2
      have hres := Lib.hid (show chOk ⟨n, t, xss⟩ = false by simp [chOk, h2'])
      have c1 := isIn_any n 1 6
      rw [h1] at c1
      have c2 := isIn_any t 1 60
      rw [h2'] at c2
      have c1' := Lib.hid c1
      have c2' := Lib.hid c2
      clear h1 h2 h2' c1 c2
      go_enter Tryz.func32, Tryz.ntmps32
      go_wp2_with fail
      refine (c1'.out _).mono ?_
      rintro e w' ⟨rfl, rfl⟩
      go_wp2_with fail
      refine (c2'.out _).mono ?_
      rintro e w' ⟨rfl, rfl⟩
      go_wp2
      go_ret
      exact ⟨ret_bool hres.out.symm, below1 _ _⟩
  · have h1' : inB n 1 6 = false := by simpa using h1
    have hres := Lib.hid (show chOk ⟨n, t, xss⟩ = false by simp [chOk, h1'])
    have c1 := isIn_any n 1 6
    rw [h1'] at c1
    have c1' := Lib.hid c1
    clear h1 h1' c1
    go_enter Tryz.func32, Tryz.ntmps32
    go_wp2_with fail
    refine (c1'.out _).mono ?_
    rintro e w' ⟨rfl, rfl⟩
    go_wp2
    go_ret
    exact ⟨ret_bool hres.out.symm, below1 _ _⟩
end Go.Proofs.YtiddhnnofpbopaaGreatDoor

/- ValidChain of the specification answers 'chOk'. Conditions: none on the chain beyond what is read. -/
namespace Go.Proofs.YtiddhnnofpbopaaGreatDoor
open Go.RowKit Go.Deep

/-- a chain behind the pointer to block b -/
def ChP (w : World) (b : Nat) (c : Ch) : Prop :=
  ∃ v, w.cell? ⟨b, 0, none⟩ = some (.int .i64 c.n) ∧ w.cell? ⟨b, 1, none⟩ = some (.int .i64 c.t) ∧ w.cell? ⟨b, 2, none⟩ = some v ∧ Rows2 w v c.w
theorem ChP.keep {w w' : World} {b : Nat} {c : Ch} (h : ChP w b c) (hb : Below w.heap.size w w') : ChP w' b c := by
  obtain ⟨v, h0, h1, h2, hr⟩ := h
  exact ⟨v, (hb.cell (block_lt h0)).trans h0, (hb.cell (block_lt h1)).trans h1, (hb.cell (block_lt h2)).trans h2, hr.keep hb⟩

theorem l00In_q (n lo hi : Int) (w : World) (m : Nat) : Calls Tryz.prog 40 #[.int .i64 n, .int .i64 lo, .int .i64 hi] (w.drewN m) fun e w'' => e = .returned (.bool (inB n lo hi)) ∧ ∃ m', w'' = w.drewN m' :=
  (l00In_any n lo hi _).mono fun _ _ ⟨he, hw⟩ => ⟨he, m, hw.symm⟩

theorem drawn_more {w w' : World} (h : ∃ m, w' = w.drewN m) (n : Nat) : ∃ m, w'.drewN n = w.drewN m := by
  obtain ⟨m, rfl⟩ := h
  exact ⟨_, World.drewN_drewN ..⟩
theorem drawn_trans {w w' w'' : World} (h : ∃ m, w' = w.drewN m) (h' : ∃ m, w'' = w'.drewN m) : ∃ m, w'' = w.drewN m := by
  obtain ⟨m, rfl⟩ := h'
  exact drawn_more h m
theorem sum_take_succ (row : List Int) (k : Nat) (h : k < row.length) : (row.take (k + 1)).sum = (row.take k).sum + row.getD k 0 := by
  rw [List.take_succ_eq_append_getElem h, List.sum_append]
  simp [List.getD, h]

set_option maxRecDepth 100000 in
set_option maxHeartbeats 4000000 in
theorem l01Ok_any (b : Nat) (c : Ch) (w : World) (hv : ChP w b c) :
    Calls Tryz.prog 39 #[.pointer (some ⟨b, 0, none⟩)] w fun e w' => e = .returned (.bool (chOk c)) ∧ ∃ m, w' = w.drewN m := by
  obtain ⟨v, k0, k1, k2, hr⟩ := hv
  obtain ⟨n, t, xss⟩ := c
  simp only at k0 k1 k2 hr ⊢
  obtain ⟨hm, a, cap, rfl⟩ := hr.len
  unfold maxLen at hm
  by_cases h1 : inB n 1 6 = true
  · by_cases h2 : inB t 1 60 = true
    · by_cases h3 : (xss.length : Int) = n
      · have hok := Lib.hid (show chOk ⟨n, t, xss⟩ = xss.all (okRow n t) by simp [chOk, h1, h2, h3])
        obtain ⟨b1, b2⟩ := inB_iff.1 h1
        obtain ⟨b3, b4⟩ := inB_iff.1 h2
        have hne : ((xss.length : Int) != n) = false := by simpa using h3
        have h3' := Lib.hid h3
        clear h3
        go_enter Tryz.func39, Tryz.ntmps39
        go_wp2
        go_quiet ((go_at_call 40; exact l00In_q _ _ _ _ _))
        go_wp2
        go_loopw [3] (fun i wr => ∃ k : Nat, k ≤ xss.length ∧ i = .int .i64 k ∧ Hid (∃ m, wr = w.drewN m) ∧ Hid ((xss.take k).all (okRow n t) = true)) (fun i _ => xss.length - (intOf i).toNat)
        case atStart => exact ⟨0, Nat.zero_le _, rfl, ⟨_, rfl⟩, show _ = _ by simp⟩
        case round =>
          obtain ⟨wo, rfl⟩ : ∃ wo : World, wo = wr := ⟨_, rfl⟩
          obtain ⟨k, hk, rfl, hw, ht⟩ := hrel
          have k0' : wo.cell? ⟨b, 0, none⟩ = some (.int .i64 n) := by obtain ⟨m, rfl⟩ := hw.out; exact k0
          have k1' : wo.cell? ⟨b, 1, none⟩ = some (.int .i64 t) := by obtain ⟨m, rfl⟩ := hw.out; exact k1
          have k2' : wo.cell? ⟨b, 2, none⟩ = some (.slice a xss.length cap) := by obtain ⟨m, rfl⟩ := hw.out; exact k2
          clear k0 k1 k2
          by_cases hlt : k < xss.length
          · obtain ⟨bb, off, cap', rv, hvv, _, hc⟩ := hr.at (by omega)
            simp only [Value.slice.injEq] at hvv
            obtain ⟨rfl, _, rfl⟩ := hvv
            obtain ⟨hcell0, hrow0⟩ := hc k hlt
            clear hc
            have hcell : wo.cell? ⟨bb, off + k, none⟩ = some (rv k) := by obtain ⟨m, rfl⟩ := hw.out; exact hcell0
            have hrow : Ints wo (rv k) (xss.getD k []) := by obtain ⟨m, rfl⟩ := hw.out; exact hrow0.keep (below_drewN (Below.refl _ _) m)
            clear hcell0 hrow0
            have hts := Lib.hid (all_take_succ (okRow n t) xss [] k hlt)
            have hfs := Lib.hid (all_false_of (okRow n t) xss [] k hlt)
            generalize rv k = rk at hcell hrow
            generalize xss.getD k [] = row at hrow hts hfs
            obtain ⟨hrm, ra, rcap, rfl⟩ := hrow.len
            unfold maxLen at hrm
            by_cases hq : (row.length : Int) = n
            · have hq' : ((row.length : Int) != n) = false := by simpa using hq
              have hokr := Lib.hid (show okRow n t row = (row.all (fun x => inB x 0 t) && decide (row.sum = t)) by simp [okRow, hq])
              have hrl : row.length ≤ 6 := by omega
              clear hq
              go_wp2
              go_quiet (fail)
              go_wp2
              go_loopw [4, 5] (fun s j wr => ∃ (k2 : Nat) (S : Int), k2 ≤ row.length ∧ j = .int .i64 k2 ∧ s = .int .i64 S ∧ 0 ≤ S ∧ S ≤ 60 * (k2 : Int) ∧ Hid (S = (row.take k2).sum) ∧ Hid (∃ m, wr = wo.drewN m) ∧ Hid ((row.take k2).all (fun x => inB x 0 t) = true)) (fun _ j _ => row.length - (intOf j).toNat)
              case atStart => exact ⟨0, 0, Nat.zero_le _, rfl, rfl, by omega, by omega, show _ = _ by simp, ⟨_, rfl⟩, show _ = _ by simp⟩
              case round =>
                obtain ⟨k2, S, hk2, rfl, rfl, hS0, hS1, hS, hwi, hal⟩ := hrel
                have q0 : wr.cell? ⟨b, 0, none⟩ = some (.int .i64 n) := by obtain ⟨m, rfl⟩ := hwi.out; exact k0'
                have q1 : wr.cell? ⟨b, 1, none⟩ = some (.int .i64 t) := by obtain ⟨m, rfl⟩ := hwi.out; exact k1'
                have q2 : wr.cell? ⟨b, 2, none⟩ = some (.slice (some ⟨bb, off, none⟩) xss.length cap) := by obtain ⟨m, rfl⟩ := hwi.out; exact k2'
                have q3 : wr.cell? ⟨bb, off + k, none⟩ = some (.slice ra row.length rcap) := by obtain ⟨m, rfl⟩ := hwi.out; exact hcell
                clear k0' k1' k2' hcell
                by_cases hlt2 : k2 < row.length
                · obtain ⟨rb, ro, rc, hvr, _, hcr⟩ := hrow.at (by omega)
                  simp only [Value.slice.injEq] at hvr
                  obtain ⟨rfl, _, rfl⟩ := hvr
                  have hx : wr.cell? ⟨rb, ro + k2, none⟩ = some (.int .i64 (row.getD k2 0)) := by obtain ⟨m, rfl⟩ := hwi.out; exact hcr k2 hlt2
                  clear hcr
                  have hs1 := Lib.hid (sum_take_succ row k2 hlt2)
                  have hts2 := Lib.hid (all_take_succ (fun x => inB x 0 t) row 0 k2 hlt2)
                  have hfs2 := Lib.hid (all_false_of (fun x => inB x 0 t) row 0 k2 hlt2)
                  generalize row.getD k2 0 = x at hx hs1 hts2 hfs2
                  by_cases hin : inB x 0 t = true
                  · have hn2 := Lib.hid (show (row.take (k2 + 1)).all (fun x => inB x 0 t) = true by rw [hts2.out, hal.out, hin]; rfl)
                    obtain ⟨x0, x1⟩ := inB_iff.1 hin
                    have hsn := Lib.hid (show S + x = (row.take (k2 + 1)).sum by rw [hs1.out, hS.out])
                    go_wp2
                    go_quiet ((go_at_call 40; exact l00In_q _ _ _ _ _))
                    go_wp2
                    go_roundw
                    case rel => exact ⟨k2 + 1, S + x, by omega, by go_num, rfl, by omega, by omega, hsn, by obtain ⟨m, rfl⟩ := hwi.out; exact ⟨_, World.drewN_drewN ..⟩, hn2⟩
                    case measure => simp [intOf]; omega
                  · have hin' : inB x 0 t = false := by simpa using hin
                    have hfin := Lib.hid (hok.out.trans (hfs.out (by rw [hokr.out, hfs2.out hin']; rfl)))
                    clear hin
                    go_wp2
                    go_quiet ((go_at_call 40; exact l00In_q _ _ _ _ _))
                    go_wp2
                    go_ret
                    exact ⟨ret_bool hfin.out.symm, drawn_more (drawn_trans hw.out hwi.out) _⟩
                · obtain rfl : k2 = row.length := by omega
                  have hall : row.all (fun x => inB x 0 t) = true := by have := hal.out; rw [List.take_length] at this; exact this
                  have hokr2 := Lib.hid (show okRow n t row = decide (S = t) by rw [hokr.out, hall, hS.out, List.take_length]; rfl)
                  clear hall
                  by_cases hq2 : S = t
                  · have hn := Lib.hid (show (xss.take (k + 1)).all (okRow n t) = true by rw [hts.out, ht.out, hokr2.out]; simp [hq2])
                    have hq3 : (S != t) = false := by simpa using hq2
                    clear hq2
                    go_wp2
                    go_roundw
                    case rel => exact ⟨k + 1, by omega, by go_num, by obtain ⟨m, rfl⟩ := hwi.out; obtain ⟨m', rfl⟩ := hw.out; exact ⟨_, World.drewN_drewN ..⟩, hn⟩
                    case measure => simp [intOf]; omega
                  · have hfin := Lib.hid (hok.out.trans (hfs.out (by rw [hokr2.out]; simp [hq2])))
                    have hq3 : (S != t) = true := by simpa using hq2
                    clear hq2
                    go_wp2
                    go_ret
                    exact ⟨ret_bool hfin.out.symm, by obtain ⟨m, rfl⟩ := hwi.out; obtain ⟨m', rfl⟩ := hw.out; exact ⟨_, World.drewN_drewN ..⟩⟩
            · have hq' : ((row.length : Int) != n) = true := by simpa using hq
              have hfin := Lib.hid (hok.out.trans (hfs.out (by simp [okRow, hq])))
              clear hq
              go_wp2
              go_quiet (fail)
              go_wp2
              go_ret
              exact ⟨ret_bool hfin.out.symm, by obtain ⟨m, rfl⟩ := hw.out; exact ⟨_, World.drewN_drewN ..⟩⟩
          · obtain rfl : k = xss.length := by omega
            have hfin := Lib.hid (show chOk ⟨n, t, xss⟩ = true by rw [hok.out]; have := ht.out; rw [List.take_length] at this; exact this)
            go_wp2
            go_ret
            exact ⟨ret_bool hfin.out.symm, hw.out⟩
      · have hres := Lib.hid (show chOk ⟨n, t, xss⟩ = false by simp [chOk, h3])
        have hne : ((xss.length : Int) != n) = true := by simpa using h3
        clear h3
        go_enter Tryz.func39, Tryz.ntmps39
        go_wp2
        go_quiet ((go_at_call 40; exact l00In_q _ _ _ _ _))
        go_wp2
        go_ret
        exact ⟨ret_bool hres.out.symm, _, rfl⟩
    · have h2' : inB t 1 60 = false := by simpa using h2
      have hres := Lib.hid (show chOk ⟨n, t, xss⟩ = false by simp [chOk, h2'])
      clear h2
      go_enter Tryz.func39, Tryz.ntmps39
      go_wp2
      go_quiet ((go_at_call 40; exact l00In_q _ _ _ _ _))
      go_wp2
      go_ret
      exact ⟨ret_bool hres.out.symm, _, rfl⟩
  · have h1' : inB n 1 6 = false := by simpa using h1
    have hres := Lib.hid (show chOk ⟨n, t, xss⟩ = false by simp [chOk, h1'])
    clear h1
    go_enter Tryz.func39, Tryz.ntmps39
    go_wp2
    go_quiet ((go_at_call 40; exact l00In_q _ _ _ _ _))
    go_wp2
    go_ret
    exact ⟨ret_bool hres.out.symm, _, rfl⟩

end Go.Proofs.YtiddhnnofpbopaaGreatDoor

/- A step by a draw, of the project and of the specification: both answer 'pk'. Conditions: the chain is valid, state and draw are in range (told by the code). -/
namespace Go.Proofs.YtiddhnnofpbopaaGreatDoor
open Go.RowKit Go.Deep

/-- k is the place: the sums before it are at most d, that up to it is greater -/
def IsPick (row : List Int) (d : Int) (k : Nat) : Prop := k < row.length ∧ (∀ j, j < k → (row.take (j + 1)).sum ≤ d) ∧ d < (row.take (k + 1)).sum
def pk (row : List Int) (d : Int) : Nat := ((List.range row.length).find? (fun k => decide (d < (row.take (k + 1)).sum))).getD 0
theorem pk_of {row : List Int} {d : Int} {k : Nat} (h : IsPick row d k) : pk row d = k := by
  obtain ⟨h1, h2, h3⟩ := h
  have : (List.range row.length).find? (fun k => decide (d < (row.take (k + 1)).sum)) = some k := by
    rw [List.find?_range_eq_some]
    refine ⟨by simpa using h3, by simpa using h1, fun j hj => ?_⟩
    have := h2 j hj
    simp; omega
  rw [pk, this]; rfl

theorem okRow_all {n t : Int} {row : List Int} (h : okRow n t row = true) : (row.length : Int) = n ∧ (∀ x ∈ row, 0 ≤ x ∧ x ≤ t) ∧ row.sum = t := by
  simp only [okRow, Bool.and_eq_true, decide_eq_true_eq, List.all_eq_true, inB_iff] at h
  exact ⟨h.1, h.2.1, h.2.2⟩
theorem chOk_all {c : Ch} (h : chOk c = true) : 1 ≤ c.n ∧ c.n ≤ 6 ∧ 1 ≤ c.t ∧ c.t ≤ 60 ∧ (c.w.length : Int) = c.n ∧ ∀ r ∈ c.w, okRow c.n c.t r = true := by
  simp only [chOk, Bool.and_eq_true, decide_eq_true_eq, List.all_eq_true, inB_iff] at h
  exact ⟨h.1.1, h.1.2, h.2.1.1, h.2.1.2, h.2.2.1, h.2.2.2⟩
theorem getD_mem {α : Type} {l : List α} {k : Nat} {d : α} (h : k < l.length) : l.getD k d ∈ l := by simp [List.getD, h]
theorem take_bd {row : List Int} {hi : Int} (h : ∀ x ∈ row, 0 ≤ x ∧ x ≤ hi) (k : Nat) : 0 ≤ (row.take k).sum ∧ (row.take k).sum ≤ hi * (row.take k).length :=
  sum_bd _ _ fun x hx => h x (List.mem_of_mem_take hx)

/-- the answer of StepByDraw: the state and the code -/
def stepOf (c : Ch) (s d : Int) : Int × Int :=
  if chOk c = true then (if inB s 0 (c.n - 1) = true ∧ inB d 0 (c.t - 1) = true then ((pk (c.w.getD s.toNat []) d : Nat), 0) else (0, 2)) else (0, 1)

set_option maxHeartbeats 2000000 in
theorem isState_any (cv : Value) (c : Ch) (s : Int) (w : World) (hv : ChR w cv c) (h0 : 1 ≤ c.n) (h1 : c.n ≤ 6) :
    Calls Tryz.prog 33 #[cv, .int .i64 s] w fun e w' => e = .returned (.bool (inB s 0 (c.n - 1))) ∧ Below w.heap.size w w' := by
  obtain ⟨v, rfl, _⟩ := hv
  obtain ⟨n, t, xss⟩ := c
  simp only at h0 h1 ⊢
  go_enter Tryz.func33, Tryz.ntmps33
  go_wp2_with fail
  refine (isIn_any _ _ _ _).mono ?_
  rintro e w' ⟨rfl, rfl⟩
  go_wp2
  go_ret
  exact ⟨rfl, below1 _ _⟩
/-! ### the specification's -/
end Go.Proofs.YtiddhnnofpbopaaGreatDoor

/- IsEven of the project and of the specification: both answer whether all columns have the sum Total. Conditions: told by the code. -/
namespace Go.Proofs.YtiddhnnofpbopaaGreatDoor
open Go.RowKit Go.Deep

def col (xss : List (List Int)) (t : Nat) : List Int := xss.map fun r => r.getD t 0
def evenB (c : Ch) : Bool := (List.range c.w.length).all fun t => decide ((col c.w t).sum = c.t)
def evenOf (c : Ch) : Bool × Int := if chOk c = true then (evenB c, 0) else (false, 1)
theorem col_length (xss : List (List Int)) (t : Nat) : (col xss t).length = xss.length := by simp [col]
theorem col_getD (xss : List (List Int)) (t s : Nat) (h : s < xss.length) : (col xss t).getD s 0 = (xss.getD s []).getD t 0 := by simp [col, List.getD, h]
theorem col_bd {c : Ch} (hok : chOk c = true) {t : Nat} (ht : t < c.w.length) : ∀ x ∈ col c.w t, 0 ≤ x ∧ x ≤ 60 := by
  obtain ⟨n1, n2, t1, t2, hlen, hrows⟩ := chOk_all hok
  intro x hx
  simp only [col, List.mem_map] at hx
  obtain ⟨r, hr, rfl⟩ := hx
  obtain ⟨q1, q2, q3⟩ := okRow_all (hrows r hr)
  have := q2 _ (getD_mem (d := 0) (show t < r.length by omega))
  omega
theorem all_range_succ {p : Nat → Bool} (k : Nat) : (List.range (k + 1)).all p = ((List.range k).all p && p k) := by
  rw [List.range_succ, List.all_append]; simp
theorem all_range_false {p : Nat → Bool} {k n : Nat} (hk : k < n) (h : p k = false) : (List.range n).all p = false := by
  rw [Bool.eq_false_iff]; intro hc
  rw [List.all_eq_true] at hc
  have := hc k (by simpa using hk)
  rw [h] at this; cases this

/-- 'make([]int64, 0, n)' -/
theorem make_cap (n : Int) (h0 : 0 ≤ n) (h1 : n ≤ 1000000) : ∀ u : World, (Instr.makeSlice 75 (.int .i64 0) (.int .i64 n)).run Tryz.prog u =
    .ok (.slice (some ⟨u.heap.size, 0, none⟩) 0 n.toNat) (u.alloc (.cells (madeCells #[.int .i64 0] n.toNat) 2)) := fun u => by
  obtain ⟨i0, hi, hz0, hz1, hz2⟩ := info_parts Tryz.infoI
  have h := run_make (P := Tryz.prog) u 75 2 i0 (.int .i64 0) Tryz.underlying75 hi hz0 .i64 .i64 0 n (by omega) h0 (by rw [hz2]; omega) (by omega)
  simpa [hz1, Value.cells] using h

theorem sumOf_q (v : Value) (row : List Int) (w : World) (hv : Ints w v row) (h : ∀ x ∈ row, 0 ≤ x ∧ x ≤ 60) (hl : row.length ≤ 36) (m : Nat) :
    Calls Tryz.prog 105 #[v] (w.drewN m) fun e w'' => e = .returned (.int .i64 row.sum) ∧ ∃ m', w'' = w.drewN m' :=
  (sumOf_any v row _ (hv.keep (below_drewN (Below.refl _ _) m)) (fun x hx => by have := h x hx; omega) hl).mono fun _ _ ⟨he, hw⟩ => ⟨he, m, hw.symm⟩

end Go.Proofs.YtiddhnnofpbopaaGreatDoor

/- makeChain of the project: it returns the chain with the weights that a function tells, or ErrLimit. Conditions: told in 'makeChain_any'. -/
namespace Go.Proofs.YtiddhnnofpbopaaGreatDoor
open Go.RowKit Go.Deep

theorem ownsRow_type {w : World} {lo n size : Nat} {e : TypeId} {v : Value} {vs : List Value} (h : w.ownsRow lo e size v n vs) {k : Nat} (hk : v.ownBlock = some k) : lo ≤ k ∧ ∃ cur, w.heap[k]? = some (.cells cur e (0, 0)) := by
  rcases h.2 with ⟨rfl, _⟩ | ⟨g, cap, cur, rfl, hg, hh, _⟩
  · simp [Value.ownBlock] at hk
  · simp [Value.ownBlock] at hk; subst hk; exact ⟨hg, cur, hh⟩
theorem types_apart {w : World} {lo lo' n n' size size' : Nat} {e e' : TypeId} {v v' : Value} {vs vs' : List Value} (h : w.ownsRow lo e size v n vs) (h' : w.ownsRow lo' e' size' v' n' vs') (he : e ≠ e') {k : Nat} (hk : v.ownBlock = some k) : v'.ownBlock ≠ some k := by
  intro hk'
  obtain ⟨_, c, hc⟩ := ownsRow_type h hk
  obtain ⟨_, c', hc'⟩ := ownsRow_type h' hk'
  rw [hc] at hc'
  simp only [Option.some.injEq, Obj.cells.injEq] at hc'
  exact he hc'.2.1

/-- rows made so far: an outer slice of the call's own, and the rows in blocks of their own, all from lo up to hi -/
structure MadeTo (w : World) (lo hi : Nat) (v : Value) (rvs : List Value) (yss : List (List Int)) : Prop where
  own : w.ownsRow lo 75 1 v yss.length rvs
  rows : ∀ i, i < yss.length → Own w lo hi 2 (rvs.getD i undef) (ints (yss.getD i []))
  far : ∀ i j, i < yss.length → j < yss.length → i ≠ j → ∀ k, (rvs.getD i undef).ownBlock = some k → (rvs.getD j undef).ownBlock ≠ some k
  size : hi ≤ w.heap.size
theorem MadeTo.len {w : World} {lo hi : Nat} {v : Value} {rvs : List Value} {yss : List (List Int)} (h : MadeTo w lo hi v rvs yss) : rvs.length = yss.length := by simpa using h.own.1
theorem MadeTo.start (w : World) (lo : Nat) : MadeTo w lo w.heap.size (.slice none 0 0) [] [] :=
  ⟨World.ownsRow_nil w lo _ _, fun i hi => by simp at hi, fun i j hi => by simp at hi, Nat.le_refl _⟩
theorem MadeTo.done {w : World} {lo hi : Nat} {v : Value} {rvs : List Value} {yss : List (List Int)} (h : MadeTo w lo hi v rvs yss) : OwnRows 75 2 w lo w.heap.size v yss := by
  refine ⟨rvs, Own.of h.own (Nat.le_refl _), h.len, fun i hi => (h.rows i hi).wide (Nat.le_refl _) h.size, fun i hi k hk hv => ?_, h.far⟩
  exact types_apart h.own (h.rows i hi).1 (by decide) hv hk

theorem MadeTo.step {w w1 w2 : World} {lo hi : Nat} {v v' rv : Value} {rvs : List Value} {yss : List (List Int)} {y : List Int} {a : Addr} (h : MadeTo w lo hi v rvs yss) (hb : Below w.heap.size w w1)
    (hrow : Own w1 w.heap.size w1.heap.size 2 rv (ints y)) (hlo : lo ≤ w.heap.size) (o : Obj) (hown : w2.ownsRow lo 75 1 v' (yss.length + 1) (rvs ++ [rv])) (hg : (w1.alloc o).grownBy w2 v.ownBlock) (ha : a.block < lo) (u : Value) :
    MadeTo (w2.setCell a u) lo (w2.setCell a u).heap.size v' (rvs ++ [rv]) (yss ++ [y]) := by
  have hl := h.len
  have hs2 : w1.heap.size + 1 ≤ w2.heap.size := by have := hg.size; simpa using this
  have hs3 : (w2.setCell a u).heap.size = w2.heap.size := by simp [World.setCell]
  -- a row that lay there, or the new one, is as it was
  have keep : ∀ (lo' hi' : Nat) (x : Value) (xs : List Value), lo ≤ lo' → hi' ≤ w1.heap.size → Own w1 lo' hi' 2 x xs → Own (w2.setCell a u) lo' hi' 2 x xs := by
    intro lo' hi' x xs h1 h2 hx
    have hv1 : w1.ownsRow lo 75 1 v yss.length rvs := by
      refine ⟨h.own.1, ?_⟩
      rcases h.own.2 with hn | ⟨g, cap, cur, rfl, hgg, hh, r⟩
      · exact Or.inl hn
      · exact Or.inr ⟨g, cap, cur, rfl, hgg, by rw [hb.block g (Array.getElem?_eq_some_iff.1 hh).1]; exact hh, r⟩
    refine hx.sameBlk fun k hk hxk => ?_
    have hne : v.ownBlock ≠ some k := fun hv => types_apart hv1 hx.1 (by decide) hv hxk
    have hlk : lo ≤ k := by have := (hx.1.lt k hxk).1; omega
    rw [Below.heap_setCell _ _ _ _ (by omega), hg.block k (by simp; omega) (fun e => hne e.symm), Below.heap_alloc _ _ _ hk]
  have hn : (rvs ++ [rv]).getD yss.length undef = rv := by simp [List.getD, ← hl]
  have ho : ∀ i, i < yss.length → (rvs ++ [rv]).getD i undef = rvs.getD i undef := fun i hi => by simp only [List.getD]; rw [List.getElem?_append_left (by omega)]
  have hyn : (yss ++ [y]).getD yss.length [] = y := by simp [List.getD]
  have hyo : ∀ i, i < yss.length → (yss ++ [y]).getD i [] = yss.getD i [] := fun i hi => by simp only [List.getD]; rw [List.getElem?_append_left (by omega)]
  have old : ∀ i, i < yss.length → Own w1 lo hi 2 (rvs.getD i undef) (ints (yss.getD i [])) := fun i hi => (h.rows i hi).keep h.size hb
  have apart : ∀ i, i < yss.length → ∀ k, (rvs.getD i undef).ownBlock = some k → k < w.heap.size := fun i hi k hk => by have := (h.rows i hi).2.2 k hk; have := h.size; omega
  have fresh : ∀ k, rv.ownBlock = some k → w.heap.size ≤ k := fun k hk => (hrow.1.lt k hk).1
  refine ⟨?_, fun i _ => ?_, fun i j _ hj hne k hk => ?_, Nat.le_refl _⟩
  · rw [List.length_append]
    exact ownsRow_setCell_below hown ha u
  · rename_i hii
    rw [List.length_append] at hii
    simp only [List.length_cons, List.length_nil] at hii
    by_cases e : i < yss.length
    · rw [ho i e, hyo i e]
      exact (keep lo hi _ _ (Nat.le_refl _) (by have := h.size; have := hb.size; omega) (old i e)).wide (Nat.le_refl _) (by have := h.size; have := hb.size; omega)
    · obtain rfl : i = yss.length := by omega
      rw [hn, hyn]
      exact (keep _ _ _ _ hlo (Nat.le_refl _) hrow).wide hlo (by omega)
  · rename_i hii
    rw [List.length_append] at hii hj
    simp only [List.length_cons, List.length_nil] at hii hj
    by_cases e : i < yss.length
    · rw [ho i e] at hk
      by_cases e' : j < yss.length
      · rw [ho j e']; exact h.far i j e e' hne k hk
      · obtain rfl : j = yss.length := by omega
        rw [hn]; intro hc; have := fresh k hc; have := apart i e k hk; omega
    · obtain rfl : i = yss.length := by omega
      rw [hn] at hk
      by_cases e' : j < yss.length
      · rw [ho j e']; intro hc; have := fresh k hk; have := apart j e' k hc; omega
      · omega
theorem ownsRow_shape {w : World} {lo n : Nat} {e : TypeId} {v : Value} {vs : List Value} (h : w.ownsRow lo e 1 v n vs) (hn : 0 < n) : ∃ g cap, v = .slice (some ⟨g, 0, none⟩) n cap := by
  rcases h.2 with ⟨_, h0⟩ | ⟨g, cap, cur, rfl, _⟩
  · omega
  · exact ⟨g, cap, rfl⟩

/-- the weights in rows -/
def rowsOf (n : Nat) (f : Nat → Nat → Int) : List (List Int) := (List.range n).map fun s => (List.range n).map fun t => f s t
/-- what makeChain returns -/
def madeCh (n t : Int) (f : Nat → Nat → Int) : Ch × Int := if 6 < n ∨ 60 < t then (⟨0, 0, []⟩, 3) else (⟨n, t, rowsOf n.toNat f⟩, 0)
theorem range_map_succ {α : Type} (g : Nat → α) (k : Nat) : (List.range (k + 1)).map g = (List.range k).map g ++ [g k] := by rw [List.range_succ, List.map_append]; rfl

set_option maxRecDepth 100000 in
set_option maxHeartbeats 8000000 in
theorem makeChain_any (n : Nat) (t : Int) (F : Nat) (caps : Array Value) (f : Nat → Nat → Int) (w : World) (hn : 1 ≤ n) (hn6 : n ≤ 6) (ht : t ≤ 60)
    (hcf0 : ∀ args w, (callFunc F args).run Tryz.prog w = .ok (.enter F args) w)
    (hF0 : ∀ (W : World) (s j : Nat), Below w.heap.size w W → s < n → j < n → Calls Tryz.prog F (#[.int .i64 s, .int .i64 j] ++ caps) W fun e W' => e = .returned (.int .i64 (f s j)) ∧ ∃ m, W' = W.drewN m) :
    Calls Tryz.prog 87 #[.int .i64 n, .int .i64 t, .func (.func F) #[] caps] w fun e w' => ∃ cv, e = .returned (.tuple #[cv, .int .i64 0]) ∧ ChOwn 75 2 w' w.heap.size w'.heap.size cv ⟨n, t, rowsOf n f⟩ ∧ Below w.heap.size w w' := by
  have hF := Lib.hid hF0
  have hcf := hcf0
  have hmk := make_cap n (by omega) (by omega)
  obtain ⟨i0, hi, hz0, hz1, hz2⟩ := info_parts Tryz.infoI
  obtain ⟨i1, ki, kz0, kz1, kz2⟩ := info_parts Tryz.infoR
  have hi' := Lib.hid hi; have hz0' := Lib.hid hz0; have hz1' := Lib.hid hz1; have hz2' := Lib.hid hz2
  have ki' := Lib.hid ki; have kz0' := Lib.hid kz0; have kz1' := Lib.hid kz1; have kz2' := Lib.hid kz2
  clear hF0 hcf0 hi hz0 hz1 hz2 ki kz0 kz1 kz2
  have B2 := below2 w (.cells #[.int .i64 0, .int .i64 0, .slice none 0 0] 26) (.cells #[.int .i64 n, .int .i64 t, .slice none 0 0] 26)
  have hA := (Blk.new w #[.int .i64 0, .int .i64 0, .slice none 0 0] 26).alloc (.cells #[.int .i64 n, .int .i64 t, .slice none 0 0] 26)
  have hC := Blk.new (w.alloc (.cells #[.int .i64 0, .int .i64 0, .slice none 0 0] 26)) #[.int .i64 n, .int .i64 t, .slice none 0 0] 26
  simp only [World.size_alloc] at hC
  go_enter Tryz.func87, Tryz.ntmps87
  go_wp2
  have hsz0 : ((w.alloc (.cells #[.int .i64 0, .int .i64 0, .slice none 0 0] 26)).alloc (.cells #[.int .i64 n, .int .i64 t, .slice none 0 0] 26)).heap.size = w.heap.size + 2 := by simp
  generalize (w.alloc (.cells #[.int .i64 0, .int .i64 0, .slice none 0 0] 26)).alloc (.cells #[.int .i64 n, .int .i64 t, .slice none 0 0] 26) = W at *
  have hsz0' := Lib.hid hsz0
  clear hsz0
  go_loopw [23] (fun i wr => ∃ (k : Nat) (a : Option Addr) (cap : Nat) (rvs : List Value), k ≤ n ∧ i = .int .i64 k ∧ Blk wr (w.heap.size + 1) #[.int .i64 n, .int .i64 t, .slice a k cap] 26 ∧ Blk wr w.heap.size #[.int .i64 0, .int .i64 0, .slice none 0 0] 26 ∧
      MadeTo wr (w.heap.size + 2) wr.heap.size (.slice a k cap) rvs ((List.range k).map fun s => (List.range n).map fun j => f s j) ∧ Below w.heap.size w wr ∧ w.heap.size + 2 ≤ wr.heap.size) (fun i _ => n - (intOf i).toNat)
  case atStart => exact ⟨0, none, 0, [], Nat.zero_le _, rfl, hC, hA, by simpa using MadeTo.start W (w.heap.size + 2), B2, by have := hsz0'.out; omega⟩
  case round =>
    obtain ⟨wo, rfl⟩ : ∃ wo : World, wo = wr := ⟨_, rfl⟩
    obtain ⟨k, a, cap, rvs, hk, rfl, hC1, hA1, hM, hb1, hs1⟩ := hrel
    have hM' := Lib.hid hM
    clear hM
    by_cases hlt : k < n
    · go_wp2
      go_loopw [10, 29] (fun v i wr => ∃ j : Nat, j ≤ n ∧ i = .int .i64 j ∧ wr.ownsRow wo.heap.size 2 1 v j (ints ((List.range j).map fun j => f k j)) ∧ Below wo.heap.size wo wr) (fun _ i _ => n - (intOf i).toNat)
      case atStart =>
        exact ⟨0, Nat.zero_le _, rfl, by simpa using World.ownsRow_made wo (madeCells #[.int .i64 0] n) n (Nat.le_refl _) (by unfold maxLen; omega) (by rw [size_madeCells]; omega), below1 _ _⟩
      case round =>
        obtain ⟨j, hj, rfl, hown, bel⟩ := hrel
        by_cases hjlt : j < n
        · have hcall := hF.out wr k j (hb1.trans (bel.mono hs1 |>.mono (by omega))) hlt hjlt
          have hsz := bel.size
          have hts := Lib.hid (range_map_succ (fun j => f k j) j)
          generalize f k j = x at hcall hts
          go_wp2_with fail
          refine hcall.mono ?_
          rintro e w2 ⟨rfl, m, rfl⟩
          have hown' : (wr.drewN m).ownsRow wo.heap.size 2 1 _ j (ints ((List.range j).map fun j => f k j)) := hown
          go_wp2_with (at_builtin; (refine wpList_append_own _ rfl _ _ 75 rfl wo.heap.size 2 i0 (.int .i64 0) 1 8 Tryz.underlying75 hi'.out hz0'.out hz1'.out hz2'.out rfl (by decide) _ _ _ rfl (hown'.alloc _) ⟨wr.heap.size, 0, none⟩ 1 1 [.int .i64 x] rfl rfl (one_new _ _ _) (by simp [Value.oneCell']) (by unfold maxLen; omega) (by omega) (by simp; omega) ?_); intro v' w2 hown2 hgr2 _)
          go_roundw
          case rel =>
            refine ⟨j + 1, by omega, by go_num, ?_, ((below_drewN bel m).alloc (by simpa using hsz) _).grown hgr2 (by simp; omega) (fun k' hk' => (hown.lt k' hk').1)⟩
            rw [hts.out]
            simpa [ints] using hown2
          case measure => simp [intOf]; omega
        · obtain rfl : j = n := by omega
          have hsz := bel.size
          obtain ⟨g, gc, rfl⟩ := ownsRow_shape hown (by omega)
          have hrow : Own wr wo.heap.size wr.heap.size 2 _ (ints ((List.range j).map fun i => f k i)) := Own.of hown (Nat.le_refl _)
          have hrow' := Lib.hid hrow
          have hM := hM'.out
          have hMown : wr.ownsRow (w.heap.size + 2) 75 1 (.slice a k cap) k rvs := by
            have h1 := hM.own
            simp only [List.length_map, List.length_range] at h1
            refine ⟨h1.1, ?_⟩
            rcases h1.2 with h0 | ⟨g, cap, cur, hv, hgg, hh, r⟩
            · exact Or.inl h0
            · exact Or.inr ⟨g, cap, cur, hv, hgg, by rw [bel.block g (Array.getElem?_eq_some_iff.1 hh).1]; exact hh, r⟩
          have hC2 := hC1.keep bel hC1.lt
          have hA2 := hA1.keep bel hA1.lt
          have q2 : wr.cell? ⟨w.heap.size + 1, 2, none⟩ = some (.slice a k cap) := hC2.cell 2
          have ltC := hC2.lt
          have q2' : ∀ o, (wr.alloc o).cell? ⟨w.heap.size + 1, 2, none⟩ = some (.slice a k cap) := fun o => (World.cell?_alloc_past _ _ _ ltC).trans q2
          have hne : ∀ k', k' < w.heap.size + 2 → (Value.slice a k cap).ownBlock ≠ some k' := fun k' hk' hh => by have := (ownsRow_type hMown hh).1; omega
          have hne' := Lib.hid hne
          clear hM hrow hown hne
          go_wp2_with (at_builtin; (refine wpList_append_own _ rfl _ _ 24 rfl (w.heap.size + 2) 75 i1 (.slice none 0 0) 1 24 Tryz.underlying24 ki'.out kz0'.out kz1'.out kz2'.out rfl (by decide) _ _ _ rfl (hMown.alloc _) ⟨wr.heap.size, 0, none⟩ 1 1 [.slice (some ⟨g, 0, none⟩) j gc] rfl rfl (one_new _ _ _) (by simp [Value.oneCell']) (by unfold maxLen; omega) (by omega) (by simp; omega) ?_); intro v' w2 hown2 hgr2 _; obtain ⟨g2, c2, rfl⟩ := ownsRow_shape hown2 (by omega); have hC3 : Blk w2 (w.heap.size + 1) _ _ := (hgr2.block (w.heap.size + 1) (by simp; omega) (fun e => hne'.out _ (by omega) e.symm)).trans (hC2.alloc _); have hf3 := hC3.frozen 2; have hc3 := hC3.cell 2; simp at hc3)
          go_roundw
          case rel =>
            have hg2 := hgr2.size
            simp at hg2
            have hA3 : Blk w2 w.heap.size _ _ := (hgr2.block w.heap.size (by simp; omega) (fun e => hne'.out _ (by omega) e.symm)).trans (hA2.alloc _)
            have res := MadeTo.step (v' := .slice (some ⟨g2, 0, none⟩) (k + 1) c2) (a := ⟨w.heap.size + 1, 2, none⟩) hM'.out bel hrow'.out (by omega) _ (by simpa using hown2) hgr2 (by show w.heap.size + 1 < w.heap.size + 2; omega) (.slice (some ⟨g2, 0, none⟩) (k + 1) c2)
            refine ⟨k + 1, some ⟨g2, 0, none⟩, c2, rvs ++ [.slice (some ⟨g, 0, none⟩) j gc], by omega, by go_num, ?_, hA3.setOther (by simp) _, ?_, ?_, by simp [World.setCell]; omega⟩
            · have := hC3.set 2 (.slice (some ⟨g2, 0, none⟩) (k + 1) c2)
              simpa using this
            · rw [range_map_succ]
              exact res
            · refine Below.setCell ?_ (by show w.heap.size ≤ w.heap.size + 1; omega) _
              exact ((hb1.trans (bel.mono (by omega))).alloc (by omega) _).grown hgr2 (by simp; omega) (fun k' hk' => by have := (ownsRow_type hMown hk').1; omega)
          case measure => simp [intOf]; omega
    · obtain rfl : k = n := by omega
      have c10 := hA1.cell 0
      have c11 := hA1.cell 1
      have c12 := hA1.cell 2
      have f10 := hA1.frozen 0
      have f11 := hA1.frozen 1
      have f12 := hA1.frozen 2
      have c20 := hC1.cell 0
      have c21 := hC1.cell 1
      have c22 := hC1.cell 2
      simp at c10 c11 c12 c20 c21 c22
      go_wp2
      refine bodyPost_ret (v := .tuple #[.agg #[.int .i64 k, .int .i64 t, .slice a k cap], .int .i64 0]) (by simp [results, Tryz.results87, go_sem, c10, c11, c12]) rfl ?_
      have hown := hM'.out.done
      refine ⟨_, rfl, ⟨_, rfl, (hown.same ((((SameOn.refl _ _ _).set ?_ _).set ?_ _).set ?_ _)).wide (by omega) (by simp [World.setCell])⟩, ((hb1.setCell ?_ _).setCell ?_ _).setCell ?_ _⟩
      all_goals (simp only; omega)
end Go.Proofs.YtiddhnnofpbopaaGreatDoor

/- The chain that mixes two, of the specification. Conditions: both are valid and have the same states. -/
namespace Go.Proofs.YtiddhnnofpbopaaGreatDoor
open Go.RowKit Go.Deep

def mixF (c d : Ch) (s t : Nat) : Int := (c.w.getD s []).getD t 0 * d.t + (d.w.getD s []).getD t 0 * c.t
def mixCh (c d : Ch) : Ch := ⟨c.n, 2 * c.t * d.t, rowsOf c.n.toNat (mixF c d)⟩

theorem wrap_id {x : Int} (h : -9223372036854775808 ≤ x ∧ x ≤ 9223372036854775807) : IntKind.i64.wrap x = x := by rw [IntKind.wrap_i64]; omega
theorem mul_bd {x y a b : Int} (hx : 0 ≤ x) (hxa : x ≤ a) (hy : 0 ≤ y) (hyb : y ≤ b) : 0 ≤ x * y ∧ x * y ≤ a * b :=
  ⟨Int.mul_nonneg hx hy, Int.mul_le_mul hxa hyb hy (by omega)⟩

end Go.Proofs.YtiddhnnofpbopaaGreatDoor

/- MixChains of the project and of the specification: both return 'mixOf'. Conditions: none on the chains beyond what is read. -/
namespace Go.Proofs.YtiddhnnofpbopaaGreatDoor
open Go.RowKit Go.Deep

def zeroCh : Ch := ⟨0, 0, []⟩
def lim (c : Ch) : Ch × Int := if chOk c = true then (c, 0) else (zeroCh, 3)
/-- the code of two chains with the same states -/
def pairCode (c d : Ch) : Int := if chOk c = true ∧ chOk d = true then (if c.n = d.n then 0 else 2) else 1
theorem zero_ch (w : World) : ChR w (.agg #[.int .i64 0, .int .i64 0, .slice none 0 0]) zeroCh :=
  ⟨_, rfl, [], ⟨by simp, none, 0, rfl, ⟨Nat.le_refl _, Nat.zero_le _⟩, fun i hi => by simp at hi⟩, rfl, fun i hi => by simp [zeroCh] at hi⟩
theorem zero_own (w : World) (lo hi : Nat) : ChOwn 75 2 w lo hi (.agg #[.int .i64 0, .int .i64 0, .slice none 0 0]) zeroCh :=
  ⟨_, rfl, [], ⟨World.ownsRow_nil w lo _ _, by simp, fun k hk => by simp [Value.ownBlock] at hk⟩, rfl, fun i hi => by simp [zeroCh] at hi, fun i hi => by simp [zeroCh] at hi, fun i j hi => by simp [zeroCh] at hi⟩

theorem ChR.rows {w : World} {v : Value} {c : Ch} (h : ChR w (.agg #[.int .i64 c.n, .int .i64 c.t, v]) c) : Rows2 w v c.w := by
  obtain ⟨v', hv', hr⟩ := h
  simp only [Value.agg.injEq, Array.mk.injEq, List.cons.injEq, and_true, true_and] at hv'
  rw [hv']; exact hr

def mixOf (c d : Ch) : Ch × Int := if pairCode c d = 0 then lim (mixCh c d) else (zeroCh, pairCode c d)
theorem pair_zero {c d : Ch} (h : pairCode c d = 0) : chOk c = true ∧ chOk d = true ∧ c.n = d.n := by
  unfold pairCode at h
  split at h
  · split at h
    · rename_i h1 h2; exact ⟨h1.1, h1.2, h2⟩
    · omega
  · omega

/-! ### the project's -/
set_option maxHeartbeats 4000000 in
theorem checkTwo_any (cv dv : Value) (c d : Ch) (w : World) (hc : ChR w cv c) (hd : ChR w dv d) :
    Calls Tryz.prog 89 #[cv, dv] w fun e w' => e = .returned (.int .i64 (pairCode c d)) ∧ Below w.heap.size w w' := by
  obtain ⟨a, cap, rfl⟩ : ∃ a cap, cv = .agg #[.int .i64 c.n, .int .i64 c.t, .slice a c.w.length cap] := by
    obtain ⟨v, rfl, hr⟩ := hc
    obtain ⟨_, a, cap, rfl⟩ := hr.len
    exact ⟨a, cap, rfl⟩
  obtain ⟨a', cap', rfl⟩ : ∃ a cap, dv = .agg #[.int .i64 d.n, .int .i64 d.t, .slice a d.w.length cap] := by
    obtain ⟨v, rfl, hr⟩ := hd
    obtain ⟨_, a, cap, rfl⟩ := hr.len
    exact ⟨a, cap, rfl⟩
  have B0 := below2 w (.cells #[.int .i64 c.n, .int .i64 c.t, .slice a c.w.length cap] 26) (.cells #[.int .i64 d.n, .int .i64 d.t, .slice a' d.w.length cap'] 26)
  have hB := (Blk.new w #[.int .i64 c.n, .int .i64 c.t, .slice a c.w.length cap] 26).alloc (.cells #[.int .i64 d.n, .int .i64 d.t, .slice a' d.w.length cap'] 26)
  have hD := Blk.new (w.alloc (.cells #[.int .i64 c.n, .int .i64 c.t, .slice a c.w.length cap] 26)) #[.int .i64 d.n, .int .i64 d.t, .slice a' d.w.length cap'] 26
  simp only [World.size_alloc] at hD
  have Kc := hc.keep B0
  have Kd := hd.keep B0
  by_cases oc : chOk c = true
  · by_cases od : chOk d = true
    · by_cases hn : c.n = d.n
      · have hr := Lib.hid (show pairCode c d = 0 by simp [pairCode, oc, od, hn])
        have hn1 : (c.n != d.n) = false := by simpa using hn
        clear hn
        go_enter Tryz.func89, Tryz.ntmps89
        go_wp2_with fail
        refine (ValidChain_impl _ c _ Kc).mono ?_
        rintro e w1 ⟨rfl, b1⟩
        have hB1 := hB.keep b1 hB.lt
        have hD1 := hD.keep b1 hD.lt
        have g0 : w1.cell? _ = _ := hD1.cell 0
        have g1 : w1.cell? _ = _ := hD1.cell 1
        have g2 : w1.cell? _ = _ := hD1.cell 2
        simp at g0 g1 g2
        go_wp2_with fail
        refine (ValidChain_impl _ d _ (Kd.keep b1)).mono ?_
        rintro e w2 ⟨rfl, b2⟩
        have hB2 := hB1.keep b2 hB1.lt
        have hD2 := hD1.keep b2 hD1.lt
        have k0 : w2.cell? _ = _ := hD2.cell 0
        have k1 : w2.cell? _ = _ := hB2.cell 0
        simp at k0 k1
        go_wp2
        go_ret
        exact ⟨ret_int hr.out.symm, below_wt (below_wt B0 b1) b2⟩
      · have hr := Lib.hid (show pairCode c d = 2 by simp [pairCode, oc, od, hn])
        have hn1 : (c.n != d.n) = true := by simpa using hn
        clear hn
        go_enter Tryz.func89, Tryz.ntmps89
        go_wp2_with fail
        refine (ValidChain_impl _ c _ Kc).mono ?_
        rintro e w1 ⟨rfl, b1⟩
        have hB1 := hB.keep b1 hB.lt
        have hD1 := hD.keep b1 hD.lt
        have g0 : w1.cell? _ = _ := hD1.cell 0
        have g1 : w1.cell? _ = _ := hD1.cell 1
        have g2 : w1.cell? _ = _ := hD1.cell 2
        simp at g0 g1 g2
        go_wp2_with fail
        refine (ValidChain_impl _ d _ (Kd.keep b1)).mono ?_
        rintro e w2 ⟨rfl, b2⟩
        have hB2 := hB1.keep b2 hB1.lt
        have hD2 := hD1.keep b2 hD1.lt
        have k0 : w2.cell? _ = _ := hD2.cell 0
        have k1 : w2.cell? _ = _ := hB2.cell 0
        simp at k0 k1
        go_wp2
        go_ret
        exact ⟨ret_int hr.out.symm, below_wt (below_wt B0 b1) b2⟩
    · have od' : chOk d = false := by simpa using od
      have hr := Lib.hid (show pairCode c d = 1 by simp [pairCode, od'])
      clear od
      go_enter Tryz.func89, Tryz.ntmps89
      go_wp2_with fail
      refine (ValidChain_impl _ c _ Kc).mono ?_
      rintro e w1 ⟨rfl, b1⟩
      have hD1 := hD.keep b1 hD.lt
      have g0 : w1.cell? _ = _ := hD1.cell 0
      have g1 : w1.cell? _ = _ := hD1.cell 1
      have g2 : w1.cell? _ = _ := hD1.cell 2
      simp at g0 g1 g2
      go_wp2_with fail
      refine (ValidChain_impl _ d _ (Kd.keep b1)).mono ?_
      rintro e w2 ⟨rfl, b2⟩
      go_wp2
      go_ret
      exact ⟨ret_int hr.out.symm, below_wt (below_wt B0 b1) b2⟩
  · have oc' : chOk c = false := by simpa using oc
    have hr := Lib.hid (show pairCode c d = 1 by simp [pairCode, oc'])
    clear oc
    go_enter Tryz.func89, Tryz.ntmps89
    go_wp2_with fail
    refine (ValidChain_impl _ c _ Kc).mono ?_
    rintro e w1 ⟨rfl, b1⟩
    go_wp2
    go_ret
    exact ⟨ret_int hr.out.symm, below_wt B0 b1⟩

set_option maxHeartbeats 4000000 in
theorem makeChain_lim (n t : Int) (F : Nat) (caps : Array Value) (w : World) (h : 6 < n ∨ 60 < t) :
    Calls Tryz.prog 87 #[.int .i64 n, .int .i64 t, .func (.func F) #[] caps] w fun e w' => e = .returned (.tuple #[.agg #[.int .i64 0, .int .i64 0, .slice none 0 0], .int .i64 3]) ∧ Below w.heap.size w w' := by
  have hA := Blk.new w #[.int .i64 0, .int .i64 0, .slice none 0 0] 26
  by_cases h1 : 6 < n
  · have h1' : decide (6 < n) = true := decide_eq_true h1
    clear h
    go_enter Tryz.func87, Tryz.ntmps87
    go_wp2
    refine bodyPost_ret (v := .tuple #[.agg #[.int .i64 0, .int .i64 0, .slice none 0 0], .int .i64 3]) (by simp [results, Tryz.results87, go_sem]) rfl ⟨rfl, below1 _ _⟩
  · have h2 : 60 < t := by omega
    have h1' : decide (6 < n) = false := decide_eq_false h1
    clear h h1
    go_enter Tryz.func87, Tryz.ntmps87
    go_wp2
    refine bodyPost_ret (v := .tuple #[.agg #[.int .i64 0, .int .i64 0, .slice none 0 0], .int .i64 3]) (by simp [results, Tryz.results87, go_sem]) rfl ⟨rfl, below1 _ _⟩

/-! ### the mixed chain is valid just if its total is -/
theorem rowsOf_length (n : Nat) (f : Nat → Nat → Int) : (rowsOf n f).length = n := by simp [rowsOf]
theorem sum_map_add (l : List Nat) (f g : Nat → Int) : (l.map fun i => f i + g i).sum = (l.map f).sum + (l.map g).sum := by
  induction l with
  | nil => rfl
  | cons x r ih => simp only [List.map_cons, List.sum_cons, ih]; omega
theorem sum_map_mul (l : List Nat) (f : Nat → Int) (k : Int) : (l.map fun i => f i * k).sum = (l.map f).sum * k := by
  induction l with
  | nil => simp
  | cons x r ih => simp only [List.map_cons, List.sum_cons, ih, Int.add_mul]
theorem map_getD_range (row : List Int) : (List.range row.length).map (fun i => row.getD i 0) = row := by
  apply List.ext_getElem (by simp)
  intro i h1 h2
  simp [List.getD, h2]
theorem okRow_of {n : Nat} {t : Int} {row : List Int} (h1 : row.length = n) (h2 : ∀ x ∈ row, 0 ≤ x) (h3 : row.sum = t) : okRow n t row = true := by
  have hle : ∀ x ∈ row, x ≤ row.sum := by
    clear h1 h3
    induction row with
    | nil => simp
    | cons y r ih =>
      have hr : 0 ≤ r.sum := by
        clear ih
        induction r with
        | nil => simp
        | cons z q ih2 => simp only [List.sum_cons]; have := h2 z (by simp); have := ih2 (fun x hx => h2 x (by simp at hx ⊢; rcases hx with h | h <;> simp [h])); omega
      intro x hx
      simp only [List.mem_cons] at hx
      simp only [List.sum_cons]
      rcases hx with rfl | hx
      · omega
      · have := ih (fun z hz => h2 z (by simp [hz])) x hx
        have := h2 y (by simp)
        omega
  simp only [okRow, Bool.and_eq_true, decide_eq_true_eq, List.all_eq_true, inB_iff]
  exact ⟨by omega, fun x hx => ⟨h2 x hx, by rw [← h3]; exact hle x hx⟩, h3⟩

theorem mix_ok {c d : Ch} (oc : chOk c = true) (od : chOk d = true) (hn : c.n = d.n) (ht : 2 * c.t * d.t ≤ 60) : chOk (mixCh c d) = true := by
  obtain ⟨n1, n2, t1, t2, hlen, hrows⟩ := chOk_all oc
  obtain ⟨m1, m2, u1, u2, hlen2, hrows2⟩ := chOk_all od
  have hpos : 1 ≤ 2 * c.t * d.t := by
    have := Int.mul_le_mul (show (2 : Int) ≤ 2 * c.t by omega) u1 (by omega) (by omega)
    omega
  have hN : (c.n.toNat : Int) = c.n := by omega
  simp only [chOk, mixCh, Bool.and_eq_true, decide_eq_true_eq, List.all_eq_true, inB_iff, rowsOf_length]
  refine ⟨⟨n1, n2⟩, ⟨hpos, ht⟩, hN, fun r hr => ?_⟩
  simp only [rowsOf, List.mem_map, List.mem_range] at hr
  obtain ⟨s, hs, rfl⟩ := hr
  obtain ⟨q1, q2, q3⟩ := okRow_all (hrows _ (getD_mem (d := []) (show s < c.w.length by omega)))
  obtain ⟨p1, p2, p3⟩ := okRow_all (hrows2 _ (getD_mem (d := []) (show s < d.w.length by omega)))
  have key : okRow (c.n.toNat : Nat) (2 * c.t * d.t) ((List.range c.n.toNat).map fun t => mixF c d s t) = true := by
    refine okRow_of (by simp) (fun x hx => ?_) ?_
    · simp only [List.mem_map, List.mem_range] at hx
      obtain ⟨j, hj, rfl⟩ := hx
      have h1 := q2 _ (getD_mem (d := 0) (show j < (c.w.getD s []).length by omega))
      have h2 := p2 _ (getD_mem (d := 0) (show j < (d.w.getD s []).length by omega))
      have := Int.mul_nonneg h1.1 (show 0 ≤ d.t by omega)
      have := Int.mul_nonneg h2.1 (show 0 ≤ c.t by omega)
      simp only [mixF]; omega
    · have e1 : (List.range c.n.toNat).map (fun j => (c.w.getD s []).getD j 0) = c.w.getD s [] := by
        have : c.n.toNat = (c.w.getD s []).length := by omega
        rw [this]; exact map_getD_range _
      have e2 : (List.range c.n.toNat).map (fun j => (d.w.getD s []).getD j 0) = d.w.getD s [] := by
        have : c.n.toNat = (d.w.getD s []).length := by omega
        rw [this]; exact map_getD_range _
      simp only [mixF]
      rw [sum_map_add, sum_map_mul, sum_map_mul, e1, e2, q3, p3]
      have : d.t * c.t = c.t * d.t := Int.mul_comm _ _
      rw [this, Int.mul_assoc]; omega
  rw [hN] at key
  exact key
theorem mix_lim {c d : Ch} (oc : chOk c = true) (od : chOk d = true) (hn : c.n = d.n) : lim (mixCh c d) = if 60 < 2 * c.t * d.t then (zeroCh, 3) else (mixCh c d, 0) := by
  by_cases h : 60 < 2 * c.t * d.t
  · have : chOk (mixCh c d) = false := by
      rw [Bool.eq_false_iff]; intro hc
      have := (chOk_all hc).2.2.2.1
      simp only [mixCh] at this; omega
    simp [lim, this, h]
  · simp [lim, mix_ok oc od hn (by omega), h]

end Go.Proofs.YtiddhnnofpbopaaGreatDoor

/- The sources from which laws draw: a byte, a number, one of some numbers. What is drawn is told by its bounds alone. Conditions: told in each. -/
namespace Go.Proofs.YtiddhnnofpbopaaGreatDoor
open Go.RowKit Go.Deep
set_option linter.unusedVariables false

/-- v reads as a list of so many bytes as long as nothing below block B turns -/
def BytesUnder (w : World) (B : Nat) (a : Option Addr) (len : Nat) : Prop :=
  B ≤ w.heap.size ∧ ∀ w', Below B w w' → ∀ i, i < len → ∃ (b off : Nat) (x : Int), a = some ⟨b, off, none⟩ ∧ w'.cell? ⟨b, off + i, none⟩ = some (.int .u8 x) ∧ 0 ≤ x ∧ x ≤ 255
/-- a source at block b, from which at most n bytes have been taken -/
def Src (w : World) (B b n : Nat) : Prop :=
  ∃ (a : Option Addr) (len cap pos : Nat) (seed : Int), Blk w b #[.slice a len cap, .int .i64 pos, .int .u64 seed] 113 ∧ pos ≤ n ∧ len ≤ 4096 ∧ BytesUnder w B a len ∧ B ≤ b

theorem wp_drawn {P : Program} {c : Code} {Q : Exit → Act → World → Prop} {a : Act} {w : World} (h : ∀ V, (∃ n, V = w.drewN n) → c.wp P Q a V) (n : Nat) : c.wp P Q a (w.drewN n) := h _ ⟨n, rfl⟩
theorem Touched.drawn {lo hi : Nat} {w V : World} (h : ∃ n, V = w.drewN n) : Touched lo hi w V := by
  obtain ⟨n, rfl⟩ := h
  exact Touched.of (below_drewN (Below.refl _ _) n)
theorem Touched.drewN {lo hi : Nat} {w V : World} (h : Touched lo hi w V) (n : Nat) : Touched lo hi w (V.drewN n) := h.trans (Touched.of (below_drewN (Below.refl _ _) n))
theorem Blk.drawn {w V : World} {b : Nat} {c : Array Value} {t : TypeId} (h : Blk w b c t) (k : ∃ n, V = w.drewN n) : Blk V b c t := by
  obtain ⟨n, rfl⟩ := k; exact h
theorem size_drawn {w V : World} (k : ∃ n, V = w.drewN n) : V.heap.size = w.heap.size := by
  obtain ⟨n, rfl⟩ := k; rfl
theorem wrap_u64m (x : Int) : IntKind.u64.wrap x = x % 18446744073709551616 := by
  simp [IntKind.wrap, IntKind.signed, IntKind.bits]
theorem shr40_bd (x : Int) (h0 : 0 ≤ x) (h1 : x ≤ 18446744073709551615) : 0 ≤ bits .and .u64 x 255 ∧ bits .and .u64 x 255 ≤ 255 := by
  have h := bits_and_u64_nat x.toNat 255 (by omega) (by omega)
  rw [Int.toNat_of_nonneg h0] at h
  have e : ((255 : Nat) : Int) = 255 := rfl
  rw [e] at h
  rw [h]
  have := Nat.and_le_right (n := x.toNat) (m := 255)
  omega

set_option maxRecDepth 100000 in
set_option maxHeartbeats 8000000 in
theorem next_any (w : World) (B b n : Nat) (hs : Src w B b n) (hn : n ≤ 1000000) :
    Calls Tryz.prog 70 #[.pointer (some ⟨b, 0, none⟩)] w fun e w' => ∃ r : Int, e = .returned (.int .i64 r) ∧ 0 ≤ r ∧ r ≤ 255 ∧ Src w' B b (n + 1) ∧ Touched b (b + 1) w w' ∧ w'.heap.size = w.heap.size := by
  obtain ⟨a, len, cap, pos, seed, hb, hp, hl, hby, hBb⟩ := hs
  obtain ⟨q0, q1, q2⟩ := hb.three
  have hb' := Lib.hid hb
  have hlt0 := hb.lt
  have fin : ∀ (V V' W : World) (s' : Int), (∃ n, V = w.drewN n) → V' = (V.setCell ⟨b, 1, none⟩ (.int .i64 ((pos : Int) + 1))).setCell ⟨b, 2, none⟩ (.int .u64 s') → (∃ n, W = V'.drewN n) → Src W B b (n + 1) ∧ Touched b (b + 1) w W ∧ W.heap.size = w.heap.size := by
    intro V V' W s' hV hV' hW
    have hbV := hb.drawn hV
    have t1 : Touched b (b + 1) w V' := by rw [hV']; exact ((Touched.drawn hV).set (a := ⟨b, 1, none⟩) (Nat.le_refl _) (by simp) _).set (a := ⟨b, 2, none⟩) (Nat.le_refl _) (by simp) _
    have t2 : Touched b (b + 1) w W := by obtain ⟨k, rfl⟩ := hW; exact t1.drewN k
    have b2 : Blk V' b #[.slice a len cap, .int .i64 ((pos : Int) + 1), .int .u64 s'] 113 := by
      rw [hV']; have := (hbV.set 1 (.int .i64 ((pos : Int) + 1))).set 2 (.int .u64 s'); simpa using this
    have sz : W.heap.size = w.heap.size := by rw [size_drawn hW, hV']; simp [World.setCell, size_drawn hV]
    refine ⟨⟨a, len, cap, pos + 1, s', ?_, by omega, hl, ⟨by rw [sz]; exact hby.1, fun w' hw' => hby.2 w' (Below.trans (t2.below' B hBb hby.1) hw')⟩, hBb⟩, t2, sz⟩
    have := b2.drawn hW
    simpa using this
  have fin' := Lib.hid fin
  clear fin
  by_cases hlt : pos < len
  · have hltI : decide ((pos : Int) < (len : Int)) = true := decide_eq_true (by omega)
    obtain ⟨bb, off, x, ha, hx, x0, x1⟩ := hby.2 w (Below.refl _ _) pos hlt
    subst ha
    have p1 : (0 : Int) ≤ (pos : Int) := by omega
    have p2 : (pos : Int) < (len : Int) := by omega
    have p3 : decide ((pos : Int) + 1 ≤ (len : Int)) = true := decide_eq_true (by omega)
    clear hb
    go_enter Tryz.func70, Tryz.ntmps70
    go_wp2
    go_quiet (fail)
    go_wp2
    go_quiet (fail)
    go_upto_region 4 with fail
    rw [World.drewN_drewN]
    refine wp_drawn (w := w) (fun V hV => ?_) _
    have hbV := hb'.out.drawn hV
    have hV2 := Lib.hid hV
    clear hV q0 q1 q2 hx
    obtain ⟨q0, q1, q2⟩ := hbV.three
    have f0 := hbV.frozen 0
    have f1 := hbV.frozen 1
    have f2 := hbV.frozen 2
    go_upto_region 6 with fail
    generalize IntKind.u64.wrap (IntKind.u64.wrap (IntKind.u64.wrap (seed * 6364136223846793005) + x) + 1442695040888963407) = s'
    have hb2 : Blk ((V.setCell ⟨b, 1, none⟩ (.int .i64 ((pos : Int) + 1))).setCell ⟨b, 2, none⟩ (.int .u64 s')) b #[.slice (some ⟨bb, off, none⟩) len cap, .int .i64 ((pos : Int) + 1), .int .u64 s'] 113 := by
      have := (hbV.set 1 (.int .i64 ((pos : Int) + 1))).set 2 (.int .u64 s'); simpa using this
    obtain ⟨V', hV'⟩ : ∃ V', (V.setCell ⟨b, 1, none⟩ (.int .i64 ((pos : Int) + 1))).setCell ⟨b, 2, none⟩ (.int .u64 s') = V' := ⟨_, rfl⟩
    rw [hV'] at hb2 ⊢
    have hV3 := Lib.hid hV'.symm
    clear hV' q0 q1 q2 f0 f1 f2 hbV
    obtain ⟨q0, q1, q2⟩ := hb2.three
    go_quiet (fail)
    go_wp2
    go_ret
    exact ⟨x, rfl, x0, x1, fin'.out V V' _ s' hV2.out hV3.out ⟨_, rfl⟩⟩
  · have hltI : decide ((pos : Int) < (len : Int)) = false := decide_eq_false (by omega)
    have p3 : decide ((pos : Int) + 1 ≤ (len : Int)) = false := decide_eq_false (by omega)
    clear hb
    go_enter Tryz.func70, Tryz.ntmps70
    go_wp2
    go_quiet (fail)
    go_upto_region 4 with fail
    refine wp_drawn (w := w) (fun V hV => ?_) _
    have hbV := hb'.out.drawn hV
    have hV2 := Lib.hid hV
    clear hV q0 q1 q2
    obtain ⟨q0, q1, q2⟩ := hbV.three
    have f0 := hbV.frozen 0
    have f1 := hbV.frozen 1
    have f2 := hbV.frozen 2
    go_upto_region 6 with fail
    have hsb : 0 ≤ IntKind.u64.wrap (IntKind.u64.wrap (IntKind.u64.wrap (seed * 6364136223846793005)) + 1442695040888963407) ∧ IntKind.u64.wrap (IntKind.u64.wrap (IntKind.u64.wrap (seed * 6364136223846793005)) + 1442695040888963407) ≤ 18446744073709551615 := by
      rw [wrap_u64m]; omega
    generalize IntKind.u64.wrap (IntKind.u64.wrap (IntKind.u64.wrap (seed * 6364136223846793005)) + 1442695040888963407) = s' at *
    have hb2 : Blk ((V.setCell ⟨b, 1, none⟩ (.int .i64 ((pos : Int) + 1))).setCell ⟨b, 2, none⟩ (.int .u64 s')) b #[.slice a len cap, .int .i64 ((pos : Int) + 1), .int .u64 s'] 113 := by
      have := (hbV.set 1 (.int .i64 ((pos : Int) + 1))).set 2 (.int .u64 s'); simpa using this
    obtain ⟨V', hV'⟩ : ∃ V', (V.setCell ⟨b, 1, none⟩ (.int .i64 ((pos : Int) + 1))).setCell ⟨b, 2, none⟩ (.int .u64 s') = V' := ⟨_, rfl⟩
    rw [hV'] at hb2 ⊢
    have hV3 := Lib.hid hV'.symm
    clear hV' q0 q1 q2 f0 f1 f2 hbV
    obtain ⟨q0, q1, q2⟩ := hb2.three
    go_quiet (fail)
    go_wp2
    have hrb := shr40_bd (s' / 1099511627776) (by omega) (by omega)
    generalize bits .and .u64 (s' / 1099511627776) 255 = r at *
    have hwr : wrap64 r = r := by unfold wrap64; omega
    go_ret
    exact ⟨r, ret_int hwr, hrb.1, hrb.2, fin'.out V V' _ s' hV2.out hV3.out ⟨_, rfl⟩⟩

theorem Src.more {w : World} {B b n m : Nat} (h : Src w B b n) (hm : n ≤ m) : Src w B b m := by
  obtain ⟨a, len, cap, pos, seed, h1, h2, h3⟩ := h
  exact ⟨a, len, cap, pos, seed, h1, by omega, h3⟩
theorem Src.step {w w' : World} {B b n : Nat} (h : Src w B b n) (hb : Below w.heap.size w w') : Src w' B b n := by
  obtain ⟨a, len, cap, pos, seed, h1, h2, h3, h4, h5⟩ := h
  exact ⟨a, len, cap, pos, seed, h1.step hb, h2, h3, ⟨Nat.le_trans h4.1 hb.size, fun w2 hw2 => h4.2 w2 ((hb.mono h4.1).trans hw2)⟩, h5⟩
theorem Src.lt {w : World} {B b n : Nat} (h : Src w B b n) : b < w.heap.size := by
  obtain ⟨a, len, cap, pos, seed, h1, _⟩ := h; exact h1.lt
theorem Src.le {w : World} {B b n : Nat} (h : Src w B b n) : B ≤ b := by
  obtain ⟨a, len, cap, pos, seed, _, _, _, _, h5⟩ := h; exact h5
/-- a store elsewhere, in a block from B on -/
theorem Src.set {w : World} {B b n : Nat} (h : Src w B b n) {c i : Nat} (hc : B ≤ c) (hb : b ≠ c) (v : Value) : Src (w.setCell ⟨c, i, none⟩ v) B b n := by
  obtain ⟨a, len, cap, pos, seed, h1, h2, h3, h4, h5⟩ := h
  refine ⟨a, len, cap, pos, seed, h1.setOther (a := ⟨c, i, none⟩) hb v, h2, h3, ⟨by simpa [World.setCell] using h4.1, fun w2 hw2 => h4.2 w2 ?_⟩, h5⟩
  exact Below.trans ((Below.refl B w).setCell (p := ⟨c, i, none⟩) hc v) hw2
theorem Src.drewN {w : World} {B b n : Nat} (h : Src w B b n) (m : Nat) : Src (w.drewN m) B b n := h.step (below_drewN (Below.refl _ _) m)

theorem Src.grown {w w' : World} {B b n : Nat} (h : Src w B b n) (hb : Below B w w') (hk : w'.heap[b]? = w.heap[b]?) : Src w' B b n := by
  obtain ⟨a, len, cap, pos, seed, h1, h2, h3, h4, h5⟩ := h
  exact ⟨a, len, cap, pos, seed, hk.trans h1, h2, h3, ⟨Nat.le_trans h4.1 hb.size, fun w2 hw2 => h4.2 w2 (hb.trans hw2)⟩, h5⟩
theorem ownsRow_touch {w w' : World} {lo n size a b : Nat} {e : TypeId} {v : Value} {vs : List Value} (h : w.ownsRow lo e size v n vs) (t : Touched a b w w') (hd : b ≤ lo) : w'.ownsRow lo e size v n vs := by
  refine ⟨h.1, ?_⟩
  rcases h.2 with h0 | ⟨g, cap, cur, hv, hgg, hh, r⟩
  · exact Or.inl h0
  · exact Or.inr ⟨g, cap, cur, hv, hgg, by rw [t.block g (Array.getElem?_eq_some_iff.1 hh).1 (Or.inr (by omega))]; exact hh, r⟩

set_option maxRecDepth 100000 in
set_option maxHeartbeats 4000000 in
theorem draw_any (w : World) (B b n : Nat) (k : Int) (hs : Src w B b n) (hn : n ≤ 1000000) (h1 : 1 ≤ k) (h2 : k ≤ 200) :
    Calls Tryz.prog 31 #[.pointer (some ⟨b, 0, none⟩), .int .i64 k] w fun e w' => ∃ r : Int, e = .returned (.int .i64 r) ∧ 0 ≤ r ∧ r < k ∧ Src w' B b (n + 1) ∧ Touched b (b + 1) w w' ∧ w'.heap.size = w.heap.size := by
  by_cases hk : k ≤ 1
  · go_enter Tryz.func31, Tryz.ntmps31
    go_wp2
    go_ret
    exact ⟨0, rfl, by omega, by omega, hs.more (by omega), Touched.refl _ _ _, rfl⟩
  · have hk2 : ¬ (200 : Int) < k := by omega
    go_enter Tryz.func31, Tryz.ntmps31
    go_wp2_with fail
    refine (next_any w B b n hs hn).mono ?_
    rintro e w1 ⟨x, rfl, x0, x1, s1, t1, z1⟩
    have z1' := Lib.hid z1
    clear z1
    have hk0 : ¬ k = 0 := by omega
    go_wp2
    go_ret
    exact ⟨x % k, rfl, Int.emod_nonneg _ (by omega), Int.emod_lt_of_pos _ (by omega), s1, t1, z1'.out⟩

set_option maxRecDepth 100000 in
set_option maxHeartbeats 4000000 in
theorem among_any (w : World) (B b n : Nat) (v : Value) (xs : List Int) (hs : Src w B b n) (hn : n ≤ 1000000) (h1 : 1 ≤ xs.length) (h2 : xs.length ≤ 200) (hv : ∀ w', Touched b (b + 1) w w' → Ints w' v xs) :
    Calls Tryz.prog 68 #[.pointer (some ⟨b, 0, none⟩), v] w fun e w' => ∃ i : Nat, i < xs.length ∧ e = .returned (.int .i64 (xs.getD i 0)) ∧ Src w' B b (n + 1) ∧ Touched b (b + 1) w w' ∧ w'.heap.size = w.heap.size := by
  obtain ⟨a, cap, rfl⟩ := (hv w (Touched.refl _ _ _)).shape
  have hv' := Lib.hid hv
  clear hv
  have hd := draw_any w B b n xs.length hs hn (by omega) (by omega)
  go_enter Tryz.func68, Tryz.ntmps68
  go_wp2_with fail
  refine hd.mono ?_
  rintro e w1 ⟨r, rfl, r0, r1, s1, t1, z1⟩
  have z1' := Lib.hid z1
  obtain ⟨i, rfl⟩ : ∃ i : Nat, r = i := ⟨r.toNat, by omega⟩
  obtain ⟨bb, off, cc, he, _, hc⟩ := (hv'.out w1 t1).at (by omega)
  have ci := hc i (by omega)
  simp at he
  obtain ⟨rfl, rfl⟩ := he
  have hiI : (i : Int) < (xs.length : Int) := by omega
  obtain ⟨x, hx⟩ : ∃ x, xs.getD i 0 = x := ⟨_, rfl⟩
  rw [hx] at ci
  have hx' := Lib.hid hx
  clear z1 hc hx
  go_wp2
  go_ret
  exact ⟨i, by omega, ret_int hx'.out.symm, s1, t1, z1'.out⟩

/-- a list of bytes that came in -/
def Bytes (w : World) (v : Value) (len : Nat) : Prop :=
  len ≤ maxLen ∧ ∃ a cap, v = .slice a len cap ∧ ∀ i, i < len → ∃ (b off : Nat) (x : Int), a = some ⟨b, off, none⟩ ∧ w.cell? ⟨b, off + i, none⟩ = some (.int .u8 x) ∧ 0 ≤ x ∧ x ≤ 255
theorem Bytes.keep {w w' : World} {v : Value} {len : Nat} (h : Bytes w v len) (hb : Below w.heap.size w w') : Bytes w' v len := by
  obtain ⟨h1, a, cap, h2, h3⟩ := h
  refine ⟨h1, a, cap, h2, fun i hi => ?_⟩
  obtain ⟨b, off, x, e, hx, r⟩ := h3 i hi
  exact ⟨b, off, x, e, (hb.cell (p := ⟨b, off + i, none⟩) (block_lt hx)).trans hx, r⟩

set_option maxHeartbeats 2000000 in
theorem f6big_any (v : Value) (len : Nat) (w : World) (hv : Bytes w v len) :
    Calls Tryz.prog 6 #[v] w fun e w' => e = .returned (.bool (decide ((4096 : Int) < (len : Int)))) ∧ w = w' := by
  obtain ⟨hm, a, cap, rfl, hc⟩ := hv
  unfold maxLen at hm
  go_enter Tryz.func6, Tryz.ntmps6
  go_wp2
  go_ret
  exact ⟨rfl, rfl⟩

set_option maxHeartbeats 2000000 in
theorem l00From_any (v : Value) (len : Nat) (w : World) (hv : Bytes w v len) (hl : len ≤ 4096) :
    Calls Tryz.prog 30 #[v] w fun e w' => e = .returned (.pointer (some ⟨w.heap.size, 0, none⟩)) ∧ Src w' w.heap.size w.heap.size 0 ∧ Below w.heap.size w w' ∧ w'.heap.size = w.heap.size + 1 := by
  obtain ⟨hm, a, cap, rfl, hc⟩ := hv
  go_enter Tryz.func30, Tryz.ntmps30
  go_wp2
  go_ret
  have hb := below1 w (.cells #[.slice a len cap, .int .i64 0, .int .u64 0] 113)
  refine ⟨rfl, ⟨a, len, cap, 0, 0, Blk.new w _ _, Nat.le_refl _, hl, ⟨by simp, fun w' hw' i hi => ?_⟩, Nat.le_refl _⟩, hb, by simp⟩
  obtain ⟨b, off, x, e, hx, r⟩ := hc i hi
  exact ⟨b, off, x, e, ((hb.trans hw').cell (p := ⟨b, off + i, none⟩) (block_lt hx)).trans hx, r⟩

set_option maxHeartbeats 2000000 in
theorem P6Pick_any (v : Value) (len : Nat) (k : Int) (w : World) (hv : Bytes w v len) (hl : len ≤ 4096) (h1 : 1 ≤ k) (h2 : k ≤ 200) :
    Calls Tryz.prog 8 #[v, .int .i64 k] w fun e w' => ∃ r : Int, e = .returned (.int .i64 r) ∧ 0 ≤ r ∧ r < k ∧ Below w.heap.size w w' := by
  obtain ⟨a, cap, rfl⟩ : ∃ a cap, v = .slice a len cap := by obtain ⟨_, a, cap, h, _⟩ := hv; exact ⟨a, cap, h⟩
  go_enter Tryz.func8, Tryz.ntmps8
  go_wp2_with fail
  refine (l00From_any _ len w hv hl).mono ?_
  rintro e w1 ⟨rfl, s1, b1, z1⟩
  have z1' := Lib.hid z1
  clear z1
  go_wp2_with fail
  refine (draw_any w1 _ _ 0 k s1 (by omega) h1 h2).mono ?_
  rintro e w2 ⟨r, rfl, r0, r1, s2, t2, z2⟩
  have z2' := Lib.hid z2
  clear z2
  go_wp2
  go_ret
  exact ⟨r, rfl, r0, r1, b1.trans (t2.below' _ (Nat.le_refl _) b1.size)⟩

end Go.Proofs.YtiddhnnofpbopaaGreatDoor
