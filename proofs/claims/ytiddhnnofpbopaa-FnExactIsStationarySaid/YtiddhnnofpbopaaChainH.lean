/- ChainH: several texts in one (Ok, OkS, Step). Conditions: told in each. -/
import Derived.Test.YtiddhnnofpbopaaNumG
/- ValidChain of the project and of the specification: both answer 'chOk'. Conditions: none on the chain beyond what is read. -/
namespace Go.Proofs.Ytiddhnnofpbopaa
open Go.RowKit Go.Deep

/-! ### plain words -/
def inB (n lo hi : Int) : Bool := decide (lo ≤ n) && decide (n ≤ hi)
def okRow (n t : Int) (row : List Int) : Bool := decide ((row.length : Int) = n) && (row.all (fun x => inB x 0 t) && decide (row.sum = t))
def chOk (c : Ch) : Bool := inB c.n 1 6 && (inB c.t 1 60 && (decide ((c.w.length : Int) = c.n) && c.w.all (okRow c.n c.t)))

theorem inB_yes {n lo hi : Int} (h1 : lo ≤ n) (h2 : n ≤ hi) : inB n lo hi = true := by simp [inB, h1, h2]
theorem inB_iff {n lo hi : Int} : inB n lo hi = true ↔ lo ≤ n ∧ n ≤ hi := by simp [inB]

/-! ### isIn, l00In -/
set_option maxHeartbeats 1000000 in
theorem isIn_any (n lo hi : Int) (w : World) : Calls Try.prog 20 #[.int .i64 n, .int .i64 lo, .int .i64 hi] w fun e w' => e = .returned (.bool (inB n lo hi)) ∧ w = w' := by
  by_cases h1 : lo ≤ n
  · have he := Lib.hid (show inB n lo hi = decide (n ≤ hi) by simp [inB, h1])
    go_enter Try.func20, Try.ntmps20
    go_wp2
    go_ret
    exact ⟨ret_bool he.out.symm, rfl⟩
  · have he := Lib.hid (show inB n lo hi = false by simp [inB, h1])
    have h1' : decide (lo ≤ n) = false := by simpa using h1
    go_enter Try.func20, Try.ntmps20
    go_wp2
    go_ret
    exact ⟨ret_bool he.out.symm, rfl⟩
set_option maxHeartbeats 1000000 in
theorem l00In_any (n lo hi : Int) (w : World) : Calls Try.prog 17 #[.int .i64 n, .int .i64 lo, .int .i64 hi] w fun e w' => e = .returned (.bool (inB n lo hi)) ∧ w = w' := by
  by_cases h1 : lo ≤ n
  · have he := Lib.hid (show inB n lo hi = decide (n ≤ hi) by simp [inB, h1])
    go_enter Try.func17, Try.ntmps17
    go_wp2
    go_ret
    exact ⟨ret_bool he.out.symm, rfl⟩
  · have he := Lib.hid (show inB n lo hi = false by simp [inB, h1])
    have h1' : decide (lo ≤ n) = false := by simpa using h1
    go_enter Try.func17, Try.ntmps17
    go_wp2
    go_ret
    exact ⟨ret_bool he.out.symm, rfl⟩

/-! ### the folds -/
set_option maxHeartbeats 1000000 in
theorem min_any (a x : Int) (w : World) : Calls Try.prog 97 #[.int .i64 a, .int .i64 x] w fun e w' => e = .returned (.int .i64 (min a x)) ∧ w = w' := by
  go_enter Try.func97, Try.ntmps97
  go_wp2
  all_goals go_ret
  all_goals exact ⟨ret_int (by omega), rfl⟩
set_option maxHeartbeats 1000000 in
theorem max_any (a x : Int) (w : World) : Calls Try.prog 98 #[.int .i64 a, .int .i64 x] w fun e w' => e = .returned (.int .i64 (max a x)) ∧ w = w' := by
  go_enter Try.func98, Try.ntmps98
  go_wp2
  all_goals go_ret
  all_goals exact ⟨ret_int (by omega), rfl⟩
set_option maxHeartbeats 1000000 in
theorem add_any (a x : Int) (w : World) (h1 : -9223372036854775808 ≤ a + x) (h2 : a + x ≤ 9223372036854775807) : Calls Try.prog 110 #[.int .i64 a, .int .i64 x] w fun e w' => e = .returned (.int .i64 (a + x)) ∧ w = w' := by
  go_enter Try.func110, Try.ntmps110
  go_wp2
  go_ret
  exact ⟨rfl, rfl⟩

theorem foldl_take_succ {f : Int → Int → Int} (row : List Int) (a : Int) (k : Nat) (h : k < row.length) : (row.take (k + 1)).foldl f a = f ((row.take k).foldl f a) (row.getD k 0) := by
  rw [List.take_succ_eq_append_getElem h, List.foldl_append]
  simp [List.getD, h]

set_option maxHeartbeats 2000000 in
theorem fold_any' (F : Nat) (f : Int → Int → Int) (Inv : Nat → Int → Prop) (v : Value) (row : List Int) (first : Int) (w : World) (hv : Ints w v row) (h0 : Inv 0 first) (hcf : ∀ args w, (callFunc F args).run Try.prog w = .ok (.enter F args) w)
    (hF0 : ∀ (k : Nat) a x w, Inv k a → k < row.length → x ∈ row → Calls Try.prog F #[.int .i64 a, .int .i64 x] w fun e w' => e = .returned (.int .i64 (f a x)) ∧ w = w') (hI0 : ∀ (k : Nat) a x, Inv k a → k < row.length → x ∈ row → Inv (k + 1) (f a x)) :
    Calls Try.prog 96 #[v, .int .i64 first, .func (.func F) #[] #[]] w fun e w' => e = .returned (.int .i64 (row.foldl f first)) ∧ w = w' := by
  obtain ⟨hm, a, cap, rfl⟩ := hv.len
  unfold maxLen at hm
  have hF := Lib.hid hF0
  have hI := Lib.hid hI0
  clear hF0 hI0
  go_enter Try.func96, Try.ntmps96
  go_wp2
  go_loop [1, 11] (fun l i => ∃ (k : Nat) (L : Int), k ≤ row.length ∧ i = .int .i64 k ∧ l = .int .i64 L ∧ Hid (L = (row.take k).foldl f first) ∧ Hid (Inv k L)) (fun _ i => row.length - (intOf i).toNat)
  case atStart => exact ⟨0, first, Nat.zero_le _, rfl, rfl, show _ = _ by simp, h0⟩
  case round =>
    obtain ⟨k, L, hk, rfl, rfl, hL, hi⟩ := hrel
    by_cases hlt : k < row.length
    · obtain ⟨b, off, cap', hvv, _, hc⟩ := hv.at (by omega)
      simp only [Value.slice.injEq] at hvv
      obtain ⟨rfl, _, rfl⟩ := hvv
      have hcell := hc k hlt
      clear hc
      have hmem : row.getD k 0 ∈ row := by simp [List.getD, hlt]
      have hstep := Lib.hid (foldl_take_succ (f := f) row first k hlt)
      generalize row.getD k 0 = x at hcell hmem hstep
      have hmem' := Lib.hid hmem
      clear hmem
      go_wp2_with fail
      refine (hF.out k L x _ hi.out hlt hmem'.out).mono ?_
      have hnext := Lib.hid (hI.out k _ _ hi.out hlt hmem'.out)
      have hL' := Lib.hid (show f L x = (row.take (k + 1)).foldl f first by rw [hstep.out, hL.out])
      rintro e w' ⟨rfl, rfl⟩
      generalize f L x = L' at hnext hL'
      go_wp2
      go_round
      case rel => exact ⟨k + 1, L', by omega, by go_num, rfl, hL', hnext⟩
      case measure => simp [intOf]; omega
    · obtain rfl : k = row.length := by omega
      go_wp2
      go_ret
      exact ⟨ret_int (by rw [hL.out, List.take_length]), rfl⟩

theorem foldl_min (row : List Int) (a : Int) (m : Int) : m ≤ row.foldl (fun a b => min a b) a ↔ m ≤ a ∧ ∀ x ∈ row, m ≤ x := by
  induction row generalizing a with
  | nil => simp
  | cons x r ih => simp only [List.foldl_cons, ih, List.mem_cons, forall_eq_or_imp, Int.le_min, and_assoc]
theorem foldl_max (row : List Int) (a : Int) (m : Int) : row.foldl (fun a b => max a b) a ≤ m ↔ a ≤ m ∧ ∀ x ∈ row, x ≤ m := by
  induction row generalizing a with
  | nil => simp
  | cons x r ih => simp only [List.foldl_cons, ih, List.mem_cons, forall_eq_or_imp, Int.max_le, and_assoc]
theorem foldl_add (row : List Int) (a : Int) : row.foldl (fun a b => a + b) a = a + row.sum := by
  induction row generalizing a with
  | nil => simp
  | cons x r ih => simp only [List.foldl_cons, ih, List.sum_cons]; omega

/-- a sum of few small numbers -/
theorem sum_bd (row : List Int) (hi : Int) (h : ∀ x ∈ row, 0 ≤ x ∧ x ≤ hi) : 0 ≤ row.sum ∧ row.sum ≤ hi * row.length := by
  induction row with
  | nil => simp
  | cons x r ih =>
    have h1 := h x (by simp)
    have h2 := ih (fun y hy => h y (by simp [hy]))
    simp only [List.sum_cons, List.length_cons, Int.natCast_add, Int.mul_add]
    omega

theorem cf_min : ∀ args w, (callFunc 97 args).run Try.prog w = .ok (.enter 97 args) w := fun _ _ => by go_simp
theorem cf_max : ∀ args w, (callFunc 98 args).run Try.prog w = .ok (.enter 98 args) w := fun _ _ => by go_simp
theorem cf_add : ∀ args w, (callFunc 110 args).run Try.prog w = .ok (.enter 110 args) w := fun _ _ => by go_simp

set_option maxHeartbeats 1000000 in
/-- numbers from 0 to 'hi' are added without a wrap -/
theorem sumOf_any (v : Value) (row : List Int) (w : World) (hv : Ints w v row) (h : ∀ x ∈ row, 0 ≤ x ∧ x ≤ 3600) (hl : row.length ≤ 36) :
    Calls Try.prog 99 #[v] w fun e w' => e = .returned (.int .i64 row.sum) ∧ w = w' := by
  obtain ⟨_, a, cap, rfl⟩ := hv.len
  have hs := Lib.hid (show row.foldl (fun a b => a + b) 0 = row.sum by rw [foldl_add]; omega)
  -- the invariant: at most 3600 a step; steps are counted by the sum's own bound
  have hc := fold_any' 110 (fun a b => a + b) (fun k a => 0 ≤ a ∧ a ≤ 3600 * k) _ row 0 w hv (by omega) cf_add
    (fun k a x w' ha hk hx => by have := h x hx; exact add_any a x w' (by omega) (by omega)) (fun k a x ha hk hx => by have := h x hx; omega)
  rw [hs.out] at hc
  go_enter Try.func99, Try.ntmps99
  go_wp2_with (go_at_call 96; refine hc.mono ?_; rintro e w' ⟨rfl, rfl⟩)
  go_ret
  exact ⟨rfl, rfl⟩

set_option maxHeartbeats 2000000 in
theorem isRow_any (v : Value) (row : List Int) (n t : Int) (w : World) (hv : Ints w v row) (hn : n ≤ 36) (ht0 : 0 ≤ t) (ht : t ≤ 3600) :
    Calls Try.prog 74 #[v, .int .i64 n, .int .i64 t] w fun e w' => e = .returned (.bool (okRow n t row)) ∧ w = w' := by
  obtain ⟨hm, a, cap, rfl⟩ := hv.len
  unfold maxLen at hm
  by_cases h : (row.length : Int) = n
  · subst h
    have hmin := fold_any' 97 (fun a b => min a b) (fun _ _ => True) _ row 0 w hv trivial cf_min (fun k a x w' _ _ _ => min_any a x w') (fun _ _ _ _ _ _ => trivial)
    have hmax := fold_any' 98 (fun a b => max a b) (fun _ _ => True) _ row 0 w hv trivial cf_max (fun k a x w' _ _ _ => max_any a x w') (fun _ _ _ _ _ _ => trivial)
    have i1 := foldl_min row 0 0
    have i2 := foldl_max row 0 t
    generalize row.foldl (fun a b => min a b) 0 = lo at hmin i1
    generalize row.foldl (fun a b => max a b) 0 = hi at hmax i2
    by_cases h1 : 0 ≤ lo
    · by_cases h2 : hi ≤ t
      · have hall : ∀ x ∈ row, 0 ≤ x ∧ x ≤ t := fun x hx => ⟨(i1.1 h1).2 x hx, (i2.1 h2).2 x hx⟩
        have hsum := sumOf_any _ row w hv (fun x hx => by have := hall x hx; omega) (by omega)
        have hok : okRow row.length t row = decide (row.sum = t) := by
          have : row.all (fun x => inB x 0 t) = true := by simp only [List.all_eq_true, inB_iff]; exact hall
          simp [okRow, this]
        have hok' := Lib.hid hok
        clear hok hall i1 i2
        by_cases h3 : row.sum = t
        · rw [h3] at hsum
          have hres := Lib.hid (hok'.out.trans (decide_eq_true h3))
          clear h3
          go_enter Try.func74, Try.ntmps74
          go_wp2_with fail
          refine hmin.mono ?_
          rintro e w' ⟨rfl, rfl⟩
          go_wp2_with fail
          refine hmax.mono ?_
          rintro e w' ⟨rfl, rfl⟩
          go_wp2_with fail
          refine hsum.mono ?_
          rintro e w' ⟨rfl, rfl⟩
          go_wp2
          go_ret
          exact ⟨ret_bool hres.out.symm, rfl⟩
        · have hres := Lib.hid (hok'.out.trans (decide_eq_false h3))
          have h3' : (row.sum == t) = false := by simpa using h3
          clear h3
          generalize row.sum = sm at hsum h3'
          go_enter Try.func74, Try.ntmps74
          go_wp2_with fail
          refine hmin.mono ?_
          rintro e w' ⟨rfl, rfl⟩
          go_wp2_with fail
          refine hmax.mono ?_
          rintro e w' ⟨rfl, rfl⟩
          go_wp2_with fail
          refine hsum.mono ?_
          rintro e w' ⟨rfl, rfl⟩
          go_wp2
          go_ret
          exact ⟨ret_bool hres.out.symm, rfl⟩
      · have hres := Lib.hid (show okRow row.length t row = false by
          have : row.all (fun x => inB x 0 t) = false := by
            rw [Bool.eq_false_iff]; intro hc
            simp only [List.all_eq_true, inB_iff] at hc
            exact h2 (i2.2 ⟨ht0, fun x hx => (hc x hx).2⟩)
          simp [okRow, this])
        have h2' : decide (hi ≤ t) = false := decide_eq_false h2
        clear h2 i1 i2
        go_enter Try.func74, Try.ntmps74
        go_wp2_with fail
        refine hmin.mono ?_
        rintro e w' ⟨rfl, rfl⟩
        go_wp2_with fail
        refine hmax.mono ?_
        rintro e w' ⟨rfl, rfl⟩
        go_wp2
        go_ret
        exact ⟨ret_bool hres.out.symm, rfl⟩
    · have hres := Lib.hid (show okRow row.length t row = false by
        have : row.all (fun x => inB x 0 t) = false := by
          rw [Bool.eq_false_iff]; intro hc
          simp only [List.all_eq_true, inB_iff] at hc
          exact h1 (i1.2 ⟨Int.le_refl _, fun x hx => (hc x hx).1⟩)
        simp [okRow, this])
      have h1' : decide (0 ≤ lo) = false := decide_eq_false h1
      clear h1 i1 i2
      go_enter Try.func74, Try.ntmps74
      go_wp2_with fail
      refine hmin.mono ?_
      rintro e w' ⟨rfl, rfl⟩
      go_wp2_with fail
      refine hmax.mono ?_
      rintro e w' ⟨rfl, rfl⟩
      go_wp2
      go_ret
      exact ⟨ret_bool hres.out.symm, rfl⟩
  · have hres := Lib.hid (show okRow n t row = false by simp [okRow, h])
    have h' : ((row.length : Int) != n) = true := by simpa using h
    clear h
    go_enter Try.func74, Try.ntmps74
    go_wp2
    go_ret
    exact ⟨ret_bool hres.out.symm, rfl⟩

/-! ### ValidChain of the project -/
theorem all_take_succ {α : Type} (p : α → Bool) (l : List α) (d : α) (k : Nat) (h : k < l.length) : (l.take (k + 1)).all p = ((l.take k).all p && p (l.getD k d)) := by
  rw [List.take_succ_eq_append_getElem h, List.all_append]
  simp [List.getD, h]
theorem all_false_of {α : Type} (p : α → Bool) (l : List α) (d : α) (k : Nat) (h : k < l.length) (hp : p (l.getD k d) = false) : l.all p = false := by
  rw [Bool.eq_false_iff]; intro hc
  rw [List.all_eq_true] at hc
  have := hc (l.getD k d) (by simp [List.getD, h])
  rw [hp] at this; cases this

set_option maxHeartbeats 4000000 in
theorem ValidChain_impl (cv : Value) (c : Ch) (w : World) (hv : ChR w cv c) :
    Calls Try.prog 56 #[cv] w fun e w' => e = .returned (.bool (chOk c)) ∧ Below w.heap.size w w' := by
  obtain ⟨v, rfl, hr⟩ := hv
  obtain ⟨n, t, xss⟩ := c
  simp only at hr ⊢
  obtain ⟨hm, a, cap, rfl⟩ := hr.len
  unfold maxLen at hm
  have hr' := hr.keep (below1 w (.cells #[.int .i64 n, .int .i64 t, .slice a xss.length cap] 36))
  by_cases h1 : inB n 1 6 = true
  · by_cases h2 : inB t 1 60 = true
    · by_cases h3 : (xss.length : Int) = n
      · have hok : chOk ⟨n, t, xss⟩ = xss.all (okRow n t) := by simp [chOk, h1, h2, h3]
        have hok' := Lib.hid hok
        obtain ⟨b1, b2⟩ := inB_iff.1 h1
        obtain ⟨b3, b4⟩ := inB_iff.1 h2
        have c1 := isIn_any n 1 6
        rw [h1] at c1
        have c2 := isIn_any t 1 60
        rw [h2] at c2
        have h3' := Lib.hid h3
        have c1' := Lib.hid c1
        have c2' := Lib.hid c2
        clear hok h1 h2 c1 c2 h3
        have hne : ((xss.length : Int) != n) = false := by simpa using h3'.out
        go_enter Try.func56, Try.ntmps56
        go_wp2_with fail
        refine (c1'.out _).mono ?_
        rintro e w' ⟨rfl, rfl⟩
        go_wp2_with fail
        refine (c2'.out _).mono ?_
        rintro e w' ⟨rfl, rfl⟩
        go_wp2
        go_loop [26] (fun i => ∃ k : Nat, k ≤ xss.length ∧ i = .int .i64 k ∧ Hid ((xss.take k).all (okRow n t) = true)) (fun i => xss.length - (intOf i).toNat)
        case atStart => exact ⟨0, Nat.zero_le _, rfl, show _ = _ by simp⟩
        case round =>
          obtain ⟨k, hk, rfl, ht⟩ := hrel
          by_cases hlt : k < xss.length
          · obtain ⟨b, off, cap', rv, hvv, _, hc⟩ := hr'.at (by omega)
            simp only [Value.slice.injEq] at hvv
            obtain ⟨rfl, _, rfl⟩ := hvv
            obtain ⟨hcell, hrow⟩ := hc k hlt
            clear hc
            have hts := Lib.hid (all_take_succ (okRow n t) xss [] k hlt)
            have hfs := Lib.hid (all_false_of (okRow n t) xss [] k hlt)
            generalize rv k = rk at hcell hrow
            generalize xss.getD k [] = row at hrow hts hfs
            have hcall := isRow_any rk row n t _ hrow (by omega) (by omega) (by omega)
            by_cases hq : okRow n t row = true
            · rw [hq] at hcall
              have hn := Lib.hid (show (xss.take (k + 1)).all (okRow n t) = true by rw [hts.out, ht.out, hq]; rfl)
              clear hq
              go_wp2_with fail
              refine hcall.mono ?_
              rintro e w' ⟨rfl, rfl⟩
              go_wp2
              go_round
              case rel => exact ⟨k + 1, by omega, by go_num, hn⟩
              case measure => simp [intOf]; omega
            · have hq' : okRow n t row = false := by simpa using hq
              rw [hq'] at hcall
              have hfin := Lib.hid (hok'.out.trans (hfs.out hq'))
              clear hq hq'
              go_wp2_with fail
              refine hcall.mono ?_
              rintro e w' ⟨rfl, rfl⟩
              go_wp2
              go_ret
              exact ⟨ret_bool hfin.out.symm, below1 _ _⟩
          · obtain rfl : k = xss.length := by omega
            have hfin := Lib.hid (show chOk ⟨n, t, xss⟩ = true by rw [hok'.out]; have := ht.out; rw [List.take_length] at this; exact this)
            go_wp2
            go_ret
            exact ⟨ret_bool hfin.out.symm, below1 _ _⟩
      · have hres := Lib.hid (show chOk ⟨n, t, xss⟩ = false by simp [chOk, h3])
        have c1 := isIn_any n 1 6
        rw [h1] at c1
        have c2 := isIn_any t 1 60
        rw [h2] at c2
        have hne : ((xss.length : Int) != n) = true := by simpa using h3
        have c1' := Lib.hid c1
        have c2' := Lib.hid c2
        clear h1 h2 c1 c2 h3
        go_enter Try.func56, Try.ntmps56
        go_wp2_with fail
        refine (c1'.out _).mono ?_
        rintro e w' ⟨rfl, rfl⟩
        go_wp2_with fail
        refine (c2'.out _).mono ?_
        rintro e w' ⟨rfl, rfl⟩
        go_wp2
        go_ret
        exact ⟨ret_bool hres.out.symm, below1 _ _⟩
    · have h2' : inB t 1 60 = false := by simpa using h2
      have hres := Lib.hid (show chOk ⟨n, t, xss⟩ = false by simp [chOk, h2'])
      have c1 := isIn_any n 1 6
      rw [h1] at c1
      have c2 := isIn_any t 1 60
      rw [h2'] at c2
      have c1' := Lib.hid c1
      have c2' := Lib.hid c2
      clear h1 h2 h2' c1 c2
      go_enter Try.func56, Try.ntmps56
      go_wp2_with fail
      refine (c1'.out _).mono ?_
      rintro e w' ⟨rfl, rfl⟩
      go_wp2_with fail
      refine (c2'.out _).mono ?_
      rintro e w' ⟨rfl, rfl⟩
      go_wp2
      go_ret
      exact ⟨ret_bool hres.out.symm, below1 _ _⟩
  · have h1' : inB n 1 6 = false := by simpa using h1
    have hres := Lib.hid (show chOk ⟨n, t, xss⟩ = false by simp [chOk, h1'])
    have c1 := isIn_any n 1 6
    rw [h1'] at c1
    have c1' := Lib.hid c1
    clear h1 h1' c1
    go_enter Try.func56, Try.ntmps56
    go_wp2_with fail
    refine (c1'.out _).mono ?_
    rintro e w' ⟨rfl, rfl⟩
    go_wp2
    go_ret
    exact ⟨ret_bool hres.out.symm, below1 _ _⟩
end Go.Proofs.Ytiddhnnofpbopaa

/- ValidChain of the specification answers 'chOk'. Conditions: none on the chain beyond what is read. -/
namespace Go.Proofs.Ytiddhnnofpbopaa
open Go.RowKit Go.Deep

/-- a chain behind the pointer to block b -/
def ChP (w : World) (b : Nat) (c : Ch) : Prop :=
  ∃ v, w.cell? ⟨b, 0, none⟩ = some (.int .i64 c.n) ∧ w.cell? ⟨b, 1, none⟩ = some (.int .i64 c.t) ∧ w.cell? ⟨b, 2, none⟩ = some v ∧ Rows2 w v c.w
theorem ChP.keep {w w' : World} {b : Nat} {c : Ch} (h : ChP w b c) (hb : Below w.heap.size w w') : ChP w' b c := by
  obtain ⟨v, h0, h1, h2, hr⟩ := h
  exact ⟨v, (hb.cell (block_lt h0)).trans h0, (hb.cell (block_lt h1)).trans h1, (hb.cell (block_lt h2)).trans h2, hr.keep hb⟩

theorem l00In_q (n lo hi : Int) (w : World) (m : Nat) : Calls Try.prog 17 #[.int .i64 n, .int .i64 lo, .int .i64 hi] (w.drewN m) fun e w'' => e = .returned (.bool (inB n lo hi)) ∧ ∃ m', w'' = w.drewN m' :=
  (l00In_any n lo hi _).mono fun _ _ ⟨he, hw⟩ => ⟨he, m, hw.symm⟩

theorem drawn_more {w w' : World} (h : ∃ m, w' = w.drewN m) (n : Nat) : ∃ m, w'.drewN n = w.drewN m := by
  obtain ⟨m, rfl⟩ := h
  exact ⟨_, World.drewN_drewN ..⟩
theorem drawn_trans {w w' w'' : World} (h : ∃ m, w' = w.drewN m) (h' : ∃ m, w'' = w'.drewN m) : ∃ m, w'' = w.drewN m := by
  obtain ⟨m, rfl⟩ := h'
  exact drawn_more h m
theorem sum_take_succ (row : List Int) (k : Nat) (h : k < row.length) : (row.take (k + 1)).sum = (row.take k).sum + row.getD k 0 := by
  rw [List.take_succ_eq_append_getElem h, List.sum_append]
  simp [List.getD, h]

set_option maxRecDepth 100000 in
set_option maxHeartbeats 4000000 in
theorem l01Ok_any (b : Nat) (c : Ch) (w : World) (hv : ChP w b c) :
    Calls Try.prog 47 #[.pointer (some ⟨b, 0, none⟩)] w fun e w' => e = .returned (.bool (chOk c)) ∧ ∃ m, w' = w.drewN m := by
  obtain ⟨v, k0, k1, k2, hr⟩ := hv
  obtain ⟨n, t, xss⟩ := c
  simp only at k0 k1 k2 hr ⊢
  obtain ⟨hm, a, cap, rfl⟩ := hr.len
  unfold maxLen at hm
  by_cases h1 : inB n 1 6 = true
  · by_cases h2 : inB t 1 60 = true
    · by_cases h3 : (xss.length : Int) = n
      · have hok := Lib.hid (show chOk ⟨n, t, xss⟩ = xss.all (okRow n t) by simp [chOk, h1, h2, h3])
        obtain ⟨b1, b2⟩ := inB_iff.1 h1
        obtain ⟨b3, b4⟩ := inB_iff.1 h2
        have hne : ((xss.length : Int) != n) = false := by simpa using h3
        have h3' := Lib.hid h3
        clear h3
        go_enter Try.func47, Try.ntmps47
        go_wp2
        go_quiet ((go_at_call 17; exact l00In_q _ _ _ _ _))
        go_wp2
        go_loopw [3] (fun i wr => ∃ k : Nat, k ≤ xss.length ∧ i = .int .i64 k ∧ Hid (∃ m, wr = w.drewN m) ∧ Hid ((xss.take k).all (okRow n t) = true)) (fun i _ => xss.length - (intOf i).toNat)
        case atStart => exact ⟨0, Nat.zero_le _, rfl, ⟨_, rfl⟩, show _ = _ by simp⟩
        case round =>
          obtain ⟨wo, rfl⟩ : ∃ wo : World, wo = wr := ⟨_, rfl⟩
          obtain ⟨k, hk, rfl, hw, ht⟩ := hrel
          have k0' : wo.cell? ⟨b, 0, none⟩ = some (.int .i64 n) := by obtain ⟨m, rfl⟩ := hw.out; exact k0
          have k1' : wo.cell? ⟨b, 1, none⟩ = some (.int .i64 t) := by obtain ⟨m, rfl⟩ := hw.out; exact k1
          have k2' : wo.cell? ⟨b, 2, none⟩ = some (.slice a xss.length cap) := by obtain ⟨m, rfl⟩ := hw.out; exact k2
          clear k0 k1 k2
          by_cases hlt : k < xss.length
          · obtain ⟨bb, off, cap', rv, hvv, _, hc⟩ := hr.at (by omega)
            simp only [Value.slice.injEq] at hvv
            obtain ⟨rfl, _, rfl⟩ := hvv
            obtain ⟨hcell0, hrow0⟩ := hc k hlt
            clear hc
            have hcell : wo.cell? ⟨bb, off + k, none⟩ = some (rv k) := by obtain ⟨m, rfl⟩ := hw.out; exact hcell0
            have hrow : Ints wo (rv k) (xss.getD k []) := by obtain ⟨m, rfl⟩ := hw.out; exact hrow0.keep (below_drewN (Below.refl _ _) m)
            clear hcell0 hrow0
            have hts := Lib.hid (all_take_succ (okRow n t) xss [] k hlt)
            have hfs := Lib.hid (all_false_of (okRow n t) xss [] k hlt)
            generalize rv k = rk at hcell hrow
            generalize xss.getD k [] = row at hrow hts hfs
            obtain ⟨hrm, ra, rcap, rfl⟩ := hrow.len
            unfold maxLen at hrm
            by_cases hq : (row.length : Int) = n
            · have hq' : ((row.length : Int) != n) = false := by simpa using hq
              have hokr := Lib.hid (show okRow n t row = (row.all (fun x => inB x 0 t) && decide (row.sum = t)) by simp [okRow, hq])
              have hrl : row.length ≤ 6 := by omega
              clear hq
              go_wp2
              go_quiet (fail)
              go_wp2
              go_loopw [4, 5] (fun s j wr => ∃ (k2 : Nat) (S : Int), k2 ≤ row.length ∧ j = .int .i64 k2 ∧ s = .int .i64 S ∧ 0 ≤ S ∧ S ≤ 60 * (k2 : Int) ∧ Hid (S = (row.take k2).sum) ∧ Hid (∃ m, wr = wo.drewN m) ∧ Hid ((row.take k2).all (fun x => inB x 0 t) = true)) (fun _ j _ => row.length - (intOf j).toNat)
              case atStart => exact ⟨0, 0, Nat.zero_le _, rfl, rfl, by omega, by omega, show _ = _ by simp, ⟨_, rfl⟩, show _ = _ by simp⟩
              case round =>
                obtain ⟨k2, S, hk2, rfl, rfl, hS0, hS1, hS, hwi, hal⟩ := hrel
                have q0 : wr.cell? ⟨b, 0, none⟩ = some (.int .i64 n) := by obtain ⟨m, rfl⟩ := hwi.out; exact k0'
                have q1 : wr.cell? ⟨b, 1, none⟩ = some (.int .i64 t) := by obtain ⟨m, rfl⟩ := hwi.out; exact k1'
                have q2 : wr.cell? ⟨b, 2, none⟩ = some (.slice (some ⟨bb, off, none⟩) xss.length cap) := by obtain ⟨m, rfl⟩ := hwi.out; exact k2'
                have q3 : wr.cell? ⟨bb, off + k, none⟩ = some (.slice ra row.length rcap) := by obtain ⟨m, rfl⟩ := hwi.out; exact hcell
                clear k0' k1' k2' hcell
                by_cases hlt2 : k2 < row.length
                · obtain ⟨rb, ro, rc, hvr, _, hcr⟩ := hrow.at (by omega)
                  simp only [Value.slice.injEq] at hvr
                  obtain ⟨rfl, _, rfl⟩ := hvr
                  have hx : wr.cell? ⟨rb, ro + k2, none⟩ = some (.int .i64 (row.getD k2 0)) := by obtain ⟨m, rfl⟩ := hwi.out; exact hcr k2 hlt2
                  clear hcr
                  have hs1 := Lib.hid (sum_take_succ row k2 hlt2)
                  have hts2 := Lib.hid (all_take_succ (fun x => inB x 0 t) row 0 k2 hlt2)
                  have hfs2 := Lib.hid (all_false_of (fun x => inB x 0 t) row 0 k2 hlt2)
                  generalize row.getD k2 0 = x at hx hs1 hts2 hfs2
                  by_cases hin : inB x 0 t = true
                  · have hn2 := Lib.hid (show (row.take (k2 + 1)).all (fun x => inB x 0 t) = true by rw [hts2.out, hal.out, hin]; rfl)
                    obtain ⟨x0, x1⟩ := inB_iff.1 hin
                    have hsn := Lib.hid (show S + x = (row.take (k2 + 1)).sum by rw [hs1.out, hS.out])
                    go_wp2
                    go_quiet ((go_at_call 17; exact l00In_q _ _ _ _ _))
                    go_wp2
                    go_roundw
                    case rel => exact ⟨k2 + 1, S + x, by omega, by go_num, rfl, by omega, by omega, hsn, by obtain ⟨m, rfl⟩ := hwi.out; exact ⟨_, World.drewN_drewN ..⟩, hn2⟩
                    case measure => simp [intOf]; omega
                  · have hin' : inB x 0 t = false := by simpa using hin
                    have hfin := Lib.hid (hok.out.trans (hfs.out (by rw [hokr.out, hfs2.out hin']; rfl)))
                    clear hin
                    go_wp2
                    go_quiet ((go_at_call 17; exact l00In_q _ _ _ _ _))
                    go_wp2
                    go_ret
                    exact ⟨ret_bool hfin.out.symm, drawn_more (drawn_trans hw.out hwi.out) _⟩
                · obtain rfl : k2 = row.length := by omega
                  have hall : row.all (fun x => inB x 0 t) = true := by have := hal.out; rw [List.take_length] at this; exact this
                  have hokr2 := Lib.hid (show okRow n t row = decide (S = t) by rw [hokr.out, hall, hS.out, List.take_length]; rfl)
                  clear hall
                  by_cases hq2 : S = t
                  · have hn := Lib.hid (show (xss.take (k + 1)).all (okRow n t) = true by rw [hts.out, ht.out, hokr2.out]; simp [hq2])
                    have hq3 : (S != t) = false := by simpa using hq2
                    clear hq2
                    go_wp2
                    go_roundw
                    case rel => exact ⟨k + 1, by omega, by go_num, by obtain ⟨m, rfl⟩ := hwi.out; obtain ⟨m', rfl⟩ := hw.out; exact ⟨_, World.drewN_drewN ..⟩, hn⟩
                    case measure => simp [intOf]; omega
                  · have hfin := Lib.hid (hok.out.trans (hfs.out (by rw [hokr2.out]; simp [hq2])))
                    have hq3 : (S != t) = true := by simpa using hq2
                    clear hq2
                    go_wp2
                    go_ret
                    exact ⟨ret_bool hfin.out.symm, by obtain ⟨m, rfl⟩ := hwi.out; obtain ⟨m', rfl⟩ := hw.out; exact ⟨_, World.drewN_drewN ..⟩⟩
            · have hq' : ((row.length : Int) != n) = true := by simpa using hq
              have hfin := Lib.hid (hok.out.trans (hfs.out (by simp [okRow, hq])))
              clear hq
              go_wp2
              go_quiet (fail)
              go_wp2
              go_ret
              exact ⟨ret_bool hfin.out.symm, by obtain ⟨m, rfl⟩ := hw.out; exact ⟨_, World.drewN_drewN ..⟩⟩
          · obtain rfl : k = xss.length := by omega
            have hfin := Lib.hid (show chOk ⟨n, t, xss⟩ = true by rw [hok.out]; have := ht.out; rw [List.take_length] at this; exact this)
            go_wp2
            go_ret
            exact ⟨ret_bool hfin.out.symm, hw.out⟩
      · have hres := Lib.hid (show chOk ⟨n, t, xss⟩ = false by simp [chOk, h3])
        have hne : ((xss.length : Int) != n) = true := by simpa using h3
        clear h3
        go_enter Try.func47, Try.ntmps47
        go_wp2
        go_quiet ((go_at_call 17; exact l00In_q _ _ _ _ _))
        go_wp2
        go_ret
        exact ⟨ret_bool hres.out.symm, _, rfl⟩
    · have h2' : inB t 1 60 = false := by simpa using h2
      have hres := Lib.hid (show chOk ⟨n, t, xss⟩ = false by simp [chOk, h2'])
      clear h2
      go_enter Try.func47, Try.ntmps47
      go_wp2
      go_quiet ((go_at_call 17; exact l00In_q _ _ _ _ _))
      go_wp2
      go_ret
      exact ⟨ret_bool hres.out.symm, _, rfl⟩
  · have h1' : inB n 1 6 = false := by simpa using h1
    have hres := Lib.hid (show chOk ⟨n, t, xss⟩ = false by simp [chOk, h1'])
    clear h1
    go_enter Try.func47, Try.ntmps47
    go_wp2
    go_quiet ((go_at_call 17; exact l00In_q _ _ _ _ _))
    go_wp2
    go_ret
    exact ⟨ret_bool hres.out.symm, _, rfl⟩

end Go.Proofs.Ytiddhnnofpbopaa

/- A step by a draw, of the project and of the specification: both answer 'pk'. Conditions: the chain is valid, state and draw are in range (told by the code). -/
namespace Go.Proofs.Ytiddhnnofpbopaa
open Go.RowKit Go.Deep

/-- k is the place: the sums before it are at most d, that up to it is greater -/
def IsPick (row : List Int) (d : Int) (k : Nat) : Prop := k < row.length ∧ (∀ j, j < k → (row.take (j + 1)).sum ≤ d) ∧ d < (row.take (k + 1)).sum
def pk (row : List Int) (d : Int) : Nat := ((List.range row.length).find? (fun k => decide (d < (row.take (k + 1)).sum))).getD 0
theorem pk_of {row : List Int} {d : Int} {k : Nat} (h : IsPick row d k) : pk row d = k := by
  obtain ⟨h1, h2, h3⟩ := h
  have : (List.range row.length).find? (fun k => decide (d < (row.take (k + 1)).sum)) = some k := by
    rw [List.find?_range_eq_some]
    refine ⟨by simpa using h3, by simpa using h1, fun j hj => ?_⟩
    have := h2 j hj
    simp; omega
  rw [pk, this]; rfl

theorem okRow_all {n t : Int} {row : List Int} (h : okRow n t row = true) : (row.length : Int) = n ∧ (∀ x ∈ row, 0 ≤ x ∧ x ≤ t) ∧ row.sum = t := by
  simp only [okRow, Bool.and_eq_true, decide_eq_true_eq, List.all_eq_true, inB_iff] at h
  exact ⟨h.1, h.2.1, h.2.2⟩
theorem chOk_all {c : Ch} (h : chOk c = true) : 1 ≤ c.n ∧ c.n ≤ 6 ∧ 1 ≤ c.t ∧ c.t ≤ 60 ∧ (c.w.length : Int) = c.n ∧ ∀ r ∈ c.w, okRow c.n c.t r = true := by
  simp only [chOk, Bool.and_eq_true, decide_eq_true_eq, List.all_eq_true, inB_iff] at h
  exact ⟨h.1.1, h.1.2, h.2.1.1, h.2.1.2, h.2.2.1, h.2.2.2⟩
theorem getD_mem {α : Type} {l : List α} {k : Nat} {d : α} (h : k < l.length) : l.getD k d ∈ l := by simp [List.getD, h]
theorem take_bd {row : List Int} {hi : Int} (h : ∀ x ∈ row, 0 ≤ x ∧ x ≤ hi) (k : Nat) : 0 ≤ (row.take k).sum ∧ (row.take k).sum ≤ hi * (row.take k).length :=
  sum_bd _ _ fun x hx => h x (List.mem_of_mem_take hx)

/-- the answer of StepByDraw: the state and the code -/
def stepOf (c : Ch) (s d : Int) : Int × Int :=
  if chOk c = true then (if inB s 0 (c.n - 1) = true ∧ inB d 0 (c.t - 1) = true then ((pk (c.w.getD s.toNat []) d : Nat), 0) else (0, 2)) else (0, 1)

/-! ### the specification's -/
end Go.Proofs.Ytiddhnnofpbopaa
