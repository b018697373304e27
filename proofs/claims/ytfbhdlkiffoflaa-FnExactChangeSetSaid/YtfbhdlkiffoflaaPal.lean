/- Palettes: whether a painting is proper. Conditions: what the clash of two colours answers is told. -/
import Derived.Test.YtfbhdlkiffoflaaPnt
import Derived.Test.YtfbhdlkiffoflaaNw3
import Derived.Test.YtfbhdlkiffoflaaLt
import Derived.Laws.EntriesVeiled
namespace Go.Proofs.Ytfbhdlkiffoflaa
open Go.RowKit Go.Deep
set_option linter.unusedVariables false

theorem anyP_take_succ {p : Int × Int → Bool} (xs : List (Int × Int)) (k : Nat) (h : k < xs.length) (h0 : (xs.take k).any p = false) (h1 : p (xs.getD k (0, 0)) = false) : (xs.take (k + 1)).any p = false := by
  rw [List.take_succ_eq_append_getElem h, List.any_append, h0]
  simp only [List.getD, List.getElem?_eq_getElem h, Option.getD_some] at h1
  simp [h1]
theorem anyP_yes {p : Int × Int → Bool} (xs : List (Int × Int)) (k : Nat) (h : k < xs.length) (h1 : p (xs.getD k (0, 0)) = true) : xs.any p = true := by
  rw [List.any_eq_true]
  exact ⟨_, getD_mem h, h1⟩

set_option maxHeartbeats 2000000 in
theorem indexFP_any (F : Nat) (caps : Array Value) (p : Int × Int → Bool) (v : Value) (xs : List (Int × Int)) (w : World) (hv : PrL w v xs) (hcf : ∀ args w, (callFunc F args).run Try.prog w = .ok (.enter F args) w)
    (hF0 : ∀ q W, q ∈ xs → Below w.heap.size w W → Calls Try.prog F (#[.agg #[.int .i64 q.1, .int .i64 q.2]] ++ caps) W fun e w' => e = .returned (.bool (p q)) ∧ Below W.heap.size W w') :
    Calls Try.prog 96 #[v, .func (.func F) #[] caps] w fun e w' => ∃ r : Int, e = .returned (.int .i64 r) ∧ decide (0 ≤ r) = xs.any p ∧ Below w.heap.size w w' := by
  obtain ⟨hm, a, cap, rfl⟩ := hv.len
  unfold maxLen at hm
  have hF := Lib.hid hF0
  clear hF0
  go_enter Try.func96, Try.ntmps96
  go_wp2
  go_loopw [8] (fun i wr => ∃ k : Nat, k ≤ xs.length ∧ i = .int .i64 k ∧ Hid ((xs.take k).any p = false) ∧ Hid (Below w.heap.size w wr)) (fun i _ => xs.length - (intOf i).toNat)
  case atStart => exact ⟨0, Nat.zero_le _, rfl, show _ = _ by simp, Below.refl _ _⟩
  case round =>
    obtain ⟨k, hk, rfl, hn, bel⟩ := hrel
    by_cases hlt : k < xs.length
    · obtain ⟨b, off, cap', hvv, hbl, hc⟩ := (hv.keep bel.out).at (by omega)
      simp only [Value.slice.injEq] at hvv
      obtain ⟨rfl, _, rfl⟩ := hvv
      obtain ⟨c0, c1⟩ := hc k hlt
      clear hc
      have ha := Lib.hid (anyP_take_succ (p := p) xs k hlt hn.out)
      have hy := Lib.hid (anyP_yes (p := p) xs k hlt)
      have hcall := hF.out (xs.getD k (0, 0)) wr (getD_mem hlt) bel.out
      generalize xs.getD k (0, 0) = q at c0 c1 ha hy hcall
      obtain ⟨qx, qy⟩ := q
      simp only at c0 c1 hcall
      rcases hp : p (qx, qy) with _ | _
      · rw [hp] at hcall
        have hn2 := Lib.hid (ha.out hp)
        clear hp
        go_wp2_with fail
        refine hcall.mono ?_
        rintro e w' ⟨rfl, b2⟩
        go_wp2
        go_roundw
        case rel => exact ⟨k + 1, by omega, by go_num, hn2, below_wt bel.out b2⟩
        case measure => simp [intOf]; omega
      · rw [hp] at hcall
        have hn2 := Lib.hid (hy.out hp)
        clear hp
        go_wp2_with fail
        refine hcall.mono ?_
        rintro e w' ⟨rfl, b2⟩
        go_wp2
        go_ret
        exact ⟨k, rfl, by rw [hn2.out]; simp, below_wt bel.out b2⟩
    · obtain rfl : k = xs.length := by omega
      have hn2 := Lib.hid (show xs.any p = false by have := hn.out; rw [List.take_length] at this; exact this)
      go_wp2
      go_ret
      exact ⟨-1, rfl, by rw [hn2.out]; rfl, bel.out⟩

set_option maxHeartbeats 2000000 in
theorem contFP_any (F : Nat) (caps : Array Value) (p : Int × Int → Bool) (v : Value) (xs : List (Int × Int)) (w : World) (hv : PrL w v xs) (hcf : ∀ args w, (callFunc F args).run Try.prog w = .ok (.enter F args) w)
    (hF0 : ∀ q W, q ∈ xs → Below w.heap.size w W → Calls Try.prog F (#[.agg #[.int .i64 q.1, .int .i64 q.2]] ++ caps) W fun e w' => e = .returned (.bool (p q)) ∧ Below W.heap.size W w') :
    Calls Try.prog 78 #[v, .func (.func F) #[] caps] w fun e w' => e = .returned (.bool (xs.any p)) ∧ Below w.heap.size w w' := by
  have hI := indexFP_any F caps p v xs w hv hcf hF0
  obtain ⟨hm, a, cap, rfl⟩ := hv.len
  go_enter Try.func78, Try.ntmps78
  go_wp2_with fail
  refine hI.mono ?_
  rintro e w' ⟨r, rfl, hr, b2⟩
  have hr' := Lib.hid hr
  clear hr
  go_wp2
  go_ret
  exact ⟨ret_bool hr'.out, b2⟩

/-- what a function value answers of two colours -/
def Clash (C : Nat) (cl : Int → Int → Bool) : Prop := (∀ args w, (callFunc C args).run Try.prog w = .ok (.enter C args) w) ∧ ∀ x y w, Calls Try.prog C #[.int .i64 x, .int .i64 y] w fun e w' => e = .returned (.bool (cl x y)) ∧ w = w'
@[reducible] def palA (lv ev wv : Value) (C : Nat) (parts : Int) : Array Value := #[lv, ev, wv, .func (.func C) #[] #[], .int .i64 parts]

theorem cf_ip : ∀ args w, (callFunc 77 args).run Try.prog w = .ok (.enter 77 args) w := fun _ _ => by go_simp
set_option maxHeartbeats 4000000 in
theorem ip_one (C : Nat) (cl : Int → Int → Bool) (hC : Clash C cl) (lv ev wv : Value) (parts : Int) (f : Nat → Int) (i j : Nat) (hi : i < 10) (hj : j < 10) (b1 b2 : Nat) (t1 t2 : TypeId) (w : World)
    (h1 : Blk w b1 (palA lv ev wv C parts) t1) (h2 : Blk w b2 (tenA f) t2) :
    Calls Try.prog 77 #[.agg #[.int .i64 (i : Int), .int .i64 (j : Int)], .pointer (some ⟨b1, 0, none⟩), .pointer (some ⟨b2, 0, none⟩)] w fun e w' => e = .returned (.bool (cl (f i) (f j))) ∧ Below w.heap.size w w' := by
  have B0 := below1 w (.cells #[.int .i64 (i : Int), .int .i64 (j : Int)] 90)
  have HP := Blk.new w #[.int .i64 (i : Int), .int .i64 (j : Int)] 90
  obtain ⟨p0, p1⟩ := HP.two
  have c3 : (w.alloc (.cells #[.int .i64 (i : Int), .int .i64 (j : Int)] 90)).cell? ⟨b1, 3, none⟩ = some (.func (.func C) #[] #[]) := (h1.alloc _).cell 3
  have ci := (h2.alloc (.cells #[.int .i64 (i : Int), .int .i64 (j : Int)] 90)).ten i hi
  have cj := (h2.alloc (.cells #[.int .i64 (i : Int), .int .i64 (j : Int)] 90)).ten j hj
  have hcf := hC.1
  have hcl := Lib.hid hC.2
  have i0 : (0 : Int) ≤ (i : Int) := by omega
  have i1 : (i : Int) < 10 := by omega
  have j0 : (0 : Int) ≤ (j : Int) := by omega
  have j1 : (j : Int) < 10 := by omega
  generalize f i = x at ci
  generalize f j = y at cj
  clear HP h1 h2
  go_enter Try.func77, Try.ntmps77
  go_wp2
  obtain ⟨w1, hw1⟩ : ∃ u, w.alloc (.cells #[.int .i64 (i : Int), .int .i64 (j : Int)] 90) = u := ⟨_, rfl⟩
  rw [hw1] at B0 p0 p1 c3 ci cj ⊢
  clear hw1
  generalize w.heap.size = bx at p0 p1
  have P0 := Later.cell p0
  have P1 := Later.cell p1
  have C3 := Later.cell c3
  have CI := Later.cell ci
  have CJ := Later.cell cj
  refine region_later (by kernel_rfl) (by kernel_rfl) ?_
  repeat (go_big_quiet_step (exact later_same (hcl.out _ _ _)))
  refine wpQuiet_nil ?_
  intro _ hw'
  obtain ⟨⟨W2, B2⟩, hw''⟩ := hw'
  subst hw''
  go_wp2
  go_ret
  exact ⟨rfl, below_wt B0 B2⟩

/-- no neighbours' colours clash -/
def proper (cl : Int → Int → Bool) (f : Nat → Int) (ps : List (Int × Int)) : Bool := !ps.any fun q => cl (f q.1.toNat) (f q.2.toNat)
set_option maxHeartbeats 4000000 in
theorem isProper_any (C : Nat) (cl : Int → Int → Bool) (hC : Clash C cl) (lv ev wv : Value) (parts : Int) (f : Nat → Int) (n : Nat) (ps : List (Int × Int)) (w : World) (hv : PrL w ev ps) (hp : prOk n ps) (hn : n ≤ 10) :
    Calls Try.prog 50 #[.agg (palA lv ev wv C parts), .agg (tenA f)] w fun e w' => e = .returned (.bool (proper cl f ps)) ∧ Below w.heap.size w w' := by
  have B0 := below2 w (.cells (palA lv ev wv C parts) 68) (.cells (tenA f) 74)
  have H1 := (Blk.new w (palA lv ev wv C parts) 68).alloc (.cells (tenA f) 74)
  have H2 := Blk.new (w.alloc (.cells (palA lv ev wv C parts) 68)) (tenA f) 74
  simp only [World.size_alloc] at H2
  have hcont := contFP_any 77 #[.pointer (some ⟨w.heap.size, 0, none⟩), .pointer (some ⟨w.heap.size + 1, 0, none⟩)] (fun q => cl (f q.1.toNat) (f q.2.toNat)) ev ps _ (hv.keep B0) cf_ip
    (fun q W hq hW => by
      obtain ⟨k, hk, e⟩ := List.getElem_of_mem hq
      obtain ⟨a, b, h1, h2, h3, -⟩ := hp k hk
      have e2 : q = ((a : Int), (b : Int)) := by rw [← e, ← h1]; simp [List.getD, hk]
      subst e2
      have := ip_one C cl hC lv ev wv parts f a b (by omega) (by omega) w.heap.size (w.heap.size + 1) _ _ W (H1.step hW) (H2.step hW)
      simpa using this)
  obtain ⟨hm, ea, ec, rfl⟩ := hv.len
  have c1 := H1.cell 1
  have hdef := Lib.hid (show proper cl f ps = !ps.any (fun q => cl (f q.1.toNat) (f q.2.toNat)) from rfl)
  generalize ps.any (fun q => cl (f q.1.toNat) (f q.2.toNat)) = r at hcont hdef
  clear H1 H2
  go_enter Try.func50, Try.ntmps50
  go_wp2_with fail
  (with_reducible refine hcont.mono ?_)
  rintro e w2 ⟨rfl, b2⟩
  go_wp2
  go_ret
  exact ⟨ret_bool hdef.out.symm, below_wt B0 b2⟩
end Go.Proofs.Ytfbhdlkiffoflaa
