/- Sets of nodes in the specification: l08Set, l08Apart, IsIndependent. Conditions: the graph is valid where neighbours are asked. -/
import Derived.Test.YtfbhdlkiffoflaaSts
import Derived.Test.YtfbhdlkiffoflaaFrS
namespace Go.Proofs.Ytfbhdlkiffoflaa
open Go.RowKit Go.Deep
set_option linter.unusedVariables false

def apartAt (ps : List (Int × Int)) (xs : List Int) (i k : Nat) : Bool := !nearB ps (xs.getD i 0) (xs.getD k 0)
def apartRow (ps : List (Int × Int)) (xs : List Int) (i : Nat) : Bool := (List.range i).all (apartAt ps xs i)
def apartB (ps : List (Int × Int)) (xs : List Int) : Bool := (List.range xs.length).all (apartRow ps xs)

theorem setF_iff (xs : List Int) (j : Nat) : setF xs j = 1 ↔ (j : Int) ∈ xs := by
  unfold setF
  split
  · simp [*]
  · simp [*]
theorem near_iff (ps : List (Int × Int)) (a b : Int) : nearB ps a b = true ↔ ∃ p ∈ ps, (p.1 = a ∧ p.2 = b) ∨ (p.1 = b ∧ p.2 = a) := by
  unfold nearB
  rw [List.any_eq_true]
  simp only [nearP, Bool.or_eq_true, Bool.and_eq_true, decide_eq_true_eq]
theorem apart_proper {n : Nat} {ps : List (Int × Int)} (h : prOk n ps) (xs : List Int) : apartB ps xs = proper bothI (setF xs) ps := by
  rw [Bool.eq_iff_iff]
  unfold apartB proper
  simp only [Bool.not_eq_true', List.any_eq_false, List.all_eq_true, List.mem_range]
  have hnt : ∀ p ∈ ps, ∃ a b : Nat, p = ((a : Int), (b : Int)) ∧ a ≠ b := by
    intro p hp
    obtain ⟨i, hi, e⟩ := List.getElem_of_mem hp
    obtain ⟨a, b, h1, h2, h3, h4⟩ := h i hi
    refine ⟨a, b, ?_, h4⟩
    rw [← e, ← h1]; simp [List.getD, hi]
  constructor
  · intro hx p hp
    obtain ⟨a, b, rfl, hab⟩ := hnt p hp
    simp only [Int.toNat_natCast, bothI, Bool.and_eq_true, decide_eq_true_eq, setF_iff]
    rintro ⟨ha, hb⟩
    obtain ⟨i, hi, ei⟩ := List.getElem_of_mem ha
    obtain ⟨k, hk, ek⟩ := List.getElem_of_mem hb
    have gi : xs.getD i 0 = (a : Int) := by simp [List.getD, hi, ei]
    have gk : xs.getD k 0 = (b : Int) := by simp [List.getD, hk, ek]
    have hne : i ≠ k := by rintro rfl; rw [gi] at gk; omega
    have key : ∀ i k : Nat, i < xs.length → k < i → nearB ps (xs.getD i 0) (xs.getD k 0) = false := by
      intro i k hi hk
      have := hx i hi
      unfold apartRow at this
      rw [List.all_eq_true] at this
      have := this k (by simpa using hk)
      simpa [apartAt] using this
    rcases Nat.lt_or_gt_of_ne hne with h1 | h1
    · have := key k i hk h1
      rw [gi, gk] at this
      have h2 := (near_iff ps (b : Int) (a : Int)).2 ⟨_, hp, Or.inr ⟨rfl, rfl⟩⟩
      rw [this] at h2; exact absurd h2 (by decide)
    · have := key i k hi h1
      rw [gi, gk] at this
      have h2 := (near_iff ps (a : Int) (b : Int)).2 ⟨_, hp, Or.inl ⟨rfl, rfl⟩⟩
      rw [this] at h2; exact absurd h2 (by decide)
  · intro hx i hi
    unfold apartRow
    rw [List.all_eq_true]
    intro k hk
    have hk' : k < i := by simpa using hk
    unfold apartAt
    rw [Bool.not_eq_true', ← Bool.not_eq_true]
    intro hn
    obtain ⟨p, hp, hq⟩ := (near_iff _ _ _).1 hn
    obtain ⟨a, b, rfl, hab⟩ := hnt p hp
    have := hx _ hp
    simp only [Int.toNat_natCast, bothI, Bool.and_eq_true, decide_eq_true_eq, setF_iff] at this
    have m1 : xs.getD i 0 ∈ xs := getD_mem hi
    have m2 : xs.getD k 0 ∈ xs := getD_mem (by omega)
    simp only at hq
    rcases hq with ⟨h1, h2⟩ | ⟨h1, h2⟩
    · rw [← h1] at m1; rw [← h2] at m2; exact this ⟨m1, m2⟩
    · rw [← h1] at m2; rw [← h2] at m1; exact this ⟨m2, m1⟩

set_option maxHeartbeats 2000000 in
theorem l08Set_any (bp : Nat) (g : Gr) (v : Value) (xs : List Int) (hi : Int) (w : World) (hg : GrP w bp g) (hv : Ints w v xs) (hh : IntKind.i64.wrap (g.n - 1) = hi) :
    Calls Try.prog 58 #[.pointer (some ⟨bp, 0, none⟩), v] w fun e w' => e = .returned (.bool (rises 0 hi xs)) ∧ ∃ m, w' = w.drewN m := by
  obtain ⟨gv, g0, g1, hr⟩ := hg
  have hR := l00Rises_any v xs 0 hi w hv
  obtain ⟨hm, a, cap, rfl⟩ := hv.len
  go_enter Try.func58, Try.ntmps58
  go_wp2_with fail
  (with_reducible refine hR.mono ?_)
  rintro e w' ⟨rfl, m, rfl⟩
  go_wp2
  go_ret
  exact ⟨rfl, m, rfl⟩

set_option maxRecDepth 100000 in
set_option maxHeartbeats 8000000 in
theorem l08Apart_any (bp : Nat) (g : Gr) (v : Value) (xs : List Int) (w : World) (hg : GrP w bp g) (hv : Ints w v xs) (hok : grOk g = true) :
    Calls Try.prog 59 #[.pointer (some ⟨bp, 0, none⟩), v] w fun e w' => e = .returned (.bool (apartB (edgesOf g.e) xs)) ∧ Below w.heap.size w w' := by
  have hNear := Lib.hid (fun a b W (hW : Below w.heap.size w W) => l08Near_any bp g a b W (hg.keep hW) hok)
  obtain ⟨hm, va, vc, rfl⟩ := hv.len
  unfold maxLen at hm
  have hv' := Lib.hid hv
  clear hg hv
  go_enter Try.func59, Try.ntmps59
  go_wp2
  go_loopw [5] (fun iv wr => ∃ i : Nat, i ≤ xs.length ∧ iv = .int .i64 i ∧ Hid ((List.range i).all (apartRow (edgesOf g.e) xs) = true) ∧ Hid (Below w.heap.size w wr)) (fun iv _ => xs.length - (intOf iv).toNat)
  case atStart => exact ⟨0, Nat.zero_le _, rfl, show _ = _ by simp, Below.refl _ _⟩
  case round =>
    obtain ⟨i, hi, rfl, hall, bel⟩ := hrel
    by_cases hlt : i < xs.length
    · obtain ⟨b, off, cap', hvv, hbl, hc⟩ := hv'.out.at (by omega)
      simp only [Value.slice.injEq] at hvv
      obtain ⟨rfl, -, rfl⟩ := hvv
      have hc' := Lib.hid hc
      have hci0 := hc i hlt
      have hrow := Lib.hid (range_all_succ (apartRow (edgesOf g.e) xs) i)
      have hno := Lib.hid (fun h => range_all_no (p := apartRow (edgesOf g.e) xs) hlt h)
      have hrd := Lib.hid (show apartRow (edgesOf g.e) xs i = (List.range i).all (apartAt (edgesOf g.e) xs i) from rfl)
      clear hc
      go_wp2
      go_loopw [6] (fun kv wq => ∃ k : Nat, k ≤ i ∧ kv = .int .i64 k ∧ Hid ((List.range k).all (apartAt (edgesOf g.e) xs i) = true) ∧ Hid (Below w.heap.size w wq)) (fun kv _ => i - (intOf kv).toNat)
      case atStart => exact ⟨0, Nat.zero_le _, rfl, show _ = _ by simp, bel.out⟩
      case round =>
        obtain ⟨k, hk, rfl, hallk, belk⟩ := hrel
        by_cases hltk : k < i
        · have hci := (belk.out.cell (p := ⟨b, off + i, none⟩) hbl).trans hci0
          have hck := (belk.out.cell (p := ⟨b, off + k, none⟩) hbl).trans (hc'.out k (by omega))
          have kI : (k : Int) < (i : Int) := by omega
          have iI : (i : Int) < (xs.length : Int) := by omega
          have kL : (k : Int) < (xs.length : Int) := by omega
          have hsu := Lib.hid (range_all_succ (apartAt (edgesOf g.e) xs i) k)
          have hnk := Lib.hid (fun h => range_all_no (p := apartAt (edgesOf g.e) xs i) hltk h)
          have hat := Lib.hid (show apartAt (edgesOf g.e) xs i k = !nearB (edgesOf g.e) (xs.getD i 0) (xs.getD k 0) from rfl)
          have hn2 := Lib.hid (show ∀ p : Later _, _ from fun p => hNear.out (xs.getD i 0) (xs.getD k 0) p.wd (below_wt belk.out p.bel))
          generalize xs.getD i 0 = x at hci hat hn2
          generalize xs.getD k 0 = y at hck hat hn2
          have CI := Later.cell hci
          have CK := Later.cell hck
          clear hci0 hci hck
          rcases hnr : nearB (edgesOf g.e) x y with _ | _
          · rw [hnr] at hn2
            have hgo := Lib.hid (show (List.range (k + 1)).all (apartAt (edgesOf g.e) xs i) = true by rw [hsu.out, hallk.out, hat.out, hnr]; rfl)
            clear hnr
            go_wp2
            refine region_later (by kernel_rfl) (by kernel_rfl) ?_
            repeat (go_big_quiet_step (exact later_same (hn2.out _)))
            refine wpQuiet_nil ?_
            intro _ hw'
            obtain ⟨⟨W2, B2⟩, hw''⟩ := hw'
            subst hw''
            go_wp2
            go_roundw
            case rel => exact ⟨k + 1, by omega, by go_num, hgo, below_wt belk.out B2⟩
            case measure => simp [intOf]; omega
          · rw [hnr] at hn2
            have hfin := Lib.hid (show apartB (edgesOf g.e) xs = false from hno.out (by rw [hrd.out]; exact hnk.out (by rw [hat.out, hnr]; rfl)))
            clear hnr
            go_wp2
            refine region_later (by kernel_rfl) (by kernel_rfl) ?_
            repeat (go_big_quiet_step (exact later_same (hn2.out _)))
            refine wpQuiet_nil ?_
            intro _ hw'
            obtain ⟨⟨W2, B2⟩, hw''⟩ := hw'
            subst hw''
            go_wp2
            go_ret
            exact ⟨ret_bool hfin.out.symm, below_wt belk.out B2⟩
        · obtain rfl : k = i := by omega
          have hgo := Lib.hid (show (List.range (k + 1)).all (apartRow (edgesOf g.e) xs) = true by rw [hrow.out, hall.out, hrd.out, hallk.out]; rfl)
          clear hci0
          go_wp2
          go_roundw
          case rel => exact ⟨k + 1, by omega, by go_num, hgo, belk⟩
          case measure => simp [intOf]; omega
    · obtain rfl : i = xs.length := by omega
      go_wp2
      go_ret
      exact ⟨ret_bool hall.out.symm, bel.out⟩

theorem askCode_rs (g : Gr) (hi : Int) (xs : List Int) (h : grOk g = true → hi = g.n - 1) : askCode g 1 (rises 0 hi xs) = rsCode g 1 [xs] := by
  unfold askCode rsCode
  cases hg : grOk g
  · rfl
  · rw [h hg]
    have h1 : inB 1 1 4 = true := by decide
    have h2 : inB 1 1 60 = true := by decide
    simp [h1, h2]

set_option maxHeartbeats 4000000 in
theorem IsIndependent_spec (gv v : Value) (g : Gr) (xs : List Int) (w : World) (hg : GrR w gv g) (hv : Ints w v xs) :
    Calls Try.prog 29 #[gv, v] w fun e w' => e = .returned (.tuple #[.bool (iiOf g xs).1, .int .i64 (iiOf g xs).2]) ∧ Below w.heap.size w w' := by
  obtain ⟨gvv, rfl, hr⟩ := hg
  have hp := GrR.ptr (n := g.n) hr
  have B0 := below1 w (.cells #[.int .i64 g.n, gvv] 27)
  have hv1 := hv.keep B0
  obtain ⟨hi, hhi⟩ : ∃ hi, IntKind.i64.wrap (g.n - 1) = hi := ⟨_, rfl⟩
  obtain ⟨w1, hw1⟩ : ∃ u, w.alloc (.cells #[.int .i64 g.n, gvv] 27) = u := ⟨_, rfl⟩
  rw [hw1] at hp B0 hv1
  have hL := l08Set_any w.heap.size ⟨g.n, g.e⟩ v xs hi w1 hp hv1 hhi
  have hA := fun right W (hW : Below w1.heap.size w1 W) => l08Asked_any w.heap.size ⟨g.n, g.e⟩ 1 right W (hp.keep hW)
  have hP := fun W (hW : Below w1.heap.size w1 W) => l08Apart_any w.heap.size ⟨g.n, g.e⟩ v xs W (hp.keep hW) (hv1.keep hW)
  have hw1' := Lib.hid hw1
  have hcode := askCode_rs g hi xs (fun h => by rw [← hhi]; have := grOk_nodes h; exact wrapI (by omega))
  have hL' := Lib.hid hL
  have hA' := Lib.hid hA
  have hP' := Lib.hid hP
  clear hL hA hP hw1 hv hr hp hv1
  rcases hc0 : decide (rsCode g 1 [xs] = 0) with _ | _
  · have hc : rsCode g 1 [xs] ≠ 0 := by simpa using hc0
    have hr := Lib.hid (show iiOf g xs = (false, rsCode g 1 [xs]) by simp [iiOf, hc])
    generalize rsCode g 1 [xs] = code at hc hcode hr
    have hne : (code != 0) = true := by simpa using hc
    have hcode' := Lib.hid hcode
    clear hcode hc0 hc
    go_enter Try.func29, Try.ntmps29
    go_upto_region 1 with (fail)
    rw [hw1'.out]
    go_wp2_with fail
    (with_reducible refine hL'.out.mono ?_)
    rintro e w2 ⟨rfl, m, rfl⟩
    go_wp2_with fail
    (with_reducible refine (hA'.out _ _ (below_drewN (Below.refl _ _) m)).mono ?_)
    rintro e w3 ⟨rfl, m2, rfl⟩
    simp only
    rw [hcode'.out]
    go_wp2
    go_ret2
    rw [hr.out]
    exact ⟨rfl, below_drewN B0 _⟩
  · have hc : rsCode g 1 [xs] = 0 := by simpa using hc0
    obtain ⟨hok, -, -⟩ := rsCode_zero hc
    have hap := apart_proper (grOk_prOk hok) xs
    have hr := Lib.hid (show iiOf g xs = (apartB (edgesOf g.e) xs, 0) by rw [hap]; simp [iiOf, hc])
    have hPP := Lib.hid (fun W hW => hP'.out W hW hok)
    rw [hc] at hcode
    have hcode' := Lib.hid hcode
    clear hcode hc0 hc hok hap
    go_enter Try.func29, Try.ntmps29
    go_upto_region 1 with (fail)
    rw [hw1'.out]
    go_wp2_with fail
    (with_reducible refine hL'.out.mono ?_)
    rintro e w2 ⟨rfl, m, rfl⟩
    go_wp2_with fail
    (with_reducible refine (hA'.out _ _ (below_drewN (Below.refl _ _) m)).mono ?_)
    rintro e w3 ⟨rfl, m2, rfl⟩
    simp only
    rw [hcode'.out]
    go_wp2_with fail
    (with_reducible refine (hPP.out _ (below_drewN (Below.refl _ _) _)).mono ?_)
    rintro e w4 ⟨rfl, b4⟩
    have B4 := Lib.hid ((below_drewN B0 _).trans (b4.mono (below_drewN B0 _).size))
    clear b4
    go_wp2
    go_ret2
    rw [hr.out]
    exact ⟨rfl, B4.out⟩
end Go.Proofs.Ytfbhdlkiffoflaa
