/- ValidDeed of both sides. Conditions: none. -/
import Derived.Test.YtgaadcinhaphpaaDoorOkS
import Derived.Test.YtgaadcinhaphpaaDoorHas
import Derived.Test.YtgaadcinhaphpaaDoorOpen
namespace Go.Proofs.YtgaadcinhaphpaaDoor
open Go.ChangeShapes Go.WideShapes Go.ChangeAt Go.RowKit Go.Deep Go.Joins
set_option linter.unusedVariables false
set_option linter.unusedSimpArgs false

def mnB (k : Int) : Bool := !hasB [6, 7, 8, 9] k
def ddOk (k a : Int) : Bool := inB k 1 10 && (inB a 0 999 && (a == 0 || mnB k))
/-- which words mention a number -/
def toldW : List Bool := [false, true, true, true, true, true, false, false, false, false, true]
theorem told_mn : ∀ k : Fin 11, 1 ≤ k.val → toldW.getD k.val false = mnB k.val := by decide

/-- a deed -/
def DdR (w : World) (v : Value) (d : Int × Int) : Prop := v = .agg #[.int .i64 d.1, .int .i64 d.2] ∧ (Lit.int .i64 d.1).wf = true ∧ (Lit.int .i64 d.2).wf = true
set_option maxRecDepth 100000 in
theorem open_deed {H : Type} {enc : TypeId × Value → H} {W : World} {base b0 : Nat} {held : Bool} {v : Value} {d : DataW H} {p : List MemPlace}
    (hv : Value.okWide Tryd.prog W .any base 49 v) (h : DataW.Trod enc Tryd.prog W b0 (fun _ => true) held 49 v d p) : ∃ c, DdR W v c := by
  obtain ⟨c0, c1, y0, y1, m, rfl, _, _, h0, h1⟩ := open_agg2 Tryd.underlying49 (by kernel_rfl) (by kernel_rfl) hv h
  obtain ⟨a, e0, _, wa⟩ := DataW.trod_int Tryd.underlying2 h0
  obtain ⟨b, e1, _, wb⟩ := DataW.trod_int Tryd.underlying2 h1
  simp at e0 e1
  subst e0 e1
  exact ⟨(a, b), rfl, wa, wb⟩

set_option maxHeartbeats 2000000 in
theorem toDeed_any (k a : Int) (w : World) : Calls Tryd.prog 23 #[.agg #[.int .i64 k, .int .i64 a]] w fun e w' => e = .returned (.agg #[.int .i64 k, .int .i64 a]) ∧ Below w.heap.size w w' := by
  go_enter Tryd.func23, Tryd.ntmps23
  go_wp2
  refine bodyPost_ret (v := .agg #[.int .i64 k, .int .i64 a]) (by simp [results, Tryd.results23, go_sem]) rfl ?_
  exact ⟨rfl, below3 _ _ _ _⟩

set_option maxHeartbeats 2000000 in
theorem ment_any (k a : Int) (w : World) :
    Calls Tryd.prog 50 #[.agg #[.int .i64 k, .int .i64 a]] w fun e w' => e = .returned (.bool (mnB k)) ∧ Below w.heap.size w w' := by
  have B2 := below2 w (.cells #[.int .i64 k, .int .i64 a] 51) (.cells #[.int .i64 6, .int .i64 7, .int .i64 8, .int .i64 9] 2)
  have hL := Blk.new (w.alloc (.cells #[.int .i64 k, .int .i64 a] 51)) #[.int .i64 6, .int .i64 7, .int .i64 8, .int .i64 9] 2
  simp only [World.size_alloc] at hL
  have hI : Ints ((w.alloc (.cells #[.int .i64 k, .int .i64 a] 51)).alloc (.cells #[.int .i64 6, .int .i64 7, .int .i64 8, .int .i64 9] 2)) (.slice (some ⟨w.heap.size + 1, 0, none⟩) 4 4) [6, 7, 8, 9] := by
    refine ⟨by simp [ints, maxLen], some ⟨w.heap.size + 1, 0, none⟩, 4, by simp [ints], ⟨by simp [ints], by simp [maxLen]⟩, fun i hi => ⟨w.heap.size + 1, 0, rfl, ?_⟩⟩
    simp [ints] at hi
    have : i = 0 ∨ i = 1 ∨ i = 2 ∨ i = 3 := by omega
    rw [hL.cell]
    rcases this with rfl | rfl | rfl | rfl <;> simp [ints, List.getD]
  have hc := Lib.hid (contains_any _ [6, 7, 8, 9] k _ hI)
  have hr := Lib.hid (show mnB k = !hasB [6, 7, 8, 9] k from rfl)
  generalize hasB [6, 7, 8, 9] k = ok at hc hr
  clear hL hI
  go_enter Tryd.func50, Tryd.ntmps50
  go_wp2_with fail
  (with_reducible refine hc.out.mono ?_)
  rintro e w1 ⟨rfl, rfl⟩
  go_wp2
  go_ret
  exact ⟨by rw [hr.out]; rfl, B2⟩

set_option maxHeartbeats 4000000 in
theorem ValidDeed_impl (k a : Int) (w : World) :
    Calls Tryd.prog 49 #[.agg #[.int .i64 k, .int .i64 a]] w fun e w' => e = .returned (.bool (ddOk k a)) ∧ Below w.heap.size w w' := by
  have B1 := below1 w (.cells #[.int .i64 k, .int .i64 a] 51)
  have h1 := Lib.hid (fun W => isIn_any k 1 10 W)
  have h2 := Lib.hid (fun W => isIn_any a 0 999 W)
  have h3 := Lib.hid (fun W => ment_any k a W)
  rcases e1 : inB k 1 10 with _ | _
  · have hr := Lib.hid (show ddOk k a = false by simp [ddOk, e1])
    rw [e1] at h1
    go_enter Tryd.func49, Tryd.ntmps49
    go_wp2_with fail
    (with_reducible refine (h1.out _).mono ?_)
    rintro e w1 ⟨rfl, rfl⟩
    go_wp2
    go_ret
    exact ⟨by rw [hr.out]; rfl, B1⟩
  · rcases e2 : inB a 0 999 with _ | _
    · have hr := Lib.hid (show ddOk k a = false by simp [ddOk, e1, e2])
      rw [e1] at h1
      rw [e2] at h2
      go_enter Tryd.func49, Tryd.ntmps49
      go_wp2_with fail
      (with_reducible refine (h1.out _).mono ?_)
      rintro e w1 ⟨rfl, rfl⟩
      go_wp2_with fail
      (with_reducible refine (h2.out _).mono ?_)
      rintro e w1 ⟨rfl, rfl⟩
      go_wp2
      go_ret
      exact ⟨by rw [hr.out]; rfl, B1⟩
    · rw [e1] at h1
      rw [e2] at h2
      by_cases e3 : a = 0
      · have hr := Lib.hid (show ddOk k a = true by rw [ddOk, e1, e2]; simp [e3])
        have e3' : (a == 0) = true := by simpa using e3
        clear e1 e2 e3
        go_enter Tryd.func49, Tryd.ntmps49
        go_wp2_with fail
        (with_reducible refine (h1.out _).mono ?_)
        rintro e w1 ⟨rfl, rfl⟩
        go_wp2_with fail
        (with_reducible refine (h2.out _).mono ?_)
        rintro e w1 ⟨rfl, rfl⟩
        go_wp2
        go_ret
        exact ⟨by rw [hr.out]; rfl, B1⟩
      · have hr := Lib.hid (show ddOk k a = mnB k by rw [ddOk, e1, e2]; simp [e3])
        have e3' : (a == 0) = false := by simpa using e3
        clear e1 e2 e3
        generalize mnB k = ok at h3 hr
        go_enter Tryd.func49, Tryd.ntmps49
        go_wp2_with fail
        (with_reducible refine (h1.out _).mono ?_)
        rintro e w1 ⟨rfl, rfl⟩
        go_wp2_with fail
        (with_reducible refine (h2.out _).mono ?_)
        rintro e w1 ⟨rfl, rfl⟩
        go_wp2_with fail
        (with_reducible refine (h3.out _).mono ?_)
        rintro e w1 ⟨rfl, b1⟩
        go_wp2
        go_ret
        exact ⟨by rw [hr.out]; rfl, below_wt B1 b1⟩

set_option maxHeartbeats 4000000 in
theorem l09Words_any (w : World) :
    Calls Tryd.prog 47 #[] w fun e w' => ∃ v, e = .returned (.tuple #[v, .slice (some ⟨w.heap.size + 1, 0, none⟩) 11 11]) ∧ Blk w' (w.heap.size + 1) (toldW.map Value.bool).toArray 4 ∧ Below w.heap.size w w' := by
  go_enter Tryd.func47, Tryd.ntmps47
  go_wp2
  go_ret2
  refine ⟨_, rfl, ?_, below2 _ _ _⟩
  have h := fun o c t => Blk.new (w.alloc o) c t
  simp only [World.size_alloc] at h
  exact h _ _ _

set_option maxHeartbeats 4000000 in
theorem l09Deed_any (k a : Int) (w : World) :
    Calls Tryd.prog 46 #[.agg #[.int .i64 k, .int .i64 a]] w fun e w' => e = .returned (.bool (ddOk k a)) ∧ Below w.heap.size w w' := by
  have B1 := below1 w (.cells #[.int .i64 k, .int .i64 a] 51)
  have hX := Blk.new w #[.int .i64 k, .int .i64 a] 51
  have hz : (w.alloc (.cells #[.int .i64 k, .int .i64 a] 51)).heap.size = w.heap.size + 1 := by simp
  have h1 := Lib.hid (fun W => l00In_any k 1 10 W)
  have h2 := Lib.hid (fun W => l00In_any a 0 999 W)
  have hz' := Lib.hid hz
  clear hz
  rcases e1 : inB k 1 10 with _ | _
  · have hr := Lib.hid (show ddOk k a = false by simp [ddOk, e1])
    rw [e1] at h1
    go_enter Tryd.func46, Tryd.ntmps46
    go_wp2_with fail
    (with_reducible refine (h1.out _).mono ?_)
    rintro e w1 ⟨rfl, rfl⟩
    go_wp2
    go_ret
    exact ⟨by rw [hr.out]; rfl, B1⟩
  · rcases e2 : inB a 0 999 with _ | _
    · have hr := Lib.hid (show ddOk k a = false by simp [ddOk, e1, e2])
      rw [e1] at h1
      rw [e2] at h2
      go_enter Tryd.func46, Tryd.ntmps46
      go_wp2_with fail
      (with_reducible refine (h1.out _).mono ?_)
      rintro e w1 ⟨rfl, rfl⟩
      go_wp2_with fail
      (with_reducible refine (h2.out _).mono ?_)
      rintro e w1 ⟨rfl, rfl⟩
      go_wp2
      go_ret
      exact ⟨by rw [hr.out]; rfl, B1⟩
    · obtain ⟨k0, k1⟩ := inB_iff.1 e1
      obtain ⟨K, rfl⟩ : ∃ K : Nat, k = K := ⟨k.toNat, by omega⟩
      have htold := told_mn ⟨K, by omega⟩ (by simp only; omega)
      simp only at htold
      have hr := Lib.hid (show ddOk K a = (toldW.getD K false || a == 0) by rw [ddOk, e1, e2, htold]; simp [Bool.or_comm])
      have hcell : ∀ W, Blk W (w.heap.size + 2) (toldW.map Value.bool).toArray 4 → W.cell? ⟨w.heap.size + 2, K, none⟩ = some (.bool (toldW.getD K false)) := fun W h => by
        have := h.cell K
        rw [this]
        have hk : K < toldW.length := by show K < 11; omega
        simp [List.getElem?_toArray, List.getD, hk]
      have hcell' := Lib.hid hcell
      rw [e1] at h1
      rw [e2] at h2
      clear e1 e2 htold hcell
      obtain ⟨tk, htk⟩ : ∃ t, toldW.getD K false = t := ⟨_, rfl⟩
      rw [htk] at hr hcell'
      clear htk
      rcases tk with _ | _
      all_goals
        go_enter Tryd.func46, Tryd.ntmps46
        go_wp2_with fail
        (with_reducible refine (h1.out _).mono ?_)
        rintro e w1 ⟨rfl, rfl⟩
        go_wp2_with fail
        (with_reducible refine (h2.out _).mono ?_)
        rintro e w1 ⟨rfl, rfl⟩
        go_wp2_with fail
        (with_reducible refine (l09Words_any _).mono ?_)
        rintro e w1 ⟨v, rfl, hb, b1⟩
        rw [hz'.out] at hb ⊢
        have c2 := hcell'.out w1 hb
        have hX1 := hX.keep b1 hX.lt
        obtain ⟨x0, x1⟩ : w1.cell? ⟨w.heap.size, 0, none⟩ = some (.int .i64 (K : Int)) ∧ w1.cell? ⟨w.heap.size, 1, none⟩ = some (.int .i64 a) := ⟨hX1.cell 0, hX1.cell 1⟩
        go_wp2
        go_ret
        exact ⟨by rw [hr.out]; rfl, below_wt B1 b1⟩

end Go.Proofs.YtgaadcinhaphpaaDoor
