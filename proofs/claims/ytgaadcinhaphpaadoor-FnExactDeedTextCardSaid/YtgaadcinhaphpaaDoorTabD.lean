/- What the listed tables give: strconv's powers of ten; FormatInt at base 10. Conditions: told by the code. -/
import Derived.Test.YtgaadcinhaphpaaDoorShelf
import Derived.Test.YtgaadcinhaphpaaDoorTabL
import Derived.Test.YtgaadcinhaphpaaDoorDec
import Derived.Lib.AppendIntMem
namespace Go.Proofs.YtgaadcinhaphpaaDoor
open Go.ChangeShapes Go.WideShapes Go.ChangeAt Go.RowKit Go.Deep Go.Joins Go.Lib Go.Sort
set_option linter.unusedVariables false
set_option linter.unusedSimpArgs false

abbrev Tab10 (w : World) : Prop := Lib.TabIs Tryd.prog w "internal/strconv.uint64pow10" .u64 Lib.pow10Tab
theorem Tab10.keep {w w' : World} (h : Tab10 w) (hb : Below w.heap.size w w') : Tab10 w' := Lib.tabBelow_of_tabIs h w' hb
theorem dec_same : ∀ (f n : Nat), n < f → Lib.decDigits n = decW n
  | 0, n, h => absurd h (Nat.not_lt_zero n)
  | f + 1, n, h => by
    by_cases h1 : n < 10
    · rw [Lib.decDigits, dif_pos h1, decW_small h1]
    · rw [Lib.decDigits, dif_neg h1, decW_more h1, dec_same f (n / 10) (by omega)]
theorem dec_eq (n : Nat) : Lib.decDigits n = decW n := dec_same (n + 1) n (Nat.lt_succ_self n)
theorem tab10_of {W : World} (h : laidMetH Tryd.prog laidL W) : Tab10 W := by
  rw [MakeChecks.laidMetH_plain _ _ _ (by kernel_rfl)] at h
  have h2 := h.filter (fun x => x.1 == "internal/strconv.uint64pow10")
  have e : laidL.filter (fun x => x.1 == "internal/strconv.uint64pow10") = [("internal/strconv.uint64pow10", Lib.tabData .u64 Lib.pow10Tab)] := by kernel_rfl
  rw [e] at h2
  exact Lib.tabIs_of_head (g := 0) (t := 154) (n := 20) (by kernel_rfl) (by kernel_rfl) (by kernel_rfl) Tryd.underlying101 (by kernel_rfl) (by kernel_rfl) h2

theorem fmt10 (u : Nat) (w : World) (h : u < 1000000000000000000) (htab : Tab10 w) :
    Calls Tryd.prog 44 #[.int .i64 (u : Int), .int .i64 10] w fun e w' => e = .returned (.string (decS u)) ∧ Below w.heap.size w w' := by
  refine (Tryd.strconv_FormatInt_10 u (by omega) (by omega) w htab).mono ?_
  rintro e w' ⟨rfl, k, os, rfl⟩
  refine ⟨?_, Lib.below_grow _ w (Nat.le_refl _) k os⟩
  have : Lib.itoa (u : Int) = Lib.decDigits u := by unfold Lib.itoa; rw [if_neg (by omega)]; simp
  rw [this, dec_eq]; rfl
end Go.Proofs.YtgaadcinhaphpaaDoor
