/- The text of a deed, by the specification and by the project. Conditions: told by the code. -/
import Derived.Test.YtgaadcinhaphpaaDoorDeed
import Derived.Test.YtgaadcinhaphpaaDoorTabD
import Derived.Test.YtgaadcinhaphpaaDoorTxt2
import Derived.Deep.RegionHeld3
namespace Go.Proofs.YtgaadcinhaphpaaDoor
open Go.RowKit Go.Deep
set_option linter.unusedVariables false
set_option linter.unusedSimpArgs false

def wordsW : List (List UInt8) := [[], [103, 105, 118, 101], [119, 111, 114, 107], [100, 101, 108, 105, 118, 101, 114], [99, 111, 112, 121], [100, 114, 111, 112], [115, 121, 110, 99], [111, 117, 116], [99, 114, 97, 115, 104], [116, 101, 97, 114], [113, 117, 105, 116]]
def wordB (k : Nat) : ByteArray := BA (wordsW.getD k [])
def wordsV : List Value := wordsW.map fun l => Value.string (BA l)
theorem wordB_size : ∀ k : Fin 11, (wordB k.val).size ≤ 7 := by decide
theorem word_at {w : World} {g K : Nat} (h : Blk w g wordsV.toArray 9) (hK : K < 11) : w.cell? ⟨g, K, none⟩ = some (.string (wordB K)) := by
  rw [h.cell K]
  have hk : K < wordsW.length := hK
  simp [wordsV, wordB, List.getD, hk]
def deedT (k a : Int) : ByteArray := if ddOk k a = true then (if mnB k = true then wordB k.toNat ++ ByteArray.mk #[32] ++ decS a.toNat else wordB k.toNat) else BA []

set_option maxHeartbeats 4000000 in
theorem deedWords_any (w : World) :
    Calls Tryd.prog 72 #[] w fun e w' => e = .returned (.slice (some ⟨w.heap.size, 0, none⟩) 11 11) ∧ Blk w' w.heap.size wordsV.toArray 9 ∧ Below w.heap.size w w' := by
  go_enter Tryd.func72, Tryd.ntmps72
  go_wp2
  go_ret
  exact ⟨rfl, Blk.new _ _ _, below1 _ _⟩

set_option maxHeartbeats 4000000 in
theorem l09Words_both (w : World) :
    Calls Tryd.prog 47 #[] w fun e w' => e = .returned (.tuple #[.slice (some ⟨w.heap.size, 0, none⟩) 11 11, .slice (some ⟨w.heap.size + 1, 0, none⟩) 11 11]) ∧ Blk w' w.heap.size wordsV.toArray 9 ∧ Blk w' (w.heap.size + 1) (toldW.map Value.bool).toArray 4 ∧ Below w.heap.size w w' := by
  go_enter Tryd.func47, Tryd.ntmps47
  go_wp2
  go_ret2
  have h := fun o c t => Blk.new (w.alloc o) c t
  simp only [World.size_alloc] at h
  exact ⟨rfl, (Blk.new _ _ _).alloc _, h _ _ _, below2 _ _ _⟩

set_option maxHeartbeats 4000000 in
theorem word_any (K : Nat) (a : Int) (w : World) (hK : K < 11) :
    Calls Tryd.prog 51 #[.agg #[.int .i64 (K : Int), .int .i64 a]] w fun e w' => e = .returned (.string (wordB K)) ∧ Below w.heap.size w w' := by
  have B1 := below1 w (.cells #[.int .i64 (K : Int), .int .i64 a] 51)
  have hX := Blk.new w #[.int .i64 (K : Int), .int .i64 a] 51
  have c0 : (w.alloc (.cells #[.int .i64 (K : Int), .int .i64 a] 51)).cell? ⟨w.heap.size, 0, none⟩ = some (.int .i64 (K : Int)) := hX.cell 0
  have hb := hX.lt
  have hwd := Lib.hid (fun W => deedWords_any W)
  have hat := Lib.hid (fun (W : World) g h => word_at (w := W) (g := g) h hK)
  generalize wordB K = wd at *
  go_enter Tryd.func51, Tryd.ntmps51
  go_upto_region 1 with fail
  generalize w.alloc (.cells #[.int .i64 (K : Int), .int .i64 a] 51) = w0 at *
  go_region_with ((go_at_call 72; (with_reducible refine (hwd.out _).mono ?_); rintro e w1 ⟨rfl, hB, b1⟩; have _k1 := hat.out _ _ hB; have _k0 := b1.cell (p := ⟨w.heap.size, 0, none⟩) hb; simp at _k1 _k0; rw [c0] at _k0))
  all_goals go_wp2
  all_goals go_ret
  all_goals exact ⟨rfl, below_wt B1.drew b1⟩

theorem lim_d {x y : Nat} (h : x ≤ 7) (h' : y ≤ 18) : (¬ 9223372036854775807 < x + 1) ∧ (¬ 9223372036854775807 < x + 1 + y) := by omega

set_option maxRecDepth 100000 in
set_option maxHeartbeats 4000000 in
theorem DeedText_impl (k a : Int) (w : World) (htab : Tab10 w) :
    Calls Tryd.prog 24 #[.agg #[.int .i64 k, .int .i64 a]] w fun e w' => e = .returned (.string (deedT k a)) ∧ Below w.heap.size w w' := by
  have B1 := below1 w (.cells #[.int .i64 k, .int .i64 a] 51)
  have hX := Blk.new w #[.int .i64 k, .int .i64 a] 51
  have hv := Lib.hid (fun W => ValidDeed_impl k a W)
  by_cases hok : ddOk k a = true
  · have hb : inB k 1 10 = true ∧ inB a 0 999 = true := by simp only [ddOk, Bool.and_eq_true] at hok; exact ⟨hok.1, hok.2.1⟩
    obtain ⟨k0, k1⟩ := inB_iff.1 hb.1
    obtain ⟨a0, a1⟩ := inB_iff.1 hb.2
    obtain ⟨K, rfl⟩ : ∃ K : Nat, k = K := ⟨k.toNat, by omega⟩
    obtain ⟨A, rfl⟩ : ∃ A : Nat, a = A := ⟨a.toNat, by omega⟩
    have hm := Lib.hid (fun W => ment_any (K : Int) (A : Int) W)
    have hw := Lib.hid (fun W => word_any K (A : Int) W (by omega))
    have hf := Lib.hid (fun W h => fmt10 A W (by omega) h)
    have hz := lim_d (wordB_size ⟨K, by omega⟩) (decS_size (n := A) (by omega))
    simp only at hz
    have hr : deedT K A = if mnB K = true then wordB K ++ ByteArray.mk #[32] ++ decS A else wordB K := by rw [deedT, if_pos hok]; rfl
    rw [hok] at hv
    have htab' := Lib.hid htab
    clear hb k0 k1 a0 a1 hok htab
    generalize wordB K = wd at *
    generalize decS A = ds at *
    generalize deedT K A = T at *
    generalize (K : Int) = k at *
    generalize (A : Int) = a at *
    rcases e : mnB k with _ | _
    · rw [e] at hm hr
      have hr' := Lib.hid (show wd = T by rw [hr]; rfl)
      clear hr e hf
      go_enter Tryd.func24, Tryd.ntmps24
      go_wp2_with fail
      (with_reducible refine (hv.out _).mono ?_)
      rintro e w1 ⟨rfl, b1⟩
      replace hX := hX.keep b1 hX.lt
      obtain ⟨x0, x1⟩ : w1.cell? ⟨w.heap.size, 0, none⟩ = some (.int .i64 k) ∧ w1.cell? ⟨w.heap.size, 1, none⟩ = some (.int .i64 a) := ⟨hX.cell 0, hX.cell 1⟩
      go_wp2_with fail
      (with_reducible refine (hm.out _).mono ?_)
      rintro e w2 ⟨rfl, b2⟩
      replace hX := hX.keep b2 hX.lt
      clear x0 x1
      obtain ⟨x0, x1⟩ : w2.cell? ⟨w.heap.size, 0, none⟩ = some (.int .i64 k) ∧ w2.cell? ⟨w.heap.size, 1, none⟩ = some (.int .i64 a) := ⟨hX.cell 0, hX.cell 1⟩
      go_wp2_with fail
      (with_reducible refine (hw.out _).mono ?_)
      rintro e w3 ⟨rfl, b3⟩
      go_wp2
      go_ret
      exact ⟨by rw [hr'.out]; rfl, below_wt (below_wt (below_wt B1 b1) b2) b3⟩
    · rw [e] at hm hr
      have hr' := Lib.hid (show wd ++ ByteArray.mk #[32] ++ ds = T by rw [hr]; rfl)
      obtain ⟨m1, m2⟩ := hz
      clear hr e
      go_enter Tryd.func24, Tryd.ntmps24
      go_wp2_with fail
      (with_reducible refine (hv.out _).mono ?_)
      rintro e w1 ⟨rfl, b1⟩
      replace hX := hX.keep b1 hX.lt
      obtain ⟨x0, x1⟩ : w1.cell? ⟨w.heap.size, 0, none⟩ = some (.int .i64 k) ∧ w1.cell? ⟨w.heap.size, 1, none⟩ = some (.int .i64 a) := ⟨hX.cell 0, hX.cell 1⟩
      go_wp2_with fail
      (with_reducible refine (hm.out _).mono ?_)
      rintro e w2 ⟨rfl, b2⟩
      replace hX := hX.keep b2 hX.lt
      have B2 := below_wt (below_wt B1 b1) b2
      clear x0 x1 b1 b2 B1
      obtain ⟨x0, x1⟩ : w2.cell? ⟨w.heap.size, 0, none⟩ = some (.int .i64 k) ∧ w2.cell? ⟨w.heap.size, 1, none⟩ = some (.int .i64 a) := ⟨hX.cell 0, hX.cell 1⟩
      have hlt := hX.lt
      clear hX
      go_upto_region 5 with fail
      go_region_held3 (fun w' => w'.cell? ⟨w.heap.size, 0, none⟩ = some (.int .i64 k) ∧ w'.cell? ⟨w.heap.size, 1, none⟩ = some (.int .i64 a)) (go_keep) (first | (go_at_call 51; (with_reducible refine (hw.out _).mono ?_); rintro e w3 ⟨rfl, b3⟩; have _k0 := b3.cell (p := ⟨w.heap.size, 0, none⟩) hlt; have _k1 := b3.cell (p := ⟨w.heap.size, 1, none⟩) hlt; simp [x0, x1] at _k0 _k1) | (go_at_call 44; (with_reducible refine (hf.out _ (htab'.out.keep (below_wt B2.drew b3))).mono ?_); rintro e w4 ⟨rfl, b4⟩; have _j0 := b4.cell (p := ⟨w.heap.size, 0, none⟩) (Nat.lt_of_lt_of_le hlt b3.size); have _j1 := b4.cell (p := ⟨w.heap.size, 1, none⟩) (Nat.lt_of_lt_of_le hlt b3.size)) | fail "no arm")
      go_wp2
      go_ret
      exact ⟨by rw [hr'.out]; rfl, below_wt (below_wt B2.drew b3) b4⟩
  · have hok' : ddOk k a = false := by simpa using hok
    have hr := Lib.hid (show deedT k a = BA [] by rw [deedT, if_neg hok])
    rw [hok'] at hv
    generalize deedT k a = T at *
    clear hok hok' htab
    go_enter Tryd.func24, Tryd.ntmps24
    go_wp2_with fail
    (with_reducible refine (hv.out _).mono ?_)
    rintro e w1 ⟨rfl, b1⟩
    go_wp2
    go_ret
    exact ⟨by rw [hr.out]; rfl, below_wt B1 b1⟩

set_option maxRecDepth 100000 in
set_option maxHeartbeats 4000000 in
theorem DeedText_spec (k a : Int) (w : World) :
    Calls Tryd.prog 22 #[.agg #[.int .i64 k, .int .i64 a]] w fun e w' => e = .returned (.string (deedT k a)) ∧ Below w.heap.size w w' := by
  have B1 := below1 w (.cells #[.int .i64 k, .int .i64 a] 51)
  have hX := Blk.new w #[.int .i64 k, .int .i64 a] 51
  have hv := Lib.hid (fun W => l09Deed_any k a W)
  by_cases hok : ddOk k a = true
  · have hb : inB k 1 10 = true ∧ inB a 0 999 = true := by simp only [ddOk, Bool.and_eq_true] at hok; exact ⟨hok.1, hok.2.1⟩
    obtain ⟨k0, k1⟩ := inB_iff.1 hb.1
    obtain ⟨a0, a1⟩ := inB_iff.1 hb.2
    obtain ⟨K, rfl⟩ : ∃ K : Nat, k = K := ⟨k.toNat, by omega⟩
    obtain ⟨A, rfl⟩ : ∃ A : Nat, a = A := ⟨a.toNat, by omega⟩
    have htold := told_mn ⟨K, by omega⟩ (by simp only; omega)
    simp only at htold
    have hf := Lib.hid (fun W => Dec_all A W (by omega))
    have hz := lim_d (wordB_size ⟨K, by omega⟩) (decS_size (n := A) (by omega))
    simp only at hz
    have hr : deedT K A = if mnB K = true then wordB K ++ ByteArray.mk #[32] ++ decS A else wordB K := by rw [deedT, if_pos hok]; rfl
    have hword := Lib.hid (fun (W : World) g h => word_at (w := W) (g := g) h (show K < 11 by omega))
    have htw := Lib.hid (fun (W : World) g (h : Blk W g (toldW.map Value.bool).toArray 4) => (show W.cell? ⟨g, K, none⟩ = some (.bool (mnB K)) by
      rw [h.cell K, ← htold]
      have hk : K < toldW.length := by show K < 11; omega
      simp [List.getElem?_toArray, List.getD, hk]))
    rw [hok] at hv
    have hKI : (0 : Int) ≤ (K : Int) ∧ (K : Int) < 11 := by omega
    obtain ⟨i0, i1⟩ := hKI
    clear hb k0 k1 a0 a1 hok htold
    generalize wordB K = wd at *
    generalize decS A = ds at *
    generalize deedT K A = T at *
    generalize (A : Int) = a at *
    rcases e : mnB K with _ | _
    all_goals
      rw [e] at hr htw
      have hr' := Lib.hid hr
      obtain ⟨m1, m2⟩ := hz
      clear hr e
      go_enter Tryd.func22, Tryd.ntmps22
      go_wp2_with fail
      (with_reducible refine (hv.out _).mono ?_)
      rintro e w1 ⟨rfl, b1⟩
      replace hX := hX.keep b1 hX.lt
      go_wp2_with fail
      (with_reducible refine (l09Words_both _).mono ?_)
      rintro e w2 ⟨rfl, hW, hT, b2⟩
      have B2 := below_wt (below_wt B1 b1) b2
      replace hX := hX.keep b2 hX.lt
      have c1 := hword.out _ _ hW
      have c2 := htw.out _ _ hT
      obtain ⟨x0, x1⟩ : w2.cell? ⟨w.heap.size, 0, none⟩ = some (.int .i64 K) ∧ w2.cell? ⟨w.heap.size, 1, none⟩ = some (.int .i64 a) := ⟨hX.cell 0, hX.cell 1⟩
      have hlt := hX.lt
      have hgl := hW.lt
      clear hX hT hW b1 b2 B1
      generalize w1.heap.size = g at *
    · go_wp2
      go_ret
      exact ⟨by rw [hr'.out]; rfl, B2⟩
    · go_upto_region 5 with fail
      go_region_held3 (fun w' => w'.cell? ⟨w.heap.size, 0, none⟩ = some (.int .i64 K) ∧ w'.cell? ⟨w.heap.size, 1, none⟩ = some (.int .i64 a) ∧ w'.cell? ⟨g, K, none⟩ = some (.string wd)) (go_keep) (first | (go_at_call 48; (with_reducible refine (hf.out _).mono ?_); rintro e w3 ⟨rfl, b3⟩; have _k0 := b3.cell (p := ⟨w.heap.size, 0, none⟩) hlt; have _k1 := b3.cell (p := ⟨w.heap.size, 1, none⟩) hlt; have _k2 := b3.cell (p := ⟨g, K, none⟩) hgl; simp [x0, x1, c1] at _k0 _k1 _k2) | fail "no arm")
      go_wp2
      go_ret
      exact ⟨by rw [hr'.out]; rfl, below_wt B2.drew b3⟩
  · have hok' : ddOk k a = false := by simpa using hok
    have hr := Lib.hid (show deedT k a = BA [] by rw [deedT, if_neg hok])
    rw [hok'] at hv
    generalize deedT k a = T at *
    clear hok hok'
    go_enter Tryd.func22, Tryd.ntmps22
    go_wp2_with fail
    (with_reducible refine (hv.out _).mono ?_)
    rintro e w1 ⟨rfl, b1⟩
    go_wp2
    go_ret
    exact ⟨by rw [hr.out]; rfl, below_wt B1 b1⟩
end Go.Proofs.YtgaadcinhaphpaaDoor
