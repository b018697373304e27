/- Moves of the project: arrays of six states, as values. Conditions: told in each. -/
import Derived.Test.YtacnafjmcfcalaaMsMake
import Derived.Laws.CopyOwn
import Derived.Deep.RegionLaw
import Derived.Lib.SliceRun
namespace Go.Proofs.Ytacnafjmcfcalaa
open Go.RowKit Go.Deep
set_option linter.unusedVariables false

def mvA (f : Nat → Int) : Array Value := #[.int .i64 (f 0), .int .i64 (f 1), .int .i64 (f 2), .int .i64 (f 3), .int .i64 (f 4), .int .i64 (f 5)]
def mvv (f : Nat → Int) : Value := .agg (mvA f)
theorem mvA_at (f : Nat → Int) (k : Nat) (h : k < 6) : (mvA f)[k]? = some (.int .i64 (f k)) := by
  match k, h with
  | 0, _ => rfl
  | 1, _ => rfl
  | 2, _ => rfl
  | 3, _ => rfl
  | 4, _ => rfl
  | 5, _ => rfl
theorem mvA_ext {f g : Nat → Int} (h : ∀ k, k < 6 → f k = g k) : mvA f = mvA g := by
  simp only [mvA, h 0 (by decide), h 1 (by decide), h 2 (by decide), h 3 (by decide), h 4 (by decide), h 5 (by decide)]
theorem mvv_ext {f g : Nat → Int} (h : ∀ k, k < 6 → f k = g k) : mvv f = mvv g := by unfold mvv; rw [mvA_ext h]
theorem mvA_set (f : Nat → Int) (k : Nat) (y : Int) (h : k < 6) : (mvA f).setIfInBounds k (.int .i64 y) = mvA (fun i => if i = k then y else f i) := by
  match k, h with
  | 0, _ => rfl
  | 1, _ => rfl
  | 2, _ => rfl
  | 3, _ => rfl
  | 4, _ => rfl
  | 5, _ => rfl
theorem Blk.mv {w : World} {b : Nat} {f : Nat → Int} {t : TypeId} (h : Blk w b (mvA f) t) (k : Nat) (hk : k < 6) : w.cell? ⟨b, k, none⟩ = some (.int .i64 (f k)) := (h.cell k).trans (mvA_at f k hk)
theorem Blk.mv6 {w : World} {b : Nat} {f : Nat → Int} {t : TypeId} (h : Blk w b (mvA f) t) :
    w.cell? ⟨b, 0, none⟩ = some (.int .i64 (f 0)) ∧ w.cell? ⟨b, 1, none⟩ = some (.int .i64 (f 1)) ∧ w.cell? ⟨b, 2, none⟩ = some (.int .i64 (f 2)) ∧ w.cell? ⟨b, 3, none⟩ = some (.int .i64 (f 3)) ∧ w.cell? ⟨b, 4, none⟩ = some (.int .i64 (f 4)) ∧ w.cell? ⟨b, 5, none⟩ = some (.int .i64 (f 5)) :=
  ⟨h.mv 0 (by decide), h.mv 1 (by decide), h.mv 2 (by decide), h.mv 3 (by decide), h.mv 4 (by decide), h.mv 5 (by decide)⟩
/-- the move of a map -/
def mvOf (xs : List Int) : Nat → Int := fun i => xs.getD i 0
theorem mv_splice (xs : List Int) (h : xs.length ≤ 6) : (splice [.int .i64 0, .int .i64 0, .int .i64 0, .int .i64 0, .int .i64 0, .int .i64 0] 0 (ints xs)).toArray = mvA (mvOf xs) := by
  match xs, h with
  | [], _ => rfl
  | [_], _ => rfl
  | [_, _], _ => rfl
  | [_, _, _], _ => rfl
  | [_, _, _, _], _ => rfl
  | [_, _, _, _, _], _ => rfl
  | [_, _, _, _, _, _], _ => rfl
  | _ :: _ :: _ :: _ :: _ :: _ :: _ :: r, h => simp at h

set_option maxHeartbeats 2000000 in
theorem move_any (x : Int) (v : Value) (xs : List Int) (w : World) (hv : Ints w v xs) (hl : xs.length ≤ 6) :
    Calls Try.prog 97 #[.agg #[.int .i64 x, v]] w fun e w' => e = .returned (mvv (mvOf xs)) ∧ Below w.heap.size w w' := by
  have hv' := hv.keep (below3 w (.cells #[.int .i64 x, v] 117) (.cells #[.int .i64 0, .int .i64 0, .int .i64 0, .int .i64 0, .int .i64 0, .int .i64 0] 100) (.cells #[.int .i64 0, .int .i64 0, .int .i64 0, .int .i64 0, .int .i64 0, .int .i64 0] 100))
  obtain ⟨a, cap, rfl⟩ := hv.shape
  have B0 := below3 w (.cells #[.int .i64 x, .slice a xs.length cap] 117) (.cells #[.int .i64 0, .int .i64 0, .int .i64 0, .int .i64 0, .int .i64 0, .int .i64 0] 100) (.cells #[.int .i64 0, .int .i64 0, .int .i64 0, .int .i64 0, .int .i64 0, .int .i64 0] 100)
  have hR := (Blk.new (w.alloc (.cells #[.int .i64 x, .slice a xs.length cap] 117)) #[.int .i64 0, .int .i64 0, .int .i64 0, .int .i64 0, .int .i64 0, .int .i64 0] 100).alloc (.cells #[.int .i64 0, .int .i64 0, .int .i64 0, .int .i64 0, .int .i64 0, .int .i64 0] 100)
  have hT := Blk.new ((w.alloc (.cells #[.int .i64 x, .slice a xs.length cap] 117)).alloc (.cells #[.int .i64 0, .int .i64 0, .int .i64 0, .int .i64 0, .int .i64 0, .int .i64 0] 100)) #[.int .i64 0, .int .i64 0, .int .i64 0, .int .i64 0, .int .i64 0, .int .i64 0] 100
  have hB := ((Blk.new w #[.int .i64 x, .slice a xs.length cap] 117).alloc (.cells #[.int .i64 0, .int .i64 0, .int .i64 0, .int .i64 0, .int .i64 0, .int .i64 0] 100)).alloc (.cells #[.int .i64 0, .int .i64 0, .int .i64 0, .int .i64 0, .int .i64 0, .int .i64 0] 100)
  simp only [World.size_alloc] at hR hT
  go_enter Try.func97, Try.ntmps97
  go_upto_region 2 with fail
  have hzW : (((w.alloc (.cells #[.int .i64 x, .slice a xs.length cap] 117)).alloc (.cells #[.int .i64 0, .int .i64 0, .int .i64 0, .int .i64 0, .int .i64 0, .int .i64 0] 100)).alloc (.cells #[.int .i64 0, .int .i64 0, .int .i64 0, .int .i64 0, .int .i64 0, .int .i64 0] 100)).heap.size = w.heap.size + 3 := by simp
  generalize ((w.alloc (.cells #[.int .i64 x, .slice a xs.length cap] 117)).alloc (.cells #[.int .i64 0, .int .i64 0, .int .i64 0, .int .i64 0, .int .i64 0, .int .i64 0] 100)).alloc (.cells #[.int .i64 0, .int .i64 0, .int .i64 0, .int .i64 0, .int .i64 0, .int .i64 0] 100) = W at *
  have y1 := hB.cell 1
  simp at y1
  have hn : (ints xs).length = Nat.min xs.length 6 := by simp [ints]; exact (Nat.min_eq_left hl).symm
  have hpos : 0 < (ints xs).length → (some (⟨w.heap.size + 2, 0, none⟩ : Addr)) = some ⟨w.heap.size + 2, 0, none⟩ ∧ ∃ ad, a = some ad ∧ ∀ j u, (ints xs)[j]? = some u → W.drew.cell? (ad.add j) = some u := fun hne => by
    obtain ⟨b, off, cc, hvv, hb, hc⟩ := hv'.at (by simpa [ints] using hne)
    simp only [Value.slice.injEq] at hvv
    obtain ⟨rfl, -, -⟩ := hvv
    refine ⟨rfl, _, rfl, fun j u hu => ?_⟩
    have hj : j < xs.length := by have := (List.getElem?_eq_some_iff.1 hu).1; simpa [ints] using this
    have e := ints_getD xs j hj
    simp only [List.getD, hu, Option.getD_some] at e
    rw [add_plain, e]
    exact hc j hj
  have hg : W.drew.heap[w.heap.size + 2]? = some (.cells ([.int .i64 0, .int .i64 0, .int .i64 0, .int .i64 0, .int .i64 0, .int .i64 0] : List Value).toArray 100 (0, 0)) := hT
  have hinf : (Try.prog.info? 2).map (·.size) = some 1 := by kernel_rfl
  have h1c : ∀ u ∈ ints xs, u.oneCell' = true := by intro u hu; simp [ints] at hu; obtain ⟨z, _, rfl⟩ := hu; rfl
  have hfit : 0 + (ints xs).length ≤ 6 := by simp [ints]; omega
  have hsp := mv_splice xs hl
  generalize hcs : ints xs = cs at hn hpos h1c hfit hsp
  clear hv' hcs
  go_region_law (refine step_copy_splice rfl (.tmp 4) (.tmp 6) 28 28 rfl 2 Try.underlying28 hinf (some ⟨w.heap.size + 2, 0, none⟩) a 6 6 xs.length cap (by simp [Act.eval]) (by simp [Act.eval]) (w.heap.size + 2) 0 [.int .i64 0, .int .i64 0, .int .i64 0, .int .i64 0, .int .i64 0, .int .i64 0] 100 hg cs hn hpos hfit h1c (w.heap.size + 2) W.drew (Below.refl _ _) (Nat.le_refl _) ?_; intro w4 hg4 hb4)
  all_goals
    have hT4 : Blk w4 (w.heap.size + 2) (mvA (mvOf xs)) 100 := by have := hg4.out; rw [hsp] at this; exact this
    have hR4 : Blk w4 (w.heap.size + 1) #[.int .i64 0, .int .i64 0, .int .i64 0, .int .i64 0, .int .i64 0, .int .i64 0] 100 := (hR.drew).keep hb4 (by omega)
    obtain ⟨r0, r1, r2, r3, r4, r5⟩ := (show Blk w4 (w.heap.size + 1) (mvA (fun _ => 0)) 100 from hR4).mv6
    obtain ⟨t0, t1, t2, t3, t4, t5⟩ := hT4.mv6
    have f0 := hR4.frozen 0
    have f1 := hR4.frozen 1
    have f2 := hR4.frozen 2
    have f3 := hR4.frozen 3
    have f4 := hR4.frozen 4
    have f5 := hR4.frozen 5
    have hb5 := Lib.hid (B0.drew.trans (hb4.mono (by omega)))
    have hmv := Lib.hid (show mvv (mvOf xs) = .agg #[.int .i64 (mvOf xs 0), .int .i64 (mvOf xs 1), .int .i64 (mvOf xs 2), .int .i64 (mvOf xs 3), .int .i64 (mvOf xs 4), .int .i64 (mvOf xs 5)] from rfl)
    generalize mvOf xs 0 = z0 at *
    generalize mvOf xs 1 = z1 at *
    generalize mvOf xs 2 = z2 at *
    generalize mvOf xs 3 = z3 at *
    generalize mvOf xs 4 = z4 at *
    generalize mvOf xs 5 = z5 at *
    clear hg4 hb4 hT4 hR4 hg hpos hsp hT hR hB
    go_wp2
    refine bodyPost_ret (v := .agg #[.int .i64 z0, .int .i64 z1, .int .i64 z2, .int .i64 z3, .int .i64 z4, .int .i64 z5]) (by simp [results, Try.results97, go_sem, r0, r1, r2, r3, r4, r5]) rfl ?_
    refine ⟨by rw [hmv.out], (((((hb5.out.setCell ?_ _).setCell ?_ _).setCell ?_ _).setCell ?_ _).setCell ?_ _).setCell ?_ _⟩
    all_goals (simp only; omega)

theorem composer_any (n : Int) (w : World) : Calls Try.prog 86 #[.int .i64 n] w fun e w' => e = .returned (.func (.func 157) #[] #[.pointer (some ⟨w.heap.size, 0, none⟩)]) ∧ w' = w.alloc (.cells #[.int .i64 n] 2) := by
  go_enter Try.func86, Try.ntmps86
  go_wp2
  go_ret
  exact ⟨rfl, rfl⟩
theorem cf_cmp : ∀ args w, (callFunc 157 args).run Try.prog w = .ok (.enter 157 args) w := fun _ _ => by go_simp

/-- one move behind the other -/
def mvThen (n : Nat) (f g : Nat → Int) : Nat → Int := fun i => if i < n then g (f i).toNat else 0
theorem mvThen_set (n k m : Nat) (f g : Nat → Int) (hk : k < n) (hm : f k = (m : Int)) : (fun i => if i = k then g m else (if i < k then g (f i).toNat else 0)) = fun i => if i < k + 1 then g (f i).toNat else 0 := by
  funext i
  by_cases e : i = k
  · subst e; rw [if_pos rfl, if_pos (by omega), hm]; rfl
  · rw [if_neg e]
    by_cases h : i < k
    · rw [if_pos h, if_pos (by omega)]
    · rw [if_neg h, if_neg (by omega)]

set_option maxHeartbeats 4000000 in
theorem compose_any (n : Nat) (f g : Nat → Int) (b : Nat) (w : World) (hb : w.cell? ⟨b, 0, none⟩ = some (.int .i64 n)) (hn : n ≤ 6) (hf : ∀ s, s < n → 0 ≤ f s ∧ f s < 6) :
    Calls Try.prog 157 #[mvv f, mvv g, .pointer (some ⟨b, 0, none⟩)] w fun e w' => e = .returned (mvv (mvThen n f g)) ∧ Below w.heap.size w w' := by
  have B0 := below4 w (.cells (mvA f) 100) (.cells (mvA g) 100) (.cells #[.int .i64 0, .int .i64 0, .int .i64 0, .int .i64 0, .int .i64 0, .int .i64 0] 100) (.cells #[.int .i64 0, .int .i64 0, .int .i64 0, .int .i64 0, .int .i64 0, .int .i64 0] 100)
  have hF := (((Blk.new w (mvA f) 100).alloc (.cells (mvA g) 100)).alloc (.cells #[.int .i64 0, .int .i64 0, .int .i64 0, .int .i64 0, .int .i64 0, .int .i64 0] 100)).alloc (.cells #[.int .i64 0, .int .i64 0, .int .i64 0, .int .i64 0, .int .i64 0, .int .i64 0] 100)
  have hG := ((Blk.new (w.alloc (.cells (mvA f) 100)) (mvA g) 100).alloc (.cells #[.int .i64 0, .int .i64 0, .int .i64 0, .int .i64 0, .int .i64 0, .int .i64 0] 100)).alloc (.cells #[.int .i64 0, .int .i64 0, .int .i64 0, .int .i64 0, .int .i64 0, .int .i64 0] 100)
  have hR := (Blk.new ((w.alloc (.cells (mvA f) 100)).alloc (.cells (mvA g) 100)) #[.int .i64 0, .int .i64 0, .int .i64 0, .int .i64 0, .int .i64 0, .int .i64 0] 100).alloc (.cells #[.int .i64 0, .int .i64 0, .int .i64 0, .int .i64 0, .int .i64 0, .int .i64 0] 100)
  have hT := Blk.new (((w.alloc (.cells (mvA f) 100)).alloc (.cells (mvA g) 100)).alloc (.cells #[.int .i64 0, .int .i64 0, .int .i64 0, .int .i64 0, .int .i64 0, .int .i64 0] 100)) #[.int .i64 0, .int .i64 0, .int .i64 0, .int .i64 0, .int .i64 0, .int .i64 0] 100
  simp only [World.size_alloc] at hG hR hT
  have hzW : ((((w.alloc (.cells (mvA f) 100)).alloc (.cells (mvA g) 100)).alloc (.cells #[.int .i64 0, .int .i64 0, .int .i64 0, .int .i64 0, .int .i64 0, .int .i64 0] 100)).alloc (.cells #[.int .i64 0, .int .i64 0, .int .i64 0, .int .i64 0, .int .i64 0, .int .i64 0] 100)).heap.size = w.heap.size + 4 := by simp
  have hlb := block_lt hb
  simp only at hlb
  have hb' := (B0.cell (p := ⟨b, 0, none⟩) hlb).trans hb
  simp only [mvv, mvA]
  simp only [mvA] at B0 hF hG hR hT hzW hb'
  go_enter Try.func157, Try.ntmps157
  go_wp2
  generalize (((w.alloc _).alloc _).alloc _).alloc _ = W at *
  replace hF : Blk W w.heap.size (mvA f) 100 := hF
  replace hG : Blk W (w.heap.size + 1) (mvA g) 100 := hG
  replace hT : Blk W (w.heap.size + 3) (mvA (fun _ => 0)) 100 := hT
  replace hR : Blk W (w.heap.size + 2) (mvA (fun _ => 0)) 100 := hR
  have hf' := Lib.hid hf
  clear hf hb
  go_loopw [9] (fun i wr => ∃ k : Nat, k ≤ n ∧ i = .int .i64 k ∧ Blk wr (w.heap.size + 3) (mvA (fun i => if i < k then g (f i).toNat else 0)) 100 ∧ Below (w.heap.size + 3) W wr) (fun i _ => n - (intOf i).toNat)
  case atStart => exact ⟨0, Nat.zero_le _, rfl, by simpa using hT, Below.refl _ _⟩
  case round =>
    obtain ⟨k, hk, rfl, hT1, bel⟩ := hrel
    have hT1' := Lib.hid hT1
    have bel' := Lib.hid bel
    by_cases hlt : k < n
    · obtain ⟨y0, y1⟩ := hf'.out k hlt
      obtain ⟨m, hm⟩ : ∃ m : Nat, f k = (m : Int) := ⟨(f k).toNat, by omega⟩
      have hm6 : m < 6 := by omega
      have hk6 : k < 6 := by omega
      have q1 := (hF.keep bel (by omega)).mv k hk6
      rw [hm] at q1
      have q2 := (hG.keep bel (by omega)).mv m hm6
      have q3 := hT1.mv k hk6
      have q4 := hT1.frozen k
      have hset := Lib.hid (mvThen_set n k m f g hlt hm)
      have i1 : (k : Int) < 6 := by omega
      have i2 : (m : Int) < 6 := by omega
      have i3 : (k : Int) < (n : Int) := by omega
      clear hT1 bel hb'
      generalize hgm : g m = gm at q2
      have hgm' := Lib.hid hgm
      clear hgm
      simp only [Nat.lt_irrefl, if_false] at q3
      go_wp2
      go_roundw
      case rel =>
        refine ⟨k + 1, by omega, by go_num, ?_, bel'.out.setCell (Nat.le_refl _) _⟩
        have := hT1'.out.set k (.int .i64 gm)
        rw [mvA_set _ _ _ hk6, ← hgm'.out, hset.out, hgm'.out] at this
        exact this
      case measure => simp [intOf]; omega
    · obtain rfl : k = n := by omega
      have hR1 := hR.keep bel (by omega)
      obtain ⟨r0, r1, r2, r3, r4, r5⟩ := hR1.mv6
      obtain ⟨t0, t1, t2, t3, t4, t5⟩ := (show Blk wr (w.heap.size + 3) (mvA (mvThen k f g)) 100 from hT1).mv6
      have f0 := hR1.frozen 0
      have f1 := hR1.frozen 1
      have f2 := hR1.frozen 2
      have f3 := hR1.frozen 3
      have f4 := hR1.frozen 4
      have f5 := hR1.frozen 5
      have hb5 := Lib.hid (B0.trans (bel.mono (by omega)))
      have hmv := Lib.hid (show mvv (mvThen k f g) = .agg #[.int .i64 (mvThen k f g 0), .int .i64 (mvThen k f g 1), .int .i64 (mvThen k f g 2), .int .i64 (mvThen k f g 3), .int .i64 (mvThen k f g 4), .int .i64 (mvThen k f g 5)] from rfl)
      generalize mvThen k f g 0 = z0 at *
      generalize mvThen k f g 1 = z1 at *
      generalize mvThen k f g 2 = z2 at *
      generalize mvThen k f g 3 = z3 at *
      generalize mvThen k f g 4 = z4 at *
      generalize mvThen k f g 5 = z5 at *
      clear hT1' bel' hT1 hR1 hF hG hT hR bel B0
      go_wp2
      refine bodyPost_ret (v := .agg #[.int .i64 z0, .int .i64 z1, .int .i64 z2, .int .i64 z3, .int .i64 z4, .int .i64 z5]) (by simp [results, Try.results157, go_sem, r0, r1, r2, r3, r4, r5]) rfl ?_
      refine ⟨congrArg Ending.returned hmv.out.symm, (((((hb5.out.setCell ?_ _).setCell ?_ _).setCell ?_ _).setCell ?_ _).setCell ?_ _).setCell ?_ _⟩
      all_goals (simp only; omega)

set_option maxHeartbeats 4000000 in
theorem cloneI_any (v : Value) (xs : List Int) (w : World) (hv : Ints w v xs) (hne : 0 < xs.length) (hs : xs.length ≤ 1000) :
    Calls Try.prog 103 #[v] w fun e w' => ∃ rv, e = .returned rv ∧ w'.ownsRow w.heap.size 2 1 rv xs.length (ints xs) ∧ Below w.heap.size w w' := by
  obtain ⟨b, off, cap, rfl, hb, hc⟩ := hv.at hne
  obtain ⟨i0, hi, hz0, hz1, hz2⟩ := info_parts Try.infoI
  have hi' := Lib.hid hi; have hz0' := Lib.hid hz0; have hz1' := Lib.hid hz1; have hz2' := Lib.hid hz2
  have hc' := Lib.hid hc
  have h1' := Lib.hid (show ∀ u ∈ ints xs, u.oneCell' = true by intro u hu; simp [ints] at hu; obtain ⟨z, _, rfl⟩ := hu; rfl)
  clear hi hz0 hz1 hz2 hv hc
  have hown : (w.alloc (.cells #[] 2)).ownsRow w.heap.size 2 1 (.slice (some ⟨w.heap.size, 0, none⟩) 0 0) 0 [] := World.ownsRow_made w #[] 0 (Nat.le_refl _) (Nat.zero_le _) (by simp)
  have hown' := Lib.hid hown
  have hnews := Lib.hid (show ∀ j u, (ints xs)[j]? = some u → (w.alloc (.cells #[] 2)).cell? ((⟨b, off, none⟩ : Addr).add j) = some u by
    intro j u hu
    have hj : j < xs.length := by have := (List.getElem?_eq_some_iff.1 hu).1; simpa [ints] using this
    have e := ints_getD xs j hj
    simp only [List.getD, hu, Option.getD_some] at e
    rw [Addr.add_lit, World.cell?_alloc_past _ _ _ hb, hc'.out j hj, e]
    rfl)
  clear hown
  have qT : ∀ (w : World) (a : Addr) (n c : Nat), (binOp .eql 28 (.slice (some a) n c) (.slice none 0 0)).run Try.prog w = .ok (.bool false) w := fun w a n c => Lib.run_eql_slice_nil w _ _ (some a) n c 0 0 Try.underlying28
  have hlen : (ints xs).length = xs.length := by simp [ints]
  generalize hvs : ints xs = vs at *
  go_enter Try.func103, Try.ntmps103
  go_wp2_with (at_builtin; (refine wpList_append_own _ rfl _ _ 28 rfl w.heap.size 2 i0 (.int .i64 0) 1 8 Try.underlying28 hi'.out hz0'.out hz1'.out hz2'.out rfl (by decide) (.slice (some ⟨w.heap.size, 0, none⟩) 0 0) 0 [] rfl hown'.out ⟨b, off, none⟩ xs.length cap vs rfl (by simp; omega) hnews.out h1'.out (by unfold maxLen; omega) (by omega) (by simp) ?_); intro v' w5 hown5 hgr5 _)
  go_ret
  refine ⟨_, rfl, by simpa using hown5, (below1 w _).grown hgr5 (by simp) (fun k' hk' => by simp [Value.ownBlock] at hk'; omega)⟩

set_option maxHeartbeats 4000000 in
theorem list_any (n : Nat) (f : Nat → Int) (w : World) (h1 : 1 ≤ n) (h6 : n ≤ 6) :
    Calls Try.prog 87 #[mvv f, .int .i64 n] w fun e w' => ∃ rv, e = .returned rv ∧ w'.ownsRow w.heap.size 2 1 rv n (ints ((List.range n).map f)) ∧ Below w.heap.size w w' := by
  have B0 := below1 w (.cells (mvA f) 100)
  have hF := Blk.new w (mvA f) 100
  have hI : Ints (w.alloc (.cells (mvA f) 100)) (.slice (some ⟨w.heap.size, 0, none⟩) n 6) ((List.range n).map f) := by
    refine ⟨by simp [ints]; unfold maxLen; omega, some ⟨w.heap.size, 0, none⟩, 6, by simp [ints], ⟨by simp [ints]; omega, by unfold maxLen; omega⟩, fun i hi => ⟨w.heap.size, 0, rfl, ?_⟩⟩
    have hi' : i < n := by simpa [ints] using hi
    rw [Nat.zero_add, hF.mv i (by omega)]
    simp [ints, List.getD, hi']
  have hcl := cloneI_any _ _ _ hI (by simp; omega) (by simp; omega)
  simp only [List.length_map, List.length_range] at hcl
  generalize hxs : ints ((List.range n).map f) = xs at *
  have n1 : ((n : Nat) : Int) ≤ 6 := by omega
  simp only [mvv, mvA] at hcl B0 ⊢
  go_enter Try.func87, Try.ntmps87
  go_wp2_with fail
  refine hcl.mono ?_
  rintro e w1 ⟨rv, rfl, hown, b1⟩
  go_wp2
  go_ret
  refine ⟨rv, rfl, ?_, below_wt B0 b1⟩
  refine ⟨hown.1, ?_⟩
  rcases hown.2 with h0 | ⟨g, cap, cur, hv, hg, r⟩
  · exact Or.inl h0
  · exact Or.inr ⟨g, cap, cur, hv, by simp at hg; omega, r⟩
end Go.Proofs.Ytacnafjmcfcalaa
