/- One state more may be passed: the project's elimination of a state in the matrix of truths. Conditions: the way from the state to itself is there. -/
import Derived.Test.YtkebfnmepbblnaaReach5
import Derived.Handy
import Derived.StillTailTactics
namespace Go.Proofs.Ytkebfnmepbblnaa
open Go.RowKit Go.Deep
set_option linter.unusedVariables false

def elimB (M : Nat → Nat → Bool) (k a b : Nat) : Bool := M a b || (M a k && M k b)
/-- the table when the rows above a are done, and that of a up to t -/
def elimTo (M : Nat → Nat → Bool) (k a t : Nat) (x y : Nat) : Bool := if x < a ∨ (x = a ∧ y < t) then elimB M k x y else M x y

theorem elimTo_zero (M : Nat → Nat → Bool) (k : Nat) : elimTo M k 0 0 = M := by
  funext x y; simp [elimTo]
theorem elimTo_row {M : Nat → Nat → Bool} {k a N : Nat} : tabV N N (tr (elimTo M k a N)) = tabV N N (tr (elimTo M k (a + 1) 0)) := by
  apply tabV_congr
  intro x y hx hy
  unfold tr elimTo
  by_cases h : x < a + 1
  · rw [if_pos (by omega), if_pos (by omega)]
  · rw [if_neg (by omega), if_neg (by omega)]
theorem elimTo_done {M : Nat → Nat → Bool} {k N : Nat} : tabV N N (tr (elimTo M k N 0)) = tabV N N (tr (elimB M k)) := by
  apply tabV_congr
  intro x y hx hy
  unfold tr elimTo
  rw [if_pos (by omega)]
theorem elimTo_set {M : Nat → Nat → Bool} {k a t N : Nat} (ha : a < N) : (tabV N N (tr (elimTo M k a t))).set a (((tabV N N (tr (elimTo M k a t))).getD a []).set t (tr (elimB M k) a t)) = tabV N N (tr (elimTo M k a (t + 1))) := by
  rw [tabV_set _ _ _ _ _ _ ha]
  apply tabV_congr
  intro x y hx hy
  unfold tr elimTo
  by_cases h : x = a ∧ y = t
  · rw [if_pos h, if_pos (by omega), h.1, h.2]
  · rw [if_neg h]
    by_cases h2 : x < a ∨ (x = a ∧ y < t)
    · rw [if_pos h2, if_pos (by omega)]
    · rw [if_neg h2, if_neg (by omega)]
theorem elimTo_at (M : Nat → Nat → Bool) (k a t : Nat) : elimTo M k a t a t = M a t := by simp [elimTo]
theorem elimTo_into (M : Nat → Nat → Bool) (k a : Nat) : elimTo M k a 0 a k = M a k := by simp [elimTo]

set_option maxRecDepth 100000 in
set_option maxHeartbeats 8000000 in
theorem eliminate_any (v : Value) (rvs : List Value) (N k lo hi : Nat) (M : Nat → Nat → Bool) (w : World) (hM : MadeV 213 212 w lo hi v rvs (tabV N N (tr M))) (hk : k < N) (hN : N ≤ 6) (hkk : M k k = true) :
    Calls Try.prog 200 #[v, .int .i64 (k : Int)] w fun e w' => e = .returned (.tuple #[]) ∧ MadeV 213 212 w' lo hi v rvs (tabV N N (tr (elimB M k))) ∧ Touched lo hi w w' := by
  obtain ⟨g, cap, r, rc, hv, g1, g2, c1, hr, r1, r2, c2, c3⟩ := hM.at k (by rw [tabV_len]; exact hk) (by rw [tabV_rowlen _ _ _ _ hk]; omega)
  rw [tabV_len] at hv
  rw [tabV_rowlen _ _ _ _ hk] at c1 hr c2
  subst hv
  have ck : w.cell? ⟨r, k, none⟩ = some (.bool true) := by
    rw [c2 k hk, tabV_at _ _ _ _ _ hk hk]; simp [tr, hkk]
  have hrow : Row w (.slice (some ⟨r, 0, none⟩) N rc) ((List.range N).map fun t => tr M k t) := by
    have := (hM.rows k (by rw [tabV_len]; exact hk)).row
    rw [hr, tabV_row _ _ _ _ hk] at this
    exact this
  have hcl := fun w1 (hb : Below w.heap.size w w1) => cloneT_any _ _ w1 (hrow.keep hb) (by simp; omega) (by simp; omega) (by intro u hu; simp [tr] at hu; obtain ⟨_, _, rfl⟩ := hu; rfl)
  simp only [List.length_map, List.length_range] at hcl
  have hM' := Lib.hid hM
  have hcl' := Lib.hid hcl
  have hkI : (k : Int) < (N : Int) := by omega
  have hszr := hM.size
  clear hM hcl hrow c2 hr
  go_enter Try.func200, Try.ntmps200
  go_wp2_with fail
  go_region_held3 (fun w' => w'.cell? ⟨g, k, none⟩ = some (.slice (some ⟨r, 0, none⟩) N rc) ∧ w'.cell? ⟨r, k, none⟩ = some (.bool true)) (go_keep) (first | (go_at_call 201; (with_reducible refine (hcl'.out _ (Below.refl _ _).drew).mono ?_); rintro e w1 ⟨ov, rfl, hown, b1⟩; have _k1 := (b1.cell (p := ⟨g, k, none⟩) (by simp; omega)); have _k2 := (b1.cell (p := ⟨r, k, none⟩) (by simp; omega)); simp [c1, ck] at _k1 _k2))
  obtain ⟨ob, oc, rfl, hob⟩ := ownsRow_head hown (by omega)
  have hbw : Below w.heap.size w w1 := (Below.refl _ _).drew.trans b1
  have hobw : w.heap.size ≤ ob := hob
  have ho := Lib.hid (show ∀ t, t < N → w1.cell? ⟨ob, t, none⟩ = some (.bool (M k t)) by
    intro t ht
    rw [hown.cellAt t (by simp; omega)]
    simp [tr, ht])
  have hM1 := Lib.hid (hM'.out.keep hbw)
  have ht1 : Touched lo hi w w1 := Touched.of hbw
  have hs1 := hbw.size
  clear hown b1 hob hbw c1 ck
  go_wp2
  clear _k1 _k2
  go_loopw [24] (fun i wr => ∃ a : Nat, a ≤ N ∧ i = .int .i64 (a : Int) ∧ Hid (MadeV 213 212 wr lo hi (.slice (some ⟨g, 0, none⟩) N cap) rvs (tabV N N (tr (elimTo M k a 0)))) ∧ Hid (∀ t, t < N → wr.cell? ⟨ob, t, none⟩ = some (.bool (M k t))) ∧ Touched lo hi w wr) (fun i _ => N - (intOf i).toNat)
  case atStart => exact ⟨0, Nat.zero_le _, rfl, Lib.hid (by rw [elimTo_zero]; exact hM1.out), ho, ht1⟩
  case round =>
    obtain ⟨wo, rfl⟩ : ∃ wo : World, wo = wr := ⟨_, rfl⟩
    obtain ⟨a, ha, rfl, hMa, hoa, hta⟩ := hrel
    by_cases hlt : a < N
    · obtain ⟨g', cap', ra, rac, hv', -, -, d1, hra, ra1, ra2, d2, d3⟩ := hMa.out.at a (by rw [tabV_len]; exact hlt) (by rw [tabV_rowlen _ _ _ _ hlt]; omega)
      rw [tabV_len] at hv'
      rw [tabV_rowlen _ _ _ _ hlt] at d1 hra d2
      simp only [Value.slice.injEq, Option.some.injEq, Addr.mk.injEq] at hv'
      obtain ⟨⟨rfl, -, -⟩, -, rfl⟩ := hv'
      have dk : wo.cell? ⟨ra, k, none⟩ = some (.bool (M a k)) := by
        rw [d2 k hk, tabV_at _ _ _ _ _ hlt hk]; simp [tr, elimTo_into]
      have hra' := Lib.hid hra
      have haI : (a : Int) < (N : Int) := by omega
      clear hra d2 d3 hM1 ho ht1
      go_wp2
      go_loopw [34] (fun i wr => ∃ t : Nat, t ≤ N ∧ i = .int .i64 (t : Int) ∧ Hid (MadeV 213 212 wr lo hi (.slice (some ⟨g, 0, none⟩) N cap) rvs (tabV N N (tr (elimTo M k a t)))) ∧ Hid (∀ t, t < N → wr.cell? ⟨ob, t, none⟩ = some (.bool (M k t))) ∧ Touched lo hi w wr) (fun i _ => N - (intOf i).toNat)
      case atStart => exact ⟨0, Nat.zero_le _, rfl, hMa, hoa, hta⟩
      case round =>
        obtain ⟨wi, rfl⟩ : ∃ wi : World, wi = wr := ⟨_, rfl⟩
        obtain ⟨t, ht, rfl, hMt, hot, htt⟩ := hrel
        clear d1 dk
        by_cases htl : t < N
        · obtain ⟨_, _, ra', rac', -, -, -, -, hra2, -, -, e2, e3⟩ := hMt.out.at a (by rw [tabV_len]; exact hlt) (by rw [tabV_rowlen _ _ _ _ hlt]; omega)
          rw [tabV_rowlen _ _ _ _ hlt] at hra2 e2
          rw [hra'.out] at hra2
          simp only [Value.slice.injEq, Option.some.injEq, Addr.mk.injEq] at hra2
          obtain ⟨⟨rfl, -, -⟩, -, rfl⟩ := hra2
          have ct : wi.cell? ⟨ra, t, none⟩ = some (.bool (M a t)) := by
            rw [e2 t htl, tabV_at _ _ _ _ _ hlt htl]; simp [tr, elimTo_at]
          have co := hot.out t htl
          have ft := e3 t
          have htI : (t : Int) < (N : Int) := by omega
          have hset := Lib.hid (elimTo_set (M := M) (k := k) (a := a) (t := t) hlt)
          have hel := Lib.hid (show tr (elimB M k) a t = .bool (M a t || (M a k && M k t)) from rfl)
          have hcall := detour_any (M a t) (M a k) true (M k t)
          generalize hbv : (M a t || (M a k && M k t)) = bv at hcall hel
          clear hbv e2 e3
          generalize M a t = b1 at ct hcall
          generalize M a k = b2 at hcall ⊢
          generalize M k t = b3 at co hcall
          go_upto_region 8 with fail
          refine wp_region_still_tail 15 (by kernel_rfl) (by kernel_rfl) ?_
          simp only [List.take_succ_cons, List.take_zero, List.drop_succ_cons, List.drop_zero]
          repeat still_step
          refine wpStill_step (fun K hK => ?_)
          go_simp
          go_invoke
          go_simp
          refine ⟨_, (hcall _).mono (fun _ _ ⟨he, hw⟩ => ⟨he, hw.symm⟩), hK _ ?_⟩
          clear hK K
          repeat still_step
          try refine wpStill_nil ?_
          change wpList _ _ _ _ _ wi.drew
          go_wp2
          go_roundw
          case rel =>
            refine ⟨t + 1, by omega, by go_num, Lib.hid ?_, Lib.hid ?_, (htt.set (a := ⟨ra, t, none⟩) ra1 ra2 _).trans ⟨rfl, rfl, rfl, Nat.le_refl _, fun _ _ _ => rfl⟩⟩
            · have := (hMt.out).set a (by rw [tabV_len]; exact hlt) ra N rac hra'.out t (.bool bv)
              rw [← hel.out] at this
              rw [hset.out, hel.out] at this
              exact this.keep (Below.refl _ _).drew
            · intro t' ht'
              have := hot.out t' ht'
              have hne : ob ≠ ra := by omega
              simp only [World.cell?_drew]
              rw [World.cell?_setCell_far _ _ _ _ (by intro h; exact hne h.symm)]
              exact this
          case measure => simp [intOf]; omega
        · obtain rfl : t = N := by omega
          go_wp2
          go_roundw
          case rel => exact ⟨a + 1, by omega, by go_num, Lib.hid (by rw [← elimTo_row]; exact hMt.out), hot, htt⟩
          case measure => simp [intOf]; omega
    · obtain rfl : a = N := by omega
      go_wp2
      go_end0
      exact ⟨rfl, by rw [← elimTo_done]; exact hMa.out, hta⟩
end Go.Proofs.Ytkebfnmepbblnaa
