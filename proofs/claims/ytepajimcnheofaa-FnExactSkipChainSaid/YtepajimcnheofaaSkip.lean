/- SkipChain of the project and of the specification: both return 'skipOf'. Conditions: none on the chain and the number beyond what is read. -/
import Derived.Test.YtepajimcnheofaaThen2
import Derived.Test.YtepajimcnheofaaLazy
import Derived.Test.YtepajimcnheofaaKinds
namespace Go.Proofs.Ytepajimcnheofaa
open Go.RowKit Go.Deep
set_option linter.unusedVariables false

def powCh (c : Ch) : Nat → Ch
  | 0 => stayCh c.n 1
  | i + 1 => thenCh (powCh c i) c
def skipOf (c : Ch) (k : Int) : Ch × Int :=
  if chOk c = true then (if inB k 0 40 = true then (if 60 < (powCh c k.toNat).t then (zeroCh, 3) else (powCh c k.toNat, 0)) else (zeroCh, 2)) else (zeroCh, 1)
theorem powCh_n (c : Ch) (i : Nat) : (powCh c i).n = c.n := by
  induction i with
  | zero => rfl
  | succ i ih => simp only [powCh, thenCh, ih]
theorem powCh_t (c : Ch) (i : Nat) : (powCh c (i + 1)).t = (powCh c i).t * c.t := rfl
theorem powCh_pos {c : Ch} (oc : chOk c = true) (i : Nat) : 1 ≤ (powCh c i).t := by
  obtain ⟨n1, n2, t1, t2, -, -⟩ := chOk_all oc
  induction i with
  | zero => simp [powCh, stayCh]
  | succ i ih => rw [powCh_t]; have := Int.mul_le_mul ih t1 (by omega) (by omega); omega
theorem powCh_up {c : Ch} (oc : chOk c = true) {i k : Nat} (h : i ≤ k) (h6 : 60 < (powCh c i).t) : 60 < (powCh c k).t := by
  obtain ⟨n1, n2, t1, t2, -, -⟩ := chOk_all oc
  induction k with
  | zero => obtain rfl : i = 0 := by omega
            exact h6
  | succ k ih =>
    by_cases e : i = k + 1
    · subst e; exact h6
    · have := ih (by omega)
      rw [powCh_t]
      have := Int.mul_le_mul (show 61 ≤ (powCh c k).t by omega) t1 (by omega) (by omega)
      omega
theorem powCh_ok {c : Ch} (oc : chOk c = true) (i : Nat) (h : (powCh c i).t ≤ 60) : chOk (powCh c i) = true := by
  obtain ⟨n1, n2, t1, t2, -, -⟩ := chOk_all oc
  induction i with
  | zero => exact stay_ok c.n 1 n1 n2 (by omega) (by omega)
  | succ i ih =>
    have hi : (powCh c i).t ≤ 60 := by
      by_cases e : (powCh c i).t ≤ 60
      · exact e
      · have := powCh_up oc (show i ≤ i + 1 by omega) (by omega : 60 < (powCh c i).t); omega
    exact then_ok (ih hi) oc (powCh_n c i) h

/-! ### the project's -/
set_option maxHeartbeats 2000000 in
theorem stayF_any (s j : Nat) (w : World) :
    Calls Try.prog 97 #[.int .i64 s, .int .i64 j] w fun e w' => e = .returned (.int .i64 (stayF 1 s j)) ∧ ∃ m, w' = w.drewN m := by
  by_cases h : s = j
  · have hb : ((s : Int) == (j : Int)) = true := beq_iff_eq.2 (by omega)
    have hm := Lib.hid (show stayF 1 s j = 1 by simp [stayF, h])
    clear h
    go_enter Try.func97, Try.ntmps97
    go_wp2
    go_ret
    exact ⟨ret_int hm.out.symm, 0, rfl⟩
  · have hb : ((s : Int) == (j : Int)) = false := beq_eq_false_iff_ne.2 (by omega)
    have hm := Lib.hid (show stayF 1 s j = 0 by simp [stayF, h])
    clear h
    go_enter Try.func97, Try.ntmps97
    go_wp2
    go_ret
    exact ⟨ret_int hm.out.symm, 0, rfl⟩
theorem cf_stay : ∀ args w, (callFunc 97 args).run Try.prog w = .ok (.enter 97 args) w := fun _ _ => by go_simp

set_option maxHeartbeats 4000000 in
theorem stayingChain_any (N : Nat) (w : World) (h1 : 1 ≤ N) (h6 : N ≤ 6) :
    Calls Try.prog 71 #[.int .i64 N] w fun e w' => ∃ rv, e = .returned (.tuple #[rv, .int .i64 0]) ∧ ChOwn 37 2 w' w.heap.size w'.heap.size rv (stayCh N 1) ∧ Below w.heap.size w w' := by
  have hZ := Blk.new w #[.int .i64 0, .int .i64 0, .slice none 0 0] 26
  have B0 := below1 w (.cells #[.int .i64 0, .int .i64 0, .slice none 0 0] 26)
  have hmc := makeChain_any N 1 97 #[] (stayF 1) (w.alloc (.cells #[.int .i64 0, .int .i64 0, .slice none 0 0] 26)) h1 h6 (by omega) cf_stay
    (fun W s j _ _ _ => by simpa using stayF_any s j W)
  have hres : (⟨(N : Int), 1, rowsOf N (stayF 1)⟩ : Ch) = stayCh N 1 := by simp [stayCh]
  rw [hres] at hmc
  clear hres
  go_enter Try.func71, Try.ntmps71
  go_wp2_with fail
  refine hmc.mono ?_
  rintro e w2 ⟨rv, rfl, own2, b2⟩
  have hZ2 := hZ.keep b2 hZ.lt
  have q0 := hZ2.cell 0
  have q1 := hZ2.cell 1
  have q2 := hZ2.cell 2
  have f0 := hZ2.frozen 0
  have f1 := hZ2.frozen 1
  have f2 := hZ2.frozen 2
  simp at q0 q1 q2
  have BB2 := below_wt B0 b2
  have hsz1 := hZ.lt
  have hsz2 := b2.size
  obtain ⟨rc, hrc⟩ : ∃ rc, stayCh N 1 = rc := ⟨_, rfl⟩
  rw [hrc] at own2
  have hrc' := Lib.hid hrc
  clear hrc
  obtain ⟨ra, rcap, rfl⟩ := own2.shape
  go_wp2
  refine bodyPost_ret (v := .tuple #[.agg #[.int .i64 rc.n, .int .i64 rc.t, .slice ra rc.w.length rcap], .int .i64 0]) (by simp [results, Try.results71, go_sem, q0, q1, q2]) rfl ?_
  rw [hrc'.out]
  refine ⟨_, rfl, (own2.same ((((SameOn.refl _ _ _).set (Or.inl ?_) _).set (Or.inl ?_) _).set (Or.inl ?_) _)).wide ?_ ?_, ((BB2.setCell ?_ _).setCell ?_ _).setCell ?_ _⟩
  all_goals first | omega | (simp only; omega) | (simp [World.setCell]; done) | (simp [World.setCell]; omega)

set_option maxHeartbeats 2000000 in
theorem l01Steps_any (k : Int) (w : World) : Calls Try.prog 69 #[.int .i64 k] w fun e w' => e = .returned (.bool (inB k 0 40)) ∧ w = w' := by
  go_enter Try.func69, Try.ntmps69
  go_wp2_with fail
  refine (l00In_any _ _ _ _).mono ?_
  rintro e w' ⟨rfl, rfl⟩
  go_wp2
  go_ret
  exact ⟨rfl, rfl⟩

set_option maxRecDepth 100000 in
set_option maxHeartbeats 16000000 in
theorem SkipChain_impl (cv : Value) (c : Ch) (k : Int) (w : World) (hc : ChR w cv c) :
    Calls Try.prog 27 #[cv, .int .i64 k] w fun e w' => ∃ rv, e = .returned (.tuple #[rv, .int .i64 (skipOf c k).2]) ∧ ChOwn 37 2 w' w.heap.size w'.heap.size rv (skipOf c k).1 ∧ Below w.heap.size w w' := by
  obtain ⟨a, cap, rfl⟩ := hc.shape
  have B0 := below2 w (.cells #[.int .i64 c.n, .int .i64 c.t, .slice a c.w.length cap] 26) (.cells #[.int .i64 0, .int .i64 0, .slice none 0 0] 26)
  have hB := (Blk.new w #[.int .i64 c.n, .int .i64 c.t, .slice a c.w.length cap] 26).alloc (.cells #[.int .i64 0, .int .i64 0, .slice none 0 0] 26)
  have hZ := Blk.new (w.alloc (.cells #[.int .i64 c.n, .int .i64 c.t, .slice a c.w.length cap] 26)) #[.int .i64 0, .int .i64 0, .slice none 0 0] 26
  simp only [World.size_alloc] at hZ
  have Kc := hc.keep B0
  by_cases oc : chOk c = true
  · obtain ⟨n1, n2, t1, t2, -, -⟩ := chOk_all oc
    obtain ⟨N, hN⟩ : ∃ N : Nat, c.n = N := ⟨c.n.toNat, by omega⟩
    have hN' := Lib.hid hN
    have hN1 : 1 ≤ N := by omega
    have hN6 : N ≤ 6 := by omega
    have oc' := Lib.hid oc
    have hst : ∀ W, Calls Try.prog 71 #[.int .i64 c.n] W fun e w' => ∃ rv, e = .returned (.tuple #[rv, .int .i64 0]) ∧ ChOwn 37 2 w' W.heap.size w'.heap.size rv (powCh c 0) ∧ Below W.heap.size W w' := fun W => by
      have := stayingChain_any N W hN1 hN6
      simp only [powCh]; rw [hN]; exact this
    have hst' := Lib.hid hst
    by_cases hk : inB k 0 40 = true
    · obtain ⟨k0, k1⟩ := inB_iff.1 hk
      obtain ⟨k, rfl⟩ : ∃ n : Nat, k = n := ⟨k.toNat, by omega⟩
      have hres := Lib.hid (show skipOf c k = if 60 < (powCh c k).t then (zeroCh, 3) else (powCh c k, 0) by simp [skipOf, oc, hk])
      have hk' := Lib.hid hk
      have hin : ∀ W, Calls Try.prog 70 #[.int .i64 k, .int .i64 0, .int .i64 40] W fun e w' => e = .returned (.bool true) ∧ W = w' := fun W => by
        have := isIn_any k 0 40 W
        rw [hk] at this; exact this
      have hin' := Lib.hid hin
      clear hst hk hin hN oc
      go_enter Try.func27, Try.ntmps27
      go_wp2_with fail
      refine (ValidChain_impl _ c _ Kc).mono ?_
      rintro e w1 ⟨rfl, b1⟩
      rw [oc'.out]
      replace hB := hB.step b1
      replace hZ := hZ.step b1
      replace Kc := Kc.keep b1
      have BB := below_wt B0 b1
      have hlt1 := hZ.lt
      clear B0 b1
      go_wp2_with fail
      refine (hin'.out _).mono ?_
      rintro e w2 ⟨rfl, rfl⟩
      obtain ⟨q0, q1, q2⟩ := hB.three
      go_wp2_with fail
      refine (hst'.out _).mono ?_
      rintro e w2 ⟨rv, rfl, own, b2⟩
      clear q0 q1 q2
      replace hB := hB.step b2
      replace hZ := hZ.step b2
      replace Kc := Kc.keep b2
      have hsz2 := b2.size
      have BB2 := below_wt BB b2
      have hp0 : (powCh c 0).t = 1 := rfl
      have hup := Lib.hid (fun i (h : i ≤ k) => powCh_up oc'.out (i := i) (k := k) h)
      have hpos := Lib.hid (fun i => powCh_pos oc'.out i)
      have S0 := own.mine
      obtain ⟨ra, rac, rfl⟩ := own.shape
      have b3 := below1 w2 (.cells #[.int .i64 (powCh c 0).n, .int .i64 (powCh c 0).t, .slice ra (powCh c 0).w.length rac] 26)
      have hO := Blk.new w2 #[.int .i64 (powCh c 0).n, .int .i64 (powCh c 0).t, .slice ra (powCh c 0).w.length rac] 26
      replace S0 := S0.step b3
      replace hB := hB.step b3
      replace hZ := hZ.step b3
      replace Kc := Kc.keep b3
      have BB3 := below_wt BB2 b3
      have hsz3 : w2.heap.size < (w2.alloc (.cells #[.int .i64 (powCh c 0).n, .int .i64 (powCh c 0).t, .slice ra (powCh c 0).w.length rac] 26)).heap.size := by simp
      have lo2 : w.heap.size + 2 ≤ w1.heap.size := by omega
      clear hp0 own
      go_upto_region 6 with fail
      obtain ⟨W, hW⟩ : ∃ W, w2.alloc (.cells #[.int .i64 (powCh c 0).n, .int .i64 (powCh c 0).t, .slice ra (powCh c 0).w.length rac] 26) = W := ⟨_, rfl⟩
      rw [hW] at hO S0 hB hZ Kc BB3 hsz3 ⊢
      clear hW BB2 BB b2 b3
      have hcK := Lib.hid (fun W' (h : Below w.heap.size w W') => hc.keep h)
      obtain ⟨B, hBB⟩ : ∃ B, w2.heap.size = B := ⟨_, rfl⟩
      rw [hBB] at hO hsz3 S0 hsz2 ⊢
      have hl2 : w.heap.size + 2 ≤ B := by omega
      have hpn := Lib.hid (fun i => powCh_n c i)
      have hpo := Lib.hid (fun i h => powCh_ok oc'.out i h)
      have hlim := Lib.hid (fun i (h : (powCh c i).t ≤ 60) => then_lim (powCh_ok oc'.out i h) oc'.out (powCh_n c i))
      have hpz : (powCh c 0).t ≤ 60 := by simp [powCh, stayCh]
      clear hBB hc
      go_wp2
      go_loopw [7, 23] (fun cd i wr => ∃ (m lo hi : Nat) (oa : Option Addr) (ocap : Nat), m ≤ k ∧ cd = .int .i64 0 ∧ i = .int .i64 m ∧ Blk wr w.heap.size #[.int .i64 c.n, .int .i64 c.t, .slice a c.w.length cap] 26 ∧ Blk wr (w.heap.size + 1) #[.int .i64 0, .int .i64 0, .slice none 0 0] 26 ∧
          Blk wr B #[.int .i64 (powCh c m).n, .int .i64 (powCh c m).t, .slice oa (powCh c m).w.length ocap] 26 ∧ ChMine 37 2 wr lo hi (.agg #[.int .i64 (powCh c m).n, .int .i64 (powCh c m).t, .slice oa (powCh c m).w.length ocap]) (powCh c m) ∧ w.heap.size + 2 ≤ lo ∧ (B < lo ∨ hi ≤ B) ∧ Below w.heap.size w wr ∧ (powCh c m).t ≤ 60) (fun _ i _ => k - (intOf i).toNat)
      case atStart => exact ⟨0, _, _, _, _, Nat.zero_le _, rfl, rfl, hB, hZ, hO, S0, lo2, Or.inr (Nat.le_refl _), BB3, hpz⟩
      case round =>
        obtain ⟨wo, rfl⟩ : ∃ wo : World, wo = wr := ⟨_, rfl⟩
        obtain ⟨m, lo, hi, oa, ocap, hm, rfl, rfl, hB1, hZ1, hO1, S1, hlo, hd, bel, h60⟩ := hrel
        clear hB hZ hO S0 BB3
        by_cases hlt : m < k
        · have hmI : (m : Int) < (k : Int) := by omega
          have Kc := hcK.out wo bel
          have hn := hpn.out m
          have hth := ThenChain_impl _ _ (powCh c m) c wo S1.ch Kc
          have ht : thenOf (powCh c m) c = if 60 < (powCh c (m + 1)).t then (zeroCh, 3) else (powCh c (m + 1), 0) := by
            have h0 : pairCode (powCh c m) c = 0 := by simp [pairCode, hpo.out m h60, oc'.out, hn]
            simp only [thenOf, h0, if_true]; exact hlim.out m h60
          have hup1 := Lib.hid (hup.out (m + 1) (by omega))
          have hsz := hB1.lt
          clear hn Kc
          obtain ⟨P, hP⟩ : ∃ P, powCh c m = P := ⟨_, rfl⟩
          by_cases h6 : 60 < (powCh c (m + 1)).t
          · rw [if_pos h6] at ht
            rw [ht] at hth
            have hr := Lib.hid (show skipOf c k = (zeroCh, 3) by rw [hres.out, if_pos (hup1.out h6)])
            rw [hP] at hth hO1
            clear ht hP S1 h60 h6
            obtain ⟨p0, p1, p2⟩ := hO1.three
            obtain ⟨q0, q1, q2⟩ := hB1.three
            go_wp2_with fail
            refine hth.mono ?_
            rintro e w3 ⟨rv, rfl, own3, b3⟩
            clear p0 p1 p2 q0 q1 q2
            obtain ⟨ta, tac, rfl⟩ := own3.shape
            have hO3 := hO1.step b3
            have hZ3 := hZ1.step b3
            have BB := below_wt bel b3
            obtain ⟨p0, p1, p2⟩ := hO3.three
            have f0 := hO3.frozen 0
            have f1 := hO3.frozen 1
            have f2 := hO3.frozen 2
            obtain ⟨z0, z1, z2⟩ := hZ3.three
            have g0 := hZ3.frozen 0
            have g1 := hZ3.frozen 1
            have g2 := hZ3.frozen 2
            have nz : w.heap.size + 1 ≠ B := by omega
            go_wp2
            refine bodyPost_ret (v := .tuple #[.agg #[.int .i64 0, .int .i64 0, .slice none 0 0], .int .i64 3]) (by simp [results, Try.results27, go_sem, z0, z1, z2]) rfl ?_
            rw [hr.out]
            exact ⟨_, rfl, zero_own _ _ _, Below.filled (Below.filled BB (by omega) _ _ _) (by omega) _ _ _⟩
          · rw [if_neg h6] at ht
            rw [ht] at hth
            rw [hP] at hth hO1
            obtain ⟨Q, hQ⟩ : ∃ Q, powCh c (m + 1) = Q := ⟨_, rfl⟩
            rw [hQ] at hth h6
            have hQ' := Lib.hid hQ
            have h6' : Q.t ≤ 60 := by omega
            clear ht hP S1 h60 h6 hQ
            obtain ⟨p0, p1, p2⟩ := hO1.three
            obtain ⟨q0, q1, q2⟩ := hB1.three
            go_wp2_with fail
            refine hth.mono ?_
            rintro e w3 ⟨rv, rfl, own3, b3⟩
            clear p0 p1 p2 q0 q1 q2
            have S3 := own3.mine
            obtain ⟨ta, tac, rfl⟩ := own3.shape
            have hO3 := hO1.step b3
            have hZ3 := hZ1.step b3
            have hB3 := hB1.step b3
            have BB := below_wt bel b3
            have hltO := hO1.lt
            have hsz3 := b3.size
            obtain ⟨p0, p1, p2⟩ := hO3.three
            have f0 := hO3.frozen 0
            have f1 := hO3.frozen 1
            have f2 := hO3.frozen 2
            clear own3
            go_wp2
            go_roundw
            case rel =>
              refine ⟨m + 1, wo.heap.size, w3.heap.size, ta, tac, by omega, rfl, by go_num, hB3.store3 (by omega) _ _ _, hZ3.store3 (by omega) _ _ _, ?_, ?_, by omega, Or.inl hltO, Below.filled BB (by omega) _ _ _, by rw [hQ'.out]; exact h6'⟩
              · rw [hQ'.out]; exact hO3.filled _ _ _
              · rw [hQ'.out]; exact S3.filled (Or.inl hltO) _ _ _
            case measure => simp [intOf]; omega
        · obtain rfl : m = k := by omega
          have hr := Lib.hid (show skipOf c m = (powCh c m, 0) by rw [hres.out, if_neg (by omega)])
          obtain ⟨P, hP⟩ : ∃ P, powCh c m = P := ⟨_, rfl⟩
          rw [hP] at hO1 S1 hr
          have hltO := hO1.lt
          clear hP h60
          obtain ⟨p0, p1, p2⟩ := hO1.three
          obtain ⟨z0, z1, z2⟩ := hZ1.three
          have g0 := hZ1.frozen 0
          have g1 := hZ1.frozen 1
          have g2 := hZ1.frozen 2
          go_wp2
          refine bodyPost_ret (v := .tuple #[.agg #[.int .i64 P.n, .int .i64 P.t, .slice oa P.w.length ocap], .int .i64 0]) (by simp [results, Try.results27, go_sem, z0, z1, z2]) rfl ?_
          rw [hr.out]
          have S2 := S1.filled (b := w.heap.size + 1) (Or.inl (by omega)) (.int .i64 P.n) (.int .i64 P.t) (.slice oa P.w.length ocap)
          exact ⟨_, rfl, S2.own.wide (by omega) S2.le, Below.filled bel (by omega) _ _ _⟩
    · have hkf : inB k 0 40 = false := by simpa using hk
      have hr := Lib.hid (show skipOf c k = (zeroCh, 2) by simp [skipOf, oc, hkf])
      have hin : ∀ W, Calls Try.prog 70 #[.int .i64 k, .int .i64 0, .int .i64 40] W fun e w' => e = .returned (.bool false) ∧ W = w' := fun W => by
        have := isIn_any k 0 40 W
        rw [hkf] at this; exact this
      have hin' := Lib.hid hin
      clear hst hk hin hN oc hkf
      go_enter Try.func27, Try.ntmps27
      go_wp2_with fail
      refine (ValidChain_impl _ c _ Kc).mono ?_
      rintro e w1 ⟨rfl, b1⟩
      rw [oc'.out]
      replace hZ := hZ.step b1
      have BB := below_wt B0 b1
      go_wp2_with fail
      refine (hin'.out _).mono ?_
      rintro e w2 ⟨rfl, rfl⟩
      obtain ⟨z0, z1, z2⟩ := hZ.three
      have g0 := hZ.frozen 0
      have g1 := hZ.frozen 1
      have g2 := hZ.frozen 2
      go_wp2
      refine bodyPost_ret (v := .tuple #[.agg #[.int .i64 0, .int .i64 0, .slice none 0 0], .int .i64 2]) (by simp [results, Try.results27, go_sem, z0, z1, z2]) rfl ?_
      rw [hr.out]
      exact ⟨_, rfl, zero_own _ _ _, Below.filled BB (by omega) _ _ _⟩
  · have oc' : chOk c = false := by simpa using oc
    have hr := Lib.hid (show skipOf c k = (zeroCh, 1) by simp [skipOf, oc'])
    have oc2 := Lib.hid oc'
    clear oc oc'
    go_enter Try.func27, Try.ntmps27
    go_wp2_with fail
    refine (ValidChain_impl _ c _ Kc).mono ?_
    rintro e w1 ⟨rfl, b1⟩
    rw [oc2.out]
    replace hZ := hZ.step b1
    have BB := below_wt B0 b1
    obtain ⟨z0, z1, z2⟩ := hZ.three
    have g0 := hZ.frozen 0
    have g1 := hZ.frozen 1
    have g2 := hZ.frozen 2
    go_wp2
    refine bodyPost_ret (v := .tuple #[.agg #[.int .i64 0, .int .i64 0, .slice none 0 0], .int .i64 1]) (by simp [results, Try.results27, go_sem, z0, z1, z2]) rfl ?_
    rw [hr.out]
    exact ⟨_, rfl, zero_own _ _ _, Below.filled BB (by omega) _ _ _⟩
end Go.Proofs.Ytepajimcnheofaa
