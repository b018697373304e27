/- The chance to be in a state after some steps: the model of both sides, and the project's function. Conditions: told by the code. -/
import Derived.Test.YtiddhnnofpbopaaGreatDoorSa
import Derived.Test.YtiddhnnofpbopaaGreatDoorStH
import Derived.Test.YtiddhnnofpbopaaGreatDoorDigG
import Derived.Test.YtiddhnnofpbopaaGreatDoorFsG
namespace Go.Proofs.YtiddhnnofpbopaaGreatDoor
open Go.RowKit Go.Deep
set_option linter.unusedVariables false
set_option linter.unusedSimpArgs false

/-- what ChanceAfter hands back -/
def caR (c : Ch) (s t m : Int) : (ByteArray × ByteArray) × Int :=
  if chOk c = true then (if (inB s 0 (c.n - 1) && (inB t 0 (c.n - 1) && inB m 0 40)) = true then
    (vecOne ((afterN c.w (sureN c.n.toNat s.toNat) c.n.toNat m.toNat).getD t.toNat 0) (1 * c.t.toNat ^ m.toNat), toldC ((afterN c.w (sureN c.n.toNat s.toNat) c.n.toNat m.toNat).getD t.toNat 0 / Nat.gcd ((afterN c.w (sureN c.n.toNat s.toNat) c.n.toNat m.toNat).getD t.toNat 0) (1 * c.t.toNat ^ m.toNat)) ((1 * c.t.toNat ^ m.toNat) / Nat.gcd ((afterN c.w (sureN c.n.toNat s.toNat) c.n.toNat m.toNat).getD t.toNat 0) (1 * c.t.toNat ^ m.toNat)))
    else ((⟨#[]⟩, ⟨#[]⟩), 2)) else ((⟨#[]⟩, ⟨#[]⟩), 1)
structure CaF (c : Ch) (s t m n T : Nat) (B : List Nat) (N E : Nat) : Prop where
  ch : ChF c n T
  sn : s < n
  tn : t < n
  m40 : m ≤ 40
  a9 : ∀ k, k < n → dlen B9 ((sureN n s).getD k 0) ≤ 1
  aW : ∀ k, k < n → dlen W32 ((sureN n s).getD k 0) ≤ 1
  bl : B.length = n
  bn : B.getD t 0 = N
  n9 : dlen B9 N ≤ 1000000
  nW : dlen W32 N ≤ 1000000
  e0 : 0 < E
  e9 : dlen B9 E ≤ 1000000
  eW : dlen W32 E ≤ 1000000
  val : caR c s t m = (vecOne N E, toldC (N / Nat.gcd N E) (E / Nat.gcd N E))
theorem caF_of (c : Ch) (s t m : Nat) (h2 : chOk c = true) (hs : inB s 0 (c.n - 1) = true) (ht : inB t 0 (c.n - 1) = true) (hm : inB m 0 40 = true) :
    ∃ n T, CaF c s t m n T (afterN c.w (sureN n s) n m) ((afterN c.w (sureN n s) n m).getD t 0) (1 * T ^ m) := by
  have hc := chF_of h2
  obtain ⟨_, s1⟩ := inB_iff.1 hs
  obtain ⟨_, t1⟩ := inB_iff.1 ht
  obtain ⟨_, m1⟩ := inB_iff.1 hm
  have hn := hc.nn
  have n6 := hc.n6
  generalize hnn : c.n.toNat = n at *
  have a9 : ∀ k, k < n → dlen B9 ((sureN n s).getD k 0) ≤ 1 := fun k hk => dlen_le b9 (by rw [sureN_get n s k hk]; split <;> decide)
  have aW : ∀ k, k < n → dlen W32 ((sureN n s).getD k 0) ≤ 1 := fun k hk => dlen_le w32 (by rw [sureN_get n s k hk]; split <;> decide)
  have w9 : ∀ j k, k < n → dlen B9 (wt c.w k j) ≤ 1 := fun j k hk => dlen_le b9 (by have := wt_lt c _ _ hc j k hk; simp only [B9]; omega)
  have wW : ∀ j k, k < n → dlen W32 (wt c.w k j) ≤ 1 := fun j k hk => dlen_le w32 (by have := wt_lt c _ _ hc j k hk; simp only [W32]; omega)
  have q1 := afterN_len b9 c.w _ n 1 1 (sureN_length n s) a9 w9 m
  have q2 := afterN_len w32 c.w _ n 1 1 (sureN_length n s) aW wW m
  have t9 : dlen B9 c.t.toNat ≤ 1 := dlen_le b9 (by have := hc.t2; simp only [B9]; omega)
  have tW : dlen W32 c.t.toNat ≤ 1 := dlen_le w32 (by have := hc.t2; simp only [W32]; omega)
  have u1 := pow_len b9 1 c.t.toNat 1 1 (dlen_le b9 (by decide)) t9 m
  have u2 := pow_len w32 1 c.t.toNat 1 1 (dlen_le w32 (by decide)) tW m
  have hmn : m * (1 + n) ≤ 40 * 7 := Nat.mul_le_mul (by omega) (by omega)
  have g1 := q1.2 t (by omega)
  have g2 := q2.2 t (by omega)
  refine ⟨n, c.t.toNat, hc, by omega, by omega, by omega, a9, aW, q1.1, rfl, by omega, by omega, Nat.mul_pos (by decide) (Nat.pow_pos (by have := hc.t1; omega)), by omega, by omega, ?_⟩
  unfold caR
  rw [if_pos h2, if_pos (by rw [hs, ht, hm]; rfl), Int.toNat_natCast, Int.toNat_natCast, Int.toNat_natCast, hnn]
theorem caR_bad {c : Ch} {s t m : Int} (h : chOk c = false) : caR c s t m = ((⟨#[]⟩, ⟨#[]⟩), 1) := by
  unfold caR; rw [if_neg (by rw [h]; decide)]
theorem caR_out {c : Ch} {s t m : Int} (h : chOk c = true) (hb : (inB s 0 (c.n - 1) && (inB t 0 (c.n - 1) && inB m 0 40)) = false) : caR c s t m = ((⟨#[]⟩, ⟨#[]⟩), 2) := by
  unfold caR; rw [if_pos h, if_neg (by rw [hb]; decide)]

set_option maxRecDepth 100000 in
set_option maxHeartbeats 40000000 in
theorem ChanceAfter_impl (cv : Value) (c : Ch) (si ti mi : Int) (w : World) (hc : ChR w cv c) (htab : Tab10 w) :
    Calls Tryz.prog 9 #[cv, .int .i64 si, .int .i64 ti, .int .i64 mi] w fun e w' => e = .returned (.tuple #[.agg #[.string (caR c si ti mi).1.1, .string (caR c si ti mi).1.2], .int .i64 (caR c si ti mi).2]) ∧ Below w.heap.size w w' := by
  obtain ⟨ca, ccap, hcv, hcr⟩ : ∃ a cap, cv = .agg #[.int .i64 c.n, .int .i64 c.t, .slice a c.w.length cap] ∧ Rows2 w (.slice a c.w.length cap) c.w := by
    obtain ⟨v, rfl, hr⟩ := hc
    obtain ⟨_, a, cap, rfl⟩ := hr.len
    exact ⟨a, cap, rfl, hr⟩
  subst hcv
  have b1 := below1 w (.cells #[.int .i64 c.n, .int .i64 c.t, .slice ca c.w.length ccap] 26)
  have b2 := below1 (w.alloc (.cells #[.int .i64 c.n, .int .i64 c.t, .slice ca c.w.length ccap] 26)) (.cells #[.string ⟨#[]⟩, .string ⟨#[]⟩] 30)
  have b12 := below_wt b1 b2
  have hB := (Blk.new w #[.int .i64 c.n, .int .i64 c.t, .slice ca c.w.length ccap] 26).keep b2 (Blk.new _ _ _).lt
  have hRb := Blk.new (w.alloc (.cells #[.int .i64 c.n, .int .i64 c.t, .slice ca c.w.length ccap] 26)) #[.string ⟨#[]⟩, .string ⟨#[]⟩] 30
  simp only [World.size_alloc] at hRb
  have K := hc.keep b12
  have hW0 := Lib.hid (hcr.keep b12)
  have htab' := Lib.hid htab
  obtain ⟨q0, q1, q2⟩ := (⟨hB.cell 0, hB.cell 1, hB.cell 2⟩ : _ ∧ _ ∧ _)
  simp only [List.getElem?_toArray, List.getElem?_cons_zero, List.getElem?_cons_succ] at q0 q1 q2
  have hvc := Lib.hid (ValidChain_impl _ c _ K)
  replace K := Lib.hid K
  replace b12 := Lib.hid b12
  clear hc htab hcr b1 b2
  go_enter Tryz.func9, Tryz.ntmps9
  go_wp2_with fail
  (with_reducible refine hvc.out.mono ?_)
  rintro e w1 ⟨rfl, b1⟩
  have hB1 := hB.keep b1 hB.lt
  have hR1 := hRb.keep b1 hRb.lt
  have K1 := Lib.hid (K.out.keep b1)
  have hW1 := Lib.hid (hW0.out.keep b1)
  have B1 := Lib.hid (below_wt b12.out b1)
  clear b1 hB hRb K hW0 b12 hvc q0 q1 q2
  rcases hok : chOk c with _ | _
  · have hr := Lib.hid (caR_bad (s := si) (t := ti) (m := mi) hok)
    obtain ⟨z0, z1⟩ := (⟨hR1.cell 0, hR1.cell 1⟩ : _ ∧ _)
    have f0 := hR1.frozen 0
    have f1 := hR1.frozen 1
    simp only [List.getElem?_toArray, List.getElem?_cons_zero, List.getElem?_cons_succ] at z0 z1
    have Bf := Lib.hid ((B1.out.setCell (p := ⟨w.heap.size + 1, 0, none⟩) (Nat.le_succ _) (.string ⟨#[]⟩)).setCell (p := ⟨w.heap.size + 1, 1, none⟩) (Nat.le_succ _) (.string ⟨#[]⟩))
    clear hok hB1 K1 hW1 hR1
    go_wp2
    refine bodyPost_ret (v := .tuple #[.agg #[.string ⟨#[]⟩, .string ⟨#[]⟩], .int .i64 1]) (by simp [results, Tryz.results9, go_sem, z0, z1]) rfl ?_
    exact ⟨by rw [hr.out]; first | done | rfl, Bf.out⟩
  · have hcf := chF_of hok
    have n1 := hcf.n1
    have n6 := hcf.n6
    have nn := hcf.nn
    have hok' := Lib.hid hok
    clear hok hcf
    obtain ⟨q0, q1, q2⟩ := (⟨hB1.cell 0, hB1.cell 1, hB1.cell 2⟩ : _ ∧ _ ∧ _)
    simp only [List.getElem?_toArray, List.getElem?_cons_zero, List.getElem?_cons_succ] at q0 q1 q2
    have hs1 := Lib.hid (isState_any _ c si _ K1.out (by omega) (by omega))
    replace nn := Lib.hid nn
    go_wp2_with fail
    (with_reducible refine hs1.out.mono ?_)
    rintro e w2 ⟨rfl, b2⟩
    have hB2 := hB1.keep b2 hB1.lt
    have hR2 := hR1.keep b2 hR1.lt
    have K2 := Lib.hid (K1.out.keep b2)
    have hW2 := Lib.hid (hW1.out.keep b2)
    have B2 := Lib.hid (below_wt B1.out b2)
    clear b2 hB1 hR1 K1 hW1 B1 hs1 q0 q1 q2
    rcases hs : inB si 0 (c.n - 1) with _ | _
    · have hr := Lib.hid (caR_out (t := ti) (m := mi) hok'.out (by rw [hs]; rfl))
      obtain ⟨z0, z1⟩ := (⟨hR2.cell 0, hR2.cell 1⟩ : _ ∧ _)
      have f0 := hR2.frozen 0
      have f1 := hR2.frozen 1
      simp only [List.getElem?_toArray, List.getElem?_cons_zero, List.getElem?_cons_succ] at z0 z1
      have Bf := Lib.hid ((B2.out.setCell (p := ⟨w.heap.size + 1, 0, none⟩) (Nat.le_succ _) (.string ⟨#[]⟩)).setCell (p := ⟨w.heap.size + 1, 1, none⟩) (Nat.le_succ _) (.string ⟨#[]⟩))
      clear hB2 K2 hW2 hR2 hs
      go_wp2
      refine bodyPost_ret (v := .tuple #[.agg #[.string ⟨#[]⟩, .string ⟨#[]⟩], .int .i64 2]) (by simp [results, Tryz.results9, go_sem, z0, z1]) rfl ?_
      exact ⟨by rw [hr.out]; first | done | rfl, Bf.out⟩
    · obtain ⟨q0, q1, q2⟩ := (⟨hB2.cell 0, hB2.cell 1, hB2.cell 2⟩ : _ ∧ _ ∧ _)
      simp only [List.getElem?_toArray, List.getElem?_cons_zero, List.getElem?_cons_succ] at q0 q1 q2
      have nn' := nn.out
      have hs1 := Lib.hid (isState_any _ c ti _ K2.out (by omega) (by omega))
      have hs' := Lib.hid hs
      clear nn' hs
      go_wp2_with fail
      (with_reducible refine hs1.out.mono ?_)
      rintro e w3 ⟨rfl, b3⟩
      have hB3 := hB2.keep b3 hB2.lt
      have hR3 := hR2.keep b3 hR2.lt
      have hW3 := Lib.hid (hW2.out.keep b3)
      have B3 := Lib.hid (below_wt B2.out b3)
      have hisin := Lib.hid (isIn_any mi 0 40 w3)
      have hRc := Lib.hid (fun (h : (inB ti 0 (c.n - 1) && inB mi 0 40) = false) => (show caR c si ti mi = ((⟨#[]⟩, ⟨#[]⟩), 2) from caR_out hok'.out (by rw [hs'.out]; exact h)))
      obtain ⟨z0, z1⟩ := (⟨hR3.cell 0, hR3.cell 1⟩ : _ ∧ _)
      have f0 := hR3.frozen 0
      have f1 := hR3.frozen 1
      simp only [List.getElem?_toArray, List.getElem?_cons_zero, List.getElem?_cons_succ] at z0 z1
      have Bf := Lib.hid ((B3.out.setCell (p := ⟨w.heap.size + 1, 0, none⟩) (Nat.le_succ _) (.string ⟨#[]⟩)).setCell (p := ⟨w.heap.size + 1, 1, none⟩) (Nat.le_succ _) (.string ⟨#[]⟩))
      clear b3 hB2 hR2 K2 hW2 B2 hs1 q0 q1 q2
      rcases ht : inB ti 0 (c.n - 1) with _ | _
      · have hr := Lib.hid (hRc.out (by rw [ht]; rfl))
        clear hB3 hW3 hR3 ht hisin hRc
        go_wp2
        refine bodyPost_ret (v := .tuple #[.agg #[.string ⟨#[]⟩, .string ⟨#[]⟩], .int .i64 2]) (by simp [results, Tryz.results9, go_sem, z0, z1]) rfl ?_
        exact ⟨by rw [hr.out]; first | done | rfl, Bf.out⟩
      · rcases hm : inB mi 0 40 with _ | _
        · have hr := Lib.hid (hRc.out (by rw [ht, hm]; rfl))
          rw [hm] at hisin
          clear hB3 hW3 hR3 ht hRc hm
          go_wp2_with fail
          (with_reducible refine hisin.out.mono ?_)
          rintro e w4 ⟨rfl, rfl⟩
          go_wp2
          refine bodyPost_ret (v := .tuple #[.agg #[.string ⟨#[]⟩, .string ⟨#[]⟩], .int .i64 2]) (by simp [results, Tryz.results9, go_sem, z0, z1]) rfl ?_
          exact ⟨by rw [hr.out]; first | done | rfl, Bf.out⟩
        · have u1 := inB_iff.1 hs'.out
          have u2 := inB_iff.1 ht
          have u3 := inB_iff.1 hm
          obtain ⟨s, rfl⟩ : ∃ x : Nat, si = x := ⟨si.toNat, by omega⟩
          obtain ⟨t, rfl⟩ : ∃ x : Nat, ti = x := ⟨ti.toNat, by omega⟩
          obtain ⟨m, rfl⟩ : ∃ x : Nat, mi = x := ⟨mi.toNat, by omega⟩
          rw [hm] at hisin
          obtain ⟨n, T, hF⟩ := caF_of c s t m hok'.out hs'.out ht hm
          obtain ⟨⟨_, _, t1, t2, hcn, hct, hcl, hrow⟩, hsn, htn, m40, a9, aW, bl, bn, n9, nW, e0, e9, eW, hval⟩ := hF
          have m1 := n1
          rw [hcn] at n1 n6
          simp only [Int.toNat_natCast] at n1 n6
          have hmn : m * (2 + n) ≤ 40 * 8 := Nat.mul_le_mul m40 (by omega)
          rw [hcn, hct, hcl] at hB3
          rw [hcl] at hW3
          have hst := Lib.hid (fun w2 (nv dv : Value) (hb : Below w3.heap.size w3 w2) (h1 : RowL LongI w2 nv (sureN n s)) (h2 : LongI w2 dv 1) => sharingSteps_any nv dv (.slice ca n ccap) (sureN n s) 1 n 1 T m c.w w2 h1 h2 (hW3.out.keep hb) (sureN_length n s) n1 (by omega) hcl hrow (by omega) aW (dlen_le w32 (by decide)) (by omega) (by omega))
          obtain ⟨B, hBe⟩ : ∃ B, afterN c.w (sureN n s) n m = B := ⟨_, rfl⟩
          obtain ⟨E, hEe⟩ : ∃ E, 1 * T ^ m = E := ⟨_, rfl⟩
          obtain ⟨N, hNe⟩ : ∃ N, (afterN c.w (sureN n s) n m).getD t 0 = N := ⟨_, rfl⟩
          rw [hBe] at hst bl bn hNe
          rw [hEe] at hst
          simp only [hBe, hEe] at hval e0 e9 eW n9 nW
          simp only [hNe] at hval n9 nW bn
          have hat := Lib.hid (fun w2 (nv dv : Value) (h1 : RowL LongI w2 nv B) (h2 : LongI w2 dv E) => (sharingAt_any nv dv B E t w2 h1 h2 (by rw [bl]; exact htn) (by rw [bl]; omega)))
          rw [hNe] at hat
          obtain ⟨x, hx⟩ : ∃ x, toldN (N / Nat.gcd N E) (E / Nat.gcd N E) = x := ⟨_, rfl⟩
          obtain ⟨y, hy⟩ : ∃ x, toldD (N / Nat.gcd N E) (E / Nat.gcd N E) = x := ⟨_, rfl⟩
          obtain ⟨CC, hCC⟩ : ∃ x, toldC (N / Nat.gcd N E) (E / Nat.gcd N E) = x := ⟨_, rfl⟩
          have hfr1 := Lib.hid (fun w2 (a b : Value) (hb : Below w3.heap.size w3 w2) (h1 : LongI w2 a N) (h2 : LongI w2 b E) => fraction_any a b N E w2 h1 h2 e0 nW eW ((htab'.out.keep B3.out).keep hb))
          rw [hx, hy, hCC] at hfr1
          unfold vecOne at hval
          rw [hx, hy, hCC] at hval
          replace hval := Lib.hid hval
          have cC0 := Lib.hid (fun w1 (hb : Below w3.heap.size w3 w1) => (show w1.cell? ⟨w.heap.size, 0, none⟩ = some (.int .i64 (n : Int)) from (hB3.keep hb hB3.lt).cell 0))
          have cC1 := Lib.hid (fun w1 (hb : Below w3.heap.size w3 w1) => (show w1.cell? ⟨w.heap.size, 1, none⟩ = some (.int .i64 (T : Int)) from (hB3.keep hb hB3.lt).cell 1))
          have cC2 := Lib.hid (fun w1 (hb : Below w3.heap.size w3 w1) => (show w1.cell? ⟨w.heap.size, 2, none⟩ = some (.slice ca n ccap) from (hB3.keep hb hB3.lt).cell 2))
          have hRb := Lib.hid hR3
          have BV := B3
          clear hok' hs' ht hm u1 u2 u3 hcn hct hcl hrow a9 aW bl bn n9 nW e0 e9 eW hBe hEe hNe hx hy hCC hB3 hW3 hR3 htab' m1 hRc Bf z0 z1 f0 f1 nn
          go_wp2_with fail
          (with_reducible refine hisin.out.mono ?_)
          rintro e w4 ⟨rfl, rfl⟩
          obtain ⟨V, hV⟩ : ∃ V, w3 = V := ⟨_, rfl⟩
          rw [hV] at hst hfr1 cC0 cC1 cC2 hRb BV ⊢
          clear hV hisin B3
          go_upto_region 5 with fail
          refine' Rgn.region_by (fun i => match i with | 12 => 1 | 13 => 2 | _ => 0) 2 (fun _ => false) (fun i _ v w' => match i with
              | 0 => v = .pointer (some ⟨w.heap.size, 0, none⟩)
              | 1 => v = .int .i64 (n : Int)
              | 2 => v = .int .i64 (s : Int)
              | 3 => ∃ p q, v = .agg #[p, q] ∧ RowL LongI w' p (sureN n s) ∧ LongI w' q 1
              | 4 => v = .agg #[.int .i64 (n : Int), .int .i64 (T : Int), .slice ca n ccap]
              | 5 => v = .int .i64 (m : Int)
              | 6 => ∃ p q, v = .agg #[p, q] ∧ RowL LongI w' p B ∧ LongI w' q E
              | 7 => v = .int .i64 (t : Int)
              | 8 => ∃ p q, v = .agg #[p, q] ∧ LongI w' p (N) ∧ LongI w' q (E)
              | 9 => v = .tuple #[.agg #[.string x, .string y], .int .i64 CC]
              | 10 => v = .agg #[.string x, .string y]
              | 11 => v = .int .i64 CC
              | _ => True) (fun i _ v => match i with
              | 0 => v = .pointer (some ⟨w.heap.size, 0, none⟩)
              | 1 => v = .int .i64 (n : Int)
              | 2 => v = .int .i64 (s : Int)
              | 3 => True
              | 4 => v = .agg #[.int .i64 (n : Int), .int .i64 (T : Int), .slice ca n ccap]
              | 5 => v = .int .i64 (m : Int)
              | 6 => True
              | 7 => v = .int .i64 (t : Int)
              | 8 => True
              | 9 => v = .tuple #[.agg #[.string x, .string y], .int .i64 CC]
              | 10 => v = .agg #[.string x, .string y]
              | 11 => v = .int .i64 CC
              | _ => True)
              (fun p z w' => Blk w' (w.heap.size + 1) #[.string x, .string y] 30 ∧ Below w.heap.size w w' ∧ (p = 2 → z 13 = .int .i64 CC)) (by kernel_rfl) (by kernel_rfl) (by kernel_rfl) ?hst_a ?hG_a _ ?hfr_a ?hob_a ?hend_a
          case hfr_a =>
            intro z
            simp only [Rgn.fillAll, Act.put, List.setIfInBounds_toArray, List.set_cons_zero, List.set_cons_succ, Nat.reduceAdd, Nat.zero_add]
            exact rfl
          case hst_a =>
            intro i z v w1 w2 hi hb hx
            rcases i with _ | i
            · exact hx
            rcases i with _ | i
            · exact hx
            rcases i with _ | i
            · exact hx
            rcases i with _ | i
            · exact (fun v w1 w2 hb h => h.elim fun p h => h.elim fun q h => ⟨p, q, h.1, h.2.1.keep likeI hb, h.2.2.keep hb⟩) v w1 w2 hb hx
            rcases i with _ | i
            · exact hx
            rcases i with _ | i
            · exact hx
            rcases i with _ | i
            · exact (fun v w1 w2 hb h => h.elim fun p h => h.elim fun q h => ⟨p, q, h.1, h.2.1.keep likeI hb, h.2.2.keep hb⟩) v w1 w2 hb hx
            rcases i with _ | i
            · exact hx
            rcases i with _ | i
            · exact (fun v w1 w2 hb h => h.elim fun p h => h.elim fun q h => ⟨p, q, h.1, h.2.1.keep hb, h.2.2.keep hb⟩) v w1 w2 hb hx
            rcases i with _ | i
            · exact (fun v w1 w2 hb h => h) v w1 w2 hb hx
            rcases i with _ | i
            · exact hx
            rcases i with _ | i
            · exact hx
            rcases i with _ | i
            · exact trivial
            rcases i with _ | i
            · exact trivial
            exact trivial
          case hG_a =>
            intro i z v w1 hi hx
            rcases i with _ | i
            · exact hx
            rcases i with _ | i
            · exact hx
            rcases i with _ | i
            · exact hx
            rcases i with _ | i
            · trivial
            rcases i with _ | i
            · exact hx
            rcases i with _ | i
            · exact hx
            rcases i with _ | i
            · trivial
            rcases i with _ | i
            · exact hx
            rcases i with _ | i
            · trivial
            rcases i with _ | i
            · exact hx
            rcases i with _ | i
            · exact hx
            rcases i with _ | i
            · exact hx
            rcases i with _ | i
            · exact trivial
            rcases i with _ | i
            · exact trivial
            exact trivial
          case hob_a =>
            intro hfr
            refine Rgn.AllOb.cons (j := 1) (by kernel_rfl) ?_ ?_
            · refine' Rgn.ob_body (fr := _) ?hf_a0 ?h1_a0 ?h2_a0 ?h3_a0 ?h_a0
              case hf_a0 => exact hfr
              case h1_a0 => kernel_rfl
              case h2_a0 => kernel_rfl
              case h3_a0 => rfl
              clear hfr
              intro z w1 hb hd ho K hK
              clear hd ho
              go_simp
              have hh := hK.out (.pointer (some ⟨w.heap.size, 0, none⟩)) _ (Below.refl _ _) rfl
              simp only [Act.put, List.setIfInBounds_toArray, List.set_cons_zero, List.set_cons_succ] at hh
              exact hh
            refine Rgn.AllOb.cons (j := 2) (by kernel_rfl) ?_ ?_
            · refine' Rgn.ob_body (fr := _) ?hf_a1 ?h1_a1 ?h2_a1 ?h3_a1 ?h_a1
              case hf_a1 => exact hfr
              case h1_a1 => kernel_rfl
              case h2_a1 => kernel_rfl
              case h3_a1 => rfl
              clear hfr
              intro z w1 hb hd ho K hK
              have e0 : z 0 = .pointer (some ⟨w.heap.size, 0, none⟩) := hd.out 0 (by kernel_rfl)
              clear hd ho
              have x0 := cC0.out w1 hb
              go_simp
              have hh := hK.out (.int .i64 (n : Int)) _ (Below.refl _ _) rfl
              simp only [Act.put, List.setIfInBounds_toArray, List.set_cons_zero, List.set_cons_succ, e0] at hh
              exact hh
            refine Rgn.AllOb.cons (j := 3) (by kernel_rfl) ?_ ?_
            · refine' Rgn.ob_body (fr := _) ?hf_a2 ?h1_a2 ?h2_a2 ?h3_a2 ?h_a2
              case hf_a2 => exact hfr
              case h1_a2 => kernel_rfl
              case h2_a2 => kernel_rfl
              case h3_a2 => rfl
              clear hfr
              intro z w1 hb hd ho K hK
              clear hd ho
              go_simp
              have hh := hK.out (.int .i64 (s : Int)) _ (Below.refl _ _) rfl
              simp only [Act.put, List.setIfInBounds_toArray, List.set_cons_zero, List.set_cons_succ] at hh
              exact hh
            refine Rgn.AllOb.cons (j := 4) (by kernel_rfl) ?_ ?_
            · refine' Rgn.ob_body (fr := _) ?hf_a3 ?h1_a3 ?h2_a3 ?h3_a3 ?h_a3
              case hf_a3 => exact hfr
              case h1_a3 => kernel_rfl
              case h2_a3 => kernel_rfl
              case h3_a3 => rfl
              clear hfr
              intro z w1 hb hd ho K hK
              have e1 : z 1 = .int .i64 (n : Int) := hd.out 1 (by kernel_rfl)
              have e2 : z 2 = .int .i64 (s : Int) := hd.out 2 (by kernel_rfl)
              clear hd ho
              go_simp
              refine (sureSharing_any n s w1 (by omega) hsn).mono ?_
              rintro e w2 ⟨g, d', rfl, hp, hq2, b⟩
              have hh := hK.out _ _ b ⟨_, _, rfl, hp.rowN (n := n) (sureN_length n s) n, hq2⟩
              simp only [Act.put, List.setIfInBounds_toArray, List.set_cons_zero, List.set_cons_succ, e1, e2] at hh
              exact hh
            refine Rgn.AllOb.cons (j := 5) (by kernel_rfl) ?_ ?_
            · refine' Rgn.ob_body (fr := _) ?hf_a4 ?h1_a4 ?h2_a4 ?h3_a4 ?h_a4
              case hf_a4 => exact hfr
              case h1_a4 => kernel_rfl
              case h2_a4 => kernel_rfl
              case h3_a4 => rfl
              clear hfr
              intro z w1 hb hd ho K hK
              clear hd ho
              have x0 := cC0.out w1 hb; have x1 := cC1.out w1 hb; have x2 := cC2.out w1 hb
              go_simp
              have hh := hK.out (.agg #[.int .i64 (n : Int), .int .i64 (T : Int), .slice ca n ccap]) _ (Below.refl _ _) rfl
              simp only [Act.put, List.setIfInBounds_toArray, List.set_cons_zero, List.set_cons_succ] at hh
              exact hh
            refine Rgn.AllOb.cons (j := 6) (by kernel_rfl) ?_ ?_
            · refine' Rgn.ob_body (fr := _) ?hf_a5 ?h1_a5 ?h2_a5 ?h3_a5 ?h_a5
              case hf_a5 => exact hfr
              case h1_a5 => kernel_rfl
              case h2_a5 => kernel_rfl
              case h3_a5 => rfl
              clear hfr
              intro z w1 hb hd ho K hK
              clear hd ho
              go_simp
              have hh := hK.out (.int .i64 (m : Int)) _ (Below.refl _ _) rfl
              simp only [Act.put, List.setIfInBounds_toArray, List.set_cons_zero, List.set_cons_succ] at hh
              exact hh
            refine Rgn.AllOb.cons (j := 7) (by kernel_rfl) ?_ ?_
            · refine' Rgn.ob_body (fr := _) ?hf_a6 ?h1_a6 ?h2_a6 ?h3_a6 ?h_a6
              case hf_a6 => exact hfr
              case h1_a6 => kernel_rfl
              case h2_a6 => kernel_rfl
              case h3_a6 => rfl
              clear hfr
              intro z w1 hb hd ho K hK
              have e3 : ∃ p q, (z 3) = .agg #[p, q] ∧ RowL LongI w1 p (sureN n s) ∧ LongI w1 q 1 := hd.out 3 (by kernel_rfl)
              have e4 : z 4 = .agg #[.int .i64 (n : Int), .int .i64 (T : Int), .slice ca n ccap] := hd.out 4 (by kernel_rfl)
              have e5 : z 5 = .int .i64 (m : Int) := hd.out 5 (by kernel_rfl)
              clear hd ho
              go_simp
              obtain ⟨p, q, e3, hp, hq2⟩ := e3
              simp only [e3]
              refine (hst.out w1 p q hb hp hq2).mono ?_
              rintro e w2 ⟨g, o, c', d', rfl, hp', hq', b⟩
              have hh := hK.out _ _ b ⟨_, _, rfl, hp', hq'⟩
              simp only [Act.put, List.setIfInBounds_toArray, List.set_cons_zero, List.set_cons_succ, e4, e5, e3] at hh
              exact hh
            refine Rgn.AllOb.cons (j := 8) (by kernel_rfl) ?_ ?_
            · refine' Rgn.ob_body (fr := _) ?hf_a7 ?h1_a7 ?h2_a7 ?h3_a7 ?h_a7
              case hf_a7 => exact hfr
              case h1_a7 => kernel_rfl
              case h2_a7 => kernel_rfl
              case h3_a7 => rfl
              clear hfr
              intro z w1 hb hd ho K hK
              clear hd ho
              go_simp
              have hh := hK.out (.int .i64 (t : Int)) _ (Below.refl _ _) rfl
              simp only [Act.put, List.setIfInBounds_toArray, List.set_cons_zero, List.set_cons_succ] at hh
              exact hh
            refine Rgn.AllOb.cons (j := 9) (by kernel_rfl) ?_ ?_
            · refine' Rgn.ob_body (fr := _) ?hf_a8 ?h1_a8 ?h2_a8 ?h3_a8 ?h_a8
              case hf_a8 => exact hfr
              case h1_a8 => kernel_rfl
              case h2_a8 => kernel_rfl
              case h3_a8 => rfl
              clear hfr
              intro z w1 hb hd ho K hK
              have e6 : ∃ p q, (z 6) = .agg #[p, q] ∧ RowL LongI w1 p B ∧ LongI w1 q E := hd.out 6 (by kernel_rfl)
              have e7 : z 7 = .int .i64 (t : Int) := hd.out 7 (by kernel_rfl)
              clear hd ho
              go_simp
              obtain ⟨p, q, e6, hp, hq2⟩ := e6
              simp only [e6]
              refine (hat.out w1 p q hp hq2).mono ?_
              rintro e w2 ⟨p', q', rfl, hp', hq', b⟩
              have hh := hK.out _ _ b ⟨p', q', rfl, hp', hq'⟩
              simp only [Act.put, List.setIfInBounds_toArray, List.set_cons_zero, List.set_cons_succ, e7, e6] at hh
              exact hh
            refine Rgn.AllOb.cons (j := 10) (by kernel_rfl) ?_ ?_
            · refine' Rgn.ob_body (fr := _) ?hf_a9 ?h1_a9 ?h2_a9 ?h3_a9 ?h_a9
              case hf_a9 => exact hfr
              case h1_a9 => kernel_rfl
              case h2_a9 => kernel_rfl
              case h3_a9 => rfl
              clear hfr
              intro z w1 hb hd ho K hK
              have e8 : ∃ p q, (z 8) = .agg #[p, q] ∧ LongI w1 p (N) ∧ LongI w1 q (E) := hd.out 8 (by kernel_rfl)
              clear hd ho
              go_simp
              obtain ⟨p, q, e8, hp, hq2⟩ := e8
              simp only [e8]
              refine (hfr1.out w1 p q hb hp hq2).mono ?_
              rintro e w2 ⟨rfl, b⟩
              have hh := hK.out _ _ b rfl
              simp only [Act.put, List.setIfInBounds_toArray, List.set_cons_zero, List.set_cons_succ, e8] at hh
              exact hh
            refine Rgn.AllOb.cons (j := 11) (by kernel_rfl) ?_ ?_
            · refine' Rgn.ob_body (fr := _) ?hf_a10 ?h1_a10 ?h2_a10 ?h3_a10 ?h_a10
              case hf_a10 => exact hfr
              case h1_a10 => kernel_rfl
              case h2_a10 => kernel_rfl
              case h3_a10 => rfl
              clear hfr
              intro z w1 hb hd ho K hK
              have e9 : (z 9) = .tuple #[.agg #[.string x, .string y], .int .i64 CC] := hd.out 9 (by kernel_rfl)
              clear hd ho
              go_simp
              have hh := hK.out (.agg #[.string x, .string y]) _ (Below.refl _ _) rfl
              simp only [Act.put, List.setIfInBounds_toArray, List.set_cons_zero, List.set_cons_succ, e9] at hh
              exact hh
            refine Rgn.AllOb.cons (j := 12) (by kernel_rfl) ?_ ?_
            · refine' Rgn.ob_body (fr := _) ?hf_a11 ?h1_a11 ?h2_a11 ?h3_a11 ?h_a11
              case hf_a11 => exact hfr
              case h1_a11 => kernel_rfl
              case h2_a11 => kernel_rfl
              case h3_a11 => rfl
              clear hfr
              intro z w1 hb hd ho K hK
              have e9 : (z 9) = .tuple #[.agg #[.string x, .string y], .int .i64 CC] := hd.out 9 (by kernel_rfl)
              clear hd ho
              go_simp
              have hh := hK.out (.int .i64 CC) _ (Below.refl _ _) rfl
              simp only [Act.put, List.setIfInBounds_toArray, List.set_cons_zero, List.set_cons_succ, e9] at hh
              exact hh
            refine Rgn.AllOb.cons (j := 13) (by kernel_rfl) ?_ ?_
            · refine' Rgn.ob_tail0 (fr := _) ?hf_a12 ?h1_a12 ?h3_a12 ?h_a12
              case hf_a12 => exact hfr
              case h1_a12 => kernel_rfl
              case h3_a12 => rfl
              clear hfr
              intro z w1 hb hf hd ho K hK
              have e9 : z 10 = .agg #[.string x, .string y] := hf.out 10 (by decide) rfl rfl
              have hX1 := hRb.out.keep hb hRb.out.lt
              have y0 := hX1.cell 0
              have y1 := hX1.cell 1
              have f0 := hX1.frozen 0
              have f1 := hX1.frozen 1
              simp only [List.getElem?_toArray, List.getElem?_cons_zero, List.getElem?_cons_succ] at y0 y1
              clear hf hd ho
              go_simp
              have hh := hK.out undef _ ⟨by have := (hX1.set 0 (.string x)).set 1 (.string y); simpa using this, ((below_wt BV.out hb).setCell (p := ⟨w.heap.size + 1, 0, none⟩) (Nat.le_succ _) _).setCell (p := ⟨w.heap.size + 1, 1, none⟩) (Nat.le_succ _) _, fun h => absurd h (by decide)⟩
              simp only [Act.put, List.setIfInBounds_toArray, List.set_cons_zero, List.set_cons_succ, e9] at hh
              exact hh
            refine Rgn.AllOb.cons (j := 14) (by kernel_rfl) ?_ ?_
            · refine' Rgn.ob_tail (fr := _) ?hf_a13 ?h1_a13 ?h3_a13 ?hp_a13 ?h4_a13 ?h_a13
              case hp_a13 => exact 1
              case hf_a13 => exact hfr
              case h1_a13 => kernel_rfl
              case h3_a13 => rfl
              case h4_a13 => kernel_rfl
              clear hfr
              intro z w1 hT hd ho K hK
              obtain ⟨h1, h2, _⟩ := hT
              have e11 : z 11 = .int .i64 CC := hd.out 11 rfl (by kernel_rfl)
              clear hd ho
              go_simp
              have hh := hK.out (.int .i64 CC) _ ⟨h1, h2, fun _ => rfl⟩
              simp only [Act.put, List.setIfInBounds_toArray, List.set_cons_zero, List.set_cons_succ, e11] at hh
              exact hh
            exact Rgn.AllOb.nil
          case hend_a =>
            intro hfr
            refine' Rgn.end_tails (fr := _) ?g1_a ?g2_a ?g3_a
            case g1_a => exact hfr
            case g2_a => rfl
            clear hfr
            intro z w6 hT hg
            obtain ⟨hR6, b6, h13⟩ := hT
            have e13 : z 13 = .int .i64 CC := h13 rfl
            clear h13
            obtain ⟨z0, z1⟩ := (⟨hR6.cell 0, hR6.cell 1⟩ : _ ∧ _)
            simp only [List.getElem?_toArray, List.getElem?_cons_zero, List.getElem?_cons_succ] at z0 z1
            replace b6 := Lib.hid b6
            simp only [e13]
            clear hg hR6 e13 cC0 cC1 cC2 hRb
            go_wp2
            refine bodyPost_ret (v := .tuple #[.agg #[.string x, .string y], .int .i64 CC]) (by simp [results, Tryz.results9, go_sem, z0, z1]) rfl ?_
            exact ⟨by rw [hval.out]; first | done | rfl, b6.out⟩
end Go.Proofs.YtiddhnnofpbopaaGreatDoor
