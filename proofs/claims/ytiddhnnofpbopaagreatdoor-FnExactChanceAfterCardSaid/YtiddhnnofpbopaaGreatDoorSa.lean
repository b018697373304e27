/- The spread after some steps: the model of both sides, and the project's function. Conditions: told by the code. -/
import Derived.Test.YtiddhnnofpbopaaGreatDoorStG
import Derived.Test.YtiddhnnofpbopaaGreatDoorWf
import Derived.Test.YtiddhnnofpbopaaGreatDoorRsG
namespace Go.Proofs.YtiddhnnofpbopaaGreatDoor
open Go.RowKit Go.Deep
set_option linter.unusedVariables false
set_option linter.unusedSimpArgs false

theorem comN_lenW (l : List (Nat × Nat)) (S D M : Nat) (hs : ∀ i, i < l.length → dlen W32 (l.getD i (0, 0)).1 ≤ S ∧ dlen W32 (l.getD i (0, 0)).2 ≤ S) (hD : dlen W32 D ≤ M) : ∀ i, i < l.length → dlen W32 ((comN D l).getD i 0) ≤ S + M := by
  intro i hi
  rw [comN_get _ _ _ hi]
  exact mul_dlenW (hs i hi).1 (Nat.le_trans (dlen_mono w32 (Nat.div_le_self _ _)) hD)
/-- what SpreadAfter hands back -/
def saR (c : Ch) (p : List (ByteArray × ByteArray)) (m : Int) : List (ByteArray × ByteArray) × Int :=
  if (spreadB p && chOk c) = true then (if (p.length : Int) = c.n then (if inB m 0 40 = true then
    (vecT (afterN c.w (comN (comD (numP p)) (numP p)) p.length m.toNat) (comD (numP p) * c.t.toNat ^ m.toNat), vecC (afterN c.w (comN (comD (numP p)) (numP p)) p.length m.toNat) (comD (numP p) * c.t.toNat ^ m.toNat))
    else ([], 2)) else ([], 2)) else ([], 1)
/-- what is known of a valid chain -/
structure ChF (c : Ch) (n t : Nat) : Prop where
  n1 : 1 ≤ n
  n6 : n ≤ 6
  t1 : 1 ≤ t
  t2 : t ≤ 60
  nn : c.n = (n : Int)
  tt : c.t = (t : Int)
  wl : c.w.length = n
  row : ∀ k, k < n → (c.w.getD k []).length = n ∧ ∀ x ∈ c.w.getD k [], 0 ≤ x ∧ x ≤ 3600
theorem chF_of {c : Ch} (h : chOk c = true) : ChF c c.n.toNat c.t.toNat := by
  obtain ⟨n1, n2, t1, t2, hlen, hrows⟩ := chOk_all h
  refine ⟨by omega, by omega, by omega, by omega, by omega, by omega, by omega, fun k hk => ?_⟩
  have hr := hrows _ (getD_mem (d := []) (show k < c.w.length by omega))
  obtain ⟨q1, q2, q3⟩ := okRow_all hr
  exact ⟨by omega, fun x hx => by have := q2 x hx; omega⟩
structure SaF (c : Ch) (p : List (ByteArray × ByteArray)) (m n t : Nat) (A : List Nat) (D : Nat) (B : List Nat) (E : Nat) : Prop where
  ch : ChF c n t
  pn : p.length = n
  m40 : m ≤ 40
  al : A.length = n
  bl : B.length = n
  a9 : ∀ k, k < n → dlen B9 (A.getD k 0) ≤ 3300
  aW : ∀ k, k < n → dlen W32 (A.getD k 0) ≤ 3300
  d9 : dlen B9 D ≤ 3300
  dW : dlen W32 D ≤ 3300
  e0 : 0 < E
  b9 : ∀ i, i < B.length → dlen B9 (B.getD i 0) ≤ 10000000
  e9 : dlen B9 E ≤ 10000000
  bW : ∀ i, i < B.length → dlen W32 (B.getD i 0) ≤ 1000000
  eW : dlen W32 E ≤ 1000000
  val : saR c p m = (vecT B E, vecC B E)
theorem wt_lt (c : Ch) (n t : Nat) (h : ChF c n t) (j k : Nat) (hk : k < n) : wt c.w k j ≤ 3600 := by
  obtain ⟨h1, h2⟩ := h.row k hk
  unfold wt
  by_cases hj : j < n
  · have h3 := h2 _ (getD_mem (d := 0) (show j < (c.w.getD k []).length by omega))
    omega
  · rw [show (c.w.getD k []).getD j 0 = 0 by rw [List.getD, List.getElem?_eq_none (by omega)]; rfl]
    simp
theorem pow_len {B : Nat} (hB : 2 ≤ B) (D t L M : Nat) (hD : dlen B D ≤ L) (ht : dlen B t ≤ M) : ∀ i, dlen B (D * t ^ i) ≤ L + i * M
  | 0 => by simpa using hD
  | i + 1 => by
      have := mul_dlen hB (pow_len hB D t L M hD ht i) ht
      rw [Nat.pow_succ, ← Nat.mul_assoc]
      have e : (i + 1) * M = i * M + M := Nat.succ_mul _ _
      omega
theorem saF_of (c : Ch) (p : List (ByteArray × ByteArray)) (m : Nat) (h1 : spreadB p = true) (h2 : chOk c = true) (hl : (p.length : Int) = c.n) (hm : m ≤ 40) :
    ∃ t, SaF c p m p.length t (comN (comD (numP p)) (numP p)) (comD (numP p)) (afterN c.w (comN (comD (numP p)) (numP p)) p.length m) (comD (numP p) * t ^ m) := by
  have hc := chF_of h2
  have en : c.n.toNat = p.length := by omega
  rw [en] at hc
  obtain ⟨f1, a1, a2⟩ : frsOk p = true ∧ 1 ≤ p.length ∧ p.length ≤ 6 := by
    unfold spreadB at h1
    simp only [Bool.and_eq_true, decide_eq_true_eq] at h1
    exact ⟨h1.2.1, h1.1⟩
  have pl := numP_length p
  have e1 := comD_len9 (numP p) 300 (numP_len9 f1)
  have g1 : dlen B9 (comD (numP p)) ≤ 3000 := by rw [pl] at e1; omega
  have r1 := comN_len (numP p) 300 _ 3000 (numP_len9 f1) g1
  have e2 := comD_lenW (numP p) 300 (numP_len f1) (numP p).length (Nat.le_refl _)
  rw [List.take_length] at e2
  have g2 : dlen W32 (comD (numP p)) ≤ 3000 := by rw [pl] at e2; omega
  have r2 := comN_lenW (numP p) 300 _ 3000 (numP_len f1) g2
  have p1 := comD_pos (numP p) (numP_den f1) _ (Nat.le_refl _)
  rw [List.take_length] at p1
  have L1 : (comN (comD (numP p)) (numP p)).length = p.length := by rw [comN_length, pl]
  have w9 : ∀ j k, k < p.length → dlen B9 (wt c.w k j) ≤ 1 := fun j k hk => dlen_le b9 (by have := wt_lt c _ _ hc j k hk; simp only [B9]; omega)
  have wW : ∀ j k, k < p.length → dlen W32 (wt c.w k j) ≤ 1 := fun j k hk => dlen_le w32 (by have := wt_lt c _ _ hc j k hk; simp only [W32]; omega)
  have s1 := afterN_len b9 c.w _ p.length 3300 1 L1 (fun k hk => r1 k (by rw [L1]; exact hk)) w9 m
  have s2 := afterN_len w32 c.w _ p.length 3300 1 L1 (fun k hk => r2 k (by rw [pl]; exact hk)) wW m
  have t9 : dlen B9 c.t.toNat ≤ 1 := dlen_le b9 (by have := hc.t2; simp only [B9]; omega)
  have tW : dlen W32 c.t.toNat ≤ 1 := dlen_le w32 (by have := hc.t2; simp only [W32]; omega)
  have u1 := pow_len b9 _ _ _ _ g1 t9 m
  have u2 := pow_len w32 _ _ _ _ g2 tW m
  have hmn : m * (1 + p.length) ≤ 40 * 7 := Nat.mul_le_mul hm (by omega)
  refine ⟨c.t.toNat, hc, rfl, hm, L1, s1.1, fun k hk => r1 k (by rw [L1]; exact hk), fun k hk => r2 k (by rw [pl]; exact hk), Nat.le_trans g1 (by omega), Nat.le_trans g2 (by omega), Nat.mul_pos p1 (Nat.pow_pos (by have := hc.t1; omega)), fun i hi => ?_, by omega, fun i hi => ?_, by omega, ?_⟩
  · have := s1.2 i (by rw [s1.1] at hi; exact hi); omega
  · have := s2.2 i (by rw [s1.1] at hi; exact hi); omega
  · unfold saR
    rw [if_pos (by rw [h1, h2]; rfl), if_pos hl, if_pos (by rw [inB_iff]; omega), Int.toNat_natCast]
theorem saR_bad {c : Ch} {p : List (ByteArray × ByteArray)} {m : Int} (h : (spreadB p && chOk c) = false) : saR c p m = ([], 1) := by
  unfold saR; rw [if_neg (by rw [h]; decide)]
theorem saR_len {c : Ch} {p : List (ByteArray × ByteArray)} {m : Int} (h : (spreadB p && chOk c) = true) (hl : ¬ (p.length : Int) = c.n) : saR c p m = ([], 2) := by
  unfold saR; rw [if_pos h, if_neg hl]
theorem saR_steps {c : Ch} {p : List (ByteArray × ByteArray)} {m : Int} (h : (spreadB p && chOk c) = true) (hm : inB m 0 40 = false) : saR c p m = ([], 2) := by
  unfold saR; rw [if_pos h]; split
  · rw [if_neg (by rw [hm]; decide)]
  · rfl
theorem spreadB_frs'' {p : List (ByteArray × ByteArray)} (h : spreadB p = true) : frsOk p = true := by
  unfold spreadB at h
  simp only [Bool.and_eq_true, decide_eq_true_eq] at h
  exact h.2.1
theorem frOwn_nil (w : World) (lo hi : Nat) : FrOwn w lo hi (.slice none 0 0) [] := ⟨by simp, Or.inl ⟨0, rfl, rfl⟩⟩

set_option maxRecDepth 100000 in
set_option maxHeartbeats 40000000 in
theorem SpreadAfter_impl (cv pv : Value) (c : Ch) (p : List (ByteArray × ByteArray)) (mi : Int) (w : World) (hc : ChR w cv c) (hp : FrL w pv p) (htab : Tab10 w) :
    Calls Tryz.prog 22 #[cv, pv, .int .i64 mi] w fun e w' => ∃ v, e = .returned (.tuple #[v, .int .i64 (saR c p mi).2]) ∧ FrOwn w' w.heap.size w'.heap.size v (saR c p mi).1 ∧ Below w.heap.size w w' := by
  obtain ⟨hm1, va, vc, rfl, _⟩ := id hp
  unfold maxLen at hm1
  obtain ⟨ca, ccap, hcv, hcr⟩ : ∃ a cap, cv = .agg #[.int .i64 c.n, .int .i64 c.t, .slice a c.w.length cap] ∧ Rows2 w (.slice a c.w.length cap) c.w := by
    obtain ⟨v, rfl, hr⟩ := hc
    obtain ⟨_, a, cap, rfl⟩ := hr.len
    exact ⟨a, cap, rfl, hr⟩
  subst hcv
  have b0 := below1 w (.cells #[.int .i64 c.n, .int .i64 c.t, .slice ca c.w.length ccap] 26)
  have hB := Blk.new w #[.int .i64 c.n, .int .i64 c.t, .slice ca c.w.length ccap] 26
  have hrs := Lib.hid (readSpreadOf_any _ (.slice va p.length vc) c p _ (hc.keep b0) (hp.keep b0))
  have hW0 := Lib.hid (hcr.keep b0)
  obtain ⟨q0, q1, q2⟩ := (⟨hB.cell 0, hB.cell 1, hB.cell 2⟩ : _ ∧ _ ∧ _)
  simp only [List.getElem?_toArray, List.getElem?_cons_zero, List.getElem?_cons_succ] at q0 q1 q2
  have htab' := Lib.hid htab
  obtain ⟨L, hL⟩ : ∃ L, L = p.length := ⟨_, rfl⟩
  rw [← hL] at hm1 hrs ⊢
  have hL' := Lib.hid hL
  clear hc hp htab hcr hL
  go_enter Tryz.func22, Tryz.ntmps22
  go_wp2_with fail
  (with_reducible refine hrs.out.mono ?_)
  rintro e w1 ⟨aa, an, acap, rfl, b1, hval⟩
  have hB1 := Lib.hid (hB.keep b1 hB.lt)
  have hW1 := Lib.hid (hW0.out.keep b1)
  have B1 := Lib.hid (below_wt b0 b1)
  have hval' := Lib.hid hval
  clear hval b1 hB hrs hW0 q0 q1 q2 b0
  rcases hok : (spreadB p && chOk c) with _ | _
  · have hr := Lib.hid (saR_bad (m := mi) hok)
    have hc1 : rsoC c p = 1 := by unfold rsoC; rw [if_neg (by rw [hok]; decide)]
    rw [hc1]
    clear hok hval' hB1 hW1 hc1
    go_wp2
    go_ret2
    exact ⟨.slice none 0 0, by rw [hr.out]; first | done | rfl, by rw [hr.out]; exact frOwn_nil _ _ _, B1.out⟩
  · by_cases hl : (p.length : Int) = c.n
    · have hc1 : rsoC c p = 0 := by unfold rsoC; rw [if_pos hok, if_pos hl]
      obtain ⟨hn, hP⟩ := hval'.out hc1
      obtain rfl : L = an := by rw [hn, hL'.out]
      rw [hc1]
      have hP' := Lib.hid hP
      have hisin := Lib.hid (fun W => isIn_any mi 0 40 W)
      rcases hmi : inB mi 0 40 with _ | _
      · have hr := Lib.hid (saR_steps hok hmi)
        rw [hmi] at hisin
        clear hok hval' hB1 hW1 hc1 hn hP hP' hl hmi
        go_wp2_with fail
        (with_reducible refine (hisin.out _).mono ?_)
        rintro e w2 ⟨rfl, rfl⟩
        go_wp2
        go_ret2
        exact ⟨.slice none 0 0, by rw [hr.out]; first | done | rfl, by rw [hr.out]; exact frOwn_nil _ _ _, B1.out⟩
      · obtain ⟨m0, m1⟩ := inB_iff.1 hmi
        obtain ⟨m, rfl⟩ : ∃ m : Nat, mi = m := ⟨mi.toNat, by omega⟩
        have hok2 := hok
        simp only [Bool.and_eq_true] at hok2
        obtain ⟨t, hF⟩ := saF_of c p m hok2.1 hok2.2 hl (by omega)
        have f1 := spreadB_frs'' hok2.1
        obtain ⟨hch, hpn, m40, al, bl, a9, aW, d9, dW, e0, b9', e9, bW, eW, hval⟩ := hF
        have hden := Lib.hid (numP_den f1)
        have hlen := Lib.hid (numP_len f1)
        rw [← hL'.out] at hch al bl a9 aW
        obtain ⟨n1, n6, t1, t2, hcn, hct, hcl, hrow⟩ := hch
        rw [hmi] at hisin
        obtain ⟨A, hA⟩ : ∃ A, comN (comD (numP p)) (numP p) = A := ⟨_, rfl⟩
        obtain ⟨D, hD⟩ : ∃ D, comD (numP p) = D := ⟨_, rfl⟩
        have hpl := numP_length p
        have hsh := Lib.hid (fun w2 (hb : Below w1.heap.size w1 w2) => shareOut_any (.slice aa L acap) (numP p) 300 w2 (hP'.out.keep likeI hb) hlen.out hden.out (by rw [hpl, ← hL'.out]; omega) (by rw [hpl, ← hL'.out]; omega))
        rw [← hL'.out] at hval b9' bW
        rw [hA] at hsh hval al aW bl b9' bW
        rw [hD] at hsh hval dW e0 e9 eW
        rw [hcn, hct, hcl] at hB1
        rw [hcl] at hW1
        have hmn : m * (2 + L) ≤ 40 * 8 := Nat.mul_le_mul m40 (by omega)
        have hst := Lib.hid (fun w2 (nv dv : Value) (hb : Below w1.heap.size w1 w2) (h1 : RowL LongI w2 nv A) (h2 : LongI w2 dv D) => sharingSteps_any nv dv (.slice ca L ccap) A D L 3300 t m c.w w2 h1 h2 (hW1.out.keep hb) al n1 (by omega) hcl hrow (by omega) aW dW (by omega) (by omega))
        obtain ⟨B, hBe⟩ : ∃ B, afterN c.w A L m = B := ⟨_, rfl⟩
        obtain ⟨E, hEe⟩ : ∃ E, D * t ^ m = E := ⟨_, rfl⟩
        rw [hBe] at hst hval bl b9' bW
        rw [hEe] at hst hval e0 e9 eW
        have hvr := vec_rat B E
        obtain ⟨CC, hCC⟩ : ∃ x, vecC B E = x := ⟨_, rfl⟩
        have hwf := Lib.hid (fun w2 (a : Option Addr) (cp : Nat) (hb : Below w1.heap.size w1 w2) (h1 : PairL LongI w2 (.slice a L cp) (B.map fun n => (n, E))) => writeFractions_any (.slice a L cp) (B.map fun n => (n, E)) w2 h1
          (fun i hi => by rw [List.length_map] at hi; simp [List.getD, hi]; exact e0) (fun i hi => by rw [List.length_map] at hi; have := bW i hi; simp only [List.getD, List.getElem?_map, List.getElem?_eq_getElem hi, Option.map_some, Option.getD_some] at this ⊢; exact ⟨this, eW⟩) (by rw [List.length_map, bl]; omega) ((htab'.out.keep B1.out).keep hb))
        rw [← hvr.1, ← hvr.2, hCC] at hwf
        rw [hCC] at hval
        have hBl := Lib.hid bl
        replace hval := Lib.hid hval
        have htt : t ≤ 3600 := by omega
        clear hok hval' hW1 hc1 hn hP hl hmi hok2 f1 hpn al bl a9 aW d9 dW e0 b9' e9 bW eW hden hlen hA hD hBe hEe hvr hCC hcn hct hcl hrow hpl htab' hL' m0 m1 hmn
        go_wp2_with fail
        (with_reducible refine (hisin.out _).mono ?_)
        rintro e w2 ⟨rfl, rfl⟩
        have V0 : True := trivial
        obtain ⟨V, hV⟩ : ∃ V, w1 = V := ⟨_, rfl⟩
        rw [hV] at hsh hst hwf hB1 B1 hP' ⊢
        have cC0 := Lib.hid (fun w1 (hb : Below V.heap.size V w1) => (show w1.cell? ⟨w.heap.size, 0, none⟩ = some (.int .i64 (L : Int)) from (hB1.out.keep hb hB1.out.lt).cell 0))
        have cC1 := Lib.hid (fun w1 (hb : Below V.heap.size V w1) => (show w1.cell? ⟨w.heap.size, 1, none⟩ = some (.int .i64 (t : Int)) from (hB1.out.keep hb hB1.out.lt).cell 1))
        have cC2 := Lib.hid (fun w1 (hb : Below V.heap.size V w1) => (show w1.cell? ⟨w.heap.size, 2, none⟩ = some (.slice ca L ccap) from (hB1.out.keep hb hB1.out.lt).cell 2))
        clear hV hisin hB1 hP' V0
        go_upto_region 6 with fail
        refine' Rgn.region_by (fun _ => 0) 0 (fun _ => false) (fun i _ v w' => match i with
            | 0 => v = .slice aa L acap
            | 1 => ∃ p q, v = .agg #[p, q] ∧ RowL LongI w' p A ∧ LongI w' q D
            | 2 => v = .agg #[.int .i64 (L : Int), .int .i64 (t : Int), .slice ca L ccap]
            | 3 => v = .int .i64 (m : Int)
            | 4 => ∃ p q, v = .agg #[p, q] ∧ RowL LongI w' p B ∧ LongI w' q E
            | 5 => ∃ a c, v = .slice a L c ∧ PairL LongI w' (.slice a L c) (B.map fun n => (n, E))
            | 6 => ∃ x, v = .tuple #[x, .int .i64 CC] ∧ ∃ hi, hi ≤ w'.heap.size ∧ FrOwn w' V.heap.size hi x (vecT B E)
            | 7 => ∃ hi, hi ≤ w'.heap.size ∧ FrOwn w' V.heap.size hi v (vecT B E)
            | 8 => v = .int .i64 CC
            | 9 => ∃ hi, hi ≤ w'.heap.size ∧ FrOwn w' V.heap.size hi v (vecT B E)
            | 10 => v = .int .i64 CC
            | _ => True) (fun i _ v => match i with
            | 0 => v = .slice aa L acap
            | 1 => True
            | 2 => v = .agg #[.int .i64 (L : Int), .int .i64 (t : Int), .slice ca L ccap]
            | 3 => v = .int .i64 (m : Int)
            | 4 => True
            | 5 => True
            | 6 => True
            | 7 => True
            | 8 => True
            | 9 => True
            | 10 => v = .int .i64 CC
            | _ => True)
            (fun _ _ _ => True) (by kernel_rfl) (by kernel_rfl) (by kernel_rfl) ?hst_a ?hG_a _ ?hfr_a ?hob_a ?hend_a
        case hfr_a =>
          intro z
          simp only [Rgn.fillAll, Act.put, List.setIfInBounds_toArray, List.set_cons_zero, List.set_cons_succ, Nat.reduceAdd, Nat.zero_add]
          exact rfl
        case hst_a =>
          intro i z v w1 w2 hi hb hx
          rcases i with _ | i
          · exact hx
          rcases i with _ | i
          · exact (fun v w1 w2 hb h => h.elim fun p h => h.elim fun q h => ⟨p, q, h.1, h.2.1.keep likeI hb, h.2.2.keep hb⟩) v w1 w2 hb hx
          rcases i with _ | i
          · exact hx
          rcases i with _ | i
          · exact hx
          rcases i with _ | i
          · exact (fun v w1 w2 hb h => h.elim fun p h => h.elim fun q h => ⟨p, q, h.1, h.2.1.keep likeI hb, h.2.2.keep hb⟩) v w1 w2 hb hx
          rcases i with _ | i
          · exact (fun v w1 w2 hb h => h.elim fun a h => h.elim fun c h => ⟨a, c, h.1, h.2.keep likeI hb⟩) v w1 w2 hb hx
          rcases i with _ | i
          · exact (fun v w1 w2 hb h => h.elim fun x h => h.2.elim fun hi h2 => ⟨x, h.1, hi, Nat.le_trans h2.1 hb.size, h2.2.keep hb⟩) v w1 w2 hb hx
          rcases i with _ | i
          · exact (fun v w1 w2 hb h => h.elim fun hi h => ⟨hi, Nat.le_trans h.1 hb.size, h.2.keep hb⟩) v w1 w2 hb hx
          rcases i with _ | i
          · exact (fun v w1 w2 hb h => h) v w1 w2 hb hx
          rcases i with _ | i
          · exact (fun v w1 w2 hb h => h.elim fun hi h => ⟨hi, Nat.le_trans h.1 hb.size, h.2.keep hb⟩) v w1 w2 hb hx
          rcases i with _ | i
          · exact hx
          exact trivial
        case hG_a =>
          intro i z v w1 hi hx
          rcases i with _ | i
          · exact hx
          rcases i with _ | i
          · trivial
          rcases i with _ | i
          · exact hx
          rcases i with _ | i
          · exact hx
          rcases i with _ | i
          · trivial
          rcases i with _ | i
          · trivial
          rcases i with _ | i
          · trivial
          rcases i with _ | i
          · trivial
          rcases i with _ | i
          · trivial
          rcases i with _ | i
          · trivial
          rcases i with _ | i
          · exact hx
          exact trivial
        case hob_a =>
          intro hfr
          refine Rgn.AllOb.cons (j := 1) (by kernel_rfl) ?_ ?_
          · refine' Rgn.ob_body (fr := _) ?hf_a0 ?h1_a0 ?h2_a0 ?h3_a0 ?h_a0
            case hf_a0 => exact hfr
            case h1_a0 => kernel_rfl
            case h2_a0 => kernel_rfl
            case h3_a0 => rfl
            clear hfr
            intro z w1 hb hd ho K hK
            clear hd ho
            go_simp
            have hh := hK.out (.slice aa L acap) _ (Below.refl _ _) rfl
            simp only [Act.put, List.setIfInBounds_toArray, List.set_cons_zero, List.set_cons_succ] at hh
            exact hh
          refine Rgn.AllOb.cons (j := 2) (by kernel_rfl) ?_ ?_
          · refine' Rgn.ob_body (fr := _) ?hf_a1 ?h1_a1 ?h2_a1 ?h3_a1 ?h_a1
            case hf_a1 => exact hfr
            case h1_a1 => kernel_rfl
            case h2_a1 => kernel_rfl
            case h3_a1 => rfl
            clear hfr
            intro z w1 hb hd ho K hK
            have e0 : z 0 = .slice aa L acap := hd.out 0 (by kernel_rfl)
            clear hd ho
            go_simp
            refine (hsh.out w1 hb).mono ?_
            rintro e w2 ⟨p, q, rfl, hp, hq2, b⟩
            have hh := hK.out _ _ b ⟨p, q, rfl, hp, hq2⟩
            simp only [Act.put, List.setIfInBounds_toArray, List.set_cons_zero, List.set_cons_succ, e0] at hh
            exact hh
          refine Rgn.AllOb.cons (j := 3) (by kernel_rfl) ?_ ?_
          · refine' Rgn.ob_body (fr := _) ?hf_a2 ?h1_a2 ?h2_a2 ?h3_a2 ?h_a2
            case hf_a2 => exact hfr
            case h1_a2 => kernel_rfl
            case h2_a2 => kernel_rfl
            case h3_a2 => rfl
            clear hfr
            intro z w1 hb hd ho K hK
            clear hd ho
            have x0 := cC0.out w1 hb; have x1 := cC1.out w1 hb; have x2 := cC2.out w1 hb
            go_simp
            have hh := hK.out (.agg #[.int .i64 (L : Int), .int .i64 (t : Int), .slice ca L ccap]) _ (Below.refl _ _) rfl
            simp only [Act.put, List.setIfInBounds_toArray, List.set_cons_zero, List.set_cons_succ] at hh
            exact hh
          refine Rgn.AllOb.cons (j := 4) (by kernel_rfl) ?_ ?_
          · refine' Rgn.ob_body (fr := _) ?hf_a3 ?h1_a3 ?h2_a3 ?h3_a3 ?h_a3
            case hf_a3 => exact hfr
            case h1_a3 => kernel_rfl
            case h2_a3 => kernel_rfl
            case h3_a3 => rfl
            clear hfr
            intro z w1 hb hd ho K hK
            clear hd ho
            go_simp
            have hh := hK.out (.int .i64 (m : Int)) _ (Below.refl _ _) rfl
            simp only [Act.put, List.setIfInBounds_toArray, List.set_cons_zero, List.set_cons_succ] at hh
            exact hh
          refine Rgn.AllOb.cons (j := 5) (by kernel_rfl) ?_ ?_
          · refine' Rgn.ob_body (fr := _) ?hf_a4 ?h1_a4 ?h2_a4 ?h3_a4 ?h_a4
            case hf_a4 => exact hfr
            case h1_a4 => kernel_rfl
            case h2_a4 => kernel_rfl
            case h3_a4 => rfl
            clear hfr
            intro z w1 hb hd ho K hK
            have e1 : ∃ p q, (z 1) = .agg #[p, q] ∧ RowL LongI w1 p A ∧ LongI w1 q D := hd.out 1 (by kernel_rfl)
            have e2 : z 2 = .agg #[.int .i64 (L : Int), .int .i64 (t : Int), .slice ca L ccap] := hd.out 2 (by kernel_rfl)
            have e3 : z 3 = .int .i64 (m : Int) := hd.out 3 (by kernel_rfl)
            clear hd ho
            go_simp
            obtain ⟨p, q, e1, hp, hq2⟩ := e1
            simp only [e1]
            refine (hst.out w1 p q hb hp hq2).mono ?_
            rintro e w2 ⟨g, o, c', d', rfl, hp', hq', b⟩
            have hh := hK.out _ _ b ⟨_, _, rfl, hp', hq'⟩
            simp only [Act.put, List.setIfInBounds_toArray, List.set_cons_zero, List.set_cons_succ, e2, e3, e1] at hh
            exact hh
          refine Rgn.AllOb.cons (j := 6) (by kernel_rfl) ?_ ?_
          · refine' Rgn.ob_body (fr := _) ?hf_a5 ?h1_a5 ?h2_a5 ?h3_a5 ?h_a5
            case hf_a5 => exact hfr
            case h1_a5 => kernel_rfl
            case h2_a5 => kernel_rfl
            case h3_a5 => rfl
            clear hfr
            intro z w1 hb hd ho K hK
            have e4 : ∃ p q, (z 4) = .agg #[p, q] ∧ RowL LongI w1 p B ∧ LongI w1 q E := hd.out 4 (by kernel_rfl)
            clear hd ho
            go_simp
            obtain ⟨p, q, e4, hp, hq2⟩ := e4
            simp only [e4]
            refine (ratios_any p q B E w1 hp hq2 (by rw [hBl.out]; omega)).mono ?_
            rintro e w2 ⟨a, c', rfl, hp', b⟩
            rw [hBl.out] at hp' ⊢
            have hh := hK.out _ _ b ⟨_, _, rfl, hp'⟩
            simp only [Act.put, List.setIfInBounds_toArray, List.set_cons_zero, List.set_cons_succ, e4] at hh
            exact hh
          refine Rgn.AllOb.cons (j := 7) (by kernel_rfl) ?_ ?_
          · refine' Rgn.ob_body (fr := _) ?hf_a6 ?h1_a6 ?h2_a6 ?h3_a6 ?h_a6
            case hf_a6 => exact hfr
            case h1_a6 => kernel_rfl
            case h2_a6 => kernel_rfl
            case h3_a6 => rfl
            clear hfr
            intro z w1 hb hd ho K hK
            have e5 : ∃ a c, (z 5) = .slice a L c ∧ PairL LongI w1 (.slice a L c) (B.map fun n => (n, E)) := hd.out 5 (by kernel_rfl)
            clear hd ho
            go_simp
            obtain ⟨a, c', e5, hp⟩ := e5
            simp only [e5]
            refine (hwf.out w1 a c' hb hp).mono ?_
            rintro e w2 ⟨x, rfl, hown, b⟩
            have hh := hK.out _ _ b ⟨x, rfl, _, Nat.le_refl _, hown.wide hb.size (Nat.le_refl _)⟩
            simp only [Act.put, List.setIfInBounds_toArray, List.set_cons_zero, List.set_cons_succ, e5] at hh
            exact hh
          refine Rgn.AllOb.cons (j := 8) (by kernel_rfl) ?_ ?_
          · refine' Rgn.ob_body (fr := _) ?hf_a7 ?h1_a7 ?h2_a7 ?h3_a7 ?h_a7
            case hf_a7 => exact hfr
            case h1_a7 => kernel_rfl
            case h2_a7 => kernel_rfl
            case h3_a7 => rfl
            clear hfr
            intro z w1 hb hd ho K hK
            have e6 : ∃ x, (z 6) = .tuple #[x, .int .i64 CC] ∧ ∃ hi, hi ≤ w1.heap.size ∧ FrOwn w1 V.heap.size hi x (vecT B E) := hd.out 6 (by kernel_rfl)
            clear hd ho
            go_simp
            obtain ⟨x, e6, hx⟩ := e6
            simp only [e6]
            go_simp
            have hh := hK.out x _ (Below.refl _ _) hx
            simp only [Act.put, List.setIfInBounds_toArray, List.set_cons_zero, List.set_cons_succ, e6] at hh
            exact hh
          refine Rgn.AllOb.cons (j := 9) (by kernel_rfl) ?_ ?_
          · refine' Rgn.ob_body (fr := _) ?hf_a8 ?h1_a8 ?h2_a8 ?h3_a8 ?h_a8
            case hf_a8 => exact hfr
            case h1_a8 => kernel_rfl
            case h2_a8 => kernel_rfl
            case h3_a8 => rfl
            clear hfr
            intro z w1 hb hd ho K hK
            have e6 : ∃ x, (z 6) = .tuple #[x, .int .i64 CC] ∧ ∃ hi, hi ≤ w1.heap.size ∧ FrOwn w1 V.heap.size hi x (vecT B E) := hd.out 6 (by kernel_rfl)
            clear hd ho
            go_simp
            obtain ⟨x, e6, hx⟩ := e6
            simp only [e6]
            go_simp
            have hh := hK.out _ _ (Below.refl _ _) rfl
            simp only [Act.put, List.setIfInBounds_toArray, List.set_cons_zero, List.set_cons_succ, e6] at hh
            exact hh
          refine Rgn.AllOb.cons (j := 10) (by kernel_rfl) ?_ ?_
          · refine' Rgn.ob_body (fr := _) ?hf_a9 ?h1_a9 ?h2_a9 ?h3_a9 ?h_a9
            case hf_a9 => exact hfr
            case h1_a9 => kernel_rfl
            case h2_a9 => kernel_rfl
            case h3_a9 => rfl
            clear hfr
            intro z w1 hb hd ho K hK
            have e7 : ∃ hi, hi ≤ w1.heap.size ∧ FrOwn w1 V.heap.size hi (z 7) (vecT B E) := hd.out 7 (by kernel_rfl)
            clear hd ho
            go_simp
            have hh := hK.out (z 7) _ (Below.refl _ _) e7
            simp only [Act.put, List.setIfInBounds_toArray, List.set_cons_zero, List.set_cons_succ] at hh
            exact hh
          refine Rgn.AllOb.cons (j := 11) (by kernel_rfl) ?_ ?_
          · refine' Rgn.ob_body (fr := _) ?hf_a10 ?h1_a10 ?h2_a10 ?h3_a10 ?h_a10
            case hf_a10 => exact hfr
            case h1_a10 => kernel_rfl
            case h2_a10 => kernel_rfl
            case h3_a10 => rfl
            clear hfr
            intro z w1 hb hd ho K hK
            have e8 : (z 8) = .int .i64 CC := hd.out 8 (by kernel_rfl)
            clear hd ho
            go_simp
            have hh := hK.out (.int .i64 CC) _ (Below.refl _ _) rfl
            simp only [Act.put, List.setIfInBounds_toArray, List.set_cons_zero, List.set_cons_succ, e8] at hh
            exact hh
          exact Rgn.AllOb.nil
        case hend_a =>
          intro hfr
          refine' Rgn.end_plain (fr := _) ?g1_a ?g2_a ?g3_a
          case g1_a => exact hfr
          case g2_a => kernel_rfl
          clear hfr
          intro z w4 b4 hf
          obtain ⟨hi, hhi, hown⟩ : ∃ hi, hi ≤ w4.heap.size ∧ FrOwn w4 V.heap.size hi (z 9) (vecT B E) := hf.out 9 (by decide)
          have e10 : z 10 = .int .i64 CC := hf.out 10 (by decide)
          have hfin := Lib.hid (hown.wide (lo' := w.heap.size) (hi' := w4.heap.size) B1.out.size hhi)
          have Bf := Lib.hid (below_wt B1.out b4)
          simp only [e10]
          obtain ⟨xa, xc, hx⟩ := hown.shape
          rw [hx] at hfin
          simp only [hx]
          clear hf hown e10 b4 hhi hx
          go_wp2
          go_ret2
          exact ⟨_, by rw [hval.out]; first | done | rfl, by rw [hval.out]; exact hfin.out, Bf.out⟩
    · have hr := Lib.hid (saR_len (m := mi) hok hl)
      have hc1 : rsoC c p = 2 := by unfold rsoC; rw [if_pos hok, if_neg hl]
      rw [hc1]
      clear hok hval' hB1 hW1 hc1 hl
      go_wp2
      go_ret2
      exact ⟨.slice none 0 0, by rw [hr.out]; first | done | rfl, by rw [hr.out]; exact frOwn_nil _ _ _, B1.out⟩
end Go.Proofs.YtiddhnnofpbopaaGreatDoor
