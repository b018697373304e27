/- The even spread: the model, and both functions. Conditions: told by the code. -/
import Derived.Test.YtiddhnnofpbopaaDoorCp
import Derived.Test.YtiddhnnofpbopaaDoorVec
import Derived.Test.YtiddhnnofpbopaaDoorFsG
import Derived.Test.YtiddhnnofpbopaaDoorOpsG
import Derived.Test.YtiddhnnofpbopaaDoorChainH
namespace Go.Proofs.YtiddhnnofpbopaaDoor
open Go.RowKit Go.Deep
set_option linter.unusedVariables false
set_option linter.unusedSimpArgs false

theorem FrsRp.ownE {w : World} {g n lo hi : Nat} {x y : ByteArray} (h : FrsRp w g n n x y) (hn : n ≤ 2097152) (h1 : lo ≤ g) (h2 : g < hi) : FrOwn w lo hi (.slice (some ⟨g, 0, none⟩) n n) (List.replicate n (x, y)) := by
  obtain ⟨c, hB, hs, _, hc⟩ := h
  refine ⟨by simpa using hn, Or.inr ⟨g, n, c, by simp, h1, h2, hB, by simp [hs], fun i hi => ?_⟩⟩
  have hi' : i < n := by simpa using hi
  have := hc i hi'
  simpa [List.getD, hi'] using this
theorem wpList_append_long {ops : Array Oper} {rest : List Oper} {o : Oper} {a : Act} {w : World} {Q : Exit → Act → World → Prop} (hgd : o.guard = none) (s x : Operand)
    (ho : o.op = .call { callee := .builtin .append, args := #[s, x], argTypes := #[30, 30] }) (O : Nat) (v : Value) (R : List Nat) (hM : MadeL LongS 29 w (O + 1) v R) (hs : a.eval s = v)
    (b c : Nat) (p : Value) (N : Nat) (hx : a.eval x = .slice (some ⟨b, 0, none⟩) 1 c) (hb : Blk w b #[p] 29) (hp : LongS w p N) (hl : R.length ≤ 1000000) (hB : O + 1 ≤ w.heap.size)
    (h : ∀ g cap w', MadeL LongS 29 w' (O + 1) (.slice (some ⟨g, 0, none⟩) (R.length + 1) cap) (R ++ [N]) → O + 1 ≤ g → Below (O + 1) w w' → (∀ u D, LongS w u D → LongS w' u D) → wpList Tryd.prog ops Q rest (a.put o.dst (.slice (some ⟨g, 0, none⟩) (R.length + 1) cap)) w') : wpList Tryd.prog ops Q (o :: rest) a w :=
  wpList_plain hgd fun K hK => wp_append_long (ops := ops) hgd s x ho O v R hM hs b c p N hx hb hp hl hB fun g cap w' h1 h2 h3 h4 => hK _ _ (h g cap w' h1 h2 h3 h4)
/-- what EvenSpread hands back -/
def evR (n : Int) : List (ByteArray × ByteArray) × Int :=
  if inB n 1 6 = true then (vecT (List.replicate n.toNat 1) n.toNat, vecC (List.replicate n.toNat 1) n.toNat) else ([], 2)
theorem num_small {n : Nat} (h : n < 10) : numT n = ⟨#[UInt8.ofNat (48 + n)]⟩ := by
  unfold numT
  rw [numW_small (show n < B9 by simp only [B9]; omega), decW_small h]
theorem good_small {n : Nat} (h : n < 10) : vecGood 1 n = true := by
  unfold vecGood toldB
  rw [Nat.gcd_one_left, Nat.div_one, Nat.div_one, num_small (show 1 < 10 by decide), num_small h]
  exact decide_eq_true ⟨by show (1 : Nat) ≤ 300; decide, by show (1 : Nat) ≤ 300; decide⟩
theorem even_told (n : Nat) (h : n < 10) : vecT (List.replicate n 1) n = List.replicate n (vecOne 1 n) ∧ vecC (List.replicate n 1) n = 0 := by
  have hok : vecOk (List.replicate n 1) n = true := by
    unfold vecOk
    rw [List.all_eq_true]
    intro x hx
    rw [List.eq_of_mem_replicate hx]; exact good_small h
  unfold vecT vecC
  rw [if_pos hok, if_pos hok, List.map_replicate]
  exact ⟨rfl, rfl⟩
theorem evR_no {n : Int} (h : inB n 1 6 = false) : evR n = ([], 2) := by unfold evR; rw [if_neg (by rw [h]; decide)]
theorem evR_yes {n : Nat} (h1 : 1 ≤ n) (h6 : n ≤ 6) : evR n = (List.replicate n (vecOne 1 n), 0) ∧ evR n = (vecT (List.replicate n 1) n, vecC (List.replicate n 1) n) := by
  have e : evR n = (vecT (List.replicate n 1) n, vecC (List.replicate n 1) n) := by
    unfold evR
    rw [if_pos (inB_iff.2 (by omega)), Int.toNat_natCast]
  refine ⟨?_, e⟩
  rw [e, (even_told n (by omega)).1, (even_told n (by omega)).2]
theorem rep_take (n k : Nat) (h : k < n) : (List.replicate n 1).take (k + 1) = (List.replicate n 1).take k ++ [1] := by
  rw [List.take_add_one]; simp [h]

set_option maxRecDepth 100000 in
set_option maxHeartbeats 4000000 in
theorem EvenSpread_impl (ni : Int) (w : World) (htab : Tab10 w) :
    Calls Tryd.prog 5 #[.int .i64 ni] w fun e w' => ∃ v, e = .returned (.tuple #[v, .int .i64 (evR ni).2]) ∧ FrOwn w' w.heap.size w'.heap.size v (evR ni).1 ∧ Below w.heap.size w w' := by
  have h1 := Lib.hid (isIn_any ni 1 6 w)
  have htab' := Lib.hid htab
  clear htab
  go_enter Tryd.func5, Tryd.ntmps5
  go_wp2_with fail
  (with_reducible refine h1.out.mono ?_)
  rintro e w1 ⟨rfl, rfl⟩
  rcases hn : inB ni 1 6 with _ | _
  · have hr := Lib.hid (evR_no (n := ni) hn)
    clear hn h1
    go_wp2
    go_ret2
    exact ⟨.slice none 0 0, by rw [hr.out]; first | done | rfl, by rw [hr.out]; exact ⟨by simp, Or.inl ⟨0, rfl, rfl⟩⟩, Below.refl _ _⟩
  · obtain ⟨u1, u2⟩ := inB_iff.1 hn
    obtain ⟨n, rfl⟩ : ∃ n : Nat, ni = n := ⟨ni.toNat, by omega⟩
    have n1 : 1 ≤ n := by omega
    have n6 : n ≤ 6 := by omega
    have hr := Lib.hid (evR_yes n1 n6).1
    have hfo := Lib.hid (FractionOf_impl 1 n w (by omega) (by omega) htab'.out)
    rw [show ((1 : Int)) = ((1 : Nat) : Int) from rfl, ofR_yes (by omega : 0 < n)] at hfo
    have hv : vecOne 1 n = (toldN (1 / Nat.gcd 1 n) (n / Nat.gcd 1 n), toldD (1 / Nat.gcd 1 n) (n / Nat.gcd 1 n)) := rfl
    unfold opV at hfo
    simp only at hfo
    generalize toldN (1 / Nat.gcd 1 n) (n / Nat.gcd 1 n) = x at hfo hv
    generalize toldD (1 / Nat.gcd 1 n) (n / Nat.gcd 1 n) = y at hfo hv
    generalize toldC (1 / Nat.gcd 1 n) (n / Nat.gcd 1 n) = C at hfo
    rw [hv] at hr
    have hfo' := Lib.hid (show Calls Tryd.prog 12 #[.int .i64 1, .int .i64 (n : Int)] w _ from hfo.out)
    clear hn h1 u1 u2 hv hfo
    go_wp2_with fail
    (with_reducible refine hfo'.out.mono ?_)
    rintro e w2 ⟨rfl, b2⟩
    have bX := below1 w2 (.cells #[.string x, .string y] 35)
    have bY := below1 (w2.alloc (.cells #[.string x, .string y] 35)) (.cells #[.string x, .string y] 35)
    have hX := Blk.new w2 #[.string x, .string y] 35
    have hY := Blk.new (w2.alloc (.cells #[.string x, .string y] 35)) #[.string x, .string y] 35
    obtain ⟨x0, x1⟩ := (⟨hX.cell 0, hX.cell 1⟩ : _ ∧ _)
    obtain ⟨y0, y1⟩ := (⟨hY.cell 0, hY.cell 1⟩ : _ ∧ _)
    simp only [List.getElem?_toArray, List.getElem?_cons_zero, List.getElem?_cons_succ] at x0 x1 y0 y1
    simp only [World.size_alloc] at y0 y1
    have hrp := Lib.hid (repeat_any _ 0 1 n x y _ y0 (by rw [Nat.zero_add]; exact y1) n1 n6)
    have B2 := Lib.hid (below_wt (below_wt b2 bX) bY)
    clear hX hY y0 y1 b2 bX bY hfo'
    go_wp2_with fail
    (with_reducible refine hrp.out.mono ?_)
    rintro e w3 ⟨g, rfl, hF, hg, b3⟩
    have B3 := Lib.hid (below_wt B2.out b3)
    have hgw : w.heap.size ≤ g := Nat.le_trans B2.out.size hg
    have hfin := Lib.hid (hF.ownE (lo := w.heap.size) (hi := w3.heap.size) (by omega) hgw (by obtain ⟨c, hB, _⟩ := hF; exact hB.lt))
    clear hF hg b3 hrp x0 x1 B2
    go_wp2
    go_ret2
    exact ⟨_, by rw [hr.out]; first | done | rfl, by rw [hr.out]; exact hfin.out, B3.out⟩

set_option maxRecDepth 100000 in
set_option maxHeartbeats 4000000 in
theorem EvenSpread_spec (ni : Int) (w : World) :
    Calls Tryd.prog 4 #[.int .i64 ni] w fun e w' => ∃ v, e = .returned (.tuple #[v, .int .i64 (evR ni).2]) ∧ FrOwn w' w.heap.size w'.heap.size v (evR ni).1 ∧ Below w.heap.size w w' := by
  have h1 := Lib.hid (l00In_any ni 1 6 w)
  go_enter Tryd.func4, Tryd.ntmps4
  go_wp2_with fail
  (with_reducible refine h1.out.mono ?_)
  rintro e w1 ⟨rfl, rfl⟩
  rcases hn : inB ni 1 6 with _ | _
  · have hr := Lib.hid (evR_no (n := ni) hn)
    have hfin : FrOwn (w.alloc (.cells #[] 35)) w.heap.size (w.heap.size + 1) (.slice (some ⟨w.heap.size, 0, none⟩) 0 0) [] :=
      ⟨by simp, Or.inr ⟨w.heap.size, 0, #[], rfl, Nat.le_refl _, Nat.lt_succ_self _, Blk.new _ _ _, by simp, fun i hi => by simp at hi⟩⟩
    replace hfin := Lib.hid hfin
    have Bf := Lib.hid (below1 w (.cells #[] 35))
    clear hn h1
    go_wp2
    go_ret2
    exact ⟨.slice (some ⟨w.heap.size, 0, none⟩) 0 0, by rw [hr.out]; first | done | rfl, by rw [hr.out]; have := hfin.out; simpa using this, Bf.out⟩
  · obtain ⟨u1, u2⟩ := inB_iff.1 hn
    obtain ⟨n, rfl⟩ : ∃ n : Nat, ni = n := ⟨ni.toNat, by omega⟩
    have n1 : 1 ≤ n := by omega
    have n6 : n ≤ 6 := by omega
    have hr := Lib.hid (evR_yes n1 n6).2
    have bD := below1 w (.cells #[.int .i64 (n : Int)] 2)
    have hD0 := one_long w n (by omega) (by simp only [B9]; omega)
    have bV := below1 (w.alloc (.cells #[.int .i64 (n : Int)] 2)) (.cells #[.slice none 0 0, .slice (some ⟨w.heap.size, 0, none⟩) 1 1] 32)
    have hV := Blk.new (w.alloc (.cells #[.int .i64 (n : Int)] 2)) #[.slice none 0 0, .slice (some ⟨w.heap.size, 0, none⟩) 1 1] 32
    have hDv := hD0.keep bV
    simp only [World.size_alloc] at hV
    have hvec := Lib.hid (show VecAt _ (w.heap.size + 1) ((List.replicate n 1).take 0) none 0 (.slice (some ⟨w.heap.size, 0, none⟩) 1 1) n from ⟨hV, MadeL.nil _ _ _, hDv⟩)
    have hOV := Lib.hid (show (w.alloc (.cells #[.int .i64 (n : Int)] 2)).heap.size ≤ w.heap.size + 1 by rw [World.size_alloc]; exact Nat.le_refl _)
    have B0 := Lib.hid bD
    have bV' := Lib.hid bV
    clear hn h1 u1 u2 bD hD0 bV hV hDv
    go_wp2_with fail
    generalize hW : w.alloc (.cells #[.int .i64 (n : Int)] 2) = W at *
    generalize w.heap.size + 1 = O at *
    clear hW
    go_loopw [5] (fun i wr => ∃ (k : Nat) (na : Option Addr) (nc2 : Nat) (da2 : Option Addr) (dl2 dc2 : Nat), k ≤ n ∧ i = .int .i64 (k : Int) ∧ Hid (VecAt wr O ((List.replicate n 1).take k) na nc2 (.slice da2 dl2 dc2) n) ∧ Hid (Below W.heap.size W wr)) (fun i _ => n - (intOf i).toNat)
    case atStart => exact ⟨0, _, _, _, _, _, Nat.zero_le _, rfl, hvec, bV'⟩
    case round =>
      clear hvec bV'
      obtain ⟨k, na, nc2, da2, dl2, dc2, hk, rfl, hvec, bW⟩ := hrel
      have hkl : ((List.replicate n 1).take k).length = k := by simp; omega
      by_cases hlt : k < n
      · have i1 : (k : Int) < (n : Int) := by omega
        have hlt' := Lib.hid hlt
        have hnx := Lib.hid (rep_take n k hlt)
        have hRl := Lib.hid hkl
        generalize (List.replicate n 1).take k = R at *
        have hO := hvec.out.1
        rw [hkl] at hO
        have o0 := hO.cell 0
        simp only [List.getElem?_toArray, List.getElem?_cons_zero] at o0
        have c1 := below1 wr (.cells #[.int .i64 1] 2)
        have c2 := below1 (wr.alloc (.cells #[.int .i64 1] 2)) (.cells #[.slice (some ⟨wr.heap.size, 0, none⟩) 1 1] 29)
        have c12 := below_wt c1 c2
        have hp := (one_long1 wr).keep c2
        have hb := Blk.new (wr.alloc (.cells #[.int .i64 1] 2)) #[.slice (some ⟨wr.heap.size, 0, none⟩) 1 1] 29
        simp only [World.size_alloc] at hb
        have hv2 := hvec.out.keep c12
        have hM := hv2.2.1
        rw [hRl.out] at hM
        have hM' := Lib.hid hM
        have hp' := Lib.hid hp
        have hb' := Lib.hid hb
        have hv2' := Lib.hid hv2
        have bW2 := Lib.hid (below_wt bW.out c12)
        clear hlt hkl hO hvec c1 c2 c12 hp hb hM hv2 bW
        go_wp2_with (at_builtin; (refine wpList_append_long rfl _ _ rfl O (.slice na k nc2) R hM'.out rfl (wr.heap.size + 1) 1 _ 1 rfl hb'.out hp'.out (by rw [hRl.out]; omega) (by have := hv2'.out.1.lt; simp only [World.size_alloc] at this ⊢; omega) ?_); intro g cap w5 hM5 hg5 b5 hk5; rw [hRl.out] at hM5 ⊢; have hO5 := hv2'.out.1.keep b5 (Nat.lt_succ_self O); rw [hRl.out] at hO5; have y0 := hO5.cell 0; have f0 := hO5.frozen 0; simp only [List.getElem?_toArray, List.getElem?_cons_zero] at y0; clear o0)
        have hst := VecAt.store (R := R) (by rw [hRl.out]; exact hO5) (by rw [hRl.out]; exact hM5) hg5 (hk5 _ _ hv2'.out.2.2)
        rw [hRl.out, ← hnx.out] at hst
        have hst' := Lib.hid hst
        have Bn := Lib.hid ((bW2.out.trans (b5.mono (by have := hOV.out; omega))).setCell (p := ⟨O, 0, none⟩) hOV.out (.slice (some ⟨g, 0, none⟩) (k + 1) cap))
        clear hM5 hg5 b5 hk5 hO5 hst hM' hp' hb' hv2' bW2
        go_roundw
        case rel => exact ⟨k + 1, _, _, _, _, _, by have := hlt'.out; omega, by go_num, hst', Bn⟩
        case measure => have := hlt'.out; simp [intOf]; omega
      · obtain rfl : n = k := by omega
        have hnn : ¬ (n : Int) < (n : Int) := by omega
        have hall : (List.replicate n 1).take n = List.replicate n 1 := by simp
        rw [hall] at hvec
        have hlen := Lib.hid (List.length_replicate (n := n) (a := 1))
        have hO := hvec.out.1
        rw [List.length_replicate] at hO
        have hrow := hvec.out.2.1.done
        rw [List.length_replicate] at hrow
        have htl := Lib.hid (told_any O na da2 n nc2 dl2 dc2 (List.replicate n 1) n wr hO hlen.out.symm hrow hvec.out.2.2 (by omega) (fun i hi => Nat.le_trans (dlen_le b9 (L := 1) (by rw [List.length_replicate] at hi; simp [List.getD, hi, B9])) (by decide)) (Nat.le_trans (dlen_le b9 (L := 1) (by simp only [B9]; omega)) (by decide)) (by omega))
        have B2 := Lib.hid (below_wt B0.out bW.out)
        clear hlt hkl hall hvec hO hrow bW
        go_wp2_with fail
        (with_reducible refine htl.out.mono ?_)
        rintro e w3 ⟨v, rfl, hown, b3⟩
        have hfin := Lib.hid (hown.wide (lo' := w.heap.size) (hi' := w3.heap.size) B2.out.size (Nat.le_refl _))
        have Bf := Lib.hid (below_wt B2.out b3)
        clear hown b3 htl
        go_wp2
        go_ret2
        exact ⟨v, by rw [hr.out]; first | done | rfl, by rw [hr.out]; exact hfin.out, Bf.out⟩
end Go.Proofs.YtiddhnnofpbopaaDoor
