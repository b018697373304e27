/- ChangeSet of the specification: a set after a step. Conditions: the graph is valid where neighbours are asked. -/
import Derived.Test.YtfbhdlkiffoflaaStsS
import Derived.Test.YtfbhdlkiffoflaaPut
import Derived.Test.YtfbhdlkiffoflaaFc
namespace Go.Proofs.Ytfbhdlkiffoflaa
open Go.RowKit Go.Deep
set_option linter.unusedVariables false

/-! ### the set after a step -/
def outL (xs : List Int) (node : Int) : List Int := xs.filter fun x => decide (x ≠ node)
theorem outL_succ (xs : List Int) (node : Int) (k : Nat) (h : k < xs.length) : outL (xs.take (k + 1)) node = outL (xs.take k) node ++ if xs.getD k 0 = node then [] else [xs.getD k 0] := by
  unfold outL
  rw [List.take_succ_eq_append_getElem h, List.filter_append]
  have e : xs.getD k 0 = xs[k] := by simp [List.getD, h]
  rw [e]
  congr 1
  by_cases hx : xs[k] = node
  · rw [if_pos hx]; simp [hx]
  · rw [if_neg hx]; simp [hx]
theorem outL_len (xs : List Int) (node : Int) : (outL xs node).length ≤ xs.length := List.length_filter_le _ _
def chL (still : Bool) (ps : List (Int × Int)) (xs : List Int) (node : Int) : List Int :=
  if still || (outL xs node).any (nearB ps node) then outL xs node else putL (outL xs node) node

set_option maxRecDepth 100000 in
set_option maxHeartbeats 8000000 in
theorem l08Change_any (bp : Nat) (g : Gr) (v : Value) (xs : List Int) (node draw : Int) (w : World) (hg : GrP w bp g) (hv : Ints w v xs) (hok : grOk g = true) (hl : xs.length ≤ 100) :
    Calls Try.prog 62 #[.pointer (some ⟨bp, 0, none⟩), v, .int .i64 node, .int .i64 draw] w fun e w' => ∃ rv, e = .returned rv ∧ w'.ownsRow w.heap.size 2 1 rv (chL (draw == 0) (edgesOf g.e) xs node).length (ints (chL (draw == 0) (edgesOf g.e) xs node)) ∧ Below w.heap.size w w' := by
  have hNear := Lib.hid (fun b W (hW : Below w.heap.size w W) => l08Near_any bp g node b W (hg.keep hW) hok)
  obtain ⟨hm, va, vc, rfl⟩ := hv.len
  obtain ⟨i0, hi, hz0, hz1, hz2⟩ := info_parts Try.infoI
  have hi' := Lib.hid hi; have hz0' := Lib.hid hz0; have hz1' := Lib.hid hz1; have hz2' := Lib.hid hz2
  have hv' := Lib.hid hv
  obtain ⟨still, hst⟩ : ∃ b, (draw == 0) = b := ⟨_, rfl⟩
  rw [hst]
  unfold maxLen at hm
  clear hi hz0 hz1 hz2 hg hv
  go_enter Try.func62, Try.ntmps62
  go_wp2
  go_loopw [9, 10] (fun ov cv wr => ∃ (c g1 gc : Nat), c ≤ xs.length ∧ cv = .int .i64 c ∧ ov = .slice (some ⟨g1, 0, none⟩) (outL (xs.take c) node).length gc ∧ Hid (wr.ownsRow w.heap.size 2 1 (.slice (some ⟨g1, 0, none⟩) (outL (xs.take c) node).length gc) (outL (xs.take c) node).length (ints (outL (xs.take c) node))) ∧ Hid (Below w.heap.size w wr)) (fun _ cv _ => xs.length - (intOf cv).toNat)
  case atStart => exact ⟨0, _, _, Nat.zero_le _, rfl, rfl, Lib.hid (by simpa [outL] using World.ownsRow_made w #[] 0 (Nat.le_refl _) (Nat.zero_le _) (by simp)), below1 _ _⟩
  case round =>
    obtain ⟨wo, rfl⟩ : ∃ wo : World, wo = wr := ⟨_, rfl⟩
    obtain ⟨c, g1, gc, hc, rfl, rfl, hown, bel⟩ := hrel
    have hsz := bel.out.size
    by_cases hlt : c < xs.length
    · obtain ⟨out, hout⟩ : ∃ o, outL (xs.take c) node = o := ⟨_, rfl⟩
      have hol : out.length ≤ c := by
        rw [← hout]
        have := outL_len (xs.take c) node
        rw [List.length_take] at this
        omega
      have hsucc := Lib.hid (outL_succ xs node c hlt)
      rw [hout] at hown hsucc ⊢
      obtain ⟨b, off, cap', hvv, hbl, hec⟩ := hv'.out.at (by omega)
      simp only [Value.slice.injEq] at hvv
      obtain ⟨rfl, -, rfl⟩ := hvv
      have hx := (bel.out.cell (p := ⟨b, off + c, none⟩) hbl).trans (hec c hlt)
      generalize xs.getD c 0 = x at hx hsucc
      have hout' := Lib.hid hout
      clear hec hout
      by_cases hn : x = node
      · have hs2 := Lib.hid (show outL (xs.take (c + 1)) node = out by rw [hsucc.out, if_pos hn]; simp)
        have hb : (x != node) = false := by simpa using hn
        clear hn
        go_wp2
        go_roundw
        case rel => exact ⟨c + 1, g1, gc, by omega, by go_num, by rw [hs2.out], by rw [hs2.out]; exact hown, bel⟩
        case measure => simp [intOf]; omega
      · have hs2 := Lib.hid (show outL (xs.take (c + 1)) node = out ++ [x] by rw [hsucc.out, if_neg hn])
        have hb : (x != node) = true := by simpa using hn
        clear hn
        go_wp2_with (at_builtin; (refine wpList_append_lies _ rfl _ _ 32 rfl w.heap.size 2 i0 (.int .i64 0) 1 8 Try.underlying32 hi'.out hz0'.out hz1'.out hz2'.out rfl (by omega) (.slice (some ⟨g1, 0, none⟩) out.length gc) out.length _ rfl (hown.out.alloc _) ⟨wo.heap.size, 0, none⟩ 1 1 [.int .i64 x] rfl rfl (one_new _ _ _) (by simp [Value.oneCell']) (by omega) (by unfold maxLen; omega) (by omega) (by simp; omega) _ rfl ?_); intro gg cap2 w3 hown3 hgrow hat3 hlt3)
        have B3 : Below w.heap.size w w3 := (bel.out.alloc hsz _).grown hgrow (by simp; omega) (fun k' hk' => (hown.out.lt k' hk').1)
        have B3' := Lib.hid B3
        clear B3
        go_roundw
        case rel => exact ⟨c + 1, gg, cap2, by omega, by go_num, by rw [hs2.out]; simp, Lib.hid (by rw [hs2.out]; simpa [ints] using hown3), B3'⟩
        case measure => simp [intOf]; omega
    · obtain rfl : c = xs.length := by omega
      have ht : outL (xs.take xs.length) node = outL xs node := by rw [List.take_length]
      rw [ht] at hown ⊢
      have hol := outL_len xs node
      have hdef := Lib.hid (show chL still (edgesOf g.e) xs node = if still || (outL xs node).any (nearB (edgesOf g.e) node) then outL xs node else putL (outL xs node) node from rfl)
      generalize outL xs node = out at hown hol hdef
      have hrow : Ints wo (.slice (some ⟨g1, 0, none⟩) out.length gc) out := (Own.of hown.out (Nat.le_refl _)).row
      have hrow' := Lib.hid hrow
      have hput := Lib.hid (l00Put_any _ out node wo hrow (by omega))
      clear hrow ht
      go_wp2
      go_loopw [11] (fun cv wq => ∃ k : Nat, k ≤ out.length ∧ cv = .int .i64 k ∧ Hid ((out.take k).any (nearB (edgesOf g.e) node) = false) ∧ wq = wo) (fun cv _ => out.length - (intOf cv).toNat)
      case atStart => exact ⟨0, Nat.zero_le _, rfl, show _ = _ by simp, rfl⟩
      case round =>
        obtain ⟨k, hk, rfl, hno, rfl⟩ := hrel
        by_cases hlt : k < out.length
        · rcases still with _ | _
          · obtain ⟨b, off, cap', hvv, hbl, hec⟩ := hrow'.out.at (by omega)
            simp only [Value.slice.injEq] at hvv
            obtain ⟨hvv, -, rfl⟩ := hvv
            simp only [Option.some.injEq, Addr.mk.injEq] at hvv
            obtain ⟨rfl, rfl, -⟩ := hvv
            have hx := hec k hlt
            have kI : (k : Int) < (out.length : Int) := by omega
            have hgo := Lib.hid (fun h => any_take_succ (p := nearB (edgesOf g.e) node) out k hlt hno.out h)
            have hyes := Lib.hid (fun h => any_yes (p := nearB (edgesOf g.e) node) out k hlt h)
            generalize out.getD k 0 = x at hx hgo hyes
            rw [Nat.zero_add] at hx
            have hnr := hNear.out x _ bel.out
            clear hec
            rcases hb : nearB (edgesOf g.e) node x with _ | _
            · rw [hb] at hnr
              have hg2 := Lib.hid (hgo.out hb)
              clear hb
              go_wp2_with fail
              (with_reducible refine hnr.mono ?_)
              rintro e w2 ⟨rfl, rfl⟩
              go_wp2
              go_roundw
              case rel => exact ⟨k + 1, by omega, by go_num, hg2, trivial⟩
              case measure => simp [intOf]; omega
            · rw [hb] at hnr
              have hfin := Lib.hid (show chL false (edgesOf g.e) xs node = out by rw [hdef.out, hyes.out hb]; rfl)
              clear hb
              go_wp2_with fail
              (with_reducible refine hnr.mono ?_)
              rintro e w2 ⟨rfl, rfl⟩
              go_wp2
              go_ret
              exact ⟨_, rfl, by rw [hfin.out]; exact hown.out, bel.out⟩
          · have hfin := Lib.hid (show chL true (edgesOf g.e) xs node = out by rw [hdef.out]; rfl)
            go_wp2
            go_ret
            exact ⟨_, rfl, by rw [hfin.out]; exact hown.out, bel.out⟩
        · obtain rfl : k = out.length := by omega
          have hno2 := hno.out
          rw [List.take_length] at hno2
          rcases still with _ | _
          · have hfin := Lib.hid (show chL false (edgesOf g.e) xs node = putL out node by rw [hdef.out, hno2]; rfl)
            have hp := hput.out
            clear hno2
            go_wp2_with fail
            (with_reducible refine hp.mono ?_)
            rintro e w2 ⟨rv, rfl, hownp, b2⟩
            have hownp' := Lib.hid hownp
            have B2 := Lib.hid (below_wt bel.out b2)
            clear hownp b2 hp
            go_wp2
            go_ret
            exact ⟨_, rfl, by rw [hfin.out]; exact ownsRow_lower hownp'.out hsz, B2.out⟩
          · have hfin := Lib.hid (show chL true (edgesOf g.e) xs node = out by rw [hdef.out]; rfl)
            clear hno2
            go_wp2
            go_ret
            exact ⟨_, rfl, by rw [hfin.out]; exact hown.out, bel.out⟩

set_option maxHeartbeats 2000000 in
theorem l08Weighed_any (bp : Nat) (g : Gr) (wt : Int) (right : Bool) (w : World) (hg : GrP w bp g) :
    Calls Try.prog 61 #[.pointer (some ⟨bp, 0, none⟩), .int .i64 wt, .bool right] w fun e w' => e = .returned (.int .i64 (askCode g 1 (right && inB wt 1 60))) ∧ ∃ m, w' = w.drewN m := by
  have hA := Lib.hid (fun r => l08Asked_any bp g 1 r w hg)
  have hI := Lib.hid (fun W => l00In_any wt 1 60 W)
  rcases right with _ | _
  · have hA' := hA.out (false && inB wt 1 60)
    rw [Bool.false_and] at hA' ⊢
    clear hA
    go_enter Try.func61, Try.ntmps61
    go_wp2_with fail
    (with_reducible refine hA'.mono ?_)
    rintro e w' ⟨rfl, m, rfl⟩
    go_wp2
    go_ret
    exact ⟨rfl, m, rfl⟩
  · rw [Bool.true_and]
    generalize inB wt 1 60 = r at hI ⊢
    have hA' := hA.out r
    clear hA
    go_enter Try.func61, Try.ntmps61
    go_wp2_with fail
    (with_reducible refine (hI.out _).mono ?_)
    rintro e w' ⟨rfl, rfl⟩
    go_wp2_with fail
    (with_reducible refine hA'.mono ?_)
    rintro e w' ⟨rfl, m, rfl⟩
    go_wp2
    go_ret
    exact ⟨rfl, m, rfl⟩

def chCode (g : Gr) (wt : Int) (xs : List Int) (node draw : Int) : Int :=
  if grOk g then if rises 0 (g.n - 1) xs && (inB node 0 (g.n - 1) && (inB draw 0 wt && inB wt 1 60)) then 0 else 2 else 1
def chOf (g : Gr) (wt : Int) (xs : List Int) (node draw : Int) : List Int × Int :=
  if chCode g wt xs node draw = 0 then if apartB (edgesOf g.e) xs then (chL (draw == 0) (edgesOf g.e) xs node, 0) else ([], 4) else ([], chCode g wt xs node draw)
theorem askCode_ch (g : Gr) (wt hi : Int) (xs : List Int) (node draw : Int) (h : grOk g = true → hi = g.n - 1) : askCode g 1 (((rises 0 hi xs && inB node 0 hi) && inB draw 0 wt) && inB wt 1 60) = chCode g wt xs node draw := by
  unfold askCode chCode
  cases hg : grOk g
  · rfl
  · rw [h hg]
    have h1 : inB 1 1 4 = true := by decide
    simp [h1, Bool.and_assoc]
theorem chCode_zero {g : Gr} {wt : Int} {xs : List Int} {node draw : Int} (h : chCode g wt xs node draw = 0) : grOk g = true ∧ rises 0 (g.n - 1) xs = true ∧ inB node 0 (g.n - 1) = true ∧ inB draw 0 wt = true ∧ inB wt 1 60 = true := by
  unfold chCode at h
  cases h1 : grOk g
  · simp [h1] at h
  · cases h2 : rises 0 (g.n - 1) xs
    · simp [h1, h2] at h
    · cases h3 : inB node 0 (g.n - 1)
      · simp [h1, h2, h3] at h
      · cases h4 : inB draw 0 wt
        · simp [h1, h2, h3, h4] at h
        · cases h5 : inB wt 1 60
          · simp [h1, h2, h3, h4, h5] at h
          · exact ⟨rfl, rfl, rfl, rfl, rfl⟩

set_option maxHeartbeats 8000000 in
theorem ChangeSet_spec (gv v : Value) (g : Gr) (wt : Int) (xs : List Int) (node draw : Int) (w : World) (hg : GrR w gv g) (hv : Ints w v xs) :
    Calls Try.prog 31 #[gv, .int .i64 wt, v, .int .i64 node, .int .i64 draw] w fun e w' => ∃ r, e = .returned (.tuple #[r, .int .i64 (chOf g wt xs node draw).2]) ∧ IntsMine 2 w' w.heap.size w'.heap.size r (chOf g wt xs node draw).1 ∧ Below w.heap.size w w' := by
  obtain ⟨gvv, rfl, hr⟩ := hg
  have hp := GrR.ptr (n := g.n) hr
  have B0 := below1 w (.cells #[.int .i64 g.n, gvv] 27)
  have HG := Blk.new w #[.int .i64 g.n, gvv] 27
  have hv1 := hv.keep B0
  obtain ⟨hi, hhi⟩ : ∃ hi, IntKind.i64.wrap (g.n - 1) = hi := ⟨_, rfl⟩
  obtain ⟨w1, hw1⟩ : ∃ u, w.alloc (.cells #[.int .i64 g.n, gvv] 27) = u := ⟨_, rfl⟩
  rw [hw1] at hp B0 hv1 HG
  have hL := l08Set_any w.heap.size ⟨g.n, g.e⟩ v xs hi w1 hp hv1 hhi
  have hW := Lib.hid (fun right W (hW : Below w1.heap.size w1 W) => l08Weighed_any w.heap.size ⟨g.n, g.e⟩ wt right W (hp.keep hW))
  have hP := Lib.hid (fun W (hW : Below w1.heap.size w1 W) => l08Apart_any w.heap.size ⟨g.n, g.e⟩ v xs W (hp.keep hW) (hv1.keep hW))
  have hC := Lib.hid (fun W (hW : Below w1.heap.size w1 W) => l08Change_any w.heap.size ⟨g.n, g.e⟩ v xs node draw W (hp.keep hW) (hv1.keep hW))
  have hI := Lib.hid (fun W => l00In_any node 0 hi W)
  have hD := Lib.hid (fun W => l00In_any draw 0 wt W)
  have hw1' := Lib.hid hw1
  have hcode := askCode_ch g wt hi xs node draw (fun h => by rw [← hhi]; have := grOk_nodes h; exact wrapI (by omega))
  have hhi2 : grOk g = true → hi = g.n - 1 := fun h => by rw [← hhi]; have := grOk_nodes h; exact wrapI (by omega)
  obtain ⟨g0, g1⟩ := HG.two
  clear hw1 hv hr hp hv1 HG
  rcases hc0 : decide (chCode g wt xs node draw = 0) with _ | _
  · have hc : chCode g wt xs node draw ≠ 0 := by simpa using hc0
    have hr := Lib.hid (show chOf g wt xs node draw = ([], chCode g wt xs node draw) by simp [chOf, hc])
    generalize chCode g wt xs node draw = code at hc hcode hr
    have hne : (code != 0) = true := by simpa using hc
    clear hc0 hc hP hC hhi2
    rcases h1 : rises 0 hi xs with _ | _
    · rw [h1] at hL hcode
      rw [Bool.false_and, Bool.false_and] at hcode
      have hL' := Lib.hid hL
      have hcode' := Lib.hid hcode
      clear h1 hL hcode
      go_enter Try.func31, Try.ntmps31
      go_upto_region 1 with (fail)
      rw [hw1'.out]
      go_wp2_with fail
      (with_reducible refine hL'.out.mono ?_)
      rintro e w2 ⟨rfl, m, rfl⟩
      go_wp2_with fail
      (with_reducible refine (hW.out _ _ (below_drewN (Below.refl _ _) m)).mono ?_)
      rintro e w3 ⟨rfl, m2, rfl⟩
      simp only
      rw [hcode'.out]
      go_wp2
      go_ret2
      rw [hr.out]
      exact ⟨_, rfl, empty_mine _ _ (below_drewN B0 _).size, (below_drewN B0 _).alloc (below_drewN B0 _).size _⟩
    · rw [h1] at hL hcode
      rw [Bool.true_and] at hcode
      have hL' := Lib.hid hL
      clear h1 hL
      rcases h2 : inB node 0 hi with _ | _
      · rw [h2] at hI hcode
        rw [Bool.false_and] at hcode
        have hcode' := Lib.hid hcode
        clear h2 hcode
        go_enter Try.func31, Try.ntmps31
        go_upto_region 1 with (fail)
        rw [hw1'.out]
        go_wp2_with fail
        (with_reducible refine hL'.out.mono ?_)
        rintro e w2 ⟨rfl, m, rfl⟩
        go_wp2_with fail
        (with_reducible refine (hI.out _).mono ?_)
        rintro e w2 ⟨rfl, rfl⟩
        go_wp2_with fail
        (with_reducible refine (hW.out _ _ (below_drewN (Below.refl _ _) _)).mono ?_)
        rintro e w3 ⟨rfl, m2, rfl⟩
        simp only
        rw [hcode'.out]
        go_wp2
        go_ret2
        rw [hr.out]
        exact ⟨_, rfl, empty_mine _ _ (below_drewN B0 _).size, (below_drewN B0 _).alloc (below_drewN B0 _).size _⟩
      · rw [h2] at hI hcode
        rw [Bool.true_and] at hcode
        have hcode' := Lib.hid hcode
        clear h2 hcode
        generalize inB draw 0 wt = b at hD hcode'
        go_enter Try.func31, Try.ntmps31
        go_upto_region 1 with (fail)
        rw [hw1'.out]
        go_wp2_with fail
        (with_reducible refine hL'.out.mono ?_)
        rintro e w2 ⟨rfl, m, rfl⟩
        go_wp2_with fail
        (with_reducible refine (hI.out _).mono ?_)
        rintro e w2 ⟨rfl, rfl⟩
        go_wp2_with fail
        (with_reducible refine (hD.out _).mono ?_)
        rintro e w2 ⟨rfl, rfl⟩
        go_wp2_with fail
        (with_reducible refine (hW.out _ _ (below_drewN (Below.refl _ _) _)).mono ?_)
        rintro e w3 ⟨rfl, m2, rfl⟩
        simp only
        rw [hcode'.out]
        go_wp2
        go_ret2
        rw [hr.out]
        exact ⟨_, rfl, empty_mine _ _ (below_drewN B0 _).size, (below_drewN B0 _).alloc (below_drewN B0 _).size _⟩
  · have hc : chCode g wt xs node draw = 0 := by simpa using hc0
    obtain ⟨hok, hri, hnd, hdr, hwt⟩ := chCode_zero hc
    obtain ⟨n1, n5⟩ := grOk_nodes hok
    have hlen := rises_len hri (by omega)
    rw [← hhi2 hok] at hri hnd
    have hr0 := Lib.hid (show chOf g wt xs node draw = if apartB (edgesOf g.e) xs then (chL (draw == 0) (edgesOf g.e) xs node, 0) else ([], 4) by simp [chOf, hc])
    rw [hc, hri, hnd, hdr, Bool.true_and, Bool.true_and] at hcode
    rw [hri] at hL
    rw [hnd] at hI
    rw [hdr] at hD
    have hP' := Lib.hid (fun W h => hP.out W h hok)
    have hC' := Lib.hid (fun W h => hC.out W h hok (by omega))
    have hcode' := Lib.hid hcode
    have hL' := Lib.hid hL
    have hs1 := B0.size
    clear hc0 hc hok hri hnd hdr hwt hlen hcode hL hP hC hhi2
    rcases hap : apartB (edgesOf g.e) xs with _ | _
    · have hr := Lib.hid (show chOf g wt xs node draw = ([], 4) by rw [hr0.out, hap]; rfl)
      rw [hap] at hP'
      clear hap hr0
      go_enter Try.func31, Try.ntmps31
      go_upto_region 1 with (fail)
      rw [hw1'.out]
      go_wp2_with fail
      (with_reducible refine hL'.out.mono ?_)
      rintro e w2 ⟨rfl, m, rfl⟩
      go_wp2_with fail
      (with_reducible refine (hI.out _).mono ?_)
      rintro e w2 ⟨rfl, rfl⟩
      go_wp2_with fail
      (with_reducible refine (hD.out _).mono ?_)
      rintro e w2 ⟨rfl, rfl⟩
      go_wp2_with fail
      (with_reducible refine (hW.out _ _ (below_drewN (Below.refl _ _) _)).mono ?_)
      rintro e w3 ⟨rfl, m2, rfl⟩
      simp only
      rw [hcode'.out]
      go_wp2_with fail
      (with_reducible refine (hP'.out _ (below_drewN (Below.refl _ _) _)).mono ?_)
      rintro e w4 ⟨rfl, b4⟩
      have B4 := Lib.hid ((below_drewN B0 _).trans (b4.mono (below_drewN B0 _).size))
      clear b4
      go_wp2
      go_ret2
      rw [hr.out]
      exact ⟨_, rfl, empty_mine _ _ B4.out.size, B4.out.alloc B4.out.size _⟩
    · have hr := Lib.hid (show chOf g wt xs node draw = (chL (draw == 0) (edgesOf g.e) xs node, 0) by rw [hr0.out, hap]; rfl)
      rw [hap] at hP'
      clear hap hr0
      generalize chL (draw == 0) (edgesOf g.e) xs node = out at hr hC'
      go_enter Try.func31, Try.ntmps31
      go_upto_region 1 with (fail)
      rw [hw1'.out]
      go_wp2_with fail
      (with_reducible refine hL'.out.mono ?_)
      rintro e w2 ⟨rfl, m, rfl⟩
      go_wp2_with fail
      (with_reducible refine (hI.out _).mono ?_)
      rintro e w2 ⟨rfl, rfl⟩
      go_wp2_with fail
      (with_reducible refine (hD.out _).mono ?_)
      rintro e w2 ⟨rfl, rfl⟩
      go_wp2_with fail
      (with_reducible refine (hW.out _ _ (below_drewN (Below.refl _ _) _)).mono ?_)
      rintro e w3 ⟨rfl, m2, rfl⟩
      simp only
      rw [hcode'.out]
      go_wp2_with fail
      (with_reducible refine (hP'.out _ (below_drewN (Below.refl _ _) _)).mono ?_)
      rintro e w4 ⟨rfl, b4⟩
      have b14 := (below_drewN (Below.refl w1.heap.size w1) (m + m2)).trans (b4.mono (Nat.le_refl _))
      have hc4 := hC'.out _ b14
      have B4 := Lib.hid (B0.trans (b14.mono hs1))
      have hs4 := B4.out.size
      clear b4 b14
      go_wp2_with fail
      (with_reducible refine hc4.mono ?_)
      rintro e w5 ⟨rv, rfl, hown, b5⟩
      have hown' := Lib.hid hown
      have B5 := Lib.hid (B4.out.trans (b5.mono hs4))
      clear hown b5 hc4
      go_wp2
      go_ret2
      rw [hr.out]
      exact ⟨_, rfl, (Own.of (ownsRow_lower hown'.out hs4) (Nat.le_refl _)).minei, B5.out⟩
end Go.Proofs.Ytfbhdlkiffoflaa
