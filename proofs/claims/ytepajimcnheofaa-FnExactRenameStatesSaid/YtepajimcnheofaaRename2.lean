/- RenameStates of the specification returns 'renOf'. Conditions: none on the chain and the list beyond what is read. -/
import Derived.Test.YtepajimcnheofaaRename
import Derived.Deep.AppendLies
import Derived.Deep.RegionHeld3
namespace Go.Proofs.Ytepajimcnheofaa
open Go.RowKit Go.Deep
set_option linter.unusedVariables false

set_option maxRecDepth 100000 in
set_option maxHeartbeats 16000000 in
theorem RenameStates_spec (cv dv : Value) (c : Ch) (o : List Int) (w : World) (hc : ChR w cv c) (hd : Ints w dv o) :
    Calls Try.prog 30 #[cv, dv] w fun e w' => ∃ rv, e = .returned (.tuple #[rv, .int .i64 (renOf c o).2]) ∧ ChOwn 37 2 w' w.heap.size w'.heap.size rv (renOf c o).1 ∧ Below w.heap.size w w' := by
  obtain ⟨a, cap, rfl⟩ := hc.shape
  obtain ⟨da, dcap, rfl⟩ := hd.shape
  have hdm := hd.1
  have hdm : o.length ≤ 9223372036854775807 := by simpa [ints, maxLen] using hdm
  have B0 := below2 w (.cells #[.int .i64 c.n, .int .i64 c.t, .slice a c.w.length cap] 26) (.cells #[.int .i64 0, .int .i64 0, .slice none 0 0] 26)
  have hB := (Blk.new w #[.int .i64 c.n, .int .i64 c.t, .slice a c.w.length cap] 26).alloc (.cells #[.int .i64 0, .int .i64 0, .slice none 0 0] 26)
  have hZ := Blk.new (w.alloc (.cells #[.int .i64 c.n, .int .i64 c.t, .slice a c.w.length cap] 26)) #[.int .i64 0, .int .i64 0, .slice none 0 0] 26
  simp only [World.size_alloc] at hZ
  have Pc : ChP ((w.alloc (.cells #[.int .i64 c.n, .int .i64 c.t, .slice a c.w.length cap] 26)).alloc (.cells #[.int .i64 0, .int .i64 0, .slice none 0 0] 26)) w.heap.size c := ⟨_, hB.cell 0, hB.cell 1, hB.cell 2, (hc.keep B0).rows⟩
  have hsz0 : ((w.alloc (.cells #[.int .i64 c.n, .int .i64 c.t, .slice a c.w.length cap] 26)).alloc (.cells #[.int .i64 0, .int .i64 0, .slice none 0 0] 26)).heap.size = w.heap.size + 2 := by simp
  have hszV := Lib.hid hsz0
  clear hsz0
  obtain ⟨V, hV⟩ : ∃ V, (w.alloc (.cells #[.int .i64 c.n, .int .i64 c.t, .slice a c.w.length cap] 26)).alloc (.cells #[.int .i64 0, .int .i64 0, .slice none 0 0] 26) = V := ⟨_, rfl⟩
  rw [hV] at Pc hB hZ B0 hszV
  have hV' := Lib.hid hV
  clear hV
  by_cases oc : chOk c = true
  · obtain ⟨n1, n2, t1, t2, hlen, hrows⟩ := chOk_all oc
    have hrows' := Lib.hid hrows
    have hlen' := Lib.hid hlen
    clear hrows hlen
    obtain ⟨N, hN⟩ : ∃ N : Nat, c.n = N := ⟨c.n.toNat, by omega⟩
    have hN' := Lib.hid hN
    have hN1 : 1 ≤ N := by omega
    have hN6 : N ≤ 6 := by omega
    have hNt : c.n.toNat = N := by omega
    have hno := Lib.hid (fun (h : isOrd o N = false) => show renOf c o = (zeroCh, 2) by simp [renOf, oc, hNt, h])
    have hyes := Lib.hid (fun (h : isOrd o N = true) => show renOf c o = (renCh c o, 0) by simp [renOf, oc, hNt, h])
    have oc' := Lib.hid oc
    clear hN hNt oc
    by_cases hol : o.length = N
    · have hcn : ((o.length : Int) == c.n) = true := by rw [hN'.out]; simp [hol]
      have hol' := Lib.hid hol
      clear hol
      go_enter Try.func30, Try.ntmps30
      go_wp2_with fail
      rw [hV'.out]
      refine (l01Ok_any _ c _ Pc).mono ?_
      rintro e w1 ⟨rfl, m, rfl⟩
      rw [oc'.out]
      have bm : Below V.heap.size V (V.drewN m) := below_drewN (Below.refl _ V) m
      have hZ1 : Blk (V.drewN m) _ _ _ := hZ
      have hB1 : Blk (V.drewN m) _ _ _ := hB
      have P1 := Pc.keep bm
      have BB := below_drewN B0 m
      have hsz1 := Lib.hid (show (V.drewN m).heap.size = w.heap.size + 2 from hszV.out)
      generalize V.drewN m = W at *
      clear Pc B0 bm hB hZ
      obtain ⟨q0, q1, q2⟩ := hB1.three
      go_wp2
      go_loop [6, 7] (fun ok i => ∃ (k : Nat) (b : Bool), k ≤ N ∧ i = .int .i64 k ∧ ok = .bool b ∧ Hid (b = true → ∀ j, j < k → hasB o j = true) ∧ Hid (b = false → isOrd o N = false)) (fun _ i => N - (intOf i).toNat)
      case atStart => exact ⟨0, true, Nat.zero_le _, rfl, rfl, fun _ j hj => by omega, fun h => by cases h⟩
      case round =>
        obtain ⟨k, b, hk, rfl, rfl, h1, h2⟩ := hrel
        cases b with
        | false =>
          have hr := Lib.hid (hno.out (h2.out (by simp)))
          obtain ⟨z0, z1, z2⟩ := hZ1.three
          have f0 := hZ1.frozen 0
          have f1 := hZ1.frozen 1
          have f2 := hZ1.frozen 2
          by_cases hlt : k < N
          · have hltI : decide ((k : Int) < c.n) = true := decide_eq_true (by have := hN'.out; omega)
            go_wp2
            refine bodyPost_ret (v := .tuple #[.agg #[.int .i64 0, .int .i64 0, .slice none 0 0], .int .i64 2]) (by simp [results, Try.results30, go_sem, z0, z1, z2]) rfl ?_
            rw [hr.out]
            refine ⟨_, rfl, zero_own _ _ _, ((BB.setCell ?_ _).setCell ?_ _).setCell ?_ _⟩
            all_goals (simp only; omega)
          · have hltI : decide ((k : Int) < c.n) = false := decide_eq_false (by have := hN'.out; omega)
            go_wp2
            refine bodyPost_ret (v := .tuple #[.agg #[.int .i64 0, .int .i64 0, .slice none 0 0], .int .i64 2]) (by simp [results, Try.results30, go_sem, z0, z1, z2]) rfl ?_
            rw [hr.out]
            refine ⟨_, rfl, zero_own _ _ _, ((BB.setCell ?_ _).setCell ?_ _).setCell ?_ _⟩
            all_goals (simp only; omega)
        | true =>
          by_cases hlt : k < N
          · have hltI : decide ((k : Int) < c.n) = true := decide_eq_true (by have := hN'.out; omega)
            have hcall := l00Has_any _ o k W (hd.keep BB)
            have hb' := Lib.hid (fun (h : hasB o k = false) => show isOrd o N = false by simp [isOrd, allIn_not (xs := o) hlt h])
            obtain ⟨b', hb0⟩ : ∃ b', hasB o k = b' := ⟨_, rfl⟩
            rw [hb0] at hcall hb'
            have hbb := Lib.hid hb0
            clear hb0
            have kI : (k : Int) + 1 ≤ 100 := by omega
            go_wp2_with fail
            refine hcall.mono ?_
            rintro e w' ⟨rfl, rfl⟩
            go_wp2
            go_round
            case rel =>
              refine ⟨k + 1, b', by omega, by go_num, rfl, fun hb j hj => ?_, fun hb => hb'.out hb⟩
              by_cases e : j = k
              · subst e; rw [hbb.out]; exact hb
              · exact h1.out (by simp) j (by omega)
            case measure => simp [intOf]; omega
          · obtain rfl : k = N := by omega
            have hltI : decide ((k : Int) < c.n) = false := decide_eq_false (by have := hN'.out; omega)
            have oo : isOrd o k = true := by simp [isOrd, hol'.out, allIn_of (h1.out (by simp))]
            have hr := Lib.hid (hyes.out oo)
            have oo' := Lib.hid oo
            clear oo h1 h2 hno hyes
            have hW0 := below1 W (.cells #[.int .i64 c.n, .int .i64 c.t, .slice none 0 0] 26)
            have hC : Blk (W.alloc (.cells #[.int .i64 c.n, .int .i64 c.t, .slice none 0 0] 26)) (w.heap.size + 2) #[.int .i64 c.n, .int .i64 c.t, .slice none 0 0] 26 := by
              have := Blk.new W #[.int .i64 c.n, .int .i64 c.t, .slice none 0 0] 26
              rw [hsz1.out] at this
              exact this
            have hsz2 := Lib.hid (show (W.alloc (.cells #[.int .i64 c.n, .int .i64 c.t, .slice none 0 0] 26)).heap.size = w.heap.size + 3 by simp [hsz1.out])
            obtain ⟨xb, xo, xcap, xr, hxv, xlt, hx⟩ := hc.rows.at (by have := hlen'.out; omega)
            simp at hxv
            obtain ⟨rfl, rfl⟩ := hxv
            obtain ⟨ob, oof, ocap, hov, olt, hox⟩ := hd.at (by have := hol'.out; omega)
            simp at hov
            obtain ⟨rfl, rfl⟩ := hov
            have hx' := Lib.hid hx
            have hox' := Lib.hid hox
            have hszW := Lib.hid (show W.heap.size = w.heap.size + 2 from hsz1.out)
            clear hx hox q0 q1 q2 hd hc P1
            obtain ⟨q0, q1, q2⟩ := hB1.three
            go_upto_region 11 with fail
            rw [hszW.out]
            generalize W.alloc (.cells #[.int .i64 c.n, .int .i64 c.t, .slice none 0 0] 26) = X at *
            clear q0 q1 q2
            go_wp2
            go_loopw [9] (fun i wr => ∃ (s : Nat) (sa : Option Addr) (scap : Nat) (rvs : List Value), s ≤ k ∧ i = .int .i64 s ∧ Blk wr (w.heap.size + 2) #[.int .i64 c.n, .int .i64 c.t, .slice sa s scap] 26 ∧
                MadeTo wr (w.heap.size + 3) wr.heap.size (.slice sa s scap) rvs ((List.range s).map fun s => (List.range k).map fun j => renF c o s j) ∧ Below W.heap.size W wr ∧ w.heap.size + 3 ≤ wr.heap.size) (fun i _ => k - (intOf i).toNat)
            case atStart => exact ⟨0, none, 0, [], Nat.zero_le _, rfl, hC, by simpa using MadeTo.start X (w.heap.size + 3), hW0, by have := hsz2.out; omega⟩
            case round =>
              obtain ⟨wo, rfl⟩ : ∃ wo : World, wo = wr := ⟨_, rfl⟩
              obtain ⟨s, sa, scap, rvs, hk, rfl, hC1, hM, hb1, hs1⟩ := hrel
              have hM' := Lib.hid hM
              clear hM hW0 hC
              by_cases hlt : s < k
              · have slt : (s : Int) < (o.length : Int) := by have := hol'.out; omega
                obtain ⟨p, hp, pl⟩ := isOrd_at oo'.out s hlt
                have pc : p < c.w.length := by have := hlen'.out; have := hN'.out; omega
                have pcI : (p : Int) < (c.w.length : Int) := by omega
                obtain ⟨xcell, xrow⟩ := hx'.out p pc
                obtain ⟨p1, p2, _⟩ := okRow_all (hrows'.out _ (getD_mem (d := []) pc))
                have hmx := Lib.hid (show ∀ j (q : Nat), o.getD j 0 = (q : Int) → renF c o s j = (c.w.getD p []).getD q 0 from fun j q hq => by simp only [renF, hp, hq, Int.toNat_natCast])
                have hos := hox'.out s (by have := hol'.out; omega)
                rw [hp] at hos
                generalize c.w.getD p [] = row at p1 p2 xrow hmx
                generalize xr p = xv at xcell xrow
                obtain ⟨rb, ro, rcp, rfl, rlt, hxr⟩ := xrow.at (by omega)
                have rlN := Lib.hid (show row.length = k by have := hN'.out; omega)
                have hxr' := Lib.hid hxr
                have hbo := hb1.size
                clear hxr p1 p2 xrow hp
                go_wp2
                go_loopw [10, 11] (fun v i wr => ∃ (j : Nat) (g gc : Nat), j ≤ k ∧ i = .int .i64 j ∧ v = .slice (some ⟨g, 0, none⟩) j gc ∧ wr.ownsRow wo.heap.size 2 1 (.slice (some ⟨g, 0, none⟩) j gc) j (ints ((List.range j).map fun j => renF c o s j)) ∧ Below wo.heap.size wo wr) (fun _ i _ => k - (intOf i).toNat)
                case atStart =>
                  exact ⟨0, _, _, Nat.zero_le _, rfl, rfl, by simpa using World.ownsRow_made wo #[] 0 (Nat.le_refl _) (Nat.zero_le _) (by simp), below1 _ _⟩
                case round =>
                  obtain ⟨j, g, gc, hj, rfl, rfl, hown, bel⟩ := hrel
                  have belW : Below W.heap.size W wr := hb1.trans (bel.mono hbo)
                  have belw : Below w.heap.size w wr := below_wt BB belW
                  by_cases hjlt : j < k
                  · have jlt : (j : Int) < (o.length : Int) := by have := hol'.out; omega
                    obtain ⟨q, hq, ql⟩ := isOrd_at oo'.out j hjlt
                    have hoj := hox'.out j (by have := hol'.out; omega)
                    rw [hq] at hoj
                    have hxq := hxr'.out q (by have := rlN.out; omega)
                    have hren := Lib.hid (hmx.out j q hq)
                    have qrI : (q : Int) < (row.length : Int) := by have := rlN.out; omega
                    have hts := Lib.hid (range_map_succ (fun j => renF c o s j) j)
                    generalize row.getD q 0 = x at hxq hren
                    clear hq
                    have hSw : ∀ (w' : World), Below W.heap.size W w' → w'.cell? ⟨w.heap.size, 2, none⟩ = some (.slice (some ⟨xb, xo, none⟩) c.w.length cap) ∧ w'.cell? ⟨ob, oof + s, none⟩ = some (.int .i64 p) ∧ w'.cell? ⟨xb, xo + p, none⟩ = some (.slice (some ⟨rb, ro, none⟩) row.length rcp) ∧ w'.cell? ⟨ob, oof + j, none⟩ = some (.int .i64 q) ∧ w'.cell? ⟨rb, ro + q, none⟩ = some (.int .i64 x) := fun w' h =>
                      have bw : Below w.heap.size w w' := below_wt BB h
                      ⟨(hB1.step h).cell 2, (bw.cell (p := ⟨ob, oof + s, none⟩) olt).trans hos, (bw.cell (p := ⟨xb, xo + p, none⟩) xlt).trans xcell, (bw.cell (p := ⟨ob, oof + j, none⟩) olt).trans hoj, (bw.cell (p := ⟨rb, ro + q, none⟩) rlt).trans hxq⟩
                    have hS := Lib.hid hSw
                    clear hSw
                    obtain ⟨y1, y2, y3, y4, y5⟩ := hS.out wr belW
                    have hsz := bel.size
                    have v1 := World.new_ne wr _ y1
                    have v2 := World.new_ne wr _ y2
                    have v3 := World.new_ne wr _ y3
                    have v4 := World.new_ne wr _ y4
                    have v5 := World.new_ne wr _ y5
                    have y1' := hS.out _ (belW.alloc (by have := belW.size; omega) (.cells #[.int .i64 x] 2))
                    obtain ⟨i0, hi, hz0, hz1, hz2⟩ := info_parts Try.infoI
                    have hi' := Lib.hid hi; have hz0' := Lib.hid hz0; have hz1' := Lib.hid hz1; have hz2' := Lib.hid hz2
                    have hS1 := Lib.hid y1'
                    clear hi hz0 hz1 hz2 y1' hoj hxq
                    go_wp2_with fail
                    go_region_held3 (fun w' => w'.cell? ⟨w.heap.size, 2, none⟩ = some (.slice (some ⟨xb, xo, none⟩) c.w.length cap) ∧ w'.cell? ⟨ob, oof + s, none⟩ = some (.int .i64 p) ∧ w'.cell? ⟨xb, xo + p, none⟩ = some (.slice (some ⟨rb, ro, none⟩) row.length rcp) ∧ w'.cell? ⟨ob, oof + j, none⟩ = some (.int .i64 q) ∧ w'.cell? ⟨rb, ro + q, none⟩ = some (.int .i64 x))
                      (first | exact hS.out _ hb3 | exact hS1.out | go_keep)
                      ((refine step_append_lies _ (by rfl) _ _ _ (by rfl) wo.heap.size 2 i0 (.int .i64 0) 1 8 Try.underlying37 hi'.out hz0'.out hz1'.out hz2'.out rfl (by omega) (.slice (some ⟨g, 0, none⟩) j gc) j _ (by rfl) ((hown.alloc _).drew)
                          ⟨wr.heap.size, 0, none⟩ 1 1 [.int .i64 x] (by rfl) (by rfl) (one_new _ _ _) (by simp [Value.oneCell']) (by omega) (by unfold maxLen; omega) (by omega) (by simp; omega) (wr.heap.size + 1) (by simp) ?_; intro gg cap2 w3 hown3 hgrow hat hlt3; have bel3 : Below wo.heap.size wo w3 := ((bel.alloc hsz _).drew).grown hgrow (by simp; omega) (fun k' hk' => (hown.lt k' hk').1); have hb3 := hb1.trans (bel3.mono hbo)))
                    go_wp2
                    go_roundw
                    case rel =>
                      refine ⟨j + 1, gg, cap2, by omega, by go_num, rfl, ?_, bel3⟩
                      rw [hts.out, hren.out]
                      simpa [ints] using hown3
                    case measure => simp [intOf]; omega
                  · obtain rfl : j = k := by omega
                    have hjn : ¬ ((j : Int) < (o.length : Int)) := by have := hol'.out; omega
                    obtain ⟨i1, ki, kz0, kz1, kz2⟩ := info_parts Try.infoR
                    have ki' := Lib.hid ki; have kz0' := Lib.hid kz0; have kz1' := Lib.hid kz1; have kz2' := Lib.hid kz2
                    have hsz := bel.size
                    have hrow : Own wr wo.heap.size wr.heap.size 2 _ (ints ((List.range j).map fun i => renF c o s i)) := Own.of hown (Nat.le_refl _)
                    have hrow' := Lib.hid hrow
                    have hM := hM'.out
                    have hMown : wr.ownsRow (w.heap.size + 3) 37 1 (.slice sa s scap) s rvs := by
                      have h1 := hM.own
                      simp only [List.length_map, List.length_range] at h1
                      refine ⟨h1.1, ?_⟩
                      rcases h1.2 with h0 | ⟨g, cap, cur, hv, hgg, hh, r⟩
                      · exact Or.inl h0
                      · exact Or.inr ⟨g, cap, cur, hv, hgg, by rw [bel.block g (Array.getElem?_eq_some_iff.1 hh).1]; exact hh, r⟩
                    have hC2 := hC1.keep bel hC1.lt
                    have q2 : wr.cell? ⟨w.heap.size + 2, 2, none⟩ = some (.slice sa s scap) := hC2.cell 2
                    have ltC := hC2.lt
                    have q2' : ∀ o, (wr.alloc o).cell? ⟨w.heap.size + 2, 2, none⟩ = some (.slice sa s scap) := fun o => (World.cell?_alloc_past _ _ _ ltC).trans q2
                    have hne : ∀ k', k' < w.heap.size + 3 → (Value.slice sa s scap).ownBlock ≠ some k' := fun k' hk' hh => by have := (ownsRow_type hMown hh).1; omega
                    have hne' := Lib.hid hne
                    clear hM hrow hown hne ki kz0 kz1 kz2
                    go_wp2_with (at_builtin; (refine wpList_append_own _ rfl _ _ 22 rfl (w.heap.size + 3) 37 i1 (.slice none 0 0) 1 24 Try.underlying22 ki'.out kz0'.out kz1'.out kz2'.out rfl (by decide) _ _ _ rfl (hMown.alloc _) ⟨wr.heap.size, 0, none⟩ 1 1 [.slice (some ⟨g, 0, none⟩) j gc] rfl rfl (one_new _ _ _) (by simp [Value.oneCell']) (by unfold maxLen; omega) (by omega) (by simp; omega) ?_); intro v' w2 hown2 hgr2 _; obtain ⟨g2, c2, rfl⟩ := ownsRow_shape hown2 (by omega); have hC3 : Blk w2 (w.heap.size + 2) _ _ := (hgr2.block (w.heap.size + 2) (by simp; omega) (fun e => hne'.out _ (by omega) e.symm)).trans (hC2.alloc _); have hf3 := hC3.frozen 2; have hc3 := hC3.cell 2; simp at hc3)
                    go_roundw
                    case rel =>
                      have hg2 := hgr2.size
                      simp at hg2
                      have res := MadeTo.step (v' := .slice (some ⟨g2, 0, none⟩) (s + 1) c2) (a := ⟨w.heap.size + 2, 2, none⟩) hM'.out bel hrow'.out (by omega) _ (by simpa using hown2) hgr2 (by show w.heap.size + 2 < w.heap.size + 3; omega) (.slice (some ⟨g2, 0, none⟩) (s + 1) c2)
                      refine ⟨s + 1, some ⟨g2, 0, none⟩, c2, rvs ++ [.slice (some ⟨g, 0, none⟩) j gc], by omega, by go_num, ?_, ?_, ?_, by simp [World.setCell]; omega⟩
                      · have := hC3.set 2 (.slice (some ⟨g2, 0, none⟩) (s + 1) c2)
                        simpa using this
                      · rw [range_map_succ]
                        exact res
                      · refine Below.setCell ?_ (by show W.heap.size ≤ w.heap.size + 2; have := hszW.out; omega) _
                        exact (belW.alloc (by have := belW.size; omega) _).grown hgr2 (by simp; have := belW.size; omega) (fun k' hk' => by have := (ownsRow_type hMown hk').1; have := hszW.out; omega)
                    case measure => simp [intOf]; omega
              · obtain rfl : s = k := by omega
                have hkn : ¬ ((s : Int) < (o.length : Int)) := by have := hol'.out; omega
                have hZ2 := hZ1.keep hb1 hZ1.lt
                have f10 := hZ2.frozen 0
                have f11 := hZ2.frozen 1
                have f12 := hZ2.frozen 2
                have c10 := hZ2.cell 0
                have c11 := hZ2.cell 1
                have c12 := hZ2.cell 2
                have c20 := hC1.cell 0
                have c21 := hC1.cell 1
                have c22 := hC1.cell 2
                simp at c10 c11 c12 c20 c21 c22
                have ll := hC1.lt
                go_wp2
                refine bodyPost_ret (v := .tuple #[.agg #[.int .i64 c.n, .int .i64 c.t, .slice sa s scap], .int .i64 0]) (by simp [results, Try.results30, go_sem, c10, c11, c12]) rfl ?_
                have hown := hM'.out.done
                have hres : renCh c o = ⟨c.n, c.t, rowsOf s (renF c o)⟩ := by unfold renCh; rw [hN'.out]; rfl
                have hBw : Below w.heap.size w wo := below_wt BB hb1
                rw [hr.out]
                refine ⟨_, rfl, ?_, ((hBw.setCell ?_ _).setCell ?_ _).setCell ?_ _⟩
                · rw [hres]
                  refine ⟨_, rfl, (hown.same ((((SameOn.refl _ _ _).set ?_ _).set ?_ _).set ?_ _)).wide (by omega) (by simp [World.setCell])⟩
                  all_goals (simp only; omega)
                all_goals (simp only; omega)
    · have hcn : ((o.length : Int) == c.n) = false := by rw [hN'.out]; simp; omega
      have hr := Lib.hid (hno.out (by simp [isOrd, hol]))
      clear hol hno hyes
      go_enter Try.func30, Try.ntmps30
      go_wp2_with fail
      rw [hV'.out]
      refine (l01Ok_any _ c _ Pc).mono ?_
      rintro e w1 ⟨rfl, m, rfl⟩
      rw [oc'.out]
      have hZ1 : Blk (V.drewN m) _ _ _ := hZ
      have hB1 : Blk (V.drewN m) _ _ _ := hB
      have BB := below_drewN B0 m
      generalize V.drewN m = W at *
      clear Pc B0 hB hZ
      obtain ⟨q0, q1, q2⟩ := hB1.three
      obtain ⟨z0, z1, z2⟩ := hZ1.three
      have f0 := hZ1.frozen 0
      have f1 := hZ1.frozen 1
      have f2 := hZ1.frozen 2
      have hltI : decide ((0 : Int) < c.n) = true := decide_eq_true (by omega)
      go_wp2
      go_loop [6, 7] (fun ok i => ok = .bool false ∧ i = .int .i64 0) (fun _ _ => 0)
      case atStart => exact ⟨rfl, rfl⟩
      case round =>
        obtain ⟨rfl, rfl⟩ := hrel
        go_wp2
        refine bodyPost_ret (v := .tuple #[.agg #[.int .i64 0, .int .i64 0, .slice none 0 0], .int .i64 2]) (by simp [results, Try.results30, go_sem, z0, z1, z2]) rfl ?_
        rw [hr.out]
        refine ⟨_, rfl, zero_own _ _ _, ((BB.setCell ?_ _).setCell ?_ _).setCell ?_ _⟩
        all_goals (simp only; omega)
  · have oc' : chOk c = false := by simpa using oc
    have hr := Lib.hid (show renOf c o = (zeroCh, 1) by simp [renOf, oc'])
    clear oc
    go_enter Try.func30, Try.ntmps30
    go_wp2_with fail
    rw [hV'.out]
    refine (l01Ok_any _ c _ Pc).mono ?_
    rintro e w1 ⟨rfl, m, rfl⟩
    have hZ1 : Blk (V.drewN m) _ _ _ := hZ
    have BB := below_drewN B0 m
    generalize V.drewN m = W at *
    obtain ⟨z0, z1, z2⟩ := hZ1.three
    have f0 := hZ1.frozen 0
    have f1 := hZ1.frozen 1
    have f2 := hZ1.frozen 2
    go_wp2
    refine bodyPost_ret (v := .tuple #[.agg #[.int .i64 0, .int .i64 0, .slice none 0 0], .int .i64 1]) (by simp [results, Try.results30, go_sem, z0, z1, z2]) rfl ?_
    rw [hr.out]
    refine ⟨_, rfl, zero_own _ _ _, ((BB.setCell ?_ _).setCell ?_ _).setCell ?_ _⟩
    all_goals (simp only; omega)
end Go.Proofs.Ytepajimcnheofaa
