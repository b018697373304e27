/- The spread of one state: the specification's function. Conditions: told by the code. -/
import Derived.Test.YtiddhnnofpbopaaSuM
namespace Go.Proofs.Ytiddhnnofpbopaa
open Go.RowKit Go.Deep
set_option linter.unusedVariables false
set_option linter.unusedSimpArgs false

set_option maxRecDepth 100000 in
set_option maxHeartbeats 4000000 in
theorem SureSpread_spec (ni si : Int) (w : World) :
    Calls Try.prog 5 #[.int .i64 ni, .int .i64 si] w fun e w' => ∃ v, e = .returned (.tuple #[v, .int .i64 (suR ni si).2]) ∧ FrOwn w' w.heap.size w'.heap.size v (suR ni si).1 ∧ Below w.heap.size w w' := by
  have h1 := Lib.hid (l00In_any ni 1 6 w)
  have hfin := Lib.hid (frOwn_noneS w w.heap.size (w.heap.size + 1) (Nat.le_refl _) (Nat.lt_succ_self _))
  have Bf := Lib.hid (below1 w (.cells #[] 49))
  go_enter Try.func5, Try.ntmps5
  go_wp2_with fail
  (with_reducible refine h1.out.mono ?_)
  rintro e w1 ⟨rfl, rfl⟩
  rcases hn : inB ni 1 6 with _ | _
  · have hr := Lib.hid (suR_no (n := ni) (s := si) (by rw [hn]; rfl))
    clear hn h1
    go_wp2
    go_ret2
    exact ⟨.slice (some ⟨w.heap.size, 0, none⟩) 0 0, by rw [hr.out]; first | done | rfl, by rw [hr.out]; have := hfin.out; simpa using this, Bf.out⟩
  · have h2 := Lib.hid (l00In_any si 0 (ni - 1) w)
    obtain ⟨u1, u2⟩ := inB_iff.1 hn
    rcases hs : inB si 0 (ni - 1) with _ | _
    · have hr := Lib.hid (suR_no (n := ni) (s := si) (by rw [hn, hs]; rfl))
      rw [hs] at h2
      clear hn h1 hs
      go_wp2_with fail
      (with_reducible refine h2.out.mono ?_)
      rintro e w1 ⟨rfl, rfl⟩
      clear u1 u2
      go_wp2
      go_ret2
      exact ⟨.slice (some ⟨w.heap.size, 0, none⟩) 0 0, by rw [hr.out]; first | done | rfl, by rw [hr.out]; have := hfin.out; simpa using this, Bf.out⟩
    · obtain ⟨n, s, rfl, rfl, n1, n6, hsn⟩ := suR_in hn hs
      rw [hs] at h2
      have hr := Lib.hid (suR_yes n1 n6 hsn).2
      have hsu := Lib.hid (l01Sure_any n s w (by omega) (by omega))
      have hsz := Lib.hid (fun i (h : i < (sureN n s).length) => (show dlen B9 ((sureN n s).getD i 0) ≤ 10000000 from Nat.le_trans (dlen_le b9 (L := 1) (by rw [sureN_get n s i (by rw [sureN_length] at h; exact h)]; split <;> decide)) (by decide)))
      have hln := Lib.hid (sureN_length n s)
      clear hn hs h1 hfin Bf
      go_wp2_with fail
      (with_reducible refine h2.out.mono ?_)
      rintro e w1 ⟨rfl, rfl⟩
      go_wp2_with fail
      (with_reducible refine hsu.out.mono ?_)
      rintro e w2 ⟨a, c, dv, rfl, hR, hD, b2⟩
      obtain ⟨da, dl, dc, rfl⟩ := likeS.shape hD
      have bO := below1 w2 (.cells #[.slice a n c, .slice da dl dc] 44)
      have hO := Blk.new w2 #[.slice a n c, .slice da dl dc] 44
      have B2 := Lib.hid (below_wt b2 bO)
      have htl := Lib.hid (told_any w2.heap.size a da n c dl dc (sureN n s) 1 _ hO hln.out.symm (hR.keep likeS bO) (hD.keep bO) (by decide) hsz.out (Nat.le_trans (dlen_le b9 (L := 1) (by decide)) (by decide)) (by omega))
      clear hR hD b2 bO hO hsu h2
      go_wp2_with fail
      (with_reducible refine htl.out.mono ?_)
      rintro e w3 ⟨v, rfl, hown, b3⟩
      have hfin := Lib.hid (hown.wide (lo' := w.heap.size) (hi' := w3.heap.size) B2.out.size (Nat.le_refl _))
      have Bf := Lib.hid (below_wt B2.out b3)
      clear hown b3 htl
      go_wp2
      go_ret2
      exact ⟨v, by rw [hr.out]; first | done | rfl, by rw [hr.out]; exact hfin.out, Bf.out⟩
end Go.Proofs.Ytiddhnnofpbopaa
