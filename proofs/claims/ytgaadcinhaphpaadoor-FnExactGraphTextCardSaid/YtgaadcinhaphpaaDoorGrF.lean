/- What a valid graph's edges are. Conditions: the graph is valid. -/
import Derived.Test.YtgaadcinhaphpaaDoorGrOk
namespace Go.Proofs.YtgaadcinhaphpaaDoor
open Go.RowKit Go.Deep
set_option linter.unusedVariables false

def edgesOf (xss : List (List Int)) : List (Int × Int) := xss.map fun e => (e.getD 0 0, e.getD 1 0)
theorem edgesOf_length (xss : List (List Int)) : (edgesOf xss).length = xss.length := by simp [edgesOf]
theorem edgesOf_take_succ (xss : List (List Int)) (k : Nat) (h : k < xss.length) : edgesOf (xss.take (k + 1)) = edgesOf (xss.take k) ++ [((xss.getD k []).getD 0 0, (xss.getD k []).getD 1 0)] := by
  unfold edgesOf
  rw [List.take_succ_eq_append_getElem h, List.map_append]
  simp [List.getD, h]
theorem edgesOf_getD (xss : List (List Int)) (k : Nat) (h : k < xss.length) : (edgesOf xss).getD k (0, 0) = ((xss.getD k []).getD 0 0, (xss.getD k []).getD 1 0) := by
  simp [edgesOf, List.getD, h]
theorem edgeB_facts {n : Int} {e : List Int} (h : edgeB n e = true) : e.length = 2 ∧ 0 ≤ e.getD 0 0 ∧ e.getD 0 0 < e.getD 1 0 ∧ e.getD 1 0 ≤ n - 1 := by
  have hl := edgeB_len h
  obtain ⟨x, y, rfl⟩ := two_of hl
  simp [edgeB, within, inB] at h
  simp
  omega
theorem grOk_edge {g : Gr} (h : grOk g = true) {k : Nat} (hk : k < g.e.length) : edgeB g.n (g.e.getD k []) = true := by
  simp only [grOk, Bool.and_eq_true, List.all_eq_true] at h
  have := h.2 k (by simpa using hk)
  simp only [edgeAt, Bool.and_eq_true] at this
  exact this.1
theorem grOk_nodes {g : Gr} (h : grOk g = true) : 1 ≤ g.n ∧ g.n ≤ 5 := by
  simp only [grOk, Bool.and_eq_true] at h
  exact inB_iff.1 h.1
/-- the edges rise, so there are few -/
def rankE (e : List Int) : Int := e.getD 0 0 * 5 + e.getD 1 0
theorem grOk_few {g : Gr} (h : grOk g = true) : g.e.length ≤ 25 := by
  have hn := grOk_nodes h
  have key : ∀ k, k < g.e.length → (k : Int) ≤ rankE (g.e.getD k []) ∧ rankE (g.e.getD k []) < 25 := by
    intro k
    induction k with
    | zero =>
      intro hk
      obtain ⟨h1, h2, h3, h4⟩ := edgeB_facts (grOk_edge h hk)
      unfold rankE; omega
    | succ k ih =>
      intro hk
      have h0 := ih (by omega)
      obtain ⟨h1, h2, h3, h4⟩ := edgeB_facts (grOk_edge h hk)
      obtain ⟨j1, j2, j3, j4⟩ := edgeB_facts (grOk_edge h (show k < g.e.length by omega))
      have hlt : ltB (g.e.getD k []) (g.e.getD (k + 1) []) = true := by
        have h' := h
        simp only [grOk, Bool.and_eq_true, List.all_eq_true] at h'
        have := h'.2 (k + 1) (by simpa using hk)
        simp only [edgeAt, Bool.and_eq_true, Nat.add_sub_cancel] at this
        simpa using this.2
      simp only [ltB, Bool.or_eq_true, Bool.and_eq_true, decide_eq_true_eq] at hlt
      unfold rankE at h0 ⊢
      omega
  rcases Nat.lt_or_ge 25 g.e.length with hl | hl
  · have := key 25 hl; omega
  · exact hl
end Go.Proofs.YtgaadcinhaphpaaDoor
