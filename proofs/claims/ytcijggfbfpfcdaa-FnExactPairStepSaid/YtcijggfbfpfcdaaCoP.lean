/- Coupled chains as data: how the left one and the right one of a row go alone, when a row goes like the chain, when a coupled chain is valid. Pure facts; no conditions. -/
import Derived.Test.YtcijggfbfpfcdaaOk
namespace Go.Proofs.Ytcijggfbfpfcdaa

def margL (row : List Int) (N : Nat) : List Int := (List.range N).map fun u => (List.range N).foldl (fun s v => s + row.getD (u * N + v) 0) 0
def margR (row : List Int) (N : Nat) : List Int := (List.range N).map fun u => (List.range N).foldl (fun s v => s + row.getD (v * N + u) 0) 0
/-- the sums so far, when the pairs of pre have come -/
def accL (row : List Int) (N : Nat) (pre : List (Fin (N * N))) : List Int := pre.foldl (fun acc x => acc.set (x.val / N) (acc.getD (x.val / N) 0 + row.getD x.val 0)) (List.replicate N 0)
def accR (row : List Int) (N : Nat) (pre : List (Fin (N * N))) : List Int := pre.foldl (fun acc x => acc.set (x.val % N) (acc.getD (x.val % N) 0 + row.getD x.val 0)) (List.replicate N 0)
theorem accL_snoc (row : List Int) (N : Nat) (pre : List (Fin (N * N))) (x : Fin (N * N)) : accL row N (pre ++ [x]) = (accL row N pre).set (x.val / N) ((accL row N pre).getD (x.val / N) 0 + row.getD x.val 0) := by simp [accL, List.foldl_append]
theorem accR_snoc (row : List Int) (N : Nat) (pre : List (Fin (N * N))) (x : Fin (N * N)) : accR row N (pre ++ [x]) = (accR row N pre).set (x.val % N) ((accR row N pre).getD (x.val % N) 0 + row.getD x.val 0) := by simp [accR, List.foldl_append]
theorem accL_nil (row : List Int) (N : Nat) : accL row N [] = List.replicate N 0 := rfl
theorem accR_nil (row : List Int) (N : Nat) : accR row N [] = List.replicate N 0 := rfl
theorem acc_step {M : Nat} (f : Fin M → Nat) (row acc : List Int) (k : Nat) (x : Fin M) (hb : ∀ y ∈ acc, 0 ≤ y ∧ y ≤ 3600 * k) (hr : ∀ y ∈ row, 0 ≤ y ∧ y ≤ 3600) :
    ∀ y ∈ acc.set (f x) (acc.getD (f x) 0 + row.getD x.val 0), 0 ≤ y ∧ y ≤ 3600 * ((k + 1 : Nat) : Int) := by
  intro y hy
  have hx : 0 ≤ row.getD x.val 0 ∧ row.getD x.val 0 ≤ 3600 := by
    rcases Nat.lt_or_ge x.val row.length with h | h
    · have : row.getD x.val 0 ∈ row := by simp [List.getD, h]
      exact hr _ this
    · simp [List.getD, h]
  have ha : 0 ≤ acc.getD (f x) 0 ∧ acc.getD (f x) 0 ≤ 3600 * k := by
    rcases Nat.lt_or_ge (f x) acc.length with h | h
    · have : acc.getD (f x) 0 ∈ acc := by simp [List.getD, h]
      exact hb _ this
    · simp [List.getD, h]; omega
  rcases List.mem_or_eq_of_mem_set hy with h | h
  · have := hb y h; omega
  · subst h; omega
theorem accL_bd (row : List Int) (N : Nat) (hr : ∀ y ∈ row, 0 ≤ y ∧ y ≤ 3600) (pre : List (Fin (N * N))) : (accL row N pre).length = N ∧ ∀ y ∈ accL row N pre, 0 ≤ y ∧ y ≤ 3600 * (pre.length : Int) := by
  suffices h : ∀ (acc : List Int) (k : Nat), acc.length = N → (∀ y ∈ acc, 0 ≤ y ∧ y ≤ 3600 * (k : Int)) → ∀ pre : List (Fin (N * N)), (pre.foldl (fun acc x => acc.set (x.val / N) (acc.getD (x.val / N) 0 + row.getD x.val 0)) acc).length = N ∧
      ∀ y ∈ pre.foldl (fun acc x => acc.set (x.val / N) (acc.getD (x.val / N) 0 + row.getD x.val 0)) acc, 0 ≤ y ∧ y ≤ 3600 * ((k + pre.length : Nat) : Int) by
    have := h (List.replicate N 0) 0 (by simp) (fun y hy => by simp at hy; omega) pre
    rw [Nat.zero_add] at this
    exact this
  intro acc k hl hb pre
  induction pre generalizing acc k with
  | nil => exact ⟨hl, hb⟩
  | cons x pre ih =>
    have := ih (acc.set (x.val / N) (acc.getD (x.val / N) 0 + row.getD x.val 0)) (k + 1) (by simpa using hl) (acc_step (fun x => x.val / N) row acc k x hb hr)
    simpa [Nat.add_assoc, Nat.add_comm, Nat.add_left_comm] using this
theorem accR_bd (row : List Int) (N : Nat) (hr : ∀ y ∈ row, 0 ≤ y ∧ y ≤ 3600) (pre : List (Fin (N * N))) : (accR row N pre).length = N ∧ ∀ y ∈ accR row N pre, 0 ≤ y ∧ y ≤ 3600 * (pre.length : Int) := by
  suffices h : ∀ (acc : List Int) (k : Nat), acc.length = N → (∀ y ∈ acc, 0 ≤ y ∧ y ≤ 3600 * (k : Int)) → ∀ pre : List (Fin (N * N)), (pre.foldl (fun acc x => acc.set (x.val % N) (acc.getD (x.val % N) 0 + row.getD x.val 0)) acc).length = N ∧
      ∀ y ∈ pre.foldl (fun acc x => acc.set (x.val % N) (acc.getD (x.val % N) 0 + row.getD x.val 0)) acc, 0 ≤ y ∧ y ≤ 3600 * ((k + pre.length : Nat) : Int) by
    have := h (List.replicate N 0) 0 (by simp) (fun y hy => by simp at hy; omega) pre
    rw [Nat.zero_add] at this
    exact this
  intro acc k hl hb pre
  induction pre generalizing acc k with
  | nil => exact ⟨hl, hb⟩
  | cons x pre ih =>
    have := ih (acc.set (x.val % N) (acc.getD (x.val % N) 0 + row.getD x.val 0)) (k + 1) (by simpa using hl) (acc_step (fun x => x.val % N) row acc k x hb hr)
    simpa [Nat.add_assoc, Nat.add_comm, Nat.add_left_comm] using this

theorem accL_all (row : List Int) (N : Nat) (h : N ≤ 4) : accL row N (List.finRange (N * N)) = margL row N := by
  match N, h with
  | 0, _ => rfl
  | 1, _ => rfl
  | 2, _ => rfl
  | 3, _ => rfl
  | 4, _ => rfl
theorem accR_all (row : List Int) (N : Nat) (h : N ≤ 4) : accR row N (List.finRange (N * N)) = margR row N := by
  match N, h with
  | 0, _ => rfl
  | 1, _ => rfl
  | 2, _ => rfl
  | 3, _ => rfl
  | 4, _ => rfl
/-- numbers of parts T are those of the chain's row s -/
def like (c : Ch) (s : Nat) (ws : List Int) (T : Int) : Bool := (List.range ws.length).all fun u => decide (ws.getD u 0 * c.t = (c.w.getD s []).getD u 0 * T)
/-- m is a coupled chain for c -/
def coOk (c m : Ch) : Bool := chOk c && (decide (c.n ≤ 4) && (decide (m.n = c.n) && (inB m.t 1 3600 && (decide ((m.w.length : Int) = c.n * c.n) && (m.w.all (okRow (c.n * c.n) m.t) &&
  (List.range m.w.length).all fun i => like c (i / c.n.toNat) (margL (m.w.getD i []) c.n.toNat) m.t && like c (i % c.n.toNat) (margR (m.w.getD i []) c.n.toNat) m.t)))))
end Go.Proofs.Ytcijggfbfpfcdaa
