/- A region that draws its order, walked once: each operation by itself, by facts that last. Conditions: told in each. -/
import Derived.RegionTactic
import Derived.Below
import Derived.Lib.Hide
import Derived.Test.YtiddhnnofpbopaaDoorChainG
namespace Go.Proofs.YtiddhnnofpbopaaDoor.Rgn
open Go.RowKit Go.Deep
set_option linter.unusedVariables false
set_option linter.unusedSimpArgs false

section
variable {P : Program} {ops : Array Oper} {md : Region.Mode} {Q : Exit → Act → World → Prop}

/-- how many operations are still to come -/
def unlistedN (ops : Array Oper) (listed : Array Bool) : Nat := ((List.range ops.size).filter fun i => !listed.getD i true).length
theorem getD_set (l : Array Bool) (i j : Nat) (d : Bool) (h : i < l.size) : (l.setIfInBounds i true).getD j d = if i = j then true else l.getD j d := by
  simp only [Array.getD_eq_getD_getElem?, Array.getElem?_setIfInBounds]
  split
  · rename_i e; subst e; simp [h]
  · rfl
theorem ready_mem {listed : Array Bool} {i : Nat} (h : i ∈ Region.ready md ops listed) : i < ops.size ∧ listed.getD i true = false ∧ ∀ o, ops[i]? = some o → ∀ e ∈ o.after, Region.binds md e = true → listed.getD e.on false = true := by
  simp only [Region.ready, List.mem_filter, List.mem_range, Bool.and_eq_true, Bool.not_eq_true'] at h
  obtain ⟨h1, h2, h3⟩ := h
  refine ⟨h1, h2, fun o ho e he hb => ?_⟩
  rw [ho] at h3
  simp only [Option.map_some, Option.getD_some] at h3
  have := Array.all_eq_true_iff_forall_mem.1 h3 e he
  simpa [hb] using this
theorem unlistedN_set {listed : Array Bool} {i : Nat} (hi : i < ops.size) (h : listed.getD i true = false) : unlistedN ops (listed.setIfInBounds i true) < unlistedN ops listed := by
  have hl : i < listed.size := by
    rcases Nat.lt_or_ge i listed.size with h' | h'
    · exact h'
    · simp [Array.getD_eq_getD_getElem?, Array.getElem?_eq_none h'] at h
  unfold unlistedN
  have e : ((List.range ops.size).filter fun j => !(listed.setIfInBounds i true).getD j true) = ((List.range ops.size).filter fun j => !listed.getD j true).filter fun j => j != i := by
    rw [List.filter_filter]
    apply List.filter_congr
    intro j _
    rw [getD_set listed i j true hl]
    by_cases hj : i = j
    · subst hj; simp
    · rw [if_neg hj]
      have : (j != i) = true := by simp; omega
      rw [this, Bool.true_and]
  rw [e]
  have hm : i ∈ (List.range ops.size).filter fun j => !listed.getD j true := by
    rw [List.mem_filter]; exact ⟨List.mem_range.2 hi, by rw [h]; rfl⟩
  generalize (List.range ops.size).filter (fun j => !listed.getD j true) = l at *
  have : (l.filter fun j => j != i).length < l.length := by
    have h1 := List.length_filter_lt_length_iff_exists (p := fun j => j != i) (l := l)
    exact h1.2 ⟨i, hm, by simp⟩
  exact this
theorem unlisted_none {listed : Array Bool} (h : unlistedN ops listed = 0) : Region.ready md ops listed = [] := by
  have h1 := List.eq_nil_of_length_eq_zero h
  rw [List.eq_nil_iff_forall_not_mem]
  intro i hi
  obtain ⟨a, b, _⟩ := ready_mem hi
  have : i ∈ (List.range ops.size).filter fun j => !listed.getD j true := by rw [List.mem_filter]; exact ⟨List.mem_range.2 a, by rw [b]; rfl⟩
  rw [h1] at this
  cases this

/-- whatever order is drawn: an invariant of what has been carried out -/
theorem wpAny_inv (I : Array Bool → Act → World → Prop)
    (hstep : ∀ listed a w i o, I listed a w → i ∈ Region.ready md ops listed → ops[i]? = some o →
      if Region.wanted o (yielded ops a.tmps) = true then o.wp P a w (I (listed.setIfInBounds i true)) Q else I (listed.setIfInBounds i true) (a.put o.dst undef) w)
    (hend : ∀ listed a w, I listed a w → Region.ready md ops listed = [] → Q .normal a w) :
    ∀ (fuel : Nat) (listed : Array Bool) (a : Act) (w : World), unlistedN ops listed ≤ fuel → I listed a w → wpAny P md ops Q fuel listed a w
  | 0, listed, a, w, hf, hI => by
    have h0 := unlisted_none (md := md) (Nat.le_zero.1 hf)
    exact ⟨h0, hend _ _ _ hI h0⟩
  | fuel + 1, listed, a, w, hf, hI => by
    refine ⟨fun h => hend _ _ _ hI h, fun i hi => ?_⟩
    obtain ⟨h1, h2, _⟩ := ready_mem hi
    have h3 := unlistedN_set h1 h2
    have ih := fun a' w' (h : I (listed.setIfInBounds i true) a' w') => wpAny_inv I hstep hend fuel (listed.setIfInBounds i true) a' w' (by omega) h
    have ho : ops[i]? = some ops[i] := Array.getElem?_eq_getElem h1
    have hs := hstep listed a w i ops[i] hI hi ho
    unfold wpOp
    rw [ho]
    simp only
    by_cases hw : Region.wanted ops[i] (yielded ops a.tmps) = true
    · rw [if_pos hw] at hs ⊢
      exact Or.inl (Oper.wp_mono ih hs)
    · rw [if_neg hw] at hs ⊢
      exact ih _ _ hs

/-- every operation's slot filled -/
def fillAll : List Oper → Nat → (Nat → Value) → Act → Act
  | [], _, _, a => a
  | o :: r, i, z, a => fillAll r (i + 1) z (a.put o.dst (z i))
def apartDst (d : Option Tmp) : List Oper → Bool
  | [] => true
  | o :: r => (match d, o.dst with | some x, some y => x != y | _, _ => true) && apartDst d r
def dstsOk : List Oper → Bool
  | [] => true
  | o :: r => apartDst o.dst r && dstsOk r
theorem put_comm (a : Act) (d e : Option Tmp) (u v : Value) (h : ∀ x y, d = some x → e = some y → x ≠ y) : (a.put d u).put e v = (a.put e v).put d u := by
  cases d with
  | none => cases e <;> rfl
  | some x => cases e with
    | none => rfl
    | some y =>
      have := h x y rfl rfl
      simp only [Act.put]
      congr 1
      exact Array.setIfInBounds_comm u v this
theorem put_same (a : Act) (d : Option Tmp) (u v : Value) : (a.put d u).put d v = a.put d v := by
  cases d with
  | none => rfl
  | some x => simp only [Act.put]; congr 1; exact Array.setIfInBounds_setIfInBounds ..
theorem put_getD (a : Act) (d : Tmp) : a.put (some d) (a.tmps.getD d undef) = a := by
  simp only [Act.put]
  have : a.tmps.setIfInBounds d (a.tmps.getD d undef) = a.tmps := by
    apply Array.ext
    · simp
    · intro i h1 h2
      rw [Array.getElem_setIfInBounds]
      split
      · rename_i e; subst e; simp [Array.getD, h2]
      · rfl
  rw [this]
theorem fillAll_put (l : List Oper) : ∀ (k : Nat) (z : Nat → Value) (a : Act) (d : Option Tmp) (v : Value), apartDst d l = true → (fillAll l k z a).put d v = fillAll l k z (a.put d v) := by
  induction l with
  | nil => intros; rfl
  | cons o r ih =>
    intro k z a d v h
    simp only [apartDst, Bool.and_eq_true] at h
    simp only [fillAll]
    rw [ih _ _ _ _ _ h.2, put_comm a o.dst d (z k) v]
    intro x y hx hy e
    subst e
    rw [hx, hy] at h
    simp at h
theorem fillAll_congr (l : List Oper) : ∀ (k : Nat) (z z' : Nat → Value) (a : Act), (∀ i, k ≤ i → z i = z' i) → fillAll l k z a = fillAll l k z' a := by
  induction l with
  | nil => intros; rfl
  | cons o r ih => intro k z z' a h; simp only [fillAll]; rw [h k (Nat.le_refl _)]; exact ih _ _ _ _ fun i hi => h i (by omega)
def upd (z : Nat → Value) (i : Nat) (v : Value) : Nat → Value := fun j => if j = i then v else z j
theorem fillAll_upd (l : List Oper) : ∀ (k : Nat) (z : Nat → Value) (a : Act) (i : Nat) (o : Oper) (v : Value), dstsOk l = true → l[i]? = some o → (fillAll l k z a).put o.dst v = fillAll l k (upd z (k + i) v) a := by
  induction l with
  | nil => intro k z a i o v _ h; simp at h
  | cons x r ih =>
    intro k z a i o v hd hi
    simp only [dstsOk, Bool.and_eq_true] at hd
    simp only [fillAll]
    cases i with
    | zero =>
      simp only [List.getElem?_cons_zero, Option.some.injEq] at hi
      subst hi
      rw [fillAll_put r _ _ _ _ _ hd.1, put_same]
      have e : upd z (k + 0) v k = v := by simp [upd]
      rw [e]
      exact fillAll_congr _ _ _ _ _ fun j hj => by unfold upd; rw [if_neg (by omega)]
    | succ i =>
      simp only [List.getElem?_cons_succ] at hi
      rw [ih _ _ _ _ _ _ hd.2 hi]
      have e : upd z (k + (i + 1)) v k = z k := by unfold upd; rw [if_neg (by omega)]
      rw [e, show k + 1 + i = k + (i + 1) by omega]
def origOf (l : List Oper) (a : Act) (i : Nat) : Value := match (l[i]?).bind (·.dst) with | some d => a.tmps.getD d undef | none => undef
theorem fillAll_id (a : Act) (l : List Oper) : ∀ (k : Nat) (z : Nat → Value), (∀ i, ∀ o, l[i]? = some o → ∀ d, o.dst = some d → z (k + i) = a.tmps.getD d undef) → fillAll l k z a = a := by
  induction l with
  | nil => intros; rfl
  | cons o r ih =>
    intro k z h
    simp only [fillAll]
    have h0 : a.put o.dst (z k) = a := by
      cases hd : o.dst with
      | none => rfl
      | some d =>
        have := h 0 o rfl d hd
        rw [Nat.add_zero] at this
        rw [this]; exact put_getD a d
    rw [h0]
    exact ih _ _ fun i o' ho d hd => by have := h (i + 1) o' (by simpa using ho) d hd; rw [← this]; congr 1; omega

/-- operation i wants operation d done -/
def depB (md : Region.Mode) (ops : Array Oper) (i d : Nat) : Bool := match ops[i]? with
  | some o => o.after.any fun e => Region.binds md e && e.on == d
  | none => false
theorem ready_dep {listed : Array Bool} {i d : Nat} (h : i ∈ Region.ready md ops listed) (hd : depB md ops i d = true) : listed.getD d false = true := by
  obtain ⟨h1, h2, h3⟩ := ready_mem h
  unfold depB at hd
  rw [Array.getElem?_eq_getElem h1] at hd
  obtain ⟨e, he, hb⟩ := Array.any_eq_true'.1 hd
  simp only [Bool.and_eq_true, beq_iff_eq] at hb
  have := h3 ops[i] (Array.getElem?_eq_getElem h1) e he hb.1
  rw [hb.2] at this; exact this
/-- all that must be done ahead of those in l -/
def ancs (md : Region.Mode) (ops : Array Oper) : Nat → List Nat → List Nat
  | 0, l => l
  | f + 1, l => ancs md ops f ((List.range ops.size).filter fun d => l.contains d || l.any fun i => depB md ops i d)
theorem ancs_listed {listed : Array Bool} (hc : ∀ i d, listed.getD i false = true → depB md ops i d = true → listed.getD d false = true) : ∀ (f : Nat) (l : List Nat), (∀ x ∈ l, listed.getD x false = true) → ∀ x ∈ ancs md ops f l, listed.getD x false = true
  | 0, l, h => h
  | f + 1, l, h => ancs_listed hc f _ fun x hx => by
      simp only [List.mem_filter, Bool.or_eq_true, List.any_eq_true] at hx
      rcases hx.2 with h1 | ⟨i, h1, h2⟩
      · exact h x (by simpa using h1)
      · exact hc i x (h i h1) h2
/-- only what operation i wants done -/
def maskD (md : Region.Mode) (ops : Array Oper) (i : Nat) (z : Nat → Value) : Nat → Value := fun d => if depB md ops i d then z d else undef
def maskT (tp : Nat → Nat) (late : Nat → Bool) (p : Nat) (z : Nat → Value) : Nat → Value := fun d => if decide (tp d ≤ p) && !late d then z d else undef

/-- the operations at 0 come first, in whatever order; the others behind them, one by one, by their places 1, 2 .. m -/
def shapeB (md : Region.Mode) (ops : Array Oper) (tp : Nat → Nat) (m : Nat) (late : Nat → Bool) : Bool :=
  dstsOk ops.toList &&
  ((List.range ops.size).all fun i => (List.range ops.size).all fun d => !depB md ops i d || decide (d < i)) &&
  ((List.range ops.size).all fun i => decide (tp i ≠ 1) || (List.range ops.size).all fun b => decide (tp b ≠ 0) || late b || (ancs md ops ops.size ((List.range ops.size).filter fun d => depB md ops i d)).contains b) &&
  ((List.range ops.size).all fun i => decide (tp i ≤ 1) || (List.range ops.size).any fun j => depB md ops i j && decide (tp j + 1 = tp i)) &&
  ((List.range ops.size).all fun i => decide (tp i = 0) || !late i) &&
  ((List.range ops.size).all fun i => decide (tp i = 0) || (List.range ops.size).all fun j => decide (tp j ≠ tp i) || decide (j = i)) &&
  ((List.range ops.size).all fun i => decide (tp i ≤ m)) &&
  ((List.range m).all fun p => (List.range ops.size).any fun i => decide (tp i = p + 1)) &&
  ((List.range ops.size).all fun i => (List.range ops.size).all fun d => !depB md ops i d || decide (tp i ≠ 0) || decide (tp d = 0))
end

section
variable (P : Program) (ops : Array Oper) (md : Region.Mode) (Q : Exit → Act → World → Prop) (a0 : Act) (base : World) (tp : Nat → Nat) (m : Nat) (late : Nat → Bool)
  (F : Nat → (Nat → Value) → Value → World → Prop) (G : Nat → (Nat → Value) → Value → Prop) (T : Nat → (Nat → Value) → World → Prop)

/-- what is asked of operation i of the first ones -/
def ObBody (i : Nat) (o : Oper) : Prop :=
  ∀ (z : Nat → Value) (w : World), Below base.heap.size base w → (∀ d, depB md ops i d = true → F d (maskD md ops d z) (z d) w) → (∀ j, depB md ops j i = true → z j = origOf ops.toList a0 j) →
    ∀ K : Act → World → Prop, (∀ a' w' v, a' = (fillAll ops.toList 0 z a0).put o.dst v → Below w.heap.size w w' → F i (maskD md ops i z) v w' → K a' w') →
      if Region.wanted o (yielded ops (fillAll ops.toList 0 z a0).tmps) = true then o.wp P (fillAll ops.toList 0 z a0) w K Q else F i (maskD md ops i z) undef w
/-- and of one that may come up late -/
def ObLate (i : Nat) (o : Oper) : Prop :=
  ∀ (z : Nat → Value) (w : World), (∀ d, depB md ops i d = true → G d (maskD md ops d z) (z d)) → (∀ j, depB md ops j i = true → z j = origOf ops.toList a0 j) →
    ∀ K : Act → World → Prop, (∀ a' w' v, a' = (fillAll ops.toList 0 z a0).put o.dst v → w' = w → F i (maskD md ops i z) v w → K a' w') →
      if Region.wanted o (yielded ops (fillAll ops.toList 0 z a0).tmps) = true then o.wp P (fillAll ops.toList 0 z a0) w K Q else F i (maskD md ops i z) undef w
/-- what is asked of the first of the others -/
def ObTail0 (i : Nat) (o : Oper) : Prop :=
  ∀ (z : Nat → Value) (w : World), Below base.heap.size base w → (∀ d, d < ops.size → tp d = 0 → late d = false → F d (maskD md ops d z) (z d) w) → (∀ d, tp d = 0 → depB md ops i d = true → F d (maskD md ops d z) (z d) w) → (∀ j, j < ops.size → 1 ≤ tp j → z j = origOf ops.toList a0 j) →
    ∀ K : Act → World → Prop, (∀ a' w' v, a' = (fillAll ops.toList 0 z a0).put o.dst v → T 1 (maskT tp late 1 (upd z i v)) w' → K a' w') →
      if Region.wanted o (yielded ops (fillAll ops.toList 0 z a0).tmps) = true then o.wp P (fillAll ops.toList 0 z a0) w K Q else T 1 (maskT tp late 1 (upd z i undef)) w
def ObTail (i p : Nat) (o : Oper) : Prop :=
  ∀ (z : Nat → Value) (w : World), T p (maskT tp late p z) w → (∀ d, tp d = 0 → depB md ops i d = true → G d (maskD md ops d z) (z d)) → (∀ j, j < ops.size → p + 1 ≤ tp j → z j = origOf ops.toList a0 j) →
    ∀ K : Act → World → Prop, (∀ a' w' v, a' = (fillAll ops.toList 0 z a0).put o.dst v → T (p + 1) (maskT tp late (p + 1) (upd z i v)) w' → K a' w') →
      if Region.wanted o (yielded ops (fillAll ops.toList 0 z a0).tmps) = true then o.wp P (fillAll ops.toList 0 z a0) w K Q else T (p + 1) (maskT tp late (p + 1) (upd z i undef)) w
def Ob (i : Nat) (o : Oper) : Prop := if tp i = 0 then (if late i = true then ObLate P ops md Q a0 F G i o else ObBody P ops md Q a0 base F i o) else if tp i = 1 then ObTail0 P ops md Q a0 base tp late F T i o else ObTail P ops md Q a0 tp late G T i (tp i - 1) o
def AllOb : List Oper → Nat → Prop
  | [], _ => True
  | o :: r, i => Ob P ops md Q a0 base tp late F G T i o ∧ AllOb r (i + 1)
def EndOb : Prop :=
  if m = 0 then ∀ (z : Nat → Value) (w : World), Below base.heap.size base w → (∀ d, d < ops.size → F d (maskD md ops d z) (z d) w) → Q .normal (fillAll ops.toList 0 z a0) w
  else ∀ (z : Nat → Value) (w : World), T m (maskT tp late m z) w → (∀ d, d < ops.size → tp d = 0 → G d (maskD md ops d z) (z d)) → Q .normal (fillAll ops.toList 0 z a0) w
end

section
variable {P : Program} {ops : Array Oper} {md : Region.Mode} {Q : Exit → Act → World → Prop} {a0 : Act} {base : World} {tp : Nat → Nat} {m : Nat} {late : Nat → Bool}
  {F : Nat → (Nat → Value) → Value → World → Prop} {G : Nat → (Nat → Value) → Value → Prop} {T : Nat → (Nat → Value) → World → Prop}
theorem AllOb.at : ∀ {l : List Oper} {k : Nat} (h : AllOb P ops md Q a0 base tp late F G T l k) {i : Nat} {o : Oper}, l[i]? = some o → Ob P ops md Q a0 base tp late F G T (k + i) o
  | [], _, _, i, o, hi => by simp at hi
  | x :: r, k, h, 0, o, hi => by simp at hi; subst hi; exact h.1
  | x :: r, k, h, i + 1, o, hi => by
    have := AllOb.at h.2 (i := i) (o := o) (by simpa using hi)
    rw [show k + (i + 1) = k + 1 + i by omega]; exact this

structure Inv (ops : Array Oper) (md : Region.Mode) (a0 : Act) (base : World) (tp : Nat → Nat) (m : Nat) (late : Nat → Bool) (F : Nat → (Nat → Value) → Value → World → Prop) (G : Nat → (Nat → Value) → Value → Prop) (T : Nat → (Nat → Value) → World → Prop) (listed : Array Bool) (a : Act) (w : World) (z : Nat → Value) (p : Nat) : Prop where
  fr : a = fillAll ops.toList 0 z a0
  size : listed.size = ops.size
  closed : ∀ i d, listed.getD i false = true → depB md ops i d = true → listed.getD d false = true
  orig : ∀ i, i < ops.size → listed.getD i false = false → z i = origOf ops.toList a0 i
  tails : ∀ i, i < ops.size → 1 ≤ tp i → listed.getD i false = decide (tp i ≤ p)
  first : p = 0 → Below base.heap.size base w ∧ ∀ i, tp i = 0 → listed.getD i false = true → F i (maskD md ops i z) (z i) w
  more : 0 < p → T p (maskT tp late p z) w ∧ (∀ i, i < ops.size → tp i = 0 → late i = false → listed.getD i false = true) ∧ ∀ i, tp i = 0 → listed.getD i false = true → G i (maskD md ops i z) (z i)
  top : p ≤ m

theorem getD_false {l : Array Bool} {i : Nat} (h : i < l.size) (d e : Bool) : l.getD i d = l.getD i e := by simp [Array.getD, h]
theorem listed_set {l : Array Bool} {i j : Nat} (hi : i < l.size) (d : Bool) : (l.setIfInBounds i true).getD j d = (decide (j = i) || l.getD j d) := by
  rw [getD_set l i j d hi]
  by_cases h : i = j
  · subst h; simp
  · rw [if_neg h, decide_eq_false (by omega), Bool.false_or]
structure ShapeP (md : Region.Mode) (ops : Array Oper) (tp : Nat → Nat) (m : Nat) (late : Nat → Bool) : Prop where
  dsts : dstsOk ops.toList = true
  back : ∀ i d, depB md ops i d = true → d < i
  all : ∀ i, i < ops.size → tp i = 1 → ∀ b, b < ops.size → tp b = 0 → late b = false → b ∈ ancs md ops ops.size ((List.range ops.size).filter fun d => depB md ops i d)
  chain : ∀ i, i < ops.size → 2 ≤ tp i → ∃ j, j < ops.size ∧ depB md ops i j = true ∧ tp j + 1 = tp i
  lates : ∀ i, i < ops.size → 1 ≤ tp i → late i = false
  one : ∀ i j, i < ops.size → j < ops.size → 1 ≤ tp i → tp j = tp i → j = i
  le : ∀ i, i < ops.size → tp i ≤ m
  full : ∀ p, p < m → ∃ i, i < ops.size ∧ tp i = p + 1
  body : ∀ i d, depB md ops i d = true → tp i = 0 → tp d = 0
theorem depB_lt {i d : Nat} (h : depB md ops i d = true) : i < ops.size := by
  unfold depB at h
  rcases Nat.lt_or_ge i ops.size with h' | h'
  · exact h'
  · rw [Array.getElem?_eq_none h'] at h; cases h
theorem shape_of (h : shapeB md ops tp m late = true) (hd : ∀ i d, depB md ops i d = true → d < ops.size) : ShapeP md ops tp m late := by
  simp only [shapeB, Bool.and_eq_true, Bool.or_eq_true, List.all_eq_true, List.any_eq_true, List.mem_range, decide_eq_true_eq, Bool.not_eq_true', List.contains_eq_mem] at h
  obtain ⟨⟨⟨⟨⟨⟨⟨⟨h1, h3⟩, h4⟩, h5⟩, h6⟩, h7⟩, h8⟩, h9⟩, h10⟩ := h
  refine ⟨h1, fun i d hh => ?_, fun i hi ht b hb htb hlb => ?_, fun i hi ht => ?_, fun i hi hl => ?_, fun i j hi hj ht he => ?_, fun i hi => h8 i hi, fun p hp => ?_, fun i d hh ht => ?_⟩
  · rcases h3 i (depB_lt hh) d (hd i d hh) with h | h
    · rw [hh] at h; cases h
    · exact h
  · rcases h4 i hi with h | h
    · exact absurd ht h
    · rcases h b hb with (h | h) | h
      · exact absurd htb h
      · rw [hlb] at h; cases h
      · exact h
  · rcases h5 i hi with h | ⟨j, hj, h1, h2⟩
    · omega
    · exact ⟨j, hj, h1, h2⟩
  · rcases h6 i hi with h | h
    · omega
    · exact h
  · rcases h7 i hi with h | h
    · omega
    · rcases h j hj with h | h
      · exact absurd he h
      · exact h
  · exact h9 p hp
  · rcases h10 i (depB_lt hh) d (hd i d hh) with (h | h) | h
    · rw [hh] at h; cases h
    · exact absurd ht h
    · exact h
theorem upd_same (z : Nat → Value) (i : Nat) (v : Value) : upd z i v i = v := by simp [upd]
theorem upd_ne (z : Nat → Value) (i : Nat) (v : Value) {j : Nat} (h : j ≠ i) : upd z i v j = z j := by simp [upd, h]
theorem maskD_upd {i d : Nat} (z : Nat → Value) (v : Value) (h : depB md ops d i = false) : maskD md ops d (upd z i v) = maskD md ops d z := by
  funext j
  unfold maskD
  by_cases hj : depB md ops d j = true
  · rw [if_pos hj, if_pos hj, upd_ne]
    intro e; subst e; rw [hj] at h; cases h
  · rw [if_neg hj, if_neg hj]
theorem maskT_upd (k : Nat) (z : Nat → Value) {i : Nat} (v : Value) (h : late i = true) : maskT tp late k (upd z i v) = maskT tp late k z := by
  funext j
  unfold maskT
  by_cases hj : j = i
  · subst hj; simp [h]
  · rw [upd_ne _ _ _ hj]

theorem Inv.set {listed : Array Bool} {w w' : World} {z : Nat → Value} {p i : Nat} {o : Oper} {a' : Act} {v : Value} (hS : ShapeP md ops tp m late) (hI : Inv ops md a0 base tp m late F G T listed (fillAll ops.toList 0 z a0) w z p)
    (hi : i ∈ Region.ready md ops listed) (ho : ops[i]? = some o) (ha : a' = (fillAll ops.toList 0 z a0).put o.dst v) (p' : Nat) (hp' : (tp i = 0 ∧ p' = p) ∨ (tp i = p + 1 ∧ p' = p + 1))
    (hfirst : p' = 0 → Below base.heap.size base w' ∧ F i (maskD md ops i z) v w' ∧ ∀ d, tp d = 0 → listed.getD d false = true → F d (maskD md ops d z) (z d) w')
    (hmore : 0 < p' → T p' (maskT tp late p' (upd z i v)) w' ∧ (∀ d, d < ops.size → tp d = 0 → late d = false → listed.getD d false = true) ∧ (tp i = 0 → G i (maskD md ops i z) v) ∧ ∀ d, tp d = 0 → listed.getD d false = true → G d (maskD md ops d z) (z d)) :
    Inv ops md a0 base tp m late F G T (listed.setIfInBounds i true) a' w' (upd z i v) p' := by
  obtain ⟨h1, h2, _⟩ := ready_mem hi
  have hl : i < listed.size := by rw [hI.size]; exact h1
  have hun : listed.getD i false = false := by rw [getD_false hl false true]; exact h2
  have hself : depB md ops i i = false := by
    cases h : depB md ops i i with
    | false => rfl
    | true => exact absurd (hS.back i i h) (Nat.lt_irrefl _)
  have hother : ∀ d, listed.getD d false = true → depB md ops d i = false := fun d hdl => by
    cases h : depB md ops d i with
    | false => rfl
    | true => have := hI.closed d i hdl h; rw [hun] at this; cases this
  refine ⟨?_, by simp [hI.size], ?_, ?_, ?_, ?_, ?_, ?_⟩
  · rw [ha]
    have := fillAll_upd ops.toList 0 z a0 i o v hS.dsts (by simpa using ho)
    rw [this, Nat.zero_add]
  · intro j d hj hd
    rw [listed_set hl] at hj ⊢
    simp only [Bool.or_eq_true, decide_eq_true_eq] at hj ⊢
    rcases hj with rfl | hj
    · exact Or.inr (ready_dep hi hd)
    · exact Or.inr (hI.closed j d hj hd)
  · intro j hj hf
    rw [listed_set hl] at hf
    simp only [Bool.or_eq_false_iff, decide_eq_false_iff_not] at hf
    rw [upd_ne _ _ _ hf.1]
    exact hI.orig j hj hf.2
  · intro j hj1 hj2
    rw [listed_set hl, hI.tails j hj1 hj2]
    rcases hp' with ⟨h, rfl⟩ | ⟨h, rfl⟩
    · rw [decide_eq_false (show ¬ j = i from fun e => by subst e; omega), Bool.false_or]
    · by_cases hj : j = i
      · subst hj; rw [decide_eq_true rfl, Bool.true_or, decide_eq_true (by omega)]
      · rw [decide_eq_false hj, Bool.false_or]
        have hne : tp j ≠ tp i := fun e => hj (hS.one i j h1 hj1 (by omega) e)
        by_cases hk : tp j ≤ p
        · rw [decide_eq_true hk, decide_eq_true (by omega)]
        · rw [decide_eq_false hk, decide_eq_false (by omega)]
  · intro h0
    obtain ⟨hb, hF, hR⟩ := hfirst h0
    refine ⟨hb, fun d hd hdl => ?_⟩
    rw [listed_set hl] at hdl
    simp only [Bool.or_eq_true, decide_eq_true_eq] at hdl
    by_cases hdi : d = i
    · subst hdi
      rw [upd_same, maskD_upd z v hself]
      exact hF
    · have hdl' := hdl.resolve_left hdi
      rw [upd_ne _ _ _ hdi, maskD_upd z v (hother d hdl')]
      exact hR d hd hdl'
  · intro h0
    obtain ⟨hT, hA, hG1, hG2⟩ := hmore h0
    refine ⟨hT, fun d hd hdt hdl => ?_, fun d hd hdl => ?_⟩
    · rw [listed_set hl]
      simp [hA d hd hdt hdl]
    · rw [listed_set hl] at hdl
      simp only [Bool.or_eq_true, decide_eq_true_eq] at hdl
      by_cases hdi : d = i
      · subst hdi
        rw [upd_same, maskD_upd z v hself]
        exact hG1 hd
      · have hdl' := hdl.resolve_left hdi
        rw [upd_ne _ _ _ hdi, maskD_upd z v (hother d hdl')]
        exact hG2 d hd hdl'
  · rcases hp' with ⟨h, rfl⟩ | ⟨h, rfl⟩
    · exact hI.top
    · have := hS.le i h1; omega

theorem wpAny_facts (hS : ShapeP md ops tp m late) (hst : ∀ i z v w w', tp i = 0 → Below w.heap.size w w' → F i z v w → F i z v w')
    (hG : ∀ i z v w, tp i = 0 → F i z v w → G i z v)
    (hob : AllOb P ops md Q a0 base tp late F G T ops.toList 0) (hend : EndOb ops md Q a0 base tp m late F G T) (w0 : World) (hw0 : Below base.heap.size base w0) :
    wpAny P md ops Q ops.size (Array.replicate ops.size false) a0 w0 := by
  have hz : ∀ i, (Array.replicate ops.size false).getD i false = false := fun i => by
    simp only [Array.getD, Array.size_replicate]
    split <;> simp
  refine wpAny_inv (fun listed a w => ∃ z p, Inv ops md a0 base tp m late F G T listed a w z p) ?_ ?_ ops.size _ a0 w0 (by
    unfold unlistedN
    exact Nat.le_trans (List.length_filter_le _ _) (by simp)) ?_
  · rintro listed a w i o ⟨z, p, hI⟩ hi ho
    obtain ⟨h1, h2, _⟩ := ready_mem hi
    have hl : i < listed.size := by rw [hI.size]; exact h1
    have hun : listed.getD i false = false := by rw [getD_false hl false true]; exact h2
    have hfr := hI.fr
    subst hfr
    have hO := hob.at (i := i) (o := o) (by simpa using ho)
    rw [Nat.zero_add] at hO
    unfold Ob at hO
    have hoo := fun j (hj : depB md ops j i = true) => hI.orig j (depB_lt hj) (by
      cases h : listed.getD j false with
      | false => rfl
      | true => have := hI.closed j i h hj; rw [hun] at this; cases this)
    have hlst : ∀ d, depB md ops i d = true → d < ops.size := fun d hd => by have := hS.back i d hd; omega
    have hD0 : ∀ d, depB md ops i d = true → tp i = 0 → tp d = 0 := fun d hd h => hS.body i d hd h
    have htd : p = 0 → ∀ d, depB md ops i d = true → tp d = 0 := fun hp d hd => by
      rcases Nat.eq_zero_or_pos (tp d) with h | h
      · exact h
      · have h3 := hI.tails d (hlst d hd) h
        rw [ready_dep hi hd] at h3
        have := of_decide_eq_true h3.symm
        omega
    by_cases hb : tp i = 0
    · rw [if_pos hb] at hO
      by_cases hla : late i = true
      · rw [if_pos hla] at hO
        rcases Nat.eq_zero_or_pos p with hp | hp
        · obtain ⟨hB, hF⟩ := hI.first hp
          have hdd := fun d (hd : depB md ops i d = true) => hG d _ _ _ (htd hp d hd) (hF d (htd hp d hd) (ready_dep hi hd))
          have mk : ∀ a' w' v, a' = (fillAll ops.toList 0 z a0).put o.dst v → w' = w → F i (maskD md ops i z) v w → ∃ z p, Inv ops md a0 base tp m late F G T (listed.setIfInBounds i true) a' w' z p := fun a' w' v ha hbw hf => by
            subst hbw
            exact ⟨upd z i v, p, hI.set hS hi ho ha p (Or.inl ⟨hb, rfl⟩) (fun _ => ⟨hB, hf, fun d hd hdl => hF d hd hdl⟩) (fun h => by omega)⟩
          have hO' := hO z w hdd hoo _ mk
          by_cases hw : Region.wanted o (yielded ops (fillAll ops.toList 0 z a0).tmps) = true
          · rw [if_pos hw] at hO' ⊢; exact hO'
          · rw [if_neg hw] at hO' ⊢; exact mk _ w _ rfl rfl hO'
        · obtain ⟨hT, hA, hGG⟩ := hI.more hp
          have hdd := fun d (hd : depB md ops i d = true) => hGG d (hD0 d hd hb) (ready_dep hi hd)
          have mk : ∀ a' w' v, a' = (fillAll ops.toList 0 z a0).put o.dst v → w' = w → F i (maskD md ops i z) v w → ∃ z p, Inv ops md a0 base tp m late F G T (listed.setIfInBounds i true) a' w' z p := fun a' w' v ha hbw hf => by
            subst hbw
            exact ⟨upd z i v, p, hI.set hS hi ho ha p (Or.inl ⟨hb, rfl⟩) (fun h => by omega) (fun _ => ⟨by rw [maskT_upd _ z v hla]; exact hT, hA, fun _ => hG i _ _ _ hb hf, hGG⟩)⟩
          have hO' := hO z w hdd hoo _ mk
          by_cases hw : Region.wanted o (yielded ops (fillAll ops.toList 0 z a0).tmps) = true
          · rw [if_pos hw] at hO' ⊢; exact hO'
          · rw [if_neg hw] at hO' ⊢; exact mk _ w _ rfl rfl hO'
      · rw [if_neg hla] at hO
        have hp : p = 0 := by
          rcases Nat.eq_zero_or_pos p with h | h
          · exact h
          · have := (hI.more h).2.1 i h1 hb (by simpa using hla); rw [hun] at this; cases this
        obtain ⟨hB, hF⟩ := hI.first hp
        have hdd := fun d (hd : depB md ops i d = true) => hF d (htd hp d hd) (ready_dep hi hd)
        have mk : ∀ a' w' v, a' = (fillAll ops.toList 0 z a0).put o.dst v → Below w.heap.size w w' → F i (maskD md ops i z) v w' → ∃ z p, Inv ops md a0 base tp m late F G T (listed.setIfInBounds i true) a' w' z p := fun a' w' v ha hbw hf =>
          ⟨upd z i v, p, hI.set hS hi ho ha p (Or.inl ⟨hb, rfl⟩) (fun _ => ⟨hB.trans (hbw.mono hB.size), hf, fun d hd hdl => hst d _ _ _ _ hd hbw (hF d hd hdl)⟩) (fun h => by omega)⟩
        have hO' := hO z w hB hdd hoo _ mk
        by_cases hw : Region.wanted o (yielded ops (fillAll ops.toList 0 z a0).tmps) = true
        · rw [if_pos hw] at hO' ⊢; exact hO'
        · rw [if_neg hw] at hO' ⊢; exact mk _ w _ rfl (Below.refl _ _) hO'
    · rw [if_neg hb] at hO
      have ht := hI.tails i h1 (by omega)
      rw [hun] at ht
      have hge : ¬ tp i ≤ p := of_decide_eq_false ht.symm
      by_cases he : tp i = 1
      · rw [if_pos he] at hO
        have hp : p = 0 := by omega
        obtain ⟨hB, hF⟩ := hI.first hp
        have hall : ∀ d, d < ops.size → tp d = 0 → late d = false → listed.getD d false = true := fun d hd htd hld =>
          ancs_listed hI.closed _ _ (fun x hx => by simp only [List.mem_filter] at hx; exact ready_dep hi hx.2) d (hS.all i h1 he d hd htd hld)
        have hoo := fun j (hj2 : j < ops.size) (hj : 1 ≤ tp j) => hI.orig j hj2 (by rw [hI.tails j hj2 hj]; exact decide_eq_false (by omega))
        have mk : ∀ a' w' v, a' = (fillAll ops.toList 0 z a0).put o.dst v → T 1 (maskT tp late 1 (upd z i v)) w' → ∃ z p, Inv ops md a0 base tp m late F G T (listed.setIfInBounds i true) a' w' z p := fun a' w' v ha hT =>
          ⟨upd z i v, 1, hI.set hS hi ho ha 1 (Or.inr ⟨by omega, by omega⟩) (fun h => by cases h) (fun _ => ⟨hT, hall, fun h => absurd h hb, fun d hd hdl => hG d _ _ _ hd (hF d hd hdl)⟩)⟩
        have hO' := hO z w hB (fun d hd htd hld => hF d htd (hall d hd htd hld)) (fun d htd hdd => hF d htd (ready_dep hi hdd)) hoo _ mk
        by_cases hw : Region.wanted o (yielded ops (fillAll ops.toList 0 z a0).tmps) = true
        · rw [if_pos hw] at hO' ⊢; exact hO'
        · rw [if_neg hw] at hO' ⊢; exact mk _ w _ rfl hO'
      · rw [if_neg he] at hO
        obtain ⟨j, hj1, hj2, hj3⟩ := hS.chain i h1 (by omega)
        have hlt : tp j ≤ p := by
          have := hI.tails j hj1 (by omega)
          rw [ready_dep hi hj2] at this
          exact of_decide_eq_true this.symm
        have hpe : tp i = p + 1 := by omega
        have hp : 0 < p := by omega
        rw [hpe, Nat.add_sub_cancel] at hO
        obtain ⟨hT, hA, hGG⟩ := hI.more hp
        have hoo := fun j (hj2 : j < ops.size) (hj : p + 1 ≤ tp j) => hI.orig j hj2 (by rw [hI.tails j hj2 (by omega)]; exact decide_eq_false (by omega))
        have mk : ∀ a' w' v, a' = (fillAll ops.toList 0 z a0).put o.dst v → T (p + 1) (maskT tp late (p + 1) (upd z i v)) w' → ∃ z p', Inv ops md a0 base tp m late F G T (listed.setIfInBounds i true) a' w' z p' := fun a' w' v ha hT' =>
          ⟨upd z i v, p + 1, hI.set hS hi ho ha (p + 1) (Or.inr ⟨hpe, rfl⟩) (fun h => by cases h) (fun _ => ⟨hT', hA, fun h => absurd h hb, hGG⟩)⟩
        have hO' := hO z w hT (fun d htd hdd => hGG d htd (ready_dep hi hdd)) hoo _ mk
        by_cases hw : Region.wanted o (yielded ops (fillAll ops.toList 0 z a0).tmps) = true
        · rw [if_pos hw] at hO' ⊢; exact hO'
        · rw [if_neg hw] at hO' ⊢; exact mk _ w _ rfl hO'
  · rintro listed a w ⟨z, p, hI⟩ hr
    have hall : ∀ i, i < ops.size → listed.getD i false = true := by
      intro i
      induction i using Nat.strongRecOn with
      | _ i ih =>
        intro hi
        cases h : listed.getD i false with
        | true => rfl
        | false =>
          exfalso
          have hl : i < listed.size := by rw [hI.size]; exact hi
          have : i ∈ Region.ready md ops listed := by
            simp only [Region.ready, List.mem_filter, List.mem_range, Bool.and_eq_true, Bool.not_eq_true']
            refine ⟨hi, by rw [getD_false hl true false]; exact h, ?_⟩
            rw [Array.getElem?_eq_getElem hi]
            simp only [Option.map_some, Option.getD_some]
            rw [Array.all_eq_true_iff_forall_mem]
            intro e he
            cases hb : Region.binds md e with
            | false => rfl
            | true =>
              have hd : depB md ops i e.on = true := by
                unfold depB
                rw [Array.getElem?_eq_getElem hi]
                exact Array.any_eq_true'.2 ⟨e, he, by simp [hb]⟩
              have hlt := hS.back i e.on hd
              simp [ih e.on hlt (by omega)]
          rw [hr] at this
          cases this
    have hfr := hI.fr
    subst hfr
    unfold EndOb at hend
    by_cases hn : m = 0
    · rw [if_pos hn] at hend
      have := hI.top
      have hp : p = 0 := by omega
      obtain ⟨hB, hF⟩ := hI.first hp
      exact hend z w hB fun d hd => hF d (by have := hS.le d hd; omega) (hall d hd)
    · rw [if_neg hn] at hend
      obtain ⟨i, hi, hti⟩ := hS.full (m - 1) (by omega)
      have ht := hI.tails i hi (by omega)
      rw [hall i hi] at ht
      have h3 := of_decide_eq_true ht.symm
      have := hI.top
      obtain rfl : p = m := by omega
      obtain ⟨hm, _, hGG⟩ := hI.more (by omega)
      exact hend z w hm fun d hd htd => hGG d htd (hall d hd)
  · refine ⟨origOf ops.toList a0, 0, ?_, by simp, ?_, fun _ _ _ => rfl, ?_, fun _ => ⟨hw0, fun i hi h => ?_⟩, fun h => absurd h (Nat.lt_irrefl _), Nat.zero_le _⟩
    · exact (fillAll_id a0 ops.toList 0 _ fun i o ho d hd => by unfold origOf; rw [Nat.zero_add, ho]; simp [hd]).symm
    · intro i d h
      rw [hz] at h; cases h
    · intro i h1 h2
      rw [hz, decide_eq_false (by omega)]
    · rw [hz] at h; cases h

/-- a region that draws its order, by facts: the operations with place 0 come in whatever order (each told by F, what of it does not hang on the world by G), the others behind them, one by one by their places (T); 'late': operations of place 0 that may come up among the others -/
theorem region_facts {id : Nat} (tp : Nat → Nat) (m : Nat) (late : Nat → Bool) (F : Nat → (Nat → Value) → Value → World → Prop) (G : Nat → (Nat → Value) → Value → Prop) (T : Nat → (Nat → Value) → World → Prop) {Q : Exit → Act → World → Prop} {a : Act} {w : World} (hm : P.follows .mixedOrders = true)
    (hsh : shapeB .any ops tp m late = true) (hdl : (ops.toList.all fun o => o.after.all fun e => decide (e.on < ops.size)) = true)
    (hst : ∀ i z v w w', tp i = 0 → Below w.heap.size w w' → F i z v w → F i z v w') (hG : ∀ i z v w, tp i = 0 → F i z v w → G i z v)
    (hob : AllOb P ops .any Q a w tp late F G T ops.toList 0) (hend : EndOb ops .any Q a w tp m late F G T) : (Code.region id ops true).wp P Q a w := by
  refine wp_region_any hm ?_
  refine wpAny_facts (shape_of hsh fun i d h => ?_) hst hG hob hend _ (below_drewN (Below.refl _ _) 1)
  have hi := depB_lt h
  unfold depB at h
  rw [Array.getElem?_eq_getElem hi] at h
  obtain ⟨e, he, hb⟩ := Array.any_eq_true'.1 h
  simp only [Bool.and_eq_true, beq_iff_eq] at hb
  have h1 := List.all_eq_true.1 hdl ops[i] (Array.getElem_mem_toList hi)
  have h2 := Array.all_eq_true_iff_forall_mem.1 h1 e he
  have h3 := of_decide_eq_true h2
  omega
variable {fr : (Nat → Value) → Act}
/-- fr is the frame with every operation's slot filled -/
structure FrIs (ops : Array Oper) (a0 : Act) (fr : (Nat → Value) → Act) : Prop where
  out : ∀ z, fillAll ops.toList 0 z a0 = fr z
theorem ob_body {i : Nat} {o : Oper} (hfr' : FrIs ops a0 fr) (h1 : (tp i == 0) = true) (h2 : late i = false) (hg : o.guard = none)
    (h : ∀ (z : Nat → Value) (w : World), Below base.heap.size base w → Hid (∀ d, depB md ops i d = true → F d (maskD md ops d z) (z d) w) → Hid (∀ j, depB md ops j i = true → z j = origOf ops.toList a0 j) →
      ∀ K : Act → World → Prop, Hid (∀ v w', Below w.heap.size w w' → F i (maskD md ops i z) v w' → K ((fr z).put o.dst v) w') → o.wp P (fr z) w K Q) : Ob P ops md Q a0 base tp late F G T i o := by
  unfold Ob; rw [if_pos (eq_of_beq h1), if_neg (by rw [h2]; decide)]
  intro z w hb hd ho K hK
  rw [if_pos (by simp [Region.wanted, hg]), hfr'.out]
  exact h z w hb (Lib.hid hd) (Lib.hid ho) K (Lib.hid fun v w' h => hK _ w' v (by rw [hfr'.out]) h)
theorem ob_bodyg {i : Nat} {o : Oper} (hfr' : FrIs ops a0 fr) (h1 : (tp i == 0) = true) (h2 : late i = false)
    (h : ∀ (z : Nat → Value) (w : World), Below base.heap.size base w → Hid (∀ d, depB md ops i d = true → F d (maskD md ops d z) (z d) w) → Hid (∀ j, depB md ops j i = true → z j = origOf ops.toList a0 j) →
      ∀ K : Act → World → Prop, Hid (∀ v w', Below w.heap.size w w' → F i (maskD md ops i z) v w' → K ((fr z).put o.dst v) w') → Hid (Region.wanted o (yielded ops (fr z).tmps) = true) ∧ o.wp P (fr z) w K Q) : Ob P ops md Q a0 base tp late F G T i o := by
  unfold Ob; rw [if_pos (eq_of_beq h1), if_neg (by rw [h2]; decide)]
  intro z w hb hd ho K hK
  rw [hfr'.out]
  obtain ⟨hw, hh⟩ := h z w hb (Lib.hid hd) (Lib.hid ho) K (Lib.hid fun v w' h => hK _ w' v (by rw [hfr'.out]) h)
  rw [if_pos hw.out]
  exact hh
theorem ob_late {i : Nat} {o : Oper} (hfr' : FrIs ops a0 fr) (h1 : (tp i == 0) = true) (h2 : late i = true) (hg : o.guard = none)
    (h : ∀ (z : Nat → Value) (w : World), Hid (∀ d, depB md ops i d = true → G d (maskD md ops d z) (z d)) → Hid (∀ j, depB md ops j i = true → z j = origOf ops.toList a0 j) →
      ∀ K : Act → World → Prop, Hid (∀ v, F i (maskD md ops i z) v w → K ((fr z).put o.dst v) w) → o.wp P (fr z) w K Q) : Ob P ops md Q a0 base tp late F G T i o := by
  unfold Ob; rw [if_pos (eq_of_beq h1), if_pos h2]
  intro z w hd ho K hK
  rw [if_pos (by simp [Region.wanted, hg]), hfr'.out]
  exact h z w (Lib.hid hd) (Lib.hid ho) K (Lib.hid fun v h => hK _ w v (by rw [hfr'.out]) rfl h)
theorem ob_tail0 {i : Nat} {o : Oper} (hfr' : FrIs ops a0 fr) (h1 : (tp i == 1) = true) (hg : o.guard = none)
    (h : ∀ (z : Nat → Value) (w : World), Below base.heap.size base w → Hid (∀ d, d < ops.size → tp d = 0 → late d = false → F d (maskD md ops d z) (z d) w) → Hid (∀ d, tp d = 0 → depB md ops i d = true → F d (maskD md ops d z) (z d) w) → Hid (∀ j, j < ops.size → 1 ≤ tp j → z j = origOf ops.toList a0 j) →
      ∀ K : Act → World → Prop, Hid (∀ v w', T 1 (maskT tp late 1 (upd z i v)) w' → K ((fr z).put o.dst v) w') → o.wp P (fr z) w K Q) : Ob P ops md Q a0 base tp late F G T i o := by
  have := eq_of_beq h1
  unfold Ob; rw [if_neg (by omega), if_pos this]
  intro z w hb hf hd ho K hK
  rw [if_pos (by simp [Region.wanted, hg]), hfr'.out]
  exact h z w hb (Lib.hid hf) (Lib.hid hd) (Lib.hid ho) K (Lib.hid fun v w' h => hK _ w' v (by rw [hfr'.out]) h)
theorem ob_tail {i : Nat} {o : Oper} (hfr' : FrIs ops a0 fr) (h1 : decide (1 < tp i) = true) (hg : o.guard = none) (p : Nat) (hp : (tp i == p + 1) = true)
    (h : ∀ (z : Nat → Value) (w : World), T p (maskT tp late p z) w → Hid (∀ d, tp d = 0 → depB md ops i d = true → G d (maskD md ops d z) (z d)) → Hid (∀ j, j < ops.size → p + 1 ≤ tp j → z j = origOf ops.toList a0 j) →
      ∀ K : Act → World → Prop, Hid (∀ v w', T (p + 1) (maskT tp late (p + 1) (upd z i v)) w' → K ((fr z).put o.dst v) w') → o.wp P (fr z) w K Q) : Ob P ops md Q a0 base tp late F G T i o := by
  have := of_decide_eq_true h1
  have e := eq_of_beq hp
  unfold Ob; rw [if_neg (by omega), if_neg (by omega), show tp i - 1 = p by omega]
  intro z w hT hd ho K hK
  rw [if_pos (by simp [Region.wanted, hg]), hfr'.out]
  exact h z w hT (Lib.hid hd) (Lib.hid ho) K (Lib.hid fun v w' h => hK _ w' v (by rw [hfr'.out]) h)
theorem end_tails (hfr' : FrIs ops a0 fr) (h1 : (m == 0) = false) (h : ∀ (z : Nat → Value) (w : World), T m (maskT tp late m z) w → Hid (∀ d, d < ops.size → tp d = 0 → G d (maskD md ops d z) (z d)) → Q .normal (fr z) w) : EndOb ops md Q a0 base tp m late F G T := by
  unfold EndOb; rw [if_neg (by intro e; subst e; cases h1)]; exact fun z w hT hG => by rw [hfr'.out]; exact h z w hT (Lib.hid hG)
theorem end_plain (hfr' : FrIs ops a0 fr) (h1 : (m == 0) = true) (h : ∀ (z : Nat → Value) (w : World), Below base.heap.size base w → Hid (∀ d, d < ops.size → F d (maskD md ops d z) (z d) w) → Q .normal (fr z) w) : EndOb ops md Q a0 base tp m late F G T := by
  unfold EndOb; rw [if_pos (eq_of_beq h1)]; exact fun z w hb hF => by rw [hfr'.out]; exact h z w hb (Lib.hid hF)
theorem AllOb.nil {i : Nat} : AllOb P ops md Q a0 base tp late F G T [] i := trivial
theorem AllOb.cons {i j : Nat} {o : Oper} {r : List Oper} (hj : (i + 1 == j) = true) (h : Ob P ops md Q a0 base tp late F G T i o) (hr : AllOb P ops md Q a0 base tp late F G T r j) : AllOb P ops md Q a0 base tp late F G T (o :: r) i := by
  have := eq_of_beq hj
  subst this
  exact ⟨h, hr⟩
/-- a region that draws its order, by facts -/
theorem region_by {id : Nat} {l : List Oper} (tp : Nat → Nat) (m : Nat) (late : Nat → Bool) (F : Nat → (Nat → Value) → Value → World → Prop) (G : Nat → (Nat → Value) → Value → Prop) (T : Nat → (Nat → Value) → World → Prop) {Q : Exit → Act → World → Prop} {a : Act} {w : World} (hm : P.follows .mixedOrders = true)
    (hsh : shapeB .any l.toArray tp m late = true) (hdl : (l.all fun o => o.after.all fun e => decide (e.on < l.length)) = true)
    (hst : ∀ i z v w w', tp i = 0 → Below w.heap.size w w' → F i z v w → F i z v w') (hG : ∀ i z v w, tp i = 0 → F i z v w → G i z v)
    (fr : (Nat → Value) → Act) (hfr : ∀ z, fillAll l 0 z a = fr z)
    (hob : FrIs l.toArray a fr → AllOb P l.toArray .any Q a w tp late F G T l 0) (hend : FrIs l.toArray a fr → EndOb l.toArray .any Q a w tp m late F G T) : (Code.region id l.toArray true).wp P Q a w := by
  have h : FrIs l.toArray a fr := ⟨fun z => by simpa using hfr z⟩
  exact region_facts tp m late F G T hm hsh (by simpa using hdl) hst hG (by simpa using hob h) (hend h)
end
end Go.Proofs.YtiddhnnofpbopaaDoor.Rgn
