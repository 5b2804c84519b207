/- Rules: plain facts on what they ask of labels. -/
import Derived.WalkKit
namespace Go.Proofs.YtahfobbiaimoiaaGreatDoor
/-- A rule, told by plain ints. -/
structure Rl where
  kind : Int
  k : Int
  steps : List Int
/-- Numbers that rise, from lo on, below n. -/
def ris (n : Int) : Int → List Int → Bool
  | _, [] => true
  | lo, s :: t => decide (lo ≤ s) && decide (s < n) && ris n (s + 1) t
/-- Are kind, K and the number of steps as they must be? -/
def numF (kind k : Int) (m : Nat) : Bool :=
  if kind = 1 ∨ kind = 2 then decide (k = 0) && decide (2 ≤ m)
  else if kind = 3 ∨ kind = 4 then decide (1 ≤ k) && decide (k ≤ 999999999) && decide (1 ≤ m)
  else if kind = 5 then decide (1 ≤ k) && decide (k ≤ m)
  else false
/-- May it be a rule between n steps? -/
def chk (n : Int) (r : Rl) : Bool := decide (0 ≤ n) && decide (n ≤ 12) && ris n 0 r.steps && numF r.kind r.k r.steps.length
theorem ris_mem {n lo : Int} {l : List Int} (h : ris n lo l = true) : ∀ s ∈ l, lo ≤ s ∧ s < n := by
  induction l generalizing lo with
  | nil => intro s hs; cases hs
  | cons a l ih =>
    simp [ris] at h
    intro s hs
    rcases List.mem_cons.1 hs with rfl | hs
    · exact h.1
    · have := ih h.2 s hs; omega
theorem ris_len {n lo : Int} {l : List Int} (h : ris n lo l = true) (h0 : lo ≤ n) : (l.length : Int) ≤ n - lo := by
  induction l generalizing lo with
  | nil => simp; omega
  | cons a l ih =>
    simp [ris] at h
    have := ih h.2 (by omega)
    simp
    omega
theorem ris_pair {n lo : Int} {l : List Int} (h : ris n lo l = true) {i j : Nat} {x y : Int} (hij : i < j) (hx : l[i]? = some x) (hy : l[j]? = some y) : x < y := by
  induction l generalizing lo i j with
  | nil => cases hx
  | cons a l ih =>
    simp [ris] at h
    obtain ⟨j', rfl⟩ : ∃ j', j = j' + 1 := ⟨j - 1, by omega⟩
    rw [List.getElem?_cons_succ] at hy
    cases i with
    | zero =>
      simp at hx
      subst hx
      have := (ris_mem h.2 y (List.mem_of_getElem? hy)).1
      omega
    | succ i => exact ih h.2 (Nat.lt_of_succ_lt_succ hij) (by simpa using hx) hy
/-- How many unlike ones there are. -/
def unl (P : List Int) : Nat := ((List.range P.length).filter fun i => decide (P[i]?.getD 0 ∉ P.take i)).length
theorem unl_nil : unl [] = 0 := rfl
theorem unl_snoc (P : List Int) (x : Int) : unl (P ++ [x]) = unl P + if x ∈ P then 0 else 1 := by
  unfold unl
  rw [List.length_append, List.length_singleton, List.range_succ, List.filter_append, List.length_append]
  congr 1
  · congr 1
    refine List.filter_congr fun i hi => ?_
    rw [List.mem_range] at hi
    rw [List.getElem?_append_left hi, List.take_append_of_le_length (by omega)]
  · rw [List.filter_cons, List.getElem?_append_right (Nat.le_refl _), List.take_append_of_le_length (Nat.le_refl _), List.take_length]
    by_cases h : x ∈ P <;> simp [h]
theorem unl_le (P : List Int) : unl P ≤ P.length := by
  unfold unl
  refine Nat.le_trans (List.length_filter_le _ _) ?_
  simp
theorem snoc_ind {p : List Int → Prop} (h0 : p []) (h1 : ∀ l x, p l → p (l ++ [x])) : ∀ l, p l := by
  intro l
  rw [← List.reverse_reverse l]
  induction l.reverse with
  | nil => exact h0
  | cons a t ih => rw [List.reverse_cons]; exact h1 _ _ ih
/-- How often the commonest stands. -/
def mst (P : List Int) : Nat := (P.map fun x => P.count x).foldl max 0
theorem foldl_max (l : List Nat) (a k : Nat) : l.foldl max a ≤ k ↔ a ≤ k ∧ ∀ x ∈ l, x ≤ k := by
  induction l generalizing a with
  | nil => simp
  | cons b l ih =>
    rw [List.foldl_cons, ih, Nat.max_le]
    simp [and_assoc]
theorem mst_le (P : List Int) (k : Nat) : mst P ≤ k ↔ ∀ x, P.count x ≤ k := by
  unfold mst
  rw [foldl_max]
  constructor
  · intro ⟨_, h⟩ x
    by_cases hx : x ∈ P
    · exact h _ (List.mem_map.2 ⟨x, hx, rfl⟩)
    · rw [List.count_eq_zero_of_not_mem hx]; exact Nat.zero_le _
  · intro h
    refine ⟨Nat.zero_le _, fun y hy => ?_⟩
    obtain ⟨x, _, rfl⟩ := List.mem_map.1 hy
    exact h x
theorem mst_snoc (P : List Int) (x : Int) : mst (P ++ [x]) = max (mst P) (P.count x + 1) := by
  have h : ∀ k, mst (P ++ [x]) ≤ k ↔ max (mst P) (P.count x + 1) ≤ k := fun k => by
    rw [mst_le, Nat.max_le, mst_le]
    constructor
    · intro h
      refine ⟨fun y => ?_, ?_⟩
      · have := h y; rw [List.count_append] at this; omega
      · have := h x; rw [List.count_append] at this; simpa using this
    · intro ⟨h1, h2⟩ y
      rw [List.count_append]
      by_cases e : x = y
      · subst e; simpa using h2
      · have := h1 y
        rw [List.count_singleton, if_neg (by simpa using e)]
        omega
  exact Nat.le_antisymm ((h _).2 (Nat.le_refl _)) ((h _).1 (Nat.le_refl _))
theorem mst_len (P : List Int) : mst P ≤ P.length := (mst_le P _).2 fun _ => List.count_le_length
theorem unl_full (P : List Int) : unl P = P.length ↔ P.Nodup := by
  induction P using snoc_ind with
  | h0 => simp [unl]
  | h1 l x ih =>
    rw [unl_snoc, List.length_append, List.length_singleton, List.nodup_append]
    have := unl_le l
    by_cases h : x ∈ l
    · rw [if_pos h]
      constructor
      · intro e; omega
      · intro ⟨_, _, e⟩; exact absurd rfl (e x h x (List.mem_singleton.2 rfl))
    · rw [if_neg h]
      constructor
      · intro e
        refine ⟨ih.1 (by omega), by simp, fun a ha b hb => ?_⟩
        rw [List.mem_singleton] at hb
        subst hb
        intro e; subst e; exact h ha
      · intro ⟨e, _⟩
        rw [ih.2 e]
theorem mst_one (P : List Int) : mst P ≤ 1 ↔ P.Nodup := by rw [mst_le, List.nodup_iff_count]
/-- The labels of the steps that have one. -/
def labs (L : List Int) (S : List Int) : List Int := S.filterMap fun s => L[s.toNat]?
/-- What the kind asks of the labels of its steps, where more come behind them. -/
def means (kind k : Int) (P : List Int) (left : Nat) : Bool :=
  if kind = 1 then decide (mst P ≤ 1) else if kind = 2 then decide (unl P ≤ 1) else if kind = 3 then decide ((mst P : Int) ≤ k) else if kind = 4 then decide ((unl P : Int) ≤ k) else decide (k ≤ (unl P : Int) + left)
/-- Can the labels still be made a row of n that keeps the rule? -/
def early (r : Rl) (n : Int) (L : List Int) : Bool := chk n r && decide ((L.length : Int) ≤ n) && means r.kind r.k (labs L r.steps) (r.steps.length - (labs L r.steps).length)
def holds (r : Rl) (L : List Int) : Bool := early r L.length L
def broken (R : List Rl) (L : List Int) : List Nat := (List.range R.length).filter fun i => match R[i]? with | some r => !holds r L | none => false
theorem labs_snoc (L S : List Int) (s : Int) : labs L (S ++ [s]) = labs L S ++ (match L[s.toNat]? with | some x => [x] | none => []) := by
  unfold labs
  rw [List.filterMap_append]
  congr 1
  cases h : L[s.toNat]? <;> simp [h]
theorem labs_len (L S : List Int) : (labs L S).length ≤ S.length := List.length_filterMap_le _ _
end Go.Proofs.YtahfobbiaimoiaaGreatDoor
