/- Labels that go on by one: plain facts. -/
import Derived.WalkKit
namespace Go.Proofs.YtlijlelejobchaaGreatDoor
/-- A rule, told by plain ints. -/
structure Rl where
  kind : Int
  k : Int
  steps : List Int
/-- Numbers that rise, from lo on, below n. -/
def ris (n : Int) : Int → List Int → Bool
  | _, [] => true
  | lo, s :: t => decide (lo ≤ s) && decide (s < n) && ris n (s + 1) t
/-- Are kind, K and the number of steps as they must be? -/
def numF (kind k : Int) (m : Nat) : Bool :=
  if kind = 1 ∨ kind = 2 then decide (k = 0) && decide (2 ≤ m)
  else if kind = 3 ∨ kind = 4 then decide (1 ≤ k) && decide (k ≤ 999999999) && decide (1 ≤ m)
  else if kind = 5 then decide (1 ≤ k) && decide (k ≤ m)
  else false
/-- May it be a rule between n steps? -/
def chk (n : Int) (r : Rl) : Bool := decide (0 ≤ n) && decide (n ≤ 12) && ris n 0 r.steps && numF r.kind r.k r.steps.length
theorem ris_mem {n lo : Int} {l : List Int} (h : ris n lo l = true) : ∀ s ∈ l, lo ≤ s ∧ s < n := by
  induction l generalizing lo with
  | nil => intro s hs; cases hs
  | cons a l ih =>
    simp [ris] at h
    intro s hs
    rcases List.mem_cons.1 hs with rfl | hs
    · exact h.1
    · have := ih h.2 s hs; omega
theorem ris_len {n lo : Int} {l : List Int} (h : ris n lo l = true) (h0 : lo ≤ n) : (l.length : Int) ≤ n - lo := by
  induction l generalizing lo with
  | nil => simp; omega
  | cons a l ih =>
    simp [ris] at h
    have := ih h.2 (by omega)
    simp
    omega
theorem ris_pair {n lo : Int} {l : List Int} (h : ris n lo l = true) {i j : Nat} {x y : Int} (hij : i < j) (hx : l[i]? = some x) (hy : l[j]? = some y) : x < y := by
  induction l generalizing lo i j with
  | nil => cases hx
  | cons a l ih =>
    simp [ris] at h
    obtain ⟨j', rfl⟩ : ∃ j', j = j' + 1 := ⟨j - 1, by omega⟩
    rw [List.getElem?_cons_succ] at hy
    cases i with
    | zero =>
      simp at hx
      subst hx
      have := (ris_mem h.2 y (List.mem_of_getElem? hy)).1
      omega
    | succ i => exact ih h.2 (Nat.lt_of_succ_lt_succ hij) (by simpa using hx) hy
/-- How many unlike ones there are. -/
def unl (P : List Int) : Nat := ((List.range P.length).filter fun i => decide (P[i]?.getD 0 ∉ P.take i)).length
theorem unl_nil : unl [] = 0 := rfl
theorem unl_snoc (P : List Int) (x : Int) : unl (P ++ [x]) = unl P + if x ∈ P then 0 else 1 := by
  unfold unl
  rw [List.length_append, List.length_singleton, List.range_succ, List.filter_append, List.length_append]
  congr 1
  · congr 1
    refine List.filter_congr fun i hi => ?_
    rw [List.mem_range] at hi
    rw [List.getElem?_append_left hi, List.take_append_of_le_length (by omega)]
  · rw [List.filter_cons, List.getElem?_append_right (Nat.le_refl _), List.take_append_of_le_length (Nat.le_refl _), List.take_length]
    by_cases h : x ∈ P <;> simp [h]
theorem unl_le (P : List Int) : unl P ≤ P.length := by
  unfold unl
  refine Nat.le_trans (List.length_filter_le _ _) ?_
  simp
theorem snoc_ind {p : List Int → Prop} (h0 : p []) (h1 : ∀ l x, p l → p (l ++ [x])) : ∀ l, p l := by
  intro l
  rw [← List.reverse_reverse l]
  induction l.reverse with
  | nil => exact h0
  | cons a t ih => rw [List.reverse_cons]; exact h1 _ _ ih
/-- How often the commonest stands. -/
def mst (P : List Int) : Nat := (P.map fun x => P.count x).foldl max 0
theorem foldl_max (l : List Nat) (a k : Nat) : l.foldl max a ≤ k ↔ a ≤ k ∧ ∀ x ∈ l, x ≤ k := by
  induction l generalizing a with
  | nil => simp
  | cons b l ih =>
    rw [List.foldl_cons, ih, Nat.max_le]
    simp [and_assoc]
theorem mst_le (P : List Int) (k : Nat) : mst P ≤ k ↔ ∀ x, P.count x ≤ k := by
  unfold mst
  rw [foldl_max]
  constructor
  · intro ⟨_, h⟩ x
    by_cases hx : x ∈ P
    · exact h _ (List.mem_map.2 ⟨x, hx, rfl⟩)
    · rw [List.count_eq_zero_of_not_mem hx]; exact Nat.zero_le _
  · intro h
    refine ⟨Nat.zero_le _, fun y hy => ?_⟩
    obtain ⟨x, _, rfl⟩ := List.mem_map.1 hy
    exact h x
theorem mst_snoc (P : List Int) (x : Int) : mst (P ++ [x]) = max (mst P) (P.count x + 1) := by
  have h : ∀ k, mst (P ++ [x]) ≤ k ↔ max (mst P) (P.count x + 1) ≤ k := fun k => by
    rw [mst_le, Nat.max_le, mst_le]
    constructor
    · intro h
      refine ⟨fun y => ?_, ?_⟩
      · have := h y; rw [List.count_append] at this; omega
      · have := h x; rw [List.count_append] at this; simpa using this
    · intro ⟨h1, h2⟩ y
      rw [List.count_append]
      by_cases e : x = y
      · subst e; simpa using h2
      · have := h1 y
        rw [List.count_singleton, if_neg (by simpa using e)]
        omega
  exact Nat.le_antisymm ((h _).2 (Nat.le_refl _)) ((h _).1 (Nat.le_refl _))
theorem mst_len (P : List Int) : mst P ≤ P.length := (mst_le P _).2 fun _ => List.count_le_length
theorem unl_full (P : List Int) : unl P = P.length ↔ P.Nodup := by
  induction P using snoc_ind with
  | h0 => simp [unl]
  | h1 l x ih =>
    rw [unl_snoc, List.length_append, List.length_singleton, List.nodup_append]
    have := unl_le l
    by_cases h : x ∈ l
    · rw [if_pos h]
      constructor
      · intro e; omega
      · intro ⟨_, _, e⟩; exact absurd rfl (e x h x (List.mem_singleton.2 rfl))
    · rw [if_neg h]
      constructor
      · intro e
        refine ⟨ih.1 (by omega), by simp, fun a ha b hb => ?_⟩
        rw [List.mem_singleton] at hb
        subst hb
        intro e; subst e; exact h ha
      · intro ⟨e, _⟩
        rw [ih.2 e]
theorem mst_one (P : List Int) : mst P ≤ 1 ↔ P.Nodup := by rw [mst_le, List.nodup_iff_count]
/-- The labels of the steps that have one. -/
def labs (L : List Int) (S : List Int) : List Int := S.filterMap fun s => L[s.toNat]?
/-- What the kind asks of the labels of its steps, where more come behind them. -/
def means (kind k : Int) (P : List Int) (left : Nat) : Bool :=
  if kind = 1 then decide (mst P ≤ 1) else if kind = 2 then decide (unl P ≤ 1) else if kind = 3 then decide ((mst P : Int) ≤ k) else if kind = 4 then decide ((unl P : Int) ≤ k) else decide (k ≤ (unl P : Int) + left)
/-- Can the labels still be made a row of n that keeps the rule? -/
def early (r : Rl) (n : Int) (L : List Int) : Bool := chk n r && decide ((L.length : Int) ≤ n) && means r.kind r.k (labs L r.steps) (r.steps.length - (labs L r.steps).length)
def holds (r : Rl) (L : List Int) : Bool := early r L.length L
def broken (R : List Rl) (L : List Int) : List Nat := (List.range R.length).filter fun i => match R[i]? with | some r => !holds r L | none => false
theorem labs_snoc (L S : List Int) (s : Int) : labs L (S ++ [s]) = labs L S ++ (match L[s.toNat]? with | some x => [x] | none => []) := by
  unfold labs
  rw [List.filterMap_append]
  congr 1
  cases h : L[s.toNat]? <;> simp [h]
theorem labs_len (L S : List Int) : (labs L S).length ≤ S.length := List.length_filterMap_le _ _
end Go.Proofs.YtlijlelejobchaaGreatDoor
namespace Go.Proofs.YtlijlelejobchaaGreatDoor
theorem ris_pw {n lo : Int} {S : List Int} (h : ris n lo S = true) : S.Pairwise (· < ·) := by
  induction S generalizing lo with
  | nil => exact List.Pairwise.nil
  | cons a l ih =>
    simp [ris] at h
    refine List.Pairwise.cons (fun b hb => ?_) (ih h.2)
    have := (ris_mem h.2 b hb).1
    omega
theorem labs_nil {B S : List Int} (h : ∀ s ∈ S, (B.length : Int) ≤ s) : labs B S = [] := by
  unfold labs
  rw [List.filterMap_eq_nil_iff]
  intro s hs
  have := h s hs
  exact List.getElem?_eq_none (by omega)
theorem labs_ext {B S : List Int} (x : Int) (h0 : ∀ s ∈ S, 0 ≤ s) (hp : S.Pairwise (· < ·)) : labs (B ++ [x]) S = labs B S ++ if (B.length : Int) ∈ S then [x] else [] := by
  induction S with
  | nil => simp [labs]
  | cons s S ih =>
    obtain ⟨h1, h2⟩ := List.pairwise_cons.1 hp
    have ih' := ih (fun t ht => h0 t (List.mem_cons_of_mem _ ht)) h2
    have hs0 := h0 s List.mem_cons_self
    rcases Int.lt_trichotomy s (B.length : Int) with h | h | h
    · have e1 : (B ++ [x])[s.toNat]? = B[s.toNat]? := List.getElem?_append_left (by omega)
      obtain ⟨y, hy⟩ : ∃ y, B[s.toNat]? = some y := ⟨_, List.getElem?_eq_getElem (by omega)⟩
      have a1 : labs (B ++ [x]) (s :: S) = y :: labs (B ++ [x]) S := by unfold labs; rw [List.filterMap_cons, e1, hy]
      have a2 : labs B (s :: S) = y :: labs B S := by unfold labs; rw [List.filterMap_cons, hy]
      rw [a1, a2, ih', List.cons_append]
      congr 2
      have : (B.length : Int) ≠ s := by omega
      simp [this]
    · have hS : ∀ t ∈ S, ((B ++ [x]).length : Int) ≤ t := fun t ht => by have := h1 t ht; simp; omega
      have hS' : ∀ t ∈ s :: S, (B.length : Int) ≤ t := fun t ht => by
        rcases List.mem_cons.1 ht with rfl | ht
        · omega
        · have := h1 t ht; omega
      have e1 : (B ++ [x])[s.toNat]? = some x := by rw [List.getElem?_append_right (by omega), show s.toNat - B.length = 0 by omega]; rfl
      have a1 : labs (B ++ [x]) (s :: S) = x :: labs (B ++ [x]) S := by unfold labs; rw [List.filterMap_cons, e1]
      rw [a1, labs_nil hS, labs_nil hS', if_pos (by rw [← h]; exact List.mem_cons_self)]
      rfl
    · have hS : ∀ t ∈ s :: S, ((B ++ [x]).length : Int) ≤ t := fun t ht => by
        rcases List.mem_cons.1 ht with rfl | ht
        · simp; omega
        · have := h1 t ht; simp; omega
      have hS' : ∀ t ∈ s :: S, (B.length : Int) ≤ t := fun t ht => by have := hS t ht; simp at this; omega
      rw [labs_nil hS, labs_nil hS', if_neg]
      · rfl
      · intro hm
        rcases List.mem_cons.1 hm with e | e
        · omega
        · have := h1 _ e; omega
theorem labs_mem {B S : List Int} {y : Int} (h : y ∈ labs B S) : y ∈ B := by
  unfold labs at h
  obtain ⟨s, _, hs⟩ := List.mem_filterMap.1 h
  exact List.mem_of_getElem? hs
theorem unl_mono (P : List Int) (x : Int) : unl P ≤ unl (P ++ [x]) ∧ unl (P ++ [x]) ≤ unl P + 1 := by
  rw [unl_snoc]
  split <;> omega
theorem mst_mono (P : List Int) (x : Int) : mst P ≤ mst (P ++ [x]) := by rw [mst_snoc]; omega
theorem unl_pos {P : List Int} (h : P ≠ []) : 1 ≤ unl P := by
  induction P using snoc_ind with
  | h0 => exact absurd rfl h
  | h1 l x ih =>
    rw [unl_snoc]
    by_cases e : l = []
    · subst e; simp
    · have := ih e; omega
/-- Whether labels go on: what the meaning asks of one more label, where a step is left for it. -/
theorem means_step {kind k : Int} {P : List Int} {left : Nat} {B : List Int} {z : Int} (hl : 1 ≤ left) (hP : ∀ y ∈ P, y ∈ B) (hz : z ∉ B) (hk : (kind = 1 ∨ kind = 2) ∨ (kind = 3 ∨ kind = 4 ∨ kind = 5) ∧ 1 ≤ k) :
    (means kind k P left = true ↔ (means kind k (P ++ [z]) (left - 1) = true ∨ ∃ x ∈ B, means kind k (P ++ [x]) (left - 1) = true)) := by
  have hzP : z ∉ P := fun h => hz (hP z h)
  have hcz : P.count z = 0 := List.count_eq_zero_of_not_mem hzP
  have huz : unl (P ++ [z]) = unl P + 1 := by rw [unl_snoc, if_neg hzP]
  have hmz : mst (P ++ [z]) = max (mst P) 1 := by rw [mst_snoc, hcz]
  have hsame : P ≠ [] → ∃ x ∈ B, unl (P ++ [x]) = unl P := fun h => by
    obtain ⟨y, hy⟩ := List.exists_mem_of_ne_nil P h
    exact ⟨y, hP y hy, by rw [unl_snoc, if_pos hy]; rfl⟩
  unfold means
  by_cases k1 : kind = 1
  · simp only [if_pos k1, decide_eq_true_iff]
    constructor
    · intro h; left; rw [hmz]; omega
    · rintro (h | ⟨x, _, h⟩)
      · rw [hmz] at h; omega
      · have := mst_mono P x; omega
  · simp only [if_neg k1]
    by_cases k2 : kind = 2
    · simp only [if_pos k2, decide_eq_true_iff]
      constructor
      · intro h
        by_cases e : P = []
        · left; rw [huz, e, unl_nil]; omega
        · right
          obtain ⟨x, hx, hu⟩ := hsame e
          exact ⟨x, hx, by rw [hu]; exact h⟩
      · rintro (h | ⟨x, _, h⟩)
        · omega
        · have := (unl_mono P x).1; omega
    · simp only [if_neg k2]
      have hk1 : 1 ≤ k := by omega
      by_cases k3 : kind = 3
      · simp only [if_pos k3, decide_eq_true_iff]
        constructor
        · intro h; left; rw [hmz]; omega
        · rintro (h | ⟨x, _, h⟩)
          · rw [hmz] at h; omega
          · have := mst_mono P x; omega
      · simp only [if_neg k3]
        by_cases k4 : kind = 4
        · simp only [if_pos k4, decide_eq_true_iff]
          constructor
          · intro h
            by_cases e : P = []
            · left; rw [huz, e, unl_nil]; omega
            · right
              obtain ⟨x, hx, hu⟩ := hsame e
              exact ⟨x, hx, by rw [hu]; exact h⟩
          · rintro (h | ⟨x, _, h⟩)
            · omega
            · have := (unl_mono P x).1; omega
        · simp only [if_neg k4, decide_eq_true_iff]
          constructor
          · intro h; left; rw [huz]; omega
          · rintro (h | ⟨x, _, h⟩)
            · omega
            · have := (unl_mono P x).2; omega
theorem num_k {a b : Int} {m : Nat} (h : numF a b m = true) : (a = 1 ∨ a = 2) ∨ (a = 3 ∨ a = 4 ∨ a = 5) ∧ 1 ≤ b := by
  unfold numF at h
  by_cases h1 : a = 1 ∨ a = 2
  · exact .inl h1
  · rw [if_neg h1] at h
    by_cases h2 : a = 3 ∨ a = 4
    · rw [if_pos h2] at h; simp at h; exact .inr ⟨by omega, by omega⟩
    · rw [if_neg h2] at h
      by_cases h3 : a = 5
      · rw [if_pos h3] at h; simp at h; exact .inr ⟨by omega, by omega⟩
      · rw [if_neg h3] at h; cases h
/-- A beginning is early just if one of its goings on by one label is. -/
theorem early_step {r : Rl} {n : Int} {B : List Int} {z : Int} (hc : chk n r = true) (hn : (B.length : Int) < n) (hz : z ∉ B) :
    (early r n B = true ↔ (early r n (B ++ [z]) = true ∨ ∃ x ∈ B, early r n (B ++ [x]) = true)) := by
  have hris : ris n 0 r.steps = true := by simp [chk] at hc; exact hc.1.2
  have hnum : numF r.kind r.k r.steps.length = true := by simp [chk] at hc; exact hc.2
  have h0 : ∀ s ∈ r.steps, 0 ≤ s := fun s hs => (ris_mem hris s hs).1
  have hp := ris_pw hris
  have hE : ∀ x, early r n (B ++ [x]) = means r.kind r.k (labs (B ++ [x]) r.steps) (r.steps.length - (labs (B ++ [x]) r.steps).length) := fun x => by
    unfold early
    rw [hc, decide_eq_true (by simp; omega)]; rfl
  have hE0 : early r n B = means r.kind r.k (labs B r.steps) (r.steps.length - (labs B r.steps).length) := by
    unfold early
    rw [hc, decide_eq_true (by omega)]; rfl
  simp only [hE, hE0]
  by_cases hm : (B.length : Int) ∈ r.steps
  · have hx : ∀ x, labs (B ++ [x]) r.steps = labs B r.steps ++ [x] := fun x => by rw [labs_ext x h0 hp, if_pos hm]
    have hlt : (labs B r.steps).length + 1 ≤ r.steps.length := by
      have := labs_len (B ++ [z]) r.steps
      rw [hx, List.length_append, List.length_singleton] at this
      exact this
    simp only [hx, List.length_append, List.length_singleton]
    rw [show r.steps.length - ((labs B r.steps).length + 1) = r.steps.length - (labs B r.steps).length - 1 by omega]
    exact means_step (by omega) (fun y hy => labs_mem hy) hz (num_k hnum)
  · have hx : ∀ x, labs (B ++ [x]) r.steps = labs B r.steps := fun x => by rw [labs_ext x h0 hp, if_neg hm, List.append_nil]
    simp only [hx]
    constructor
    · intro h; exact .inl h
    · rintro (h | ⟨_, _, h⟩) <;> exact h
end Go.Proofs.YtlijlelejobchaaGreatDoor
