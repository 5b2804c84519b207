/- Labels that go on by one: plain facts. -/
import Derived.Test.YtnlpbhoilalgnaaRMath
namespace Go.Proofs.Ytnlpbhoilalgnaa
theorem ris_pw {n lo : Int} {S : List Int} (h : ris n lo S = true) : S.Pairwise (· < ·) := by
  induction S generalizing lo with
  | nil => exact List.Pairwise.nil
  | cons a l ih =>
    simp [ris] at h
    refine List.Pairwise.cons (fun b hb => ?_) (ih h.2)
    have := (ris_mem h.2 b hb).1
    omega
theorem labs_nil {B S : List Int} (h : ∀ s ∈ S, (B.length : Int) ≤ s) : labs B S = [] := by
  unfold labs
  rw [List.filterMap_eq_nil_iff]
  intro s hs
  have := h s hs
  exact List.getElem?_eq_none (by omega)
theorem labs_ext {B S : List Int} (x : Int) (h0 : ∀ s ∈ S, 0 ≤ s) (hp : S.Pairwise (· < ·)) : labs (B ++ [x]) S = labs B S ++ if (B.length : Int) ∈ S then [x] else [] := by
  induction S with
  | nil => simp [labs]
  | cons s S ih =>
    obtain ⟨h1, h2⟩ := List.pairwise_cons.1 hp
    have ih' := ih (fun t ht => h0 t (List.mem_cons_of_mem _ ht)) h2
    have hs0 := h0 s List.mem_cons_self
    rcases Int.lt_trichotomy s (B.length : Int) with h | h | h
    · have e1 : (B ++ [x])[s.toNat]? = B[s.toNat]? := List.getElem?_append_left (by omega)
      obtain ⟨y, hy⟩ : ∃ y, B[s.toNat]? = some y := ⟨_, List.getElem?_eq_getElem (by omega)⟩
      have a1 : labs (B ++ [x]) (s :: S) = y :: labs (B ++ [x]) S := by unfold labs; rw [List.filterMap_cons, e1, hy]
      have a2 : labs B (s :: S) = y :: labs B S := by unfold labs; rw [List.filterMap_cons, hy]
      rw [a1, a2, ih', List.cons_append]
      congr 2
      have : (B.length : Int) ≠ s := by omega
      simp [this]
    · have hS : ∀ t ∈ S, ((B ++ [x]).length : Int) ≤ t := fun t ht => by have := h1 t ht; simp; omega
      have hS' : ∀ t ∈ s :: S, (B.length : Int) ≤ t := fun t ht => by
        rcases List.mem_cons.1 ht with rfl | ht
        · omega
        · have := h1 t ht; omega
      have e1 : (B ++ [x])[s.toNat]? = some x := by rw [List.getElem?_append_right (by omega), show s.toNat - B.length = 0 by omega]; rfl
      have a1 : labs (B ++ [x]) (s :: S) = x :: labs (B ++ [x]) S := by unfold labs; rw [List.filterMap_cons, e1]
      rw [a1, labs_nil hS, labs_nil hS', if_pos (by rw [← h]; exact List.mem_cons_self)]
      rfl
    · have hS : ∀ t ∈ s :: S, ((B ++ [x]).length : Int) ≤ t := fun t ht => by
        rcases List.mem_cons.1 ht with rfl | ht
        · simp; omega
        · have := h1 t ht; simp; omega
      have hS' : ∀ t ∈ s :: S, (B.length : Int) ≤ t := fun t ht => by have := hS t ht; simp at this; omega
      rw [labs_nil hS, labs_nil hS', if_neg]
      · rfl
      · intro hm
        rcases List.mem_cons.1 hm with e | e
        · omega
        · have := h1 _ e; omega
theorem labs_mem {B S : List Int} {y : Int} (h : y ∈ labs B S) : y ∈ B := by
  unfold labs at h
  obtain ⟨s, _, hs⟩ := List.mem_filterMap.1 h
  exact List.mem_of_getElem? hs
theorem unl_mono (P : List Int) (x : Int) : unl P ≤ unl (P ++ [x]) ∧ unl (P ++ [x]) ≤ unl P + 1 := by
  rw [unl_snoc]
  split <;> omega
theorem mst_mono (P : List Int) (x : Int) : mst P ≤ mst (P ++ [x]) := by rw [mst_snoc]; omega
theorem unl_pos {P : List Int} (h : P ≠ []) : 1 ≤ unl P := by
  induction P using snoc_ind with
  | h0 => exact absurd rfl h
  | h1 l x ih =>
    rw [unl_snoc]
    by_cases e : l = []
    · subst e; simp
    · have := ih e; omega
/-- Whether labels go on: what the meaning asks of one more label, where a step is left for it. -/
theorem means_step {kind k : Int} {P : List Int} {left : Nat} {B : List Int} {z : Int} (hl : 1 ≤ left) (hP : ∀ y ∈ P, y ∈ B) (hz : z ∉ B) (hk : (kind = 1 ∨ kind = 2) ∨ (kind = 3 ∨ kind = 4 ∨ kind = 5) ∧ 1 ≤ k) :
    (means kind k P left = true ↔ (means kind k (P ++ [z]) (left - 1) = true ∨ ∃ x ∈ B, means kind k (P ++ [x]) (left - 1) = true)) := by
  have hzP : z ∉ P := fun h => hz (hP z h)
  have hcz : P.count z = 0 := List.count_eq_zero_of_not_mem hzP
  have huz : unl (P ++ [z]) = unl P + 1 := by rw [unl_snoc, if_neg hzP]
  have hmz : mst (P ++ [z]) = max (mst P) 1 := by rw [mst_snoc, hcz]
  have hsame : P ≠ [] → ∃ x ∈ B, unl (P ++ [x]) = unl P := fun h => by
    obtain ⟨y, hy⟩ := List.exists_mem_of_ne_nil P h
    exact ⟨y, hP y hy, by rw [unl_snoc, if_pos hy]; rfl⟩
  unfold means
  by_cases k1 : kind = 1
  · simp only [if_pos k1, decide_eq_true_iff]
    constructor
    · intro h; left; rw [hmz]; omega
    · rintro (h | ⟨x, _, h⟩)
      · rw [hmz] at h; omega
      · have := mst_mono P x; omega
  · simp only [if_neg k1]
    by_cases k2 : kind = 2
    · simp only [if_pos k2, decide_eq_true_iff]
      constructor
      · intro h
        by_cases e : P = []
        · left; rw [huz, e, unl_nil]; omega
        · right
          obtain ⟨x, hx, hu⟩ := hsame e
          exact ⟨x, hx, by rw [hu]; exact h⟩
      · rintro (h | ⟨x, _, h⟩)
        · omega
        · have := (unl_mono P x).1; omega
    · simp only [if_neg k2]
      have hk1 : 1 ≤ k := by omega
      by_cases k3 : kind = 3
      · simp only [if_pos k3, decide_eq_true_iff]
        constructor
        · intro h; left; rw [hmz]; omega
        · rintro (h | ⟨x, _, h⟩)
          · rw [hmz] at h; omega
          · have := mst_mono P x; omega
      · simp only [if_neg k3]
        by_cases k4 : kind = 4
        · simp only [if_pos k4, decide_eq_true_iff]
          constructor
          · intro h
            by_cases e : P = []
            · left; rw [huz, e, unl_nil]; omega
            · right
              obtain ⟨x, hx, hu⟩ := hsame e
              exact ⟨x, hx, by rw [hu]; exact h⟩
          · rintro (h | ⟨x, _, h⟩)
            · omega
            · have := (unl_mono P x).1; omega
        · simp only [if_neg k4, decide_eq_true_iff]
          constructor
          · intro h; left; rw [huz]; omega
          · rintro (h | ⟨x, _, h⟩)
            · omega
            · have := (unl_mono P x).2; omega
theorem num_k {a b : Int} {m : Nat} (h : numF a b m = true) : (a = 1 ∨ a = 2) ∨ (a = 3 ∨ a = 4 ∨ a = 5) ∧ 1 ≤ b := by
  unfold numF at h
  by_cases h1 : a = 1 ∨ a = 2
  · exact .inl h1
  · rw [if_neg h1] at h
    by_cases h2 : a = 3 ∨ a = 4
    · rw [if_pos h2] at h; simp at h; exact .inr ⟨by omega, by omega⟩
    · rw [if_neg h2] at h
      by_cases h3 : a = 5
      · rw [if_pos h3] at h; simp at h; exact .inr ⟨by omega, by omega⟩
      · rw [if_neg h3] at h; cases h
/-- A beginning is early just if one of its goings on by one label is. -/
theorem early_step {r : Rl} {n : Int} {B : List Int} {z : Int} (hc : chk n r = true) (hn : (B.length : Int) < n) (hz : z ∉ B) :
    (early r n B = true ↔ (early r n (B ++ [z]) = true ∨ ∃ x ∈ B, early r n (B ++ [x]) = true)) := by
  have hris : ris n 0 r.steps = true := by simp [chk] at hc; exact hc.1.2
  have hnum : numF r.kind r.k r.steps.length = true := by simp [chk] at hc; exact hc.2
  have h0 : ∀ s ∈ r.steps, 0 ≤ s := fun s hs => (ris_mem hris s hs).1
  have hp := ris_pw hris
  have hE : ∀ x, early r n (B ++ [x]) = means r.kind r.k (labs (B ++ [x]) r.steps) (r.steps.length - (labs (B ++ [x]) r.steps).length) := fun x => by
    unfold early
    rw [hc, decide_eq_true (by simp; omega)]; rfl
  have hE0 : early r n B = means r.kind r.k (labs B r.steps) (r.steps.length - (labs B r.steps).length) := by
    unfold early
    rw [hc, decide_eq_true (by omega)]; rfl
  simp only [hE, hE0]
  by_cases hm : (B.length : Int) ∈ r.steps
  · have hx : ∀ x, labs (B ++ [x]) r.steps = labs B r.steps ++ [x] := fun x => by rw [labs_ext x h0 hp, if_pos hm]
    have hlt : (labs B r.steps).length + 1 ≤ r.steps.length := by
      have := labs_len (B ++ [z]) r.steps
      rw [hx, List.length_append, List.length_singleton] at this
      exact this
    simp only [hx, List.length_append, List.length_singleton]
    rw [show r.steps.length - ((labs B r.steps).length + 1) = r.steps.length - (labs B r.steps).length - 1 by omega]
    exact means_step (by omega) (fun y hy => labs_mem hy) hz (num_k hnum)
  · have hx : ∀ x, labs (B ++ [x]) r.steps = labs B r.steps := fun x => by rw [labs_ext x h0 hp, if_neg hm, List.append_nil]
    simp only [hx]
    constructor
    · intro h; exact .inl h
    · rintro (h | ⟨_, _, h⟩) <;> exact h
end Go.Proofs.Ytnlpbhoilalgnaa
