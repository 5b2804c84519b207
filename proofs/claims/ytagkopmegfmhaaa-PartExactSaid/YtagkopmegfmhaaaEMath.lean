/- Rows that are patterns or not; a pattern made place by place, as the document makes it: plain facts. -/
import Derived.Test.YtagkopmegfmhaaaPFn
import Derived.Test.YtagkopmegfmhaaaPKer
import Derived.Test.YtagkopmegfmhaaaPJoin
import Derived.Test.YtagkopmegfmhaaaPMrg
namespace Go.Proofs.Ytagkopmegfmhaaa
/-- Does a row of whole numbers go on as a pattern, where b blocks are there? -/
def legB : Nat → List Int → Bool
  | _, [] => true
  | b, z :: r => decide (0 ≤ z) && decide (z ≤ (b : Int)) && legB (max b (z.toNat + 1)) r
theorem legB_ints {b : Nat} {m : List Nat} (h : Leg b m) : legB b (ints m) = true := by
  induction m generalizing b with
  | nil => rfl
  | cons x m ih =>
    have h2 := ih h.2
    show (decide (0 ≤ (x : Int)) && decide ((x : Int) ≤ (b : Int)) && legB (max b ((x : Int).toNat + 1)) (ints m)) = true
    rw [Int.toNat_natCast, h2, decide_eq_true (by omega), decide_eq_true (by have := h.1; omega)]
    rfl
theorem legB_ex {b : Nat} {l : List Int} (h : legB b l = true) : ∃ m, l = ints m ∧ Leg b m := by
  induction l generalizing b with
  | nil => exact ⟨[], rfl, trivial⟩
  | cons z l ih =>
    simp only [legB, Bool.and_eq_true, decide_eq_true_eq] at h
    obtain ⟨m, e, hm⟩ := ih h.2
    refine ⟨z.toNat :: m, ?_, by omega, hm⟩
    rw [e]
    show z :: ints m = ((z.toNat : Nat) : Int) :: ints m
    rw [Int.toNat_of_nonneg h.1.1]
/-- Is it a pattern? -/
def Lg (l : List Int) : Bool := decide (l.length ≤ 25) && legB 0 l
theorem Lg.ex {l : List Int} (h : Lg l = true) : ∃ m, l = ints m ∧ Leg 0 m ∧ m.length ≤ 25 := by
  unfold Lg at h
  rw [Bool.and_eq_true, decide_eq_true_eq] at h
  obtain ⟨m, e, hm⟩ := legB_ex h.2
  refine ⟨m, e, hm, ?_⟩
  rw [e, ints_len] at h
  exact h.1
theorem Lg.ints {m : List Nat} (h : Leg 0 m) (hm : m.length ≤ 25) : Lg (ints m) = true := by
  unfold Lg
  rw [legB_ints h, ints_len, decide_eq_true hm]; rfl
theorem legB_at {b : Nat} {l : List Int} {c : Nat} {z : Int} (hz : l[c]? = some z) : legB b (l.drop c) = (decide (0 ≤ z) && decide (z ≤ (b : Int)) && legB (max b (z.toNat + 1)) (l.drop (c + 1))) := by
  have : l.drop c = z :: l.drop (c + 1) := by
    obtain ⟨h1, h2⟩ := List.getElem?_eq_some_iff.1 hz
    rw [← h2]; exact List.drop_eq_getElem_cons h1
  rw [this]; rfl
theorem snoc_indE {p : List Int → Prop} (h0 : p []) (h1 : ∀ l x, p l → p (l ++ [x])) : ∀ l, p l := by
  intro l
  rw [← List.reverse_reverse l]
  induction l.reverse with
  | nil => exact h0
  | cons a t ih => rw [List.reverse_cons]; exact h1 _ _ ih
def cellsZ (A : Nat → Int) (m : Nat) : List Value := (List.range m).map fun b => .int .i64 (A b)
theorem cellsZ_len (A : Nat → Int) (m : Nat) : (cellsZ A m).length = m := by simp [cellsZ]
theorem cellsZ_at (A : Nat → Int) {m b : Nat} (h : b < m) : (cellsZ A m)[b]? = some (.int .i64 (A b)) := by simp [cellsZ, h]
theorem cellsZ_none (A : Nat → Int) {m b : Nat} (h : ¬ b < m) : (cellsZ A m)[b]? = none := List.getElem?_eq_none (by rw [cellsZ_len]; omega)
theorem cellsZ_set (A : Nat → Int) (m x : Nat) (q : Int) : (cellsZ A m).set x (.int .i64 q) = cellsZ (fun b => if b = x then q else A b) m := by
  refine List.ext_getElem? fun b => ?_
  rw [List.getElem?_set, cellsZ_len]
  by_cases hb : b < m
  · rw [cellsZ_at (fun b => if b = x then q else A b) hb]
    by_cases e : x = b
    · subst e; rw [if_pos rfl, if_pos hb, if_pos rfl]
    · rw [if_neg e, cellsZ_at A hb, if_neg (Ne.symm e)]
  · rw [cellsZ_none (fun b => if b = x then q else A b) hb]
    by_cases e : x = b
    · subst e; rw [if_pos rfl, if_neg hb]
    · rw [if_neg e, cellsZ_none A hb]
theorem cellsZ_zero (m : Nat) : List.replicate m (Value.int .i64 0) = cellsZ (fun _ => 0) m := by
  refine List.ext_getElem? fun b => ?_
  by_cases hb : b < m
  · rw [cellsZ_at _ hb, List.getElem?_replicate, if_pos hb]
  · rw [cellsZ_none _ hb, List.getElem?_replicate, if_neg hb]
/-- How many unlike labels stand ahead of a place. -/
def dN (L : List Int) (i : Nat) : Nat := (distG [] (L.take i)).length
/-- The pattern's number of a place. -/
def pN (L : List Int) (i : Nat) : Nat := (pat L).getD i 0
theorem mem_dist_iff (M l : List Int) (z : Int) : z ∈ distG M l ↔ z ∈ M ∨ z ∈ l := by
  induction l using snoc_indE with
  | h0 => simp [distG]
  | h1 l x ih =>
    rw [distG_snoc]
    by_cases h : x ∈ distG M l
    · rw [if_pos h, ih, List.mem_append, List.mem_singleton]
      constructor
      · rintro (h | h)
        · exact .inl h
        · exact .inr (.inl h)
      · rintro (h1 | h1 | h1)
        · exact .inl h1
        · exact .inr h1
        · subst h1; exact ih.1 h
    · rw [if_neg h, List.mem_append, ih, List.mem_append]
      constructor
      · rintro ((h | h) | h)
        · exact .inl h
        · exact .inr (.inl h)
        · exact .inr (.inr h)
      · rintro (h1 | h1 | h1)
        · exact .inl (.inl h1)
        · exact .inl (.inr h1)
        · exact .inr h1
theorem patG_app (M l r : List Int) : ∃ s, patG M (l ++ r) = patG M l ++ s := by
  induction r using snoc_indE with
  | h0 => exact ⟨[], by simp⟩
  | h1 r x ih =>
    obtain ⟨s, hs⟩ := ih
    rw [← List.append_assoc, patG_snoc, hs]
    exact ⟨s ++ [(distG M (l ++ r)).idxOf x], by rw [List.append_assoc]⟩
theorem pN_eq {L : List Int} {i : Nat} {t : Int} (h : L[i]? = some t) : pN L i = (distG [] (L.take i)).idxOf t := by
  have hi := (List.getElem?_eq_some_iff.1 h).1
  have hT : L.take (i + 1) = L.take i ++ [t] := by rw [List.take_add_one, h]; rfl
  obtain ⟨s, hs⟩ := patG_app [] (L.take (i + 1)) (L.drop (i + 1))
  rw [List.take_append_drop, hT, patG_snoc] at hs
  have hl : (patG [] (L.take i)).length = i := by rw [patG_len, List.length_take]; omega
  unfold pN pat
  rw [hs, List.getD_eq_getElem?_getD, List.append_assoc, List.getElem?_append_right (by omega), hl, Nat.sub_self]
  rfl
theorem dN_succ {L : List Int} {i : Nat} {t : Int} (h : L[i]? = some t) : dN L (i + 1) = if t ∈ distG [] (L.take i) then dN L i else dN L i + 1 := by
  unfold dN
  rw [List.take_add_one, h, show (some t).toList = [t] from rfl, distG_snoc]
  split
  · rfl
  · rw [List.length_append]; rfl
theorem seen_iff {L : List Int} {i : Nat} {t : Int} : t ∈ distG [] (L.take i) ↔ ∃ k, k < i ∧ L[k]? = some t := by
  rw [mem_dist_iff]
  constructor
  · rintro (h | h)
    · cases h
    · obtain ⟨k, hk⟩ := List.getElem?_of_mem h
      rw [List.getElem?_take] at hk
      by_cases hki : k < i
      · rw [if_pos hki] at hk; exact ⟨k, hki, hk⟩
      · rw [if_neg hki] at hk; cases hk
  · rintro ⟨k, hk, h⟩
    exact .inr (List.mem_of_getElem? (i := k) (by rw [List.getElem?_take, if_pos hk, h]))
theorem idx_none {D : List Int} {x : Int} (h : x ∉ D) : D.idxOf x = D.length := by
  induction D with
  | nil => rfl
  | cons a l ih =>
    rw [List.mem_cons] at h
    have ha : ¬ a = x := fun e => h (.inl e.symm)
    rw [List.idxOf_cons, show (a == x) = false by simpa using ha]
    simp [ih fun hx => h (.inr hx)]
theorem dN_le (L : List Int) (i : Nat) : dN L i ≤ i := by
  unfold dN
  have := distG_len [] (L.take i)
  rw [List.length_take] at this
  simp at this
  omega
theorem new_place {L : List Int} {i : Nat} {t : Int} (h : L[i]? = some t) (hn : ∀ k, k < i → L[k]? ≠ some t) : pN L i = dN L i ∧ dN L (i + 1) = dN L i + 1 := by
  have hm : t ∉ distG [] (L.take i) := fun hm => by
    obtain ⟨k, hk, e⟩ := seen_iff.1 hm
    exact hn k hk e
  rw [pN_eq h, idx_none hm, dN_succ h, if_neg hm]
  exact ⟨rfl, rfl⟩
theorem old_place {L : List Int} {i k : Nat} {t : Int} (h : L[i]? = some t) (hk : k < i) (hkt : L[k]? = some t) : pN L k = pN L i ∧ dN L (i + 1) = dN L i := by
  have hm : t ∈ distG [] (L.take i) := seen_iff.2 ⟨k, hk, hkt⟩
  rw [dN_succ h, if_pos hm]
  refine ⟨?_, rfl⟩
  have := (pat_ker hkt h).2 rfl
  unfold pN
  rw [List.getD_eq_getElem?_getD, List.getD_eq_getElem?_getD, this]
/-- What stands at the place i behind k rounds. -/
def xN (L : List Int) (i : Nat) : Nat → Int
  | 0 => -1
  | k + 1 => if L[k]? = L[i]? then (pN L i : Int) else xN L i k
theorem xN_val (L : List Int) (i k : Nat) : (∃ j, j < k ∧ L[j]? = L[i]?) ∧ xN L i k = (pN L i : Int) ∨ (∀ j, j < k → L[j]? ≠ L[i]?) ∧ xN L i k = -1 := by
  induction k with
  | zero => right; exact ⟨fun j hj => by omega, rfl⟩
  | succ k ih =>
    rw [xN]
    by_cases h : L[k]? = L[i]?
    · rw [if_pos h]; left; exact ⟨⟨k, by omega, h⟩, rfl⟩
    · rw [if_neg h]
      rcases ih with ⟨⟨j, hj, e⟩, h2⟩ | ⟨h1, h2⟩
      · left; exact ⟨⟨j, by omega, e⟩, h2⟩
      · right
        refine ⟨fun j hj => ?_, h2⟩
        by_cases e : j = k
        · subst e; exact h
        · exact h1 j (by omega)
def outR (L : List Int) (i a : Nat) : Int := if a < i then (pN L a : Int) else 0
def inR (L : List Int) (i : Nat) (x : Int) (a : Nat) : Int := if a = i then x else outR L i a
theorem inR_set (L : List Int) (i : Nat) (x y : Int) : (fun b => if b = i then y else inR L i x b) = inR L i y := by
  funext b
  unfold inR
  by_cases e : b = i
  · rw [if_pos e, if_pos e]
  · rw [if_neg e, if_neg e, if_neg e]
theorem inR_first (L : List Int) (i : Nat) (y : Int) : (fun b => if b = i then y else outR L i b) = inR L i y := rfl
theorem inR_last (L : List Int) (i : Nat) : inR L i (pN L i) = outR L (i + 1) := by
  funext b
  unfold inR outR
  by_cases e : b = i
  · subst e; rw [if_pos rfl, if_pos (by omega)]
  · rw [if_neg e]
    by_cases h : b < i
    · rw [if_pos h, if_pos (by omega)]
    · rw [if_neg h, if_neg (by omega)]
theorem outR_all {L : List Int} {n : Nat} (hn : L.length = n) : cellsZ (outR L n) n = cellsI (ints (pat L)) := by
  refine List.ext_getElem? fun b => ?_
  have hl : (pat L).length = n := by rw [pat_len, hn]
  by_cases hb : b < n
  · rw [cellsZ_at _ hb]
    have e : (pat L)[b]? = some (pN L b) := by
      unfold pN
      rw [List.getD_eq_getElem?_getD, List.getElem?_eq_getElem (by omega)]; rfl
    unfold cellsI
    rw [List.getElem?_map, ints_at e, outR, if_pos hb]; rfl
  · rw [cellsZ_none _ hb]
    symm
    rw [List.getElem?_eq_none_iff]
    unfold cellsI
    rw [List.length_map, ints_len]; omega
end Go.Proofs.Ytagkopmegfmhaaa
