/- At each turn the ready one of least priority: plain facts. -/
import Derived.Test.YtjimiabfgmchiaaDoorOLawM
import Derived.Test.YtjimiabfgmchiaaDoorJ37
namespace Go.Proofs.YtjimiabfgmchiaaDoor
section
variable (n : Nat) (R : Nat → Nat → Bool) (p : Nat → Int)
/-- The ready place that comes next. -/
def Pk (D a : Nat) : Prop := rdy n R D a ∧ ∀ b, rdy n R D b → ¬ (p b < p a ∨ (p b = p a ∧ b < a))
theorem Pk.uniq {D a b : Nat} (ha : Pk n R p D a) (hb : Pk n R p D b) : a = b := by
  have h1 := ha.2 b hb.1
  have h2 := hb.2 a ha.1
  omega
open Classical in
noncomputable def pkF (D : Nat) : Nat := if h : ∃ a, Pk n R p D a then Classical.choose h else 0
theorem pkF_eq {D a : Nat} (h : Pk n R p D a) : pkF n R p D = a := by
  unfold pkF
  have he : ∃ a, Pk n R p D a := ⟨a, h⟩
  rw [dif_pos he]
  exact Pk.uniq n R p (Classical.choose_spec he) h
/-- What is done behind so many turns. -/
noncomputable def dK : Nat → Nat
  | 0 => 0
  | c + 1 => dK c ||| 2 ^ (pkF n R p (dK c))
/-- The row of so many turns. -/
noncomputable def lK : Nat → List Nat
  | 0 => []
  | c + 1 => lK c ++ [pkF n R p (dK n R p c)]
theorem lK_len (c : Nat) : (lK n R p c).length = c := by
  induction c with
  | zero => rfl
  | succ c ih => rw [lK, List.length_append, ih]; rfl
end
/-- None stands twice. -/
def NoD (l : List (Fin 64)) : Prop := ∀ i j, i < l.length → j < l.length → l.getD i 0 = l.getD j 0 → i = j
/-- A list of places of which each is ready, and none twice. -/
def LRd (n : Nat) (R : Nat → Nat → Bool) (D : Nat) (l : List (Fin 64)) : Prop := NoD l ∧ ∀ a : Fin 64, a ∈ l ↔ rdy n R D a.val
def lst (p : Nat → Int) (l : List (Fin 64)) (k : Nat) : Ent := entP p (l.getD k 0)
theorem ext_lst (p : Nat → Int) (l l2 : List (Fin 64)) : SameE (l ++ l2).length (lst p (l ++ l2)) (ext (lst p l) l.length p l2) := by
  refine ⟨id, id, fun k hk => ⟨hk, ?_, rfl⟩, fun _ hk => ⟨hk, rfl⟩⟩
  show ext (lst p l) l.length p l2 k = lst p (l ++ l2) k
  unfold ext lst
  by_cases e : k < l.length
  · rw [if_pos e]
    congr 1
    rw [List.getD_eq_getElem?_getD, List.getD_eq_getElem?_getD, List.getElem?_append_left e]
  · rw [if_neg e]
    congr 1
    rw [List.getD_eq_getElem?_getD, List.getD_eq_getElem?_getD, List.getElem?_append_right (by omega)]
theorem getD_atV {l : List (Fin 64)} {k : Nat} (h : k < l.length) : l[k]? = some (l.getD k 0) := by rw [List.getD_eq_getElem?_getD, List.getElem?_eq_getElem h]; rfl
theorem mem_at {l : List (Fin 64)} {b : Fin 64} (h : b ∈ l) : ∃ j, j < l.length ∧ l.getD j 0 = b := by
  obtain ⟨j, hj⟩ := List.getElem?_of_mem h
  exact ⟨j, (List.getElem?_eq_some_iff.1 hj).1, by rw [List.getD_eq_getElem?_getD, hj]; rfl⟩
theorem at_mem {l : List (Fin 64)} {j : Nat} (h : j < l.length) : l.getD j 0 ∈ l := List.mem_of_getElem? (getD_atV h)
theorem NoD.app {l m : List (Fin 64)} (hl : NoD l) (hm : NoD m) (hd : ∀ a, a ∈ l → a ∉ m) : NoD (l ++ m) := by
  have e : ∀ i, i < (l ++ m).length → (l ++ m).getD i 0 = if i < l.length then l.getD i 0 else m.getD (i - l.length) 0 := fun i hi => by
    by_cases h : i < l.length
    · rw [if_pos h, List.getD_eq_getElem?_getD, List.getD_eq_getElem?_getD, List.getElem?_append_left h]
    · rw [if_neg h, List.getD_eq_getElem?_getD, List.getD_eq_getElem?_getD, List.getElem?_append_right (by omega)]
  intro i j hi hj h
  rw [e i hi, e j hj] at h
  rw [List.length_append] at hi hj
  by_cases h1 : i < l.length
  · by_cases h2 : j < l.length
    · rw [if_pos h1, if_pos h2] at h; exact hl i j h1 h2 h
    · rw [if_pos h1, if_neg h2] at h
      exact absurd (by rw [h]; exact at_mem (by omega)) (hd _ (at_mem h1))
  · by_cases h2 : j < l.length
    · rw [if_neg h1, if_pos h2] at h
      exact absurd (by rw [← h]; exact at_mem (by omega)) (hd _ (at_mem h2))
    · rw [if_neg h1, if_neg h2] at h
      have := hm _ _ (by omega) (by omega) h
      omega
theorem NoD.nums (x : Nat) : NoD (nums x) := fun i j hi hj h => by
  have hs := sorted_nums x
  rw [List.pairwise_iff_getElem] at hs
  have h1 := getD_atV hi
  have h2 := getD_atV hj
  obtain ⟨_, e1⟩ := List.getElem?_eq_some_iff.1 h1
  obtain ⟨_, e2⟩ := List.getElem?_eq_some_iff.1 h2
  rcases Nat.lt_trichotomy i j with h3 | h3 | h3
  · have := hs i j hi hj h3
    rw [e1, e2, h] at this
    exact absurd this (Fin.lt_irrefl _)
  · exact h3
  · have := hs j i hj hi h3
    rw [e1, e2, h] at this
    exact absurd this (Fin.lt_irrefl _)
/-- What is left when the least is taken. -/
theorem pop_list {n : Nat} {R : Nat → Nat → Bool} {p : Nat → Int} {D m : Nat} {l : List (Fin 64)} {g' : Nat → Ent} {x : Ent} (hn : n ≤ 64) (hL : LRd n R D l) (hm : l.length = m + 1) (hs : SameE (m + 1) (lst p l) (addE g' m x)) (hmin : ∀ k, k < m + 1 → ¬ ltE (lst p l k) x) :
    ∃ (a : Fin 64) (l' : List (Fin 64)), x.turn = (a.val : Int) ∧ Pk n R p D a.val ∧ l'.length = m ∧ SameE m (lst p l') g' ∧ NoD l' ∧ ∀ b, b ∈ l' ↔ (b ∈ l ∧ b ≠ a) := by
  obtain ⟨s, t, h1, h2⟩ := hs
  obtain ⟨a1, a2, a3⟩ := h1 m (by omega)
  rw [addE_n] at a2
  have hsk : ∀ k, k < m → s k < m + 1 ∧ g' k = lst p l (s k) ∧ t (s k) = k := fun k hk => by
    obtain ⟨b1, b2, b3⟩ := h1 k (by omega)
    rw [addE_o g' x (by omega)] at b2
    exact ⟨b1, b2, b3⟩
  refine ⟨l.getD (s m) 0, (List.range m).map fun k => l.getD (s k) 0, ?_, ⟨?_, fun b hb => ?_⟩, by simp, ⟨id, id, fun k hk => ⟨hk, ?_, rfl⟩, fun _ hk => ⟨hk, rfl⟩⟩, ?_, fun b => ?_⟩
  · rw [a2]; rfl
  · exact (hL.2 _).1 (List.mem_of_getElem? (getD_atV (by omega)))
  · have hb64 : b < 64 ∨ ¬ b < 64 := by omega
    rcases hb64 with h64 | h64
    · have hbl := (hL.2 ⟨b, h64⟩).2 hb
      obtain ⟨j, hj⟩ := List.getElem?_of_mem hbl
      have hjl := (List.getElem?_eq_some_iff.1 hj).1
      have := hmin j (by omega)
      have e1 : l.getD j 0 = ⟨b, h64⟩ := by rw [List.getD_eq_getElem?_getD, hj]; rfl
      rw [a2] at this
      unfold lst entP ltE at this
      rw [e1] at this
      simp only at this
      omega
    · exact absurd hb.1 (by omega)
  · show g' k = lst p ((List.range m).map fun k => l.getD (s k) 0) k
    rw [(hsk k hk).2.1]
    unfold lst
    congr 1
    rw [List.getD_eq_getElem?_getD (l := (List.range m).map _), List.getElem?_map, List.getElem?_range hk]
    rfl
  · have e : ∀ k, k < m → ((List.range m).map fun k => l.getD (s k) 0).getD k 0 = l.getD (s k) 0 := fun k hk => by
      rw [List.getD_eq_getElem?_getD, List.getElem?_map, List.getElem?_range hk]; rfl
    intro i j hi hj h
    rw [List.length_map, List.length_range] at hi hj
    rw [e i hi, e j hj] at h
    have := hL.1 (s i) (s j) (by have := (hsk i hi).1; omega) (by have := (hsk j hj).1; omega) h
    rw [← (hsk i hi).2.2, ← (hsk j hj).2.2, this]
  · constructor
    · intro hb
      obtain ⟨k, hk, rfl⟩ := List.mem_map.1 hb
      rw [List.mem_range] at hk
      refine ⟨at_mem (by have := (hsk k hk).1; omega), fun e => ?_⟩
      have := hL.1 (s k) (s m) (by have := (hsk k hk).1; omega) (by omega) e
      have h5 := (hsk k hk).2.2
      rw [this, a3] at h5
      omega
    · rintro ⟨hb, hne⟩
      obtain ⟨j, hj, rfl⟩ := mem_at hb
      obtain ⟨c1, c2⟩ := h2 j (by omega)
      by_cases e : t j = m
      · rw [e] at c2; rw [← c2] at hne; exact absurd rfl hne
      · exact List.mem_map.2 ⟨t j, List.mem_range.2 (by omega), by rw [c2]⟩
/-- What is ready behind one more. -/
theorem ready_next {n : Nat} {R : Nat → Nat → Bool} {Pf Sf : Nat → Nat} (h : Ord n R Pf Sf) {D : Nat} {a : Fin 64} (ha : rdy n R D a.val) {l l' : List (Fin 64)} (hL : LRd n R D l) (hN : NoD l') (hl : ∀ b, b ∈ l' ↔ (b ∈ l ∧ b ≠ a)) (hD' : D ||| 2 ^ a.val < 18446744073709551616) :
    LRd n R (D ||| 2 ^ a.val) (l' ++ nums (Sf a.val &&& rdW n Pf (D ||| 2 ^ a.val))) := by
  have hbit : ∀ b : Nat, (D ||| 2 ^ a.val).testBit b = (D.testBit b || decide (a.val = b)) := fun b => by rw [Nat.testBit_or, Nat.testBit_two_pow]
  have hmem : ∀ b : Fin 64, b ∈ nums (Sf a.val &&& rdW n Pf (D ||| 2 ^ a.val)) ↔ (R a.val b.val = true ∧ rdy n R (D ||| 2 ^ a.val) b.val) := fun b => by
    rw [mem_nums, Nat.testBit_and, Bool.and_eq_true, h.suc a.val ha.1, h.rdW_bits hD']
  have hold : ∀ b : Fin 64, rdy n R D b.val → ¬ R a.val b.val = true := fun b hb e => by
    have h1 := hb.2.2 a.val e
    have h2 := ha.2.1
    rw [h1] at h2; cases h2
  refine ⟨hN.app (NoD.nums _) (fun b hb hb2 => ?_), fun b => ?_⟩
  · exact hold b ((hL.2 b).1 ((hl b).1 hb).1) ((hmem b).1 hb2).1
  · rw [List.mem_append, hl, hmem, hL.2]
    constructor
    · rintro (⟨⟨h1, h2, h3⟩, hne⟩ | ⟨_, h1⟩)
      · refine ⟨h1, ?_, fun c hc => ?_⟩
        · rw [hbit, h2, Bool.false_or, decide_eq_false_iff_not]
          intro e
          exact hne (Fin.ext e.symm)
        · rw [hbit, h3 c hc]; rfl
      · exact h1
    · rintro ⟨h1, h2, h3⟩
      rw [hbit, Bool.or_eq_false_iff, decide_eq_false_iff_not] at h2
      by_cases hR : R a.val b.val = true
      · right
        refine ⟨hR, h1, ?_, h3⟩
        rw [hbit, h2.1, decide_eq_false h2.2]; rfl
      · left
        refine ⟨⟨h1, h2.1, fun c hc => ?_⟩, fun e => h2.2 (by rw [e])⟩
        have h4 := h3 c hc
        rw [hbit, Bool.or_eq_true, decide_eq_true_eq] at h4
        rcases h4 with h4 | h4
        · exact h4
        · subst h4; exact absurd hc hR
end Go.Proofs.YtjimiabfgmchiaaDoor
