/- The Down set that comes next by its word: plain facts. -/
import Derived.Test.YtmdeljldmehefaaDoorOLawM
namespace Go.Proofs.YtmdeljldmehefaaDoor
/-- The highest bit in which two words part. -/
theorem high_diff : ∀ (t s : Nat), s < t → ∃ d, s.testBit d = false ∧ t.testBit d = true ∧ ∀ j, d < j → s.testBit j = t.testBit j := by
  intro t
  induction t using Nat.strongRecOn with
  | _ t ih =>
    intro s hst
    by_cases h : s / 2 < t / 2
    · obtain ⟨d, h1, h2, h3⟩ := ih (t / 2) (by omega) (s / 2) h
      refine ⟨d + 1, by rw [Nat.testBit_succ]; exact h1, by rw [Nat.testBit_succ]; exact h2, fun j hj => ?_⟩
      obtain ⟨j, rfl⟩ : ∃ i, j = i + 1 := ⟨j - 1, by omega⟩
      rw [Nat.testBit_succ, Nat.testBit_succ]
      exact h3 j (by omega)
    · refine ⟨0, ?_, ?_, fun j hj => ?_⟩
      · rw [Nat.testBit_zero]; simp; omega
      · rw [Nat.testBit_zero]; simp; omega
      · obtain ⟨j, rfl⟩ : ∃ i, j = i + 1 := ⟨j - 1, by omega⟩
        rw [Nat.testBit_succ, Nat.testBit_succ, show s / 2 = t / 2 by omega]
theorem le_of_bits {u t : Nat} (h : ∀ i, u.testBit i = true → t.testBit i = true) : u ≤ t := by
  rcases Nat.lt_or_ge t u with hl | hl
  · obtain ⟨d, h1, h2, _⟩ := high_diff u t hl
    rw [h d h2] at h1
    cases h1
  · exact hl
theorem lt_of_high {s t d : Nat} (h1 : s.testBit d = false) (h2 : t.testBit d = true) (h3 : ∀ j, d < j → s.testBit j = t.testBit j) : s < t := by
  rcases Nat.lt_trichotomy s t with h | h | h
  · exact h
  · subst h; rw [h1] at h2; cases h2
  · obtain ⟨e, g1, g2, g3⟩ := high_diff s t h
    rcases Nat.lt_trichotomy e d with he | he | he
    · have := g3 d he
      rw [h1, h2] at this; cases this
    · subst he; rw [h1] at g2; cases g2
    · have := h3 e he
      rw [g1, g2] at this; cases this
/-- May s take the place a, and let go of what is below it that nothing above asks for? -/
def mayUp (R : Nat → Nat → Bool) (s a : Nat) : Prop := s.testBit a = false ∧ ∀ b, R b a = true → a ≤ b → s.testBit b = true
/-- What it then is. -/
def isUp (R : Nat → Nat → Bool) (s a u : Nat) : Prop :=
  ∀ i, u.testBit i = true ↔ ((a ≤ i ∧ s.testBit i = true) ∨ i = a) ∨ ∃ k, ((a ≤ k ∧ s.testBit k = true) ∨ k = a) ∧ R i k = true
section
variable {n : Nat} {R : Nat → Nat → Bool} {s a u : Nat}
theorem up_high (hs : isDown n R s) (ha : mayUp R s a) (hu : isUp R s a u) {i : Nat} (hi : a ≤ i) : u.testBit i = true ↔ s.testBit i = true ∨ i = a := by
  rw [hu i]
  constructor
  · rintro ((⟨_, h⟩ | h) | ⟨k, (⟨_, h⟩ | rfl), hr⟩)
    · exact .inl h
    · exact .inr h
    · exact .inl (hs.2 k i h hr)
    · exact .inl (ha.2 i hr hi)
  · rintro (h | h)
    · exact .inl (.inl ⟨hi, h⟩)
    · exact .inl (.inr h)
theorem up_lt (hs : isDown n R s) (ha : mayUp R s a) (hu : isUp R s a u) : s < u :=
  lt_of_high ha.1 ((up_high hs ha hu (Nat.le_refl a)).2 (.inr rfl)) fun j hj => by
    rw [Bool.eq_iff_iff, up_high hs ha hu (by omega)]
    exact ⟨.inl, fun h => h.elim id fun e => by omega⟩
theorem up_down {Pf Sf : Nat → Nat} (h : Ord n R Pf Sf) (hs : isDown n R s) (han : a < n) (hu : isUp R s a u) : isDown n R u := by
  refine ⟨fun i hi => ?_, fun i b hi hr => ?_⟩
  · rcases (hu i).1 hi with (⟨_, h1⟩ | h1) | ⟨k, _, h1⟩
    · exact hs.1 i h1
    · omega
    · exact (h.inn i k h1).1
  · refine (hu b).2 ?_
    rcases (hu i).1 hi with h1 | ⟨k, h1, h2⟩
    · exact .inr ⟨i, h1, hr⟩
    · exact .inr ⟨k, h1, h.tr b i k hr h2⟩
theorem may_of_lt {Pf Sf : Nat → Nat} (h : Ord n R Pf Sf) {t : Nat} (ht : isDown n R t) (hst : s < t) : ∃ d, d < n ∧ mayUp R s d ∧ t.testBit d = true ∧ ∀ j, d < j → s.testBit j = t.testBit j := by
  obtain ⟨d, h1, h2, h3⟩ := high_diff t s hst
  refine ⟨d, ht.1 d h2, ⟨h1, fun b hr hb => ?_⟩, h2, h3⟩
  rcases Nat.eq_or_lt_of_le hb with e | e
  · subst e
    rw [h.irr d] at hr
    cases hr
  · rw [h3 b e]
    exact ht.2 d b h2 hr
/-- With the lowest such place it is the least Down set behind s. -/
theorem up_least {Pf Sf : Nat → Nat} (h : Ord n R Pf Sf) (hs : isDown n R s) (ha : mayUp R s a) (hmin : ∀ d, d < a → ¬ mayUp R s d) (hu : isUp R s a u) {t : Nat} (ht : isDown n R t) (hst : s < t) : u ≤ t := by
  obtain ⟨d, _, hd, h2, h3⟩ := may_of_lt h ht hst
  rcases Nat.lt_trichotomy d a with e | e | e
  · exact absurd hd (hmin d e)
  · subst e
    have hin : ∀ k, (d ≤ k ∧ s.testBit k = true) ∨ k = d → t.testBit k = true := fun k hk => by
      rcases hk with ⟨h4, h5⟩ | rfl
      · rcases Nat.eq_or_lt_of_le h4 with e | e
        · subst e; exact h2
        · rw [← h3 k e]; exact h5
      · exact h2
    refine le_of_bits fun i hi => ?_
    rcases (hu i).1 hi with h4 | ⟨k, h4, h5⟩
    · exact hin i h4
    · exact ht.2 k i (hin k h4) h5
  · refine Nat.le_of_lt (lt_of_high (d := d) ?_ h2 fun j hj => ?_)
    · cases e2 : u.testBit d with
      | false => rfl
      | true =>
        rcases (up_high hs ha hu (by omega)).1 e2 with e3 | e3
        · rw [hd.1] at e3; cases e3
        · omega
    · rw [← h3 j hj, Bool.eq_iff_iff, up_high hs ha hu (by omega)]
      exact ⟨fun h4 => h4.elim id fun e5 => by omega, .inl⟩
/-- With no such place s is the last. -/
theorem no_up {Pf Sf : Nat → Nat} (h : Ord n R Pf Sf) (hno : ∀ d, d < n → ¬ mayUp R s d) {t : Nat} (ht : isDown n R t) : t ≤ s := by
  rcases Nat.lt_or_ge s t with hl | hl
  · obtain ⟨d, hd, hm, _⟩ := may_of_lt h ht hl
    exact absurd hm (hno d hd)
  · exact hl
end
end Go.Proofs.YtmdeljldmehefaaDoor
