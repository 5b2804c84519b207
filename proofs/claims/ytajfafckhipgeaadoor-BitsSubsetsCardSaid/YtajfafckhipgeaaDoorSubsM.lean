/- The subsets' list: each one lies in the set, they rise, the empty one is the first and the whole set the last. -/
import Derived.Test.YtajfafckhipgeaaDoorSubsA
namespace Go.Proofs.YtajfafckhipgeaaDoor
theorem sub_all : ∀ (l : List (Fin 64)) (t : W64), t ∈ subsL l → ∀ k : Nat, t.1.testBit k = true → ∃ j ∈ l, j.val = k
  | [], t, ht, k, hk => by
    have e := List.mem_singleton.1 ht
    subst e
    exact absurd hk (by show ¬ (0 : Nat).testBit k = true; simp)
  | j :: r, t, ht, k, hk => by
    simp only [subsL, List.mem_flatMap, twoW, List.mem_cons, List.not_mem_nil, or_false] at ht
    obtain ⟨s, hs, rfl | rfl⟩ := ht
    · obtain ⟨i, hi, e⟩ := sub_all r _ hs k hk
      exact ⟨i, by simp [hi], e⟩
    · simp only [orW, bitW, Nat.testBit_or, Nat.testBit_two_pow, Bool.or_eq_true, decide_eq_true_eq] at hk
      rcases hk with hk | hk
      · obtain ⟨i, hi, e⟩ := sub_all r _ hs k hk
        exact ⟨i, by simp [hi], e⟩
      · exact ⟨j, by simp, hk⟩
theorem sub_in (A : Nat) (hA : A < 18446744073709551616) (t : W64) (ht : t ∈ subsL (nums A)) : t.1 &&& (18446744073709551615 - A) = 0 := by
  apply Nat.eq_of_testBit_eq
  intro k
  rw [Nat.zero_testBit]
  by_cases hk : k < 64
  · rw [show (18446744073709551615 : Nat) = 2 ^ 64 - 1 from rfl, minus_bits 64 t.1 A hA k hk]
    cases h : t.1.testBit k with
    | false => rfl
    | true =>
      obtain ⟨j, hj, e⟩ := sub_all _ t ht k h
      have := (mem_nums A j).1 hj
      rw [e] at this; rw [this]; rfl
  · rw [Nat.testBit_and, Nat.testBit_lt_two_pow (Nat.lt_of_lt_of_le (show t.1 < 2 ^ 64 from t.2) (Nat.pow_le_pow_right (by decide) (by omega)))]; rfl
theorem sub_mod : ∀ (l : List (Fin 64)) (i : Nat), (∀ j ∈ l, i ≤ j.val) → ∀ t ∈ subsL l, t.1 % 2 ^ i = 0 := by
  intro l i hl t ht
  apply Nat.eq_of_testBit_eq
  intro k
  rw [Nat.zero_testBit, Nat.testBit_mod_two_pow]
  by_cases hk : k < i
  · cases h : t.1.testBit k with
    | false => simp
    | true =>
      obtain ⟨j, hj, e⟩ := sub_all l t ht k h
      have := hl j hj
      omega
  · simp [hk]
theorem or_add (t i : Nat) (h : t % 2 ^ (i + 1) = 0) : t ||| 2 ^ i = t + 2 ^ i := by
  have h1 : t = 2 ^ (i + 1) * (t / 2 ^ (i + 1)) := by have := Nat.div_add_mod t (2 ^ (i + 1)); omega
  rw [h1, Nat.two_pow_add_eq_or_of_lt (Nat.pow_lt_pow_right (by decide) (Nat.lt_succ_self i))]
theorem subs_rise : ∀ (l : List (Fin 64)), l.Pairwise (· < ·) → (subsL l).Pairwise (fun a b => a.1 < b.1)
  | [], _ => List.pairwise_singleton _ _
  | j :: r, hl => by
    rw [List.pairwise_cons] at hl
    have ih := subs_rise r hl.2
    have hm := sub_mod r (j.val + 1) (fun k hk => hl.1 k hk)
    have hp : 0 < 2 ^ j.val := Nat.two_pow_pos _
    have hp2 : 2 ^ (j.val + 1) = 2 * 2 ^ j.val := by rw [Nat.pow_succ]; omega
    show ((subsL r).flatMap (twoW j)).Pairwise _
    rw [List.pairwise_flatMap]
    refine ⟨fun t ht => ?_, ih.imp_of_mem fun {a b} ha hb h => ?_⟩
    · simp only [twoW, List.pairwise_cons, List.mem_singleton, List.not_mem_nil, forall_eq, false_imp_iff, implies_true, and_true, List.Pairwise.nil]
      show t.1 < t.1 ||| 2 ^ j.val
      rw [or_add _ _ (hm t ht)]; omega
    · have ea : a.1 ||| 2 ^ j.val = a.1 + 2 ^ j.val := or_add _ _ (hm a ha)
      have eb : b.1 ||| 2 ^ j.val = b.1 + 2 ^ j.val := or_add _ _ (hm b hb)
      have ma := hm a ha
      have mb := hm b hb
      have hlt : a.1 + 2 ^ j.val < b.1 := by
        have da := Nat.div_add_mod a.1 (2 ^ (j.val + 1))
        have db := Nat.div_add_mod b.1 (2 ^ (j.val + 1))
        rw [ma] at da; rw [mb] at db
        have : a.1 / 2 ^ (j.val + 1) < b.1 / 2 ^ (j.val + 1) := by
          rcases Nat.lt_or_ge (a.1 / 2 ^ (j.val + 1)) (b.1 / 2 ^ (j.val + 1)) with h1 | h1
          · exact h1
          · have := Nat.mul_le_mul_left (2 ^ (j.val + 1)) h1
            omega
        have := Nat.mul_le_mul_left (2 ^ (j.val + 1)) (Nat.succ_le_of_lt this)
        rw [Nat.mul_succ] at this
        omega
      intro x hx y hy
      simp only [twoW, List.mem_cons, List.not_mem_nil, or_false] at hx hy
      rcases hx with rfl | rfl <;> rcases hy with rfl | rfl
      · exact h
      · show x.1 < b.1 ||| 2 ^ j.val; omega
      · show a.1 ||| 2 ^ j.val < y.1; omega
      · show a.1 ||| 2 ^ j.val < b.1 ||| 2 ^ j.val; omega
theorem subs_head : ∀ (l : List (Fin 64)), ∃ r, subsL l = ⟨0, by decide⟩ :: r
  | [] => ⟨[], rfl⟩
  | j :: r => by
    obtain ⟨s, hs⟩ := subs_head r
    exact ⟨orW ⟨0, by decide⟩ (bitW j) :: s.flatMap (twoW j), by show (subsL r).flatMap (twoW j) = _; rw [hs]; rfl⟩
/-- The word of a list of numbers. -/
def wordL : List (Fin 64) → Nat
  | [] => 0
  | j :: r => wordL r ||| 2 ^ j.val
theorem word_bits : ∀ (l : List (Fin 64)) (k : Nat), (wordL l).testBit k = decide (∃ j ∈ l, j.val = k)
  | [], k => by simp [wordL]
  | j :: r, k => by
    rw [wordL, Nat.testBit_or, word_bits r k, Nat.testBit_two_pow, Bool.eq_iff_iff]
    simp [or_comm]
theorem word_nums (A : Nat) (hA : A < 18446744073709551616) : wordL (nums A) = A := by
  apply Nat.eq_of_testBit_eq
  intro k
  rw [word_bits, Bool.eq_iff_iff, decide_eq_true_eq]
  constructor
  · rintro ⟨j, hj, rfl⟩; exact (mem_nums A j).1 hj
  · intro h
    have hk : k < 64 := by
      rcases Nat.lt_or_ge k 64 with h1 | h1
      · exact h1
      · rw [Nat.testBit_lt_two_pow (Nat.lt_of_lt_of_le (show A < 2 ^ 64 from hA) (Nat.pow_le_pow_right (by decide) h1))] at h; cases h
    exact ⟨⟨k, hk⟩, (mem_nums A _).2 h, rfl⟩
theorem subs_last : ∀ (l : List (Fin 64)), ∃ r t, subsL l = r ++ [t] ∧ t.1 = wordL l
  | [] => ⟨[], _, rfl, rfl⟩
  | j :: r => by
    obtain ⟨s, t, hs, ht⟩ := subs_last r
    refine ⟨s.flatMap (twoW j) ++ [t], orW t (bitW j), ?_, by show t.1 ||| 2 ^ j.val = _; rw [ht]; rfl⟩
    show (subsL r).flatMap (twoW j) = _
    rw [hs, flat_snoc]
end Go.Proofs.YtajfafckhipgeaaDoor
