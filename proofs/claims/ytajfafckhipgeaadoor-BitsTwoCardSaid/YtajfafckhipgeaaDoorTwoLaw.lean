/- BitsTwo answers true for every two words, wherever the library's table lies as it is laid; it makes new memory alone. -/
import Derived.Test.YtajfafckhipgeaaDoorWakes
namespace Go.Proofs.YtajfafckhipgeaaDoor
open Go.RowKit
def hasI (A : Nat) (i : Int) : Bool := decide (0 ≤ i) && A.testBit i.toNat
def subTo (A B n : Nat) : Bool := (List.range n).all fun j => !hasI A ((j : Int) - 2) || hasI B ((j : Int) - 2)
def meetTo (A B n : Nat) : Bool := (List.range n).any fun j => hasI A ((j : Int) - 2) && hasI B ((j : Int) - 2)
theorem subTo_succ (A B n : Nat) : subTo A B (n + 1) = (subTo A B n && (!hasI A ((n : Int) - 2) || hasI B ((n : Int) - 2))) := by simp [subTo, List.range_succ]
theorem meetTo_succ (A B n : Nat) : meetTo A B (n + 1) = (meetTo A B n || (hasI A ((n : Int) - 2) && hasI B ((n : Int) - 2))) := by simp [meetTo, List.range_succ]
theorem big_bit {A : Nat} (hA : A < 18446744073709551616) {i : Nat} (h : 64 ≤ i) : A.testBit i = false :=
  Nat.testBit_lt_two_pow (Nat.lt_of_lt_of_le (show A < 2 ^ 64 from hA) (Nat.pow_le_pow_right (by decide) h))
theorem has_and (A B : Nat) (i : Int) : hasI (A &&& B) i = (hasI A i && hasI B i) := by
  unfold hasI; rw [Nat.testBit_and]; cases decide (0 ≤ i) <;> simp
theorem has_or (A B : Nat) (i : Int) : hasI (A ||| B) i = (hasI A i || hasI B i) := by
  unfold hasI; rw [Nat.testBit_or]; cases decide (0 ≤ i) <;> simp
theorem has_xor (A B : Nat) (i : Int) : hasI (A ^^^ B) i = (hasI A i != hasI B i) := by
  unfold hasI; rw [Nat.testBit_xor]; cases decide (0 ≤ i) <;> simp
theorem has_out {A : Nat} (hA : A < 18446744073709551616) {i : Int} (h : ¬ (0 ≤ i ∧ i < 64)) : hasI A i = false := out_of_bits64 hA h
theorem has_minus (A B : Nat) (hA : A < 18446744073709551616) (hB : B < 18446744073709551616) (i : Int) : hasI (A &&& (18446744073709551615 - B)) i = (hasI A i && !hasI B i) := by
  by_cases h : 0 ≤ i ∧ i < 64
  · unfold hasI
    have e := minus_bits 64 A B hB i.toNat (by omega)
    rw [show (18446744073709551615 - B) = 2 ^ 64 - 1 - B from rfl, e]; simp [h.1]
  · rw [has_out (Nat.lt_of_le_of_lt Nat.and_le_left hA) h, has_out hA h]; rfl
theorem has_not (A : Nat) (hA : A < 18446744073709551616) (i : Int) (h : 0 ≤ i ∧ i < 64) : hasI (18446744073709551615 - A) i = !hasI A i := by
  unfold hasI
  have e : 18446744073709551615 - A = 2 ^ 64 - (A + 1) := by omega
  rw [e, Nat.testBit_two_pow_sub_succ hA]; simp [h.1]; omega
theorem sub_end (A B : Nat) (hA : A < 18446744073709551616) (hB : B < 18446744073709551616) : (A &&& (18446744073709551615 - B) == 0) = subTo A B 69 := by
  rw [Bool.eq_iff_iff, beq_iff_eq]
  have hbit : ∀ i : Nat, i < 64 → (A &&& (18446744073709551615 - B)).testBit i = (A.testBit i && !B.testBit i) := fun i hi => minus_bits 64 A B hB i hi
  constructor
  · intro h
    simp only [subTo, List.all_eq_true, List.mem_range]
    intro j _
    by_cases hj : 0 ≤ (j : Int) - 2 ∧ (j : Int) - 2 < 64
    · have e := hbit ((j : Int) - 2).toNat (by omega)
      rw [h] at e
      unfold hasI
      cases h1 : A.testBit ((j : Int) - 2).toNat <;> cases h2 : B.testBit ((j : Int) - 2).toNat <;> simp [h1, h2] at e ⊢
    · rw [has_out hA hj]; rfl
  · intro h
    simp only [subTo, List.all_eq_true, List.mem_range] at h
    apply Nat.eq_of_testBit_eq; intro i
    rw [Nat.zero_testBit]
    by_cases hi : i < 64
    · rw [hbit i hi]
      have := h (i + 2) (by omega)
      have e : ((i + 2 : Nat) : Int) - 2 = (i : Int) := by omega
      rw [e] at this
      unfold hasI at this
      cases h1 : A.testBit i <;> cases h2 : B.testBit i <;> simp [h1, h2] at this ⊢
    · rw [big_bit (Nat.lt_of_le_of_lt Nat.and_le_left hA) (by omega)]
theorem meet_end (A B : Nat) (hA : A < 18446744073709551616) : (A &&& B != 0) = meetTo A B 69 := by
  rw [Bool.eq_iff_iff, bne_iff_ne]
  constructor
  · intro h
    simp only [meetTo, List.any_eq_true, List.mem_range]
    obtain ⟨i, hi⟩ := Nat.exists_testBit_of_ne_zero h
    have hi64 : i < 64 := by
      rcases Nat.lt_or_ge i 64 with h1 | h1
      · exact h1
      · rw [big_bit (Nat.lt_of_le_of_lt Nat.and_le_left hA) h1] at hi; cases hi
    refine ⟨i + 2, by omega, ?_⟩
    have e : ((i + 2 : Nat) : Int) - 2 = (i : Int) := by omega
    rw [e]
    rw [Nat.testBit_and] at hi
    unfold hasI; simpa using hi
  · intro h e
    simp only [meetTo, List.any_eq_true, List.mem_range] at h
    obtain ⟨j, _, hj⟩ := h
    rw [← has_and, e] at hj
    simp [hasI] at hj
set_option maxHeartbeats 400000 in
theorem refCmp (a b : Nat) (w : World) :
    Calls Tryd.prog 18 #[.int .u64 a, .int .u64 b] w fun e w' => e = .returned (.int .i64 (if a < b then -1 else if b < a then 1 else 0)) ∧ w' = w := by
  go_enter Tryd.func18, Tryd.ntmps18
  go_wp2
  all_goals go_ret
  all_goals exact ⟨rfl, rfl⟩
end Go.Proofs.YtajfafckhipgeaaDoor
