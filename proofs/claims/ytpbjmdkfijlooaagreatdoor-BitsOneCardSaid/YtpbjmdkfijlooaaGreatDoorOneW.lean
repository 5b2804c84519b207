/- one64 and one8 answer true for every word and any two numbers. -/
import Derived.Test.YtpbjmdkfijlooaaGreatDoorRefTxt
import Derived.Test.YtpbjmdkfijlooaaGreatDoorPlacesFn
import Derived.Test.YtpbjmdkfijlooaaGreatDoorOneFn
namespace Go.Proofs.YtpbjmdkfijlooaaGreatDoor
open Go.RowKit
theorem bit_out {a n i : Nat} (ha : a < 2 ^ n) (hi : i < n) (h : a.testBit i = false) : a &&& (2 ^ n - 1 - 2 ^ i) = a := by
  have hp : 2 ^ i < 2 ^ n := Nat.pow_lt_pow_right (by decide) hi
  apply Nat.eq_of_testBit_eq; intro j
  by_cases hj : j < n
  · rw [minus_bits n a (2 ^ i) hp j hj, Nat.testBit_two_pow]
    by_cases e : i = j
    · subst e; simp [h]
    · simp [e]
  · rw [Nat.testBit_and, Nat.testBit_lt_two_pow (Nat.lt_of_lt_of_le ha (Nat.pow_le_pow_right (by decide) (by omega)))]; simp
theorem bit_in {a n i : Nat} (ha : a < 2 ^ n) (hi : i < n) (h : a.testBit i = true) : a &&& (2 ^ n - 1 - 2 ^ i) = a - 2 ^ i := by
  have hp : 2 ^ i < 2 ^ n := Nat.pow_lt_pow_right (by decide) hi
  have hm : 2 ^ i ≤ a % 2 ^ (i + 1) := Nat.ge_two_pow_of_testBit (by rw [Nat.testBit_mod_two_pow, h]; simp)
  have hm2 : a % 2 ^ (i + 1) < 2 ^ (i + 1) := Nat.mod_lt _ (Nat.two_pow_pos _)
  have hd := Nat.div_add_mod a (2 ^ (i + 1))
  obtain ⟨r, hr⟩ : ∃ r, a % 2 ^ (i + 1) = 2 ^ i + r := ⟨a % 2 ^ (i + 1) - 2 ^ i, by omega⟩
  rw [hr] at hd hm2
  have hp2 : 2 ^ (i + 1) = 2 ^ i + 2 ^ i := by rw [Nat.pow_succ]; omega
  have hrl : r < 2 ^ i := by omega
  have e1 : a - 2 ^ i = 2 ^ (i + 1) * (a / 2 ^ (i + 1)) + r := by omega
  apply Nat.eq_of_testBit_eq; intro j
  have hb : ∀ j, a.testBit j = if j < i + 1 then (2 ^ i + r).testBit j else (a / 2 ^ (i + 1)).testBit (j - (i + 1)) := fun j => by
    conv => lhs; rw [← hd]
    exact Nat.testBit_two_pow_mul_add _ hm2 j
  rw [e1, Nat.testBit_two_pow_mul_add _ (by omega) j]
  have hal : ∀ j, n ≤ j → a.testBit j = false := fun j hj => Nat.testBit_lt_two_pow (Nat.lt_of_lt_of_le ha (Nat.pow_le_pow_right (by decide) hj))
  by_cases hj : j < n
  · rw [minus_bits n a (2 ^ i) hp j hj, Nat.testBit_two_pow, hb j]
    by_cases e : i = j
    · subst e
      rw [if_pos (by omega), if_pos (by omega), Nat.testBit_lt_two_pow hrl]; simp
    · by_cases hj2 : j < i + 1
      · rw [if_pos hj2, if_pos hj2, Nat.testBit_two_pow_add_gt (by omega)]; simp [e]
      · rw [if_neg hj2, if_neg hj2]; simp [e]
  · rw [Nat.testBit_and, hal j (by omega), Bool.false_and, if_neg (by omega)]
    have := hb j
    rw [hal j (by omega), if_neg (by omega)] at this
    exact this
/-- What is kept of the law's own sets. -/
theorem keepT {w W w1 : World} {b c : Nat} {v u : Value} (h : W.cell? ⟨b, 0, none⟩ = some v ∧ W.cell? ⟨c, 0, none⟩ = some u ∧ Below w.heap.size w W) (hb : Below W.heap.size W w1) :
    w1.cell? ⟨b, 0, none⟩ = some v ∧ w1.cell? ⟨c, 0, none⟩ = some u ∧ Below w.heap.size w w1 :=
  have ⟨h1, h2, h3⟩ := h
  ⟨(hb.cell (p := ⟨b, 0, none⟩) (cell_lt h1)).trans h1, (hb.cell (p := ⟨c, 0, none⟩) (cell_lt h2)).trans h2, h3.trans (hb.mono h3.size)⟩
end Go.Proofs.YtpbjmdkfijlooaaGreatDoor
