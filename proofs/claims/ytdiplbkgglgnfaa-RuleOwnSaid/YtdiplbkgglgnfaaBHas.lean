/- Has: the number is in the set just where its bit is set. -/
import Derived.Test.YtdiplbkgglgnfaaBLeaf
namespace Go.Proofs.Ytdiplbkgglgnfaa
open Go.RowKit

/-- What a region keeps of the world at its start: one cell, and all that lay ahead. -/
theorem keep1 {w W w1 : World} {b : Nat} {v : Value} (h : W.cell? ⟨b, 0, none⟩ = some v ∧ b < W.heap.size ∧ Below w.heap.size w W) (hb : Below W.heap.size W w1) :
    w1.cell? ⟨b, 0, none⟩ = some v ∧ b < w1.heap.size ∧ Below w.heap.size w w1 :=
  have ⟨h1, h2, h3⟩ := h
  ⟨(hb.cell (p := ⟨b, 0, none⟩) h2).trans h1, Nat.lt_of_lt_of_le h2 hb.size, h3.trans (hb.mono h3.size)⟩
theorem and_pow (a n : Nat) : (a &&& 2 ^ n != 0) = a.testBit n := by
  rw [nat_bit]
  have h : 0 < 2 ^ n := Nat.two_pow_pos n
  rw [Nat.testBit_eq_decide_div_mod_eq]
  rcases Nat.mod_two_eq_zero_or_one (a / 2 ^ n) with e | e <;> rw [e] <;> simp
end Go.Proofs.Ytdiplbkgglgnfaa
