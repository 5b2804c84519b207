/- OrderReady answers true. -/
import Derived.Test.YtbpojobmenagkaaDoorOBoth
namespace Go.Proofs.YtbpojobmenagkaaDoor
open Go.RowKit Go.Shelf
/-- A row of ints that came in. -/
def RowZ (W : World) (ob : Option Addr) (lb : Nat) : Prop := ∀ i, i < lb → ∃ g o z, ob = some ⟨g, o, none⟩ ∧ W.cell? ⟨g, o + i, none⟩ = some (.int .i64 z) ∧ -9223372036854775808 ≤ z ∧ z ≤ 9223372036854775807
theorem bit_test {r a : Nat} (hr : r < 18446744073709551616) : (bits .and .u64 ((r : Int) / 2 ^ a) 1 == 0) = !r.testBit a := by
  have e : ((r : Int) / 2 ^ a) = ((r / 2 ^ a : Nat) : Int) := by simp
  have hlt : r / 2 ^ a < 18446744073709551616 := Nat.lt_of_le_of_lt (Nat.div_le_self _ _) hr
  rw [e, show (1 : Int) = ((1 : Nat) : Int) from rfl, u64_and_nat _ 1 hlt (by decide), eq_cast, Nat.testBit_eq_decide_div_mod_eq, Nat.and_one_is_mod]
  rcases Nat.mod_two_eq_zero_or_one (r / 2 ^ a) with h | h <;> rw [h] <;> rfl
theorem tmod_bd (z : Int) : -64 < z.tmod 64 ∧ z.tmod 64 < 64 := by
  have h1 := Int.tmod_lt_of_pos z (show (0 : Int) < 64 by decide)
  have h2 := Int.tmod_lt_of_pos (-z) (show (0 : Int) < 64 by decide)
  rw [Int.neg_tmod] at h2
  omega
end Go.Proofs.YtbpojobmenagkaaDoor
