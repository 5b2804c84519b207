/- A bit of a word, as the walk spells it. -/
import Derived.Test.YtfajgbdnfphajaaSLt
namespace Go.Proofs.Ytfajgbdnfphajaa.M
open Go.RowKit
theorem shr_bit (x i : Nat) (hx : x < 18446744073709551616) : bits .and .u64 ((x : Int) / 2 ^ i) 1 = ((x.testBit i).toNat : Int) := by
  have h1 : ((x : Int) / 2 ^ i) = ((x / 2 ^ i : Nat) : Int) := by simp
  have h2 : x / 2 ^ i < 18446744073709551616 := Nat.lt_of_le_of_lt (Nat.div_le_self _ _) hx
  have h3 := u64_and_nat (x / 2 ^ i) 1 h2 (by decide)
  rw [h1, show (1 : Int) = ((1 : Nat) : Int) from rfl, h3, Nat.and_one_is_mod, Nat.testBit_eq_decide_div_mod_eq]
  rcases Nat.mod_two_eq_zero_or_one (x / 2 ^ i) with e | e <;> rw [e] <;> rfl
theorem shr_bitT {x i : Nat} (hx : x < 18446744073709551616) (h : x.testBit i = true) : bits .and .u64 ((x : Int) / 2 ^ i) 1 = 1 := by rw [shr_bit x i hx, h]; rfl
theorem shr_bitF {x i : Nat} (hx : x < 18446744073709551616) (h : x.testBit i = false) : bits .and .u64 ((x : Int) / 2 ^ i) 1 = 0 := by rw [shr_bit x i hx, h]; rfl
end Go.Proofs.Ytfajgbdnfphajaa.M
