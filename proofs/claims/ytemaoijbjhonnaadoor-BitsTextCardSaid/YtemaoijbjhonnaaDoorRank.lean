/- Rank, High, Nth: how many are below a number, the greatest, the one with so many below it. -/
import Derived.Test.YtemaoijbjhonnaaDoorAll
import Derived.Test.YtemaoijbjhonnaaDoorOnes
namespace Go.Proofs.YtemaoijbjhonnaaDoor
open Go.RowKit Go.Shelf
attribute [local go_sem] Oper.semAt_some
/-- The last of a list; -1: none. -/
def lastI (l : List (Fin 64)) : Int := match l.getLast? with | none => -1 | some j => j.val
/-- The one at a place; -1: none. -/
def nthI (l : List (Fin 64)) (k : Int) : Int := if 0 ≤ k then match l[k.toNat]? with | none => -1 | some j => j.val else -1
theorem bitLen_last (x : Nat) (hx : x < 18446744073709551616) : (Lib.bitLen x : Int) - 1 = lastI (nums x) := by
  unfold lastI
  cases h : (nums x).getLast? with
  | none =>
    have e : nums x = [] := List.getLast?_eq_none_iff.1 h
    obtain rfl := nums_eq_nil hx e
    rfl
  | some j =>
    obtain ⟨pre, hp⟩ := List.getLast?_eq_some_iff.1 h
    have hj : x.testBit j.val = true := (mem_nums x j).1 (by rw [hp]; simp)
    have h1 : 2 ^ j.val ≤ x := Nat.ge_two_pow_of_testBit hj
    have h2 : x < 2 ^ (j.val + 1) := by
      apply Nat.lt_pow_two_of_testBit
      intro i hi
      rcases Nat.lt_or_ge i 64 with h64 | h64
      · cases hb : x.testBit i with
        | false => rfl
        | true =>
          have hm : (⟨i, h64⟩ : Fin 64) ∈ nums x := (mem_nums x _).2 hb
          have hs := sorted_nums x
          rw [hp] at hm hs
          rcases List.mem_append.1 hm with hm | hm
          · have := (List.pairwise_append.1 hs).2.2 _ hm j (by simp)
            have : i < j.val := this
            omega
          · have : i = j.val := congrArg Fin.val (List.mem_singleton.1 hm)
            omega
      · exact Nat.testBit_lt_two_pow (Nat.lt_of_lt_of_le (show x < 2 ^ 64 from hx) (Nat.pow_le_pow_right (by decide) h64))
    have e := Lib.bitLen_shift j.val x h1 hx
    have hp2 := Nat.two_pow_pos j.val
    have e1 : x / 2 ^ j.val = 1 := by
      rw [Nat.div_eq_iff hp2]
      rw [Nat.pow_succ] at h2
      omega
    rw [e1, show Lib.bitLen 1 = 1 from by decide] at e
    show _ = (j.val : Int)
    omega
end Go.Proofs.YtemaoijbjhonnaaDoor
