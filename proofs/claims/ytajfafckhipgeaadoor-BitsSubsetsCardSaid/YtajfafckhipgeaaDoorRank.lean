/- Rank, High, Nth: how many are below a number, the greatest, the one with so many below it. -/
import Derived.Test.YtajfafckhipgeaaDoorAll
import Derived.Test.YtajfafckhipgeaaDoorOnes
namespace Go.Proofs.YtajfafckhipgeaaDoor
open Go.RowKit Go.Shelf
attribute [local go_sem] Oper.semAt_some
/-- The last of a list; -1: none. -/
def lastI (l : List (Fin 64)) : Int := match l.getLast? with | none => -1 | some j => j.val
/-- The one at a place; -1: none. -/
def nthI (l : List (Fin 64)) (k : Int) : Int := if 0 ≤ k then match l[k.toNat]? with | none => -1 | some j => j.val else -1
theorem bitLen_last (x : Nat) (hx : x < 18446744073709551616) : (Lib.bitLen x : Int) - 1 = lastI (nums x) := by
  unfold lastI
  cases h : (nums x).getLast? with
  | none =>
    have e : nums x = [] := List.getLast?_eq_none_iff.1 h
    obtain rfl := nums_eq_nil hx e
    rfl
  | some j =>
    obtain ⟨pre, hp⟩ := List.getLast?_eq_some_iff.1 h
    have hj : x.testBit j.val = true := (mem_nums x j).1 (by rw [hp]; simp)
    have h1 : 2 ^ j.val ≤ x := Nat.ge_two_pow_of_testBit hj
    have h2 : x < 2 ^ (j.val + 1) := by
      apply Nat.lt_pow_two_of_testBit
      intro i hi
      rcases Nat.lt_or_ge i 64 with h64 | h64
      · cases hb : x.testBit i with
        | false => rfl
        | true =>
          have hm : (⟨i, h64⟩ : Fin 64) ∈ nums x := (mem_nums x _).2 hb
          have hs := sorted_nums x
          rw [hp] at hm hs
          rcases List.mem_append.1 hm with hm | hm
          · have := (List.pairwise_append.1 hs).2.2 _ hm j (by simp)
            have : i < j.val := this
            omega
          · have : i = j.val := congrArg Fin.val (List.mem_singleton.1 hm)
            omega
      · exact Nat.testBit_lt_two_pow (Nat.lt_of_lt_of_le (show x < 2 ^ 64 from hx) (Nat.pow_le_pow_right (by decide) h64))
    have e := Lib.bitLen_shift j.val x h1 hx
    have hp2 := Nat.two_pow_pos j.val
    have e1 : x / 2 ^ j.val = 1 := by
      rw [Nat.div_eq_iff hp2]
      rw [Nat.pow_succ] at h2
      omega
    rw [e1, show Lib.bitLen 1 = 1 from by decide] at e
    show _ = (j.val : Int)
    omega
set_option maxHeartbeats 1000000 in
theorem highC64 (x b : Nat) (hx : x < 18446744073709551616) (k : Int) (hb : b = Lib.bitLen x) (hl : b ≤ 64) (hk : (b : Int) - 1 = k) (w : World) :
    Calls Tryd.prog 26 #[.agg #[.int .u64 x]] w fun e w' => e = .returned (.int .i64 k) ∧ Below w.heap.size w w' := by
  have h1 : Hid (∀ W, Calls Tryd.prog 43 #[.int .u64 x] W fun e w' => e = .returned (.int .i64 b) ∧ w' = W) := by subst hb; exact len64m x (by omega)
  clear hb
  go_enter Tryd.func26, Tryd.ntmps26
  go_wp2_with (go_at_call 43; refine (h1.out _).mono ?_; rintro e w1 ⟨rfl, rfl⟩)
  go_ret
  exact ⟨rfl, (Below.refl _ _).alloc (Nat.le_refl _) _⟩
theorem high64 (x : Nat) (hx : x < 18446744073709551616) (w : World) :
    Calls Tryd.prog 26 #[.agg #[.int .u64 x]] w fun e w' => e = .returned (.int .i64 (lastI (nums x))) ∧ Below w.heap.size w w' :=
  highC64 x _ hx _ rfl (Lib.bitLen_le x 64 (Nat.le_refl _) (show x < 2 ^ 64 by omega)) (bitLen_last x (by omega)) w
set_option maxHeartbeats 1000000 in
theorem rankC64 (x b : Nat) (i : Int) (hx : x < 18446744073709551616) (hb : b = belowX x i) (k : Nat) (hk : (nums b).length = k) (w : World) :
    Calls Tryd.prog 21 #[.agg #[.int .u64 x], .int .i64 i] w fun e w' => e = .returned (.int .i64 k) ∧ Below w.heap.size w w' := by
  have hbl : b < 18446744073709551616 := by rw [hb]; exact Nat.lt_of_le_of_lt (belowX_le x i) hx
  have h1 : Hid (∀ W, Calls Tryd.prog 40 #[.agg #[.int .u64 x], .int .i64 i] W fun e w' => e = .returned (.agg #[.int .u64 b]) ∧ Below W.heap.size W w') := by subst hb; exact below64 x hx i
  have h2 : Hid (∀ W, Calls Tryd.prog 25 #[.agg #[.int .u64 b]] W fun e w' => e = .returned (.int .i64 k) ∧ Below W.heap.size W w') := by subst hk; exact len64 b hbl
  clear hb hk
  go_enter Tryd.func21, Tryd.ntmps21
  go_wp2_with (first | (go_at_call 40; refine (h1.out _).mono ?_; rintro e w1 ⟨rfl, hb1⟩) | (go_at_call 25; refine (h2.out _).mono ?_; rintro e w2 ⟨rfl, hb2⟩))
  go_ret
  exact ⟨rfl, (((Below.refl _ w).alloc (Nat.le_refl _) _).trans (hb1.mono (by simp))).trans (hb2.mono (by have := hb1.size; simp at this; omega))⟩
theorem rank64 (x : Nat) (hx : x < 18446744073709551616) (i : Int) (w : World) :
    Calls Tryd.prog 21 #[.agg #[.int .u64 x], .int .i64 i] w fun e w' => e = .returned (.int .i64 ((toI i (nums x)).length : Nat)) ∧ Below w.heap.size w w' :=
  rankC64 x _ i hx rfl _ (by rw [nums_below]) w
end Go.Proofs.YtajfafckhipgeaaDoor
