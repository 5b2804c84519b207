/- Next: the least number that is not below i. -/
import Derived.Test.YtbbmjfjedonfaaaDoorWake
namespace Go.Proofs.YtbbmjfjedonfaaaDoor
open Go.RowKit
/-- x less what of it is below i. -/
theorem minus_bits (n x b : Nat) (hb : b < 2 ^ n) (j : Nat) (hj : j < n) : (x &&& (2 ^ n - 1 - b)).testBit j = (x.testBit j && !b.testBit j) := by
  have e : 2 ^ n - 1 - b = 2 ^ n - (b + 1) := by omega
  rw [Nat.testBit_and, e, Nat.testBit_two_pow_sub_succ hb]; simp [hj]
theorem belowX_le (x : Nat) (i : Int) : belowX x i ≤ x := by
  unfold belowX; split
  · exact Nat.zero_le _
  · exact Nat.mod_le _ _
theorem belowX_bit (x : Nat) (i : Int) (j : Nat) : (belowX x i).testBit j = (x.testBit j && decide ((j : Int) < i)) := by
  unfold belowX; split
  · have : ¬ (j : Int) < i := by omega
    simp [this]
  · rw [Nat.testBit_mod_two_pow]
    have : (j < i.toNat) ↔ ((j : Int) < i) := by omega
    simp [this, Bool.and_comm]
theorem nums_below (x : Nat) (i : Int) : nums (belowX x i) = toI i (nums x) := nums_to fun j => belowX_bit x i j.val
theorem nums_rest64 (x : Nat) (hx : x < 18446744073709551616) (i : Int) : x &&& (18446744073709551615 - belowX x i) < 18446744073709551616 ∧ nums (x &&& (18446744073709551615 - belowX x i)) = fromI i (nums x) := by
  have hb : belowX x i < 2 ^ 64 := Nat.lt_of_le_of_lt (belowX_le x i) hx
  refine ⟨Nat.lt_of_le_of_lt Nat.and_le_left hx, nums_from fun j => ?_⟩
  by_cases hj : j.val < 64
  · have e := minus_bits 64 x (belowX x i) hb j.val hj
    rw [show (18446744073709551615 - belowX x i) = 2 ^ 64 - 1 - belowX x i from rfl, e, belowX_bit]
    have : decide (i ≤ (j.val : Int)) = !decide ((j.val : Int) < i) := by
      by_cases h : (j.val : Int) < i
      · simp [h]
      · simp [h]; omega
    rw [this]
    cases x.testBit j.val <;> simp
  · have h0 : x.testBit j.val = false := Nat.testBit_lt_two_pow (Nat.lt_of_lt_of_le (show x < 2 ^ 64 from hx) (Nat.pow_le_pow_right (by decide) (by omega)))
    rw [Nat.testBit_and, h0]; simp
set_option maxHeartbeats 1000000 in
theorem nextC64 (x b y : Nat) (i : Int) (hb : b = belowX x i) (hy : y = x &&& (18446744073709551615 - b)) (hx : x < 18446744073709551616) (hb' : b < 18446744073709551616) (hy' : y < 18446744073709551616) (k : Int) (hk : k = lowI (nums y)) (w : World) (ht : Tab w) :
    Calls Tryd.prog 44 #[.agg #[.int .u64 x], .int .i64 i] w fun e w' => e = .returned (.int .i64 k) ∧ Below w.heap.size w w' := by
  have h1 : ∀ W, Calls Tryd.prog 46 #[.agg #[.int .u64 x], .int .i64 i] W fun e w' => e = .returned (.agg #[.int .u64 b]) ∧ Below W.heap.size W w' := by subst hb; exact below64 x hx i
  have h2 : ∀ W, Calls Tryd.prog 38 #[.agg #[.int .u64 x], .agg #[.int .u64 b]] W fun e w' => e = .returned (.agg #[.int .u64 y]) ∧ Below W.heap.size W w' := by subst hy; exact minus64 x b hx hb'
  have h3 : ∀ W, Tab W → Calls Tryd.prog 24 #[.agg #[.int .u64 y]] W fun e w' => e = .returned (.int .i64 k) ∧ Below W.heap.size W w' := by subst hk; exact low64 y hy'
  clear hb hy hk
  have H1 : Hid _ := h1
  have H2 : Hid _ := h2
  have H3 : Hid _ := h3
  clear h1 h2 h3
  go_enter Tryd.func44, Tryd.ntmps44
  go_wp2
  go_region_held3 (fun W => W.cell? ⟨w.heap.size, 0, none⟩ = some (.int .u64 x) ∧ w.heap.size < W.heap.size ∧ Below w.heap.size w W) (first | (exact keep1 (by assumption) hb) | (exact keep1 ⟨by simp, by simp, ((Below.refl _ w).alloc (Nat.le_refl _) _).drew⟩ hb) | (exact ⟨by simp, by simp, ((Below.refl _ w).alloc (Nat.le_refl _) _).drew⟩)) (first | (go_at_call 46; refine (H1.out _).mono ?_; rintro e w1 ⟨rfl, hb⟩) | (go_at_call 38; refine (H2.out _).mono ?_; rintro e w1 ⟨rfl, hb⟩) | (go_at_call 24; refine (H3.out _ (ht.over ‹_ ∧ _ ∧ _›.2.2)).mono ?_; rintro e w1 ⟨rfl, hb⟩))
  all_goals go_wp2
  all_goals go_ret
  all_goals exact ⟨rfl, ‹_ ∧ _ ∧ _›.2.2⟩
theorem next64 (x : Nat) (hx : x < 18446744073709551616) (i : Int) (w : World) (ht : Tab w) :
    Calls Tryd.prog 44 #[.agg #[.int .u64 x], .int .i64 i] w fun e w' => e = .returned (.int .i64 (lowI (fromI i (nums x)))) ∧ Below w.heap.size w w' := by
  have h := nums_rest64 x hx i
  exact nextC64 x _ _ i rfl rfl hx (Nat.lt_of_le_of_lt (belowX_le x i) hx) h.1 _ (by rw [h.2]) w ht
end Go.Proofs.YtbbmjfjedonfaaaDoor
