/- Two sets: And, Or, Minus, Xor, Not, Sub, Cmp, by their words. -/
import Derived.Test.YtjmpkiopnkldmaaDoorHas
namespace Go.Proofs.YtjmpkiopnkldmaaDoor
open Go.RowKit
set_option maxHeartbeats 1000000 in
theorem orC8 (a b c : Nat) (e : bits .or .u8 (a : Int) (b : Int) = (c : Int)) (w : World) :
    Calls Tryd.prog 15 #[.agg #[.int .u8 a], .agg #[.int .u8 b]] w fun e w' => e = .returned (.agg #[.int .u8 c]) ∧ Below w.heap.size w w' := by
  go_enter Tryd.func15, Tryd.ntmps15
  go_wp2_with (go_at_call 4; refine (of8 _ _ _).mono ?_; rintro e w1 ⟨rfl, hb⟩; obtain ⟨hc, hf⟩ := bcell hb)
  exact bodyPost_ret (v := .agg #[.int .u8 c]) (by simp [results, Tryd.results15, go_sem, hc]) rfl ⟨rfl, ((((((Below.refl _ w).alloc (Nat.le_refl _) _).alloc (by simp) _)).alloc (by simp; omega) _).trans (hb.mono (by simp; omega))).setCell (by simp; omega) _⟩
theorem or8 (a b : Nat) (ha : a < 256) (hb : b < 256) (w : World) :
    Calls Tryd.prog 15 #[.agg #[.int .u8 a], .agg #[.int .u8 b]] w fun e w' => e = .returned (.agg #[.int .u8 ((a ||| b : Nat) : Int)]) ∧ Below w.heap.size w w' := orC8 a b _ (u8_or_nat a b ha hb) w
set_option maxHeartbeats 1000000 in
theorem minusC8 (a b c : Nat) (e : bits .andNot .u8 (a : Int) (b : Int) = (c : Int)) (w : World) :
    Calls Tryd.prog 23 #[.agg #[.int .u8 a], .agg #[.int .u8 b]] w fun e w' => e = .returned (.agg #[.int .u8 c]) ∧ Below w.heap.size w w' := by
  go_enter Tryd.func23, Tryd.ntmps23
  go_wp2_with (go_at_call 4; refine (of8 _ _ _).mono ?_; rintro e w1 ⟨rfl, hb⟩; obtain ⟨hc, hf⟩ := bcell hb)
  exact bodyPost_ret (v := .agg #[.int .u8 c]) (by simp [results, Tryd.results23, go_sem, hc]) rfl ⟨rfl, ((((((Below.refl _ w).alloc (Nat.le_refl _) _).alloc (by simp) _)).alloc (by simp; omega) _).trans (hb.mono (by simp; omega))).setCell (by simp; omega) _⟩
theorem minus8 (a b : Nat) (ha : a < 256) (hb : b < 256) (w : World) :
    Calls Tryd.prog 23 #[.agg #[.int .u8 a], .agg #[.int .u8 b]] w fun e w' => e = .returned (.agg #[.int .u8 ((a &&& (255 - b) : Nat) : Int)]) ∧ Below w.heap.size w w' := minusC8 a b _ (u8_andNot_nat a b ha hb) w
theorem xor_full (n a : Nat) (h : a < 2 ^ n) : (2 ^ n - 1) ^^^ a = 2 ^ n - 1 - a := by
  have e : 2 ^ n - 1 - a = 2 ^ n - (a + 1) := by omega
  rw [e]
  apply Nat.eq_of_testBit_eq; intro i
  rw [Nat.testBit_xor, Nat.testBit_two_pow_sub_one, Nat.testBit_two_pow_sub_succ h]
  by_cases hi : i < n
  · simp [hi]
  · rw [Nat.testBit_lt_two_pow (Nat.lt_of_lt_of_le h (Nat.pow_le_pow_right (by decide) (by omega)))]; simp [hi]
end Go.Proofs.YtjmpkiopnkldmaaDoor
