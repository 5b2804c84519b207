/- Two sets: And, Or, Minus, Xor, Not, Sub, Cmp, by their words. -/
import Derived.Test.YtemaoijbjhonnaaDoorHas
namespace Go.Proofs.YtemaoijbjhonnaaDoor
open Go.RowKit
set_option maxHeartbeats 1000000 in
theorem orC8 (a b c : Nat) (e : bits .or .u8 (a : Int) (b : Int) = (c : Int)) (w : World) :
    Calls Tryd.prog 30 #[.agg #[.int .u8 a], .agg #[.int .u8 b]] w fun e w' => e = .returned (.agg #[.int .u8 c]) ∧ Below w.heap.size w w' := by
  go_enter Tryd.func30, Tryd.ntmps30
  go_wp2_with (go_at_call 6; refine (of8 _ _ _).mono ?_; rintro e w1 ⟨rfl, hb⟩; obtain ⟨hc, hf⟩ := bcell hb)
  exact bodyPost_ret (v := .agg #[.int .u8 c]) (by simp [results, Tryd.results30, go_sem, hc]) rfl ⟨rfl, ((((((Below.refl _ w).alloc (Nat.le_refl _) _).alloc (by simp) _)).alloc (by simp; omega) _).trans (hb.mono (by simp; omega))).setCell (by simp; omega) _⟩
theorem or8 (a b : Nat) (ha : a < 256) (hb : b < 256) (w : World) :
    Calls Tryd.prog 30 #[.agg #[.int .u8 a], .agg #[.int .u8 b]] w fun e w' => e = .returned (.agg #[.int .u8 ((a ||| b : Nat) : Int)]) ∧ Below w.heap.size w w' := orC8 a b _ (u8_or_nat a b ha hb) w
set_option maxHeartbeats 1000000 in
theorem orC16 (a b c : Nat) (e : bits .or .u16 (a : Int) (b : Int) = (c : Int)) (w : World) :
    Calls Tryd.prog 69 #[.agg #[.int .u16 a], .agg #[.int .u16 b]] w fun e w' => e = .returned (.agg #[.int .u16 c]) ∧ Below w.heap.size w w' := by
  go_enter Tryd.func69, Tryd.ntmps69
  go_wp2_with (go_at_call 16; refine (of16 _ _ _).mono ?_; rintro e w1 ⟨rfl, hb⟩; obtain ⟨hc, hf⟩ := bcell hb)
  exact bodyPost_ret (v := .agg #[.int .u16 c]) (by simp [results, Tryd.results69, go_sem, hc]) rfl ⟨rfl, ((((((Below.refl _ w).alloc (Nat.le_refl _) _).alloc (by simp) _)).alloc (by simp; omega) _).trans (hb.mono (by simp; omega))).setCell (by simp; omega) _⟩
theorem or16 (a b : Nat) (ha : a < 65536) (hb : b < 65536) (w : World) :
    Calls Tryd.prog 69 #[.agg #[.int .u16 a], .agg #[.int .u16 b]] w fun e w' => e = .returned (.agg #[.int .u16 ((a ||| b : Nat) : Int)]) ∧ Below w.heap.size w w' := orC16 a b _ (u16_or_nat a b ha hb) w
set_option maxHeartbeats 1000000 in
theorem orC64 (a b c : Nat) (e : bits .or .u64 (a : Int) (b : Int) = (c : Int)) (w : World) :
    Calls Tryd.prog 62 #[.agg #[.int .u64 a], .agg #[.int .u64 b]] w fun e w' => e = .returned (.agg #[.int .u64 c]) ∧ Below w.heap.size w w' := by
  go_enter Tryd.func62, Tryd.ntmps62
  go_wp2_with (go_at_call 12; refine (of64 _ _ _).mono ?_; rintro e w1 ⟨rfl, hb⟩; obtain ⟨hc, hf⟩ := bcell hb)
  exact bodyPost_ret (v := .agg #[.int .u64 c]) (by simp [results, Tryd.results62, go_sem, hc]) rfl ⟨rfl, ((((((Below.refl _ w).alloc (Nat.le_refl _) _).alloc (by simp) _)).alloc (by simp; omega) _).trans (hb.mono (by simp; omega))).setCell (by simp; omega) _⟩
theorem or64 (a b : Nat) (ha : a < 18446744073709551616) (hb : b < 18446744073709551616) (w : World) :
    Calls Tryd.prog 62 #[.agg #[.int .u64 a], .agg #[.int .u64 b]] w fun e w' => e = .returned (.agg #[.int .u64 ((a ||| b : Nat) : Int)]) ∧ Below w.heap.size w w' := orC64 a b _ (u64_or_nat a b ha hb) w
set_option maxHeartbeats 1000000 in
theorem minusC8 (a b c : Nat) (e : bits .andNot .u8 (a : Int) (b : Int) = (c : Int)) (w : World) :
    Calls Tryd.prog 50 #[.agg #[.int .u8 a], .agg #[.int .u8 b]] w fun e w' => e = .returned (.agg #[.int .u8 c]) ∧ Below w.heap.size w w' := by
  go_enter Tryd.func50, Tryd.ntmps50
  go_wp2_with (go_at_call 6; refine (of8 _ _ _).mono ?_; rintro e w1 ⟨rfl, hb⟩; obtain ⟨hc, hf⟩ := bcell hb)
  exact bodyPost_ret (v := .agg #[.int .u8 c]) (by simp [results, Tryd.results50, go_sem, hc]) rfl ⟨rfl, ((((((Below.refl _ w).alloc (Nat.le_refl _) _).alloc (by simp) _)).alloc (by simp; omega) _).trans (hb.mono (by simp; omega))).setCell (by simp; omega) _⟩
theorem minus8 (a b : Nat) (ha : a < 256) (hb : b < 256) (w : World) :
    Calls Tryd.prog 50 #[.agg #[.int .u8 a], .agg #[.int .u8 b]] w fun e w' => e = .returned (.agg #[.int .u8 ((a &&& (255 - b) : Nat) : Int)]) ∧ Below w.heap.size w w' := minusC8 a b _ (u8_andNot_nat a b ha hb) w
set_option maxHeartbeats 1000000 in
theorem minusC64 (a b c : Nat) (e : bits .andNot .u64 (a : Int) (b : Int) = (c : Int)) (w : World) :
    Calls Tryd.prog 80 #[.agg #[.int .u64 a], .agg #[.int .u64 b]] w fun e w' => e = .returned (.agg #[.int .u64 c]) ∧ Below w.heap.size w w' := by
  go_enter Tryd.func80, Tryd.ntmps80
  go_wp2_with (go_at_call 12; refine (of64 _ _ _).mono ?_; rintro e w1 ⟨rfl, hb⟩; obtain ⟨hc, hf⟩ := bcell hb)
  exact bodyPost_ret (v := .agg #[.int .u64 c]) (by simp [results, Tryd.results80, go_sem, hc]) rfl ⟨rfl, ((((((Below.refl _ w).alloc (Nat.le_refl _) _).alloc (by simp) _)).alloc (by simp; omega) _).trans (hb.mono (by simp; omega))).setCell (by simp; omega) _⟩
theorem minus64 (a b : Nat) (ha : a < 18446744073709551616) (hb : b < 18446744073709551616) (w : World) :
    Calls Tryd.prog 80 #[.agg #[.int .u64 a], .agg #[.int .u64 b]] w fun e w' => e = .returned (.agg #[.int .u64 ((a &&& (18446744073709551615 - b) : Nat) : Int)]) ∧ Below w.heap.size w w' := minusC64 a b _ (u64_andNot_nat a b ha hb) w
theorem xor_full (n a : Nat) (h : a < 2 ^ n) : (2 ^ n - 1) ^^^ a = 2 ^ n - 1 - a := by
  have e : 2 ^ n - 1 - a = 2 ^ n - (a + 1) := by omega
  rw [e]
  apply Nat.eq_of_testBit_eq; intro i
  rw [Nat.testBit_xor, Nat.testBit_two_pow_sub_one, Nat.testBit_two_pow_sub_succ h]
  by_cases hi : i < n
  · simp [hi]
  · rw [Nat.testBit_lt_two_pow (Nat.lt_of_lt_of_le h (Nat.pow_le_pow_right (by decide) (by omega)))]; simp [hi]
end Go.Proofs.YtemaoijbjhonnaaDoor
