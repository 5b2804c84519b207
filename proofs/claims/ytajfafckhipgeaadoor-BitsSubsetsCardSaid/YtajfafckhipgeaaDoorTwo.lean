/- Two sets: And, Or, Minus, Xor, Not, Sub, Cmp, by their words. -/
import Derived.Test.YtajfafckhipgeaaDoorHas
namespace Go.Proofs.YtajfafckhipgeaaDoor
open Go.RowKit
set_option maxHeartbeats 1000000 in
theorem andC64 (a b c : Nat) (e : bits .and .u64 (a : Int) (b : Int) = (c : Int)) (w : World) :
    Calls Tryd.prog 10 #[.agg #[.int .u64 a], .agg #[.int .u64 b]] w fun e w' => e = .returned (.agg #[.int .u64 c]) ∧ Below w.heap.size w w' := by
  go_enter Tryd.func10, Tryd.ntmps10
  go_wp2_with (go_at_call 8; refine (of64 _ _ _).mono ?_; rintro e w1 ⟨rfl, hb⟩; obtain ⟨hc, hf⟩ := bcell hb)
  exact bodyPost_ret (v := .agg #[.int .u64 c]) (by simp [results, Tryd.results10, go_sem, hc]) rfl ⟨rfl, ((((((Below.refl _ w).alloc (Nat.le_refl _) _).alloc (by simp) _)).alloc (by simp; omega) _).trans (hb.mono (by simp; omega))).setCell (by simp; omega) _⟩
theorem and64 (a b : Nat) (ha : a < 18446744073709551616) (hb : b < 18446744073709551616) (w : World) :
    Calls Tryd.prog 10 #[.agg #[.int .u64 a], .agg #[.int .u64 b]] w fun e w' => e = .returned (.agg #[.int .u64 ((a &&& b : Nat) : Int)]) ∧ Below w.heap.size w w' := andC64 a b _ (u64_and_nat a b ha hb) w
set_option maxHeartbeats 1000000 in
theorem orC64 (a b c : Nat) (e : bits .or .u64 (a : Int) (b : Int) = (c : Int)) (w : World) :
    Calls Tryd.prog 11 #[.agg #[.int .u64 a], .agg #[.int .u64 b]] w fun e w' => e = .returned (.agg #[.int .u64 c]) ∧ Below w.heap.size w w' := by
  go_enter Tryd.func11, Tryd.ntmps11
  go_wp2_with (go_at_call 8; refine (of64 _ _ _).mono ?_; rintro e w1 ⟨rfl, hb⟩; obtain ⟨hc, hf⟩ := bcell hb)
  exact bodyPost_ret (v := .agg #[.int .u64 c]) (by simp [results, Tryd.results11, go_sem, hc]) rfl ⟨rfl, ((((((Below.refl _ w).alloc (Nat.le_refl _) _).alloc (by simp) _)).alloc (by simp; omega) _).trans (hb.mono (by simp; omega))).setCell (by simp; omega) _⟩
theorem or64 (a b : Nat) (ha : a < 18446744073709551616) (hb : b < 18446744073709551616) (w : World) :
    Calls Tryd.prog 11 #[.agg #[.int .u64 a], .agg #[.int .u64 b]] w fun e w' => e = .returned (.agg #[.int .u64 ((a ||| b : Nat) : Int)]) ∧ Below w.heap.size w w' := orC64 a b _ (u64_or_nat a b ha hb) w
set_option maxHeartbeats 1000000 in
theorem xorC64 (a b c : Nat) (e : bits .xor .u64 (a : Int) (b : Int) = (c : Int)) (w : World) :
    Calls Tryd.prog 13 #[.agg #[.int .u64 a], .agg #[.int .u64 b]] w fun e w' => e = .returned (.agg #[.int .u64 c]) ∧ Below w.heap.size w w' := by
  go_enter Tryd.func13, Tryd.ntmps13
  go_wp2_with (go_at_call 8; refine (of64 _ _ _).mono ?_; rintro e w1 ⟨rfl, hb⟩; obtain ⟨hc, hf⟩ := bcell hb)
  exact bodyPost_ret (v := .agg #[.int .u64 c]) (by simp [results, Tryd.results13, go_sem, hc]) rfl ⟨rfl, ((((((Below.refl _ w).alloc (Nat.le_refl _) _).alloc (by simp) _)).alloc (by simp; omega) _).trans (hb.mono (by simp; omega))).setCell (by simp; omega) _⟩
theorem xor64 (a b : Nat) (ha : a < 18446744073709551616) (hb : b < 18446744073709551616) (w : World) :
    Calls Tryd.prog 13 #[.agg #[.int .u64 a], .agg #[.int .u64 b]] w fun e w' => e = .returned (.agg #[.int .u64 ((a ^^^ b : Nat) : Int)]) ∧ Below w.heap.size w w' := xorC64 a b _ (u64_xor_nat a b ha hb) w
set_option maxHeartbeats 1000000 in
theorem minusC8 (a b c : Nat) (e : bits .andNot .u8 (a : Int) (b : Int) = (c : Int)) (w : World) :
    Calls Tryd.prog 69 #[.agg #[.int .u8 a], .agg #[.int .u8 b]] w fun e w' => e = .returned (.agg #[.int .u8 c]) ∧ Below w.heap.size w w' := by
  go_enter Tryd.func69, Tryd.ntmps69
  go_wp2_with (go_at_call 35; refine (of8 _ _ _).mono ?_; rintro e w1 ⟨rfl, hb⟩; obtain ⟨hc, hf⟩ := bcell hb)
  exact bodyPost_ret (v := .agg #[.int .u8 c]) (by simp [results, Tryd.results69, go_sem, hc]) rfl ⟨rfl, ((((((Below.refl _ w).alloc (Nat.le_refl _) _).alloc (by simp) _)).alloc (by simp; omega) _).trans (hb.mono (by simp; omega))).setCell (by simp; omega) _⟩
theorem minus8 (a b : Nat) (ha : a < 256) (hb : b < 256) (w : World) :
    Calls Tryd.prog 69 #[.agg #[.int .u8 a], .agg #[.int .u8 b]] w fun e w' => e = .returned (.agg #[.int .u8 ((a &&& (255 - b) : Nat) : Int)]) ∧ Below w.heap.size w w' := minusC8 a b _ (u8_andNot_nat a b ha hb) w
set_option maxHeartbeats 1000000 in
theorem minusC32 (a b c : Nat) (e : bits .andNot .u32 (a : Int) (b : Int) = (c : Int)) (w : World) :
    Calls Tryd.prog 67 #[.agg #[.int .u32 a], .agg #[.int .u32 b]] w fun e w' => e = .returned (.agg #[.int .u32 c]) ∧ Below w.heap.size w w' := by
  go_enter Tryd.func67, Tryd.ntmps67
  go_wp2_with (go_at_call 29; refine (of32 _ _ _).mono ?_; rintro e w1 ⟨rfl, hb⟩; obtain ⟨hc, hf⟩ := bcell hb)
  exact bodyPost_ret (v := .agg #[.int .u32 c]) (by simp [results, Tryd.results67, go_sem, hc]) rfl ⟨rfl, ((((((Below.refl _ w).alloc (Nat.le_refl _) _).alloc (by simp) _)).alloc (by simp; omega) _).trans (hb.mono (by simp; omega))).setCell (by simp; omega) _⟩
theorem minus32 (a b : Nat) (ha : a < 4294967296) (hb : b < 4294967296) (w : World) :
    Calls Tryd.prog 67 #[.agg #[.int .u32 a], .agg #[.int .u32 b]] w fun e w' => e = .returned (.agg #[.int .u32 ((a &&& (4294967295 - b) : Nat) : Int)]) ∧ Below w.heap.size w w' := minusC32 a b _ (u32_andNot_nat a b ha hb) w
set_option maxHeartbeats 1000000 in
theorem minusC64 (a b c : Nat) (e : bits .andNot .u64 (a : Int) (b : Int) = (c : Int)) (w : World) :
    Calls Tryd.prog 12 #[.agg #[.int .u64 a], .agg #[.int .u64 b]] w fun e w' => e = .returned (.agg #[.int .u64 c]) ∧ Below w.heap.size w w' := by
  go_enter Tryd.func12, Tryd.ntmps12
  go_wp2_with (go_at_call 8; refine (of64 _ _ _).mono ?_; rintro e w1 ⟨rfl, hb⟩; obtain ⟨hc, hf⟩ := bcell hb)
  exact bodyPost_ret (v := .agg #[.int .u64 c]) (by simp [results, Tryd.results12, go_sem, hc]) rfl ⟨rfl, ((((((Below.refl _ w).alloc (Nat.le_refl _) _).alloc (by simp) _)).alloc (by simp; omega) _).trans (hb.mono (by simp; omega))).setCell (by simp; omega) _⟩
theorem minus64 (a b : Nat) (ha : a < 18446744073709551616) (hb : b < 18446744073709551616) (w : World) :
    Calls Tryd.prog 12 #[.agg #[.int .u64 a], .agg #[.int .u64 b]] w fun e w' => e = .returned (.agg #[.int .u64 ((a &&& (18446744073709551615 - b) : Nat) : Int)]) ∧ Below w.heap.size w w' := minusC64 a b _ (u64_andNot_nat a b ha hb) w
set_option maxHeartbeats 1000000 in
theorem sub64 (a b : Nat) (ha : a < 18446744073709551616) (hb : b < 18446744073709551616) (w : World) :
    Calls Tryd.prog 15 #[.agg #[.int .u64 a], .agg #[.int .u64 b]] w fun e w' => e = .returned (.bool ((a &&& (18446744073709551615 - b) : Nat) == 0)) ∧ Below w.heap.size w w' := by
  go_enter Tryd.func15, Tryd.ntmps15
  go_wp2
  go_ret
  exact ⟨ret_bool (by rw [u64_andNot_nat a b ha hb, eq_cast]), ((Below.refl _ _).alloc (Nat.le_refl _) _).alloc (by simp) _⟩
theorem xor_full (n a : Nat) (h : a < 2 ^ n) : (2 ^ n - 1) ^^^ a = 2 ^ n - 1 - a := by
  have e : 2 ^ n - 1 - a = 2 ^ n - (a + 1) := by omega
  rw [e]
  apply Nat.eq_of_testBit_eq; intro i
  rw [Nat.testBit_xor, Nat.testBit_two_pow_sub_one, Nat.testBit_two_pow_sub_succ h]
  by_cases hi : i < n
  · simp [hi]
  · rw [Nat.testBit_lt_two_pow (Nat.lt_of_lt_of_le h (Nat.pow_le_pow_right (by decide) (by omega)))]; simp [hi]
set_option maxHeartbeats 1000000 in
theorem notC64 (a c : Nat) (e : bits .xor .u64 IntKind.u64.max (a : Int) = (c : Int)) (w : World) :
    Calls Tryd.prog 14 #[.agg #[.int .u64 a]] w fun e w' => e = .returned (.agg #[.int .u64 c]) ∧ Below w.heap.size w w' := by
  have hs : IntKind.u64.signed = false := rfl
  go_enter Tryd.func14, Tryd.ntmps14
  go_wp2_with (go_at_call 8; refine (of64 _ _ _).mono ?_; rintro e w1 ⟨rfl, hb⟩; obtain ⟨hc, hf⟩ := bcell hb)
  exact bodyPost_ret (v := .agg #[.int .u64 c]) (by simp [results, Tryd.results14, go_sem, hc]) rfl ⟨rfl, (((((Below.refl _ w).alloc (Nat.le_refl _) _).alloc (by simp) _)).trans (hb.mono (by simp; omega))).setCell (by simp) _⟩
theorem not64 (a : Nat) (ha : a < 18446744073709551616) (w : World) :
    Calls Tryd.prog 14 #[.agg #[.int .u64 a]] w fun e w' => e = .returned (.agg #[.int .u64 ((18446744073709551615 - a : Nat) : Int)]) ∧ Below w.heap.size w w' :=
  notC64 a _ (by rw [show IntKind.u64.max = ((18446744073709551615 : Nat) : Int) from rfl, u64_xor_nat 18446744073709551615 a (by omega) ha]; exact congrArg Int.ofNat (xor_full 64 a ha)) w
set_option maxHeartbeats 1000000 in
theorem cmp64 (a b : Nat) (w : World) :
    Calls Tryd.prog 17 #[.agg #[.int .u64 a], .agg #[.int .u64 b]] w fun e w' => e = .returned (.int .i64 (if a < b then -1 else if b < a then 1 else 0)) ∧ Below w.heap.size w w' := by
  go_enter Tryd.func17, Tryd.ntmps17
  go_wp2
  all_goals go_ret
  all_goals exact ⟨rfl, ((Below.refl _ _).alloc (Nat.le_refl _) _).alloc (by simp) _⟩
end Go.Proofs.YtajfafckhipgeaaDoor
