/- Two sets: And, Or, Minus, Xor, Not, Sub, Cmp, by their words. -/
import Derived.Test.YtpbjmdkfijlooaaGreatDoorHas
namespace Go.Proofs.YtpbjmdkfijlooaaGreatDoor
open Go.RowKit
set_option maxHeartbeats 1000000 in
theorem orC8 (a b c : Nat) (e : bits .or .u8 (a : Int) (b : Int) = (c : Int)) (w : World) :
    Calls Tryz.prog 91 #[.agg #[.int .u8 a], .agg #[.int .u8 b]] w fun e w' => e = .returned (.agg #[.int .u8 c]) ∧ Below w.heap.size w w' := by
  go_enter Tryz.func91, Tryz.ntmps91
  go_wp2_with (go_at_call 61; refine (of8 _ _ _).mono ?_; rintro e w1 ⟨rfl, hb⟩; obtain ⟨hc, hf⟩ := bcell hb)
  exact bodyPost_ret (v := .agg #[.int .u8 c]) (by simp [results, Tryz.results91, go_sem, hc]) rfl ⟨rfl, ((((((Below.refl _ w).alloc (Nat.le_refl _) _).alloc (by simp) _)).alloc (by simp; omega) _).trans (hb.mono (by simp; omega))).setCell (by simp; omega) _⟩
theorem or8 (a b : Nat) (ha : a < 256) (hb : b < 256) (w : World) :
    Calls Tryz.prog 91 #[.agg #[.int .u8 a], .agg #[.int .u8 b]] w fun e w' => e = .returned (.agg #[.int .u8 ((a ||| b : Nat) : Int)]) ∧ Below w.heap.size w w' := orC8 a b _ (u8_or_nat a b ha hb) w
set_option maxHeartbeats 1000000 in
theorem orC64 (a b c : Nat) (e : bits .or .u64 (a : Int) (b : Int) = (c : Int)) (w : World) :
    Calls Tryz.prog 83 #[.agg #[.int .u64 a], .agg #[.int .u64 b]] w fun e w' => e = .returned (.agg #[.int .u64 c]) ∧ Below w.heap.size w w' := by
  go_enter Tryz.func83, Tryz.ntmps83
  go_wp2_with (go_at_call 42; refine (of64 _ _ _).mono ?_; rintro e w1 ⟨rfl, hb⟩; obtain ⟨hc, hf⟩ := bcell hb)
  exact bodyPost_ret (v := .agg #[.int .u64 c]) (by simp [results, Tryz.results83, go_sem, hc]) rfl ⟨rfl, ((((((Below.refl _ w).alloc (Nat.le_refl _) _).alloc (by simp) _)).alloc (by simp; omega) _).trans (hb.mono (by simp; omega))).setCell (by simp; omega) _⟩
theorem or64 (a b : Nat) (ha : a < 18446744073709551616) (hb : b < 18446744073709551616) (w : World) :
    Calls Tryz.prog 83 #[.agg #[.int .u64 a], .agg #[.int .u64 b]] w fun e w' => e = .returned (.agg #[.int .u64 ((a ||| b : Nat) : Int)]) ∧ Below w.heap.size w w' := orC64 a b _ (u64_or_nat a b ha hb) w
set_option maxHeartbeats 1000000 in
theorem minusC8 (a b c : Nat) (e : bits .andNot .u8 (a : Int) (b : Int) = (c : Int)) (w : World) :
    Calls Tryz.prog 93 #[.agg #[.int .u8 a], .agg #[.int .u8 b]] w fun e w' => e = .returned (.agg #[.int .u8 c]) ∧ Below w.heap.size w w' := by
  go_enter Tryz.func93, Tryz.ntmps93
  go_wp2_with (go_at_call 61; refine (of8 _ _ _).mono ?_; rintro e w1 ⟨rfl, hb⟩; obtain ⟨hc, hf⟩ := bcell hb)
  exact bodyPost_ret (v := .agg #[.int .u8 c]) (by simp [results, Tryz.results93, go_sem, hc]) rfl ⟨rfl, ((((((Below.refl _ w).alloc (Nat.le_refl _) _).alloc (by simp) _)).alloc (by simp; omega) _).trans (hb.mono (by simp; omega))).setCell (by simp; omega) _⟩
theorem minus8 (a b : Nat) (ha : a < 256) (hb : b < 256) (w : World) :
    Calls Tryz.prog 93 #[.agg #[.int .u8 a], .agg #[.int .u8 b]] w fun e w' => e = .returned (.agg #[.int .u8 ((a &&& (255 - b) : Nat) : Int)]) ∧ Below w.heap.size w w' := minusC8 a b _ (u8_andNot_nat a b ha hb) w
set_option maxHeartbeats 1000000 in
theorem minusC16 (a b c : Nat) (e : bits .andNot .u16 (a : Int) (b : Int) = (c : Int)) (w : World) :
    Calls Tryz.prog 97 #[.agg #[.int .u16 a], .agg #[.int .u16 b]] w fun e w' => e = .returned (.agg #[.int .u16 c]) ∧ Below w.heap.size w w' := by
  go_enter Tryz.func97, Tryz.ntmps97
  go_wp2_with (go_at_call 4; refine (of16 _ _ _).mono ?_; rintro e w1 ⟨rfl, hb⟩; obtain ⟨hc, hf⟩ := bcell hb)
  exact bodyPost_ret (v := .agg #[.int .u16 c]) (by simp [results, Tryz.results97, go_sem, hc]) rfl ⟨rfl, ((((((Below.refl _ w).alloc (Nat.le_refl _) _).alloc (by simp) _)).alloc (by simp; omega) _).trans (hb.mono (by simp; omega))).setCell (by simp; omega) _⟩
theorem minus16 (a b : Nat) (ha : a < 65536) (hb : b < 65536) (w : World) :
    Calls Tryz.prog 97 #[.agg #[.int .u16 a], .agg #[.int .u16 b]] w fun e w' => e = .returned (.agg #[.int .u16 ((a &&& (65535 - b) : Nat) : Int)]) ∧ Below w.heap.size w w' := minusC16 a b _ (u16_andNot_nat a b ha hb) w
set_option maxHeartbeats 1000000 in
theorem minusC32 (a b c : Nat) (e : bits .andNot .u32 (a : Int) (b : Int) = (c : Int)) (w : World) :
    Calls Tryz.prog 100 #[.agg #[.int .u32 a], .agg #[.int .u32 b]] w fun e w' => e = .returned (.agg #[.int .u32 c]) ∧ Below w.heap.size w w' := by
  go_enter Tryz.func100, Tryz.ntmps100
  go_wp2_with (go_at_call 5; refine (of32 _ _ _).mono ?_; rintro e w1 ⟨rfl, hb⟩; obtain ⟨hc, hf⟩ := bcell hb)
  exact bodyPost_ret (v := .agg #[.int .u32 c]) (by simp [results, Tryz.results100, go_sem, hc]) rfl ⟨rfl, ((((((Below.refl _ w).alloc (Nat.le_refl _) _).alloc (by simp) _)).alloc (by simp; omega) _).trans (hb.mono (by simp; omega))).setCell (by simp; omega) _⟩
theorem minus32 (a b : Nat) (ha : a < 4294967296) (hb : b < 4294967296) (w : World) :
    Calls Tryz.prog 100 #[.agg #[.int .u32 a], .agg #[.int .u32 b]] w fun e w' => e = .returned (.agg #[.int .u32 ((a &&& (4294967295 - b) : Nat) : Int)]) ∧ Below w.heap.size w w' := minusC32 a b _ (u32_andNot_nat a b ha hb) w
set_option maxHeartbeats 1000000 in
theorem minusC64 (a b c : Nat) (e : bits .andNot .u64 (a : Int) (b : Int) = (c : Int)) (w : World) :
    Calls Tryz.prog 85 #[.agg #[.int .u64 a], .agg #[.int .u64 b]] w fun e w' => e = .returned (.agg #[.int .u64 c]) ∧ Below w.heap.size w w' := by
  go_enter Tryz.func85, Tryz.ntmps85
  go_wp2_with (go_at_call 42; refine (of64 _ _ _).mono ?_; rintro e w1 ⟨rfl, hb⟩; obtain ⟨hc, hf⟩ := bcell hb)
  exact bodyPost_ret (v := .agg #[.int .u64 c]) (by simp [results, Tryz.results85, go_sem, hc]) rfl ⟨rfl, ((((((Below.refl _ w).alloc (Nat.le_refl _) _).alloc (by simp) _)).alloc (by simp; omega) _).trans (hb.mono (by simp; omega))).setCell (by simp; omega) _⟩
theorem minus64 (a b : Nat) (ha : a < 18446744073709551616) (hb : b < 18446744073709551616) (w : World) :
    Calls Tryz.prog 85 #[.agg #[.int .u64 a], .agg #[.int .u64 b]] w fun e w' => e = .returned (.agg #[.int .u64 ((a &&& (18446744073709551615 - b) : Nat) : Int)]) ∧ Below w.heap.size w w' := minusC64 a b _ (u64_andNot_nat a b ha hb) w
theorem xor_full (n a : Nat) (h : a < 2 ^ n) : (2 ^ n - 1) ^^^ a = 2 ^ n - 1 - a := by
  have e : 2 ^ n - 1 - a = 2 ^ n - (a + 1) := by omega
  rw [e]
  apply Nat.eq_of_testBit_eq; intro i
  rw [Nat.testBit_xor, Nat.testBit_two_pow_sub_one, Nat.testBit_two_pow_sub_succ h]
  by_cases hi : i < n
  · simp [hi]
  · rw [Nat.testBit_lt_two_pow (Nat.lt_of_lt_of_le h (Nat.pow_le_pow_right (by decide) (by omega)))]; simp [hi]
set_option maxHeartbeats 1000000 in
theorem notC16 (a c : Nat) (e : bits .xor .u16 IntKind.u16.max (a : Int) = (c : Int)) (w : World) :
    Calls Tryz.prog 20 #[.agg #[.int .u16 a]] w fun e w' => e = .returned (.agg #[.int .u16 c]) ∧ Below w.heap.size w w' := by
  have hs : IntKind.u16.signed = false := rfl
  go_enter Tryz.func20, Tryz.ntmps20
  go_wp2_with (go_at_call 4; refine (of16 _ _ _).mono ?_; rintro e w1 ⟨rfl, hb⟩; obtain ⟨hc, hf⟩ := bcell hb)
  exact bodyPost_ret (v := .agg #[.int .u16 c]) (by simp [results, Tryz.results20, go_sem, hc]) rfl ⟨rfl, (((((Below.refl _ w).alloc (Nat.le_refl _) _).alloc (by simp) _)).trans (hb.mono (by simp; omega))).setCell (by simp) _⟩
theorem not16 (a : Nat) (ha : a < 65536) (w : World) :
    Calls Tryz.prog 20 #[.agg #[.int .u16 a]] w fun e w' => e = .returned (.agg #[.int .u16 ((65535 - a : Nat) : Int)]) ∧ Below w.heap.size w w' :=
  notC16 a _ (by rw [show IntKind.u16.max = ((65535 : Nat) : Int) from rfl, u16_xor_nat 65535 a (by omega) ha]; exact congrArg Int.ofNat (xor_full 16 a ha)) w
set_option maxHeartbeats 1000000 in
theorem notC32 (a c : Nat) (e : bits .xor .u32 IntKind.u32.max (a : Int) = (c : Int)) (w : World) :
    Calls Tryz.prog 23 #[.agg #[.int .u32 a]] w fun e w' => e = .returned (.agg #[.int .u32 c]) ∧ Below w.heap.size w w' := by
  have hs : IntKind.u32.signed = false := rfl
  go_enter Tryz.func23, Tryz.ntmps23
  go_wp2_with (go_at_call 5; refine (of32 _ _ _).mono ?_; rintro e w1 ⟨rfl, hb⟩; obtain ⟨hc, hf⟩ := bcell hb)
  exact bodyPost_ret (v := .agg #[.int .u32 c]) (by simp [results, Tryz.results23, go_sem, hc]) rfl ⟨rfl, (((((Below.refl _ w).alloc (Nat.le_refl _) _).alloc (by simp) _)).trans (hb.mono (by simp; omega))).setCell (by simp) _⟩
theorem not32 (a : Nat) (ha : a < 4294967296) (w : World) :
    Calls Tryz.prog 23 #[.agg #[.int .u32 a]] w fun e w' => e = .returned (.agg #[.int .u32 ((4294967295 - a : Nat) : Int)]) ∧ Below w.heap.size w w' :=
  notC32 a _ (by rw [show IntKind.u32.max = ((4294967295 : Nat) : Int) from rfl, u32_xor_nat 4294967295 a (by omega) ha]; exact congrArg Int.ofNat (xor_full 32 a ha)) w
end Go.Proofs.YtpbjmdkfijlooaaGreatDoor
