/- Reverse64 turns a word's bits about; a set's mirror. -/
import Derived.Test.YtajfafckhipgeaaDoorNext
namespace Go.Proofs.YtajfafckhipgeaaDoor
open Go.RowKit
theorem sub_div {s i : Nat} (_hs : 0 < s) (_hle : s ≤ i) : (i - s) / s = i / s - 1 := by
  have := Nat.sub_mul_div i s 1
  simpa using this
/-- Groups of s bits change places with their neighbours. -/
def sw (s M x : Nat) : Nat := (x / 2 ^ s &&& M) ||| ((x &&& M) * 2 ^ s % 2 ^ 64)
/-- Where a bit comes from. -/
def swAt (s i : Nat) : Nat := if i / s % 2 = 0 then i + s else i - s
theorem sw_bit (s M x i : Nat) (hs : 0 < s) (hM : ∀ j, j < 64 → M.testBit j = decide (j / s % 2 = 0)) (hi : i < 64) : (sw s M x).testBit i = x.testBit (swAt s i) := by
  unfold sw swAt
  rw [Nat.testBit_or, Nat.testBit_and, Nat.testBit_div_two_pow, Nat.testBit_mod_two_pow, Nat.testBit_mul_two_pow, Nat.testBit_and, hM i hi]
  by_cases h : i / s % 2 = 0
  · rw [if_pos h]
    have h2 : (decide (s ≤ i) && (x.testBit (i - s) && M.testBit (i - s))) = false := by
      by_cases hle : s ≤ i
      · have e : (i - s) / s = i / s - 1 := sub_div hs hle
        rw [hM (i - s) (by omega), e]
        have h1 : 1 ≤ i / s := (Nat.le_div_iff_mul_le hs).2 (by omega)
        simp; omega
      · simp [hle]
    rw [h2]; simp [h, hi, Nat.add_comm]
  · rw [if_neg h]
    have hle : s ≤ i := by
      rcases Nat.lt_or_ge i s with h1 | h1
      · rw [Nat.div_eq_of_lt h1] at h; simp at h
      · exact h1
    have e : (i - s) / s = i / s - 1 := sub_div hs hle
    have h1 : 1 ≤ i / s := (Nat.le_div_iff_mul_le hs).2 (by omega)
    rw [hM (i - s) (by omega), e]
    have h3 : decide ((i / s - 1) % 2 = 0) = true := by simp; omega
    rw [h3]; simp [h, hi, hle]
theorem swEq (s M x : Nat) (hx : x < 18446744073709551616) (hM : M < 18446744073709551616) (d : Int) (hd : d = ((2 ^ s : Nat) : Int)) (m : Int) (hm : m = (M : Int)) :
    bits .or .u64 (bits .and .u64 ((x : Int) / d) m) (IntKind.u64.wrap (bits .and .u64 (x : Int) m * d)) = ((sw s M x : Nat) : Int) ∧ sw s M x < 18446744073709551616 := by
  subst hd hm
  have e1 : (x : Int) / ((2 ^ s : Nat) : Int) = ((x / 2 ^ s : Nat) : Int) := by simp
  have l1 : x / 2 ^ s < 18446744073709551616 := Nat.lt_of_le_of_lt (Nat.div_le_self _ _) hx
  have l2 : x / 2 ^ s &&& M < 18446744073709551616 := Nat.lt_of_le_of_lt Nat.and_le_right hM
  have e2 : IntKind.u64.wrap (((x &&& M : Nat) : Int) * ((2 ^ s : Nat) : Int)) = (((x &&& M) * 2 ^ s % 2 ^ 64 : Nat) : Int) := by
    rw [IntKind.wrap_u64, ← Int.natCast_mul]; generalize (x &&& M) * 2 ^ s = q; omega
  have l3 : (x &&& M) * 2 ^ s % 2 ^ 64 < 18446744073709551616 := Nat.mod_lt _ (by decide)
  rw [e1, u64_and_nat _ _ l1 hM, u64_and_nat _ _ hx hM, e2, u64_or_nat _ _ l2 l3]
  exact ⟨rfl, Nat.or_lt_two_pow (n := 64) l2 l3⟩
/-- The halves change places. -/
def sw32 (x : Nat) : Nat := (x / 2 ^ 32) ||| (x * 2 ^ 32 % 2 ^ 64)
theorem sw32_bit (x i : Nat) (hx : x < 18446744073709551616) (hi : i < 64) : (sw32 x).testBit i = x.testBit (swAt 32 i) := by
  unfold sw32 swAt
  rw [Nat.testBit_or, Nat.testBit_div_two_pow, Nat.testBit_mod_two_pow, Nat.testBit_mul_two_pow]
  by_cases h : i < 32
  · rw [if_pos (by omega)]
    have : ¬ 32 ≤ i := by omega
    simp [this]
  · rw [if_neg (by omega)]
    have h0 : x.testBit (i + 32) = false := Nat.testBit_lt_two_pow (Nat.lt_of_lt_of_le (show x < 2 ^ 64 from hx) (Nat.pow_le_pow_right (by decide) (by omega)))
    have : 32 ≤ i := by omega
    rw [h0]; simp [this, hi]
theorem sw32Eq (x : Nat) (hx : x < 18446744073709551616) : bits .or .u64 ((x : Int) / 4294967296) (IntKind.u64.wrap ((x : Int) * 4294967296)) = ((sw32 x : Nat) : Int) ∧ sw32 x < 18446744073709551616 := by
  have e1 : (x : Int) / 4294967296 = ((x / 2 ^ 32 : Nat) : Int) := by omega
  have e2 : IntKind.u64.wrap ((x : Int) * 4294967296) = ((x * 2 ^ 32 % 2 ^ 64 : Nat) : Int) := by rw [IntKind.wrap_u64]; omega
  have l1 : x / 2 ^ 32 < 18446744073709551616 := Nat.lt_of_le_of_lt (Nat.div_le_self _ _) hx
  have l3 : x * 2 ^ 32 % 2 ^ 64 < 18446744073709551616 := Nat.mod_lt _ (by decide)
  rw [e1, e2, u64_or_nat _ _ l1 l3]
  exact ⟨rfl, Nat.or_lt_two_pow (n := 64) l1 l3⟩
set_option maxHeartbeats 1000000 in
theorem revBC (x y1 y2 y3 : Nat) (e1 : bits .or .u64 (bits .and .u64 ((x : Int) / 256) 71777214294589695) (IntKind.u64.wrap (bits .and .u64 (x : Int) 71777214294589695 * 256)) = (y1 : Int))
    (e2 : bits .or .u64 (bits .and .u64 ((y1 : Int) / 65536) 281470681808895) (IntKind.u64.wrap (bits .and .u64 (y1 : Int) 281470681808895 * 65536)) = (y2 : Int))
    (e3 : bits .or .u64 ((y2 : Int) / 4294967296) (IntKind.u64.wrap ((y2 : Int) * 4294967296)) = (y3 : Int)) (w : World) :
    Calls Tryd.prog 66 #[.int .u64 x] w fun e w' => e = .returned (.int .u64 y3) ∧ w' = w := by
  go_enter Tryd.func66, Tryd.ntmps66
  go_wp2
  go_ret
  exact ⟨rfl, rfl⟩
set_option maxHeartbeats 1000000 in
theorem revC (x y1 y2 y3 z : Nat) (e1 : bits .or .u64 (bits .and .u64 ((x : Int) / 2) 6148914691236517205) (IntKind.u64.wrap (bits .and .u64 (x : Int) 6148914691236517205 * 2)) = (y1 : Int))
    (e2 : bits .or .u64 (bits .and .u64 ((y1 : Int) / 4) 3689348814741910323) (IntKind.u64.wrap (bits .and .u64 (y1 : Int) 3689348814741910323 * 4)) = (y2 : Int))
    (e3 : bits .or .u64 (bits .and .u64 ((y2 : Int) / 16) 1085102592571150095) (IntKind.u64.wrap (bits .and .u64 (y2 : Int) 1085102592571150095 * 16)) = (y3 : Int))
    (h : Hid (∀ W, Calls Tryd.prog 66 #[.int .u64 y3] W fun e w' => e = .returned (.int .u64 z) ∧ w' = W)) (w : World) :
    Calls Tryd.prog 58 #[.int .u64 x] w fun e w' => e = .returned (.int .u64 z) ∧ w' = w := by
  go_enter Tryd.func58, Tryd.ntmps58
  go_wp2_with (go_at_call 66; refine (h.out _).mono ?_; rintro e w1 ⟨rfl, rfl⟩)
  go_ret
  exact ⟨rfl, rfl⟩
def rev (x : Nat) : Nat := sw32 (sw 16 281470681808895 (sw 8 71777214294589695 (sw 4 1085102592571150095 (sw 2 3689348814741910323 (sw 1 6148914691236517205 x)))))
theorem mk1 : ∀ j : Fin 64, (6148914691236517205 : Nat).testBit j.val = decide (j.val / 1 % 2 = 0) := by decide +kernel
theorem mk2 : ∀ j : Fin 64, (3689348814741910323 : Nat).testBit j.val = decide (j.val / 2 % 2 = 0) := by decide +kernel
theorem mk4 : ∀ j : Fin 64, (1085102592571150095 : Nat).testBit j.val = decide (j.val / 4 % 2 = 0) := by decide +kernel
theorem mk8 : ∀ j : Fin 64, (71777214294589695 : Nat).testBit j.val = decide (j.val / 8 % 2 = 0) := by decide +kernel
theorem mk16 : ∀ j : Fin 64, (281470681808895 : Nat).testBit j.val = decide (j.val / 16 % 2 = 0) := by decide +kernel
theorem at_all : ∀ i : Fin 64, swAt 32 i.val < 64 ∧ swAt 16 (swAt 32 i.val) < 64 ∧ swAt 8 (swAt 16 (swAt 32 i.val)) < 64 ∧ swAt 4 (swAt 8 (swAt 16 (swAt 32 i.val))) < 64 ∧ swAt 2 (swAt 4 (swAt 8 (swAt 16 (swAt 32 i.val)))) < 64 ∧ swAt 1 (swAt 2 (swAt 4 (swAt 8 (swAt 16 (swAt 32 i.val))))) = 63 - i.val := by decide +kernel
theorem rev_all (x : Nat) (hx : x < 18446744073709551616) (w : World) :
    Calls Tryd.prog 58 #[.int .u64 x] w fun e w' => e = .returned (.int .u64 (rev x)) ∧ w' = w := by
  obtain ⟨a1, b1⟩ := swEq 1 6148914691236517205 x hx (by decide) 2 rfl 6148914691236517205 rfl
  obtain ⟨a2, b2⟩ := swEq 2 3689348814741910323 _ b1 (by decide) 4 rfl 3689348814741910323 rfl
  obtain ⟨a3, b3⟩ := swEq 4 1085102592571150095 _ b2 (by decide) 16 rfl 1085102592571150095 rfl
  obtain ⟨a4, b4⟩ := swEq 8 71777214294589695 _ b3 (by decide) 256 rfl 71777214294589695 rfl
  obtain ⟨a5, b5⟩ := swEq 16 281470681808895 _ b4 (by decide) 65536 rfl 281470681808895 rfl
  obtain ⟨a6, _⟩ := sw32Eq _ b5
  exact revC x _ _ _ _ a1 a2 a3 (revBC _ _ _ _ a4 a5 a6) w
theorem rev_bit (x i : Nat) (hx : x < 18446744073709551616) (hi : i < 64) : (rev x).testBit i = x.testBit (63 - i) ∧ rev x < 18446744073709551616 := by
  obtain ⟨_, b1⟩ := swEq 1 6148914691236517205 x hx (by decide) 2 rfl 6148914691236517205 rfl
  obtain ⟨_, b2⟩ := swEq 2 3689348814741910323 _ b1 (by decide) 4 rfl 3689348814741910323 rfl
  obtain ⟨_, b3⟩ := swEq 4 1085102592571150095 _ b2 (by decide) 16 rfl 1085102592571150095 rfl
  obtain ⟨_, b4⟩ := swEq 8 71777214294589695 _ b3 (by decide) 256 rfl 71777214294589695 rfl
  obtain ⟨_, b5⟩ := swEq 16 281470681808895 _ b4 (by decide) 65536 rfl 281470681808895 rfl
  obtain ⟨_, b6⟩ := sw32Eq _ b5
  obtain ⟨c1, c2, c3, c4, c5, c6⟩ := at_all ⟨i, hi⟩
  refine ⟨?_, b6⟩
  unfold rev
  rw [sw32_bit _ _ b5 hi, sw_bit 16 _ _ _ (by decide) (fun j hj => mk16 ⟨j, hj⟩) c1, sw_bit 8 _ _ _ (by decide) (fun j hj => mk8 ⟨j, hj⟩) c2, sw_bit 4 _ _ _ (by decide) (fun j hj => mk4 ⟨j, hj⟩) c3, sw_bit 2 _ _ _ (by decide) (fun j hj => mk2 ⟨j, hj⟩) c4, sw_bit 1 _ _ _ (by decide) (fun j hj => mk1 ⟨j, hj⟩) c5]
  exact congrArg x.testBit c6
end Go.Proofs.YtajfafckhipgeaaDoor
