/- The document's bytes, names and numbers: what they answer. -/
import Derived.Test.YtghodeggobgclaaLRow
namespace Go.Proofs.Ytghodeggobgclaa
open Go.RowKit Go.Shelf
set_option maxHeartbeats 1000000 in
theorem rLetter (x : UInt8) (w : World) : Calls Try.prog 40 #[.int .u8 (x.toNat : Int)] w fun e w' => e = .returned (.bool (isLet x)) ∧ w' = w := by
  unfold isLet
  generalize x.toNat = n
  by_cases ha : 97 ≤ n
  · by_cases hb : n ≤ 122
    · have hr : Hid (decide (97 ≤ n ∧ n ≤ 122) = true) := by show _ = _; simp [ha, hb]
      rw [hr.out]
      go_enter Try.func40, Try.ntmps40
      go_wp2
      go_ret
      exact ⟨by first | rfl | (simp; omega), rfl⟩
    · have hr : Hid (decide (97 ≤ n ∧ n ≤ 122) = false) := by show _ = _; simp [hb]
      rw [hr.out]
      go_enter Try.func40, Try.ntmps40
      go_wp2
      go_ret
      exact ⟨by first | rfl | (simp; omega), rfl⟩
  · have hr : Hid (decide (97 ≤ n ∧ n ≤ 122) = false) := by show _ = _; simp [ha]
    rw [hr.out]
    go_enter Try.func40, Try.ntmps40
    go_wp2
    go_ret
    exact ⟨by first | rfl | (simp; omega), rfl⟩
set_option maxHeartbeats 1000000 in
theorem rDigit (x : UInt8) (w : World) : Calls Try.prog 42 #[.int .u8 (x.toNat : Int)] w fun e w' => e = .returned (.bool (isDig x)) ∧ w' = w := by
  unfold isDig
  generalize x.toNat = n
  by_cases ha : 48 ≤ n
  · by_cases hb : n ≤ 57
    · have hr : Hid (decide (48 ≤ n ∧ n ≤ 57) = true) := by show _ = _; simp [ha, hb]
      rw [hr.out]
      go_enter Try.func42, Try.ntmps42
      go_wp2
      go_ret
      exact ⟨by first | rfl | (simp; omega), rfl⟩
    · have hr : Hid (decide (48 ≤ n ∧ n ≤ 57) = false) := by show _ = _; simp [hb]
      rw [hr.out]
      go_enter Try.func42, Try.ntmps42
      go_wp2
      go_ret
      exact ⟨by first | rfl | (simp; omega), rfl⟩
  · have hr : Hid (decide (48 ≤ n ∧ n ≤ 57) = false) := by show _ = _; simp [ha]
    rw [hr.out]
    go_enter Try.func42, Try.ntmps42
    go_wp2
    go_ret
    exact ⟨by first | rfl | (simp; omega), rfl⟩
theorem u8_eq (x y : UInt8) : decide (x = y) = ((x.toNat : Int) == (y.toNat : Int)) := by
  rw [Bool.eq_iff_iff, decide_eq_true_eq, beq_iff_eq]
  constructor
  · rintro rfl; rfl
  · intro h; exact UInt8.toNat_inj.1 (by omega)
set_option maxHeartbeats 2000000 in
theorem rInner (x : UInt8) (w : World) : Calls Try.prog 41 #[.int .u8 (x.toNat : Int)] w fun e w' => e = .returned (.bool (isIn x)) ∧ w' = w := by
  have K1 : Hid (∀ W, Calls Try.prog 40 #[.int .u8 (x.toNat : Int)] W fun e w' => e = .returned (.bool (isLet x)) ∧ w' = W) := fun W => rLetter x W
  have K2 : Hid (∀ W, Calls Try.prog 42 #[.int .u8 (x.toNat : Int)] W fun e w' => e = .returned (.bool (isDig x)) ∧ w' = W) := fun W => rDigit x W
  unfold isIn
  have h45 : Hid (decide (x = 45) = ((x.toNat : Int) == 45)) := u8_eq x 45
  rw [h45.out]
  generalize x.toNat = n at *
  cases hl : isLet x
  · rw [hl] at K1
    cases hd : isDig x
    · rw [hd] at K2
      clear h45
      go_enter Try.func41, Try.ntmps41
      go_wp2_with (first | (go_at_call 40; refine (K1.out _).mono ?_; rintro e w1 ⟨rfl, rfl⟩) | (go_at_call 42; refine (K2.out _).mono ?_; rintro e w2 ⟨rfl, rfl⟩))
      go_ret
      exact ⟨by simp, rfl⟩
    · rw [hd] at K2
      clear h45
      go_enter Try.func41, Try.ntmps41
      go_wp2_with (first | (go_at_call 40; refine (K1.out _).mono ?_; rintro e w1 ⟨rfl, rfl⟩) | (go_at_call 42; refine (K2.out _).mono ?_; rintro e w2 ⟨rfl, rfl⟩))
      go_ret
      exact ⟨rfl, rfl⟩
  · rw [hl] at K1
    clear h45 K2
    go_enter Try.func41, Try.ntmps41
    go_wp2_with (go_at_call 40; refine (K1.out _).mono ?_; rintro e w1 ⟨rfl, rfl⟩)
    go_ret
    exact ⟨by simp, rfl⟩
theorem isMk_eq (x : UInt8) : isMk x = (((x.toNat : Int) == 44) || (((x.toNat : Int) == 58) || (((x.toNat : Int) == 60) || (((x.toNat : Int) == 62) || (((x.toNat : Int) == 61) || (((x.toNat : Int) == 40) || ((x.toNat : Int) == 41))))))) := by
  have h : isMk x = (decide (x = 44) || (decide (x = 58) || (decide (x = 60) || (decide (x = 62) || (decide (x = 61) || (decide (x = 40) || decide (x = 41))))))) := by simp [isMk]
  rw [h, u8_eq x 44, u8_eq x 58, u8_eq x 60, u8_eq x 62, u8_eq x 61, u8_eq x 40, u8_eq x 41]
  rfl
set_option maxHeartbeats 4000000 in
theorem rMark (x : UInt8) (w : World) : Calls Try.prog 45 #[.int .u8 (x.toNat : Int)] w fun e w' => e = .returned (.bool (isMk x)) ∧ w' = w := by
  have h := hide' (isMk_eq x)
  rw [h.out]
  clear h
  generalize x.toNat = n
  go_enter Try.func45, Try.ntmps45
  go_wp2
  all_goals go_ret
  all_goals exact ⟨by first | rfl | (simp [*]; done) | simp [Bool.or_assoc], rfl⟩
end Go.Proofs.Ytghodeggobgclaa
