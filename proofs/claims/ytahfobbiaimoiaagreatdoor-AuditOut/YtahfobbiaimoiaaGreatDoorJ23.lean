/- wakes answers true. -/
import Derived.Test.YtahfobbiaimoiaaGreatDoorJ06
import Derived.Test.YtahfobbiaimoiaaGreatDoorJ12
import Derived.Test.YtahfobbiaimoiaaGreatDoorJ22
namespace Go.Proofs.YtahfobbiaimoiaaGreatDoor.O
open Go.RowKit Go.Shelf
def L2 : List (Int × Int) := [(0, 1), (1, 2)]
theorem good2 : goodP 3 L2 := ⟨by omega, fun p hp => by
  rcases List.mem_cons.1 hp with rfl | hp
  · unfold okP; decide
  · rcases List.mem_cons.1 hp with rfl | hp
    · unfold okP; decide
    · cases hp⟩
theorem ord2 : ∀ a b : Fin 3, ordL 3 L2 a.val b.val = decide (a.val < b.val) := by decide
theorem ncyc2 : ¬ cycL 3 L2 := by
  rintro ⟨a, ha, h⟩
  rw [ord2 ⟨a, ha⟩ ⟨a, ha⟩] at h
  simp at h
section
variable {Pf Sf : Nat → Nat} (h : Ord 3 (ordL 3 L2) Pf Sf)
include h
theorem suc2 (a : Nat) (ha : a < 3) (b : Nat) : (Sf a).testBit b = decide (a < b ∧ b < 3) := by
  rw [h.suc a ha]
  by_cases hb : b < 3
  · rw [ord2 ⟨a, ha⟩ ⟨b, hb⟩]; simp [hb]
  · cases e : ordL 3 L2 a b with
    | true => exact absurd (h.inn a b e).2 hb
    | false => simp [hb]
theorem pre2 (b : Nat) (hb : b < 3) : Pf b = 2 ^ b - 1 := by
  apply Nat.eq_of_testBit_eq
  intro a
  rw [h.pre b hb, Nat.testBit_two_pow_sub_one]
  by_cases ha : a < 3
  · rw [ord2 ⟨a, ha⟩ ⟨b, hb⟩]
  · cases e : ordL 3 L2 a b with
    | true => exact absurd (h.inn a b e).1 ha
    | false => simp; omega
theorem rdy2 : rdW 3 Pf 1 = 2 := by
  have hl : nums ((2 ^ 3 - 1) &&& (18446744073709551615 - 1)) = [1, 2] := by decide +kernel
  unfold rdW
  rw [hl]
  have e1 : rdF Pf 1 1 = 2 := by unfold rdF; rw [pre2 h 1 (by omega)]; decide +kernel
  have e2 : rdF Pf 1 2 = 0 := by unfold rdF; rw [pre2 h 2 (by omega)]; decide +kernel
  show (0 ||| rdF Pf 1 1) ||| rdF Pf 1 2 = 2
  rw [e1, e2]
  rfl
end
end Go.Proofs.YtahfobbiaimoiaaGreatDoor.O
