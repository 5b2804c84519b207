/- What a call adds to the gauge is within the bound. -/
import Derived.Test.YtckmffoeabhffabDoorJ26
import Derived.Test.YtckmffoeabhffabDoorJ30
namespace Go.Proofs.YtckmffoeabhffabDoor.S
open Go.RowKit Go.Shelf
theorem bd_num : ∀ n, n ≤ 12 → ∀ U : Nat, 2 * (cntB n 0 + cntB n 0 * U + (cntB n 0 * (n * U * n) + n * U * (n + n * n))) ≤ W2.bd n U := by
  intro n hn U
  unfold W2.bd
  rcases (show n = 0 ∨ n = 1 ∨ n = 2 ∨ n = 3 ∨ n = 4 ∨ n = 5 ∨ n = 6 ∨ n = 7 ∨ n = 8 ∨ n = 9 ∨ n = 10 ∨ n = 11 ∨ n = 12 by omega) with rfl | rfl | rfl | rfl | rfl | rfl | rfl | rfl | rfl | rfl | rfl | rfl | rfl
  · rw [show cntB 0 0 = 0 by decide +kernel, show ways 0 0 = 1 by decide +kernel]; omega
  · rw [show cntB 1 0 = 1 by decide +kernel, show ways 1 0 = 1 by decide +kernel]; omega
  · rw [show cntB 2 0 = 3 by decide +kernel, show ways 2 0 = 2 by decide +kernel]; omega
  · rw [show cntB 3 0 = 8 by decide +kernel, show ways 3 0 = 5 by decide +kernel]; omega
  · rw [show cntB 4 0 = 23 by decide +kernel, show ways 4 0 = 15 by decide +kernel]; omega
  · rw [show cntB 5 0 = 75 by decide +kernel, show ways 5 0 = 52 by decide +kernel]; omega
  · rw [show cntB 6 0 = 278 by decide +kernel, show ways 6 0 = 203 by decide +kernel]; omega
  · rw [show cntB 7 0 = 1155 by decide +kernel, show ways 7 0 = 877 by decide +kernel]; omega
  · rw [show cntB 8 0 = 5295 by decide +kernel, show ways 8 0 = 4140 by decide +kernel]; omega
  · rw [show cntB 9 0 = 26442 by decide +kernel, show ways 9 0 = 21147 by decide +kernel]; omega
  · rw [show cntB 10 0 = 142417 by decide +kernel, show ways 10 0 = 115975 by decide +kernel]; omega
  · rw [show cntB 11 0 = 820987 by decide +kernel, show ways 11 0 = 678570 by decide +kernel]; omega
  · rw [show cntB 12 0 = 5034584 by decide +kernel, show ways 12 0 = 4213597 by decide +kernel]; omega
def mostG (P : Pb) : Nat := if chkN P = 0 then W2.bd P.who.length P.users.toNat else 0
theorem gc_sum {P : Pb} {k a b c a' b' c' : Nat} (hk : k ≤ 2) (h : GcB P k a b c a' b' c') : a ≤ a' ∧ b ≤ b' ∧ c ≤ c' ∧ a' ≤ a + 2000000000000 ∧ b' ≤ b + 2000000000000 ∧ c' ≤ c + 2000000000000 ∧ (a' + b' + c') - (a + b + c) ≤ mostG P := by
  unfold mostG
  by_cases hP : chkN P = 0
  · rw [if_pos hP]
    obtain ⟨⟨h1, h2⟩, ⟨h3, h4⟩, h5, h6⟩ := h.2 hP
    obtain ⟨h12, hU0, hU, _⟩ := chkN_zero hP
    obtain ⟨g1, g2, g3⟩ := gE_le hP
    have hb := bd_num P.who.length h12 P.users.toNat
    have k1 : k * gK P ≤ 2 * gK P := Nat.mul_le_mul_right _ hk
    have k2 : k * (gK P * P.users.toNat) ≤ 2 * (gK P * P.users.toNat) := Nat.mul_le_mul_right _ hk
    have k3 : k * gE P ≤ 2 * gE P := Nat.mul_le_mul_right _ hk
    have e1 : cntB P.who.length 0 = gK P := rfl
    have e2 : cntB P.who.length 0 * (P.who.length * P.users.toNat * P.who.length) + P.who.length * P.users.toNat * (P.who.length + P.who.length * P.who.length) = gE P := rfl
    rw [e2, e1] at hb
    generalize gE P = E at *
    generalize gK P * P.users.toNat = KU at *
    generalize gK P = K at *
    omega
  · rw [if_neg hP]
    obtain ⟨h1, h2, h3⟩ := h.1 hP
    omega
end Go.Proofs.YtckmffoeabhffabDoor.S
