/- Above and Depth, plain. -/
import Derived.Test.YtegpgjiccpglbaaDoorYMath
namespace Go.Proofs.YtegpgjiccpglbaaDoor
/-- The places below k that stand over a. -/
def abvN (J : Nat → Nat) (a : Nat) : Nat → Nat
  | 0 => 0
  | k + 1 => if (bel J k).testBit a then abvN J a k ||| 2 ^ k else abvN J a k
def abv (J : Nat → Nat) (a : Nat) : Nat := abvN J a 64
theorem abvN_lt (J : Nat → Nat) (a : Nat) : ∀ k, k ≤ 64 → abvN J a k < 18446744073709551616
  | 0, _ => by show 0 < 18446744073709551616; decide
  | k + 1, h => by
    unfold abvN; split
    · exact Nat.or_lt_two_pow (n := 64) (abvN_lt J a k (by omega)) (pow_lt64 (by omega))
    · exact abvN_lt J a k (by omega)
theorem abvN_bit (J : Nat → Nat) (a b : Nat) : ∀ k, (abvN J a k).testBit b = (decide (b < k) && (bel J b).testBit a)
  | 0 => by simp [abvN]
  | k + 1 => by
    unfold abvN
    by_cases e : b = k
    · subst e
      cases h : (bel J b).testBit a with
      | true => rw [if_pos rfl, Nat.testBit_or, Nat.testBit_two_pow]; simp
      | false => rw [if_neg (by simp), abvN_bit J a b b]; simp
    · have h1 : decide (b < k + 1) = decide (b < k) := by rw [decide_eq_decide]; omega
      have h2 : ¬ k = b := fun h => e h.symm
      split
      · rw [Nat.testBit_or, Nat.testBit_two_pow, abvN_bit J a b k, h1]; simp [h2]
      · rw [abvN_bit J a b k, h1]
theorem abv_bit (J : Nat → Nat) (a b : Nat) (hb : b < 64) : (abv J a).testBit b = (bel J b).testBit a := by
  unfold abv; rw [abvN_bit]; simp [hb]
theorem abv_lt (J : Nat → Nat) (a : Nat) : abv J a < 18446744073709551616 := abvN_lt J a 64 (by decide)
/-- How long ways from a set last, up to f. -/
def depF (J : Nat → Nat) : Nat → Nat → Nat
  | 0, _ => 0
  | f + 1, s => if s = 0 then 0 else depF J f (nxt J s) + 1
def dep (J : Nat → Nat) (a : Nat) : Nat := depF J 64 (J a)
theorem depF_zero (J : Nat → Nat) : ∀ f, depF J f 0 = 0
  | 0 => rfl
  | f + 1 => by unfold depF; rw [if_pos rfl]
def WayS (J : Nat → Nat) (n s : Nat) : Prop := ∃ a b, s.testBit a = true ∧ Way J n a b
theorem wayS_zero {J : Nat → Nat} {n : Nat} : ¬ WayS J n 0 := by rintro ⟨a, b, h, _⟩; simp at h
theorem some_bit {s : Nat} (h : s ≠ 0) : ∃ a, s.testBit a = true := by
  apply Classical.byContradiction
  intro h2
  apply h
  apply Nat.eq_of_testBit_eq; intro i
  rw [Nat.zero_testBit]
  cases hi : s.testBit i with
  | false => rfl
  | true => exact absurd ⟨i, hi⟩ h2
theorem wayS_next {J : Nat → Nat} {n s : Nat} : WayS J (n + 1) s ↔ WayS J n (nxt J s) := by
  constructor
  · rintro ⟨a, b, h, w⟩
    obtain ⟨c, e, w2⟩ := w.head n rfl
    exact ⟨c, b, nxt_bit.2 ⟨a, h, e⟩, w2⟩
  · rintro ⟨c, b, h, w⟩
    obtain ⟨a, h1, e⟩ := nxt_bit.1 h
    exact ⟨a, b, h1, w.cons e⟩
theorem depF_iff (J : Nat → Nat) : ∀ f n s, n < depF J f s ↔ n < f ∧ WayS J n s
  | 0, n, s => by simp [depF]
  | f + 1, n, s => by
    unfold depF
    by_cases h : s = 0
    · subst h; rw [if_pos rfl]
      exact ⟨fun h => by omega, fun h => absurd h.2 wayS_zero⟩
    · rw [if_neg h]
      cases n with
      | zero =>
        obtain ⟨a, ha⟩ := some_bit h
        exact ⟨fun _ => ⟨by omega, a, a, ha, .nil a⟩, fun _ => by omega⟩
      | succ m =>
        rw [wayS_next, Nat.add_lt_add_iff_right, Nat.add_lt_add_iff_right]
        exact depF_iff J f m (nxt J s)
theorem dep_iff {J : Nat → Nat} (hw : Wf J) (hy : Acy J) {a : Nat} (ha : a < 64) (n : Nat) : n ≤ dep J a ↔ ∃ b, Way J n a b := by
  cases n with
  | zero => exact ⟨fun _ => ⟨a, .nil a⟩, fun _ => Nat.zero_le _⟩
  | succ m =>
    show m < depF J 64 (J a) ↔ _
    rw [depF_iff]
    constructor
    · rintro ⟨_, c, b, h, w⟩
      exact ⟨b, w.cons ⟨ha, h⟩⟩
    · rintro ⟨b, w⟩
      have := w.short hw hy ha
      obtain ⟨c, e, w2⟩ := w.head m rfl
      exact ⟨by omega, c, b, e.2, w2⟩
theorem dep_le {J : Nat → Nat} (hw : Wf J) (hy : Acy J) {a : Nat} (ha : a < 64) : dep J a ≤ 63 := by
  obtain ⟨b, w⟩ := (dep_iff hw hy ha (dep J a)).1 (Nat.le_refl _)
  exact w.short hw hy ha
/-- One link down is one less deep. -/
theorem dep_link {J : Nat → Nat} (hw : Wf J) (hy : Acy J) {a b : Nat} (e : E J a b) : dep J b + 1 ≤ dep J a := by
  obtain ⟨c, w⟩ := (dep_iff hw hy (e.lt hw) (dep J b)).1 (Nat.le_refl _)
  exact (dep_iff hw hy e.1 _).2 ⟨c, w.cons e⟩
theorem dep_some {J : Nat → Nat} (hw : Wf J) (hy : Acy J) {a : Nat} (ha : a < 64) (h : dep J a ≠ 0) : ∃ b, E J a b ∧ dep J a = dep J b + 1 := by
  obtain ⟨c, w⟩ := (dep_iff hw hy ha (dep J a)).1 (Nat.le_refl _)
  obtain ⟨m, hm⟩ : ∃ m, dep J a = m + 1 := ⟨dep J a - 1, by omega⟩
  obtain ⟨b, e, w2⟩ := w.head m hm
  refine ⟨b, e, ?_⟩
  have h1 := (dep_iff hw hy (e.lt hw) m).2 ⟨c, w2⟩
  have h2 := dep_link hw hy e
  omega
/-- The level k links below a and one more. -/
def levN (J : Nat → Nat) (a : Nat) : Nat → Nat
  | 0 => J a
  | k + 1 => nxt J (levN J a k)
theorem levN_lt {J : Nat → Nat} (hw : Wf J) {a : Nat} (ha : a < 64) : ∀ k, levN J a k < 18446744073709551616
  | 0 => hw a ha
  | _ + 1 => nxt_lt hw _
theorem levN_bit {J : Nat → Nat} {a : Nat} (ha : a < 64) {b : Nat} : ∀ k, (levN J a k).testBit b = true → Way J (k + 1) a b
  | 0, h => .snoc (.nil a) ⟨ha, h⟩
  | k + 1, h => by
    obtain ⟨c, h1, e⟩ := nxt_bit.1 h
    exact (levN_bit ha k h1).snoc e
theorem levN_end {J : Nat → Nat} (hw : Wf J) (hy : Acy J) {a : Nat} (ha : a < 64) {k : Nat} (h : levN J a k ≠ 0) : k < 63 := by
  obtain ⟨b, hb⟩ := some_bit h
  have := (levN_bit ha k hb).short hw hy ha
  omega
end Go.Proofs.YtegpgjiccpglbaaDoor
