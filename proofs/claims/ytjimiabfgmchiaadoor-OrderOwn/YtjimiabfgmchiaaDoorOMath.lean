/- Orders by their rows of bits: plain facts. -/
import Derived.Test.YtjimiabfgmchiaaDoorMath
namespace Go.Proofs.YtjimiabfgmchiaaDoor
/-- One turn: what leads to k leads to what k leads to. -/
def turn (k : Nat) (R : Nat → Nat → Bool) : Nat → Nat → Bool := fun a b => R a b || (R a k && R k b)
/-- The turns of all places below n. -/
def clo : Nat → (Nat → Nat → Bool) → (Nat → Nat → Bool)
  | 0, R => R
  | n + 1, R => turn n (clo n R)
theorem turn_col (k : Nat) (R : Nat → Nat → Bool) (a : Nat) : turn k R a k = R a k := by
  unfold turn; cases R a k <;> simp
theorem turn_row (k : Nat) (R : Nat → Nat → Bool) (b : Nat) : turn k R k b = R k b := by
  unfold turn; cases R k b <;> simp
theorem clo_trans (R : Nat → Nat → Bool) : ∀ (n m : Nat), m < n → ∀ a b, clo n R a m = true → clo n R m b = true → clo n R a b = true
  | 0, _, h => by omega
  | n + 1, m, hm => by
    intro a b h1 h2
    have ih := clo_trans R n
    show turn n (clo n R) a b = true
    have h1' : turn n (clo n R) a m = true := h1
    have h2' : turn n (clo n R) m b = true := h2
    clear h1 h2
    generalize clo n R = C at *
    by_cases e : m = n
    · subst e
      rw [turn_col] at h1'
      rw [turn_row] at h2'
      unfold turn
      simp [h1', h2']
    · have hl : m < n := by omega
      unfold turn at *
      simp only [Bool.or_eq_true, Bool.and_eq_true] at *
      rcases h1' with h1 | ⟨h1, h3⟩
      · rcases h2' with h2 | ⟨h2, h4⟩
        · exact .inl (ih m hl a b h1 h2)
        · exact .inr ⟨ih m hl a n h1 h2, h4⟩
      · rcases h2' with h2 | ⟨h2, h4⟩
        · exact .inr ⟨h1, ih m hl n b h3 h2⟩
        · exact .inr ⟨h1, h4⟩
theorem clo_in {R : Nat → Nat → Bool} {N : Nat} (h : ∀ a b, R a b = true → a < N ∧ b < N) : ∀ (n a b : Nat), clo n R a b = true → a < N ∧ b < N
  | 0, a, b, e => h a b e
  | n + 1, a, b, e => by
    have e' : turn n (clo n R) a b = true := e
    unfold turn at e'
    simp only [Bool.or_eq_true, Bool.and_eq_true] at e'
    rcases e' with e | ⟨e1, e2⟩
    · exact clo_in h n a b e
    · exact ⟨(clo_in h n _ _ e1).1, (clo_in h n _ _ e2).2⟩
/-- A strict order of n places, and its words. -/
structure Ord (n : Nat) (R : Nat → Nat → Bool) (Pf Sf : Nat → Nat) : Prop where
  n64 : n ≤ 64
  inn : ∀ a b, R a b = true → a < n ∧ b < n
  irr : ∀ a, R a a = false
  tr : ∀ a b c, R a b = true → R b c = true → R a c = true
  suc : ∀ a, a < n → ∀ b, (Sf a).testBit b = R a b
  pre : ∀ b, b < n → ∀ a, (Pf b).testBit a = R a b
theorem small_of_bits {x n : Nat} (h : ∀ i, x.testBit i = true → i < n) : x < 2 ^ n :=
  Nat.lt_pow_two_of_testBit x fun i hi => by
    cases e : x.testBit i with
    | false => rfl
    | true => have := h i e; omega
theorem small64 {x n : Nat} (hn : n ≤ 64) (h : ∀ i, x.testBit i = true → i < n) : x < 18446744073709551616 :=
  Nat.lt_of_lt_of_le (small_of_bits h) (show 2 ^ n ≤ 2 ^ 64 from Nat.pow_le_pow_right (by decide) hn)
section
variable {n : Nat} {R : Nat → Nat → Bool} {Pf Sf : Nat → Nat}
theorem Ord.pre_lt (h : Ord n R Pf Sf) {b : Nat} (hb : b < n) : Pf b < 18446744073709551616 := small64 h.n64 fun i hi => (h.inn i b (by rw [← h.pre b hb]; exact hi)).1
theorem Ord.suc_lt (h : Ord n R Pf Sf) {a : Nat} (ha : a < n) : Sf a < 18446744073709551616 := small64 h.n64 fun i hi => (h.inn a i (by rw [← h.suc a ha]; exact hi)).2
end
/-- a is all within b, by words. -/
theorem sub_bits {a b : Nat} (ha : a < 18446744073709551616) (hb : b < 18446744073709551616) : ((a &&& (18446744073709551615 - b)) == 0) = true ↔ ∀ i, a.testBit i = true → b.testBit i = true := by
  have hbit : ∀ i, i < 64 → (18446744073709551615 - b).testBit i = !b.testBit i := fun i hi => by
    have e : 18446744073709551615 - b = 2 ^ 64 - (b + 1) := by omega
    rw [e, Nat.testBit_two_pow_sub_succ (show b < 2 ^ 64 from hb)]
    simp [hi]
  rw [beq_iff_eq]
  constructor
  · intro h i hi
    have h64 : i < 64 := by
      rcases Nat.lt_or_ge i 64 with h | h
      · exact h
      · rw [Nat.testBit_lt_two_pow (Nat.lt_of_lt_of_le (show a < 2 ^ 64 from ha) (Nat.pow_le_pow_right (by decide) h))] at hi; cases hi
    have := congrArg (fun x => x.testBit i) h
    simp only [Nat.testBit_and, hi, hbit i h64, Bool.true_and, Nat.zero_testBit] at this
    simpa using this
  · intro h
    apply Nat.eq_of_testBit_eq
    intro i
    rw [Nat.testBit_and, Nat.zero_testBit]
    by_cases h64 : i < 64
    · rw [hbit i h64]
      cases e : a.testBit i with
      | false => rfl
      | true => rw [h i e]; rfl
    · rw [Nat.testBit_lt_two_pow (Nat.lt_of_lt_of_le (show a < 2 ^ 64 from ha) (Nat.pow_le_pow_right (by decide) (by omega)))]; rfl
/-- May a come next? -/
def rdy (n : Nat) (R : Nat → Nat → Bool) (d a : Nat) : Prop := a < n ∧ d.testBit a = false ∧ ∀ b, R b a = true → d.testBit b = true
/-- Is all that comes ahead in it? -/
def isDown (n : Nat) (R : Nat → Nat → Bool) (d : Nat) : Prop := (∀ a, d.testBit a = true → a < n) ∧ ∀ a b, d.testBit a = true → R b a = true → d.testBit b = true
theorem Ord.some_ready {n : Nat} {R : Nat → Nat → Bool} {Pf Sf : Nat → Nat} (h : Ord n R Pf Sf) {d : Nat} : ∀ (m a : Nat), Pf a ≤ m → a < n → d.testBit a = false → ∃ b, rdy n R d b := by
  intro m
  induction m with
  | zero =>
    intro a hm ha hd
    refine ⟨a, ha, hd, fun b hb => ?_⟩
    rw [← h.pre a ha, show Pf a = 0 by omega, Nat.zero_testBit] at hb
    cases hb
  | succ m ih =>
    intro a hm ha hd
    by_cases hall : ∀ b, R b a = true → d.testBit b = true
    · exact ⟨a, ha, hd, hall⟩
    · obtain ⟨b, hb⟩ := Classical.not_forall.1 hall
      obtain ⟨hb1, hb2⟩ := Classical.not_imp.1 hb
      have hbn := (h.inn b a hb1).1
      refine ih b ?_ hbn (by simpa using hb2)
      have hor : Pf b ||| Pf a = Pf a := by
        apply Nat.eq_of_testBit_eq
        intro i
        rw [Nat.testBit_or, h.pre b hbn, h.pre a ha]
        cases e : R i b with
        | false => rfl
        | true => rw [h.tr i b a e hb1]; rfl
      have hle : Pf b ≤ Pf a := by rw [← hor]; exact Nat.left_le_or
      have hne : Pf b ≠ Pf a := fun e => by
        have h1 := h.pre b hbn b
        rw [e, h.pre a ha, hb1, h.irr] at h1
        cases h1
      omega
/-- How many of the first n places are in d. -/
def cnt (n d : Nat) : Nat := (List.range n).countP fun i => d.testBit i
theorem cnt_full {n d : Nat} (h : cnt n d = n) : ∀ a, a < n → d.testBit a = true := fun a ha => by
  have h2 := (List.countP_eq_length (l := List.range n) (p := fun i => d.testBit i)).1 (by rw [List.length_range]; exact h)
  exact h2 a (List.mem_range.2 ha)
theorem cnt_some {n d : Nat} (h : cnt n d < n) : ∃ a, a < n ∧ d.testBit a = false := by
  apply Classical.byContradiction
  intro hc
  have : cnt n d = n := by
    have h2 := (List.countP_eq_length (l := List.range n) (p := fun i => d.testBit i)).2 (fun a ha => by
      cases e : d.testBit a with
      | true => rfl
      | false => exact absurd ⟨a, List.mem_range.1 ha, e⟩ hc)
    rwa [List.length_range] at h2
  omega
theorem cnt_zero (n : Nat) : cnt n 0 = 0 := by
  unfold cnt
  rw [List.countP_eq_zero]
  intro a _
  simp
theorem cnt_add : ∀ (n d a : Nat), d.testBit a = false → cnt n (d ||| 2 ^ a) = cnt n d + (if a < n then 1 else 0)
  | 0, d, a, _ => rfl
  | n + 1, d, a, h => by
    have ih := cnt_add n d a h
    unfold cnt at *
    rw [List.range_succ, List.countP_append, List.countP_append, ih, List.countP_singleton, List.countP_singleton, Nat.testBit_or, Nat.testBit_two_pow]
    by_cases e : a = n
    · subst e
      simp [h]
    · by_cases hl : a < n
      · have : a < n + 1 := by omega
        simp [e, hl, this]; omega
      · have : ¬ a < n + 1 := by omega
        simp [e, hl, this]
end Go.Proofs.YtjimiabfgmchiaaDoor
