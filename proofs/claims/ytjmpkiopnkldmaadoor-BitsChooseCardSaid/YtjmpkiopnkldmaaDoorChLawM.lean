/- A search through all words meets what the iterator tells: plain facts. -/
import Derived.Test.YtjmpkiopnkldmaaDoorChN
namespace Go.Proofs.YtjmpkiopnkldmaaDoor
/-- Where the search stands behind the words of a row. -/
def atL : Nat → List Nat → Nat
  | a, [] => a
  | _, x :: l => atL (x + 1) l
theorem atL_snoc : ∀ (l : List Nat) (a t : Nat), atL a (l ++ [t]) = t + 1
  | [], _, _ => rfl
  | x :: l, _, t => atL_snoc l (x + 1) t
theorem atL_cons {l : List Nat} (h : l ≠ []) (a b : Nat) : atL a l = atL b l := by
  cases l with
  | nil => exact absurd rfl h
  | cons x l => rfl
theorem srch_meets (s k : Nat) : ∀ (m a : Nat),
    (∀ pre t, pre ++ [t] <+: srch s k m a → atL a pre ≤ t ∧ t < a + m ∧ okC s k t = true ∧ ∀ b, atL a pre ≤ b → b < t → okC s k b = false) ∧
    (atL a (srch s k m a) ≤ a + m ∧ ∀ b, atL a (srch s k m a) ≤ b → b < a + m → okC s k b = false)
  | 0, a => by
    refine ⟨fun pre t h => ?_, Nat.le_refl _, fun b h1 h2 => ?_⟩
    · obtain ⟨r, h⟩ := h
      have : (pre ++ [t] ++ r).length = 0 := by rw [h]; rfl
      simp at this
    · have h1' : a ≤ b := h1
      omega
  | m + 1, a => by
    obtain ⟨i1, i2, i3⟩ := srch_meets s k m (a + 1)
    cases hok : okC s k a with
    | true =>
      have e : srch s k (m + 1) a = a :: srch s k m (a + 1) := by
        show cond (okC s k a) _ _ = _
        rw [hok]; rfl
      rw [e]
      refine ⟨fun pre t h => ?_, by show atL (a + 1) _ ≤ _; omega, fun b h1 h2 => i3 b h1 (by omega)⟩
      cases pre with
      | nil =>
        obtain ⟨r, h⟩ := h
        have : t = a := by simpa using (List.cons.inj (show t :: r = a :: _ from h)).1
        subst this
        exact ⟨Nat.le_refl _, by omega, hok, fun b h1 h2 => by have h1' : t ≤ b := h1; omega⟩
      | cons x pre =>
        obtain ⟨r, h⟩ := h
        have hh := List.cons.inj (show x :: (pre ++ [t] ++ r) = a :: _ from by simpa using h)
        obtain ⟨h1, h2⟩ := hh
        subst h1
        obtain ⟨j1, j2, j3, j4⟩ := i1 pre t ⟨r, h2⟩
        exact ⟨j1, by omega, j3, j4⟩
    | false =>
      have e : srch s k (m + 1) a = srch s k m (a + 1) := by
        show cond (okC s k a) _ _ = _
        rw [hok]; rfl
      rw [e]
      have low : ∀ (l : List Nat) b, atL a l ≤ b → b = a ∨ atL (a + 1) l ≤ b := fun l b h => by
        cases l with
        | nil =>
          have h' : a ≤ b := h
          by_cases e : b = a
          · exact .inl e
          · exact .inr (show a + 1 ≤ b by omega)
        | cons x l => exact .inr h
      have up : ∀ (l : List Nat), atL a l ≤ atL (a + 1) l := fun l => by
        cases l with
        | nil => exact Nat.le_succ _
        | cons x l => exact Nat.le_refl _
      refine ⟨fun pre t h => ?_, by have := up (srch s k m (a + 1)); omega, fun b h1 h2 => ?_⟩
      · obtain ⟨j1, j2, j3, j4⟩ := i1 pre t h
        refine ⟨Nat.le_trans (up pre) j1, by omega, j3, fun b h1 h2 => ?_⟩
        rcases low pre b h1 with h | h
        · rw [h]; exact hok
        · exact j4 b h h2
      · rcases low _ b h1 with h | h
        · rw [h]; exact hok
        · exact i3 b h (by omega)
theorem sub_pop : ∀ s a : Fin 256, Nat.land a.val (Nat.sub 255 s.val) = 0 → pop8 a.val ≤ pop8 s.val := by decide +kernel
/-- The words that are wanted, whatever k is. -/
def okZ (s : Nat) (z : Int) (a : Nat) : Bool := (a &&& (255 - s) == 0) && decide ((pop8 a : Int) = z)
theorem beq_nat (x y : Nat) : (x == y) = Nat.beq x y := by rw [Bool.eq_iff_iff, beq_iff_eq, Nat.beq_eq]
theorem okZ_nat (s k a : Nat) : okZ s (k : Int) a = okC s k a := by
  unfold okZ okC
  rw [beq_nat]
  show (Nat.beq (Nat.land a (Nat.sub 255 s)) 0 && _) = cond (Nat.beq (Nat.land a (Nat.sub 255 s)) 0) _ _
  cases h : Nat.beq (Nat.land a (Nat.sub 255 s)) 0 with
  | true =>
    show decide _ = Nat.beq (pop8 a) k
    rw [Bool.eq_iff_iff, decide_eq_true_iff, Nat.beq_eq]
    omega
  | false => rfl
/-- What the iterator tells, whatever k is. -/
def chZ (z : Int) (s : Nat) : List Nat := if 0 ≤ z ∧ z ≤ (pop8 s : Int) then chF z.toNat s else []
theorem chZ_meets (z : Int) {s : Nat} (hs : s < 256) :
    (∀ pre t, pre ++ [t] <+: chZ z s → atL 0 pre ≤ t ∧ t < 256 ∧ okZ s z t = true ∧ ∀ b, atL 0 pre ≤ b → b < t → okZ s z b = false) ∧
    (atL 0 (chZ z s) ≤ 256 ∧ ∀ b, atL 0 (chZ z s) ≤ b → b < 256 → okZ s z b = false) := by
  unfold chZ
  by_cases h : 0 ≤ z ∧ z ≤ (pop8 s : Int)
  · rw [if_pos h]
    obtain ⟨k, rfl⟩ := Int.eq_ofNat_of_zero_le h.1
    have hk : k ≤ pop8 s := by omega
    have hk9 : k < 9 := by
      have : pop8 s ≤ 8 := by
        show s % 2 + (s / 2 % 2 + (s / 4 % 2 + (s / 8 % 2 + (s / 16 % 2 + (s / 32 % 2 + (s / 64 % 2 + s / 128 % 2)))))) ≤ 8
        omega
      omega
    have e := ch_eq ⟨s, hs⟩ ⟨k, hk9⟩ hk
    have e' : chF ((k : Int)).toNat s = srch s k 256 0 := e
    rw [e']
    obtain ⟨h1, h2, h3⟩ := srch_meets s k 256 0
    refine ⟨fun pre t hp => ?_, by omega, fun b hb h' => by rw [okZ_nat]; exact h3 b hb (by omega)⟩
    obtain ⟨j1, j2, j3, j4⟩ := h1 pre t hp
    exact ⟨j1, by omega, by rw [okZ_nat]; exact j3, fun b h1 h2 => by rw [okZ_nat]; exact j4 b h1 h2⟩
  · rw [if_neg h]
    refine ⟨fun pre t ⟨r, hr⟩ => ?_, Nat.zero_le _, fun b _ hb => ?_⟩
    · have : (pre ++ [t] ++ r).length = 0 := by rw [hr]; rfl
      simp at this
    · unfold okZ
      cases hsub : (b &&& (255 - s) == 0) with
      | false => rfl
      | true =>
        have hp := sub_pop ⟨s, hs⟩ ⟨b, hb⟩ (show b &&& (255 - s) = 0 by simpa using hsub)
        have hp' : pop8 b ≤ pop8 s := hp
        show decide _ = false
        rw [decide_eq_false_iff_not]
        intro e
        apply h
        omega
end Go.Proofs.YtjmpkiopnkldmaaDoor
