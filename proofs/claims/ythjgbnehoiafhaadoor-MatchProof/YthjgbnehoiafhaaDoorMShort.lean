/- firstShort: the first list of so many rows that have too few places. -/
import Derived.Test.YthjgbnehoiafhaaDoorMUnion
import Derived.Test.YthjgbnehoiafhaaDoorMCmp
import Derived.Test.YthjgbnehoiafhaaDoorC63
import Derived.Test.YthjgbnehoiafhaaDoorC6M
import Derived.Test.YthjgbnehoiafhaaDoorMLeast
namespace Go.Proofs.YthjgbnehoiafhaaDoor.M
open Go.RowKit Go.Shelf
attribute [local go_sem] Oper.semAt_some
/-- A set of rows with too few places. -/
def Bad (R : Nat → Nat) (k t : Nat) : Prop := (nums (unL R (nums t))).length < k
/-- Its rows, rising. -/
def lst (t : Nat) : List Int := (nums t).map fun i => (i.val : Int)
theorem lst_len (t : Nat) : (lst t).length = (nums t).length := by simp [lst]
theorem lst_ints (t : Nat) : intsOf (nums t) = I.cellsI (lst t) := by simp [intsOf, I.cellsI, lst]
/-- What has been found of these. -/
inductive Fnd (R : Nat → Nat) (k : Nat) (l : List Nat) (B : Nat) (V : World) : Value → Prop
  | no (h : ∀ t ∈ l, ¬ Bad R k t) : Fnd R k l B V (.slice none 0 0)
  | yes (g cap t : Nat) (hm : t ∈ l) (hb : Bad R k t) (hl : ∀ t' ∈ l, Bad R k t' → ¬ I.cmpL (lst t') (lst t) < 0) (ho : V.ownsRow B 3 1 (.slice (some ⟨g, 0, none⟩) (nums t).length cap) (nums t).length (I.cellsI (lst t))) : Fnd R k l B V (.slice (some ⟨g, 0, none⟩) (nums t).length cap)
theorem cmpI_neg {x y : Int} : I.cmpI x y < 0 ↔ x < y := by unfold I.cmpI; split <;> (try split) <;> omega
/-- Lists of one length are in order. -/
theorem cmpL_trans : ∀ {a b c : List Int}, a.length = b.length → b.length = c.length → ¬ I.cmpL a b < 0 → ¬ I.cmpL b c < 0 → ¬ I.cmpL a c < 0
  | [], [], [], _, _, _, _ => by decide
  | x :: a, y :: b, z :: c, h1, h2, h3, h4 => by
    simp only [List.length_cons, Nat.add_right_cancel_iff] at h1 h2
    have ih := cmpL_trans (a := a) (b := b) (c := c) h1 h2
    simp only [I.cmpL] at h3 h4 ⊢
    by_cases e1 : I.cmpI x y = 0
    · rw [if_pos e1] at h3
      have e1' := I.cmpI_zero.1 e1
      subst e1'
      by_cases e2 : I.cmpI x z = 0
      · rw [if_pos e2] at h4 ⊢
        exact ih h3 h4
      · rw [if_neg e2] at h4 ⊢
        exact h4
    · rw [if_neg e1] at h3
      rw [cmpI_neg] at h3
      have n1 : x ≠ y := fun e => e1 (I.cmpI_zero.2 e)
      by_cases e2 : I.cmpI y z = 0
      · have e2' := I.cmpI_zero.1 e2
        subst e2'
        rw [if_neg e1, cmpI_neg]
        exact h3
      · rw [if_neg e2, cmpI_neg] at h4
        have : ¬ I.cmpI x z = 0 := fun e => by have := I.cmpI_zero.1 e; omega
        rw [if_neg this, cmpI_neg]
        omega
theorem cmpL_self : ∀ (a : List Int), I.cmpL a a = 0
  | [] => rfl
  | x :: a => by
    simp only [I.cmpL]
    rw [if_pos (I.cmpI_zero.2 rfl)]
    exact cmpL_self a
theorem cmpL_anti : ∀ {a b : List Int}, a.length = b.length → I.cmpL a b < 0 → ¬ I.cmpL b a < 0
  | [], [], _, h => absurd h (by decide)
  | x :: a, y :: b, h1, h => by
    simp only [List.length_cons, Nat.add_right_cancel_iff] at h1
    simp only [I.cmpL] at h ⊢
    by_cases e1 : I.cmpI x y = 0
    · have e1' := I.cmpI_zero.1 e1
      subst e1'
      rw [if_pos e1] at h ⊢
      exact cmpL_anti h1 h
    · rw [if_neg e1, cmpI_neg] at h
      have : ¬ I.cmpI y x = 0 := fun e => by have := I.cmpI_zero.1 e; omega
      rw [if_neg this, cmpI_neg]
      omega
end Go.Proofs.YthjgbnehoiafhaaDoor.M
