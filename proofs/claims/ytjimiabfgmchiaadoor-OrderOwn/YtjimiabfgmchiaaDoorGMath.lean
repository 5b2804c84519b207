/- Heaps: plain facts. -/
import Derived.Test.YtjimiabfgmchiaaDoorRows
namespace Go.Proofs.YtjimiabfgmchiaaDoor
/-- An entry: its id, its time, its turn. -/
structure Ent where
  id : Int
  tm : Int
  turn : Int
def ltE (x y : Ent) : Prop := x.tm < y.tm ∨ (x.tm = y.tm ∧ x.turn < y.turn)
theorem ltE.asymm {x y : Ent} (h : ltE x y) : ¬ ltE y x := by unfold ltE at *; omega
theorem ltE.trans {x y z : Ent} (h : ltE x y) (k : ltE y z) : ltE x z := by unfold ltE at *; omega
theorem ltE.irrefl (x : Ent) : ¬ ltE x x := by unfold ltE; omega
/-- not less is carried on. -/
theorem geE {x y z : Ent} (h : ¬ ltE x y) (k : ¬ ltE y z) : ¬ ltE x z := by unfold ltE at *; omega
theorem geE_lt {x y z : Ent} (h : ¬ ltE x z) (k : ltE y z) : ¬ ltE x y := fun h2 => h (h2.trans k)
theorem ltE.or {x y : Ent} (h : ¬ ltE x y) (hne : x.turn ≠ y.turn) : ltE y x := by unfold ltE at *; omega
def par (k : Nat) : Nat := (k - 1) / 2
theorem par_lt {k : Nat} (h : 0 < k) : par k < k := by unfold par; omega
def swF {α : Type} (f : Nat → α) (i j k : Nat) : α := if k = i then f j else if k = j then f i else f k
theorem swF_i {α : Type} (f : Nat → α) (i j : Nat) : swF f i j i = f j := if_pos rfl
theorem swF_j {α : Type} (f : Nat → α) (i j : Nat) : swF f i j j = f i := by
  unfold swF
  by_cases h : j = i
  · rw [if_pos h, h]
  · rw [if_neg h, if_pos rfl]
theorem swF_o {α : Type} (f : Nat → α) {i j k : Nat} (h : k ≠ i) (h2 : k ≠ j) : swF f i j k = f k := by unfold swF; rw [if_neg h, if_neg h2]
def OKh (f : Nat → Ent) (k : Nat) : Prop := ¬ ltE (f k) (f (par k))
def IsHeap (f : Nat → Ent) (n : Nat) : Prop := ∀ k, 0 < k → k < n → OKh f k
def UpAt (f : Nat → Ent) (n j : Nat) : Prop := (∀ k, 0 < k → k < n → k ≠ j → OKh f k) ∧ (∀ k, 0 < k → k < n → par k = j → 0 < j → ¬ ltE (f k) (f (par j)))
theorem up_done {f : Nat → Ent} {n j : Nat} (h : UpAt f n j) (hj : j = 0 ∨ OKh f j) : IsHeap f n := fun k h0 hk => by
  by_cases e : k = j
  · subst e
    rcases hj with hj | hj
    · omega
    · exact hj
  · exact h.1 k h0 hk e
theorem up_step {f : Nat → Ent} {n j : Nat} (h : UpAt f n j) (h0 : 0 < j) (hj : j < n) (hl : ltE (f j) (f (par j))) : UpAt (swF f (par j) j) n (par j) := by
  have hp := par_lt h0
  refine ⟨fun k k0 hk hne => ?_, fun k k0 hk e hi => ?_⟩
  · unfold OKh
    have hpk := par_lt k0
    by_cases e : k = j
    · subst e
      rw [swF_j, swF_i]
      exact hl.asymm
    · rw [swF_o f hne e]
      by_cases e1 : par k = j
      · rw [e1, swF_j]
        exact h.2 k k0 hk e1 h0
      · by_cases e2 : par k = par j
        · rw [e2, swF_i]
          have hk2 := h.1 k k0 hk e
          unfold OKh at hk2
          rw [e2] at hk2
          exact geE_lt hk2 hl
        · rw [swF_o f e2 e1]
          exact h.1 k k0 hk e
  · have hpp := par_lt hi
    have hpk := par_lt k0
    rw [swF_o f (show par (par j) ≠ par j by omega) (by omega)]
    have hOKi : ¬ ltE (f (par j)) (f (par (par j))) := h.1 (par j) hi (by omega) (by omega)
    by_cases e1 : k = j
    · subst e1; rw [swF_j]; exact hOKi
    · rw [swF_o f (by omega) e1]
      have hk2 := h.1 k k0 hk e1
      unfold OKh at hk2
      rw [e] at hk2
      exact geE hk2 hOKi
/-- Sifting down at i; e: i itself may come ahead of what stands over it. -/
def DW (f : Nat → Ent) (n i : Nat) (e : Prop) : Prop := (∀ k, 0 < k → k < n → par k ≠ i → (e → k ≠ i) → OKh f k) ∧ (∀ k, 0 < k → k < n → par k = i → 0 < i → ¬ ltE (f k) (f (par i)))
theorem dw_step {f : Nat → Ent} {n i j : Nat} {e : Prop} (h : DW f n i e) (hj : j < n) (j0 : 0 < j) (hpj : par j = i) (hl : ltE (f j) (f i)) (hmin : ∀ k, 0 < k → k < n → par k = i → k ≠ j → ¬ ltE (f k) (f j)) : DW (swF f i j) n j False := by
  have hij : i < j := by have := par_lt j0; omega
  refine ⟨fun k k0 hk hne _ => ?_, fun k k0 hk ek _ => ?_⟩
  · unfold OKh
    have hpk := par_lt k0
    by_cases e1 : k = i
    · subst e1
      rw [swF_i, swF_o f (by omega) (by omega)]
      exact h.2 j j0 hj hpj k0
    · by_cases e2 : k = j
      · subst e2
        rw [swF_j, hpj, swF_i]
        exact hl.asymm
      · rw [swF_o f e1 e2]
        by_cases e3 : par k = i
        · rw [e3, swF_i]; exact hmin k k0 hk e3 e2
        · rw [swF_o f e3 hne]
          exact h.1 k k0 hk e3 (fun _ => e1)
  · have hpk := par_lt k0
    rw [hpj, swF_i, swF_o f (by omega) (by omega)]
    have := h.1 k k0 hk (by omega) (fun _ => by omega)
    unfold OKh at this
    rwa [ek] at this
theorem dw_heap {f : Nat → Ent} {n i : Nat} (h : DW f n i False) (hc : ∀ k, 0 < k → k < n → par k = i → OKh f k) : IsHeap f n := fun k k0 hk => by
  by_cases e : par k = i
  · exact hc k k0 hk e
  · exact h.1 k k0 hk e (fun x => x.elim)
theorem dw_up {f : Nat → Ent} {n i : Nat} {e : Prop} (h : DW f n i e) (hc : ∀ k, 0 < k → k < n → par k = i → OKh f k) : UpAt f n i :=
  ⟨fun k k0 hk hne => by
    by_cases e : par k = i
    · exact hc k k0 hk e
    · exact h.1 k k0 hk e (fun _ => hne), h.2⟩
theorem dw_start {f : Nat → Ent} {n i : Nat} (h : IsHeap f (n + 1)) (hi : i < n) : DW (swF f i n) n i True := by
  refine ⟨fun k k0 hk hne he => ?_, fun k k0 hk ek i0 => ?_⟩
  · have hpk := par_lt k0
    unfold OKh
    rw [swF_o f (he trivial) (by omega), swF_o f hne (by omega)]
    exact h k k0 (by omega)
  · have hpk := par_lt k0
    have hpi := par_lt i0
    rw [swF_o f (by omega) (by omega), swF_o f (by omega) (by omega)]
    have h1 := h k k0 (by omega)
    have h2 := h i i0 (by omega)
    unfold OKh at h1 h2
    rw [ek] at h1
    exact geE h1 h2
theorem IsHeap.less {f : Nat → Ent} {n m : Nat} (h : IsHeap f n) (hm : m ≤ n) : IsHeap f m := fun k k0 hk => h k k0 (by omega)
theorem IsHeap.congr {f g : Nat → Ent} {n : Nat} (h : IsHeap f n) (e : ∀ k, k < n → g k = f k) : IsHeap g n := fun k k0 hk => by
  unfold OKh; rw [e k hk, e _ (Nat.lt_trans (par_lt k0) hk)]; exact h k k0 hk
theorem up_start {f : Nat → Ent} {n : Nat} (h : IsHeap f n) : UpAt f (n + 1) n :=
  ⟨fun k k0 hk hne => h k k0 (by omega), fun k k0 hk e _ => by have := par_lt k0; omega⟩
theorem heap_root {f : Nat → Ent} {n : Nat} (h : IsHeap f n) : ∀ k, k < n → ¬ ltE (f k) (f 0) := by
  intro k
  induction k using Nat.strongRecOn with
  | _ k ih =>
    intro hk
    by_cases e : k = 0
    · subst e; exact ltE.irrefl _
    · exact geE (h k (by omega) hk) (ih (par k) (par_lt (by omega)) (Nat.lt_trans (par_lt (by omega)) hk))
/-- Which stand in a row, whatever their order. -/
def Same {α : Type} (n : Nat) (f g : Nat → α) : Prop := ∀ x, (∃ k, k < n ∧ f k = x) ↔ (∃ k, k < n ∧ g k = x)
theorem Same.refl {α : Type} (n : Nat) (f : Nat → α) : Same n f f := fun _ => Iff.rfl
theorem Same.trans {α : Type} {n : Nat} {f g h : Nat → α} (a : Same n f g) (b : Same n g h) : Same n f h := fun x => (a x).trans (b x)
theorem Same.sw {α : Type} {n : Nat} (f : Nat → α) {i j : Nat} (hi : i < n) (hj : j < n) : Same n f (swF f i j) := fun x => by
  constructor
  · rintro ⟨k, hk, rfl⟩
    by_cases e : k = i
    · subst e; exact ⟨j, hj, swF_j f k j⟩
    · by_cases e2 : k = j
      · subst e2; exact ⟨i, hi, swF_i f i k⟩
      · exact ⟨k, hk, swF_o f e e2⟩
  · rintro ⟨k, hk, rfl⟩
    by_cases e : k = i
    · subst e; exact ⟨j, hj, (swF_i f k j).symm⟩
    · by_cases e2 : k = j
      · subst e2; exact ⟨i, hi, (swF_j f i k).symm⟩
      · exact ⟨k, hk, (swF_o f e e2).symm⟩
end Go.Proofs.YtjimiabfgmchiaaDoor
