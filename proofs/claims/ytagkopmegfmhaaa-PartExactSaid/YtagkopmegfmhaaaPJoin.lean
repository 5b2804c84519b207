/- Join: what it answers. -/
import Derived.Test.YtagkopmegfmhaaaPMeet
import Derived.Test.YtagkopmegfmhaaaPSet
namespace Go.Proofs.Ytagkopmegfmhaaa
open Go.RowKit
/-- All places of one label get the other one. -/
def relab (l : List Nat) (f t : Nat) : List Nat := l.map fun z => if z = f then t else z
/-- The labels behind so many rounds. -/
def jn (a b : List Nat) : Nat → List Nat
  | 0 => a
  | c + 1 => relab (jn a b c) ((jn a b c).getD c 0) ((jn a b c).getD (b.idxOf (b.getD c 0)) 0)
theorem relab_at (l : List Nat) (f t i : Nat) : (relab l f t)[i]? = (l[i]?).map fun z => if z = f then t else z := by simp [relab]
theorem jn_len (a b : List Nat) (c : Nat) : (jn a b c).length = a.length := by
  induction c with
  | zero => rfl
  | succ c ih => rw [jn, relab, List.length_map, ih]
theorem getD_at {l : List Nat} {i : Nat} (h : i < l.length) : l[i]? = some (l.getD i 0) := by
  rw [List.getD_eq_getElem?_getD, List.getElem?_eq_getElem h]; rfl
theorem idx_lt {b : List Nat} {c : Nat} (h : c < b.length) : b.idxOf (b.getD c 0) < b.length := List.idxOf_lt_length_of_mem (List.mem_of_getElem? (getD_at h))
theorem idx_at {b : List Nat} {c : Nat} (h : c < b.length) : b[b.idxOf (b.getD c 0)]? = b[c]? := by
  rw [getD_at h, List.getElem?_eq_getElem (idx_lt h), List.getElem_idxOf]
/-- What was in one block stays so. -/
theorem relab_keeps {l : List Nat} {f t i j : Nat} (h : l[i]? = l[j]?) : (relab l f t)[i]? = (relab l f t)[j]? := by rw [relab_at, relab_at, h]
theorem jn_keeps {a b : List Nat} {c d i j : Nat} (hcd : c ≤ d) (h : (jn a b c)[i]? = (jn a b c)[j]?) : (jn a b d)[i]? = (jn a b d)[j]? := by
  induction d with
  | zero => obtain rfl : c = 0 := by omega
            exact h
  | succ d ih =>
    rcases Nat.lt_or_ge d c with h1 | h1
    · obtain rfl : c = d + 1 := by omega
      exact h
    · rw [jn]; exact relab_keeps (ih h1)
theorem jn_joins {a b : List Nat} (hl : a.length = b.length) {c : Nat} (hc : c < b.length) : (jn a b (c + 1))[c]? = (jn a b (c + 1))[b.idxOf (b.getD c 0)]? := by
  have h1 : c < (jn a b c).length := by rw [jn_len]; omega
  have h2 : b.idxOf (b.getD c 0) < (jn a b c).length := by rw [jn_len, hl]; exact idx_lt hc
  rw [jn, relab_at, relab_at, getD_at h1, getD_at h2]
  simp
/-- Nothing is joined that a bound of both keeps apart. -/
theorem jn_least {a b C : List Nat} (hl : a.length = b.length) (ha : Finr a C) (hb : Finr b C) (c : Nat) (hc : c ≤ b.length) : Finr (jn a b c) C := by
  induction c with
  | zero => exact ha
  | succ c ih =>
    have ih := ih (by omega)
    intro i j hi hj h
    rw [jn, relab, List.length_map] at hi hj
    have hlen := jn_len a b c
    have hcl : c < (jn a b c).length := by omega
    have hkl : b.idxOf (b.getD c 0) < (jn a b c).length := by rw [hlen, hl]; exact idx_lt (by omega)
    have hck : C[c]? = C[b.idxOf (b.getD c 0)]? := hb c _ (by omega) (by rw [← hl, ← hlen]; exact hkl) (idx_at (by omega)).symm
    have key : ∀ i, i < (jn a b c).length → ((jn a b c).getD i 0 = (jn a b c).getD c 0 → C[i]? = C[c]?) ∧ ((jn a b c).getD i 0 = (jn a b c).getD (b.idxOf (b.getD c 0)) 0 → C[i]? = C[c]?) := fun i hi =>
      ⟨fun e => ih i c hi hcl (by rw [getD_at hi, getD_at hcl, e]), fun e => by rw [hck]; exact ih i _ hi hkl (by rw [getD_at hi, getD_at hkl, e])⟩
    rw [jn, relab_at, relab_at, getD_at hi, getD_at hj] at h
    simp only [Option.map_some, Option.some.injEq] at h
    obtain ⟨i1, i2⟩ := key i hi
    obtain ⟨j1, j2⟩ := key j hj
    by_cases e1 : (jn a b c).getD i 0 = (jn a b c).getD c 0
    · rw [if_pos e1] at h
      by_cases e2 : (jn a b c).getD j 0 = (jn a b c).getD c 0
      · rw [i1 e1, j1 e2]
      · rw [if_neg e2] at h
        rw [i1 e1, j2 h.symm]
    · rw [if_neg e1] at h
      by_cases e2 : (jn a b c).getD j 0 = (jn a b c).getD c 0
      · rw [if_pos e2] at h
        rw [i2 h, j1 e2]
      · rw [if_neg e2] at h
        exact ih i j hi hj (by rw [getD_at hi, getD_at hj, h])
/-- The join's pattern, and its bounds. -/
def joinR (a b : List Nat) : List Nat := pat (ints (jn a b b.length))
theorem joinR_len (a b : List Nat) : (joinR a b).length = a.length := by rw [joinR, pat_len, ints_len, jn_len]
theorem joinR_ker {a b : List Nat} {i j : Nat} (hi : i < a.length) (hj : j < a.length) : (joinR a b)[i]? = (joinR a b)[j]? ↔ (jn a b b.length)[i]? = (jn a b b.length)[j]? := by
  have h1 : i < (jn a b b.length).length := by rw [jn_len]; exact hi
  have h2 : j < (jn a b b.length).length := by rw [jn_len]; exact hj
  rw [joinR, pat_ker (ints_at (getD_at h1)) (ints_at (getD_at h2)), getD_at h1, getD_at h2, Option.some.injEq]
  omega
theorem join_a {a b : List Nat} : Finr a (joinR a b) := fun _ _ hi hj h => (joinR_ker hi hj).2 (jn_keeps (c := 0) (Nat.zero_le _) h)
theorem join_b {a b : List Nat} (hl : a.length = b.length) : Finr b (joinR a b) := fun i j hi hj h => by
  have e : ∀ i, i < b.length → (jn a b b.length)[i]? = (jn a b b.length)[b.idxOf (b.getD i 0)]? := fun i hi => jn_keeps (c := i + 1) hi (jn_joins hl hi)
  refine (joinR_ker (by omega) (by omega)).2 ?_
  rw [e i hi, e j hj]
  have : b.getD i 0 = b.getD j 0 := by
    rw [getD_at hi, getD_at hj] at h
    exact Option.some.inj h
  rw [this]
theorem join_least {a b C : List Nat} (hl : a.length = b.length) (ha : Finr a C) (hb : Finr b C) : Finr (joinR a b) C := fun i j hi hj h => by
  rw [joinR_len] at hi hj
  exact jn_least hl ha hb b.length (Nat.le_refl _) i j (by rw [jn_len]; exact hi) (by rw [jn_len]; exact hj) ((joinR_ker hi hj).1 h)
end Go.Proofs.Ytagkopmegfmhaaa
