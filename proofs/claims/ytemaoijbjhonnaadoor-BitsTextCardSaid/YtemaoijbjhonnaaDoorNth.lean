/- Nth: the number with so many below it. -/
import Derived.Test.YtemaoijbjhonnaaDoorRank
namespace Go.Proofs.YtemaoijbjhonnaaDoor
open Go.RowKit Go.Shelf
attribute [local go_sem] Oper.semAt_some
theorem nth_hit {l pre rest : List (Fin 64)} {j : Fin 64} {k : Int} (hs : l.Pairwise (· < ·)) (h : l = pre ++ j :: rest) (hk : ((toI (j.val : Int) l).length : Int) = k) : nthI l k = j.val := by
  rw [to_snoc hs h] at hk
  unfold nthI
  rw [if_pos (by omega), show k.toNat = pre.length by omega, h]
  simp
theorem nth_miss {l : List (Fin 64)} {k : Int} (hs : l.Pairwise (· < ·)) (h : ∀ j ∈ l, ((toI (j.val : Int) l).length : Int) ≠ k) : nthI l k = -1 := by
  unfold nthI
  by_cases hk : 0 ≤ k
  · rw [if_pos hk]
    cases e : l[k.toNat]? with
    | none => rfl
    | some j =>
      obtain ⟨hlt, rfl⟩ := List.getElem?_eq_some_iff.1 e
      have hm := List.getElem_mem hlt
      have hsp : l = l.take k.toNat ++ l[k.toNat] :: l.drop (k.toNat + 1) := by rw [List.getElem_cons_drop, List.take_append_drop]
      have := h _ hm
      rw [to_snoc hs hsp, List.length_take] at this
      omega
  · rw [if_neg hk]
theorem keepsO {W w1 : World} (h : Below W.heap.size W w1) : KeepsOthers W w1 :=
  ⟨h.size, fun k _ hk _ => (h.block k (Array.getElem?_eq_some_iff.1 hk).1).trans hk⟩
end Go.Proofs.YtemaoijbjhonnaaDoor
