/- twin: the pairs in new memory. -/
import Derived.Test.YtahfobbiaimoiaaGreatDoorJ06
import Derived.OwnWalk
import Derived.Laws.AppendOwnNone
namespace Go.Proofs.YtahfobbiaimoiaaGreatDoor.O
open Go.RowKit
theorem infoP : (Tryz.prog.info? 93).map (fun i => (i.zero, i.size, i.bytes)) = some (some (.agg #[.int .i64 0, .int .i64 0]), 2, 16) := by kernel_rfl
/-- Pairs as a row's cells. -/
def cellsP (L : List (Int × Int)) : List Value := L.flatMap fun p => [Value.int .i64 p.1, Value.int .i64 p.2]
theorem cellsP_len (L : List (Int × Int)) : (cellsP L).length = L.length * 2 := by
  induction L with
  | nil => rfl
  | cons p L ih => unfold cellsP at *; rw [List.flatMap_cons, List.length_append, ih]; simp; omega
theorem cellsP_at : ∀ (L : List (Int × Int)) (i : Nat), (cellsP L)[i * 2]? = L[i]?.map (fun p => Value.int .i64 p.1) ∧ (cellsP L)[i * 2 + 1]? = L[i]?.map (fun p => Value.int .i64 p.2)
  | [], i => by simp [cellsP]
  | p :: L, 0 => by simp [cellsP]
  | p :: L, i + 1 => by
    have ih := cellsP_at L i
    have e : cellsP (p :: L) = Value.int .i64 p.1 :: Value.int .i64 p.2 :: cellsP L := rfl
    rw [e, show (i + 1) * 2 = i * 2 + 1 + 1 by omega, List.getElem?_cons_succ, List.getElem?_cons_succ, show i * 2 + 1 + 1 + 1 = (i * 2 + 1) + 1 + 1 by omega, List.getElem?_cons_succ, List.getElem?_cons_succ, List.getElem?_cons_succ]
    exact ih
theorem cellsP_inv {L : List (Int × Int)} {j : Nat} {u : Value} (h : (cellsP L)[j]? = some u) : ∃ i p, L[i]? = some p ∧ ((j = i * 2 ∧ u = .int .i64 p.1) ∨ (j = i * 2 + 1 ∧ u = .int .i64 p.2)) := by
  have ⟨h1, h2⟩ := cellsP_at L (j / 2)
  rcases Nat.mod_two_eq_zero_or_one j with e | e
  · rw [show j / 2 * 2 = j by omega, h] at h1
    cases hp : L[j / 2]? with
    | none => rw [hp] at h1; cases h1
    | some p => rw [hp] at h1; exact ⟨j / 2, p, hp, .inl ⟨by omega, by simpa using h1⟩⟩
  · rw [show j / 2 * 2 + 1 = j by omega, h] at h2
    cases hp : L[j / 2]? with
    | none => rw [hp] at h2; cases h2
    | some p => rw [hp] at h2; exact ⟨j / 2, p, hp, .inr ⟨by omega, by simpa using h2⟩⟩
theorem cellsP_one (L : List (Int × Int)) : ∀ u ∈ cellsP L, u.oneCell' = true := fun u hu => by
  obtain ⟨j, hj⟩ := List.getElem?_of_mem hu
  obtain ⟨i, p, _, (⟨_, rfl⟩ | ⟨_, rfl⟩)⟩ := cellsP_inv hj <;> rfl
theorem PairsAt.of_owns {W : World} {n₀ : Nat} {v : Value} {L : List (Int × Int)} (h : W.ownsRow n₀ 93 2 v L.length (cellsP L)) : PairsAt W v L := by
  rcases h.2 with ⟨rfl, h0⟩ | ⟨g, cap, cur, rfl, _, hb, hcap, _, _, _⟩
  · refine ⟨none, 0, by rw [h0], ⟨by omega, fun _ => rfl⟩, fun i p hp => ?_⟩
    have := (List.getElem?_eq_some_iff.1 hp).1
    omega
  · refine ⟨_, cap, rfl, ⟨hcap, fun e => by cases e⟩, fun i p hp => ⟨g, 0, rfl, ?_, ?_⟩⟩
    · have hi := (List.getElem?_eq_some_iff.1 hp).1
      rw [Nat.zero_add, h.cellAt (i * 2) (by omega), (cellsP_at L i).1, hp]; rfl
    · have hi := (List.getElem?_eq_some_iff.1 hp).1
      rw [Nat.zero_add, h.cellAt (i * 2 + 1) (by omega), (cellsP_at L i).2, hp]; rfl
theorem info_q {P : Program} {t : TypeId} {z : Option Value} {s b : Nat} (h : (P.info? t).map (fun i => (i.zero, i.size, i.bytes)) = some (z, s, b)) : ∃ i, P.info? t = some i ∧ i.zero = z ∧ i.size = s ∧ i.bytes = b := by
  cases e : P.info? t with
  | none => rw [e] at h; cases h
  | some i => rw [e] at h; simp at h; exact ⟨i, rfl, h.1, h.2.1, h.2.2⟩
theorem owns_zeroP (w : World) : (w.alloc (.cells #[] 93)).ownsRow w.heap.size 93 2 (.slice (some ⟨w.heap.size, 0, none⟩) 0 0) 0 (cellsP []) :=
  ⟨rfl, .inr ⟨_, 0, #[], rfl, Nat.le_refl _, World.alloc_heap_new w _, Nat.le_refl _, by unfold maxLen; omega, rfl, rfl⟩⟩
end Go.Proofs.YtahfobbiaimoiaaGreatDoor.O
