/- few2: tokens in new memory. -/
import Derived.Test.YtghodeggobgclaaLKeep
import Derived.Laws.AppendOwnNone
namespace Go.Proofs.Ytghodeggobgclaa
open Go.RowKit Go.Shelf
theorem cellsT_one (L : List Tok) : ∀ u ∈ cellsT L, u.oneCell' = true := by
  intro u hu
  unfold cellsT at hu
  obtain ⟨t, _, h⟩ := List.mem_flatMap.1 hu
  simp [tcells] at h
  rcases h with rfl | rfl | rfl | rfl | rfl <;> rfl
theorem own_empty (w : World) : (w.alloc (.cells #[] 35)).ownsRow w.heap.size 35 5 (.slice (some ⟨w.heap.size, 0, none⟩) 0 0) 0 [] :=
  ⟨rfl, .inr ⟨w.heap.size, 0, #[], rfl, Nat.le_refl _, heap_alloc_new w _, Nat.le_refl _, Nat.zero_le _, rfl, rfl⟩⟩
end Go.Proofs.Ytghodeggobgclaa
