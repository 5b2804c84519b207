/- How many full matchings rows have (plain). -/
import Derived.Test.YtbbmjfjedonfaaaDoorMU
import Derived.Test.YtbbmjfjedonfaaaDoorMCntM
namespace Go.Proofs.YtbbmjfjedonfaaaDoor.M
/-- The rows as what they may have. -/
def bitsOf (L : List Nat) : List (Nat → Bool) := L.map fun z => z.testBit
/-- How many full matchings, at most m. -/
def cntL (L : List Nat) (m : Nat) : Nat := if L.length ≤ 12 then min (wy 64 (bitsOf L)) m else 0
theorem wy_none {L : List Nat} (h : ¬ ∃ g, FullM L.length (fn L) g) : wy 64 (bitsOf L) = 0 := by
  refine Nat.eq_zero_of_not_pos fun hp => ?_
  obtain ⟨g, h1, h2⟩ := wy_full hp
  refine h ⟨g, fun i hi => ?_, fun i j hi hj e => h2 i j (by simpa [bitsOf] using hi) (by simpa [bitsOf] using hj) e⟩
  exact h1 i _ (by unfold bitsOf; rw [List.getElem?_map, fn_get hi]; rfl)
end Go.Proofs.YtbbmjfjedonfaaaDoor.M
