/- Two rows of the same flaws held against each other. -/
import Derived.Test.YtgopaoecmefnkaaZpW
import Derived.Test.YtgopaoecmefnkaaSDoc
namespace Go.Proofs.Ytgopaoecmefnkaa.S
open Go.RowKit Go.Shelf
attribute [local irreducible] wpQuiet
set_option maxRecDepth 100000 in
set_option maxHeartbeats 2000000 in
theorem same_flaws (L : List Fl) (va vb : Value) (w : World) (ha : RowFl w va L) (hb : RowFl w vb L) (hl : L.length ≤ 1000000) :
    Calls Try.prog 12 #[va, vb] w fun e w' => e = .returned (.bool true) ∧ Below w.heap.size w w' := by
  obtain ⟨oa, ca, rfl, hca⟩ := ha
  obtain ⟨ob, cb, rfl, hcb⟩ := hb
  have hca' := hide' hca
  have hcb' := hide' hcb
  clear hca hcb
  go_enter Try.func12, Try.ntmps12
  go_wp2
  go_loopw [5] (fun p wr => ∃ j : Nat, j ≤ L.length ∧ p = .int .i64 (j : Int) ∧ Hid (Below w.heap.size w wr)) (fun p _ => ((L.length : Int) - intOf p).toNat)
  case atStart => exact ⟨0, Nat.zero_le _, rfl, Below.refl _ _⟩
  case round =>
    obtain ⟨j, hj, rfl, hB⟩ := hrel
    by_cases hlt : j < L.length
    · have hlt' : (j : Int) < (L.length : Int) := by omega
      obtain ⟨f, hf⟩ : ∃ f, L[j]? = some f := ⟨_, List.getElem?_eq_getElem hlt⟩
      obtain ⟨g, o, rfl, d1, d2, d3⟩ := hca'.out j f hf
      obtain ⟨g', o', rfl, e1, e2, e3⟩ := hcb'.out j f hf
      have d1' := M.cell_over d1 hB.out
      have d2' := M.cell_over d2 hB.out
      have d3' := M.cell_over d3 hB.out
      have e1' := M.cell_over e1 hB.out
      have e2' := M.cell_over e2 hB.out
      have e3' := M.cell_over e3 hB.out
      clear hf hca' hcb' d1 d2 d3 e1 e2 e3
      go_wp2
      go_quiet (fail)
      go_wp2
      exact ⟨⟨j + 1, by omega, by go_num, below_drewS hB.out _⟩, by simp [intOf]; omega⟩
    · obtain rfl : j = L.length := by omega
      clear hca' hcb'
      go_wp2
      go_ret
      exact ⟨rfl, hB.out⟩
end Go.Proofs.Ytgopaoecmefnkaa.S
