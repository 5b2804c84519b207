/- What Cut leaves is a problem, small, and cut again the same. -/
import Derived.Test.YtgopaoecmefnkaaSCut
namespace Go.Proofs.Ytgopaoecmefnkaa.S
open Go.RowKit Go.Shelf
theorem cutR_cut (r : Rl) : cutR (cutR r) = cutR r := by
  unfold cutR
  simp [List.take_take]
theorem cutP_cut (P : Pb) : cutP (cutP P) = cutP P := by
  unfold cutP
  simp only [List.take_take, Nat.min_self, ← List.map_take, List.map_map]
  congr 1
  exact List.map_congr_left fun r _ => cutR_cut r
theorem cutP_ok {P : Pb} (hb : ∀ z ∈ P.who, z < 18446744073709551616) : Pok (cutP P) :=
  ⟨by show (P.who.take 20).length ≤ 1000; rw [List.length_take]; omega, by show (P.fixed.take 20).length ≤ 1000; rw [List.length_take]; omega,
    by show ((P.rules.take 40).map cutR).length ≤ 1000; rw [List.length_map, List.length_take]; omega,
    fun r hr => by
      obtain ⟨q, _, rfl⟩ := List.mem_map.1 (show r ∈ (P.rules.take 40).map cutR from hr)
      show (q.steps.take 20).length ≤ 1000
      rw [List.length_take]; omega,
    fun z hz => hb z (List.mem_of_mem_take (show z ∈ P.who.take 20 from hz))⟩
/-- Cut, as the laws use it. -/
theorem cutA (P : Pb) (wv fv rv : Value) (w : World) (h : PbV w P wv fv rv) :
    Calls Try.prog 7 #[pbV P wv fv rv] w fun e w' => ∃ va vb vc, e = .returned (pbV (cutP P) va vb vc) ∧ Hid (PbV w' (cutP P) va vb vc) ∧ Hid (Below w.heap.size w w') := by
  refine (cutF P wv fv rv w h).mono ?_
  rintro e w' ⟨va, vb, vc, E, rfl, hO, hB⟩
  obtain ⟨o1, o2, o3, o4⟩ := hO.out
  refine ⟨va, vb, vc, rfl, ⟨RowW.of_owns o1, RowI.of_owns o2, ?_⟩, hB⟩
  have := o3.rowR
  rw [o4] at this
  exact this
/-- Cut of what was cut. -/
theorem cutB (P : Pb) (wv fv rv : Value) (w : World) (h : PbV w (cutP P) wv fv rv) :
    Calls Try.prog 7 #[pbV (cutP P) wv fv rv] w fun e w' => ∃ va vb vc, e = .returned (pbV (cutP P) va vb vc) ∧ Hid (PbV w' (cutP P) va vb vc) ∧ Hid (Below w.heap.size w w') := by
  have := cutA (cutP P) wv fv rv w h
  rw [cutP_cut] at this
  exact this
end Go.Proofs.Ytgopaoecmefnkaa.S
