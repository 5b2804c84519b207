/- Calls of disks that are handed in, opened, with their bounds. -/
import Derived.Test.YtkabileeincjaaaDkFr
namespace Go.Proofs.Ytkabileeincjaaa
open Go.ChangeShapes Go.WideShapes Go.ChangeAt Go.RowKit Go.Joins
/-- The calls, opened. -/
theorem open_ops2 {H : Type} {enc : TypeId × Value → H} {W : World} {a0 : Option Addr} {ln cap : Nat} {d : DataW H} {ps : List MemPlace} (h : DataW.Trod enc Try.prog W 0 (fun _ => true) true 23 (.slice a0 ln cap) d ps) : ∃ L, RowO W (.slice a0 ln cap) L ∧ ∀ p ∈ L, p.n < 9223372036854775808 := by
  obtain ⟨fuel, hf⟩ := h
  rcases Deep.open_slice Try.underlying23 hf with ⟨hcs, _⟩ | ⟨a, len, cap', m, k, D, Pl, hcs, _, hl, _, hm, hx, hel⟩
  · simp only [Value.cells, List.cons.injEq, and_true] at hcs
    simp at hcs
    obtain ⟨rfl, rfl, rfl⟩ := hcs
    exact ⟨[], ⟨none, 0, rfl, ⟨Nat.le_refl _, fun _ => rfl⟩, fun i p h => by cases h⟩, fun p h => by cases h⟩
  · simp [Value.cells] at hcs
    obtain ⟨rfl, rfl, rfl⟩ := hcs
    simp only [if_true] at hm
    subst hm
    rw [cOp] at hel
    obtain ⟨L, h1, h2⟩ := list_of (p := fun i (r : Oc) => ∃ sv, W.cell? ((a.add (i * 4)).add 0) = some (.int .i64 r.on) ∧ W.cell? ((a.add (i * 4)).add 1) = some (.int .i64 r.dO) ∧ W.cell? ((a.add (i * 4)).add 2) = some (.int .i64 r.n) ∧ W.cell? ((a.add (i * 4)).add 3) = some sv ∧ RowC W sv r.data ∧ r.n < 9223372036854775808) ln fun i hi => by
      obtain ⟨cs', h1, h2⟩ := hel i (by omega)
      obtain ⟨u, v, x, y, hu, hv, hx, hy, rfl⟩ := cells4 h1
      obtain ⟨z0, z1, z2, z3, n, q0, q1, q2, q3⟩ := struct4 Try.underlying36 h2
      obtain ⟨p0, e0, _, _⟩ := DataW.trod_int (x := z0) Try.underlying3 (by simpa [cI] using q0)
      obtain ⟨p1, e1, _, _⟩ := DataW.trod_int (x := z1) Try.underlying3 (by simpa [cI] using q1)
      obtain ⟨p2, e2, _, wf2⟩ := DataW.trod_int (x := z2) Try.underlying3 (by simpa [cI] using q2)
      obtain ⟨S, hS⟩ := bytes_of_cell (v := y) (y := z3) (by simpa [cBs] using q3)
      simp at e0 e1 e2
      subst e0 e1 e2
      exact ⟨⟨p0, p1, p2, S⟩, y, hu, hv, hx, hy, hS, (bounds_i64 wf2).2⟩
    subst h1
    refine ⟨L, ⟨some a, _, rfl, ⟨hl, fun e => by cases e⟩, fun i r hr => ?_⟩, fun r hr => by
      obtain ⟨i, hi⟩ := List.getElem?_of_mem hr
      obtain ⟨_, _, _, _, _, _, h⟩ := h2 i r hi
      exact h⟩
    obtain ⟨sv, q0, q1, q2, q3, q4, _⟩ := h2 i r hr
    have hpos : 0 < L.length := by have := (List.getElem?_eq_some_iff.1 hr).1; omega
    obtain ⟨_, k0, _⟩ := h2 0 L[0] (List.getElem?_eq_getElem hpos)
    obtain ⟨b, off, spot⟩ := a
    have hspot : spot = none := by simpa [Addr.add] using World.cell?_spot k0
    subst hspot
    rw [Addr.add_lit, Addr.add_lit] at q0 q1 q2 q3
    exact ⟨b, off, sv, rfl, q0, q1, q2, q3, q4⟩
end Go.Proofs.Ytkabileeincjaaa
