/- A row of events that is handed in, opened. -/
import Derived.Test.YtahfobbiaimoiaaGreatDoorJ33
import Derived.Test.YtahfobbiaimoiaaGreatDoorJ38
namespace Go.Proofs.YtahfobbiaimoiaaGreatDoor
open Go.ChangeShapes Go.WideShapes Go.ChangeAt Go.RowKit Go.Joins
theorem cEvA : Tryz.prog.cellsOf 76 = 4 := by kernel_rfl
theorem struct4A {H : Type} {enc : TypeId × Value → H} {P : Program} {w : World} {base : Nat} {spare : Nat → Bool} {held : Bool} {t : TypeId} {f0 f1 f2 f3 : Field} {fuel : Nat} {cs : List Value} {x : DataW H × List MemPlace} (ht : P.underlying t = some (.struct #[f0, f1, f2, f3])) (h : DataW.trod enc P w base spare held fuel t cs = some x) :
    ∃ y0 y1 y2 y3 n, DataW.trod enc P w base spare held n f0.type ((cs.drop f0.offset).take (P.cellsOf f0.type)) = some y0 ∧
      DataW.trod enc P w base spare held n f1.type ((cs.drop f1.offset).take (P.cellsOf f1.type)) = some y1 ∧ DataW.trod enc P w base spare held n f2.type ((cs.drop f2.offset).take (P.cellsOf f2.type)) = some y2 ∧
      DataW.trod enc P w base spare held n f3.type ((cs.drop f3.offset).take (P.cellsOf f3.type)) = some y3 := by
  obtain ⟨xs, n, _, rfl, hl, hlen, hf⟩ := DataW.trod_struct ht h
  match xs, hlen with
  | [y0, y1, y2, y3], _ => exact ⟨y0, y1, y2, y3, n, by simpa using hf 0 f0 rfl, by simpa using hf 1 f1 rfl, by simpa using hf 2 f2 rfl, by simpa using hf 3 f3 rfl⟩
theorem cells4A {W : World} {a : Addr} {cs : List Value} (h : W.cells? 0 a 4 = some cs) : ∃ u v x y, W.cell? (a.add 0) = some u ∧ W.cell? (a.add 1) = some v ∧ W.cell? (a.add 2) = some x ∧ W.cell? (a.add 3) = some y ∧ cs = [u, v, x, y] := by
  unfold World.cells? at h
  rw [if_pos (Nat.zero_le _), show List.range 4 = [0, 1, 2, 3] from rfl] at h
  simp only [List.mapM_cons, List.mapM_nil] at h
  cases h0 : W.cell? (a.add 0) with
  | none => rw [h0] at h; cases h
  | some u =>
    cases h1 : W.cell? (a.add 1) with
    | none => rw [h0, h1] at h; cases h
    | some v =>
      cases h2 : W.cell? (a.add 2) with
      | none => rw [h0, h1, h2] at h; cases h
      | some x =>
        cases h3 : W.cell? (a.add 3) with
        | none => rw [h0, h1, h2, h3] at h; cases h
        | some y => rw [h0, h1, h2, h3] at h; cases h; exact ⟨u, v, x, y, rfl, rfl, rfl, rfl, rfl⟩
/-- The events, opened. -/
theorem open_evs {H : Type} {enc : TypeId × Value → H} {W : World} {a0 : Option Addr} {ln cap : Nat} {d : DataW H} {ps : List MemPlace} (h : DataW.Trod enc Tryz.prog W 0 (fun _ => true) true 26 (.slice a0 ln cap) d ps) : ∃ L, EvQ W (.slice a0 ln cap) L ∧ EvW L := by
  obtain ⟨fuel, hf⟩ := h
  rcases Deep.open_slice Tryz.underlying26 hf with ⟨hcs, _⟩ | ⟨a, len, cap', m, k, D, Pl, hcs, _, hl, hcm, hm, hx, hel⟩
  · simp [Value.cells] at hcs
    obtain ⟨rfl, rfl, rfl⟩ := hcs
    exact ⟨[], ⟨none, 0, rfl, ⟨Nat.le_refl _, fun _ => rfl⟩, fun i p h => by cases h⟩, fun e h => by cases h⟩
  · simp [Value.cells] at hcs
    obtain ⟨rfl, rfl, rfl⟩ := hcs
    simp only [if_true] at hm
    subst hm
    rw [cEvA] at hel
    obtain ⟨L, h1, h2⟩ := list_of (p := fun i (t : Ev) => (W.cell? ((a.add (i * 4)).add 0) = some (.int .i64 t.tick) ∧ W.cell? ((a.add (i * 4)).add 1) = some (.int .i64 t.kind) ∧ W.cell? ((a.add (i * 4)).add 2) = some (.int .i64 t.step) ∧ W.cell? ((a.add (i * 4)).add 3) = some (.int .i64 t.user) ∧ (Lit.int .i64 t.user).wf = true)) ln fun i hi => by
      obtain ⟨cs', h1, h2⟩ := hel i (by omega)
      obtain ⟨u, v, x, y, hu, hv, hx, hy, rfl⟩ := cells4A h1
      obtain ⟨z0, z1, z2, z3, n, q0, q1, q2, q3⟩ := struct4A Tryz.underlying76 h2
      obtain ⟨p0, e0, _, _⟩ := DataW.trod_int (x := z0) Tryz.underlying3 (by simpa [cI] using q0)
      obtain ⟨p1, e1, _, _⟩ := DataW.trod_int (x := z1) Tryz.underlying3 (by simpa [cI] using q1)
      obtain ⟨p2, e2, _, _⟩ := DataW.trod_int (x := z2) Tryz.underlying3 (by simpa [cI] using q2)
      obtain ⟨p3, e3, _, hw⟩ := DataW.trod_int (x := z3) Tryz.underlying3 (by simpa [cI] using q3)
      simp at e0 e1 e2 e3
      subst e0 e1 e2 e3
      exact ⟨⟨p0, p1, p2, p3⟩, hu, hv, hx, hy, hw⟩
    subst h1
    refine ⟨L, ⟨some a, m, rfl, ⟨hl, fun e => by cases e⟩, fun i r hr => ?_⟩, fun e he => ?_⟩
    · obtain ⟨q0, q1, q2, q3, _⟩ := h2 i r hr
      have hpos : 0 < L.length := by have := (List.getElem?_eq_some_iff.1 hr).1; omega
      obtain ⟨k0, _⟩ := h2 0 L[0] (List.getElem?_eq_getElem hpos)
      obtain ⟨b, off, spot⟩ := a
      have hspot : spot = none := by simpa [Addr.add] using World.cell?_spot k0
      subst hspot
      rw [Addr.add_lit, Addr.add_lit] at q0 q1 q2 q3
      exact ⟨b, off, rfl, q0, q1, q2, q3⟩
    · obtain ⟨i, hi⟩ := List.getElem?_of_mem he
      exact (h2 i e hi).2.2.2.2
end Go.Proofs.YtahfobbiaimoiaaGreatDoor
