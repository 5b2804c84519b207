/- Problems that are handed in, opened. -/
import Derived.Test.YtckmffoeabhffabDoorJ27
import Derived.Test.YtckmffoeabhffabDoorJ32
namespace Go.Proofs.YtckmffoeabhffabDoor.S
open Go.ChangeShapes Go.WideShapes Go.ChangeAt Go.RowKit Go.Joins
theorem cW : Tryd.prog.cellsOf 22 = 1 := by kernel_rfl
theorem cRs : Tryd.prog.cellsOf 24 = 1 := by kernel_rfl
theorem cells4 {W : World} {a : Addr} {cs : List Value} (h : W.cells? 0 a 4 = some cs) : ∃ u v x y, W.cell? (a.add 0) = some u ∧ W.cell? (a.add 1) = some v ∧ W.cell? (a.add 2) = some x ∧ W.cell? (a.add 3) = some y ∧ cs = [u, v, x, y] := by
  unfold World.cells? at h
  rw [if_pos (Nat.zero_le _), show List.range 4 = [0, 1, 2, 3] from rfl] at h
  simp only [List.mapM_cons, List.mapM_nil] at h
  cases h0 : W.cell? (a.add 0) with
  | none => rw [h0] at h; cases h
  | some u =>
    cases h1 : W.cell? (a.add 1) with
    | none => rw [h0, h1] at h; cases h
    | some v =>
      cases h2 : W.cell? (a.add 2) with
      | none => rw [h0, h1, h2] at h; cases h
      | some x =>
        cases h3 : W.cell? (a.add 3) with
        | none => rw [h0, h1, h2, h3] at h; cases h
        | some y => rw [h0, h1, h2, h3] at h; cases h; exact ⟨u, v, x, y, rfl, rfl, rfl, rfl, rfl⟩
set_option maxRecDepth 100000 in
theorem pbs_of_arg {H : Type} {enc : TypeId × Value → H} {W : World} {a0 : Option Addr} {len0 cap0 : Nat} {d : DataW H} {ps : List MemPlace} (h : DataW.Trod enc Tryd.prog W 0 (fun _ => true) true 36 (.slice a0 len0 cap0) d ps) :
    ∃ L, RowP W (.slice a0 len0 cap0) L ∧ ∀ P ∈ L, ∀ z ∈ P.who, z < 18446744073709551616 := by
  obtain ⟨fuel, hf0⟩ := h
  have hf : DataW.trod enc Tryd.prog W 0 (fun _ => true) true fuel 36 [.slice a0 len0 cap0] = some (d, ps) := by simpa [Value.cells] using hf0
  rcases Deep.open_slice Tryd.underlying36 hf with ⟨hcs, _⟩ | ⟨a, len, cap, m, k, D, Pl, hcs, _, hl, _, hm, hx, hel⟩
  · simp only [List.cons.injEq, and_true] at hcs
    injection hcs with e1 e2 e3
    subst e1 e2 e3
    exact ⟨[], ⟨none, 0, rfl, fun i p h => by cases h⟩, fun l h => by cases h⟩
  · simp only [List.cons.injEq, and_true] at hcs
    injection hcs with e1 e2 e3
    subst e1 e2 e3
    simp only [if_true] at hm
    subst hm
    rw [cPb] at hel
    obtain ⟨L, h1, h2⟩ := list_of (p := fun i (r : Pb) => (∃ wv fv rv, W.cell? ((a.add (i * 4)).add 0) = some (.int .i64 r.users) ∧ W.cell? ((a.add (i * 4)).add 1) = some wv ∧ W.cell? ((a.add (i * 4)).add 2) = some fv ∧ W.cell? ((a.add (i * 4)).add 3) = some rv ∧ PbV W r wv fv rv) ∧ ∀ z ∈ r.who, z < 18446744073709551616) len0 fun i hi => by
      obtain ⟨cs', h1, h2⟩ := hel i (by omega)
      obtain ⟨u, v, x, y, hu, hv, hx, hy, rfl⟩ := cells4 h1
      obtain ⟨z0, z1, z2, z3, n, _, _, q0, q1, q2, q3⟩ := trod_struct4 Tryd.underlying26 h2
      obtain ⟨p0, e0, _, _⟩ := DataW.trod_int (x := z0) Tryd.underlying3 (by simpa [cI, cW, cL, cRs] using q0)
      obtain ⟨Lw, rw1, bw⟩ := rowW_of_cell (v := v) (y := z1) (by simpa [cI, cW, cL, cRs] using q1)
      obtain ⟨Lf, rf, _⟩ := row_of_cell (v := x) (y := z2) (by simpa [cI, cW, cL, cRs] using q2)
      obtain ⟨Lr, rr⟩ := open_rules (v := y) (y := z3) (by simpa [cI, cW, cL, cRs] using q3)
      simp at e0
      subst e0
      exact ⟨⟨p0, Lw, Lf, Lr⟩, ⟨v, x, y, hu, hv, hx, hy, rw1, rf, rr⟩, bw⟩
    subst h1
    refine ⟨L, ⟨some a, m, rfl, fun i r hr => ?_⟩, fun P hP => ?_⟩
    · obtain ⟨⟨wv, fv, rv, q0, q1, q2, q3, q4⟩, _⟩ := h2 i r hr
      have hpos : 0 < L.length := by have := (List.getElem?_eq_some_iff.1 hr).1; omega
      obtain ⟨⟨_, _, _, k0, _⟩, _⟩ := h2 0 L[0] (List.getElem?_eq_getElem hpos)
      obtain ⟨b, off, spot⟩ := a
      have hspot : spot = none := by simpa [Addr.add] using World.cell?_spot k0
      subst hspot
      rw [Addr.add_lit, Addr.add_lit] at q0 q1 q2 q3
      exact ⟨b, off, wv, fv, rv, rfl, ⟨q0, q1, q2, q3⟩, q4⟩
    · obtain ⟨i, hi⟩ := List.getElem?_of_mem hP
      exact (h2 i P hi).2
end Go.Proofs.YtckmffoeabhffabDoor.S
