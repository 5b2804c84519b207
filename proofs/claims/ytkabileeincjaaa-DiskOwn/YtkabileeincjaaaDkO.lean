/- The calls of a disk, as they are handed in. -/
import Derived.Test.YtkabileeincjaaaDkW
namespace Go.Proofs.Ytkabileeincjaaa
open Go.RowKit
structure Oc where
  on : Int
  dO : Int
  n : Int
  data : List Nat
def RowO (w : World) (v : Value) (O : List Oc) : Prop := ∃ oa cap, v = .slice oa O.length cap ∧ (O.length ≤ cap ∧ (oa = none → cap = 0)) ∧ ∀ i p, O[i]? = some p → ∃ g o dv, oa = some ⟨g, o, none⟩ ∧ w.cell? ⟨g, o + i * 4, none⟩ = some (.int .i64 p.on) ∧ w.cell? ⟨g, o + i * 4 + 1, none⟩ = some (.int .i64 p.dO) ∧ w.cell? ⟨g, o + i * 4 + 2, none⟩ = some (.int .i64 p.n) ∧ w.cell? ⟨g, o + i * 4 + 3, none⟩ = some dv ∧ RowC w dv p.data
theorem RowO.below {w w' : World} {v : Value} {l : List Oc} {n : Nat} (h : RowO w v l) (hb : Below n w w') (hn : w.heap.size ≤ n) : RowO w' v l := by
  obtain ⟨oa, cap, e, e0, h⟩ := h
  refine ⟨oa, cap, e, e0, fun i z hz => ?_⟩
  obtain ⟨g, o, dv, e1, e2, e3, e4, e5, e6⟩ := h i z hz
  exact ⟨g, o, dv, e1, (hb.cell (p := ⟨g, o + i * 4, none⟩) (Nat.lt_of_lt_of_le (cell_lt e2) hn)).trans e2, (hb.cell (p := ⟨g, o + i * 4 + 1, none⟩) (Nat.lt_of_lt_of_le (cell_lt e3) hn)).trans e3, (hb.cell (p := ⟨g, o + i * 4 + 2, none⟩) (Nat.lt_of_lt_of_le (cell_lt e4) hn)).trans e4, (hb.cell (p := ⟨g, o + i * 4 + 3, none⟩) (Nat.lt_of_lt_of_le (cell_lt e5) hn)).trans e5, e6.below hb hn⟩
/-- A call that is read. -/
theorem RowO.at {w : World} {oa : Option Addr} {n cap : Nat} {O : List Oc} (h : RowO w (.slice oa n cap) O) {i : Nat} {p : Oc} (hp : O[i]? = some p) :
    ∃ g o dv, oa = some ⟨g, o, none⟩ ∧ Hid (∀ w', Below w.heap.size w w' → w'.cell? ⟨g, o + i * 4, none⟩ = some (.int .i64 p.on) ∧ w'.cell? ⟨g, o + i * 4 + 1, none⟩ = some (.int .i64 p.dO) ∧ w'.cell? ⟨g, o + i * 4 + 2, none⟩ = some (.int .i64 p.n) ∧ w'.cell? ⟨g, o + i * 4 + 3, none⟩ = some dv) ∧ RowC w dv p.data := by
  obtain ⟨oa', cap', e, _, h1⟩ := h
  injection e with e1 e2 e3
  subst e1
  obtain ⟨g, o, dv, e1, e2, e3, e4, e5, e6⟩ := h1 i p hp
  exact ⟨g, o, dv, e1, fun w' hb => ⟨(hb.cell (p := ⟨g, o + i * 4, none⟩) (cell_lt e2)).trans e2, (hb.cell (p := ⟨g, o + i * 4 + 1, none⟩) (cell_lt e3)).trans e3, (hb.cell (p := ⟨g, o + i * 4 + 2, none⟩) (cell_lt e4)).trans e4, (hb.cell (p := ⟨g, o + i * 4 + 3, none⟩) (cell_lt e5)).trans e5⟩, e6⟩
theorem size_alloc (w : World) (o : Obj) : (w.alloc o).heap.size = w.heap.size + 1 := by
  show (w.heap.push o).size = _
  simp
/-- A block of bytes of an array's kind. -/
def BkT (W : World) (T : TypeId) (g : Nat) (L : List Nat) : Prop := W.heap[g]? = some (.cells (cellsB L).toArray T (0, 0))
end Go.Proofs.Ytkabileeincjaaa
