/- The calls that are handed in, as they lie. -/
import Derived.Test.YtegpgjiccpglbaaDoorYPair
namespace Go.Proofs.YtegpgjiccpglbaaDoor
open Go.RowKit
structure OpT where
  on : Int
  op : Int
  a : Int
  b : Int
  s : Nat
/-- A row of calls, as it is read. -/
def RowOp (W : World) (v : Value) (L : List OpT) : Prop :=
  ∃ oa cap, v = .slice oa L.length cap ∧ (L.length ≤ cap ∧ (oa = none → cap = 0) ∧ cap ≤ 9223372036854775807) ∧ ∀ (i : Nat) (p : OpT), L[i]? = some p → (∃ g o, oa = some ⟨g, o, none⟩ ∧ W.cell? ⟨g, o + i * 5, none⟩ = some (.int .i64 p.on) ∧ W.cell? ⟨g, o + i * 5 + 1, none⟩ = some (.int .i64 p.op) ∧ W.cell? ⟨g, o + i * 5 + 2, none⟩ = some (.int .i64 p.a) ∧ W.cell? ⟨g, o + i * 5 + 3, none⟩ = some (.int .i64 p.b) ∧ W.cell? ⟨g, o + i * 5 + 4, none⟩ = some (.int .u64 (p.s : Int))) ∧ p.s < 18446744073709551616
theorem RowOp.over {W W' : World} {v : Value} {L : List OpT} (h : RowOp W v L) {n : Nat} (hb : Below n W W') (hn : W.heap.size ≤ n) : RowOp W' v L := by
  obtain ⟨oa, cap, h1, h2, h3⟩ := h
  refine ⟨oa, cap, h1, h2, fun i p hp => ?_⟩
  obtain ⟨⟨g, o, e, c0, c1, c2, c3, c4⟩, hs⟩ := h3 i p hp
  have hb' := hb.mono hn
  exact ⟨⟨g, o, e, cell_over c0 hb', cell_over c1 hb', cell_over c2 hb', cell_over c3 hb', cell_over c4 hb'⟩, hs⟩
end Go.Proofs.YtegpgjiccpglbaaDoor
