/- Blocks of bytes of an array's kind. -/
import Derived.Test.YtmhbidnpfefjpaaDkF
import Derived.Deep.MidRow
namespace Go.Proofs.Ytmhbidnpfefjpaa
open Go.RowKit
theorem size_alloc (w : World) (o : Obj) : (w.alloc o).heap.size = w.heap.size + 1 := by
  show (w.heap.push o).size = _
  simp
/-- A block of bytes of an array's kind. -/
def BkT (W : World) (T : TypeId) (g : Nat) (L : List Nat) : Prop := W.heap[g]? = some (.cells (cellsB L).toArray T (0, 0))
theorem BkT.cell {W : World} {T : TypeId} {g : Nat} {L : List Nat} (h : BkT W T g L) {i z : Nat} (hz : L[i]? = some z) : W.cell? ⟨g, i, none⟩ = some (.int .u8 (z : Int)) := by
  unfold BkT at h
  simp [World.cell?, h, cellsB, hz]
theorem BkT.free {W : World} {T : TypeId} {g : Nat} {L : List Nat} (h : BkT W T g L) (i : Nat) : W.frozen? ⟨g, i, none⟩ = false := by
  unfold BkT at h
  simp [World.frozen?, h]
theorem BkT.set {W : World} {T : TypeId} {g : Nat} {L : List Nat} (h : BkT W T g L) (i z : Nat) : BkT (W.setCell ⟨g, i, none⟩ (.int .u8 (z : Int))) T g (L.set i z) := by
  have e := set_heap h i (.int .u8 (z : Int))
  unfold BkT
  rw [e]
  simp [cellsB]
theorem BkT.row {W : World} {T : TypeId} {g o n cap : Nat} {L M : List Nat} (h : BkT W T g L) (hM : ∀ i z, M[i]? = some z → L[o + i]? = some z) (hn : n = M.length) (hc : n ≤ cap) : RowC W (.slice (some ⟨g, o, none⟩) n cap) M := by
  subst hn
  exact ⟨_, cap, rfl, ⟨hc, fun e => by cases e⟩, fun i z hz => ⟨g, o, rfl, h.cell (hM i z hz)⟩⟩
theorem setCells_row {W : World} {g o : Nat} {cur : Array Value} {t : TypeId} (hg : W.heap[g]? = some (.cells cur t (0, 0))) (vs : List Value) (hf : o + vs.length ≤ cur.size) (h1 : ∀ v ∈ vs, v.oneCell' = true) : W.setCells g o vs = W.setRow g (cur.toList.take o ++ vs ++ cur.toList.drop (o + vs.length)).toArray := by
  have e1 := run_storeCells_at Try.prog g o t vs 0 cur W hg (by simpa using hf) h1
  have e2 := run_storeCells_cells (P := Try.prog) g o vs 0 W (fun j hj => by
    have hlt : o + j < cur.size := by omega
    simp [World.cell?, hg, hlt]) (fun j _ => by simp [World.frozen?, hg]) h1
  rw [e2] at e1
  injection e1
end Go.Proofs.Ytmhbidnpfefjpaa
