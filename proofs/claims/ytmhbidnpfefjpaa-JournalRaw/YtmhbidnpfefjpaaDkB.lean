/- Rows of bytes: in memory of one's own and wherever they lie; few. -/
import Derived.Test.YtmhbidnpfefjpaaRows
import Derived.WalkKit
import Derived.WalkSpells
import Derived.WalkLawsBesides
import Derived.BigRegion
import Derived.OwnWalk
import Derived.Laws.AppendOwnNone
import Derived.Laws.BytesArg
import Derived.Laws.CopyOwn
namespace Go.Proofs.Ytmhbidnpfefjpaa
open Go.RowKit
theorem hide' {p : Prop} (h : p) : Hid p := h
theorem ret_bool {a b : Bool} (h : a = b) : Ending.returned (.bool a) = .returned (.bool b) := by rw [h]
theorem ret_int {k : IntKind} {a b : Int} (h : a = b) : Ending.returned (.int k a) = .returned (.int k b) := by rw [h]
theorem cell_lt {W : World} {b o : Nat} {v : Value} (h : W.cell? ⟨b, o, none⟩ = some v) : b < W.heap.size := by
  rcases Nat.lt_or_ge b W.heap.size with h1 | h1
  · exact h1
  · rw [World.cell?, show W.heap[b]? = none from Array.getElem?_eq_none h1] at h; cases h
theorem blk_lt {W : World} {b : Nat} {o : Obj} (h : W.heap[b]? = some o) : b < W.heap.size := (Array.getElem?_eq_some_iff.1 h).1
theorem heap_new (w : World) (o : Obj) : (w.alloc o).heap[w.heap.size]? = some o := by
  show (w.heap.push o)[w.heap.size]? = some o
  simp
theorem cell_new {w : World} {a : Addr} {v : Value} (h : w.cell? a = some v) {o : Obj} : (w.alloc o).cell? a = some v := by
  have hlt : a.block < w.heap.size := by
    rcases Nat.lt_or_ge a.block w.heap.size with h1 | h1
    · exact h1
    · rw [World.cell?, show w.heap[a.block]? = none from Array.getElem?_eq_none h1] at h; cases h
  exact (((Below.refl w.heap.size w).alloc (Nat.le_refl _) o).cell hlt).trans h
theorem own_shp {W : World} {base : Nat} {e : TypeId} {sz : Nat} {v : Value} {n : Nat} {xs : List Value} (h : W.ownsRow base e sz v n xs) : ∃ oa cap, v = .slice oa n cap := by
  rcases h.2 with ⟨rfl, h2⟩ | ⟨g, cap, cur, rfl, _⟩
  · exact ⟨none, 0, by rw [h2]⟩
  · exact ⟨_, _, rfl⟩
theorem own_ge' {w : World} {B : Nat} {e : TypeId} {size : Nat} {v : Value} {n : Nat} {xs : List Value} (h : w.ownsRow B e size v n xs) {g : Nat} (hg : v.ownBlock = some g) : B ≤ g := by
  rcases h.2 with ⟨rfl, _⟩ | ⟨g', cap, cur, rfl, hb, _⟩
  · cases hg
  · cases hg; exact hb
def cellsB (l : List Nat) : List Value := l.map fun z : Nat => Value.int .u8 (z : Int)
theorem oneB (L : List Nat) : ∀ u ∈ cellsB L, u.oneCell' = true := fun u hu => by
  obtain ⟨z, _, rfl⟩ := List.mem_map.1 hu
  rfl
theorem cellsB_app (L M : List Nat) : cellsB (L ++ M) = cellsB L ++ cellsB M := by simp [cellsB]
theorem cellsB_len (L : List Nat) : (cellsB L).length = L.length := by simp [cellsB]
theorem cellsB_at {L : List Nat} {j : Nat} {u : Value} (h : (cellsB L)[j]? = some u) : ∃ z : Nat, L[j]? = some z ∧ u = .int .u8 (z : Int) := by
  unfold cellsB at h
  rw [List.getElem?_map] at h
  cases e : L[j]? with
  | none => rw [e] at h; cases h
  | some z => rw [e] at h; cases h; exact ⟨z, rfl, rfl⟩
theorem cellsB_zero (n : Nat) : List.replicate n (Value.int .u8 0) = cellsB (List.replicate n 0) := by simp [cellsB]
theorem cellsB_splice (L M : List Nat) (o : Nat) : splice (cellsB L) o (cellsB M) = cellsB (splice L o M) := by
  simp [splice, cellsB]
theorem infoU8 : (Try.prog.info? 5).map (fun i => (i.zero, i.size, i.bytes)) = some (some (.int .u8 0), 1, 1) := by kernel_rfl
theorem sizeU8 : (Try.prog.info? 5).map (·.size) = some 1 := by kernel_rfl
theorem owns_zero (w : World) (e : TypeId) : (w.alloc (.cells #[] e)).ownsRow w.heap.size e 1 (.slice (some ⟨w.heap.size, 0, none⟩) 0 0) 0 (cellsB []) :=
  ⟨rfl, .inr ⟨_, 0, #[], rfl, Nat.le_refl _, heap_new w _, Nat.le_refl _, by unfold maxLen; omega, rfl, rfl⟩⟩
/-- A block that holds just these bytes. -/
def BkB (W : World) (g : Nat) (L : List Nat) : Prop := W.heap[g]? = some (.cells (cellsB L).toArray 5 (0, 0))
theorem BkB.below {W W' : World} {g B : Nat} {L : List Nat} (h : BkB W g L) (hb : Below B W W') (hg : g < B) : BkB W' g L := (hb.block g hg).trans h
theorem BkB.cell {W : World} {g : Nat} {L : List Nat} (h : BkB W g L) {i z : Nat} (hz : L[i]? = some z) : W.cell? ⟨g, i, none⟩ = some (.int .u8 (z : Int)) := by
  unfold BkB at h
  simp [World.cell?, h, cellsB, hz]
/-- A row of bytes, with its room. -/
def RowC (w : World) (v : Value) (L : List Nat) : Prop := ∃ oa cap, v = .slice oa L.length cap ∧ (L.length ≤ cap ∧ (oa = none → cap = 0)) ∧ ∀ (i : Nat) (z : Nat), L[i]? = some z → ∃ g o, oa = some ⟨g, o, none⟩ ∧ w.cell? ⟨g, o + i, none⟩ = some (.int .u8 (z : Int))
theorem RowC.below {w w' : World} {v : Value} {L : List Nat} {n : Nat} (h : RowC w v L) (hb : Below n w w') (hn : w.heap.size ≤ n) : RowC w' v L := by
  obtain ⟨oa, cap, e, e0, h⟩ := h
  refine ⟨oa, cap, e, e0, fun i z hz => ?_⟩
  obtain ⟨g, o, e1, e2⟩ := h i z hz
  exact ⟨g, o, e1, (hb.cell (p := ⟨g, o + i, none⟩) (Nat.lt_of_lt_of_le (cell_lt e2) hn)).trans e2⟩
theorem RowC.of_owns {W : World} {B : Nat} {v : Value} {L : List Nat} (h : W.ownsRow B 5 1 v L.length (cellsB L)) : RowC W v L := by
  rcases h.2 with ⟨rfl, h0⟩ | ⟨g, cap, cur, rfl, _, _, hcap, _⟩
  · refine ⟨none, 0, by rw [h0], ⟨by omega, fun _ => rfl⟩, fun i z hz => ?_⟩
    have := (List.getElem?_eq_some_iff.1 hz).1
    omega
  · refine ⟨_, cap, rfl, ⟨hcap, fun e => by cases e⟩, fun i z hz => ⟨g, 0, rfl, ?_⟩⟩
    have hi := (List.getElem?_eq_some_iff.1 hz).1
    have := h.cellAt i (by omega)
    rw [Nat.zero_add, this]
    simp [cellsB, hz]
theorem RowC.of_bk {W : World} {g o n cap : Nat} {L M : List Nat} (h : BkB W g L) (hM : ∀ i z, M[i]? = some z → L[o + i]? = some z) (hn : n = M.length) (hc : n ≤ cap) : RowC W (.slice (some ⟨g, o, none⟩) n cap) M := by
  subst hn
  exact ⟨_, cap, rfl, ⟨hc, fun e => by cases e⟩, fun i z hz => ⟨g, o, rfl, h.cell (hM i z hz)⟩⟩
/-- The text of bytes. -/
def strB (L : List Nat) : ByteArray := strOfNums (L.map fun z : Nat => (z : Int))
theorem conv_bytes {w : World} {v : Value} {L : List Nat} (h : RowC w v L) : (convert 34 9 v).run Try.prog w = .ok (.string (strB L)) w := by
  obtain ⟨oa, cap, rfl, _, hc⟩ := h
  cases oa with
  | none =>
    cases L with
    | nil => exact run_convert_bytes_nil w 34 5 Try.underlying34 Try.underlying5 0 cap 9 Try.underlying9
    | cons a l => obtain ⟨g, o, e, _⟩ := hc 0 a rfl; cases e
  | some ad =>
    cases L with
    | nil =>
      have hl : (loadCells ad 0).run Try.prog w = .ok (([] : List Int).map (Value.int .u8)).toArray w := run_loadCells_list (P := Try.prog) w ad [] (fun j v hj => by simp at hj)
      show (convert 34 9 (.slice (some ad) 0 cap)).run Try.prog w = _
      rw [run_convert_bytes_string w 34 9 5 _ 0 cap Try.underlying34 Try.underlying5 Try.underlying9, run_bytesToString w _ 0 cap [] hl]
      rfl
    | cons a l =>
      obtain ⟨g, o, e, _⟩ := hc 0 a rfl
      cases e
      refine run_convert_bytes_arg w 34 5 Try.underlying34 Try.underlying5 g o _ cap _ (by simp) (fun i hi => ?_) 9 Try.underlying9
      obtain ⟨z, hz⟩ : ∃ z, (a :: l)[i]? = some z := ⟨_, List.getElem?_eq_getElem hi⟩
      obtain ⟨g', o', e', hcell⟩ := hc i z hz
      cases e'
      rw [hcell, List.getD_eq_getElem?_getD, List.getElem?_map, hz]
      rfl
/-- What make of so many bytes leaves. -/
theorem made_bk {w w' : World} {n : Nat} (h : w'.ownsRow w.heap.size 5 1 (.slice (some ⟨w.heap.size, 0, none⟩) n n) n (madeCells (Value.int .u8 0).cells (n * 1)).toList) : BkB w' w.heap.size (List.replicate n 0) := by
  rw [show (Value.int .u8 0).cells = #[.int .u8 0] from rfl, toList_madeCells_one, Nat.mul_one, cellsB_zero] at h
  rcases h.2 with ⟨e, _⟩ | ⟨g, cap, cur, e, _, hg, _, _, hs, ht⟩
  · cases e
  · cases e
    have : cur = (cellsB (List.replicate n 0)).toArray := by
      apply Array.toList_inj.1
      rw [← ht, Nat.mul_one, List.take_of_length_le (by simpa using Nat.le_of_eq hs)]
    rw [this] at hg
    exact hg
theorem make_bytes {w : World} {ops : Array Oper} {rest : List Oper} {o : Oper} {a : Act} {Q : Exit → Act → World → Prop} (hgd : o.guard = none) (l c : Operand) (hop : o.op = Op.makeSlice 34 l c) (n : Nat) (L C : Int)
    (hl : a.eval l = .int .i64 L) (hc : a.eval c = .int .i64 C) (hL : L = (n : Int)) (hC : C = (n : Int)) (hn : n ≤ 10000000)
    (hK : ∀ w', BkB w' w.heap.size (List.replicate n 0) → Below w.heap.size w w' → wpList Try.prog ops Q rest (a.put o.dst (.slice (some ⟨w.heap.size, 0, none⟩) n n)) w') : wpList Try.prog ops Q (o :: rest) a w := by
  obtain ⟨i0, hi, hz0, hz1, hz2⟩ := info_parts infoU8
  refine wpList_make_full w hgd l c 34 hop w.heap.size 5 i0 (.int .u8 0) 1 Try.underlying34 hi hz0 hz1 .i64 .i64 L C n hl hc hL hC (by rw [hz2]; omega) (by unfold maxLen; omega) (Nat.le_refl _) ?_
  intro w' h1 h2
  exact hK w' (made_bk h1) ((Below.refl _ w).grown h2 (Nat.le_refl _) (fun j ej => by cases ej))
end Go.Proofs.Ytmhbidnpfefjpaa
