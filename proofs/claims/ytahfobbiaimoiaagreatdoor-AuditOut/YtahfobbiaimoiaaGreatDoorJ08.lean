/- Rows of numbers; fits, blocksIn, Legal: what they answer. -/
import Derived.Test.YtahfobbiaimoiaaGreatDoorJ01
import Derived.WalkKit
import Derived.WalkSpells
import Derived.WalkLawsBesides
import Derived.BigRegion
namespace Go.Proofs.YtahfobbiaimoiaaGreatDoor
open Go.RowKit
theorem hide' {p : Prop} (h : p) : Hid p := h
theorem ret_bool {a b : Bool} (h : a = b) : Ending.returned (.bool a) = .returned (.bool b) := by rw [h]
theorem ret_int {k : IntKind} {a b : Int} (h : a = b) : Ending.returned (.int k a) = .returned (.int k b) := by rw [h]
/-- A row of numbers, wherever it lies. -/
def RowI (w : World) (v : Value) (l : List Int) : Prop := ∃ oa cap, v = .slice oa l.length cap ∧ (l.length ≤ cap ∧ (oa = none → cap = 0)) ∧ ∀ i z, l[i]? = some z → ∃ g o, oa = some ⟨g, o, none⟩ ∧ w.cell? ⟨g, o + i, none⟩ = some (.int .i64 z)
theorem cell_lt {W : World} {b o : Nat} {v : Value} (h : W.cell? ⟨b, o, none⟩ = some v) : b < W.heap.size := by
  rcases Nat.lt_or_ge b W.heap.size with h1 | h1
  · exact h1
  · rw [World.cell?, show W.heap[b]? = none from Array.getElem?_eq_none h1] at h; cases h
theorem RowI.below {w w' : World} {v : Value} {l : List Int} {n : Nat} (h : RowI w v l) (hb : Below n w w') (hn : w.heap.size ≤ n) : RowI w' v l := by
  obtain ⟨oa, cap, e, e0, h⟩ := h
  refine ⟨oa, cap, e, e0, fun i z hz => ?_⟩
  obtain ⟨g, o, e1, e2⟩ := h i z hz
  exact ⟨g, o, e1, (hb.cell (p := ⟨g, o + i, none⟩) (Nat.lt_of_lt_of_le (cell_lt e2) hn)).trans e2⟩
/-- Numbers as ints. -/
def ints (l : List Nat) : List Int := l.map fun n : Nat => (n : Int)
theorem ints_len (l : List Nat) : (ints l).length = l.length := by simp [ints]
theorem ints_at {l : List Nat} {i : Nat} {x : Nat} (h : l[i]? = some x) : (ints l)[i]? = some (x : Int) := by simp [ints, h]
theorem take_snoc {l : List Nat} {c x : Nat} (hx : l[c]? = some x) : l.take (c + 1) = l.take c ++ [x] := by rw [List.take_add_one, hx]; rfl
theorem blks_take {l : List Nat} {c x : Nat} (hx : l[c]? = some x) : blks 0 (l.take (c + 1)) = max (blks 0 (l.take c)) (x + 1) := by
  rw [take_snoc hx, blks_app]; rfl
theorem leg_at {l : List Nat} {c x : Nat} (h : Leg 0 l) (hx : l[c]? = some x) : x ≤ blks 0 (l.take c) := by
  obtain ⟨hlt, rfl⟩ := List.getElem?_eq_some_iff.1 hx
  have hsp : l = l.take c ++ l[c] :: l.drop (c + 1) := by rw [List.getElem_cons_drop, List.take_append_drop]
  rw [hsp] at h
  exact (Leg.app.1 h).2.1
theorem drop_at {l : List Nat} {c x : Nat} (hx : l[c]? = some x) : l.drop c = x :: l.drop (c + 1) := by
  obtain ⟨hlt, rfl⟩ := List.getElem?_eq_some_iff.1 hx
  rw [List.getElem_cons_drop]
end Go.Proofs.YtahfobbiaimoiaaGreatDoor
