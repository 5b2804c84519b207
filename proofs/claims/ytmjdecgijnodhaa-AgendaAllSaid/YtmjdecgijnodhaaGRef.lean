/- The document's agenda: what it holds; find, At. -/
import Derived.Test.YtmjdecgijnodhaaGSortA
namespace Go.Proofs.Ytmjdecgijnodhaa
open Go.RowKit Go.Maps
def cellsP (L : List (Int × Int)) : List Value := L.flatMap fun e => [Value.int .i64 e.1, Value.int .i64 e.2]
theorem cellsP_len (L : List (Int × Int)) : (cellsP L).length = L.length * 2 := by
  induction L with
  | nil => rfl
  | cons a l ih => simp [cellsP] at ih ⊢; omega
theorem cellsP_at : ∀ (L : List (Int × Int)) (i : Nat), (cellsP L)[i * 2]? = L[i]?.map (fun p => Value.int .i64 p.1) ∧ (cellsP L)[i * 2 + 1]? = L[i]?.map (fun p => Value.int .i64 p.2)
  | [], i => by simp [cellsP]
  | a :: l, 0 => by simp [cellsP]
  | a :: l, i + 1 => by
    have h := cellsP_at l i
    have e : cellsP (a :: l) = [Value.int .i64 a.1, Value.int .i64 a.2] ++ cellsP l := by simp [cellsP]
    rw [e, List.getElem?_append_right (by simp; omega), List.getElem?_append_right (by simp; omega)]
    simp only [List.length_cons, List.length_nil]
    rw [show (i + 1) * 2 - (0 + 1 + 1) = i * 2 by omega, show (i + 1) * 2 + 1 - (0 + 1 + 1) = i * 2 + 1 by omega, List.getElem?_cons_succ]
    exact h
/-- The document's agenda at block r. -/
structure RefA (w : World) (r : Nat) (L : List (Int × Int)) (rowv : Value) : Prop where
  box : w.heap[r]? = some (.cells #[rowv] 43 (0, 0))
  row : w.ownsRow 0 39 2 rowv L.length (cellsP L)
  ne : rowv.ownBlock ≠ some r
  small : L.length ≤ 1000000
theorem RefA.c0 {w : World} {r : Nat} {L : List (Int × Int)} {rowv : Value} (h : RefA w r L rowv) : w.cell? ⟨r, 0, none⟩ = some rowv := by simp [World.cell?, h.box]
theorem RefA.ent {w : World} {r : Nat} {L : List (Int × Int)} {oa : Option Addr} {cap : Nat} (h : RefA w r L (.slice oa L.length cap)) {k : Nat} {x : Int × Int} (hx : L[k]? = some x) : ∃ g, oa = some ⟨g, 0, none⟩ ∧ w.cell? ⟨g, k * 2, none⟩ = some (.int .i64 x.1) ∧ w.cell? ⟨g, k * 2 + 1, none⟩ = some (.int .i64 x.2) := by
  have hk : k < L.length := (List.getElem?_eq_some_iff.1 hx).1
  have hr := h.row
  rcases hr.2 with ⟨h1, h2⟩ | ⟨g, cap', cur, h1, _⟩
  · omega
  · cases h1
    have a1 := hr.cellAt (k * 2) (by omega)
    have a2 := hr.cellAt (k * 2 + 1) (by omega)
    obtain ⟨e1, e2⟩ := cellsP_at L k
    rw [e1, hx] at a1
    rw [e2, hx] at a2
    exact ⟨g, rfl, a1, a2⟩
def FindPost (L : List (Int × Int)) (id : Int) (w : World) (e : Ending) (w' : World) : Prop :=
  w' = w ∧ ((∃ (k : Nat) (x : Int × Int), L[k]? = some x ∧ x.1 = id ∧ e = .returned (.int .i64 (k : Int))) ∨ ((∀ x ∈ L, x.1 ≠ id) ∧ e = .returned (.int .i64 (-1))))
set_option maxRecDepth 100000 in
set_option maxHeartbeats 2000000 in
theorem findR (r : Nat) (L : List (Int × Int)) (rowv : Value) (id : Int) (w : World) (H : RefA w r L rowv) : Calls Try.prog 28 #[.pointer (some ⟨r, 0, none⟩), .int .i64 id] w (FindPost L id w) := by
  obtain ⟨oa, cap, rfl⟩ := own_shapeG H.row
  have c0 := H.c0
  have hsm := H.small
  have H' := hide' H
  clear H
  go_enter Try.func28, Try.ntmps28
  go_wp2
  go_loopw [5] (fun k wr => ∃ c : Nat, k = .int .i64 c ∧ c ≤ L.length ∧ Hid (∀ (j : Nat) x, j < c → L[j]? = some x → x.1 ≠ id) ∧ w = wr) (fun k _ => ((L.length : Int) - intOf k).toNat)
  case atStart => exact ⟨0, rfl, Nat.zero_le _, fun j x hj => by omega, rfl⟩
  case round =>
    obtain ⟨c, rfl, hc, hno, rfl⟩ := hrel
    by_cases hlt : c < L.length
    · obtain ⟨x, hx⟩ : ∃ x, L[c]? = some x := ⟨_, List.getElem?_eq_getElem hlt⟩
      obtain ⟨g, rfl, d1, -⟩ := H'.out.ent hx
      by_cases he : x.1 = id
      · have hP : Hid (FindPost L id w (.returned (.int .i64 (c : Int))) w) := ⟨rfl, .inl ⟨c, x, hx, he, rfl⟩⟩
        have q : (x.1 == id) = true := by simp [he]
        clear hx he H' hno
        generalize x.1 = xi at *
        go_wp2
        go_ret
        exact hP.out
      · have hno2 : Hid (∀ (j : Nat) x, j < c + 1 → L[j]? = some x → x.1 ≠ id) := fun j y hj hy => by
          by_cases e : j = c
          · subst e; rw [hx] at hy; cases hy; exact he
          · exact hno.out j y (by omega) hy
        have q : (x.1 == id) = false := by simp [he]
        clear hx he H' hno
        generalize x.1 = xi at *
        go_wp2
        exact ⟨⟨c + 1, by go_num, by omega, hno2, trivial⟩, by simp [intOf]; omega⟩
    · have hP : Hid (FindPost L id w (.returned (.int .i64 (-1))) w) := ⟨rfl, .inr ⟨fun x hx => by
        obtain ⟨j, hj⟩ := List.getElem?_of_mem hx
        have := (List.getElem?_eq_some_iff.1 hj).1
        exact hno.out j x (by omega) hj, rfl⟩⟩
      clear H' hno
      go_wp2
      go_ret
      exact hP.out
end Go.Proofs.Ytmjdecgijnodhaa
