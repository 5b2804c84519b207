/- AgendaSorts: the agenda and the row of what was set when. -/
import Derived.Test.YtmjdecgijnodhaaGSortM
import Derived.Test.YtmjdecgijnodhaaGWake
namespace Go.Proofs.Ytmjdecgijnodhaa
open Go.RowKit Go.Maps
/-- A row of numbers, wherever it lies. -/
def RowG (w : World) (v : Value) (l : List Int) : Prop := ∃ oa cap, v = .slice oa l.length cap ∧ (l.length ≤ cap ∧ (oa = none → cap = 0)) ∧ ∀ i z, l[i]? = some z → ∃ g o, oa = some ⟨g, o, none⟩ ∧ w.cell? ⟨g, o + i, none⟩ = some (.int .i64 z)
def cellsW (Wf : Nat → Nat) (n : Nat) : List Value := (List.range n).map fun i => Value.int .i64 ((Wf i : Nat) : Int)
theorem cellsW_at (Wf : Nat → Nat) {n i : Nat} (hi : i < n) : (cellsW Wf n)[i]? = some (.int .i64 ((Wf i : Nat) : Int)) := by simp [cellsW, hi]
def updW (Wf : Nat → Nat) (i v k : Nat) : Nat := if k = i then v else Wf k
theorem cellsW_set (Wf : Nat → Nat) (n i v : Nat) : (cellsW Wf n).set i (.int .i64 ((v : Nat) : Int)) = cellsW (updW Wf i v) n := by
  apply List.ext_getElem?
  intro k
  rw [List.getElem?_set]
  have hl : (cellsW Wf n).length = n := by simp [cellsW]
  by_cases hk : k < n
  · by_cases e : i = k
    · subst e; rw [if_pos rfl, hl, if_pos hk, cellsW_at _ hk, show updW Wf i v i = v from if_pos rfl]
    · rw [if_neg e, cellsW_at _ hk, cellsW_at _ hk, show updW Wf i v k = Wf k from if_neg (Ne.symm e)]
  · have e1 : (cellsW (updW Wf i v) n)[k]? = none := List.getElem?_eq_none (by simp [cellsW]; omega)
    have e2 : (cellsW Wf n)[k]? = none := List.getElem?_eq_none (by rw [hl]; omega)
    rw [e1, e2, hl]
    by_cases e : i = k
    · subst e; rw [if_pos rfl, if_neg hk]
    · rw [if_neg e]
theorem SN_set {T : Nat → Int} {Wf : Nat → Nat} {m m' i s : Nat} (hm : ∀ j, j < m' ↔ j < m ∨ j = i) (x : Ent) : SN T (updW Wf i s) m' x ↔ (SN T Wf m x ∧ x.id ≠ (i : Int)) ∨ x = ⟨(i : Int), T i, (s : Int) + 1⟩ := by
  constructor
  · rintro ⟨j, hj, rfl⟩
    by_cases e : j = i
    · subst e; right; simp [updW]
    · left
      rcases (hm j).1 hj with h | h
      · exact ⟨⟨j, h, by simp [updW, e]⟩, by show (j : Int) ≠ i; omega⟩
      · exact absurd h e
  · rintro (⟨⟨j, hj, rfl⟩, hne⟩ | rfl)
    · have e : j ≠ i := fun e => hne (by rw [e])
      exact ⟨j, (hm j).2 (.inl hj), by simp [updW, e]⟩
    · exact ⟨i, (hm i).2 (.inr rfl), by simp [updW]⟩
/-- What stands between the calls. -/
structure SrtI (w wr : World) (a gw N : Nat) (T : Nat → Int) (Wf : Nat → Nat) (m sets : Nat) (F : Nat → Prop) : Prop where
  ag : AgS wr a F (SN T Wf m) m sets
  row : wr.ownsRow 0 3 1 (.slice (some ⟨gw, 0, none⟩) N N) N (cellsW Wf N)
  far : ¬ F gw
  own : ∀ k, F k → w.heap.size ≤ k
  gwo : w.heap.size ≤ gw
  bel : Below w.heap.size w wr
theorem SrtI.set {w wr w2 : World} {a gw N m m' i sets : Nat} {T : Nat → Int} {Wf : Nat → Nat} {F : Nat → Prop} (H : SrtI w wr a gw N T Wf m sets F) (hm : ∀ j, j < m' ↔ j < m ∨ j = i) (hcnt : (i < m ∧ m' = m) ∨ (i = m ∧ m' = m + 1))
    {e : Ending} (hP : SetPost a m F (SN T Wf m) sets (i : Int) (T i) wr e w2) : ∃ F2, SrtI w (w2.setCell ⟨gw, i, none⟩ (.int .i64 (sets : Int))) a gw N T (updW Wf i sets) m' (sets + 1) F2 ∧ w2.ownsRow 0 3 1 (.slice (some ⟨gw, 0, none⟩) N N) N (cellsW Wf N) := by
  obtain ⟨_, F2, n2, hA, hM, hF2, hn⟩ := hP
  have hglt : gw < wr.heap.size := (H.row.lt gw rfl).2
  have hrow2 : w2.ownsRow 0 3 1 (.slice (some ⟨gw, 0, none⟩) N N) N (cellsW Wf N) := owns_same H.row fun k hk ek => hM.block k hk (fun x => H.far (by cases ek; exact x))
  have hfar2 : ¬ F2 gw := fun x => by
    rcases hF2 gw x with y | y
    · exact H.far y
    · omega
  have hn2 : n2 = m' := by
    rcases hcnt with ⟨h1, h2⟩ | ⟨h1, h2⟩
    · rw [h2]; exact set_count' hn ⟨_, ⟨i, h1, rfl⟩, rfl⟩
    · rw [h2]
      refine set_count hn ?_
      rintro ⟨x, ⟨j, hj, rfl⟩, e⟩
      have : (j : Int) = i := e
      omega
  subst hn2
  have hz := hM.size
  have hA2 : AgS w2 a F2 (SN T (updW Wf i sets) n2) n2 (sets + 1) := hA.congr (fun x => SN_set hm x)
  have hA3 := hA2.keep (w' := w2.setCell ⟨gw, i, none⟩ (.int .i64 (sets : Int))) (by rw [size_setG]; exact Nat.le_refl _) (fun k hk => Below.heap_setCell _ _ _ _ (fun x => hfar2 (by have x2 : k = gw := x; rw [← x2]; exact hk)))
  have hs := (hrow2.stored i (.int .i64 (sets : Int))).1
  rw [cellsW_set] at hs
  refine ⟨F2, ⟨hA3, hs, hfar2, fun k hk => ?_, H.gwo, ?_⟩, hrow2⟩
  · rcases hF2 k hk with y | y
    · exact H.own k y
    · have := H.bel.size; omega
  · have hb2 := hM.toBelow H.own H.bel.size
    exact (H.bel.trans hb2).setCell H.gwo _
end Go.Proofs.Ytmjdecgijnodhaa
