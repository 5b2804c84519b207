/- Rows of rows: the outer row turned, tags, reading. -/
import Derived.Test.YtagkopmegfmhaaaQLists
import Derived.Test.YtagkopmegfmhaaaKRow
import Derived.Test.YtagkopmegfmhaaaKApp
import Derived.Maps.AppendAt
namespace Go.Proofs.Ytagkopmegfmhaaa.K
open Go.RowKit
section
variable {tag tag' : Nat → Nat} {w w' : World} {t : Nat} {c : Nat → Nat} {ov : Value} {m : Nat} {vs : List Value} {rows : Nat → List Int}
/-- The outer row's block may have been turned: it is shown anew. -/
theorem Fam.out (h : Fam w tag t c ov m vs rows) (hs : Sm (· = t) tag w w') (ho : w'.ownsRow 0 22 1 ov m vs) (hc : ∀ j, j < m → c j ≠ t) : Fam w' tag t c ov m vs rows := by
  refine ⟨ho, h.otag, fun j v hj => owns_same (h.inner j v hj) fun g hg e => hs.block g hg ?_, h.itag⟩
  rw [h.itag j v g hj e]
  exact hc j (by have := (List.getElem?_eq_some_iff.1 hj).1; rw [h.len] at this; exact this)
theorem Fam.tags (h : Fam w tag t c ov m vs rows) (ht : ∀ g, tag g ≠ 0 → tag' g = tag g) (h0 : t ≠ 0) (hc : ∀ j, c j ≠ 0) : Fam w tag' t c ov m vs rows :=
  ⟨h.outer, fun g e => (ht g (by rw [h.otag g e]; exact h0)).trans (h.otag g e), h.inner, fun j v g hj e => (ht g (by rw [h.itag j v g hj e]; exact hc j)).trans (h.itag j v g hj e)⟩
end
theorem own_shape {w : World} {b : Nat} {e : TypeId} {size : Nat} {v : Value} {n : Nat} {xs : List Value} (h : w.ownsRow b e size v n xs) : ∃ oa cap, v = .slice oa n cap := by
  rcases h.2 with ⟨rfl, rfl⟩ | ⟨g, cap, cur, rfl, _⟩
  · exact ⟨_, _, rfl⟩
  · exact ⟨_, _, rfl⟩
theorem famNil (w : World) (tag : Nat → Nat) (t : Nat) (c : Nat → Nat) (rows : Nat → List Int) : Fam w tag t c (.slice none 0 0) 0 [] rows :=
  ⟨World.ownsRow_nil w _ _ _, (fun _ e => by cases e), (fun _ _ h => by cases h), (fun _ _ _ h => by cases h)⟩
end Go.Proofs.Ytagkopmegfmhaaa.K
namespace Go.Proofs.Ytagkopmegfmhaaa
open Go.RowKit
theorem cell_blk {W : World} {g : Nat} {v : Value} {t : TypeId} (h : W.heap[g]? = some (.cells #[v] t (0, 0))) : W.cell? ⟨g, 0, none⟩ = some v := by simp [World.cell?, h]
def rowsOf (L : List (List Nat)) (j : Nat) : List Int := ints (L.getD j [])
theorem rowsOf_lt (L : List (List Nat)) (l : List Nat) {j : Nat} (h : j < L.length) : rowsOf (L ++ [l]) j = rowsOf L j := by
  unfold rowsOf; rw [List.getD_eq_getElem?_getD, List.getD_eq_getElem?_getD, List.getElem?_append_left h]
theorem rowsOf_new (L : List (List Nat)) (l : List Nat) : rowsOf (L ++ [l]) L.length = ints l := by unfold rowsOf; simp
theorem rowsOf_at {L : List (List Nat)} {l : List Nat} {j : Nat} (h : L[j]? = some l) : rowsOf L j = ints l := by
  unfold rowsOf; rw [List.getD_eq_getElem?_getD, h]; rfl
/-- A row of rows, read. -/
theorem RR.of_fam {W : World} {tag : Nat → Nat} {t : Nat} {c : Nat → Nat} {ov : Value} {vs : List Value} {L : List (List Nat)} (h : K.Fam W tag t c ov L.length vs (rowsOf L)) : RR W ov L := by
  obtain ⟨oa, cap, rfl⟩ := K.own_shape h.outer
  refine ⟨oa, cap, rfl, fun i l hi => ?_⟩
  have hlt := (List.getElem?_eq_some_iff.1 hi).1
  obtain ⟨v, hv⟩ : ∃ v, vs[i]? = some v := ⟨_, List.getElem?_eq_getElem (by rw [h.len]; exact hlt)⟩
  have h1 := h.inner i v hv
  rw [rowsOf_at hi] at h1
  obtain ⟨ou, cu, rfl⟩ := K.own_shape h1
  rcases h.outer.2 with ⟨e, h0⟩ | ⟨g, cap', cur, e, _, hb, hcap, _, _, hcur⟩
  · omega
  · cases e
    refine ⟨g, 0, ou, cu, rfl, ?_, ?_⟩
    · have e1 : cur[i]? = some (.slice ou (ints l).length cu) := by
        have : (cur.toList.take (L.length * 1))[i]? = vs[i]? := by rw [hcur]
        rw [List.getElem?_take_of_lt (by omega), hv] at this
        simpa using this
      rw [ints_len] at e1
      rw [Nat.zero_add]
      simp [World.cell?, hb, e1]
    · have h2 : W.ownsRow 0 3 1 (.slice ou (ints l).length cu) (ints l).length (cellsI (ints l)) := h1
      have h3 := RowI.of_owns h2
      rwa [ints_len] at h3
end Go.Proofs.Ytagkopmegfmhaaa
