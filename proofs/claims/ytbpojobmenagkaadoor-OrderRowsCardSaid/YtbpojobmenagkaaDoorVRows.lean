/- Rows of rows, told apart by their types. -/
import Derived.Test.YtbpojobmenagkaaDoorVHts
namespace Go.Proofs.YtbpojobmenagkaaDoor
open Go.RowKit Go.Shelf
theorem infoLV : (Tryd.prog.info? 24).map (fun i => (i.zero, i.size, i.bytes)) = some (some (.slice none 0 0), 1, 24) := by kernel_rfl
/-- A row of rows, all of it of one's own. -/
def RV (B : Nat) (W : World) (ov : Value) (L : List (List Nat)) : Prop := ∃ vs, W.ownsRow B 24 1 ov L.length vs ∧ ∀ (i : Nat) (l : List Nat), L[i]? = some l → ∃ u, vs[i]? = some u ∧ W.ownsRow B 3 1 u l.length (cellsN l)
theorem RV.nil (B : Nat) (W : World) : RV B W (.slice none 0 0) [] := ⟨[], World.ownsRow_nil _ _ _ _, fun i l h => by cases h⟩
theorem owns_belowV {W W' : World} {B : Nat} {e : TypeId} {size : Nat} {v : Value} {n : Nat} {xs : List Value} (h : W.ownsRow B e size v n xs) (hb : Below W.heap.size W W') : W'.ownsRow B e size v n xs := by
  refine ⟨h.1, ?_⟩
  rcases h.2 with hn | ⟨g, cap, cur, rfl, hb0, hgg, rest⟩
  · exact .inl hn
  · exact .inr ⟨g, cap, cur, rfl, hb0, (hb.block g (Array.getElem?_eq_some_iff.1 hgg).1).trans hgg, rest⟩
theorem owns_lowV {W : World} {B B' : Nat} {e : TypeId} {size : Nat} {v : Value} {n : Nat} {xs : List Value} (h : W.ownsRow B e size v n xs) (hB : B' ≤ B) : W.ownsRow B' e size v n xs := by
  refine ⟨h.1, ?_⟩
  rcases h.2 with hn | ⟨g, cap, cur, rfl, hb0, rest⟩
  · exact .inl hn
  · exact .inr ⟨g, cap, cur, rfl, Nat.le_trans hB hb0, rest⟩
theorem RV.low {B B' : Nat} {W : World} {ov : Value} {L : List (List Nat)} (h : RV B W ov L) (hB : B' ≤ B) : RV B' W ov L := by
  obtain ⟨vs, h1, h2⟩ := h
  refine ⟨vs, owns_lowV h1 hB, fun i l hi => ?_⟩
  obtain ⟨u, hu, hr⟩ := h2 i l hi
  exact ⟨u, hu, owns_lowV hr hB⟩
theorem RV.below {B : Nat} {W W' : World} {ov : Value} {L : List (List Nat)} (h : RV B W ov L) (hb : Below W.heap.size W W') : RV B W' ov L := by
  obtain ⟨vs, h1, h2⟩ := h
  refine ⟨vs, owns_belowV h1 hb, fun i l hi => ?_⟩
  obtain ⟨u, hu, hr⟩ := h2 i l hi
  exact ⟨u, hu, owns_belowV hr hb⟩
theorem RV.one {B : Nat} {W W' : World} {ov : Value} {L : List (List Nat)} {b : Option Nat} {t : TypeId} (h : RV B W ov L) (ho : OneB W W' b t) (h1 : 24 ≠ t) (h2 : 3 ≠ t) : RV B W' ov L := by
  obtain ⟨vs, g1, g2⟩ := h
  refine ⟨vs, ho.owns g1 h1, fun i l hi => ?_⟩
  obtain ⟨u, hu, hr⟩ := g2 i l hi
  exact ⟨u, hu, ho.owns hr h2⟩
theorem OneB.grownT {W W' : World} {base n : Nat} {t : TypeId} {v : Value} {xs : List Value} {o : Obj} (ho : W.ownsRow base t 1 v n xs) (hg : (W.alloc o).grownBy W' v.ownBlock) : OneB W W' v.ownBlock t := by
  refine ⟨?_, fun k hk hne => ?_, fun k e => Go.Lib.ownsRow_kind ho k e⟩
  · have := hg.size; simp at this; omega
  · rw [hg.block k (by simp; omega) (fun e => hne e.symm), Below.heap_alloc _ _ _ hk]
theorem RV.shape {B : Nat} {W : World} {ov : Value} {L : List (List Nat)} (h : RV B W ov L) : ∃ oa cap, ov = .slice oa L.length cap := by
  obtain ⟨vs, h1, _⟩ := h
  rcases h1.2 with ⟨rfl, h0⟩ | ⟨g, cap, cur, rfl, _⟩
  · exact ⟨none, 0, by rw [h0]⟩
  · exact ⟨_, cap, rfl⟩
/-- One more row laid behind. -/
theorem RV.push {B : Nat} {W W' : World} {ov ov' u : Value} {L : List (List Nat)} {l : List Nat} {vs : List Value} {o : Obj} (h1 : W.ownsRow B 24 1 ov L.length vs) (h2 : ∀ (i : Nat) (l : List Nat), L[i]? = some l → ∃ u, vs[i]? = some u ∧ W.ownsRow B 3 1 u l.length (cellsN l)) (hu : W.ownsRow B 3 1 u l.length (cellsN l)) (hown : W'.ownsRow B 24 1 ov' (L.length + 1) (vs ++ [u])) (hg : (W.alloc o).grownBy W' ov.ownBlock) : RV B W' ov' (L ++ [l]) := by
  have ho := OneB.grownT h1 hg
  have hvl : vs.length = L.length := by have := h1.1; omega
  refine ⟨vs ++ [u], by rw [List.length_append]; exact hown, fun i l' hi => ?_⟩
  rcases Nat.lt_or_ge i L.length with hlt | hge
  · rw [List.getElem?_append_left hlt] at hi
    obtain ⟨v, hv, hr⟩ := h2 i l' hi
    exact ⟨v, by rw [List.getElem?_append_left (by omega)]; exact hv, ho.owns hr (by decide)⟩
  · rw [List.getElem?_append_right hge] at hi
    have h0 : i - L.length = 0 := by
      rcases Nat.eq_zero_or_pos (i - L.length) with e | e
      · exact e
      · rw [List.getElem?_eq_none (by simp; omega)] at hi; cases hi
    rw [h0] at hi
    cases hi
    refine ⟨u, ?_, ho.owns hu (by decide)⟩
    rw [List.getElem?_append_right (by omega), hvl, h0]; rfl
theorem own_geV {w : World} {B : Nat} {e : TypeId} {size : Nat} {v : Value} {n : Nat} {xs : List Value} (h : w.ownsRow B e size v n xs) : ∀ j, v.ownBlock = some j → B ≤ j := fun j ej => by
  rcases h.2 with ⟨rfl, _⟩ | ⟨g, cap, cur, rfl, hb, _⟩
  · cases ej
  · cases ej; exact hb
end Go.Proofs.YtbpojobmenagkaaDoor
