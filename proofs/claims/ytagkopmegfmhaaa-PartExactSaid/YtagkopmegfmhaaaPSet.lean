/- Writing into a row of one's own. -/
import Derived.Test.YtagkopmegfmhaaaPEnds
import Derived.Lib.SliceRun
import Derived.Deep.RegionHeld3
namespace Go.Proofs.Ytagkopmegfmhaaa
open Go.RowKit
theorem RowI.take {w : World} {g n cap : Nat} {l : List Int} {base e : Nat} (h : w.ownsRow base e 1 (.slice (some ⟨g, 0, none⟩) n cap) n (cellsI l)) {c : Nat} (hc : c ≤ n) : RowI w (.slice (some ⟨g, 0, none⟩) c cap) (l.take c) := by
  have hl : n = l.length := by have := h.1; simp [cellsI] at this; omega
  obtain ⟨oa, cap', hv, h1, h2⟩ := RowI.of_owns h
  cases hv
  refine ⟨_, cap, by rw [List.length_take]; congr 1; omega, ⟨by rw [List.length_take]; omega, fun e => by cases e⟩, fun i z hz => ?_⟩
  obtain ⟨hi, _⟩ := List.getElem?_eq_some_iff.1 hz
  rw [List.length_take] at hi
  rw [List.getElem?_take_of_lt (by omega)] at hz
  obtain ⟨g', o', e, hcell⟩ := h2 i z hz
  exact ⟨g', o', e, hcell⟩
theorem own_belowP {w w' : World} {B e size n m : Nat} {v : Value} {xs : List Value} (h : w.ownsRow B e size v n xs) (hb : Below m w w') (hm : w.heap.size ≤ m) : w'.ownsRow B e size v n xs := by
  refine ⟨h.1, ?_⟩
  rcases h.2 with h1 | ⟨g, cap, cur, e1, e2, e3, e4⟩
  · exact .inl h1
  · exact .inr ⟨g, cap, cur, e1, e2, (hb.block g (Nat.lt_of_lt_of_le (Array.getElem?_eq_some_iff.1 e3).1 hm)).trans e3, e4⟩
theorem owns_setCells {base e g n cap : Nat} : ∀ (vs : List Value) (o : Nat) (w : World) (xs : List Value), w.ownsRow base e 1 (.slice (some ⟨g, 0, none⟩) n cap) n xs → o + vs.length ≤ xs.length →
    (w.setCells g o vs).ownsRow base e 1 (.slice (some ⟨g, 0, none⟩) n cap) n (xs.take o ++ vs ++ xs.drop (o + vs.length)) ∧ ∀ m, m ≤ g → Below m w (w.setCells g o vs)
  | [], o, w, xs, h, _ => by
    refine ⟨?_, fun m _ => Below.refl m w⟩
    simpa [World.setCells] using h
  | v :: r, o, w, xs, h, hl => by
    rw [List.length_cons] at hl
    obtain ⟨h1, h2⟩ := owns_setCells r (o + 1) (w.setCell ⟨g, o, none⟩ v) (xs.set o v) (h.stored o v).1 (by rw [List.length_set]; omega)
    refine ⟨?_, fun m hm => ((Below.refl m w).setCell (p := ⟨g, o, none⟩) hm v).trans (h2 m hm)⟩
    have e1 : (xs.set o v).take (o + 1) = xs.take o ++ [v] := by
      rw [List.take_add_one, List.getElem?_set, if_pos rfl, if_pos (by omega), List.take_set_of_le (Nat.le_refl _)]; rfl
    have e2 : (xs.set o v).drop (o + 1 + r.length) = xs.drop (o + (r.length + 1)) := by
      rw [List.drop_set_of_lt (by omega), show o + 1 + r.length = o + (r.length + 1) by omega]
    rw [e1, e2] at h1
    simpa [World.setCells] using h1
theorem set_at {l : List Nat} {d x : Nat} (y : Nat) (hx : l[d]? = some x) : (cellsI (ints l)).set d (.int .i64 (y : Int)) = cellsI (ints (l.take d ++ y :: l.drop (d + 1))) := by
  obtain ⟨hlt, _⟩ := List.getElem?_eq_some_iff.1 hx
  unfold cellsI ints
  have e := List.set_eq_take_append_cons_drop (l := l) (i := d) (a := y)
  rw [if_pos hlt] at e
  rw [List.map_map, List.map_map, ← e, List.map_set]; rfl
theorem clear0 (a : Option Addr) (c ty : Nat) (w : World) : (Builtin.clear_ #[22] ty #[.slice a 0 c]).run Try.prog w = .ok (.tuple #[]) w := by
  cases a <;> simp [Builtin.clear_, run_underlying Try.underlying22]
end Go.Proofs.Ytagkopmegfmhaaa
