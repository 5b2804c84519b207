/- What stands behind the first two calls of the laws of rule. -/
import Derived.Test.YtcdlodmoiobpbaaPKeep
import Derived.Test.YtcdlodmoiobpbaaRRef
namespace Go.Proofs.Ytcdlodmoiobpbaa
open Go.RowKit
/-- Rules and labels, in new memory. -/
structure St (w W : World) (n : Int) (ol : Option Addr) (cl : Nat) (L : List Rl) (ob : Option Addr) (cb : Nat) (B : List Int) : Prop where
  xN : W.cell? ⟨w.heap.size, 0, none⟩ = some (.int .i64 n)
  rl : RowR W (.slice ol L.length cl) L
  lb : RowI W (.slice ob B.length cb) B
  bl : Below w.heap.size w W
  few : L.length ≤ 60
  low : ∀ r ∈ L, r.steps.length ≤ 30
  fewB : B.length ≤ 40
theorem St.over {w W W' : World} {n : Int} {ol : Option Addr} {cl : Nat} {L : List Rl} {ob : Option Addr} {cb : Nat} {B : List Int} (h : St w W n ol cl L ob cb B) (hb : Below W.heap.size W W') : St w W' n ol cl L ob cb B :=
  ⟨(hb.cell (p := ⟨w.heap.size, 0, none⟩) (cell_lt h.xN)).trans h.xN, h.rl.below hb (Nat.le_refl _), h.lb.below hb (Nat.le_refl _), h.bl.trans (hb.mono h.bl.size), h.few, h.low, h.fewB⟩
theorem RowR.shape {w : World} {v : Value} {L : List Rl} (h : RowR w v L) : ∃ oa cap, v = .slice oa L.length cap := by
  obtain ⟨oa, cap, e, _⟩ := h
  exact ⟨oa, cap, e⟩
theorem RowI.shape {w : World} {v : Value} {L : List Int} (h : RowI w v L) : ∃ oa cap, v = .slice oa L.length cap := by
  obtain ⟨oa, cap, e, _⟩ := h
  exact ⟨oa, cap, e⟩
/-- Twin, told by what is read of it. -/
theorem twinR (L : List Rl) (v : Value) (w : World) (hr : RowR w v L) :
    Calls Try.prog 4 #[v] w fun e w' => ∃ ol cl, e = .returned (.slice ol (twin L).length cl) ∧ RowR w' (.slice ol (twin L).length cl) (twin L) ∧ Below w.heap.size w w' :=
  (twinF L v w hr).mono fun _ _ ⟨v', h1, ⟨P, h2, h3⟩, h4⟩ => by
    have h5 := h3.rowR
    rw [h2] at h5
    obtain ⟨oa, cap, e⟩ := h5.shape
    subst e
    exact ⟨oa, cap, h1, h5, h4⟩
/-- The cells of a rule of the row, in any later world. -/
theorem St.cells {w W : World} {n : Int} {ol : Option Addr} {cl : Nat} {L : List Rl} {ob : Option Addr} {cb : Nat} {B : List Int} (h : St w W n ol cl L ob cb B) {c : Nat} {r : Rl} (hr : L[c]? = some r) : ∃ g o os cs, ol = some ⟨g, o, none⟩ ∧ (∀ V, Below W.heap.size W V → V.cell? ⟨g, o + c * 3, none⟩ = some (.int .i64 r.kind) ∧ V.cell? ⟨g, o + c * 3 + 1, none⟩ = some (.int .i64 r.k) ∧ V.cell? ⟨g, o + c * 3 + 2, none⟩ = some (.slice os r.steps.length cs) ∧ V.cell? ⟨w.heap.size, 0, none⟩ = some (.int .i64 n)) ∧ ∀ V, Below W.heap.size W V → RowI V (.slice os r.steps.length cs) r.steps := by
  obtain ⟨oa, cap, e, _, hc⟩ := h.rl
  cases e
  obtain ⟨g, o, sv, e1, e2, e3, e4, e5⟩ := hc c r hr
  obtain ⟨os, cs, e6⟩ := e5.shape
  subst e6
  refine ⟨g, o, os, cs, e1, fun V hV => ⟨(hV.cell (p := ⟨g, o + c * 3, none⟩) (cell_lt e2)).trans e2, (hV.cell (p := ⟨g, o + c * 3 + 1, none⟩) (cell_lt e3)).trans e3, (hV.cell (p := ⟨g, o + c * 3 + 2, none⟩) (cell_lt e4)).trans e4, (hV.cell (p := ⟨w.heap.size, 0, none⟩) (cell_lt h.xN)).trans h.xN⟩, fun V hV => e5.below hV (Nat.le_refl _)⟩
theorem take40 (B : List Int) : (B.take 40).take 40 = B.take 40 := by rw [List.take_take, Nat.min_self]
theorem take40_of {B : List Int} (h : B.length ≤ 40) : B.take 40 = B := List.take_of_length_le h
end Go.Proofs.Ytcdlodmoiobpbaa
