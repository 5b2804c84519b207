/- Rows of rules in memory; row: labels, cut, in new memory. -/
import Derived.Test.YtfajgbdnfphajaaRMath
import Derived.Test.YtfajgbdnfphajaaPFn
import Derived.Lib.OwnKind
namespace Go.Proofs.Ytfajgbdnfphajaa
open Go.RowKit
/-- A rule as a value. -/
def rv (r : Rl) (sv : Value) : Value := .agg #[.int .i64 r.kind, .int .i64 r.k, sv]
def rcells (p : Rl × Value) : List Value := [.int .i64 p.1.kind, .int .i64 p.1.k, p.2]
def cellsR (P : List (Rl × Value)) : List Value := P.flatMap rcells
theorem cellsR_len (L : List (Rl × Value)) : (cellsR L).length = L.length * 3 := by
  induction L with
  | nil => rfl
  | cons a l ih => simp [cellsR, rcells] at ih ⊢; omega
theorem cellsR_app (L M : List (Rl × Value)) : cellsR (L ++ M) = cellsR L ++ cellsR M := by simp [cellsR]
theorem cellsR_at : ∀ (L : List (Rl × Value)) (i j : Nat), j < 3 → (cellsR L)[i * 3 + j]? = L[i]?.bind fun t => (rcells t)[j]?
  | [], i, j, _ => by simp [cellsR]
  | a :: l, 0, j, hj => by
    have e : cellsR (a :: l) = rcells a ++ cellsR l := by simp [cellsR]
    rw [e, List.getElem?_append_left (by simpa [rcells] using hj)]
    simp
  | a :: l, i + 1, j, hj => by
    have h := cellsR_at l i j hj
    have e : cellsR (a :: l) = rcells a ++ cellsR l := by simp [cellsR]
    have hl : (rcells a).length = 3 := rfl
    rw [e, List.getElem?_append_right (by rw [hl]; omega), hl, show (i + 1) * 3 + j - 3 = i * 3 + j by omega, List.getElem?_cons_succ]
    exact h
/-- A row of rules, wherever it lies. -/
def RowR (w : World) (v : Value) (L : List Rl) : Prop := ∃ oa cap, v = .slice oa L.length cap ∧ (L.length ≤ cap ∧ (oa = none → cap = 0)) ∧ ∀ i r, L[i]? = some r → ∃ g o sv, oa = some ⟨g, o, none⟩ ∧ w.cell? ⟨g, o + i * 3, none⟩ = some (.int .i64 r.kind) ∧ w.cell? ⟨g, o + i * 3 + 1, none⟩ = some (.int .i64 r.k) ∧ w.cell? ⟨g, o + i * 3 + 2, none⟩ = some sv ∧ RowI w sv r.steps
theorem RowR.below {w w' : World} {v : Value} {l : List Rl} {n : Nat} (h : RowR w v l) (hb : Below n w w') (hn : w.heap.size ≤ n) : RowR w' v l := by
  obtain ⟨oa, cap, e, e0, h⟩ := h
  refine ⟨oa, cap, e, e0, fun i z hz => ?_⟩
  obtain ⟨g, o, sv, e1, e2, e3, e4, e5⟩ := h i z hz
  exact ⟨g, o, sv, e1, (hb.cell (p := ⟨g, o + i * 3, none⟩) (Nat.lt_of_lt_of_le (cell_lt e2) hn)).trans e2, (hb.cell (p := ⟨g, o + i * 3 + 1, none⟩) (Nat.lt_of_lt_of_le (cell_lt e3) hn)).trans e3, (hb.cell (p := ⟨g, o + i * 3 + 2, none⟩) (Nat.lt_of_lt_of_le (cell_lt e4) hn)).trans e4, e5.below hb hn⟩
/-- A row of rules, all in memory of its own. -/
structure TwS (B : Nat) (w : World) (v : Value) (P : List (Rl × Value)) : Prop where
  row : w.ownsRow B 62 3 v P.length (cellsR P)
  inner : ∀ p ∈ P, w.ownsRow B 3 1 p.2 p.1.steps.length (cellsI p.1.steps)
theorem TwS.rowR {B : Nat} {w : World} {v : Value} {P : List (Rl × Value)} (h : TwS B w v P) : RowR w v (P.map Prod.fst) := by
  have hr := h.row
  unfold RowR
  rw [List.length_map]
  rcases hr.2 with ⟨rfl, h0⟩ | ⟨g, cap, cur, rfl, _, _, hcap, _⟩
  · refine ⟨none, 0, by rw [h0], ⟨by omega, fun _ => rfl⟩, fun i z hz => ?_⟩
    have := (List.getElem?_eq_some_iff.1 hz).1
    simp at this; omega
  · refine ⟨_, cap, rfl, ⟨hcap, fun e => by cases e⟩, fun i z hz => ?_⟩
    rw [List.getElem?_map] at hz
    cases hp : P[i]? with
    | none => rw [hp] at hz; cases hz
    | some p =>
      rw [hp] at hz
      cases hz
      have hi := (List.getElem?_eq_some_iff.1 hp).1
      have a0 := hr.cellAt (i * 3 + 0) (by omega)
      have a1 := hr.cellAt (i * 3 + 1) (by omega)
      have a2 := hr.cellAt (i * 3 + 2) (by omega)
      rw [cellsR_at P i 0 (by decide), hp] at a0
      rw [cellsR_at P i 1 (by decide), hp] at a1
      rw [cellsR_at P i 2 (by decide), hp] at a2
      refine ⟨g, 0, p.2, rfl, by rw [Nat.zero_add]; exact a0, by rw [Nat.zero_add]; exact a1, by rw [Nat.zero_add]; exact a2, RowI.of_owns (h.inner p (List.mem_of_getElem? hp))⟩
theorem TwS.nil (B : Nat) (w : World) : TwS B w (.slice none 0 0) [] := ⟨World.ownsRow_nil w _ _ _, fun p h => by cases h⟩
theorem TwS.ne {B : Nat} {w : World} {v : Value} {P : List (Rl × Value)} (h : TwS B w v P) {p : Rl × Value} (hp : p ∈ P) {g : Nat} (hv : v.ownBlock = some g) : p.2.ownBlock ≠ some g := by
  intro e
  obtain ⟨c1, f1, h1⟩ := Go.Lib.ownsRow_kind (h.inner p hp) g e
  obtain ⟨c2, f2, h2⟩ := Go.Lib.ownsRow_kind h.row g hv
  rw [h1] at h2
  simp at h2
/-- Both kept by a world that changes nothing of the row's own. -/
theorem TwS.kept {B : Nat} {w w' : World} {v : Value} {P : List (Rl × Value)} (h : TwS B w v P) (hg : w.grownBy w' none) : TwS B w' v P :=
  ⟨h.row.kept hg (by cases hv : v.ownBlock with | none => exact .inl rfl | some b => exact .inr (by simp)), fun p hp => (h.inner p hp).kept hg (by cases hv : p.2.ownBlock with | none => exact .inl rfl | some b => exact .inr (by simp))⟩
theorem TwS.push {B : Nat} {w w' : World} {v v' : Value} {P : List (Rl × Value)} (h : TwS B w v P) (p : Rl × Value) (hp : w.ownsRow B 3 1 p.2 p.1.steps.length (cellsI p.1.steps)) (hne : ∀ g, v.ownBlock = some g → p.2.ownBlock ≠ some g) (hown : w'.ownsRow B 62 3 v' (P.length + 1) (cellsR P ++ rcells p)) (hg : w.grownBy w' v.ownBlock) : TwS B w' v' (P ++ [p]) := by
  have K : ∀ q : Rl × Value, (∀ g, v.ownBlock = some g → q.2.ownBlock ≠ some g) → w.ownsRow B 3 1 q.2 q.1.steps.length (cellsI q.1.steps) → w'.ownsRow B 3 1 q.2 q.1.steps.length (cellsI q.1.steps) := fun q hq ho => by
    refine ho.kept hg ?_
    cases hv : q.2.ownBlock with
    | none => exact .inl rfl
    | some b => exact .inr fun e => hq b e.symm hv
  refine ⟨?_, fun q hq => ?_⟩
  · rw [cellsR_app, List.length_append]
    simpa [cellsR] using hown
  · rcases List.mem_append.1 hq with hq | hq
    · exact K q (fun g hv => h.ne hq hv) (h.inner q hq)
    · rw [List.mem_singleton] at hq
      subst hq
      exact K _ hne hp
end Go.Proofs.Ytfajgbdnfphajaa
