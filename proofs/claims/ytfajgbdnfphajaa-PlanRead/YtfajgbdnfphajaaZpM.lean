/- Plans: flaws and certificates, plain. -/
import Derived.Test.YtfajgbdnfphajaaSHolds
namespace Go.Proofs.Ytfajgbdnfphajaa.S
open Go.RowKit Go.Shelf
/-- A flaw, told by plain numbers. -/
structure Fl where
  kind : Nat
  step : Nat
  rule : Nat
/-- The kind of flaw that it is for a step to be a user's. -/
def flK (P : Pb) (t : Nat) (x : Int) : Nat :=
  if isU P x = false then 2 else if P.fixed.getD t (-1) ≠ -1 ∧ P.fixed.getD t (-1) ≠ x then 3
  else if P.fixed.getD t (-1) = -1 ∧ (P.who.getD t 0).testBit x.toNat = false then 4 else 0
def fl1 (P : Pb) (L : List Int) (t : Nat) : List Fl := if flK P t (L.getD t 0) = 0 then [] else [⟨flK P t (L.getD t 0), t, 0⟩]
/-- The steps' flaws. -/
def stF (P : Pb) (L : List Int) (j : Nat) : List Fl := (List.range j).flatMap (fl1 P L)
def ruF (B : List Nat) : List Fl := B.map fun r => ⟨5, 0, r⟩
/-- The flaws of a plan. -/
def flwL (P : Pb) (L : List Int) : List Fl := if L.length = P.who.length then stF P L L.length ++ ruF (broken P.rules L) else [⟨1, 0, 0⟩]
theorem stF_succ (P : Pb) (L : List Int) (j : Nat) : stF P L (j + 1) = stF P L j ++ fl1 P L j := by
  unfold stF
  rw [List.range_succ]
  simp
theorem stF_zero (P : Pb) (L : List Int) : stF P L 0 = [] := rfl
theorem fl1_len (P : Pb) (L : List Int) (t : Nat) : (fl1 P L t).length ≤ 1 := by unfold fl1; split <;> simp
theorem stF_len (P : Pb) (L : List Int) (j : Nat) : (stF P L j).length ≤ j := by
  induction j with
  | zero => simp [stF]
  | succ j ih => rw [stF_succ, List.length_append]; have := fl1_len P L j; omega
theorem fl1_no {P : Pb} {L : List Int} {t : Nat} {x : Int} (h : L[t]? = some x) (h0 : flK P t x = 0) : fl1 P L t = [] := by
  unfold fl1
  rw [show L.getD t 0 = x by simp [List.getD_eq_getElem?_getD, h], if_pos h0]
theorem fl1_yes {P : Pb} {L : List Int} {t : Nat} {x : Int} (h : L[t]? = some x) (h0 : flK P t x ≠ 0) : fl1 P L t = [⟨flK P t x, t, 0⟩] := by
  unfold fl1
  rw [show L.getD t 0 = x by simp [List.getD_eq_getElem?_getD, h], if_neg h0]
/-- A step has no flaw just if its user may do it. -/
theorem flK_ok {P : Pb} (hc : chkN P = 0) (t : Nat) (x : Int) (ht : t < P.who.length) : flK P t x = 0 ↔ okU P t x = true := by
  obtain ⟨_, g0, g64, _, gF, _, _⟩ := chkN_zero hc
  obtain ⟨gl, gx⟩ := fixB_of gF g64
  obtain ⟨y, hy⟩ : ∃ y, P.fixed[t]? = some y := ⟨_, List.getElem?_eq_getElem (by omega)⟩
  have hyr := gx y (List.mem_of_getElem? hy)
  have e1 : P.fixed.getD t (-1) = y := by simp [List.getD_eq_getElem?_getD, hy]
  have e2 : P.fixed.getD t 0 = y := by simp [List.getD_eq_getElem?_getD, hy]
  unfold flK okU mayP
  rw [e1, e2]
  cases hu : isU P x with
  | false => simp
  | true =>
    have hx0 : 0 ≤ x := by
      unfold isU at hu
      rw [Bool.and_eq_true] at hu
      exact of_decide_eq_true hu.1
    by_cases h1 : y = -1
    · subst h1
      simp
    · rw [if_neg h1]
      simp only [h1, not_false_eq_true, true_and, false_and, if_false, Bool.true_and, Nat.testBit_two_pow, decide_eq_true_eq, ne_eq]
      by_cases h2 : y = x
      · subst h2; simp
      · simp [h2]; omega
theorem flw_nil {P : Pb} (hc : chkN P = 0) (L : List Int) : ((flwL P L).length = 0) ↔ holP P L = true := by
  unfold flwL holP
  rw [decide_eq_true hc, Bool.true_and]
  by_cases hl : L.length = P.who.length
  · rw [if_pos hl, decide_eq_true hl, Bool.true_and, List.length_append, Bool.and_eq_true, decide_eq_true_eq, Nat.add_eq_zero_iff]
    refine and_congr ?_ (by simp [ruF])
    have key : ∀ j, j ≤ L.length → ((stF P L j).length = 0 ↔ okA P L j = true) := by
      intro j
      induction j with
      | zero => intro _; simp [stF, okA]
      | succ j ih =>
        intro hj
        obtain ⟨x, hx⟩ : ∃ x, L[j]? = some x := ⟨_, List.getElem?_eq_getElem (by omega)⟩
        have hk := flK_ok hc j x (by omega)
        rw [stF_succ, okA_succ P hx, List.length_append, Bool.and_eq_true, Nat.add_eq_zero_iff, ih (by omega)]
        refine and_congr Iff.rfl ?_
        by_cases h0 : flK P j x = 0
        · rw [fl1_no hx h0]; simp [hk.1 h0]
        · rw [fl1_yes hx h0]
          have : okU P j x = false := by cases q : okU P j x; rfl; exact absurd (hk.2 q) h0
          simp [this]
    exact key _ (Nat.le_refl _)
  · rw [if_neg hl, decide_eq_false hl]; simp
theorem flw_hol {P : Pb} (hc : chkN P = 0) (L : List Int) : decide ((flwL P L).length = 0) = holP P L := by
  rw [Bool.eq_iff_iff, decide_eq_true_iff]
  exact flw_nil hc L
theorem flK_le (P : Pb) (t : Nat) (x : Int) : flK P t x ≤ 4 := by
  unfold flK
  split
  · decide
  · split
    · decide
    · split <;> decide
theorem broken_lenZ (R : List Rl) (L : List Int) : (broken R L).length ≤ R.length := by
  unfold broken
  refine Nat.le_trans (List.length_filter_le _ _) ?_
  simp
/-- The cells of flaws. -/
def fcells (f : Fl) : List Value := [.int .i64 (f.kind : Int), .int .i64 (f.step : Int), .int .i64 (f.rule : Int)]
def cellsF (L : List Fl) : List Value := L.flatMap fcells
theorem cellsF_app (L M : List Fl) : cellsF (L ++ M) = cellsF L ++ cellsF M := by simp [cellsF]
theorem cellsF_len (L : List Fl) : (cellsF L).length = L.length * 3 := by
  induction L with
  | nil => rfl
  | cons a l ih => simp [cellsF, fcells] at ih ⊢; omega
theorem cellsF_at : ∀ (L : List Fl) (i j : Nat), j < 3 → (cellsF L)[i * 3 + j]? = L[i]?.bind fun t => (fcells t)[j]?
  | [], i, j, _ => by simp [cellsF]
  | a :: l, 0, j, hj => by
    have e : cellsF (a :: l) = fcells a ++ cellsF l := by simp [cellsF]
    rw [e, List.getElem?_append_left (by simpa [fcells] using hj)]
    simp
  | a :: l, i + 1, j, hj => by
    have h := cellsF_at l i j hj
    have e : cellsF (a :: l) = fcells a ++ cellsF l := by simp [cellsF]
    have hl : (fcells a).length = 3 := rfl
    rw [e, List.getElem?_append_right (by rw [hl]; omega), hl, show (i + 1) * 3 + j - 3 = i * 3 + j by omega, List.getElem?_cons_succ]
    exact h
/-- A row of flaws. -/
def RowFl (w : World) (v : Value) (L : List Fl) : Prop := ∃ oa cap, v = .slice oa L.length cap ∧ ∀ i f, L[i]? = some f → ∃ g o, oa = some ⟨g, o, none⟩ ∧ w.cell? ⟨g, o + i * 3, none⟩ = some (.int .i64 (f.kind : Int)) ∧ w.cell? ⟨g, o + i * 3 + 1, none⟩ = some (.int .i64 (f.step : Int)) ∧ w.cell? ⟨g, o + i * 3 + 2, none⟩ = some (.int .i64 (f.rule : Int))
theorem RowFl.below {w w' : World} {v : Value} {l : List Fl} {n : Nat} (h : RowFl w v l) (hb : Below n w w') (hn : w.heap.size ≤ n) : RowFl w' v l := by
  obtain ⟨oa, cap, e, h⟩ := h
  refine ⟨oa, cap, e, fun i z hz => ?_⟩
  obtain ⟨g, o, e1, e2, e3, e4⟩ := h i z hz
  exact ⟨g, o, e1, (hb.cell (p := ⟨g, o + i * 3, none⟩) (Nat.lt_of_lt_of_le (cell_lt e2) hn)).trans e2, (hb.cell (p := ⟨g, o + i * 3 + 1, none⟩) (Nat.lt_of_lt_of_le (cell_lt e3) hn)).trans e3, (hb.cell (p := ⟨g, o + i * 3 + 2, none⟩) (Nat.lt_of_lt_of_le (cell_lt e4) hn)).trans e4⟩
theorem RowFl.of_owns {B : Nat} {w : World} {v : Value} {P : List Fl} (hr : w.ownsRow B 60 3 v P.length (cellsF P)) : RowFl w v P := by
  rcases hr.2 with ⟨rfl, h0⟩ | ⟨g, cap, cur, rfl, _, _, hcap, _⟩
  · refine ⟨none, 0, by rw [h0], fun i z hz => ?_⟩
    have := (List.getElem?_eq_some_iff.1 hz).1
    omega
  · refine ⟨_, cap, rfl, fun i z hp => ?_⟩
    have hi := (List.getElem?_eq_some_iff.1 hp).1
    have a0 := hr.cellAt (i * 3 + 0) (by omega)
    have a1 := hr.cellAt (i * 3 + 1) (by omega)
    have a2 := hr.cellAt (i * 3 + 2) (by omega)
    rw [cellsF_at P i 0 (by decide), hp] at a0
    rw [cellsF_at P i 1 (by decide), hp] at a1
    rw [cellsF_at P i 2 (by decide), hp] at a2
    exact ⟨g, 0, rfl, by rw [Nat.zero_add]; exact a0, by rw [Nat.zero_add]; exact a1, by rw [Nat.zero_add]; exact a2⟩
end Go.Proofs.Ytfajgbdnfphajaa.S
