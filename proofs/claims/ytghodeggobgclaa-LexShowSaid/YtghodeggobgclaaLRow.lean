/- Rows of tokens in memory; ended, col. -/
import Derived.Test.YtghodeggobgclaaLTok
namespace Go.Proofs.Ytghodeggobgclaa
open Go.RowKit Go.Shelf
def cellsT (L : List Tok) : List Value := L.flatMap tcells
theorem cellsT_len (L : List Tok) : (cellsT L).length = L.length * 5 := by
  induction L with
  | nil => rfl
  | cons a l ih => simp [cellsT, tcells] at ih ⊢; omega
theorem cellsT_at : ∀ (L : List Tok) (i j : Nat), j < 5 → (cellsT L)[i * 5 + j]? = L[i]?.bind fun t => (tcells t)[j]?
  | [], i, j, _ => by simp [cellsT]
  | a :: l, 0, j, hj => by
    have e : cellsT (a :: l) = tcells a ++ cellsT l := by simp [cellsT]
    rw [e, List.getElem?_append_left (by simpa [tcells] using hj)]
    simp
  | a :: l, i + 1, j, hj => by
    have h := cellsT_at l i j hj
    have e : cellsT (a :: l) = tcells a ++ cellsT l := by simp [cellsT]
    have hl : (tcells a).length = 5 := rfl
    rw [e, List.getElem?_append_right (by rw [hl]; omega), hl, show (i + 1) * 5 + j - 5 = i * 5 + j by omega, List.getElem?_cons_succ]
    exact h
/-- Tokens lie at an address. -/
def TokAt (W : World) (oa : Option Addr) (L : List Tok) : Prop := ∀ (k : Nat) (t : Tok), L[k]? = some t → ∃ g, oa = some ⟨g, 0, none⟩ ∧ W.cell? ⟨g, k * 5, none⟩ = some (.int .i64 t.kind) ∧ W.cell? ⟨g, k * 5 + 1, none⟩ = some (.string (bs t.text)) ∧ W.cell? ⟨g, k * 5 + 2, none⟩ = some (.int .i64 t.num) ∧ W.cell? ⟨g, k * 5 + 3, none⟩ = some (.int .i64 t.line) ∧ W.cell? ⟨g, k * 5 + 4, none⟩ = some (.int .i64 t.col)
theorem TokAt.take {W : World} {oa : Option Addr} {L : List Tok} (h : TokAt W oa L) (n : Nat) : TokAt W oa (L.take n) := fun k t hk => by
  rw [List.getElem?_take] at hk
  split at hk
  · exact h k t hk
  · cases hk
theorem own_shapeT {W : World} {base : Nat} {e : TypeId} {sz : Nat} {v : Value} {n : Nat} {xs : List Value} (h : W.ownsRow base e sz v n xs) : ∃ oa cap, v = .slice oa n cap := by
  rcases h.2 with ⟨rfl, h2⟩ | ⟨g, cap, cur, rfl, _⟩
  · exact ⟨none, 0, by rw [h2]⟩
  · exact ⟨_, _, rfl⟩
theorem TokAt.own {W : World} {base : Nat} {oa : Option Addr} {n cap : Nat} {L : List Tok} (h : W.ownsRow base 35 5 (.slice oa n cap) L.length (cellsT L)) : TokAt W oa L := fun k t hk => by
  have hkl : k < L.length := (List.getElem?_eq_some_iff.1 hk).1
  rcases h.2 with ⟨h1, h2⟩ | ⟨g, cap', cur, h1, _⟩
  · omega
  · cases h1
    have a0 := h.cellAt (k * 5 + 0) (by omega)
    have a1 := h.cellAt (k * 5 + 1) (by omega)
    have a2 := h.cellAt (k * 5 + 2) (by omega)
    have a3 := h.cellAt (k * 5 + 3) (by omega)
    have a4 := h.cellAt (k * 5 + 4) (by omega)
    rw [cellsT_at L k 0 (by decide), hk] at a0
    rw [cellsT_at L k 1 (by decide), hk] at a1
    rw [cellsT_at L k 2 (by decide), hk] at a2
    rw [cellsT_at L k 3 (by decide), hk] at a3
    rw [cellsT_at L k 4 (by decide), hk] at a4
    exact ⟨g, rfl, a0, a1, a2, a3, a4⟩
theorem endd_nil : endd [] = true := rfl
theorem endd_last {L : List Tok} {m : Nat} {t : Tok} (hl : L.length = m + 1) (ht : L[m]? = some t) : endd L = decide (t.kind = 4) := by
  unfold endd
  have : L.getLast? = some t := by rw [List.getLast?_eq_getElem?, hl, Nat.add_sub_cancel, ht]
  rw [this]
set_option maxRecDepth 100000 in
set_option maxHeartbeats 2000000 in
theorem endedF (oa : Option Addr) (cap : Nat) (L : List Tok) (w : World) (H : TokAt w oa L) (hm : L.length ≤ 1000000000000) : Calls Try.prog 30 #[.slice oa L.length cap] w fun e w' => e = .returned (.bool (endd L)) ∧ w' = w := by
  by_cases h0 : L = []
  · subst h0
    rw [endd_nil]
    clear H
    go_enter Try.func30, Try.ntmps30
    go_wp2
    go_ret
    exact ⟨rfl, rfl⟩
  · obtain ⟨m, hl⟩ : ∃ m, L.length = m + 1 := ⟨L.length - 1, by have := List.length_pos_iff.2 h0; omega⟩
    obtain ⟨t, ht⟩ : ∃ t, L[m]? = some t := ⟨_, List.getElem?_eq_getElem (by omega)⟩
    rw [endd_last hl ht]
    obtain ⟨g, rfl, c0, -⟩ := H m t ht
    rw [hl] at hm ⊢
    have hmm : ((m + 1 : Nat) : Int) - 1 = (m : Int) := by omega
    have hml : (m : Int) < ((m + 1 : Nat) : Int) := by omega
    have h00 : (((m + 1 : Nat) : Int) == 0) = false := by rw [beq_eq_false_iff_ne]; omega
    have hd : Hid (decide (t.kind = 4) = (t.kind == 4)) := by show _ = _; rw [Bool.eq_iff_iff]; simp
    rw [hd.out]
    clear H h0 hl ht hd
    generalize t.kind = tk at *
    go_enter Try.func30, Try.ntmps30
    go_wp2
    go_ret
    exact ⟨rfl, rfl⟩
end Go.Proofs.Ytghodeggobgclaa
