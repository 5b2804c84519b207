/- What stands in ImageOwn: appends in a drawn region; rows that are written over. -/
import Derived.Test.YtgfnfbbiojnhaaaDoorImY
import Derived.Test.YtgfnfbbiojnhaaaDoorKbOwn
namespace Go.Proofs.YtgfnfbbiojnhaaaDoor
open Go.RowKit
theorem cells_kb (L : List Nat) : KB.cellsI (L.map fun z : Nat => (z : Int)) = cellsB L := by simp [KB.cellsI, cellsB]
/-- Bytes laid behind a row of one's own, wherever they lie; in a drawn region. -/
theorem app_bytesW {o : Oper} {a : Act} {K : Act → World → Prop} {Q : Exit → Act → World → Prop} (s x : Operand) (B : Nat) {W : World} (g0 m0 c0 : Nat) (L : List Nat) (oa : Option Addr) (n cap : Nat) (M N : List Nat) (ho : o.op = .call { callee := .builtin .append, args := #[s, x], argTypes := #[24, 24] })
    (es : a.eval s = .slice (some ⟨g0, 0, none⟩) m0 c0) (ex : a.eval x = .slice oa n cap) (hm0 : m0 = L.length) (hT : W.ownsRow B 5 1 (.slice (some ⟨g0, 0, none⟩) m0 c0) m0 (cellsB L)) (hM : RowC W (.slice oa n cap) M) (hN : L ++ M = N) (hB : B ≤ W.heap.size) (hn : L.length + M.length ≤ 140737488355328)
    (h : ∀ g m c w2, Hid (m = N.length) → Hid (w2.ownsRow B 5 1 (.slice (some ⟨g, 0, none⟩) m c) m (cellsB N)) → Hid (Below B W w2) → Hid (∀ k, k < W.heap.size → k ≠ g0 → w2.heap[k]? = W.heap[k]?) → K (a.put o.dst (.slice (some ⟨g, 0, none⟩) m c)) w2) : o.wp Tryd.prog a W K Q := by
  subst hN hm0
  obtain ⟨i0, hi, hz0, hz1, hz2⟩ := info_parts infoU8
  obtain ⟨oa', cap', e, ⟨hc1, hc2⟩, hcc⟩ := hM
  injection e with e1 e2 e3
  subst e1 e2 e3
  cases oa with
  | none =>
    have hcap := hc2 rfl
    have hM0 : M = [] := List.eq_nil_of_length_eq_zero (by omega)
    subst hM0
    subst hcap
    have hrun := run_append_owned_none (P := Tryd.prog) (w := W) B 24 o.type 5 i0 1 Tryd.underlying24 hi _ L.length (cellsB L) hT
    unfold Oper.wp
    simp only [List.length_nil] at ex
    simp [execOp, ho, resolve, invoke, builtin, es, ex, hrun, Result.andThen]
    exact h g0 L.length c0 W (by unfold Hid; rw [List.append_nil]) (by unfold Hid; rw [List.append_nil]; exact hT) (Below.refl _ _) (fun _ _ _ => rfl)
  | some ad =>
    have hnews : ∀ j u, (cellsB M)[j]? = some u → W.cell? (ad.add j) = some u := fun j u hu => by
      obtain ⟨z, hz, rfl⟩ := cellsB_at hu
      obtain ⟨g, o, e, hcell⟩ := hcc j z hz
      cases e
      rw [Addr.add_lit]; exact hcell
    refine wp_append_own W s x 24 ho B 5 i0 (.int .u8 0) 1 1 Tryd.underlying24 hi hz0 hz1 hz2 rfl (by decide) _ L.length (cellsB L) es hT ad M.length cap (cellsB M) ex (by rw [cellsB_len, Nat.mul_one]) hnews (oneB _) (by unfold maxLen; omega) (by omega) hB ?_
    intro v2 w2 hown hgrow hnil
    have hown' : w2.ownsRow B 5 1 v2 (L ++ M).length (cellsB (L ++ M)) := by rw [cellsB_app, List.length_append]; exact hown
    rcases hown'.2 with ⟨e, _⟩ | ⟨g, c, cur, e, _⟩
    · exact absurd (hnil.1 e).1 (by simp)
    · subst e
      exact h g _ c w2 rfl hown' ((Below.refl B W).grown hgrow hB (fun j ej => own_ge' hT ej)) (fun k hk hne => hgrow.block k hk (by simp [Value.ownBlock]; omega))
theorem own_lowN {w : World} {B B' : Nat} {e : TypeId} {size : Nat} {v : Value} {n : Nat} {xs : List Value} (h : w.ownsRow B e size v n xs) (hB : B' ≤ B) : w.ownsRow B' e size v n xs := by
  refine ⟨h.1, ?_⟩
  rcases h.2 with q | ⟨g', cap, cur, e1, hb, e3⟩
  · exact .inl q
  · exact .inr ⟨g', cap, cur, e1, Nat.le_trans hB hb, e3⟩
theorem rowC_same {W W' : World} {g n c : Nat} {L : List Nat} (h : RowC W (.slice (some ⟨g, 0, none⟩) n c) L) (hb : W'.heap[g]? = W.heap[g]?) : RowC W' (.slice (some ⟨g, 0, none⟩) n c) L := by
  obtain ⟨oa, cap, e, h1, hc⟩ := h
  injection e with e1 e2 e3
  subst e1 e2 e3
  refine ⟨_, _, rfl, h1, fun i z hz => ?_⟩
  obtain ⟨g', o, e, hcell⟩ := hc i z hz
  cases e
  refine ⟨_, _, rfl, ?_⟩
  simp only [World.cell?] at hcell ⊢
  rw [hb]; exact hcell
/-- A row whose bytes are written over. -/
theorem own_set {W : World} {B g m c : Nat} {M : List Nat} (h : W.ownsRow B 5 1 (.slice (some ⟨g, 0, none⟩) m c) m (cellsB M)) (i z : Nat) : (W.setCell ⟨g, i, none⟩ (.int .u8 (z : Int))).ownsRow B 5 1 (.slice (some ⟨g, 0, none⟩) m c) m (cellsB (M.set i z)) := by
  have e := (h.stored i (.int .u8 (z : Int))).1
  have e2 : (cellsB M).set i (.int .u8 (z : Int)) = cellsB (M.set i z) := by simp [cellsB]
  rwa [e2] at e
theorem own_ln {W : World} {B g m c : Nat} {M : List Nat} (h : W.ownsRow B 5 1 (.slice (some ⟨g, 0, none⟩) m c) m (cellsB M)) : m = M.length := by
  have := h.1; rw [cellsB_len] at this; omega
theorem own_cell {W : World} {B g m c : Nat} {M : List Nat} (h : W.ownsRow B 5 1 (.slice (some ⟨g, 0, none⟩) m c) m (cellsB M)) {i : Nat} (hi : i < m) : (∃ y, W.cell? ⟨g, i, none⟩ = some y) ∧ W.frozen? ⟨g, i, none⟩ = false := by
  refine ⟨?_, h.frozenAt i⟩
  have hl := own_ln h
  have := h.cellAt i (by omega)
  obtain ⟨z, hz⟩ : ∃ z, M[i]? = some z := ⟨_, List.getElem?_eq_getElem (by omega)⟩
  refine ⟨.int .u8 (z : Int), ?_⟩
  rw [this]
  simp [cellsB, hz]
theorem own_b {W : World} {B g m c : Nat} {M : List Nat} (h : W.ownsRow B 5 1 (.slice (some ⟨g, 0, none⟩) m c) m (cellsB M)) : B ≤ g ∧ g < W.heap.size := by
  rcases h.2 with ⟨e, _⟩ | ⟨g', cap, cur, e, hb, hg, _⟩
  · cases e
  · cases e; exact ⟨hb, blk_lt hg⟩
end Go.Proofs.YtgfnfbbiojnhaaaDoor
