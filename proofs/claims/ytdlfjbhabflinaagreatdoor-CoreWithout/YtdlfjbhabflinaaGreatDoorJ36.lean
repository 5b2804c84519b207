/- The law of core: row. -/
import Derived.Test.YtdlfjbhabflinaaGreatDoorJ24
namespace Go.Proofs.YtdlfjbhabflinaaGreatDoor.S
open Go.RowKit Go.Shelf
set_option maxRecDepth 100000 in
set_option maxHeartbeats 1000000 in
theorem rowSC (l : List Int) (v : Value) (w : World) (hr : RowI w v l) :
    Calls Tryz.prog 15 #[v] w fun e w' => ∃ v', e = .returned v' ∧ w'.ownsRow w.heap.size 3 1 v' (l.take 30).length (cellsI (l.take 30)) ∧ Below w.heap.size w w' := by
  obtain ⟨oa, cap, rfl, hcap, hc⟩ := hr
  obtain ⟨i0, hi, hz0, hz1, hz2⟩ := info_parts info3
  have hc' := hide' hc
  clear hc
  go_enter Tryz.func15, Tryz.ntmps15
  by_cases hlong : 30 < l.length
  · obtain ⟨ad, rfl⟩ : ∃ ad, oa = some ad := by
      cases oa with
      | none => have := hcap.2 rfl; omega
      | some ad => exact ⟨ad, rfl⟩
    obtain ⟨g, o, e, _⟩ := hc'.out 0 l[0] (List.getElem?_eq_getElem (by omega))
    cases e
    have hcap1 := hcap.1
    have hnews : ∀ j u, (cellsI (l.take 30))[j]? = some u → w.cell? (Addr.add ⟨g, o, none⟩ j) = some u := fun j u hu => by
      obtain ⟨z, hz, rfl⟩ := cellsI_at hu
      obtain ⟨hj, _⟩ := List.getElem?_eq_some_iff.1 hz
      rw [List.length_take] at hj
      rw [List.getElem?_take_of_lt (by omega)] at hz
      obtain ⟨g', o', e, hcell⟩ := hc'.out j z hz
      cases e
      rw [Addr.add_lit]; exact hcell
    clear hcap
    go_wp2_with (at_builtin; refine wpList_append_own _ rfl _ _ 23 rfl w.heap.size 3 i0 (.int .i64 0) 1 8 Tryz.underlying23 hi hz0 hz1 hz2 rfl (by decide) _ 0 (cellsI []) rfl (owns_zero w _) ⟨g, o, none⟩ 30 cap (cellsI (l.take 30)) rfl (by simp [cellsI]; omega) (fun j u hu => cell_new (hnews j u hu)) (one_cells _) (by unfold maxLen; omega) (by omega) (by simp) ?_; intro v1 w1 hown1 hgrow1 hnil)
    go_ret
    have hown : w1.ownsRow w.heap.size 3 1 v1 (0 + 30) (cellsI (l.take 30)) := hown1
    rw [show 0 + 30 = (l.take 30).length by rw [List.length_take]; omega] at hown
    exact ⟨_, rfl, hown, ((Below.refl _ w).alloc (Nat.le_refl _) _).grown hgrow1 (by simp) (fun j ej => by cases ej; exact Nat.le_refl _)⟩
  · have hle : l.length ≤ 30 := by omega
    rw [List.take_of_length_le hle]
    cases oa with
    | none =>
      obtain ⟨h1, h2⟩ := hcap
      have := h2 rfl
      subst this
      have : l = [] := List.eq_nil_of_length_eq_zero (by omega)
      subst this
      go_wp2_with (at_builtin; refine wpList_append_own_none rfl _ _ 23 rfl w.heap.size 3 i0 1 Tryz.underlying23 hi _ 0 (cellsI []) rfl (owns_zero w _) rfl ?_)
      go_ret
      exact ⟨_, rfl, owns_zero w _, (Below.refl _ w).alloc (Nat.le_refl _) _⟩
    | some ad =>
      have hnews : ∀ j u, (cellsI l)[j]? = some u → w.cell? (ad.add j) = some u := fun j u hu => by
        obtain ⟨z, hz, rfl⟩ := cellsI_at hu
        obtain ⟨g, o, e, hcell⟩ := hc'.out j z hz
        cases e
        rw [Addr.add_lit]; exact hcell
      clear hcap
      go_wp2_with (at_builtin; refine wpList_append_own _ rfl _ _ 23 rfl w.heap.size 3 i0 (.int .i64 0) 1 8 Tryz.underlying23 hi hz0 hz1 hz2 rfl (by decide) _ 0 (cellsI []) rfl (owns_zero w _) ad l.length cap (cellsI l) rfl (by simp [cellsI]) (fun j u hu => cell_new (hnews j u hu)) (one_cells _) (by unfold maxLen; omega) (by omega) (by simp) ?_; intro v1 w1 hown1 hgrow1 hnil)
      go_ret
      have hown : w1.ownsRow w.heap.size 3 1 v1 (0 + l.length) (cellsI l) := hown1
      rw [Nat.zero_add] at hown
      exact ⟨_, rfl, hown, ((Below.refl _ w).alloc (Nat.le_refl _) _).grown hgrow1 (by simp) (fun j ej => by cases ej; exact Nat.le_refl _)⟩
theorem rowFC (l : List Int) (v : Value) (w : World) (hr : RowI w v l) :
    Calls Tryz.prog 15 #[v] w fun e w' => ∃ v', e = .returned v' ∧ RowI w' v' (l.take 30) ∧ Below w.heap.size w w' :=
  (rowSC l v w hr).mono fun _ _ ⟨v', h1, h2, h3⟩ => ⟨v', h1, RowI.of_owns h2, h3⟩
end Go.Proofs.YtdlfjbhabflinaaGreatDoor.S
