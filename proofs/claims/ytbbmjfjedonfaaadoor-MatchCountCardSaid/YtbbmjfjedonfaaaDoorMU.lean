/- Rows of words handed in, cut and copied; what the document's runs tell. -/
import Derived.Test.YtbbmjfjedonfaaaDoorMFree
namespace Go.Proofs.YtbbmjfjedonfaaaDoor.M
open Go.RowKit Go.Shelf
/-- A row of words, wherever it lies. -/
def RowU (w : World) (v : Value) (L : List Nat) : Prop := ∃ oa cap, v = .slice oa L.length cap ∧ (L.length ≤ cap ∧ (oa = none → cap = 0)) ∧ ∀ (i : Nat) (z : Nat), L[i]? = some z → ∃ g o, oa = some ⟨g, o, none⟩ ∧ w.cell? ⟨g, o + i, none⟩ = some (.int .u64 (z : Int))
theorem RowU.below {w w' : World} {v : Value} {L : List Nat} {n : Nat} (h : RowU w v L) (hb : Below n w w') (hn : w.heap.size ≤ n) : RowU w' v L := by
  obtain ⟨oa, cap, e, e0, h⟩ := h
  refine ⟨oa, cap, e, e0, fun i z hz => ?_⟩
  obtain ⟨g, o, e1, e2⟩ := h i z hz
  exact ⟨g, o, e1, (hb.cell (p := ⟨g, o + i, none⟩) (Nat.lt_of_lt_of_le (cell_lt e2) hn)).trans e2⟩
def cellsU (L : List Nat) : List Value := L.map fun z : Nat => Value.int .u64 (z : Int)
theorem cellsU_at {L : List Nat} {j : Nat} {u : Value} (h : (cellsU L)[j]? = some u) : ∃ z, L[j]? = some z ∧ u = .int .u64 (z : Int) := by
  unfold cellsU at h
  rw [List.getElem?_map] at h
  cases hz : L[j]? with
  | none => rw [hz] at h; cases h
  | some z => rw [hz] at h; cases h; exact ⟨z, rfl, rfl⟩
theorem one_cellsU (L : List Nat) : ∀ u ∈ cellsU L, u.oneCell' = true := fun u hu => by
  obtain ⟨z, _, rfl⟩ := List.mem_map.1 hu
  rfl
theorem infoU : (Tryd.prog.info? 23).map (fun i => (i.zero, i.size, i.bytes)) = some (some (.int .u64 0), 1, 8) := by kernel_rfl
/-- The words of a row as a function. -/
def fn (L : List Nat) : Nat → Nat := fun r => L.getD r 0
theorem fn_at {L : List Nat} {r z : Nat} (h : L[r]? = some z) : fn L r = z := by simp [fn, List.getD_eq_getElem?_getD, h]
theorem fn_get {L : List Nat} {r : Nat} (h : r < L.length) : L[r]? = some (fn L r) := by
  rw [List.getElem?_eq_getElem h]; simp [fn, List.getD_eq_getElem?_getD, List.getElem?_eq_getElem h]
theorem fn_lt {L : List Nat} (h : ∀ z ∈ L, z < 18446744073709551616) (r : Nat) : fn L r < 18446744073709551616 := by
  cases e : L[r]? with
  | none => simp [fn, List.getD_eq_getElem?_getD, e]
  | some z => rw [fn_at e]; exact h z (List.mem_of_getElem? e)
theorem RowU.rwa {w : World} {v : Value} {L : List Nat} (h : RowU w v L) (ht : Tab w) (hw : ∀ z ∈ L, z < 18446744073709551616) : RwA w v L.length (fn L) := by
  obtain ⟨oa, cap, e, _, hc⟩ := h
  exact ⟨⟨oa, cap, e, fun r hr => hc r _ (fn_get hr)⟩, ht, fn_lt hw⟩
theorem RowU.shape {w : World} {v : Value} {L : List Nat} (h : RowU w v L) : ∃ oa cap, v = .slice oa L.length cap := by
  obtain ⟨oa, cap, e, _⟩ := h
  exact ⟨oa, cap, e⟩
theorem RowU.of_owns {w : World} {n₀ e : Nat} {v : Value} {n : Nat} {L : List Nat} (h : w.ownsRow n₀ e 1 v n (cellsU L)) : RowU w v L := by
  have hl : n = L.length := by have := h.1; simp [cellsU] at this; omega
  subst hl
  rcases h.2 with ⟨rfl, h0⟩ | ⟨g, cap, cur, rfl, _, hb, hcap, _, _, hcur⟩
  · refine ⟨none, 0, by rw [h0], ⟨by omega, fun _ => rfl⟩, fun i z hz => ?_⟩
    have := (List.getElem?_eq_some_iff.1 hz).1
    omega
  · refine ⟨_, cap, rfl, ⟨hcap, fun e => by cases e⟩, fun i z hz => ⟨g, 0, rfl, ?_⟩⟩
    have hi := (List.getElem?_eq_some_iff.1 hz).1
    have hcu : (cellsU L)[i]? = some (Value.int .u64 (z : Int)) := by simp [cellsU, hz]
    rw [Nat.zero_add, h.cellAt i (by simp; omega)]
    exact hcu
theorem owns_zeroU (w : World) : (w.alloc (.cells #[] 23)).ownsRow w.heap.size 23 1 (.slice (some ⟨w.heap.size, 0, none⟩) 0 0) 0 (cellsU []) := I.owns_zero w _
theorem RowU.cut {w : World} {oa : Option Addr} {cap : Nat} {L : List Nat} (h : RowU w (.slice oa L.length cap) L) (m : Nat) (hm : m ≤ L.length) : RowU w (.slice oa m cap) (L.take m) := by
  obtain ⟨oa', cap', e, e0, hc⟩ := h
  cases e
  refine ⟨oa, cap, by rw [List.length_take]; congr 1; omega, ⟨by rw [List.length_take]; omega, e0.2⟩, fun i z hz => ?_⟩
  have hi := (List.getElem?_eq_some_iff.1 hz).1
  rw [List.length_take] at hi
  rw [List.getElem?_take_of_lt (by omega)] at hz
  exact hc i z hz
set_option maxRecDepth 100000 in
set_option maxHeartbeats 1000000 in
theorem fewU (L : List Nat) (v : Value) (w : World) (hr : RowU w v L) :
    Calls Tryd.prog 5 #[v] w fun e w' => ∃ v', e = .returned v' ∧ w'.ownsRow w.heap.size 23 1 v' (L.take 20).length (cellsU (L.take 20)) ∧ Below w.heap.size w w' := by
  obtain ⟨oa, cap, rfl, hcap, hc⟩ := hr
  obtain ⟨i0, hi, hz0, hz1, hz2⟩ := info_parts infoU
  have hc' := hide' hc
  clear hc
  go_enter Tryd.func5, Tryd.ntmps5
  by_cases hlong : 20 < L.length
  · obtain ⟨ad, rfl⟩ : ∃ ad, oa = some ad := by
      cases oa with
      | none => have := hcap.2 rfl; omega
      | some ad => exact ⟨ad, rfl⟩
    obtain ⟨g, o, e, _⟩ := hc'.out 0 _ (List.getElem?_eq_getElem (by omega))
    cases e
    have hcap1 := hcap.1
    have hnews : ∀ j u, (cellsU (L.take 20))[j]? = some u → w.cell? (Addr.add ⟨g, o, none⟩ j) = some u := fun j u hu => by
      obtain ⟨z, hz, rfl⟩ := cellsU_at hu
      obtain ⟨hj, _⟩ := List.getElem?_eq_some_iff.1 hz
      rw [List.length_take] at hj
      rw [List.getElem?_take_of_lt (by omega)] at hz
      obtain ⟨g', o', e, hcell⟩ := hc'.out j z hz
      cases e
      rw [Addr.add_lit]; exact hcell
    clear hcap
    go_wp2_with (at_builtin; refine wpList_append_own _ rfl _ _ 22 rfl w.heap.size 23 i0 (.int .u64 0) 1 8 Tryd.underlying22 hi hz0 hz1 hz2 rfl (by decide) _ 0 (cellsU []) rfl (owns_zeroU w) ⟨g, o, none⟩ 20 cap (cellsU (L.take 20)) rfl (by simp [cellsU]; omega) (fun j u hu => I.cell_new (hnews j u hu)) (one_cellsU _) (by unfold maxLen; omega) (by omega) (by simp) ?_; intro v1 w1 hown1 hgrow1 hnil)
    go_ret
    have hown : w1.ownsRow w.heap.size 23 1 v1 (0 + 20) (cellsU (L.take 20)) := hown1
    rw [show 0 + 20 = (L.take 20).length by rw [List.length_take]; omega] at hown
    exact ⟨_, rfl, hown, ((Below.refl _ w).alloc (Nat.le_refl _) _).grown hgrow1 (by simp) (fun j ej => by cases ej; exact Nat.le_refl _)⟩
  · have hle : L.length ≤ 20 := by omega
    rw [List.take_of_length_le hle]
    cases oa with
    | none =>
      obtain ⟨h1, h2⟩ := hcap
      have := h2 rfl
      subst this
      have : L = [] := List.eq_nil_of_length_eq_zero (by omega)
      subst this
      go_wp2_with (at_builtin; refine wpList_append_own_none rfl _ _ 22 rfl w.heap.size 23 i0 1 Tryd.underlying22 hi _ 0 (cellsU []) rfl (owns_zeroU w) rfl ?_)
      go_ret
      exact ⟨_, rfl, owns_zeroU w, (Below.refl _ w).alloc (Nat.le_refl _) _⟩
    | some ad =>
      have hnews : ∀ j u, (cellsU L)[j]? = some u → w.cell? (ad.add j) = some u := fun j u hu => by
        obtain ⟨z, hz, rfl⟩ := cellsU_at hu
        obtain ⟨g, o, e, hcell⟩ := hc'.out j z hz
        cases e
        rw [Addr.add_lit]; exact hcell
      clear hcap
      go_wp2_with (at_builtin; refine wpList_append_own _ rfl _ _ 22 rfl w.heap.size 23 i0 (.int .u64 0) 1 8 Tryd.underlying22 hi hz0 hz1 hz2 rfl (by decide) _ 0 (cellsU []) rfl (owns_zeroU w) ad L.length cap (cellsU L) rfl (by simp [cellsU]) (fun j u hu => I.cell_new (hnews j u hu)) (one_cellsU _) (by unfold maxLen; omega) (by omega) (by simp) ?_; intro v1 w1 hown1 hgrow1 hnil)
      go_ret
      have hown : w1.ownsRow w.heap.size 23 1 v1 (0 + L.length) (cellsU L) := hown1
      rw [Nat.zero_add] at hown
      exact ⟨_, rfl, hown, ((Below.refl _ w).alloc (Nat.le_refl _) _).grown hgrow1 (by simp) (fun j ej => by cases ej; exact Nat.le_refl _)⟩
end Go.Proofs.YtbbmjfjedonfaaaDoor.M
