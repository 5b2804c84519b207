/- Rows of rows that are read: provostkeep.Lists. -/
import Derived.Test.YtbpojobmenagkaaDoorVLev
import Derived.Test.YtbpojobmenagkaaDoorKRow
import Derived.Deep.RegionHeld3
namespace Go.Proofs.YtbpojobmenagkaaDoor.K
open Go.RowKit
def ints (l : List Nat) : List Int := l.map fun k : Nat => (k : Int)
theorem ints_len (l : List Nat) : (ints l).length = l.length := by simp [ints]
/-- A row of rows of numbers. -/
def RR (w : World) (v : Value) (L : List (List Nat)) : Prop := ∃ oa cap, v = .slice oa L.length cap ∧ ∀ i l, L[i]? = some l → ∃ g o ou cu, oa = some ⟨g, o, none⟩ ∧ w.cell? ⟨g, o + i, none⟩ = some (.slice ou l.length cu) ∧ RowI w (.slice ou l.length cu) (ints l)
theorem RR.nil (w : World) : RR w (.slice none 0 0) [] := ⟨none, 0, rfl, fun i l h => by cases h⟩
theorem RowI.shapeQ {w : World} {v : Value} {l : List Int} (h : RowI w v l) : ∃ oa cap, v = .slice oa l.length cap := by obtain ⟨oa, cap, h, _⟩ := h; exact ⟨oa, cap, h⟩
theorem RR.below {w w' : World} {v : Value} {L : List (List Nat)} {n : Nat} (h : RR w v L) (hb : Below n w w') (hn : w.heap.size ≤ n) : RR w' v L := by
  obtain ⟨oa, cap, rfl, h1⟩ := h
  refine ⟨oa, cap, rfl, fun i l hi => ?_⟩
  obtain ⟨g, o, ou, cu, e, hc, hr⟩ := h1 i l hi
  exact ⟨g, o, ou, cu, e, (hb.cell (p := ⟨g, o + i, none⟩) (Nat.lt_of_lt_of_le (cell_lt hc) hn)).trans hc, hr.below hb hn⟩
set_option maxRecDepth 100000 in
set_option maxHeartbeats 2000000 in
theorem listsT (L : List (List Nat)) (va vb : Value) (w : World) (ha : RR w va L) (hb : RR w vb L) (hn : L.length ≤ 1000000) (hm : ∀ l ∈ L, l.length ≤ 1000000) :
    Calls Tryd.prog 8 #[va, vb] w fun e w' => e = .returned (.bool true) ∧ Below w.heap.size w w' := by
  obtain ⟨oa, ca, rfl, hca⟩ := ha
  obtain ⟨ob, cb, rfl, hcb⟩ := hb
  have hca' := hide' hca
  have hcb' := hide' hcb
  have hm' := hide' hm
  clear hca hcb hm
  go_enter Tryd.func8, Tryd.ntmps8
  go_wp2
  go_loopw [5] (fun k wr => Below w.heap.size w wr ∧ ∃ (c : Nat), c ≤ L.length ∧ k = .int .i64 c) (fun k _ => ((L.length : Int) - intOf k).toNat)
  case atStart => exact ⟨Below.refl _ _, 0, Nat.zero_le _, rfl⟩
  case round =>
    obtain ⟨hB, c, hc, rfl⟩ := hrel
    by_cases hlt : c < L.length
    · obtain ⟨x, hx⟩ : ∃ x, L[c]? = some x := ⟨_, List.getElem?_eq_getElem hlt⟩
      have hxl := hm'.out x (List.mem_of_getElem? hx)
      obtain ⟨ga, o1, oua, cua, rfl, c1', ra⟩ := hca'.out c x hx
      obtain ⟨gb, o2, oub, cub, rfl, c2', rb⟩ := hcb'.out c x hx
      have c1 := (hB.cell (p := ⟨ga, o1 + c, none⟩) (cell_lt c1')).trans c1'
      have c2 := (hB.cell (p := ⟨gb, o2 + c, none⟩) (cell_lt c2')).trans c2'
      have KI : Hid (∀ V, Below w.heap.size w V → Calls Tryd.prog 6 #[.slice oua x.length cua, .slice oub x.length cub] V fun e w' => e = .returned (.bool true) ∧ Below V.heap.size V w') := fun V hV => by
        have := keepInts (ints x) (ints x) _ _ V (ra.below hV (Nat.le_refl _)) (rb.below hV (Nat.le_refl _)) (by rw [ints_len]; exact hxl) (by rw [ints_len]; exact hxl)
        rwa [decide_eq_true rfl] at this
      clear c1' c2' hx ra rb hxl hca' hcb' hm'
      have hB' := hide' hB
      go_wp2
      go_region_with (go_at_call 6; refine (KI.out _ hB'.out.drew).mono ?_; rintro e w1 ⟨rfl, hb1⟩)
      all_goals
        go_wp2
        exact ⟨⟨hB.drew.trans (hb1.mono hB.drew.size), c + 1, by omega, by go_num⟩, by simp [intOf]; omega⟩
    · obtain rfl : c = L.length := by omega
      go_wp2
      go_ret
      exact ⟨rfl, hB⟩
theorem cellsN_ints (l : List Nat) : cellsN l = cellsI (ints l) := by simp [cellsN, cellsI, ints]
/-- Rows of one's own, read. -/
theorem RR.of_own {B : Nat} {W : World} {ov : Value} {L : List (List Nat)} (h : RV B W ov L) : RR W ov L := by
  obtain ⟨oa, cap, rfl⟩ := h.shape
  obtain ⟨vs, h1, h2⟩ := h
  refine ⟨oa, cap, rfl, fun i l hi => ?_⟩
  have hlt := (List.getElem?_eq_some_iff.1 hi).1
  obtain ⟨u, hu, hr⟩ := h2 i l hi
  obtain ⟨ou, cu, rfl⟩ := own_formI hr
  rcases h1.2 with ⟨e, h0⟩ | ⟨g, cap', cur, e, _⟩
  · omega
  · cases e
    refine ⟨g, 0, ou, cu, rfl, ?_, ?_⟩
    · rw [Nat.zero_add, h1.cellAt i (by omega)]
      exact hu
    · rw [cellsN_ints] at hr
      have h3 := RowI.of_owns hr
      exact h3
theorem rowI_own {B : Nat} {W : World} {v : Value} {n : Nat} {l : List Nat} (h : W.ownsRow B 3 1 v n (cellsN l)) : RowI W v (ints l) := by
  rw [cellsN_ints] at h
  exact RowI.of_owns h
end Go.Proofs.YtbpojobmenagkaaDoor.K
