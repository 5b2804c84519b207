/- Of: the pattern of labels. -/
import Derived.Test.YtagkopmegfmhaaaPFn
import Derived.Maps.OwnSet
import Derived.Maps.AppendAt
namespace Go.Proofs.Ytagkopmegfmhaaa
open Go.RowKit Go.Maps
/-- The labels that were met, each once, in their order. -/
def distG (L l : List Int) : List Int := l.foldl (fun L z => if z ∈ L then L else L ++ [z]) L
/-- The pattern of labels, where those of L were met. -/
def patG : List Int → List Int → List Nat
  | _, [] => []
  | L, z :: r => L.idxOf z :: patG (if z ∈ L then L else L ++ [z]) r
def pat (l : List Int) : List Nat := patG [] l
theorem patG_snoc (L l : List Int) (z : Int) : patG L (l ++ [z]) = patG L l ++ [(distG L l).idxOf z] := by
  induction l generalizing L with
  | nil => rfl
  | cons x l ih => rw [List.cons_append, patG, patG, ih]; rfl
theorem distG_snoc (L l : List Int) (z : Int) : distG L (l ++ [z]) = if z ∈ distG L l then distG L l else distG L l ++ [z] := by
  unfold distG
  rw [List.foldl_append]; rfl
theorem patG_len (L l : List Int) : (patG L l).length = l.length := by
  induction l generalizing L with
  | nil => rfl
  | cons x l ih => rw [patG, List.length_cons, List.length_cons, ih]
theorem distG_len (L l : List Int) : (distG L l).length ≤ L.length + l.length := by
  induction l generalizing L with
  | nil => exact Nat.le_refl _
  | cons x l ih =>
    have := ih (if x ∈ L then L else L ++ [x])
    rw [List.length_cons]
    refine Nat.le_trans this ?_
    split <;> simp <;> omega
theorem leg_pat (L l : List Int) : Leg L.length (patG L l) := by
  induction l generalizing L with
  | nil => trivial
  | cons x l ih =>
    refine ⟨List.idxOf_le_length, ?_⟩
    have h := ih (if x ∈ L then L else L ++ [x])
    by_cases hx : x ∈ L
    · rw [if_pos hx] at h ⊢
      rwa [Nat.max_eq_left (List.idxOf_lt_length_of_mem hx)]
    · rw [if_neg hx] at h ⊢
      rw [List.idxOf_eq_length hx, Nat.max_eq_right (Nat.le_succ _)]
      simpa using h
/-- A map that has just the labels of L, each with its place. -/
def HoldsL (D : DataW Unit) (L : List Int) : Prop := Tidy D ∧ Maps.size D = L.length ∧ ∀ z : Int, Maps.has D (.int .i64 z) = decide (z ∈ L) ∧ (z ∈ L → D.atKey (.int .i64 z) (.lit (.int .i64 0)) = .lit (.int .i64 ((L.idxOf z : Nat) : Int)))
theorem HoldsL.nil : HoldsL (.map []) [] := ⟨tidy_empty, rfl, fun z => ⟨by simp [Maps.has], fun h => by cases h⟩⟩
theorem HoldsL.put {D : DataW Unit} {L : List Int} {z : Int} (h : HoldsL D L) (hz : z ∉ L) (hk : WideAt.IsKeyLit (.int .i64 z)) : HoldsL (D.put (.int .i64 z) (.lit (.int .i64 (L.length : Int)))) (L ++ [z]) := by
  obtain ⟨h1, h2, h3⟩ := h
  have hh : Maps.has D (.int .i64 z) = false := by rw [(h3 z).1]; simpa using hz
  refine ⟨h1.put hk _, by rw [size_put h1, hh, h2]; simp, fun y => ?_⟩
  by_cases e : y = z
  · subst e
    refine ⟨by rw [has_put_same h1.isMap hk]; simp, fun _ => ?_⟩
    rw [atKey_put_same h1.isMap hk, List.idxOf_append, if_neg hz]
    simp
  · have hne : (Lit.int .i64 y) ≠ .int .i64 z := fun h => e (by cases h; rfl)
    refine ⟨by rw [has_put_other hne, (h3 y).1]; simp [e], fun hy => ?_⟩
    rcases List.mem_append.1 hy with hy | hy
    · rw [atKey_put_other hne, (h3 y).2 hy, List.idxOf_append, if_pos hy]
    · exact absurd (List.mem_singleton.1 hy) e
theorem lawI : Keyed Try.prog 3 := int_keyed Try.underlying3
theorem zeroI (w : World) : (zeroValue 3).run Try.prog w = .ok (.int .i64 0) w := by kernel_rfl
set_option maxRecDepth 100000 in
set_option maxHeartbeats 2000000 in
theorem ofP (l : List Int) (v : Value) (w : World) (hr : RowI w v l) (hn : l.length ≤ 25) (hwf : ∀ z ∈ l, (Lit.int .i64 z).wf = true) :
    Calls Try.prog 5 #[v] w fun e w' => ∃ g, e = .returned (.tuple #[.slice (some ⟨g, 0, none⟩) l.length l.length, .int .i64 0]) ∧ w'.ownsRow w.heap.size 3 1 (.slice (some ⟨g, 0, none⟩) l.length l.length) l.length (cellsI (ints (pat l))) ∧ Below w.heap.size w w' := by
  obtain ⟨oa, cap, rfl, hcap, hc⟩ := hr
  obtain ⟨i0, hi, hz0, hz1, hz2⟩ := info_parts info3
  have hmm := @run_makeMap Try.prog
  have hc' := hide' hc
  have hwf' := hide' hwf
  clear hc hwf
  have KF : Hid (∀ W, Calls Try.prog 12 #[.int .i64 l.length] W fun e w' => e = .returned (.bool true) ∧ w' = W) := fun W => by
    have := fits l.length W
    rwa [show (decide ((0 : Int) ≤ (l.length : Int)) && decide ((l.length : Int) ≤ 25)) = true by simp; omega] at this
  go_enter Try.func5, Try.ntmps5
  go_wp2_with (first | (go_at_call 12; refine (KF.out _).mono ?_; rintro e w1 ⟨rfl, rfl⟩) | (at_make; refine wpList_make_full _ rfl _ _ 22 rfl w1.heap.size 3 i0 (.int .i64 0) 1 Try.underlying22 hi hz0 hz1 .i64 .i64 _ _ l.length rfl rfl rfl rfl (by rw [hz2]; omega) (by unfold maxLen; omega) (by simp) ?_; intro w2 hrow hgrow))
  have hr0 : w2.ownsRow w1.heap.size 3 1 (.slice (some ⟨w1.heap.size + 1, 0, none⟩) l.length l.length) l.length (cellsI (ints (pat (l.take 0))) ++ List.replicate (l.length - 0) (.int .i64 0)) := by
    have h := hrow
    rw [show (Value.int .i64 0).cells = #[.int .i64 0] from rfl, toList_madeCells_one, Nat.mul_one, World.size_alloc] at h
    simpa [pat, patG, cellsI, ints] using h
  have hm0 : w2.ownsMap Try.prog 3 (plainElem Try.prog 3) w1.heap.size 0 (.map [] : DataW Unit) := (World.ownsMap_made w1 _ _ _).kept hgrow (by simp)
  have hB0 : Below w1.heap.size w1 w2 := ((Below.refl _ w1).alloc (Nat.le_refl _) _).grown hgrow (by simp) (fun j ej => by cases ej)
  clear hrow hgrow
  go_loopw [20] (fun k wr => ∃ (c : Nat) (D : DataW Unit), c ≤ l.length ∧ k = .int .i64 c ∧ Hid (HoldsL D (distG [] (l.take c))) ∧ wr.ownsMap Try.prog 3 (plainElem Try.prog 3) w1.heap.size c D ∧ wr.ownsRow w1.heap.size 3 1 (.slice (some ⟨w1.heap.size + 1, 0, none⟩) l.length l.length) l.length (cellsI (ints (pat (l.take c))) ++ List.replicate (l.length - c) (.int .i64 0)) ∧ Below w1.heap.size w1 wr) (fun k _ => ((l.length : Int) - intOf k).toNat)
  case atStart => exact ⟨0, _, Nat.zero_le _, rfl, HoldsL.nil, hm0, hr0, hB0⟩
  case round =>
    clear hm0 hr0 hB0
    obtain ⟨c, D, hc, rfl, hH, hown, hrow, hB⟩ := hrel
    by_cases hlt : c < l.length
    · obtain ⟨x, hx⟩ : ∃ x, l[c]? = some x := ⟨_, List.getElem?_eq_getElem hlt⟩
      obtain ⟨g, o, rfl, cx0⟩ := hc'.out c x hx
      have cx := (hB.cell (p := ⟨g, o + c, none⟩) (cell_lt cx0)).trans cx0
      have hwx := hwf'.out x (List.mem_of_getElem? hx)
      have hkey : keyOf Try.prog 3 (.int .i64 x) = some (.int .i64 x) := keyOf_int_mk Try.underlying3 hwx
      have htk : l.take (c + 1) = l.take c ++ [x] := by rw [List.take_add_one, hx]; rfl
      have hpl : (cellsI (ints (pat (l.take c)))).length = c := by simp [cellsI, ints, pat, patG_len]; omega
      have hL := distG_len [] (l.take c)
      rw [List.length_nil, Nat.zero_add, List.length_take] at hL
      have hP : Hid (cellsI (ints (pat (l.take (c + 1)))) = cellsI (ints (pat (l.take c))) ++ [.int .i64 (((distG [] (l.take c)).idxOf x : Nat) : Int)]) := by
        show _ = _
        rw [htk, show pat (l.take c ++ [x]) = _ from patG_snoc [] (l.take c) x, cellsI_snoc]; rfl
      have hS := fun u => set_mid (cellsI (ints (pat (l.take c)))) c l.length u (.int .i64 0) hpl hlt
      have cz : wr.cell? ⟨w1.heap.size + 1, c, none⟩ = some (.int .i64 0) := by
        rw [hrow.cellAt c (by omega), List.getElem?_append_right (by omega), hpl, Nat.sub_self, List.getElem?_replicate, if_pos (by omega)]
      have fz := hrow.frozenAt c
      obtain ⟨h1, h2, h3⟩ := hH.out
      by_cases hin : x ∈ distG [] (l.take c)
      · have hh : Maps.has D (.int .i64 x) = true := by rw [(h3 x).1]; simpa using hin
        have hN : Hid (distG [] (l.take (c + 1)) = distG [] (l.take c)) := by show _ = _; rw [htk, distG_snoc, if_pos hin]
        have hv := (h3 x).2 hin
        clear cx0 hx htk hL hpl
        go_wp2_with (at_lookup; refine wpList_lookup_own_ok_int _ rfl _ _ 37 rfl 3 3 .i64 lawI Try.underlying37 Try.underlying3 (zeroI _) w1.heap.size c D rfl hown _ _ rfl hkey ?_; intro cc hat hwc)
        have e1 : cc = (((distG [] (l.take c)).idxOf x : Nat) : Int) := by
          have := hv.symm.trans hat
          simpa using this.symm
        refine ⟨⟨c + 1, D, by omega, by go_num, by rw [hN.out]; exact hH, (hown.setCell (by show w1.heap.size ≠ w1.heap.size + 1; omega) _).mono (Nat.le_succ _), ?_, hB.setCell (by show w1.heap.size ≤ w1.heap.size + 1; omega) _⟩, by simp [intOf]; omega⟩
        have h4 := (hrow.stored c (.int .i64 cc)).1
        rw [hS] at h4
        rw [hP.out, ← e1]; exact h4
      · have hh : Maps.has D (.int .i64 x) = false := by rw [(h3 x).1]; simpa using hin
        have hN : Hid (distG [] (l.take (c + 1)) = distG [] (l.take c) ++ [x]) := by show _ = _; rw [htk, distG_snoc, if_neg hin]
        have hiL : Hid ((distG [] (l.take c)).idxOf x = (distG [] (l.take c)).length) := List.idxOf_eq_length hin
        have hIK : WideAt.IsKeyLit (.int .i64 x) := by trivial
        have hHp := hide' (hH.out.put hin hIK)
        clear cx0 hx htk hpl h3
        generalize hm : (distG [] (l.take c)).length = m at *
        go_wp2_with (first | (at_lookup; refine wpList_lookup_own_ok_int _ rfl _ _ 37 rfl 3 3 .i64 lawI Try.underlying37 Try.underlying3 (zeroI _) w1.heap.size c D rfl hown _ _ rfl hkey ?_; intro cc hat hwc) | (at_len; refine wpList_len_own _ rfl _ 37 rfl 3 3 Try.underlying37 _ w1.heap.size c D rfl hown ?_; rw [h2]) | (at_mapUpdate; refine wpList_mapUpdate_own _ rfl _ _ _ 37 rfl 3 3 lawI Try.underlying37 _ w1.heap.size c D rfl hown (by unfold maxLen; omega) _ _ _ rfl rfl hkey (.lit (.int .i64 (m : Int))) [] (plainElem_int Try.underlying3 (WalkArith.wf_i64 (by omega))) ?_; intro w3 hown3 hgrow3; have hrow3 := hrow.kept hgrow3 (.inr (by simp [Value.ownBlock])); have cz3 : w3.cell? ⟨w1.heap.size + 1, c, none⟩ = some (.int .i64 0) := (by rw [hrow3.cellAt c (by omega), ← hrow.cellAt c (by omega)]; exact cz); have fz3 := hrow3.frozenAt c))
        refine ⟨⟨c + 1, _, by omega, by go_num, by rw [hN.out]; exact hHp, hown3.setCell (by show w1.heap.size ≠ w1.heap.size + 1; omega) _, ?_, (hB.grown hgrow3 hB.size (fun j ej => by cases ej; exact Nat.le_refl _)).setCell (by show w1.heap.size ≤ w1.heap.size + 1; omega) _⟩, by simp [intOf]; omega⟩
        have h4 := (hrow3.stored c (.int .i64 m)).1
        rw [hS] at h4
        rw [hP.out, hiL.out]; exact h4
    · obtain rfl : c = l.length := by omega
      rw [List.take_length, Nat.sub_self, List.replicate_zero, List.append_nil] at hrow
      clear hH hown
      go_wp2
      exact bodyPost_ret (v := .tuple #[.slice (some ⟨w1.heap.size + 1, 0, none⟩) l.length l.length, .int .i64 0]) (by simp [results, Try.results5, go_sem]) rfl ⟨_, rfl, hrow, hB⟩
end Go.Proofs.Ytagkopmegfmhaaa
