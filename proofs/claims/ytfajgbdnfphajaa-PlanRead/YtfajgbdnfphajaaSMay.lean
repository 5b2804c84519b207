/- Problems as they are handed in; may: the users that may do a step. -/
import Derived.Test.YtfajgbdnfphajaaSLt
namespace Go.Proofs.Ytfajgbdnfphajaa.S
open Go.RowKit Go.Shelf
/-- A row of words, wherever it lies. -/
def RowW (w : World) (v : Value) (L : List Nat) : Prop := ∃ oa cap, v = .slice oa L.length cap ∧ (L.length ≤ cap ∧ (oa = none → cap = 0)) ∧ ∀ (i : Nat) (z : Nat), L[i]? = some z → ∃ g o, oa = some ⟨g, o, none⟩ ∧ w.cell? ⟨g, o + i, none⟩ = some (.int .u64 (z : Int))
theorem RowW.below {w w' : World} {v : Value} {L : List Nat} {n : Nat} (h : RowW w v L) (hb : Below n w w') (hn : w.heap.size ≤ n) : RowW w' v L := by
  obtain ⟨oa, cap, e, e0, h⟩ := h
  refine ⟨oa, cap, e, e0, fun i z hz => ?_⟩
  obtain ⟨g, o, e1, e2⟩ := h i z hz
  exact ⟨g, o, e1, (hb.cell (p := ⟨g, o + i, none⟩) (Nat.lt_of_lt_of_le (cell_lt e2) hn)).trans e2⟩
/-- A problem. -/
structure Pb where
  users : Int
  who : List Nat
  fixed : List Int
  rules : List Rl
/-- A problem as it is handed in. -/
structure PbV (w : World) (P : Pb) (wv fv rv : Value) : Prop where
  who : RowW w wv P.who
  fixed : RowI w fv P.fixed
  rules : RowR w rv P.rules
def pbV (P : Pb) (wv fv rv : Value) : Value := .agg #[.int .i64 P.users, wv, fv, rv]
theorem PbV.below {w w' : World} {P : Pb} {wv fv rv : Value} (h : PbV w P wv fv rv) (hb : Below w.heap.size w w') : PbV w' P wv fv rv :=
  ⟨h.who.below hb (Nat.le_refl _), h.fixed.below hb (Nat.le_refl _), h.rules.below hb (Nat.le_refl _)⟩
/-- Who may do a step: of one that is fixed that user. -/
def mayP (P : Pb) (t : Nat) : Nat := if P.fixed.getD t (-1) = -1 then P.who.getD t 0 else 2 ^ (P.fixed.getD t 0).toNat
set_option maxRecDepth 100000 in
set_option maxHeartbeats 1000000 in
theorem mayF (P : Pb) (wv fv rv : Value) (t : Nat) (w : World) (h : PbV w P wv fv rv) (hw : t < P.who.length) (hf : t < P.fixed.length) (hx : ∀ x ∈ P.fixed, x = -1 ∨ (0 ≤ x ∧ x < 64)) :
    Calls Try.prog 27 #[pbV P wv fv rv, .int .i64 (t : Int)] w fun e w' => e = .returned (.int .u64 (mayP P t : Int)) ∧ Below w.heap.size w w' := by
  obtain ⟨ow, cw, rfl, _, hcw⟩ := h.who
  obtain ⟨of, cf, rfl, _, hcf⟩ := h.fixed
  obtain ⟨z, hz⟩ : ∃ z, P.who[t]? = some z := ⟨_, List.getElem?_eq_getElem hw⟩
  obtain ⟨x, hxx⟩ : ∃ x, P.fixed[t]? = some x := ⟨_, List.getElem?_eq_getElem hf⟩
  obtain ⟨g1, o1, rfl, c1⟩ := hcw t z hz
  obtain ⟨g2, o2, rfl, c2⟩ := hcf t x hxx
  obtain ⟨or, cr, rfl⟩ : ∃ a b, rv = .slice a P.rules.length b := by obtain ⟨a, b, e, _⟩ := h.rules; exact ⟨a, b, e⟩
  have hB : Hid (Below w.heap.size w (w.alloc (.cells #[.int .i64 P.users, .slice (some ⟨g1, o1, none⟩) P.who.length cw, .slice (some ⟨g2, o2, none⟩) P.fixed.length cf, .slice or P.rules.length cr] 27))) := (Below.refl _ w).alloc (Nat.le_refl _) _
  have d1 := M.cell_over c1 hB.out
  have d2 := M.cell_over c2 hB.out
  have hwI : (t : Int) < (P.who.length : Int) := by omega
  have hfI : (t : Int) < (P.fixed.length : Int) := by omega
  have ht0 : ¬ (t : Int) < 0 := by omega
  have hm : mayP P t = if x = -1 then z else 2 ^ x.toNat := by
    unfold mayP
    simp [List.getD_eq_getElem?_getD, hz, hxx]
  rw [hm]
  unfold pbV
  have hxr := hx x (List.mem_of_getElem? hxx)
  clear hm hx hcw hcf h hz hxx
  by_cases he : x = -1
  · subst he
    rw [if_pos rfl]
    go_enter Try.func27, Try.ntmps27
    go_wp2
    go_ret
    exact ⟨rfl, hB.out⟩
  · rw [if_neg he]
    obtain ⟨y, rfl⟩ : ∃ y : Nat, x = (y : Int) := ⟨x.toNat, by omega⟩
    have hy : y < 64 := by omega
    have hne : ((y : Int) != -1) = true := by rw [bne_iff_ne]; omega
    have hy0 : ¬ (y : Int) < 0 := by omega
    have hsh := M.shl64 y hy
    have hsh2 : IntKind.u64.wrap (2 ^ y) = ((2 ^ y : Nat) : Int) := by rwa [show IntKind.u64.wrap 1 = 1 by decide, Int.one_mul] at hsh
    rw [Int.toNat_natCast]
    generalize (2 ^ y : Nat) = q at *
    clear hsh he hxr
    go_enter Try.func27, Try.ntmps27
    go_wp2
    go_ret
    exact ⟨rfl, hB.out⟩
end Go.Proofs.Ytfajgbdnfphajaa.S
