/- What the listed table gives the walks; calls that are handed in, opened. -/
import Derived.Test.YtegpgjiccpglbaaDoorRows
import Derived.Test.YtegpgjiccpglbaaDoorYOps
import Derived.ProofKit
import Derived.LaidMore
import Derived.Stop.Joined
import Derived.Stop.LaidErr
import Derived.Lib.LaidTab
import Derived.Lib.SmallJoins
import Derived.OpenShut
import Derived.ChangeSlices
import Derived.Carry
import Derived.SizedLaws
import Derived.Deep.Slices
import Derived.JoinedOf
namespace Go.Proofs.YtegpgjiccpglbaaDoor
open Go.ChangeShapes Go.WideShapes Go.ChangeAt Go.RowKit Go.Joins
theorem own : ownKnob Tryd.prog.godebug = none := by kernel_rfl
theorem laidOut : laidOutB Tryd.prog = true := by kernel_rfl
def laid1 : List (String × DataW Unit) := [("math/bits.deBruijn64tab", Rows.laid_math_bits_deBruijn64tab)]
theorem door_met (os : Os) (args : Array Value) : laidMetH Tryd.prog laid1 ((World.doorLaid Tryd.prog 24 os).forCall (fun _ _ => 0) ⟨#[], args, []⟩).memory :=
  laidMetH_of_parts3 (fuel := 8) (laidMet_of_run' 8 (by kernel_rfl) (by kernel_rfl)) (by kernel_rfl) (by kernel_rfl)
theorem g64 : Tryd.prog.globalNamed "math/bits.deBruijn64tab" = some 0 := by kernel_rfl
theorem t64 : (Tryd.prog.globals[0]?).map (·.type) = some 57 := by kernel_rfl
theorem ce5 : Tryd.prog.cellsOf 5 = 1 := by kernel_rfl
theorem ct64 : Tryd.prog.cellsOf 57 = 64 := by kernel_rfl
theorem tab_eq {H : Type} : (Rows.laid_math_bits_deBruijn64tab : DataW H) = Lib.tabData .u8 (dbTab.map Int.ofNat) := rfl
theorem tab_get : ∀ i : Fin 64, (dbTab.map Int.ofNat).getD i.val 0 = ((dbTab.getD i.val 0 : Nat) : Int) := by decide +kernel
/-- From the row's condition to what the walks ask. -/
theorem tab_of_laid {W : World} (h : laidMetH Tryd.prog laid1 W) : Tab W := by
  rw [MakeChecks.laidMetH_plain _ _ _ (by kernel_rfl)] at h
  have h2 := h
  unfold laid1 at h2
  rw [tab_eq] at h2
  have hT := Lib.tabIs_of_head g64 t64 Tryd.underlying57 Tryd.underlying5 ce5 ct64 h2
  have hc : ∀ i : Nat, i < 64 → W.cell? ⟨0, i, none⟩ = some (.int .u8 (dbTab.getD i 0 : Nat)) := fun i hi => by
    have := hT.cell g64 i (by rw [List.length_map]; exact hi)
    rw [this, tab_get ⟨i, hi⟩]
  exact ⟨hc, cell_lt (hc 0 (by omega))⟩
theorem cI : Tryd.prog.cellsOf 3 = 1 := by kernel_rfl
theorem cU : Tryd.prog.cellsOf 33 = 1 := by kernel_rfl
theorem cOp : Tryd.prog.cellsOf 35 = 5 := by kernel_rfl
theorem struct5 {H : Type} {enc : TypeId × Value → H} {P : Program} {w : World} {base : Nat} {spare : Nat → Bool} {held : Bool} {t : TypeId} {f0 f1 f2 f3 f4 : Field} {fuel : Nat} {cs : List Value} {x : DataW H × List MemPlace} (ht : P.underlying t = some (.struct #[f0, f1, f2, f3, f4])) (h : DataW.trod enc P w base spare held fuel t cs = some x) :
    ∃ y0 y1 y2 y3 y4 n, DataW.trod enc P w base spare held n f0.type ((cs.drop f0.offset).take (P.cellsOf f0.type)) = some y0 ∧
      DataW.trod enc P w base spare held n f1.type ((cs.drop f1.offset).take (P.cellsOf f1.type)) = some y1 ∧ DataW.trod enc P w base spare held n f2.type ((cs.drop f2.offset).take (P.cellsOf f2.type)) = some y2 ∧
      DataW.trod enc P w base spare held n f3.type ((cs.drop f3.offset).take (P.cellsOf f3.type)) = some y3 ∧ DataW.trod enc P w base spare held n f4.type ((cs.drop f4.offset).take (P.cellsOf f4.type)) = some y4 := by
  obtain ⟨xs, n, _, rfl, hl, hlen, hf⟩ := DataW.trod_struct ht h
  match xs, hlen with
  | [y0, y1, y2, y3, y4], _ => exact ⟨y0, y1, y2, y3, y4, n, by simpa using hf 0 f0 rfl, by simpa using hf 1 f1 rfl, by simpa using hf 2 f2 rfl, by simpa using hf 3 f3 rfl, by simpa using hf 4 f4 rfl⟩
theorem list_of {α : Type} {p : Nat → α → Prop} : ∀ n, (∀ i, i < n → ∃ r, p i r) → ∃ L : List α, L.length = n ∧ ∀ i r, L[i]? = some r → p i r
  | 0, _ => ⟨[], rfl, fun i r h => by cases h⟩
  | n + 1, h => by
    obtain ⟨L, h1, h2⟩ := list_of n fun i hi => h i (by omega)
    obtain ⟨r, hr⟩ := h n (by omega)
    refine ⟨L ++ [r], by simp [h1], fun i q hq => ?_⟩
    rw [List.getElem?_append] at hq
    split at hq
    · exact h2 i q hq
    · rename_i hlt
      have hi : i < (L ++ [r]).length := by
        rcases Nat.lt_or_ge i (L ++ [r]).length with h' | h'
        · exact h'
        · rw [List.getElem?_eq_none (by simp at h' ⊢; omega)] at hq; cases hq
      have : i = n := by simp at hi; omega
      subst this
      rw [h1, Nat.sub_self] at hq
      cases hq
      exact hr
theorem cells5 {W : World} {a : Addr} {cs : List Value} (h : W.cells? 0 a 5 = some cs) : ∃ u v x y z, W.cell? (a.add 0) = some u ∧ W.cell? (a.add 1) = some v ∧ W.cell? (a.add 2) = some x ∧ W.cell? (a.add 3) = some y ∧ W.cell? (a.add 4) = some z ∧ cs = [u, v, x, y, z] := by
  unfold World.cells? at h
  rw [if_pos (Nat.zero_le _), show List.range 5 = [0, 1, 2, 3, 4] from rfl] at h
  simp only [List.mapM_cons, List.mapM_nil] at h
  cases h0 : W.cell? (a.add 0) with
  | none => rw [h0] at h; cases h
  | some u =>
    cases h1 : W.cell? (a.add 1) with
    | none => rw [h0, h1] at h; cases h
    | some v =>
      cases h2 : W.cell? (a.add 2) with
      | none => rw [h0, h1, h2] at h; cases h
      | some x =>
        cases h3 : W.cell? (a.add 3) with
        | none => rw [h0, h1, h2, h3] at h; cases h
        | some y =>
          cases h4 : W.cell? (a.add 4) with
          | none => rw [h0, h1, h2, h3, h4] at h; cases h
          | some z => rw [h0, h1, h2, h3, h4] at h; cases h; exact ⟨u, v, x, y, z, rfl, rfl, rfl, rfl, rfl, rfl⟩
/-- The calls, opened. -/
theorem open_ops {H : Type} {enc : TypeId × Value → H} {W : World} {a0 : Option Addr} {ln cap : Nat} {d : DataW H} {ps : List MemPlace} (h : DataW.Trod enc Tryd.prog W 0 (fun _ => true) true 22 (.slice a0 ln cap) d ps) : ∃ L, RowOp W (.slice a0 ln cap) L := by
  obtain ⟨fuel, hf⟩ := h
  rcases Deep.open_slice Tryd.underlying22 hf with ⟨hcs, _⟩ | ⟨a, len, cap', m, k, D, Pl, hcs, _, hl, hcm, hm, hx, hel⟩
  · simp [Value.cells] at hcs
    obtain ⟨rfl, rfl, rfl⟩ := hcs
    exact ⟨[], none, 0, rfl, ⟨Nat.le_refl _, fun _ => rfl, by omega⟩, fun i p h => by cases h⟩
  · simp [Value.cells] at hcs
    obtain ⟨rfl, rfl, rfl⟩ := hcs
    simp only [if_true] at hm
    subst hm
    rw [cOp] at hel
    obtain ⟨L, h1, h2⟩ := list_of (p := fun i (t : OpT) => (W.cell? ((a.add (i * 5)).add 0) = some (.int .i64 t.on) ∧ W.cell? ((a.add (i * 5)).add 1) = some (.int .i64 t.op) ∧ W.cell? ((a.add (i * 5)).add 2) = some (.int .i64 t.a) ∧ W.cell? ((a.add (i * 5)).add 3) = some (.int .i64 t.b) ∧ W.cell? ((a.add (i * 5)).add 4) = some (.int .u64 (t.s : Int))) ∧ t.s < 18446744073709551616) ln fun i hi => by
      obtain ⟨cs', h1, h2⟩ := hel i (by omega)
      obtain ⟨u, v, x, y, z, hu, hv, hx, hy, hz, rfl⟩ := cells5 h1
      obtain ⟨z0, z1, z2, z3, z4, n, q0, q1, q2, q3, q4⟩ := struct5 Tryd.underlying35 h2
      obtain ⟨p0, e0, _, _⟩ := DataW.trod_int (x := z0) Tryd.underlying3 (by simpa [cI] using q0)
      obtain ⟨p1, e1, _, _⟩ := DataW.trod_int (x := z1) Tryd.underlying3 (by simpa [cI] using q1)
      obtain ⟨p2, e2, _, _⟩ := DataW.trod_int (x := z2) Tryd.underlying3 (by simpa [cI] using q2)
      obtain ⟨p3, e3, _, _⟩ := DataW.trod_int (x := z3) Tryd.underlying3 (by simpa [cI] using q3)
      obtain ⟨p4, e4, _, w4⟩ := DataW.trod_int (x := z4) Tryd.underlying33 (by simpa [cU] using q4)
      simp at e0 e1 e2 e3 e4
      subst e0 e1 e2 e3 e4
      have hb := bounds_u64 w4
      have e : ((p4.toNat : Nat) : Int) = p4 := by omega
      exact ⟨⟨p0, p1, p2, p3, p4.toNat⟩, ⟨hu, hv, hx, hy, by rw [e]; exact hz⟩, by show p4.toNat < _; omega⟩
    subst h1
    refine ⟨L, some a, _, rfl, ⟨hl, fun e => (by cases e), by simp only [maxLen] at hcm; omega⟩, fun i r hr => ?_⟩
    obtain ⟨⟨q0, q1, q2, q3, q4⟩, hs⟩ := h2 i r hr
    have hpos : 0 < L.length := by have := (List.getElem?_eq_some_iff.1 hr).1; omega
    obtain ⟨⟨k0, _⟩, _⟩ := h2 0 L[0] (List.getElem?_eq_getElem hpos)
    obtain ⟨b, off, spot⟩ := a
    have hspot : spot = none := by simpa [Addr.add] using World.cell?_spot k0
    subst hspot
    rw [Addr.add_lit, Addr.add_lit] at q0 q1 q2 q3 q4
    exact ⟨⟨b, off, rfl, q0, q1, q2, q3, q4⟩, hs⟩
end Go.Proofs.YtegpgjiccpglbaaDoor
