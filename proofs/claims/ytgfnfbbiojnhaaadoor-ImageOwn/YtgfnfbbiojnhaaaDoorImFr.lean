/- What the listed tables give the walks; calls and bytes that are handed in, opened. -/
import Derived.Test.YtgfnfbbiojnhaaaDoorImM
import Derived.ProofKit
import Derived.LaidMore
import Derived.Stop.Joined
import Derived.Stop.LaidErr
import Derived.Lib.LaidTab
import Derived.Lib.SmallJoins
import Derived.OpenShut
import Derived.ChangeSlices
import Derived.Carry
import Derived.SizedLaws
import Derived.Deep.Slices
namespace Go.Proofs.YtgfnfbbiojnhaaaDoor
open Go.ChangeShapes Go.WideShapes Go.ChangeAt Go.RowKit Go.Joins
theorem own : ownKnob Tryd.prog.godebug = none := by kernel_rfl
theorem laidOut : laidOutB Tryd.prog = true := by kernel_rfl
def laid2 : List (String × DataW Unit) := [("provost/image.longest", Rows.laid_provost_image_longest), ("provost/image.widths", Rows.laid_provost_image_widths)]
theorem door_met (os : Os) (args : Array Value) : laidMetH Tryd.prog laid2 ((World.doorLaid Tryd.prog 24 os).forCall (fun _ _ => 0) ⟨#[], args, []⟩).memory :=
  laidMetH_of_parts3 (fuel := 8) (laidMet_of_run' 8 (by kernel_rfl) (by kernel_rfl)) (by kernel_rfl) (by kernel_rfl)
theorem gLo : Tryd.prog.globalNamed "provost/image.longest" = some 1 := by kernel_rfl
theorem tLo : (Tryd.prog.globals[1]?).map (·.type) = some 46 := by kernel_rfl
theorem gWi : Tryd.prog.globalNamed "provost/image.widths" = some 0 := by kernel_rfl
theorem tWi : (Tryd.prog.globals[0]?).map (·.type) = some 46 := by kernel_rfl
theorem cI : Tryd.prog.cellsOf 3 = 1 := by kernel_rfl
theorem cS : Tryd.prog.cellsOf 9 = 1 := by kernel_rfl
theorem cB8 : Tryd.prog.cellsOf 5 = 1 := by kernel_rfl
theorem cQ : Tryd.prog.cellsOf 46 = 4 := by kernel_rfl
theorem cCl : Tryd.prog.cellsOf 23 = 6 := by kernel_rfl
theorem lo_eq {H : Type} : (Rows.laid_provost_image_longest : DataW H) = Lib.tabData .i64 [255, 255, 255, 65536] := rfl
theorem wi_eq {H : Type} : (Rows.laid_provost_image_widths : DataW H) = Lib.tabData .i64 [1, 1, 1, 4] := rfl
/-- From the row's condition to what the walks ask. -/
theorem tab_of_laid {W : World} (h : laidMetH Tryd.prog laid2 W) : Tb W := by
  rw [MakeChecks.laidMetH_plain _ _ _ (by kernel_rfl)] at h
  have h2 := h
  have h3 := h.tail
  unfold laid2 at h2
  rw [lo_eq] at h2
  rw [wi_eq] at h3
  have hL := Lib.tabIs_of_head gLo tLo Tryd.underlying46 Tryd.underlying3 cI cQ h2
  have hW := Lib.tabIs_of_head gWi tWi Tryd.underlying46 Tryd.underlying3 cI cQ h3
  exact ⟨hW.cell gWi 0 (by decide), hW.cell gWi 1 (by decide), hW.cell gWi 2 (by decide), hW.cell gWi 3 (by decide), hL.cell gLo 0 (by decide), hL.cell gLo 1 (by decide), hL.cell gLo 2 (by decide), hL.cell gLo 3 (by decide)⟩
theorem bounds_u8 {z : Int} (h : (Lit.int .u8 z).wf = true) : 0 ≤ z ∧ z < 256 := by
  simp only [Lit.wf, IntKind.min, IntKind.max, IntKind.bits, IntKind.signed] at h
  simp at h
  omega
theorem bounds_i64 {z : Int} (h : (Lit.int .i64 z).wf = true) : -9223372036854775808 ≤ z ∧ z < 9223372036854775808 := by
  simp only [Lit.wf, IntKind.min, IntKind.max, IntKind.bits, IntKind.signed] at h
  simp at h
  omega
theorem bytesU8 : Tryd.prog.bytesOf 5 = 1 := by kernel_rfl
/-- Bytes that are handed in, opened. -/
theorem bytes_of_arg {H : Type} {enc : TypeId × Value → H} {W : World} {a0 : Option Addr} {len cap : Nat} {d : DataW H} {ps : List MemPlace} (h : DataW.Trod enc Tryd.prog W 0 (fun _ => true) true 24 (.slice a0 len cap) d ps) (hw : ∀ x ∈ d.weights Tryd.prog 24, x ≤ reachBytes) :
    ∃ L : List Nat, RowC W (.slice a0 len cap) L ∧ (∀ z ∈ L, z < 256) ∧ L.length ≤ 140737488351232 := by
  obtain ⟨fuel, hf⟩ := h
  rcases open_ints Tryd.underlying24 Tryd.underlying5 cB8 hf with ⟨hcs, _⟩ | ⟨a, len', cap', zs, hcs, _, hl, hm, hz, hx, hcell, hwz⟩
  · simp [Value.cells] at hcs
    obtain ⟨rfl, rfl, rfl⟩ := hcs
    exact ⟨[], ⟨none, 0, rfl, ⟨Nat.le_refl _, fun _ => rfl⟩, fun i z h => by cases h⟩, (fun z h => by cases h), Nat.zero_le _⟩
  · simp [Value.cells] at hcs
    obtain ⟨rfl, rfl, rfl⟩ := hcs
    simp only [if_true] at hz
    have hb : ∀ z ∈ zs, 0 ≤ z ∧ z < 256 := fun z hz => bounds_u8 (hwz z hz)
    have hd : d = .slice (lits .u8 (zs.take len)) (lits .u8 (zs.drop len)) := congrArg Prod.fst hx
    have hbd : ((zs.take len).map Int.toNat).length ≤ 140737488351232 := by
      have := hw (((lits .u8 (zs.take len) : List (DataW H)).length + (lits .u8 (zs.drop len) : List (DataW H)).length) * Tryd.prog.bytesOf 5) (by rw [hd]; simp [DataW.weights, Tryd.underlying24])
      rw [bytesU8] at this
      simp only [lits, List.length_map, List.length_take, List.length_drop, reachBytes] at this
      rw [List.length_map, List.length_take]
      omega
    refine ⟨(zs.take len).map Int.toNat, ⟨some a, cap, by rw [List.length_map, List.length_take]; congr 1; omega, ⟨by rw [List.length_map, List.length_take]; omega, fun e => by cases e⟩, fun i z hi => ?_⟩, fun z h => ?_, hbd⟩
    · rw [List.getElem?_map] at hi
      cases hq : (zs.take len)[i]? with
      | none => rw [hq] at hi; cases hi
      | some y =>
        rw [hq] at hi
        cases hi
        obtain ⟨hlt, _⟩ := List.getElem?_eq_some_iff.1 hq
        rw [List.length_take] at hlt
        rw [List.getElem?_take_of_lt (by omega)] at hq
        have hy := hb y (List.mem_of_getElem? hq)
        have hc := hcell i (by omega)
        have hg : zs.getD i 0 = y := by rw [List.getD_eq_getElem?_getD, hq]; rfl
        rw [hg] at hc
        obtain ⟨b, off, spot⟩ := a
        have hspot : spot = none := by simpa [Addr.add] using World.cell?_spot (hcell 0 (by omega))
        subst hspot
        exact ⟨b, off, rfl, by rw [← Addr.add_lit, Int.toNat_of_nonneg hy.1]; exact hc⟩
    · obtain ⟨y, hy, rfl⟩ := List.mem_map.1 h
      have := hb y (List.mem_of_mem_take hy)
      omega
theorem array6 {α : Type} {cs : Array α} (h : cs.size = 6) : ∃ a b c d e f, cs = #[a, b, c, d, e, f] := by
  obtain ⟨l⟩ := cs
  match l, h with
  | [a, b, c, d, e, f], _ => exact ⟨a, b, c, d, e, f, rfl⟩
/-- A call that is handed in, opened. -/
theorem open_cl {H : Type} {enc : TypeId × Value → H} {W : World} {b0 : Nat} {r : Reach} {v : Value} {d : DataW H} {p : List MemPlace} (hv : Value.okWide Tryd.prog W r b0 23 v) (h : DataW.Trod enc Tryd.prog W 0 (fun _ => true) true 23 v d p) :
    ∃ C : Cl, v = .agg (clC C) ∧ -9223372036854775808 ≤ C.n ∧ C.n < 9223372036854775808 := by
  obtain ⟨cs, rfl, hsz⟩ := okWide_struct Tryd.underlying23 hv
  obtain ⟨c0, c1, c2, c3, c4, c5, rfl⟩ := array6 (hsz.trans cCl)
  obtain ⟨fuel, hf⟩ := h
  obtain ⟨xs, n, _, hx, _, hlen, hall⟩ := DataW.trod_struct Tryd.underlying23 hf
  match xs, hlen with
  | [y0, y1, y2, y3, y4, y5], _ =>
    have h0 : DataW.trod enc Tryd.prog W 0 (fun _ => true) true n 3 [c0] = some y0 := by simpa [Value.cells, show Tryd.prog.cellsOf 3 = 1 from cI] using hall 0 _ rfl
    have h1 : DataW.trod enc Tryd.prog W 0 (fun _ => true) true n 9 [c1] = some y1 := by simpa [Value.cells, show Tryd.prog.cellsOf 9 = 1 from cS] using hall 1 _ rfl
    have h2 : DataW.trod enc Tryd.prog W 0 (fun _ => true) true n 9 [c2] = some y2 := by simpa [Value.cells, show Tryd.prog.cellsOf 9 = 1 from cS] using hall 2 _ rfl
    have h3 : DataW.trod enc Tryd.prog W 0 (fun _ => true) true n 9 [c3] = some y3 := by simpa [Value.cells, show Tryd.prog.cellsOf 9 = 1 from cS] using hall 3 _ rfl
    have h4 : DataW.trod enc Tryd.prog W 0 (fun _ => true) true n 3 [c4] = some y4 := by simpa [Value.cells, show Tryd.prog.cellsOf 3 = 1 from cI] using hall 4 _ rfl
    have h5 : DataW.trod enc Tryd.prog W 0 (fun _ => true) true n 9 [c5] = some y5 := by simpa [Value.cells, show Tryd.prog.cellsOf 9 = 1 from cS] using hall 5 _ rfl
    obtain ⟨z0, e0, _, _⟩ := DataW.trod_int Tryd.underlying3 h0
    obtain ⟨s1, e1, _, _⟩ := DataW.trod_string Tryd.underlying9 h1
    obtain ⟨s2, e2, _, _⟩ := DataW.trod_string Tryd.underlying9 h2
    obtain ⟨s3, e3, _, _⟩ := DataW.trod_string Tryd.underlying9 h3
    obtain ⟨z4, e4, _, w4⟩ := DataW.trod_int Tryd.underlying3 h4
    obtain ⟨s5, e5, _, _⟩ := DataW.trod_string Tryd.underlying9 h5
    simp only [List.cons.injEq, and_true] at e0 e1 e2 e3 e4 e5
    subst e0 e1 e2 e3 e4 e5
    have := bounds_i64 w4
    exact ⟨⟨z0, s1, s2, s3, z4, s5⟩, rfl, this.1, this.2⟩
end Go.Proofs.YtgfnfbbiojnhaaaDoor
