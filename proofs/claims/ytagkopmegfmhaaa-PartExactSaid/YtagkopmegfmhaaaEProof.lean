/- For every input PartExact returns true and leaves its argument as it read; no condition. -/
import Derived.Test.YtagkopmegfmhaaaELaw
import Derived.Test.YtagkopmegfmhaaaRows
import Derived.ChangeSlices
import Derived.ProofKit
import Derived.OpenShut
import Derived.Carry
import Derived.JoinedOf
import Derived.Lib.SmallJoins
namespace Go.Proofs.Ytagkopmegfmhaaa
open Go.ChangeShapes Go.WideShapes Go.ChangeAt Go.RowKit Go.Joins
theorem own : ownKnob Try.prog.godebug = none := by kernel_rfl
theorem laidOut : laidOutB Try.prog = true := by kernel_rfl
theorem cI : Try.prog.cellsOf 3 = 1 := by kernel_rfl
theorem cT : Try.prog.cellsOf 25 = 6 := by kernel_rfl
/-- What a field's row holds, as the walks ask it. -/
theorem row_of_cell {H : Type} {enc : TypeId × Value → H} {W : World} {v : Value} {y : DataW H × List MemPlace} {fuel : Nat} (hf : DataW.trod enc Try.prog W 0 (fun _ => true) true fuel 22 [v] = some y) :
    ∃ L, RowI W v L ∧ ∀ z ∈ L, (Lit.int .i64 z).wf = true := by
  obtain ⟨d, ps⟩ := y
  rcases open_ints Try.underlying22 Try.underlying3 cI hf with ⟨hcs, _⟩ | ⟨a, len', cap', zs, hcs, _, hl, hm, hz, _, hcell, hwz⟩
  · simp only [List.cons.injEq, and_true] at hcs
    subst hcs
    exact ⟨[], ⟨none, 0, rfl, ⟨Nat.le_refl _, fun _ => rfl⟩, fun i z h => by cases h⟩, fun z h => by cases h⟩
  · simp only [List.cons.injEq, and_true] at hcs
    subst hcs
    simp only [if_true] at hz
    refine ⟨zs.take len', ⟨some a, cap', by rw [List.length_take]; congr 1; omega, ⟨by rw [List.length_take]; omega, fun e => by cases e⟩, fun i z hi => ?_⟩, fun z h => hwz z (List.mem_of_mem_take h)⟩
    obtain ⟨hlt, _⟩ := List.getElem?_eq_some_iff.1 hi
    rw [List.length_take] at hlt
    rw [List.getElem?_take_of_lt (by omega)] at hi
    have hc := hcell i (by omega)
    have hg : zs.getD i 0 = z := by rw [List.getD_eq_getElem?_getD, hi]; rfl
    rw [hg] at hc
    obtain ⟨b, off, spot⟩ := a
    have hspot : spot = none := by simpa [Addr.add] using World.cell?_spot (hcell 0 (by omega))
    subst hspot
    exact ⟨b, off, rfl, by rw [← Addr.add_lit]; exact hc⟩
theorem array6 {α : Type} {cs : Array α} (h : cs.size = 6) : ∃ c0 c1 c2 c3 c4 c5, cs = #[c0, c1, c2, c3, c4, c5] := by
  obtain ⟨l⟩ := cs
  match l, h with
  | [c0, c1, c2, c3, c4, c5], _ => exact ⟨c0, c1, c2, c3, c4, c5, rfl⟩
theorem open_ask6 {H : Type} {enc : TypeId × Value → H} {W : World} {b0 : Nat} {r : Reach} {v : Value} {d : DataW H} {p : List MemPlace} (hv : Value.okWide Try.prog W r b0 25 v) (h : DataW.Trod enc Try.prog W 0 (fun _ => true) true 25 v d p) :
    ∃ (c0 c1 c2 c3 c4 c5 : Value) (y0 y1 y2 y3 y4 y5 : DataW H × List MemPlace) (n : Nat), v = .agg #[c0, c1, c2, c3, c4, c5] ∧ d = .agg [y0.1, y1.1, y2.1, y3.1, y4.1, y5.1] ∧
      DataW.trod enc Try.prog W 0 (fun _ => true) true n 22 [c0] = some y0 ∧ DataW.trod enc Try.prog W 0 (fun _ => true) true n 22 [c1] = some y1 ∧ DataW.trod enc Try.prog W 0 (fun _ => true) true n 3 [c2] = some y2 ∧ DataW.trod enc Try.prog W 0 (fun _ => true) true n 3 [c3] = some y3 ∧ DataW.trod enc Try.prog W 0 (fun _ => true) true n 3 [c4] = some y4 ∧ DataW.trod enc Try.prog W 0 (fun _ => true) true n 23 [c5] = some y5 := by
  obtain ⟨cs, rfl, hsz⟩ := okWide_struct Try.underlying25 hv
  obtain ⟨c0, c1, c2, c3, c4, c5, rfl⟩ := array6 (hsz.trans cT)
  obtain ⟨fuel, hf⟩ := h
  obtain ⟨xs, n, _, hx, _, hlen, hall⟩ := DataW.trod_struct Try.underlying25 hf
  match xs, hlen with
  | [y0, y1, y2, y3, y4, y5], _ =>
    simp only [Prod.mk.injEq] at hx
    refine ⟨c0, c1, c2, c3, c4, c5, y0, y1, y2, y3, y4, y5, n, rfl, by simpa using hx.1, ?_, ?_, ?_, ?_, ?_, ?_⟩
    · simpa [Value.cells, show Try.prog.cellsOf 22 = 1 by kernel_rfl] using hall 0 _ rfl
    · simpa [Value.cells, show Try.prog.cellsOf 22 = 1 by kernel_rfl] using hall 1 _ rfl
    · simpa [Value.cells, show Try.prog.cellsOf 3 = 1 from cI] using hall 2 _ rfl
    · simpa [Value.cells, show Try.prog.cellsOf 3 = 1 from cI] using hall 3 _ rfl
    · simpa [Value.cells, show Try.prog.cellsOf 3 = 1 from cI] using hall 4 _ rfl
    · simpa [Value.cells, show Try.prog.cellsOf 23 = 1 by kernel_rfl] using hall 5 _ rfl
set_option maxRecDepth 100000 in
theorem partExact_lifted (os : Os) (started : os.Started) (H : Type) (enc : TypeId × Value → H) :
    ReturnsInHanded {} Try.checked os 3 .any (Rows.partExactSpec.pre6 enc Try.prog Try.f3 Rows.partExactRow.domain false) (Rows.partExactSpec.post enc Try.prog Try.f3 false true false false) := by
  refine returnsInHanded_of_change (C := Try.checked) own started (by kernel_rfl) Try.func3
    (ChangeSpec.witness6 (enc := enc) (C := Try.checked) false ⟨#[], #[.agg #[.slice none 0 0, .slice none 0 0, .int .i64 0, .int .i64 0, .int .i64 0, .int .u64 0]], []⟩ 8 (by kernel_rfl) (by kernel_rfl) (by kernel_rfl) (by kernel_rfl)) ?_
  intro W base args ds gs before hval0 hW _ _
  have hval : ∀ (j : Nat) t v, Try.f3.params[j]? = some t → args[j]? = some v → Value.okWide Try.prog W .any base t v := hval0
  have hW' := hW
  obtain ⟨p, q, hA0, hV, rfl, hfz, hnd⟩ := hW
  have hA : DataW.TrodAll enc Try.prog W 0 (fun _ => true) true Try.f3.params.toList args.toList ds p := hA0
  rw [Try.params3] at hA hval
  obtain ⟨v0, d0, rfl, rfl, h0⟩ := trodAll_one hA
  obtain ⟨rfl, rfl⟩ := trodVars_none hV
  have hlt : ∀ x ∈ p, x.block < W.heap.size := fun x hx => by simpa using hW'.lt x (by simpa using hx)
  obtain ⟨c0, c1, c2, c3, c4, c5, y0, y1, y2, y3, y4, y5, nf, rfl, rfl, hy0, hy1, hy2, hy3, hy4, hy5⟩ := open_ask6 (hval 0 25 v0 rfl rfl) h0
  obtain ⟨LA, ra, wa⟩ := row_of_cell hy0
  obtain ⟨LB, rb, wb⟩ := row_of_cell hy1
  obtain ⟨n2, e2, _, _⟩ := DataW.trod_int Try.underlying3 hy2
  obtain ⟨n3, e3, _, _⟩ := DataW.trod_int Try.underlying3 hy3
  obtain ⟨n4, e4, _, _⟩ := DataW.trod_int Try.underlying3 hy4
  obtain ⟨n5, e5, _, h5y⟩ := DataW.trod_int Try.underlying23 hy5
  simp only [List.cons.injEq, and_true] at e2 e3 e4 e5
  subst e2 e3 e4 e5
  obtain ⟨oA, cA, rfl⟩ := ra.shapeQ
  obtain ⟨oB, cB, rfl⟩ := rb.shapeQ
  obtain ⟨k5, rfl⟩ : ∃ k : Nat, n5 = (k : Int) := ⟨n5.toNat, by
    have h0 : IntKind.u64.min = 0 := rfl
    have h1 : decide (IntKind.u64.min ≤ n5) = true := (Bool.and_eq_true_iff.1 h5y).1
    rw [h0, decide_eq_true_eq] at h1
    omega⟩
  refine (partExact_walk LA LB oA oB cA cB n2 n3 n4 k5 W ra rb wa).mono fun e W' ⟨he, hB⟩ => ?_
  subst he
  refine ⟨_, rfl, _, _, _, [], p, [], hW', ?_, ?_, ?_, hB.frame _, fun h => by cases h⟩
  · exact trodAll_mk1 (shut_bool Try.underlying4 true)
  · exact trodAll_mk1 (Below.trod laidOut (by kernel_rfl) (of_decide_eq_true (by kernel_rfl)) h0 hB hlt)
  · rfl
theorem partExact_holds : Rows.PartExactSaid :=
  OpenClaim.holds_of_wide 3 Try.f3 rfl rfl rfl rfl rfl rfl rfl ⟨rfl, rfl, rfl, rfl, rfl⟩ rfl rfl rfl rfl rfl (by kernel_rfl) Try.func3 (by kernel_rfl)
    (of_decide_eq_true (by kernel_rfl)) (by unfold Func.isWrapper; rw [if_neg (of_decide_eq_false (by kernel_rfl))]; exact ⟨rfl, rfl⟩)
    (fun os started H enc _ => partExact_lifted os started H enc)
#print axioms partExact_holds
end Go.Proofs.Ytagkopmegfmhaaa
