/- What the listed table gives the walks; a flow and a row of calls that are handed in, opened. -/
import Derived.Test.YtahfobbiaimoiaaGreatDoorJ32
import Derived.Test.YtahfobbiaimoiaaGreatDoorRows
import Derived.ProofKit
import Derived.LaidMore
import Derived.Stop.Joined
import Derived.Stop.LaidErr
import Derived.Lib.LaidTab
import Derived.Lib.SmallJoins
import Derived.OpenShut
import Derived.ChangeSlices
import Derived.Carry
import Derived.SizedLaws
import Derived.Deep.Slices
namespace Go.Proofs.YtahfobbiaimoiaaGreatDoor
open Go.ChangeShapes Go.WideShapes Go.ChangeAt Go.RowKit Go.Joins
theorem own : ownKnob Tryz.prog.godebug = none := by kernel_rfl
theorem laidOut : laidOutB Tryz.prog = true := by kernel_rfl
def laid1 : List (String × DataW Unit) := [("math/bits.deBruijn64tab", Rows.laid_math_bits_deBruijn64tab)]
theorem door_met (os : Os) (args : Array Value) : laidMetH Tryz.prog laid1 ((World.doorLaid Tryz.prog 24 os).forCall (fun _ _ => 0) ⟨#[], args, []⟩).memory :=
  laidMetH_of_parts3 (fuel := 8) (laidMet_of_run' 8 (by kernel_rfl) (by kernel_rfl)) (by kernel_rfl) (by kernel_rfl)
theorem g64 : Tryz.prog.globalNamed "math/bits.deBruijn64tab" = some 0 := by kernel_rfl
theorem t64 : (Tryz.prog.globals[0]?).map (·.type) = some 205 := by kernel_rfl
theorem ce5 : Tryz.prog.cellsOf 5 = 1 := by kernel_rfl
theorem ct64 : Tryz.prog.cellsOf 205 = 64 := by kernel_rfl
theorem tab_eq {H : Type} : (Rows.laid_math_bits_deBruijn64tab : DataW H) = Lib.tabData .u8 (O.dbTab.map Int.ofNat) := rfl
theorem tab_get : ∀ i : Fin 64, (O.dbTab.map Int.ofNat).getD i.val 0 = ((O.dbTab.getD i.val 0 : Nat) : Int) := by decide +kernel
/-- From the row's condition to what the walks ask. -/
theorem tab_of_laid {W : World} (h : laidMetH Tryz.prog laid1 W) : O.Tab W := by
  rw [MakeChecks.laidMetH_plain _ _ _ (by kernel_rfl)] at h
  have h2 := h
  unfold laid1 at h2
  rw [tab_eq] at h2
  have hT := Lib.tabIs_of_head g64 t64 Tryz.underlying205 Tryz.underlying5 ce5 ct64 h2
  have hc : ∀ i : Nat, i < 64 → W.cell? ⟨0, i, none⟩ = some (.int .u8 (O.dbTab.getD i 0 : Nat)) := fun i hi => by
    have := hT.cell g64 i (by rw [List.length_map]; exact hi)
    rw [this, tab_get ⟨i, hi⟩]
  exact ⟨hc, cell_lt (hc 0 (by omega))⟩
theorem cI : Tryz.prog.cellsOf 3 = 1 := by kernel_rfl
/-- What an argument's row holds, as the walks ask it. -/
theorem row_of_arg {H : Type} {enc : TypeId × Value → H} {W : World} {a0 : Option Addr} {len cap : Nat} {d : DataW H} {ps : List MemPlace} (h : DataW.Trod enc Tryz.prog W 0 (fun _ => true) true 53 (.slice a0 len cap) d ps) :
    ∃ L, RowI W (.slice a0 len cap) L ∧ ∀ z ∈ L, (Lit.int .i64 z).wf = true := by
  obtain ⟨fuel, hf⟩ := h
  rcases open_ints Tryz.underlying53 Tryz.underlying3 cI hf with ⟨hcs, _⟩ | ⟨a, len', cap', zs, hcs, _, hl, hm, hz, _, hcell, hwz⟩
  · simp [Value.cells] at hcs
    obtain ⟨rfl, rfl, rfl⟩ := hcs
    exact ⟨[], ⟨none, 0, rfl, ⟨Nat.le_refl _, fun _ => rfl⟩, fun i z h => by cases h⟩, fun z h => by cases h⟩
  · simp [Value.cells] at hcs
    obtain ⟨rfl, rfl, rfl⟩ := hcs
    simp only [if_true] at hz
    refine ⟨zs.take len, ⟨some a, cap, by rw [List.length_take]; congr 1; omega, ⟨by rw [List.length_take]; omega, fun e => by cases e⟩, fun i z hi => ?_⟩, fun z h => hwz z (List.mem_of_mem_take h)⟩
    obtain ⟨hlt, _⟩ := List.getElem?_eq_some_iff.1 hi
    rw [List.length_take] at hlt
    rw [List.getElem?_take_of_lt (by omega)] at hi
    have hc := hcell i (by omega)
    have hg : zs.getD i 0 = z := by rw [List.getD_eq_getElem?_getD, hi]; rfl
    rw [hg] at hc
    obtain ⟨b, off, spot⟩ := a
    have hspot : spot = none := by simpa [Addr.add] using World.cell?_spot (hcell 0 (by omega))
    subst hspot
    exact ⟨b, off, rfl, by rw [← Addr.add_lit]; exact hc⟩
theorem cL : Tryz.prog.cellsOf 53 = 1 := by kernel_rfl
theorem cR : Tryz.prog.cellsOf 82 = 3 := by kernel_rfl
/-- What a field's row holds, as the walks ask it. -/
theorem row_of_cell {H : Type} {enc : TypeId × Value → H} {W : World} {v : Value} {y : DataW H × List MemPlace} {fuel : Nat} (hf : DataW.trod enc Tryz.prog W 0 (fun _ => true) true fuel 53 [v] = some y) :
    ∃ L, RowI W v L ∧ ∀ z ∈ L, (Lit.int .i64 z).wf = true := by
  obtain ⟨d, ps⟩ := y
  rcases open_ints Tryz.underlying53 Tryz.underlying3 cI hf with ⟨hcs, _⟩ | ⟨a, len', cap', zs, hcs, _, hl, hm, hz, _, hcell, hwz⟩
  · simp only [List.cons.injEq, and_true] at hcs
    subst hcs
    exact ⟨[], ⟨none, 0, rfl, ⟨Nat.le_refl _, fun _ => rfl⟩, fun i z h => by cases h⟩, fun z h => by cases h⟩
  · simp only [List.cons.injEq, and_true] at hcs
    subst hcs
    simp only [if_true] at hz
    refine ⟨zs.take len', ⟨some a, cap', by rw [List.length_take]; congr 1; omega, ⟨by rw [List.length_take]; omega, fun e => by cases e⟩, fun i z hi => ?_⟩, fun z h => hwz z (List.mem_of_mem_take h)⟩
    obtain ⟨hlt, _⟩ := List.getElem?_eq_some_iff.1 hi
    rw [List.length_take] at hlt
    rw [List.getElem?_take_of_lt (by omega)] at hi
    have hc := hcell i (by omega)
    have hg : zs.getD i 0 = z := by rw [List.getD_eq_getElem?_getD, hi]; rfl
    rw [hg] at hc
    obtain ⟨b, off, spot⟩ := a
    have hspot : spot = none := by simpa [Addr.add] using World.cell?_spot (hcell 0 (by omega))
    subst hspot
    exact ⟨b, off, rfl, by rw [← Addr.add_lit]; exact hc⟩
theorem list_of {α : Type} {p : Nat → α → Prop} : ∀ n, (∀ i, i < n → ∃ r, p i r) → ∃ L : List α, L.length = n ∧ ∀ i r, L[i]? = some r → p i r
  | 0, _ => ⟨[], rfl, fun i r h => by cases h⟩
  | n + 1, h => by
    obtain ⟨L, h1, h2⟩ := list_of n fun i hi => h i (by omega)
    obtain ⟨r, hr⟩ := h n (by omega)
    refine ⟨L ++ [r], by simp [h1], fun i q hq => ?_⟩
    rw [List.getElem?_append] at hq
    split at hq
    · exact h2 i q hq
    · rename_i hlt
      have hi : i < (L ++ [r]).length := by
        rcases Nat.lt_or_ge i (L ++ [r]).length with h' | h'
        · exact h'
        · rw [List.getElem?_eq_none (by simp at h' ⊢; omega)] at hq; cases hq
      have : i = n := by simp at hi; omega
      subst this
      rw [h1, Nat.sub_self] at hq
      cases hq
      exact hr
theorem cells3 {W : World} {a : Addr} {cs : List Value} (h : W.cells? 0 a 3 = some cs) : ∃ u v x, W.cell? (a.add 0) = some u ∧ W.cell? (a.add 1) = some v ∧ W.cell? (a.add 2) = some x ∧ cs = [u, v, x] := by
  unfold World.cells? at h
  rw [if_pos (Nat.zero_le _), show List.range 3 = [0, 1, 2] from rfl] at h
  simp only [List.mapM_cons, List.mapM_nil] at h
  cases h0 : W.cell? (a.add 0) with
  | none => rw [h0] at h; cases h
  | some u =>
    cases h1 : W.cell? (a.add 1) with
    | none => rw [h0, h1] at h; cases h
    | some v =>
      cases h2 : W.cell? (a.add 2) with
      | none => rw [h0, h1, h2] at h; cases h
      | some x => rw [h0, h1, h2] at h; cases h; exact ⟨u, v, x, rfl, rfl, rfl, rfl⟩
/-- The rules, opened. -/
theorem open_rules {H : Type} {enc : TypeId × Value → H} {W : World} {v : Value} {y : DataW H × List MemPlace} {fuel : Nat} (hf : DataW.trod enc Tryz.prog W 0 (fun _ => true) true fuel 23 [v] = some y) : ∃ L, RowR W v L := by
  rcases Deep.open_slice Tryz.underlying23 hf with ⟨hcs, _⟩ | ⟨a, len, cap, m, k, D, Pl, hcs, _, hl, _, hm, hx, hel⟩
  · simp only [List.cons.injEq, and_true] at hcs
    subst hcs
    exact ⟨[], none, 0, rfl, ⟨Nat.le_refl _, fun _ => rfl⟩, fun i p h => by cases h⟩
  · simp only [List.cons.injEq, and_true] at hcs
    subst hcs
    simp only [if_true] at hm
    subst hm
    rw [cR] at hel
    obtain ⟨L, h1, h2⟩ := list_of (p := fun i (r : Rl) => ∃ sv, W.cell? ((a.add (i * 3)).add 0) = some (.int .i64 r.kind) ∧ W.cell? ((a.add (i * 3)).add 1) = some (.int .i64 r.k) ∧ W.cell? ((a.add (i * 3)).add 2) = some sv ∧ RowI W sv r.steps) len fun i hi => by
      obtain ⟨cs', h1, h2⟩ := hel i (by omega)
      obtain ⟨u, v, x, hu, hv, hx, rfl⟩ := cells3 h1
      obtain ⟨z0, z1, z2, n, _, _, q0, q1, q2⟩ := Deep.trod_struct3 Tryz.underlying82 h2
      obtain ⟨p0, e0, _, _⟩ := DataW.trod_int (x := z0) Tryz.underlying3 (by simpa [cI] using q0)
      obtain ⟨p1, e1, _, _⟩ := DataW.trod_int (x := z1) Tryz.underlying3 (by simpa [cI] using q1)
      obtain ⟨S, hS, _⟩ := row_of_cell (v := x) (y := z2) (by simpa [cL] using q2)
      simp at e0 e1
      subst e0 e1
      exact ⟨⟨p0, p1, S⟩, x, hu, hv, hx, hS⟩
    subst h1
    refine ⟨L, some a, m, rfl, ⟨hl, fun e => by cases e⟩, fun i r hr => ?_⟩
    obtain ⟨sv, q0, q1, q2, q3⟩ := h2 i r hr
    have hpos : 0 < L.length := by have := (List.getElem?_eq_some_iff.1 hr).1; omega
    obtain ⟨_, k0, _⟩ := h2 0 L[0] (List.getElem?_eq_getElem hpos)
    obtain ⟨b, off, spot⟩ := a
    have hspot : spot = none := by simpa [Addr.add] using World.cell?_spot k0
    subst hspot
    rw [Addr.add_lit, Addr.add_lit] at q0 q1 q2
    exact ⟨b, off, sv, rfl, q0, q1, q2, q3⟩
theorem cS : Tryz.prog.cellsOf 9 = 1 := by kernel_rfl
theorem cSt : Tryz.prog.cellsOf 95 = 3 := by kernel_rfl
theorem cFl : Tryz.prog.cellsOf 25 = 3 := by kernel_rfl
theorem cB : Tryz.prog.cellsOf 4 = 1 := by kernel_rfl
theorem cOp : Tryz.prog.cellsOf 70 = 6 := by kernel_rfl
/-- The steps, opened. -/
theorem open_steps {H : Type} {enc : TypeId × Value → H} {W : World} {v : Value} {y : DataW H × List MemPlace} {fuel : Nat} (hf : DataW.trod enc Tryz.prog W 0 (fun _ => true) true fuel 22 [v] = some y) : ∃ L, RowS W v L ∧ ∀ s ∈ L, s.name.size ≤ 9223372036854775807 ∧ s.duty.size ≤ 9223372036854775807 := by
  rcases Deep.open_slice Tryz.underlying22 hf with ⟨hcs, _⟩ | ⟨a, len, cap, m, k, D, Pl, hcs, _, hl, _, hm, hx, hel⟩
  · simp only [List.cons.injEq, and_true] at hcs
    subst hcs
    exact ⟨[], ⟨none, 0, rfl, ⟨Nat.le_refl _, fun _ => rfl⟩, fun i p h => by cases h⟩, fun s h => by cases h⟩
  · simp only [List.cons.injEq, and_true] at hcs
    subst hcs
    simp only [if_true] at hm
    subst hm
    rw [cSt] at hel
    obtain ⟨L, h1, h2⟩ := list_of (p := fun i (r : Sp) => (∃ sv, W.cell? ((a.add (i * 3)).add 0) = some (.string r.name) ∧ W.cell? ((a.add (i * 3)).add 1) = some (.string r.duty) ∧ W.cell? ((a.add (i * 3)).add 2) = some sv ∧ RowI W sv r.after) ∧ r.name.size ≤ 9223372036854775807 ∧ r.duty.size ≤ 9223372036854775807) len fun i hi => by
      obtain ⟨cs', h1, h2⟩ := hel i (by omega)
      obtain ⟨u, v, x, hu, hv, hx, rfl⟩ := cells3 h1
      obtain ⟨z0, z1, z2, n, _, _, q0, q1, q2⟩ := Deep.trod_struct3 Tryz.underlying95 h2
      obtain ⟨p0, e0, _, s0⟩ := DataW.trod_string (x := z0) Tryz.underlying9 (by simpa [cS] using q0)
      obtain ⟨p1, e1, _, s1⟩ := DataW.trod_string (x := z1) Tryz.underlying9 (by simpa [cS] using q1)
      obtain ⟨S, hS, _⟩ := row_of_cell (v := x) (y := z2) (by simpa [cL] using q2)
      simp at e0 e1
      subst e0 e1
      simp only [maxLen] at s0 s1
      exact ⟨⟨p0, p1, S⟩, ⟨x, hu, hv, hx, hS⟩, by show p0.size ≤ _; omega, by show p1.size ≤ _; omega⟩
    subst h1
    refine ⟨L, ⟨some a, m, rfl, ⟨hl, fun e => by cases e⟩, fun i r hr => ?_⟩, fun s hs => ?_⟩
    · obtain ⟨⟨sv, q0, q1, q2, q3⟩, _⟩ := h2 i r hr
      have hpos : 0 < L.length := by have := (List.getElem?_eq_some_iff.1 hr).1; omega
      obtain ⟨⟨_, k0, _⟩, _⟩ := h2 0 L[0] (List.getElem?_eq_getElem hpos)
      obtain ⟨b, off, spot⟩ := a
      have hspot : spot = none := by simpa [Addr.add] using World.cell?_spot k0
      subst hspot
      rw [Addr.add_lit, Addr.add_lit] at q0 q1 q2
      exact ⟨b, off, sv, rfl, q0, q1, q2, q3⟩
    · obtain ⟨i, hi, e⟩ := List.getElem_of_mem hs
      exact (h2 i s (by rw [List.getElem?_eq_getElem hi, e])).2
set_option maxRecDepth 100000 in
/-- A flow, opened. -/
theorem open_flow {H : Type} {enc : TypeId × Value → H} {W : World} {r : Reach} {base : Nat} {v : Value} {d : DataW H} {ps : List MemPlace} (hv : Value.okWide Tryz.prog W r base 25 v) (h : DataW.Trod enc Tryz.prog W 0 (fun _ => true) true 25 v d ps) :
    ∃ F, flV W v F ∧ FlN F := by
  obtain ⟨c0, c1, c2, y0, y1, y2, m, rfl, _, _, hy0, hy1, hy2⟩ := open_agg3 Tryz.underlying25 (by kernel_rfl) cFl hv h
  obtain ⟨nm, e0, _, s0⟩ := DataW.trod_string Tryz.underlying9 hy0
  obtain ⟨Ls, rs, bs⟩ := open_steps hy1
  obtain ⟨Lr, rr⟩ := open_rules hy2
  simp at e0
  subst e0
  simp only [maxLen] at s0
  exact ⟨⟨nm, Ls, Lr⟩, ⟨c1, c2, rfl, rs, rr⟩, ⟨by show nm.size ≤ _; omega, bs⟩⟩
theorem struct6 {H : Type} {enc : TypeId × Value → H} {P : Program} {w : World} {base : Nat} {spare : Nat → Bool} {held : Bool} {t : TypeId} {f0 f1 f2 f3 f4 f5 : Field} {fuel : Nat} {cs : List Value} {x : DataW H × List MemPlace} (ht : P.underlying t = some (.struct #[f0, f1, f2, f3, f4, f5])) (h : DataW.trod enc P w base spare held fuel t cs = some x) :
    ∃ y0 y1 y2 y3 y4 y5 n, DataW.trod enc P w base spare held n f0.type ((cs.drop f0.offset).take (P.cellsOf f0.type)) = some y0 ∧
      DataW.trod enc P w base spare held n f1.type ((cs.drop f1.offset).take (P.cellsOf f1.type)) = some y1 ∧ DataW.trod enc P w base spare held n f2.type ((cs.drop f2.offset).take (P.cellsOf f2.type)) = some y2 ∧
      DataW.trod enc P w base spare held n f3.type ((cs.drop f3.offset).take (P.cellsOf f3.type)) = some y3 ∧ DataW.trod enc P w base spare held n f4.type ((cs.drop f4.offset).take (P.cellsOf f4.type)) = some y4 ∧
      DataW.trod enc P w base spare held n f5.type ((cs.drop f5.offset).take (P.cellsOf f5.type)) = some y5 := by
  obtain ⟨xs, n, _, rfl, hl, hlen, hf⟩ := DataW.trod_struct ht h
  match xs, hlen with
  | [y0, y1, y2, y3, y4, y5], _ => exact ⟨y0, y1, y2, y3, y4, y5, n, by simpa using hf 0 f0 rfl, by simpa using hf 1 f1 rfl, by simpa using hf 2 f2 rfl, by simpa using hf 3 f3 rfl, by simpa using hf 4 f4 rfl, by simpa using hf 5 f5 rfl⟩
theorem cells6 {W : World} {a : Addr} {cs : List Value} (h : W.cells? 0 a 6 = some cs) : ∃ u v x y z t, W.cell? (a.add 0) = some u ∧ W.cell? (a.add 1) = some v ∧ W.cell? (a.add 2) = some x ∧ W.cell? (a.add 3) = some y ∧ W.cell? (a.add 4) = some z ∧ W.cell? (a.add 5) = some t ∧ cs = [u, v, x, y, z, t] := by
  unfold World.cells? at h
  rw [if_pos (Nat.zero_le _), show List.range 6 = [0, 1, 2, 3, 4, 5] from rfl] at h
  simp only [List.mapM_cons, List.mapM_nil] at h
  cases h0 : W.cell? (a.add 0) with
  | none => rw [h0] at h; cases h
  | some u =>
    cases h1 : W.cell? (a.add 1) with
    | none => rw [h0, h1] at h; cases h
    | some v =>
      cases h2 : W.cell? (a.add 2) with
      | none => rw [h0, h1, h2] at h; cases h
      | some x =>
        cases h3 : W.cell? (a.add 3) with
        | none => rw [h0, h1, h2, h3] at h; cases h
        | some y =>
          cases h4 : W.cell? (a.add 4) with
          | none => rw [h0, h1, h2, h3, h4] at h; cases h
          | some z =>
            cases h5 : W.cell? (a.add 5) with
            | none => rw [h0, h1, h2, h3, h4, h5] at h; cases h
            | some t => rw [h0, h1, h2, h3, h4, h5] at h; cases h; exact ⟨u, v, x, y, z, t, rfl, rfl, rfl, rfl, rfl, rfl, rfl⟩
/-- The calls, opened. -/
theorem open_ops {H : Type} {enc : TypeId × Value → H} {W : World} {a0 : Option Addr} {ln cap : Nat} {d : DataW H} {ps : List MemPlace} (h : DataW.Trod enc Tryz.prog W 0 (fun _ => true) true 67 (.slice a0 ln cap) d ps) : ∃ L, RowQ W (.slice a0 ln cap) L := by
  obtain ⟨fuel, hf⟩ := h
  rcases Deep.open_slice Tryz.underlying67 hf with ⟨hcs, _⟩ | ⟨a, len, cap', m, k, D, Pl, hcs, _, hl, hcm, hm, hx, hel⟩
  · simp [Value.cells] at hcs
    obtain ⟨rfl, rfl, rfl⟩ := hcs
    exact ⟨[], none, 0, rfl, ⟨Nat.le_refl _, fun _ => rfl⟩, fun i p h => by cases h⟩
  · simp [Value.cells] at hcs
    obtain ⟨rfl, rfl, rfl⟩ := hcs
    simp only [if_true] at hm
    subst hm
    rw [cOp] at hel
    obtain ⟨L, h1, h2⟩ := list_of (p := fun i (t : Oq) => (W.cell? ((a.add (i * 6)).add 0) = some (.int .i64 t.on) ∧ W.cell? ((a.add (i * 6)).add 1) = some (.int .i64 t.op) ∧ W.cell? ((a.add (i * 6)).add 2) = some (.int .i64 t.step) ∧ W.cell? ((a.add (i * 6)).add 3) = some (.int .i64 t.user) ∧ W.cell? ((a.add (i * 6)).add 4) = some (.int .i64 t.tick) ∧ W.cell? ((a.add (i * 6)).add 5) = some (.bool t.stuck))) ln fun i hi => by
      obtain ⟨cs', h1, h2⟩ := hel i (by omega)
      obtain ⟨u, v, x, y, z, t, hu, hv, hx, hy, hz, ht, rfl⟩ := cells6 h1
      obtain ⟨z0, z1, z2, z3, z4, z5, n, q0, q1, q2, q3, q4, q5⟩ := struct6 Tryz.underlying70 h2
      obtain ⟨p0, e0, _, _⟩ := DataW.trod_int (x := z0) Tryz.underlying3 (by simpa [cI] using q0)
      obtain ⟨p1, e1, _, _⟩ := DataW.trod_int (x := z1) Tryz.underlying3 (by simpa [cI] using q1)
      obtain ⟨p2, e2, _, _⟩ := DataW.trod_int (x := z2) Tryz.underlying3 (by simpa [cI] using q2)
      obtain ⟨p3, e3, _, _⟩ := DataW.trod_int (x := z3) Tryz.underlying3 (by simpa [cI] using q3)
      obtain ⟨p4, e4, _, _⟩ := DataW.trod_int (x := z4) Tryz.underlying3 (by simpa [cI] using q4)
      obtain ⟨p5, e5, _⟩ := DataW.trod_bool (x := z5) Tryz.underlying4 (by simpa [cB] using q5)
      simp at e0 e1 e2 e3 e4 e5
      subst e0 e1 e2 e3 e4 e5
      exact ⟨⟨p0, p1, p2, p3, p4, p5⟩, hu, hv, hx, hy, hz, ht⟩
    subst h1
    refine ⟨L, some a, m, rfl, ⟨hl, fun e => by cases e⟩, fun i r hr => ?_⟩
    obtain ⟨q0, q1, q2, q3, q4, q5⟩ := h2 i r hr
    have hpos : 0 < L.length := by have := (List.getElem?_eq_some_iff.1 hr).1; omega
    obtain ⟨k0, _⟩ := h2 0 L[0] (List.getElem?_eq_getElem hpos)
    obtain ⟨b, off, spot⟩ := a
    have hspot : spot = none := by simpa [Addr.add] using World.cell?_spot k0
    subst hspot
    rw [Addr.add_lit, Addr.add_lit] at q0 q1 q2 q3 q4 q5
    exact ⟨b, off, rfl, q0, q1, q2, q3, q4, q5⟩
end Go.Proofs.YtahfobbiaimoiaaGreatDoor
