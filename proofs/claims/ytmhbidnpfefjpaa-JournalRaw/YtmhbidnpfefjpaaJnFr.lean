/- What happens and records that are handed in, opened. -/
import Derived.Test.YtmhbidnpfefjpaaJnY
import Derived.ChangeSlices
import Derived.ProofKit
import Derived.OpenShut
import Derived.Carry
import Derived.JoinedOf
import Derived.Lib.SmallJoins
import Derived.Deep.Slices
namespace Go.Proofs.Ytmhbidnpfefjpaa
open Go.ChangeShapes Go.WideShapes Go.ChangeAt Go.RowKit Go.Joins
theorem own : ownKnob Try.prog.godebug = none := by kernel_rfl
theorem laidOut : laidOutB Try.prog = true := by kernel_rfl
theorem cI : Try.prog.cellsOf 3 = 1 := by kernel_rfl
theorem cB8 : Try.prog.cellsOf 5 = 1 := by kernel_rfl
theorem cBs : Try.prog.cellsOf 34 = 1 := by kernel_rfl
theorem cOp : Try.prog.cellsOf 36 = 3 := by kernel_rfl
theorem struct3 {H : Type} {enc : TypeId × Value → H} {P : Program} {w : World} {base : Nat} {spare : Nat → Bool} {held : Bool} {t : TypeId} {f0 f1 f2 : Field} {fuel : Nat} {cs : List Value} {x : DataW H × List MemPlace} (ht : P.underlying t = some (.struct #[f0, f1, f2])) (h : DataW.trod enc P w base spare held fuel t cs = some x) :
    ∃ y0 y1 y2 n, DataW.trod enc P w base spare held n f0.type ((cs.drop f0.offset).take (P.cellsOf f0.type)) = some y0 ∧
      DataW.trod enc P w base spare held n f1.type ((cs.drop f1.offset).take (P.cellsOf f1.type)) = some y1 ∧ DataW.trod enc P w base spare held n f2.type ((cs.drop f2.offset).take (P.cellsOf f2.type)) = some y2 := by
  obtain ⟨xs, n, _, rfl, hl, hlen, hf⟩ := DataW.trod_struct ht h
  match xs, hlen with
  | [y0, y1, y2], _ => exact ⟨y0, y1, y2, n, by simpa using hf 0 f0 rfl, by simpa using hf 1 f1 rfl, by simpa using hf 2 f2 rfl⟩
theorem list_of {α : Type} {p : Nat → α → Prop} : ∀ n, (∀ i, i < n → ∃ r, p i r) → ∃ L : List α, L.length = n ∧ ∀ i r, L[i]? = some r → p i r
  | 0, _ => ⟨[], rfl, fun i r h => by cases h⟩
  | n + 1, h => by
    obtain ⟨L, h1, h2⟩ := list_of n fun i hi => h i (by omega)
    obtain ⟨r, hr⟩ := h n (by omega)
    refine ⟨L ++ [r], by simp [h1], fun i q hq => ?_⟩
    rw [List.getElem?_append] at hq
    split at hq
    · exact h2 i q hq
    · rename_i hlt
      have hi : i < (L ++ [r]).length := by
        rcases Nat.lt_or_ge i (L ++ [r]).length with h' | h'
        · exact h'
        · rw [List.getElem?_eq_none (by simp at h' ⊢; omega)] at hq; cases hq
      have : i = n := by simp at hi; omega
      subst this
      rw [h1, Nat.sub_self] at hq
      cases hq
      exact hr
theorem cells1 {W : World} {a : Addr} {cs : List Value} (h : W.cells? 0 a 1 = some cs) : ∃ u, W.cell? (a.add 0) = some u ∧ cs = [u] := by
  unfold World.cells? at h
  rw [if_pos (Nat.zero_le _), show List.range 1 = [0] from rfl] at h
  simp only [List.mapM_cons, List.mapM_nil] at h
  cases h0 : W.cell? (a.add 0) with
  | none => rw [h0] at h; cases h
  | some u => rw [h0] at h; cases h; exact ⟨u, rfl, rfl⟩
theorem cells3 {W : World} {a : Addr} {cs : List Value} (h : W.cells? 0 a 3 = some cs) : ∃ u v x, W.cell? (a.add 0) = some u ∧ W.cell? (a.add 1) = some v ∧ W.cell? (a.add 2) = some x ∧ cs = [u, v, x] := by
  unfold World.cells? at h
  rw [if_pos (Nat.zero_le _), show List.range 3 = [0, 1, 2] from rfl] at h
  simp only [List.mapM_cons, List.mapM_nil] at h
  cases h0 : W.cell? (a.add 0) with
  | none => rw [h0] at h; cases h
  | some u =>
    cases h1 : W.cell? (a.add 1) with
    | none => rw [h0, h1] at h; cases h
    | some v =>
      cases h2 : W.cell? (a.add 2) with
      | none => rw [h0, h1, h2] at h; cases h
      | some x => rw [h0, h1, h2] at h; cases h; exact ⟨u, v, x, rfl, rfl, rfl, rfl⟩
theorem bounds_u8 {z : Int} (h : (Lit.int .u8 z).wf = true) : 0 ≤ z ∧ z < 256 := by
  simp only [Lit.wf, IntKind.min, IntKind.max, IntKind.bits, IntKind.signed] at h
  simp at h
  omega
theorem bounds_i64 {z : Int} (h : (Lit.int .i64 z).wf = true) : -9223372036854775808 ≤ z ∧ z < 9223372036854775808 := by
  simp only [Lit.wf, IntKind.min, IntKind.max, IntKind.bits, IntKind.signed] at h
  simp at h
  omega
/-- Bytes of a field, opened. -/
theorem bytes_of_cell {H : Type} {enc : TypeId × Value → H} {W : World} {v : Value} {y : DataW H × List MemPlace} {fuel : Nat} (hf : DataW.trod enc Try.prog W 0 (fun _ => true) true fuel 34 [v] = some y) :
    ∃ L : List Nat, RowC W v L ∧ B256 L := by
  obtain ⟨d, ps⟩ := y
  rcases open_ints Try.underlying34 Try.underlying5 cB8 hf with ⟨hcs, _⟩ | ⟨a, len, cap, zs, hcs, _, hl, hm, hz, _, hcell, hwz⟩
  · simp only [List.cons.injEq, and_true] at hcs
    subst hcs
    exact ⟨[], ⟨none, 0, rfl, ⟨Nat.le_refl _, fun _ => rfl⟩, fun i z h => by cases h⟩, fun z h => by cases h⟩
  · simp only [List.cons.injEq, and_true] at hcs
    subst hcs
    simp only [if_true] at hz
    have hb : ∀ z ∈ zs, 0 ≤ z ∧ z < 256 := fun z hz => bounds_u8 (hwz z hz)
    refine ⟨(zs.take len).map Int.toNat, ⟨some a, cap, by rw [List.length_map, List.length_take]; congr 1; omega, ⟨by rw [List.length_map, List.length_take]; omega, fun e => by cases e⟩, fun i z hi => ?_⟩, fun z hz => by
      obtain ⟨y, hy, rfl⟩ := List.mem_map.1 hz
      have := hb y (List.mem_of_mem_take hy)
      omega⟩
    rw [List.getElem?_map] at hi
    cases hq : (zs.take len)[i]? with
    | none => rw [hq] at hi; cases hi
    | some y =>
      rw [hq] at hi
      cases hi
      obtain ⟨hlt, _⟩ := List.getElem?_eq_some_iff.1 hq
      rw [List.length_take] at hlt
      rw [List.getElem?_take_of_lt (by omega)] at hq
      have hy := hb y (List.mem_of_getElem? hq)
      have hc := hcell i (by omega)
      have hg : zs.getD i 0 = y := by rw [List.getD_eq_getElem?_getD, hq]; rfl
      rw [hg] at hc
      obtain ⟨b, off, spot⟩ := a
      have hspot : spot = none := by simpa [Addr.add] using World.cell?_spot (hcell 0 (by omega))
      subst hspot
      exact ⟨b, off, rfl, by rw [← Addr.add_lit, Int.toNat_of_nonneg hy.1]; exact hc⟩
theorem bytes_of_arg {H : Type} {enc : TypeId × Value → H} {W : World} {a0 : Option Addr} {len cap : Nat} {d : DataW H} {ps : List MemPlace} (h : DataW.Trod enc Try.prog W 0 (fun _ => true) true 34 (.slice a0 len cap) d ps) : ∃ L : List Nat, RowC W (.slice a0 len cap) L ∧ B256 L := by
  obtain ⟨fuel, hf⟩ := h
  exact bytes_of_cell (y := (d, ps)) hf
/-- What happens, opened. -/
theorem open_ops {H : Type} {enc : TypeId × Value → H} {W : World} {a0 : Option Addr} {ln cap : Nat} {d : DataW H} {ps : List MemPlace} (h : DataW.Trod enc Try.prog W 0 (fun _ => true) true 22 (.slice a0 ln cap) d ps) : ∃ L, RowP W (.slice a0 ln cap) L := by
  obtain ⟨fuel, hf⟩ := h
  rcases Deep.open_slice Try.underlying22 hf with ⟨hcs, _⟩ | ⟨a, len, cap', m, k, D, Pl, hcs, _, hl, _, hm, hx, hel⟩
  · simp only [Value.cells, List.cons.injEq, and_true] at hcs
    simp at hcs
    obtain ⟨rfl, rfl, rfl⟩ := hcs
    exact ⟨[], ⟨none, 0, rfl, ⟨Nat.le_refl _, fun _ => rfl⟩, fun i p h => by cases h⟩⟩
  · simp [Value.cells] at hcs
    obtain ⟨rfl, rfl, rfl⟩ := hcs
    simp only [if_true] at hm
    subst hm
    rw [cOp] at hel
    obtain ⟨L, h1, h2⟩ := list_of (p := fun i (r : Oj) => ∃ sv, W.cell? ((a.add (i * 3)).add 0) = some (.int .i64 r.d) ∧ W.cell? ((a.add (i * 3)).add 1) = some (.int .i64 r.n) ∧ W.cell? ((a.add (i * 3)).add 2) = some sv ∧ RowC W sv r.data ∧ (B256 r.data ∧ r.n < 9223372036854775808)) ln fun i hi => by
      obtain ⟨cs', h1, h2⟩ := hel i (by omega)
      obtain ⟨u, v, y, hu, hv, hy, rfl⟩ := cells3 h1
      obtain ⟨z0, z1, z2, n, q0, q1, q2⟩ := struct3 Try.underlying36 h2
      obtain ⟨p0, e0, _, _⟩ := DataW.trod_int (x := z0) Try.underlying3 (by simpa [cI] using q0)
      obtain ⟨p1, e1, _, wf1⟩ := DataW.trod_int (x := z1) Try.underlying3 (by simpa [cI] using q1)
      obtain ⟨S, hS, hS2⟩ := bytes_of_cell (v := y) (y := z2) (by simpa [cBs] using q2)
      simp at e0 e1
      subst e0 e1
      exact ⟨⟨p0, p1, S⟩, y, hu, hv, hy, hS, hS2, (bounds_i64 wf1).2⟩
    subst h1
    refine ⟨L, ⟨some a, _, rfl, ⟨hl, fun e => by cases e⟩, fun i r hr => ?_⟩⟩
    obtain ⟨sv, q0, q1, q2, q3, q4⟩ := h2 i r hr
    have hpos : 0 < L.length := by have := (List.getElem?_eq_some_iff.1 hr).1; omega
    obtain ⟨_, k0, _⟩ := h2 0 L[0] (List.getElem?_eq_getElem hpos)
    obtain ⟨b, off, spot⟩ := a
    have hspot : spot = none := by simpa [Addr.add] using World.cell?_spot k0
    subst hspot
    rw [Addr.add_lit, Addr.add_lit] at q0 q1 q2
    exact ⟨b, off, sv, rfl, q0, q1, q2, q3, q4⟩
/-- Records, opened. -/
theorem open_recs {H : Type} {enc : TypeId × Value → H} {W : World} {a0 : Option Addr} {ln cap : Nat} {d : DataW H} {ps : List MemPlace} (h : DataW.Trod enc Try.prog W 0 (fun _ => true) true 44 (.slice a0 ln cap) d ps) : ∃ L, RowR W (.slice a0 ln cap) L ∧ ∀ r ∈ L, B256 r := by
  obtain ⟨fuel, hf⟩ := h
  rcases Deep.open_slice Try.underlying44 hf with ⟨hcs, _⟩ | ⟨a, len, cap', m, k, D, Pl, hcs, _, hl, _, hm, hx, hel⟩
  · simp only [Value.cells, List.cons.injEq, and_true] at hcs
    simp at hcs
    obtain ⟨rfl, rfl, rfl⟩ := hcs
    exact ⟨[], ⟨none, 0, rfl, fun i p h => by cases h⟩, fun r h => by cases h⟩
  · simp [Value.cells] at hcs
    obtain ⟨rfl, rfl, rfl⟩ := hcs
    simp only [if_true] at hm
    subst hm
    rw [cBs] at hel
    obtain ⟨L, h1, h2⟩ := list_of (p := fun i (r : List Nat) => ∃ sv, W.cell? ((a.add (i * 1)).add 0) = some sv ∧ RowC W sv r ∧ B256 r) ln fun i hi => by
      obtain ⟨cs', h1, h2⟩ := hel i (by omega)
      obtain ⟨u, hu, rfl⟩ := cells1 h1
      obtain ⟨S, hS, hw⟩ := bytes_of_cell h2
      exact ⟨S, u, hu, hS, hw⟩
    subst h1
    refine ⟨L, ⟨some a, _, rfl, fun i r hr => ?_⟩, fun r hr => ?_⟩
    · obtain ⟨sv, q0, q1, _⟩ := h2 i r hr
      have hpos : 0 < L.length := by have := (List.getElem?_eq_some_iff.1 hr).1; omega
      obtain ⟨_, k0, _⟩ := h2 0 L[0] (List.getElem?_eq_getElem hpos)
      obtain ⟨b, off, spot⟩ := a
      have hspot : spot = none := by simpa [Addr.add] using World.cell?_spot k0
      subst hspot
      rw [Addr.add_lit, Addr.add_lit, Nat.mul_one, Nat.add_zero] at q0
      exact ⟨b, off, sv, rfl, q0, q1⟩
    · obtain ⟨i, hi⟩ := List.getElem?_of_mem hr
      obtain ⟨_, _, _, hw⟩ := h2 i r hi
      exact hw
end Go.Proofs.Ytmhbidnpfefjpaa
