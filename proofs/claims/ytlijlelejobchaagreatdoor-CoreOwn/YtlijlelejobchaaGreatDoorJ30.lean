/- A problem that is handed in, opened. -/
import Derived.Test.YtlijlelejobchaaGreatDoorJ27
import Derived.Test.YtlijlelejobchaaGreatDoorJ29
namespace Go.Proofs.YtlijlelejobchaaGreatDoor.S
open Go.ChangeShapes Go.WideShapes Go.ChangeAt Go.RowKit Go.Joins
theorem cL : Tryz.prog.cellsOf 23 = 1 := by kernel_rfl
theorem cR : Tryz.prog.cellsOf 44 = 3 := by kernel_rfl
theorem cPb : Tryz.prog.cellsOf 26 = 4 := by kernel_rfl
/-- What a field's row holds, as the walks ask it. -/
theorem row_of_cell {H : Type} {enc : TypeId × Value → H} {W : World} {v : Value} {y : DataW H × List MemPlace} {fuel : Nat} (hf : DataW.trod enc Tryz.prog W 0 (fun _ => true) true fuel 23 [v] = some y) :
    ∃ L, RowI W v L ∧ ∀ z ∈ L, (Lit.int .i64 z).wf = true := by
  obtain ⟨d, ps⟩ := y
  rcases open_ints Tryz.underlying23 Tryz.underlying3 cI hf with ⟨hcs, _⟩ | ⟨a, len', cap', zs, hcs, _, hl, hm, hz, _, hcell, hwz⟩
  · simp only [List.cons.injEq, and_true] at hcs
    subst hcs
    exact ⟨[], ⟨none, 0, rfl, ⟨Nat.le_refl _, fun _ => rfl⟩, fun i z h => by cases h⟩, fun z h => by cases h⟩
  · simp only [List.cons.injEq, and_true] at hcs
    subst hcs
    simp only [if_true] at hz
    refine ⟨zs.take len', ⟨some a, cap', by rw [List.length_take]; congr 1; omega, ⟨by rw [List.length_take]; omega, fun e => by cases e⟩, fun i z hi => ?_⟩, fun z h => hwz z (List.mem_of_mem_take h)⟩
    obtain ⟨hlt, _⟩ := List.getElem?_eq_some_iff.1 hi
    rw [List.length_take] at hlt
    rw [List.getElem?_take_of_lt (by omega)] at hi
    have hc := hcell i (by omega)
    have hg : zs.getD i 0 = z := by rw [List.getD_eq_getElem?_getD, hi]; rfl
    rw [hg] at hc
    obtain ⟨b, off, spot⟩ := a
    have hspot : spot = none := by simpa [Addr.add] using World.cell?_spot (hcell 0 (by omega))
    subst hspot
    exact ⟨b, off, rfl, by rw [← Addr.add_lit]; exact hc⟩
theorem list_of {α : Type} {p : Nat → α → Prop} : ∀ n, (∀ i, i < n → ∃ r, p i r) → ∃ L : List α, L.length = n ∧ ∀ i r, L[i]? = some r → p i r
  | 0, _ => ⟨[], rfl, fun i r h => by cases h⟩
  | n + 1, h => by
    obtain ⟨L, h1, h2⟩ := list_of n fun i hi => h i (by omega)
    obtain ⟨r, hr⟩ := h n (by omega)
    refine ⟨L ++ [r], by simp [h1], fun i q hq => ?_⟩
    rw [List.getElem?_append] at hq
    split at hq
    · exact h2 i q hq
    · rename_i hlt
      have hi : i < (L ++ [r]).length := by
        rcases Nat.lt_or_ge i (L ++ [r]).length with h' | h'
        · exact h'
        · rw [List.getElem?_eq_none (by simp at h' ⊢; omega)] at hq; cases hq
      have : i = n := by simp at hi; omega
      subst this
      rw [h1, Nat.sub_self] at hq
      cases hq
      exact hr
theorem cells3 {W : World} {a : Addr} {cs : List Value} (h : W.cells? 0 a 3 = some cs) : ∃ u v x, W.cell? (a.add 0) = some u ∧ W.cell? (a.add 1) = some v ∧ W.cell? (a.add 2) = some x ∧ cs = [u, v, x] := by
  unfold World.cells? at h
  rw [if_pos (Nat.zero_le _), show List.range 3 = [0, 1, 2] from rfl] at h
  simp only [List.mapM_cons, List.mapM_nil] at h
  cases h0 : W.cell? (a.add 0) with
  | none => rw [h0] at h; cases h
  | some u =>
    cases h1 : W.cell? (a.add 1) with
    | none => rw [h0, h1] at h; cases h
    | some v =>
      cases h2 : W.cell? (a.add 2) with
      | none => rw [h0, h1, h2] at h; cases h
      | some x => rw [h0, h1, h2] at h; cases h; exact ⟨u, v, x, rfl, rfl, rfl, rfl⟩
/-- The rules, opened. -/
theorem open_rules {H : Type} {enc : TypeId × Value → H} {W : World} {v : Value} {y : DataW H × List MemPlace} {fuel : Nat} (hf : DataW.trod enc Tryz.prog W 0 (fun _ => true) true fuel 24 [v] = some y) : ∃ L, RowR W v L := by
  rcases Deep.open_slice Tryz.underlying24 hf with ⟨hcs, _⟩ | ⟨a, len, cap, m, k, D, Pl, hcs, _, hl, _, hm, hx, hel⟩
  · simp only [List.cons.injEq, and_true] at hcs
    subst hcs
    exact ⟨[], none, 0, rfl, ⟨Nat.le_refl _, fun _ => rfl⟩, fun i p h => by cases h⟩
  · simp only [List.cons.injEq, and_true] at hcs
    subst hcs
    simp only [if_true] at hm
    subst hm
    rw [cR] at hel
    obtain ⟨L, h1, h2⟩ := list_of (p := fun i (r : Rl) => ∃ sv, W.cell? ((a.add (i * 3)).add 0) = some (.int .i64 r.kind) ∧ W.cell? ((a.add (i * 3)).add 1) = some (.int .i64 r.k) ∧ W.cell? ((a.add (i * 3)).add 2) = some sv ∧ RowI W sv r.steps) len fun i hi => by
      obtain ⟨cs', h1, h2⟩ := hel i (by omega)
      obtain ⟨u, v, x, hu, hv, hx, rfl⟩ := cells3 h1
      obtain ⟨z0, z1, z2, n, _, _, q0, q1, q2⟩ := Deep.trod_struct3 Tryz.underlying44 h2
      obtain ⟨p0, e0, _, _⟩ := DataW.trod_int (x := z0) Tryz.underlying3 (by simpa [cI] using q0)
      obtain ⟨p1, e1, _, _⟩ := DataW.trod_int (x := z1) Tryz.underlying3 (by simpa [cI] using q1)
      obtain ⟨S, hS, _⟩ := row_of_cell (v := x) (y := z2) (by simpa [cL] using q2)
      simp at e0 e1
      subst e0 e1
      exact ⟨⟨p0, p1, S⟩, x, hu, hv, hx, hS⟩
    subst h1
    refine ⟨L, some a, m, rfl, ⟨hl, fun e => by cases e⟩, fun i r hr => ?_⟩
    obtain ⟨sv, q0, q1, q2, q3⟩ := h2 i r hr
    have hpos : 0 < L.length := by have := (List.getElem?_eq_some_iff.1 hr).1; omega
    obtain ⟨_, k0, _⟩ := h2 0 L[0] (List.getElem?_eq_getElem hpos)
    obtain ⟨b, off, spot⟩ := a
    have hspot : spot = none := by simpa [Addr.add] using World.cell?_spot k0
    subst hspot
    rw [Addr.add_lit, Addr.add_lit] at q0 q1 q2
    exact ⟨b, off, sv, rfl, q0, q1, q2, q3⟩
theorem cU : Tryz.prog.cellsOf 55 = 1 := by kernel_rfl
theorem bounds_u64 {z : Int} (h : (Lit.int .u64 z).wf = true) : 0 ≤ z ∧ z < 18446744073709551616 := by
  simp only [Lit.wf, IntKind.min, IntKind.max, IntKind.bits, IntKind.signed] at h
  simp at h
  omega
theorem rowW_of_cell {H : Type} {enc : TypeId × Value → H} {W : World} {v : Value} {y : DataW H × List MemPlace} {fuel : Nat} (hf : DataW.trod enc Tryz.prog W 0 (fun _ => true) true fuel 22 [v] = some y) :
    ∃ L : List Nat, RowW W v L ∧ ∀ z ∈ L, z < 18446744073709551616 := by
  obtain ⟨d, ps⟩ := y
  rcases open_ints Tryz.underlying22 Tryz.underlying55 cU hf with ⟨hcs, _⟩ | ⟨a, len', cap', zs, hcs, _, hl, hm, hz, _, hcell, hwz⟩
  · simp only [List.cons.injEq, and_true] at hcs
    subst hcs
    exact ⟨[], ⟨none, 0, rfl, ⟨Nat.le_refl _, fun _ => rfl⟩, fun i z h => by cases h⟩, fun z h => by cases h⟩
  · simp only [List.cons.injEq, and_true] at hcs
    subst hcs
    simp only [if_true] at hz
    have hb : ∀ z ∈ zs, 0 ≤ z ∧ z < 18446744073709551616 := fun z hz => bounds_u64 (hwz z hz)
    refine ⟨(zs.take len').map Int.toNat, ⟨some a, cap', by rw [List.length_map, List.length_take]; congr 1; omega, ⟨by rw [List.length_map, List.length_take]; omega, fun e => by cases e⟩, fun i z hi => ?_⟩, fun z h => ?_⟩
    · rw [List.getElem?_map] at hi
      cases hq : (zs.take len')[i]? with
      | none => rw [hq] at hi; cases hi
      | some y =>
        rw [hq] at hi
        cases hi
        obtain ⟨hlt, _⟩ := List.getElem?_eq_some_iff.1 hq
        rw [List.length_take] at hlt
        rw [List.getElem?_take_of_lt (by omega)] at hq
        have hy := hb y (List.mem_of_getElem? hq)
        have hc := hcell i (by omega)
        have hg : zs.getD i 0 = y := by rw [List.getD_eq_getElem?_getD, hq]; rfl
        rw [hg] at hc
        obtain ⟨b, off, spot⟩ := a
        have hspot : spot = none := by simpa [Addr.add] using World.cell?_spot (hcell 0 (by omega))
        subst hspot
        exact ⟨b, off, rfl, by rw [← Addr.add_lit, Int.toNat_of_nonneg hy.1]; exact hc⟩
    · obtain ⟨y, hy, rfl⟩ := List.mem_map.1 h
      have := hb y (List.mem_of_mem_take hy)
      omega
set_option maxRecDepth 100000 in
/-- A problem, opened. -/
theorem open_pb {H : Type} {enc : TypeId × Value → H} {W : World} {r : Reach} {base : Nat} {v : Value} {d : DataW H} {ps : List MemPlace} (hv : Value.okWide Tryz.prog W r base 26 v) (h : DataW.Trod enc Tryz.prog W 0 (fun _ => true) true 26 v d ps) :
    ∃ P wv fv rv, v = pbV P wv fv rv ∧ PbV W P wv fv rv ∧ ∀ z ∈ P.who, z < 18446744073709551616 := by
  obtain ⟨c0, c1, c2, c3, y0, y1, y2, y3, m, rfl, _, _, hy0, hy1, hy2, hy3⟩ := open_agg4 Tryz.underlying26 (by kernel_rfl) cPb hv h
  obtain ⟨n, e0, _, _⟩ := DataW.trod_int Tryz.underlying3 hy0
  obtain ⟨Lw, rw1, bw⟩ := rowW_of_cell hy1
  obtain ⟨Lf, rf, _⟩ := row_of_cell hy2
  obtain ⟨Lr, rr⟩ := open_rules hy3
  simp at e0
  subst e0
  exact ⟨⟨n, Lw, Lf, Lr⟩, c1, c2, c3, rfl, ⟨rw1, rf, rr⟩, bw⟩
end Go.Proofs.YtlijlelejobchaaGreatDoor.S
