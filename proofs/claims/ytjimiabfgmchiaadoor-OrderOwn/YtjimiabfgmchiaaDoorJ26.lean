/- What the listed table gives the walks; what is asked of an order, opened. -/
import Derived.Test.YtjimiabfgmchiaaDoorJ25
import Derived.Test.YtjimiabfgmchiaaDoorRows
import Derived.ProofKit
import Derived.LaidMore
import Derived.Stop.Joined
import Derived.Stop.LaidErr
import Derived.Lib.LaidTab
import Derived.Lib.SmallJoins
import Derived.OpenShut
import Derived.ChangeSlices
import Derived.Carry
import Derived.SizedLaws
import Derived.Deep.Slices
namespace Go.Proofs.YtjimiabfgmchiaaDoor
open Go.ChangeShapes Go.WideShapes Go.ChangeAt Go.RowKit Go.Joins
theorem own : ownKnob Tryd.prog.godebug = none := by kernel_rfl
theorem laidOut : laidOutB Tryd.prog = true := by kernel_rfl
def laid1 : List (String × DataW Unit) := [("math/bits.deBruijn64tab", Rows.laid_math_bits_deBruijn64tab)]
theorem door_met (os : Os) (args : Array Value) : laidMetH Tryd.prog laid1 ((World.doorLaid Tryd.prog 24 os).forCall (fun _ _ => 0) ⟨#[], args, []⟩).memory :=
  laidMetH_of_parts3 (fuel := 8) (laidMet_of_run' 8 (by kernel_rfl) (by kernel_rfl)) (by kernel_rfl) (by kernel_rfl)
theorem g64 : Tryd.prog.globalNamed "math/bits.deBruijn64tab" = some 0 := by kernel_rfl
theorem t64 : (Tryd.prog.globals[0]?).map (·.type) = some 107 := by kernel_rfl
theorem ce5 : Tryd.prog.cellsOf 5 = 1 := by kernel_rfl
theorem ct64 : Tryd.prog.cellsOf 107 = 64 := by kernel_rfl
theorem tab_eq {H : Type} : (Rows.laid_math_bits_deBruijn64tab : DataW H) = Lib.tabData .u8 (dbTab.map Int.ofNat) := rfl
theorem tab_get : ∀ i : Fin 64, (dbTab.map Int.ofNat).getD i.val 0 = ((dbTab.getD i.val 0 : Nat) : Int) := by decide +kernel
/-- From the row's condition to what the walks ask. -/
theorem tab_of_laid {W : World} (h : laidMetH Tryd.prog laid1 W) : Tab W := by
  rw [MakeChecks.laidMetH_plain _ _ _ (by kernel_rfl)] at h
  have h2 := h
  unfold laid1 at h2
  rw [tab_eq] at h2
  have hT := Lib.tabIs_of_head g64 t64 Tryd.underlying107 Tryd.underlying5 ce5 ct64 h2
  have hc : ∀ i : Nat, i < 64 → W.cell? ⟨0, i, none⟩ = some (.int .u8 (dbTab.getD i 0 : Nat)) := fun i hi => by
    have := hT.cell g64 i (by rw [List.length_map]; exact hi)
    rw [this, tab_get ⟨i, hi⟩]
  exact ⟨hc, cell_lt (hc 0 (by omega))⟩
theorem array7 {α : Type} {cs : Array α} (h : cs.size = 7) : ∃ c0 c1 c2 c3 c4 c5 c6, cs = #[c0, c1, c2, c3, c4, c5, c6] := by
  obtain ⟨l⟩ := cs
  match l, h with
  | [c0, c1, c2, c3, c4, c5, c6], _ => exact ⟨c0, c1, c2, c3, c4, c5, c6, rfl⟩
theorem cA : Tryd.prog.cellsOf 26 = 7 := by kernel_rfl
theorem cI : Tryd.prog.cellsOf 3 = 1 := by kernel_rfl
theorem cP : Tryd.prog.cellsOf 30 = 2 := by kernel_rfl
theorem bP2 : Tryd.prog.bytesOf 30 = 16 := by kernel_rfl
theorem bI : Tryd.prog.bytesOf 3 = 8 := by kernel_rfl
/-- The number in a cell. -/
def numAt (W : World) (a : Addr) : Int := match W.cell? a with
  | some (.int _ x) => x
  | _ => 0
theorem cells2 {W : World} {a : Addr} {cs : List Value} (h : W.cells? 0 a 2 = some cs) : ∃ u v, W.cell? (a.add 0) = some u ∧ W.cell? (a.add 1) = some v ∧ cs = [u, v] := by
  unfold World.cells? at h
  rw [if_pos (Nat.zero_le _), show List.range 2 = [0, 1] from rfl] at h
  simp only [List.mapM_cons, List.mapM_nil] at h
  cases h0 : W.cell? (a.add 0) with
  | none => rw [h0] at h; cases h
  | some u =>
    cases h1 : W.cell? (a.add 1) with
    | none => rw [h0, h1] at h; cases h
    | some v => rw [h0, h1] at h; cases h; exact ⟨u, v, rfl, rfl, rfl⟩
section
variable {H : Type} {enc : TypeId × Value → H} {W : World}
set_option maxRecDepth 100000 in
/-- What is asked, opened. -/
theorem open_ask {b0 : Nat} {r : Reach} {v : Value} {d : DataW H} {p : List MemPlace} (hv : Value.okWide Tryd.prog W r b0 26 v) (h : DataW.Trod enc Tryd.prog W 0 (fun _ => true) true 26 v d p) :
    ∃ (c0 c1 c2 c3 c4 c5 c6 : Value) (y0 y1 y2 y3 y4 y5 y6 : DataW H × List MemPlace) (n : Nat), v = .agg #[c0, c1, c2, c3, c4, c5, c6] ∧ d = .agg [y0.1, y1.1, y2.1, y3.1, y4.1, y5.1, y6.1] ∧
      DataW.trod enc Tryd.prog W 0 (fun _ => true) true n 3 [c0] = some y0 ∧ DataW.trod enc Tryd.prog W 0 (fun _ => true) true n 22 [c1] = some y1 ∧ DataW.trod enc Tryd.prog W 0 (fun _ => true) true n 3 [c2] = some y2 ∧ DataW.trod enc Tryd.prog W 0 (fun _ => true) true n 3 [c3] = some y3 ∧
      DataW.trod enc Tryd.prog W 0 (fun _ => true) true n 23 [c4] = some y4 ∧ DataW.trod enc Tryd.prog W 0 (fun _ => true) true n 24 [c5] = some y5 ∧ DataW.trod enc Tryd.prog W 0 (fun _ => true) true n 23 [c6] = some y6 := by
  obtain ⟨cs, rfl, hsz⟩ := okWide_struct Tryd.underlying26 hv
  obtain ⟨c0, c1, c2, c3, c4, c5, c6, rfl⟩ := array7 (hsz.trans cA)
  obtain ⟨fuel, hf⟩ := h
  obtain ⟨xs, n, _, hx, _, hlen, hall⟩ := DataW.trod_struct Tryd.underlying26 hf
  match xs, hlen with
  | [y0, y1, y2, y3, y4, y5, y6], _ =>
    simp only [Prod.mk.injEq] at hx
    refine ⟨c0, c1, c2, c3, c4, c5, c6, y0, y1, y2, y3, y4, y5, y6, n, rfl, by simpa using hx.1, ?_, ?_, ?_, ?_, ?_, ?_, ?_⟩
    · simpa [Value.cells, show Tryd.prog.cellsOf 3 = 1 from cI] using hall 0 _ rfl
    · simpa [Value.cells, show Tryd.prog.cellsOf 22 = 1 by kernel_rfl] using hall 1 _ rfl
    · simpa [Value.cells, show Tryd.prog.cellsOf 3 = 1 from cI] using hall 2 _ rfl
    · simpa [Value.cells, show Tryd.prog.cellsOf 3 = 1 from cI] using hall 3 _ rfl
    · simpa [Value.cells, show Tryd.prog.cellsOf 23 = 1 by kernel_rfl] using hall 4 _ rfl
    · simpa [Value.cells, show Tryd.prog.cellsOf 24 = 1 by kernel_rfl] using hall 5 _ rfl
    · simpa [Value.cells, show Tryd.prog.cellsOf 23 = 1 by kernel_rfl] using hall 6 _ rfl
set_option maxRecDepth 100000 in
/-- The pairs, opened. -/
theorem open_pairs {c1 : Value} {y1 : DataW H × List MemPlace} {n : Nat} (hy : DataW.trod enc Tryd.prog W 0 (fun _ => true) true n 22 [c1] = some y1) (hw : ∀ x ∈ y1.1.weights Tryd.prog 22, x ≤ reachBytes) :
    ∃ L, PairsAt W c1 L ∧ L.length * 16 ≤ 140737488351232 := by
  rcases Deep.open_slice Tryd.underlying22 hy with ⟨hcs, _⟩ | ⟨a, len, cap, m, k, D, Pl, hcs, _, hl, _, hm, hx, hel⟩
  · simp only [List.cons.injEq, and_true] at hcs
    subst hcs
    exact ⟨[], ⟨none, 0, rfl, ⟨Nat.le_refl _, fun _ => rfl⟩, fun i p h => by cases h⟩, by simp⟩
  · simp only [List.cons.injEq, and_true] at hcs
    subst hcs hx
    simp only [if_true] at hm
    subst hm
    have hsize : len * 16 ≤ 140737488351232 := by
      have := hw ((((List.range len).map D).length + ((List.range (m - len)).map fun j => D (len + j)).length) * Tryd.prog.bytesOf 30) (by simp [DataW.weights, Tryd.underlying22])
      rw [bP2] at this
      simp only [List.length_map, List.length_range, reachBytes] at this
      omega
    have hcell : ∀ i, i < len → ∃ x y : Int, W.cell? ((a.add (i * 2)).add 0) = some (.int .i64 x) ∧ W.cell? ((a.add (i * 2)).add 1) = some (.int .i64 y) := fun i hi => by
      obtain ⟨cs', h1, h2⟩ := hel i (by omega)
      rw [cP] at h1
      obtain ⟨u, v, hu, hv, rfl⟩ := cells2 h1
      obtain ⟨xs, k', _, _, _, hlen, hall⟩ := DataW.trod_array Tryd.underlying30 h2
      match xs, hlen with
      | [z0, z1], _ =>
        have q0 := hall 0 (by omega)
        have q1 := hall 1 (by omega)
        rw [cI] at q0 q1
        obtain ⟨x, e0, _, _⟩ := DataW.trod_int (x := z0) Tryd.underlying3 (by simpa using q0)
        obtain ⟨y, e1, _, _⟩ := DataW.trod_int (x := z1) Tryd.underlying3 (by simpa using q1)
        simp at e0 e1
        subst e0 e1
        exact ⟨x, y, hu, hv⟩
    refine ⟨(List.range len).map fun i => (numAt W ((a.add (i * 2)).add 0), numAt W ((a.add (i * 2)).add 1)), ⟨some a, m, by simp, ⟨by simpa using hl, fun e => by cases e⟩, fun i p hp => ?_⟩, by simpa using hsize⟩
    rw [List.getElem?_map] at hp
    obtain ⟨j, hj, rfl⟩ := Option.map_eq_some_iff.1 hp
    have hil : i < len := by
      have := (List.getElem?_eq_some_iff.1 hj).1
      simpa using this
    have : j = i := by
      rw [List.getElem?_range hil] at hj
      exact (Option.some.inj hj).symm
    subst this
    obtain ⟨x, y, hx, hy⟩ := hcell j hil
    rw [show numAt W ((a.add (j * 2)).add 0) = x by unfold numAt; rw [hx], show numAt W ((a.add (j * 2)).add 1) = y by unfold numAt; rw [hy]]
    obtain ⟨x0, _, hx0, _⟩ := hcell 0 (by omega)
    obtain ⟨b, off, spot⟩ := a
    have hspot : spot = none := by simpa [Addr.add] using World.cell?_spot hx0
    subst hspot
    rw [Addr.add_lit, Addr.add_lit] at hx hy
    exact ⟨b, off, rfl, hx, hy⟩
/-- The priorities, opened. -/
theorem open_prio {c5 : Value} {y5 : DataW H × List MemPlace} {n : Nat} (hy : DataW.trod enc Tryd.prog W 0 (fun _ => true) true n 24 [c5] = some y5) (hw : ∀ x ∈ y5.1.weights Tryd.prog 24, x ≤ reachBytes) :
    ∃ ob lb cb, c5 = .slice ob lb cb ∧ RowZ W ob lb ∧ lb ≤ 140737488351232 := by
  rcases open_ints Tryd.underlying24 Tryd.underlying3 cI hy with ⟨hcs, _⟩ | ⟨a, len, cap, zs, hcs, _, hl, hm, hz, hx, hcell, hwz⟩
  · simp only [List.cons.injEq, and_true] at hcs
    subst hcs
    exact ⟨none, 0, 0, rfl, fun i hi => by omega, by omega⟩
  · simp only [List.cons.injEq, and_true] at hcs
    subst hcs
    simp only [if_true] at hz
    refine ⟨some a, len, cap, rfl, fun i hi => ?_, ?_⟩
    · have hc := hcell i (by omega)
      have hmem : zs.getD i 0 ∈ zs := by
        rw [List.getD_eq_getElem?_getD, List.getElem?_eq_getElem (by omega)]
        exact List.getElem_mem _
      have hb := bounds_i64 (hwz _ hmem)
      have h0 := hcell 0 (by omega)
      obtain ⟨b, off, spot⟩ := a
      have hspot : spot = none := by simpa [Addr.add] using World.cell?_spot h0
      subst hspot
      rw [Addr.add_lit] at hc
      exact ⟨b, off, _, rfl, hc, hb.1, hb.2⟩
    · rw [hx] at hw
      have := hw (((lits .i64 (zs.take len) : List (DataW H)).length + (lits .i64 (zs.drop len) : List (DataW H)).length) * Tryd.prog.bytesOf 3) (by simp [DataW.weights, Tryd.underlying24])
      rw [bI] at this
      simp only [lits, List.length_map, List.length_take, List.length_drop, reachBytes] at this
      omega
end
end Go.Proofs.YtjimiabfgmchiaaDoor
