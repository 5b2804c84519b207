/- A map of one entry at most, its element told whole. -/
import Derived.Test.YtnfebegmgeanhaaDoorRows
import Derived.WalkKit
import Derived.WalkSpells
import Derived.WalkLawsBesides
import Derived.Maps.OwnSet
namespace Go.Proofs.YtnfebegmgeanhaaDoor.S
open Go.RowKit Go.Maps Go.MapKept Go.ChangeMaps
/-- An element, as it lies. -/
def R0 (v : Value) : Option (DataW Value × List MemPlace) := some (.held v, [])
def mpD : Option (Int × Value) → DataW Value
  | none => .map []
  | some p => .map [(.int .i64 p.1, .held p.2)]
def MpA (W : World) (gm n : Nat) (o : Option (Int × Value)) : Prop := W.ownsMap Tryd.prog 3 R0 gm n (mpD o)
theorem keyI : Maps.Keyed Tryd.prog 3 := int_keyed Tryd.underlying3
theorem keyOf_i {k : Int} (hk : (Lit.int .i64 k).wf = true) : keyOf Tryd.prog 3 (.int .i64 k) = some (.int .i64 k) := keyOf_int_mk Tryd.underlying3 hk
def zEn : Value := .agg #[.int .i64 0, .slice none 0 0, .slice none 0 0, .slice none 0 0, .bool false, .slice none 0 0]
theorem infoEn : (Tryd.prog.info? 51).map (·.zero) = some (some zEn) := by kernel_rfl
theorem zeroEn (w : World) : (zeroValue 51).run Tryd.prog w = .ok zEn w := by
  obtain ⟨i, hi, hz⟩ := Option.map_eq_some_iff.1 infoEn
  simp [zeroValue, typeInfo, hi, hz]
theorem MpA.look0 {W : World} {gm n : Nat} (h : MpA W gm n none) {k : Int} (hk : (Lit.int .i64 k).wf = true) : (Instr.lookup 45 (.map (some gm)) (.int .i64 k) true).run Tryd.prog W = .ok (.tuple #[zEn, .bool false]) W := by
  obtain ⟨v, ps, h1, h2⟩ := World.ownsMap.look_ok h keyI Tryd.underlying45 (zeroEn W) (zd := .held zEn) (zp := []) rfl (keyOf_i hk)
  have e : v = zEn := by
    unfold R0 mpD DataW.atKey at h2
    simp at h2
    exact h2.1
  rw [e] at h1
  exact h1
theorem MpA.look1 {W : World} {gm n : Nat} {k : Int} {v0 : Value} (h : MpA W gm n (some (k, v0))) (hk : (Lit.int .i64 k).wf = true) : (Instr.lookup 45 (.map (some gm)) (.int .i64 k) true).run Tryd.prog W = .ok (.tuple #[v0, .bool true]) W := by
  obtain ⟨v, ps, h1, h2⟩ := World.ownsMap.look_ok h keyI Tryd.underlying45 (zeroEn W) (zd := .held zEn) (zp := []) rfl (keyOf_i hk)
  have e : v = v0 := by
    unfold R0 mpD DataW.atKey at h2
    simp [Lit.sameKey] at h2
    exact h2.1
  have e2 : Maps.has (mpD (some (k, v0))) (.int .i64 k) = true := by simp [mpD, Maps.has, Lit.sameKey]
  rw [e, e2] at h1
  exact h1
theorem MpA.store {W : World} {gm n : Nat} {o : Option (Int × Value)} {k : Int} (h : MpA W gm n o) (ho : o = none ∨ ∃ v0, o = some (k, v0)) (hn : n < maxLen) (hk : (Lit.int .i64 k).wf = true) (v : Value) : ∃ w', (Instr.mapUpdate 45 (.map (some gm)) (.int .i64 k) v).run Tryd.prog W = .ok () w' ∧ MpA w' gm (n + 1) (some (k, v)) ∧ W.grownBy w' (some gm) ∧ w'.heap.size = W.heap.size := by
  obtain ⟨w', h1, h2, h3⟩ := World.ownsMap.store h keyI Tryd.underlying45 hn (keyOf_i hk) (show R0 v = some (.held v, []) from rfl)
  refine ⟨w', h1, ?_, h3.grown, ?_⟩
  · have e : (mpD o).put (.int .i64 k) (.held v) = mpD (some (k, v)) := by
      rcases ho with rfl | ⟨v0, rfl⟩
      · rfl
      · simp [mpD, DataW.put, Lit.sameKey, DataW.insert]
    unfold MpA
    rw [← e]
    exact h2
  · obtain ⟨es, clock, es', clock', _, rfl⟩ := h3
    simp [setBlock]
theorem MpA.made (w : World) : MpA (w.alloc (.map #[] 0)) w.heap.size 0 none := World.ownsMap_made w _ _ _
theorem MpA.below {W W' : World} {gm n : Nat} {o : Option (Int × Value)} (h : MpA W gm n o) (hb : W'.heap[gm]? = W.heap[gm]?) : MpA W' gm n o := by
  obtain ⟨es, clock, h1, h2⟩ := h
  exact ⟨es, clock, hb.trans h1, h2⟩
end Go.Proofs.YtnfebegmgeanhaaDoor.S
