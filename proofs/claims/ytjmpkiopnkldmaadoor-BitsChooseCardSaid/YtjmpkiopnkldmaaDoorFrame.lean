/- What the listed tables give the walks; the frame's closed facts. -/
import Derived.Test.YtjmpkiopnkldmaaDoorRows
import Derived.Test.YtjmpkiopnkldmaaDoorWake
import Derived.ProofKit
import Derived.LaidMore
import Derived.Stop.Joined
import Derived.Stop.LaidErr
import Derived.Lib.LaidTab
import Derived.Lib.SmallJoins
namespace Go.Proofs.YtjmpkiopnkldmaaDoor
open Go.ChangeShapes Go.WideShapes Go.ChangeAt Go.RowKit

theorem own : ownKnob Tryd.prog.godebug = none := by kernel_rfl
def laid3 : List (String × DataW Unit) := [("math/bits.deBruijn32tab", Rows.laid_math_bits_deBruijn32tab), ("math/bits.deBruijn64tab", Rows.laid_math_bits_deBruijn64tab), ("internal/strconv.uint64pow10", Rows.laid_internal_strconv_uint64pow10)]
theorem door_met (os : Os) (args : Array Value) : laidMetH Tryd.prog laid3 ((World.doorLaid Tryd.prog 24 os).forCall (fun _ _ => 0) ⟨#[], args, []⟩).memory :=
  laidMetH_of_parts3 (fuel := 8) (laidMet_of_run' 8 (by kernel_rfl) (by kernel_rfl)) (by kernel_rfl) (by kernel_rfl)
theorem g64 : Tryd.prog.globalNamed "math/bits.deBruijn64tab" = some 0 := by kernel_rfl
theorem t64 : (Tryd.prog.globals[0]?).map (·.type) = some 51 := by kernel_rfl
theorem gP : Tryd.prog.globalNamed "internal/strconv.uint64pow10" = some 1 := by kernel_rfl
theorem g32 : Tryd.prog.globalNamed "math/bits.deBruijn32tab" = some 2 := by kernel_rfl
theorem ce5 : Tryd.prog.cellsOf 5 = 1 := by kernel_rfl
theorem ct64 : Tryd.prog.cellsOf 51 = 64 := by kernel_rfl
theorem tab_eq {H : Type} : (Rows.laid_math_bits_deBruijn64tab : DataW H) = Lib.tabData .u8 (dbTab.map Int.ofNat) := rfl
theorem tab_get : ∀ i : Fin 64, (dbTab.map Int.ofNat).getD i.val 0 = ((dbTab.getD i.val 0 : Nat) : Int) := by decide +kernel
theorem var_lt {W : World} {n : String} {g : Nat} {cs : Array Value} (hg : Tryd.prog.globalNamed n = some g) (h : W.var? Tryd.prog n = some cs) : g < W.heap.size := by
  unfold World.var? at h
  rw [hg] at h
  rcases Nat.lt_or_ge g W.heap.size with h1 | h1
  · exact h1
  · have : W.heap[g]? = none := Array.getElem?_eq_none h1
    simp [this] at h
theorem trodI {H : Type} {enc : TypeId × Value → H} {P : Program} {w : World} {base : Nat} {sp : Nat → Bool} {held : Bool} {t : TypeId} {k : IntKind} {n : Int} (hu : P.underlying t = some (.int k)) (hw : (Lit.int k n).wf = true) :
    DataW.trod enc P w base sp held 1 t [.int k n] = some (.lit (.int k n), []) := by simp [DataW.trod, hu, hw]
/-- From the row's condition to what the walks ask. -/
theorem tab_of_laid {W : World} (h : laidMetH Tryd.prog laid3 W) : Tab W := by
  rw [MakeChecks.laidMetH_plain _ _ _ (by kernel_rfl)] at h
  have h2 := laidMet.tail h
  rw [tab_eq] at h2
  have hT := Lib.tabIs_of_head g64 t64 Tryd.underlying51 Tryd.underlying5 ce5 ct64 h2
  refine ⟨fun i hi => ?_, ?_⟩
  · have := hT.cell g64 i (by rw [List.length_map]; exact hi)
    rw [this, tab_get ⟨i, hi⟩]
  · obtain ⟨ps, ⟨q0, u0, cs0, f0, p0, r0, hg0, ht0, hv0, hd0, ⟨q1, u1, cs1, f1, p1, r1, hg1, ht1, hv1, hd1, ⟨q2, u2, cs2, f2, p2, r2, hg2, ht2, hv2, hd2, _, _⟩, _⟩, _⟩, _, _⟩ := h
    have a0 := var_lt g32 hv0
    have a1 := var_lt g64 hv1
    have a2 := var_lt gP hv2
    omega
end Go.Proofs.YtjmpkiopnkldmaaDoor
