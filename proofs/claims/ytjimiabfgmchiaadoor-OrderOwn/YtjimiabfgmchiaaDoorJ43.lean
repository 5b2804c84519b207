/- A priority that does not fit is refused. -/
import Derived.Test.YtjimiabfgmchiaaDoorJ42
namespace Go.Proofs.YtjimiabfgmchiaaDoor
open Go.RowKit Go.Shelf
section
variable {go gp gs n : Nat} {R : Nat → Nat → Bool} {Pf Sf : Nat → Nat} {w : World} {p : Nat → Int}
set_option maxRecDepth 100000 in
set_option maxHeartbeats 1000000 in
/-- A priority of another length is refused. -/
theorem leastB (ho : OrdAt w go gp gs n Pf Sf) (oP : Option Addr) (k cP : Nat) (hk : k ≠ n) :
    Calls Tryd.prog 9 #[.pointer (some ⟨go, 0, none⟩), .slice oP k cP] w fun e w' => e = .returned (.tuple #[.slice none 0 0, .int .i64 1]) ∧ Below w.heap.size w w' := by
  have hxx : ((k : Int) != (n : Int)) = true := by simp; omega
  have hxn : ¬ (k : Int) = (n : Int) := by omega
  have KL : Hid (∀ W, Below w.heap.size w W → Calls Tryd.prog 25 #[.pointer (some ⟨go, 0, none⟩)] W fun e w' => e = .returned (.int .i64 n) ∧ w' = W) := fun W hW => lenO (ho.over hW)
  go_enter Tryd.func9, Tryd.ntmps9
  go_wp2
  have bp0 : Boxed (w.alloc (.cells #[.slice oP k cP] 24)) w.heap.size 24 (.slice oP k cP) := Boxed.new w _ _
  have hB0 : Below w.heap.size w (w.alloc (.cells #[.slice oP k cP] 24)) := (Below.refl _ w).alloc (Nat.le_refl _) _
  generalize w.alloc (.cells #[.slice oP k cP] 24) = W0 at *
  have bp1 := hide' (bxb bp0 (Below.refl _ W0).drew bp0.lt)
  have hB1 := hide' hB0.drew
  have KL1 := hide' (KL.out W0.drew hB1.out)
  have c0 := bp1.out.cell
  have hS0 := hide' c0
  go_region_held3 (fun V => V.cell? ⟨w.heap.size, 0, none⟩ = some (.slice oP k cP)) (first | (exact hS0.out)) (first | (go_at_call 25; refine KL1.out.mono ?_; rintro e w1 ⟨rfl, hw1⟩; obtain rfl : W0.drew = w1 := hw1.symm))
  go_wp2
  go_ret2
  exact ⟨rfl, hB1.out⟩
end
theorem below_drewV {B : Nat} {w W : World} (h : Below B w W) (q : Nat) : Below B w (W.drewN q) := by
  induction q with
  | zero => exact h
  | succ q iq => exact iq.drew
end Go.Proofs.YtjimiabfgmchiaaDoor
