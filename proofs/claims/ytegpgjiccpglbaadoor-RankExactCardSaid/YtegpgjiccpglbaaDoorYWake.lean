/- wakes: the document's first runs go as it says. -/
import Derived.Test.YtegpgjiccpglbaaDoorYFn3
namespace Go.Proofs.YtegpgjiccpglbaaDoor
open Go.RowKit
def j1 : Nat → Nat := ovJ noJ 1 2
def j2 : Nat → Nat := ovJ j1 2 3
def j3 : Nat → Nat := ovJ j2 3 1
theorem wk1 : ovC noJ 1 2 = 0 := by decide +kernel
theorem wk2 : ovC j1 2 3 = 0 := by decide +kernel
theorem wk3 : belI j2 1 = 14 := by decide +kernel
theorem wk4 : ovC j2 3 1 = 6 := by decide +kernel
theorem Below.grown0 {w V V' : World} {b : Nat} (h : Below w.heap.size w V) (hg : V.grownBy V' (some b)) (hb : w.heap.size ≤ b) : Below w.heap.size w V' :=
  h.grown hg h.size fun k e => by cases e; exact hb
set_option maxRecDepth 100000 in
set_option maxHeartbeats 1000000 in
theorem wakes (w : World) (ht : Tab w) :
    Calls Tryd.prog 8 #[] w fun e w' => e = .returned (.bool true) ∧ Below w.heap.size w w' := by
  have KN := hide' (newR w ht)
  have K1 : Hid (∀ V b, RkAt V b noJ → Calls Tryd.prog 10 #[.pointer (some ⟨b, 0, none⟩), .int .i64 1, .int .i64 2] V fun e w' => e = .returned (.int .i64 0) ∧ RkAt w' b j1 ∧ V.grownBy w' (some b)) := fun V b h => by have := over h 1 2; rwa [wk1] at this
  have K2 : Hid (∀ V b, RkAt V b j1 → Calls Tryd.prog 10 #[.pointer (some ⟨b, 0, none⟩), .int .i64 2, .int .i64 3] V fun e w' => e = .returned (.int .i64 0) ∧ RkAt w' b j2 ∧ V.grownBy w' (some b)) := fun V b h => by have := over h 2 3; rwa [wk2] at this
  have K3 : Hid (∀ V b, RkAt V b j2 → Calls Tryd.prog 15 #[.pointer (some ⟨b, 0, none⟩), .int .i64 1] V fun e w' => e = .returned (.int .u64 14) ∧ Qt V w') := fun V b h => by have := belowR h 1; rwa [wk3] at this
  have K4 : Hid (∀ V b, RkAt V b j2 → Calls Tryd.prog 10 #[.pointer (some ⟨b, 0, none⟩), .int .i64 3, .int .i64 1] V fun e w' => e = .returned (.int .i64 6) ∧ RkAt w' b j3 ∧ V.grownBy w' (some b)) := fun V b h => by have := over h 3 1; rwa [wk4] at this
  go_enter Tryd.func8, Tryd.ntmps8
  go_wp2_with (go_at_call 7; refine KN.out.mono ?_; rintro e w1 ⟨rfl, hr1, hb1⟩; have hR1 := hide' hr1; have hB1 := hide' hb1; clear hr1 hb1)
  refine (K1.out _ _ hR1.out).mono ?_
  rintro e w2 ⟨rfl, hr2, hg2⟩
  have hR2 := hide' hr2
  have hB2 := hide' (Below.grown0 hB1.out hg2 (Nat.le_refl _))
  clear hr2 hg2
  go_wp2_with fail
  refine (K2.out _ _ hR2.out).mono ?_
  rintro e w3 ⟨rfl, hr3, hg3⟩
  have hR3 := hide' hr3
  have hB3 := hide' (Below.grown0 hB2.out hg3 (Nat.le_refl _))
  clear hr3 hg3
  go_wp2_with fail
  refine (K3.out _ _ hR3.out).mono ?_
  rintro e w4 ⟨rfl, hb4⟩
  have hR4 := hide' (hR3.out.over hb4.below)
  have hB4 := hide' (hB3.out.trans (hb4.below.mono hB3.out.size))
  clear hb4
  go_wp2_with fail
  refine (K4.out _ _ hR4.out).mono ?_
  rintro e w5 ⟨rfl, hr5, hg5⟩
  have hB5 := hide' (Below.grown0 hB4.out hg5 (Nat.le_refl _))
  clear hr5 hg5
  go_wp2
  go_ret
  exact ⟨rfl, hB5.out⟩
end Go.Proofs.YtegpgjiccpglbaaDoor
