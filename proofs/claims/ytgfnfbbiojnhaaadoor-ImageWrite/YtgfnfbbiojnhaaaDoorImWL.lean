/- ImageWrite, walked. -/
import Derived.Test.YtgfnfbbiojnhaaaDoorImX
namespace Go.Proofs.YtgfnfbbiojnhaaaDoor
open Go.RowKit
set_option maxRecDepth 100000 in
set_option maxHeartbeats 1000000 in
theorem imageWrite_walk (C : Cl) (W : World) (_ : -9223372036854775808 ≤ C.n) (_ : C.n < 9223372036854775808) (hT : Tb W) : Calls Tryd.prog 3 #[.agg (clC C)] W fun e w' => e = .returned (.bool true) ∧ Below W.heap.size W w' := by
  have hB1 : Hid (Below W.heap.size W (W.alloc (.cells (clC C) 23))) := (Below.refl _ _).alloc (Nat.le_refl _) _
  have hg1 : Hid ((W.alloc (.cells (clC C) 23)).heap[W.heap.size]? = some (.cells (clC C) 23 (0, 0))) := heap_new _ _
  have hT1 := hide' (hT.up hB1.out (Nat.le_refl _))
  have K1 := hide' (writeF C _ hT1.out)
  have K2 : Hid (∀ V, Calls Tryd.prog 8 #[.agg (clC C)] V (WrP V C)) := fun V => writeD C V
  unfold WrP at K1 K2
  generalize (if wrE C = 0 then wrL C else []) = L at *
  generalize wrE C = E at *
  obtain ⟨op, a, b, c, n, t⟩ := C
  unfold clC at hB1 hg1 K1 K2 hT1 ⊢
  dsimp only at hB1 hg1 K1 K2 hT1 ⊢
  go_enter Tryd.func3, Tryd.ntmps3
  go_wp2_with fail
  generalize W.alloc (.cells #[.int .i64 op, .string a, .string b, .string c, .int .i64 n, .string t] 23) = w1 at *
  refine K1.out.mono ?_
  rintro e w2 ⟨oa2, n2, cap2, rfl, _, ho2, hb2⟩
  have hB2 : Hid (Below W.heap.size W w2) := hB1.out.trans (hb2.out.mono hB1.out.size)
  have hg2 := (hb2.out.block _ (blk_lt hg1.out)).trans hg1.out
  obtain ⟨c0, c1, c2, c3, c4, c5⟩ := cells6 hg2
  clear hg2 K1 hg1
  go_wp2_with fail
  refine (K2.out w2).mono ?_
  rintro e w3 ⟨oa3, n3, cap3, rfl, _, ho3, hb3⟩
  have hB3 : Hid (Below W.heap.size W w3) := hB2.out.trans (hb3.out.mono hB2.out.size)
  have hc2 := conv_bytes (RowC.of_owns (own_up ho2.out hb3.out))
  have hc3 := conv_bytes (RowC.of_owns ho3.out)
  generalize strB L = sL at *
  have K7 := hide' (wakesF w3 (hT.up hB3.out (Nat.le_refl _)))
  clear ho2 ho3 K2 hT1 c0 c1 c2 c3 c4 c5
  go_wp2_with (go_at_call 9; refine K7.out.mono ?_; rintro e w4 ⟨rfl, hb4⟩)
  go_ret
  exact ⟨rfl, hB3.out.trans (hb4.mono hB3.out.size)⟩
end Go.Proofs.YtgfnfbbiojnhaaaDoor
