/- ImageRead, walked. -/
import Derived.Test.YtgfnfbbiojnhaaaDoorImX
namespace Go.Proofs.YtgfnfbbiojnhaaaDoor
open Go.RowKit
set_option maxRecDepth 100000 in
set_option maxHeartbeats 2000000 in
theorem imageRead_walk (R : List Nat) (v : Value) (W : World) (hR : RowC W v R) (hb : ∀ z ∈ R, z < 256) (hl : R.length ≤ 140737488351232) (hT : Tb W) : Calls Tryd.prog 4 #[v] W fun e w' => e = .returned (.bool true) ∧ Below W.heap.size W w' := by
  have hB1 : Hid (Below W.heap.size W (W.alloc (.cells #[] 5))) := (Below.refl _ _).alloc (Nat.le_refl _) _
  have K1 : Hid (∀ V v, Below W.heap.size W V → RowC V v R → Calls Tryd.prog 10 #[v] V (RdP V R)) := fun V v hV h => readF R v V h hb (by omega) (hT.up hV (Nat.le_refl _))
  have K2 : Hid (∀ V, Below W.heap.size W V → Calls Tryd.prog 11 #[v] V (RdP V R)) := fun V hV => readD R v V (hR.below hV (Nat.le_refl _)) hb (by omega)
  have K7 : Hid (∀ V, Below W.heap.size W V → Calls Tryd.prog 9 #[] V fun e w' => e = .returned (.bool true) ∧ Below V.heap.size V w') := fun V hV => wakesF V (hT.up hV (Nat.le_refl _))
  have hR1 := hide' (hR.below hB1.out (Nat.le_refl _))
  have hO1 : Hid ((W.alloc (.cells #[] 5)).ownsRow W.heap.size 5 1 (.slice (some ⟨W.heap.size, 0, none⟩) ([] : List Nat).length 0) ([] : List Nat).length (cellsB [])) := owns_zero W 5
  unfold RdP at K1 K2
  obtain ⟨oa, cap, rfl, _, _⟩ := hR
  have hl2 : Hid (([] : List Nat).length + R.length ≤ 140737488355328) := by unfold Hid; simp; omega
  clear hb hT hl
  generalize rdC R = C at *
  generalize rdE R = E at *
  obtain ⟨n, hn⟩ : ∃ n, R.length = n := ⟨_, rfl⟩
  rw [hn] at hR1 K2 ⊢
  clear hn
  obtain ⟨op, a, b, c, nn, t⟩ := C
  unfold clC at K1 K2
  dsimp only at K1 K2
  have heq : ∀ V : World, (Op.equalIn 10000 23 (.agg #[.int .i64 op, .string a, .string b, .string c, .int .i64 nn, .string t]) (.agg #[.int .i64 op, .string a, .string b, .string c, .int .i64 nn, .string t])).run Tryd.prog V = .ok true V := fun V => cl_eq op nn a b c t V
  go_enter Tryd.func4, Tryd.ntmps4
  go_wp2_with (at_builtin; refine app_bytes rfl (.tmp 8) (.tmp 9) W.heap.size _ W.heap.size 0 [] oa n cap R rfl rfl rfl hO1.out hR1.out hB1.out.size hl2.out ?_; intro g2 m2 c2 w2 hm2 ho2 hb2)
  have hB2 : Hid (Below W.heap.size W w2) := hB1.out.trans (hb2.out.mono (Nat.le_refl _))
  have hr2 : Hid (RowC w2 (.slice (some ⟨g2, 0, none⟩) m2 c2) R) := by have := hm2.out; subst this; exact RowC.of_owns ho2.out
  clear hm2 ho2 hb2 hB1 hR1 hO1
  refine (K1.out _ _ hB2.out hr2.out).mono ?_
  rintro e w3 ⟨rfl, hb3⟩
  have hB3 : Hid (Below W.heap.size W w3) := hB2.out.trans (hb3.out.mono hB2.out.size)
  clear hr2 hb3 hB2 K1
  go_wp2_with fail
  have hg4 := heap_new w3 (.cells #[.int .i64 op, .string a, .string b, .string c, .int .i64 nn, .string t] 23)
  have hB4 : Hid (Below W.heap.size W (w3.alloc (.cells #[.int .i64 op, .string a, .string b, .string c, .int .i64 nn, .string t] 23))) := hB3.out.alloc hB3.out.size _
  refine (K2.out _ hB4.out).mono ?_
  rintro e w5 ⟨rfl, hb5⟩
  have hB5 : Hid (Below W.heap.size W w5) := hB4.out.trans (hb5.out.mono hB4.out.size)
  have hg5 := (hb5.out.block _ (blk_lt hg4)).trans hg4
  generalize w3.heap.size = g3 at *
  clear hg4 hB4 hb5 K2 hB3
  have hB6 : Hid (Below W.heap.size W (w5.alloc (.cells #[.int .i64 op, .string a, .string b, .string c, .int .i64 nn, .string t] 23))) := hB5.out.alloc hB5.out.size _
  have hg6 := (((Below.refl _ w5).alloc (Nat.le_refl _) (.cells #[.int .i64 op, .string a, .string b, .string c, .int .i64 nn, .string t] 23)).block _ (blk_lt hg5)).trans hg5
  obtain ⟨c0, c1, c2, c3, c4, c5⟩ := cells6 hg6
  have K8 := hide' (K7.out _ hB6.out)
  clear K7 hg5 hg6
  go_wp2_with (go_at_call 9; refine K8.out.mono ?_; rintro e w7 ⟨rfl, hb7⟩)
  go_ret
  exact ⟨rfl, hB6.out.trans (hb7.mono hB6.out.size)⟩
end Go.Proofs.YtgfnfbbiojnhaaaDoor
