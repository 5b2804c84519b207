/- A set's mirror: each number i becomes 31 - i. -/
import Derived.Test.YtajfafckhipgeaaDoorRev
namespace Go.Proofs.YtajfafckhipgeaaDoor
open Go.RowKit
theorem keep2 {w W w1 : World} {b : Nat} {v : Value} (h : W.cell? ⟨b, 0, none⟩ = some v ∧ (∃ u, W.cell? ⟨b + 1, 0, none⟩ = some u) ∧ W.frozen? ⟨b + 1, 0, none⟩ = false ∧ b + 1 < W.heap.size ∧ Below w.heap.size w W) (hb : Below W.heap.size W w1) :
    w1.cell? ⟨b, 0, none⟩ = some v ∧ (∃ u, w1.cell? ⟨b + 1, 0, none⟩ = some u) ∧ w1.frozen? ⟨b + 1, 0, none⟩ = false ∧ b + 1 < w1.heap.size ∧ Below w.heap.size w w1 :=
  have ⟨h1, ⟨u, h2⟩, h3, h4, h5⟩ := h
  ⟨(hb.cell (p := ⟨b, 0, none⟩) (by show b < _; omega)).trans h1, ⟨u, (hb.cell (p := ⟨b + 1, 0, none⟩) h4).trans h2⟩, (hb.frozen (p := ⟨b + 1, 0, none⟩) h4).trans h3, Nat.lt_of_lt_of_le h4 hb.size, h5.trans (hb.mono h5.size)⟩
theorem keep2s {w W : World} {b : Nat} {v : Value} (hwb : w.heap.size ≤ b) (h : W.cell? ⟨b, 0, none⟩ = some v ∧ (∃ u, W.cell? ⟨b + 1, 0, none⟩ = some u) ∧ W.frozen? ⟨b + 1, 0, none⟩ = false ∧ b + 1 < W.heap.size ∧ Below w.heap.size w W) (q : Value) :
    (W.setCell ⟨b + 1, 0, none⟩ q).cell? ⟨b, 0, none⟩ = some v ∧ (∃ u, (W.setCell ⟨b + 1, 0, none⟩ q).cell? ⟨b + 1, 0, none⟩ = some u) ∧ (W.setCell ⟨b + 1, 0, none⟩ q).frozen? ⟨b + 1, 0, none⟩ = false ∧ b + 1 < (W.setCell ⟨b + 1, 0, none⟩ q).heap.size ∧ Below w.heap.size w (W.setCell ⟨b + 1, 0, none⟩ q) := by
  obtain ⟨h1, ⟨u, h2⟩, h3, h4, h5⟩ := h
  refine ⟨?_, ⟨q, World.cell?_setCell_same' _ _ _ (by rw [h2]; rfl)⟩, by rw [World.frozen?_setCell]; exact h3, by simpa using h4, h5.setCell (p := ⟨b + 1, 0, none⟩) (by show w.heap.size ≤ b + 1; omega) _⟩
  rw [World.cell?_of_block (w := W) (Below.heap_setCell _ _ _ _ (by show b ≠ b + 1; omega))]; exact h1
set_option maxRecDepth 100000 in
set_option maxHeartbeats 400000 in
theorem mirrorC (x r q : Nat) (hcx : ∀ w, (convert 44 22 (.int .u32 x)).run Tryd.prog w = .ok (.int .u64 x) w) (hr : Hid (∀ W, Calls Tryd.prog 58 #[.int .u64 x] W fun e w' => e = .returned (.int .u64 r) ∧ w' = W)) (hcq : ∀ w, (convert 22 44 (.int .u64 ((r : Int) / 4294967296))).run Tryd.prog w = .ok (.int .u32 q) w) (w : World) :
    Calls Tryd.prog 47 #[.agg #[.int .u32 x]] w fun e w' => e = .returned (.agg #[.int .u32 q]) ∧ Below w.heap.size w w' := by
  have hw32 : IntKind.i64.wrap 32 = 32 := by decide
  go_enter Tryd.func47, Tryd.ntmps47
  go_wp2
  go_region_held3 (fun W => W.cell? ⟨w.heap.size, 0, none⟩ = some (.int .u32 x) ∧ (∃ u, W.cell? ⟨w.heap.size + 1, 0, none⟩ = some u) ∧ W.frozen? ⟨w.heap.size + 1, 0, none⟩ = false ∧ w.heap.size + 1 < W.heap.size ∧ Below w.heap.size w W) (first | (exact keep2 (by assumption) hb) | (exact keep2 ⟨by simp, ⟨.int .u32 0, by simp⟩, by simp, by simp, (((Below.refl _ w).alloc (Nat.le_refl _) _).alloc (by simp) _).drew⟩ hb) | (exact ⟨by simp, ⟨.int .u32 0, by simp⟩, by simp, by simp, (((Below.refl _ w).alloc (Nat.le_refl _) _).alloc (by simp) _).drew⟩) | assumption | (exact keep2s (Nat.le_refl _) (by assumption) _)) (first | (go_at_call 58; refine (hr.out _).mono ?_; rintro e w1 ⟨rfl, rfl⟩) | (go_at_call 49; refine (width32 _ _).mono ?_; rintro e w1 ⟨rfl, hb⟩) | (go_at_call 29; refine (of32 _ _ _).mono ?_; rintro e w1 ⟨rfl, hb⟩; obtain ⟨u3, c3⟩ := (keep2 (by assumption) hb).2.1; have f3 := (keep2 (by assumption) hb).2.2.1))
  all_goals go_wp2
  all_goals exact bodyPost_ret (v := .agg #[.int .u32 q]) (by simp [results, Tryd.results47, go_sem, c3]) rfl ⟨rfl, ‹_ ∧ _ ∧ _ ∧ _ ∧ Below _ _ _›.2.2.2.2⟩
theorem mirror32 (x : Nat) (hx : x < 4294967296) (w : World) :
    Calls Tryd.prog 47 #[.agg #[.int .u32 x]] w fun e w' => e = .returned (.agg #[.int .u32 (rev x / 4294967296 : Nat)]) ∧ Below w.heap.size w w' := by
  have hl := (rev_bit x 0 (by omega) (by decide)).2
  have e1 : IntKind.u64.wrap (x : Int) = (x : Int) := by
    simp only [IntKind.wrap, IntKind.signed, IntKind.bits, Bool.false_and, Bool.false_eq_true, if_false]; omega
  have e2 : IntKind.u32.wrap ((rev x : Int) / 4294967296) = ((rev x / 4294967296 : Nat) : Int) := by
    simp only [IntKind.wrap, IntKind.signed, IntKind.bits, Bool.false_and, Bool.false_eq_true, if_false]; omega
  have k1 : Tryd.prog.intKind 22 = .u64 := by kernel_rfl
  have k2 : Tryd.prog.intKind 44 = .u32 := by kernel_rfl
  refine mirrorC x (rev x) _ ?_ (rev_all x (by omega)) ?_ w
  · intro w
    rw [run_convert_int w _ _ _ _ (by kernel_rfl) (by kernel_rfl), k1, e1]
  · intro w
    rw [run_convert_int w _ _ _ _ (by kernel_rfl) (by kernel_rfl), k2, e2]
end Go.Proofs.YtajfafckhipgeaaDoor
