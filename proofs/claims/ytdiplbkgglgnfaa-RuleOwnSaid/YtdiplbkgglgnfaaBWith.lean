/- With at two widths: what it answers. -/
import Derived.Test.YtdiplbkgglgnfaaBTwo
namespace Go.Proofs.Ytdiplbkgglgnfaa
open Go.RowKit
theorem hideW2 {p : Prop} (h : p) : Hid p := h
set_option maxHeartbeats 1000000 in
theorem wiF64 (a : Nat) (i : Int) (h : ¬ (0 ≤ i ∧ i < 64)) (w : World) :
    Calls Try.prog 40 #[.agg #[.int .u64 a], .int .i64 i] w fun e w' => e = .returned (.tuple #[.agg #[.int .u64 0], .int .i64 1]) ∧ Below w.heap.size w w' := by
  have KF := hideW2 (fitsF64 a i h)
  go_enter Try.func40, Try.ntmps40
  go_wp2_with (go_at_call 61; refine (KF.out _).mono ?_; rintro e w1 ⟨rfl, hb⟩; obtain ⟨hc, hf⟩ := bcell hb)
  exact bodyPost_ret (v := .tuple #[.agg #[.int .u64 0], .int .i64 1]) (by simp [results, Try.results40, go_sem, hc]) rfl ⟨rfl, ((((Below.refl _ w).alloc (Nat.le_refl _) _).alloc (by simp) _).trans (hb.mono (by simp; omega))).setCell (by simp) _⟩
set_option maxHeartbeats 1000000 in
theorem wiT64 (a : Nat) (ha : a < 18446744073709551616) (i : Nat) (hi : i < 64) (p q : Nat) (hp : IntKind.u64.wrap (IntKind.u64.wrap 1 * 2 ^ i) = (p : Int)) (hpl : p < 18446744073709551616) (hq : (a ||| p : Nat) = q) (w : World) :
    Calls Try.prog 40 #[.agg #[.int .u64 a], .int .i64 i] w fun e w' => e = .returned (.tuple #[.agg #[.int .u64 q], .int .i64 0]) ∧ Below w.heap.size w w' := by
  have KF := hideW2 (fitsT64 a i ⟨by omega, by omega⟩)
  have KO := hideW2 (only64 a i hi p hp)
  have KR : Hid (∀ W, Calls Try.prog 41 #[.agg #[.int .u64 a], .agg #[.int .u64 p]] W fun e w' => e = .returned (.agg #[.int .u64 q]) ∧ Below W.heap.size W w') := by subst hq; exact or64 a p ha hpl
  clear hq hp ha hpl
  go_enter Try.func40, Try.ntmps40
  go_wp2_with (go_at_call 61; refine (KF.out _).mono ?_; rintro e w1 ⟨rfl, hb⟩; obtain ⟨hc, hf⟩ := bcell hb)
  have hz : w.heap.size + 1 < w1.heap.size := by have := hb.size; simp at this; omega
  have c1 : w1.cell? ⟨w.heap.size, 0, none⟩ = some (.int .u64 a) := by rw [hc _ _ (by simp; omega)]; simp
  have c2 : w1.cell? ⟨w.heap.size + 1, 0, none⟩ = some (.int .u64 0) := by rw [hc _ _ (by simp)]; simp
  have f2 : w1.frozen? ⟨w.heap.size + 1, 0, none⟩ = false := by rw [hf _ _ (by simp)]; simp
  have B1 : Below w.heap.size w w1 := (((Below.refl _ w).alloc (Nat.le_refl _) _).alloc (by simp) _).trans (hb.mono (by simp; omega))
  clear hc hf hb
  go_region_with (first | (go_at_call 62; refine (KO.out _).mono ?_; rintro e w2 ⟨rfl, hb2⟩; have hz2 : w.heap.size + 1 < w2.heap.size := Nat.lt_of_lt_of_le hz hb2.size; have d1 : w2.cell? ⟨w.heap.size, 0, none⟩ = some (.int .u64 a) := (hb2.cell (p := ⟨w.heap.size, 0, none⟩) (by show w.heap.size < _; simp; omega)).trans c1; have d2 : w2.cell? ⟨w.heap.size + 1, 0, none⟩ = some (.int .u64 0) := (hb2.cell (p := ⟨w.heap.size + 1, 0, none⟩) hz).trans c2; have g2 : w2.frozen? ⟨w.heap.size + 1, 0, none⟩ = false := (hb2.frozen (p := ⟨w.heap.size + 1, 0, none⟩) hz).trans f2) | (go_at_call 41; refine (KR.out _).mono ?_; rintro e w3 ⟨rfl, hb3⟩; have c3 : w3.cell? ⟨w.heap.size + 1, 0, none⟩ = some (.int .u64 0) := (hb3.cell (p := ⟨w.heap.size + 1, 0, none⟩) hz2).trans d2; have f3 : w3.frozen? ⟨w.heap.size + 1, 0, none⟩ = false := (hb3.frozen (p := ⟨w.heap.size + 1, 0, none⟩) hz2).trans g2))
  all_goals go_wp2
  all_goals exact bodyPost_ret (v := .tuple #[.agg #[.int .u64 q], .int .i64 0]) (by simp [results, Try.results40, go_sem, c3]) rfl ⟨rfl, ((((B1.drew).trans (hb2.mono (by simp; omega))).trans (hb3.mono (by omega)))).setCell (by simp) _⟩
end Go.Proofs.Ytdiplbkgglgnfaa
