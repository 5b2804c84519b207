/- Has: the number is in the set just where its bit is set. -/
import Derived.Test.YtbbmjfjedonfaaaDoorLeaf
namespace Go.Proofs.YtbbmjfjedonfaaaDoor
open Go.RowKit

/-- What a region keeps of the world at its start: one cell, and all that lay ahead. -/
theorem keep1 {w W w1 : World} {b : Nat} {v : Value} (h : W.cell? ⟨b, 0, none⟩ = some v ∧ b < W.heap.size ∧ Below w.heap.size w W) (hb : Below W.heap.size W w1) :
    w1.cell? ⟨b, 0, none⟩ = some v ∧ b < w1.heap.size ∧ Below w.heap.size w w1 :=
  have ⟨h1, h2, h3⟩ := h
  ⟨(hb.cell (p := ⟨b, 0, none⟩) h2).trans h1, Nat.lt_of_lt_of_le h2 hb.size, h3.trans (hb.mono h3.size)⟩
theorem and_pow (a n : Nat) : (a &&& 2 ^ n != 0) = a.testBit n := by
  rw [nat_bit]
  have h : 0 < 2 ^ n := Nat.two_pow_pos n
  rw [Nat.testBit_eq_decide_div_mod_eq]
  rcases Nat.mod_two_eq_zero_or_one (a / 2 ^ n) with e | e <;> rw [e] <;> simp
theorem out_of_bits64 {a : Nat} {i : Int} (ha : a < 18446744073709551616) (h : ¬ (0 ≤ i ∧ i < 64)) : (decide (0 ≤ i) && a.testBit i.toNat) = false := by
  by_cases h0 : 0 ≤ i
  · have : 64 ≤ i.toNat := by omega
    rw [Nat.testBit_lt_two_pow (Nat.lt_of_lt_of_le (show a < 2 ^ 64 from ha) (Nat.pow_le_pow_right (by decide) this))]; simp
  · simp [h0]
set_option maxHeartbeats 1000000 in
theorem has64 (a : Nat) (ha : a < 18446744073709551616) (i : Int) (w : World) :
    Calls Tryd.prog 25 #[.agg #[.int .u64 a], .int .i64 i] w fun e w' => e = .returned (.bool (decide (0 ≤ i) && a.testBit i.toNat)) ∧ Below w.heap.size w w' := by
  by_cases h : 0 ≤ i ∧ i < 64
  · obtain ⟨n, rfl⟩ := Int.eq_ofNat_of_zero_le h.1
    have hn : n < 64 := by omega
    have hsh := shl64 n hn
    have hp : (2 ^ n : Nat) < 18446744073709551616 := Nat.lt_of_lt_of_le (Nat.pow_lt_pow_right (by decide) hn) (by decide)
    generalize hq : (2 ^ n : Nat) = p at hsh hp
    have Hq : Hid (2 ^ n = p) := hq
    clear hq
    go_enter Tryd.func25, Tryd.ntmps25
    go_wp2
    go_region_held3 (fun W => W.cell? ⟨w.heap.size, 0, none⟩ = some (.int .u64 a) ∧ w.heap.size < W.heap.size ∧ Below w.heap.size w W) (first | (exact keep1 (by assumption) hb) | (exact keep1 ⟨by simp, by simp, ((Below.refl _ w).alloc (Nat.le_refl _) _).drew⟩ hb) | (exact ⟨by simp, by simp, ((Below.refl _ w).alloc (Nat.le_refl _) _).drew⟩) | go_keep) (first | (go_at_call 37; refine (fitsT64 _ _ h _).mono ?_; rintro e w1 ⟨rfl, hb⟩) | (go_at_call 39; refine (only64 _ _ hn p hsh _).mono ?_; rintro e w1 ⟨rfl, hb⟩) | (go_at_call 41; refine (meets64 _ _ ha hp _).mono ?_; rintro e w1 ⟨rfl, hb⟩))
    all_goals go_wp2
    all_goals go_ret
    all_goals exact ⟨ret_bool (by rw [← Hq.out, and_pow]; simp), by first | exact ‹_ ∧ _ ∧ _›.2.2 | assumption⟩
  · go_enter Tryd.func25, Tryd.ntmps25
    go_wp2
    first | go_region_with (go_at_call 37; refine (fitsF64 _ _ h _).mono ?_; rintro e w1 ⟨rfl, hb⟩) | fail
    all_goals go_wp2
    all_goals go_ret
    all_goals exact ⟨ret_bool (by rw [out_of_bits64 ha h]), (((Below.refl _ w).alloc (Nat.le_refl _) _).drew).trans (hb.mono (by simp))⟩
end Go.Proofs.YtbbmjfjedonfaaaDoor
