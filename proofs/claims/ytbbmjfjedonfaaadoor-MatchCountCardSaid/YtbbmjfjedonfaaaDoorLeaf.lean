/- The plain calls of a set: what each answers, for every word; each makes new memory alone. -/
import Derived.Test.YtbbmjfjedonfaaaDoorLib
import Derived.Test.YtbbmjfjedonfaaaDoorMath
import Derived.WalkKit
import Derived.WalkSpells
import Derived.WalkLawsBesides
import Derived.Deep.RegionHeld3
import Derived.Laws.BitsAllLaws
namespace Go.Proofs.YtbbmjfjedonfaaaDoor
open Go.RowKit

/-- What lay below reads as before. -/
theorem bcell {W w1 : World} (hb : Below W.heap.size W w1) : (∀ b o, b < W.heap.size → w1.cell? ⟨b, o, none⟩ = W.cell? ⟨b, o, none⟩) ∧ (∀ b o, b < W.heap.size → w1.frozen? ⟨b, o, none⟩ = W.frozen? ⟨b, o, none⟩) :=
  ⟨fun b o h => hb.cell (p := ⟨b, o, none⟩) h, fun b o h => hb.frozen (p := ⟨b, o, none⟩) h⟩

theorem ne_cast (n : Nat) : ((n : Int) != 0) = (n != 0) := by
  rw [Bool.eq_iff_iff]; simp
theorem eq_cast (n : Nat) : ((n : Int) == 0) = (n == 0) := by
  rw [Bool.eq_iff_iff]; simp

set_option maxHeartbeats 400000 in
theorem of64 (a x : Int) (w : World) :
    Calls Tryd.prog 36 #[.agg #[.int .u64 a], .int .u64 x] w fun e w' => e = .returned (.agg #[.int .u64 x]) ∧ Below w.heap.size w w' := by
  go_enter Tryd.func36, Tryd.ntmps36
  go_wp2
  exact bodyPost_ret (v := .agg #[.int .u64 x]) (by simp [results, Tryd.results36, go_sem]) rfl ⟨rfl, ((Below.refl _ _).alloc (Nat.le_refl _) _).alloc (by simp) _⟩

set_option maxHeartbeats 400000 in
theorem word64 (a : Int) (w : World) :
    Calls Tryd.prog 33 #[.agg #[.int .u64 a]] w fun e w' => e = .returned (.int .u64 a) ∧ Below w.heap.size w w' := by
  go_enter Tryd.func33, Tryd.ntmps33
  go_wp2
  go_ret
  exact ⟨rfl, ((Below.refl _ _).alloc (Nat.le_refl _) _)⟩

set_option maxHeartbeats 400000 in
theorem meets64 (a b : Nat) (ha : a < 18446744073709551616) (hb : b < 18446744073709551616) (w : World) :
    Calls Tryd.prog 41 #[.agg #[.int .u64 a], .agg #[.int .u64 b]] w fun e w' => e = .returned (.bool ((a &&& b : Nat) != 0)) ∧ Below w.heap.size w w' := by
  go_enter Tryd.func41, Tryd.ntmps41
  go_wp2
  go_ret
  exact ⟨ret_bool (by rw [u64_and_nat a b ha hb, ne_cast]), ((Below.refl _ _).alloc (Nat.le_refl _) _).alloc (by simp) _⟩

theorem bl64 : Lib.bitLen 18446744073709551615 = 64 := by decide +kernel
set_option maxHeartbeats 400000 in
theorem width64 (a : Int) (w : World) :
    Calls Tryd.prog 45 #[.agg #[.int .u64 a]] w fun e w' => e = .returned (.int .i64 64) ∧ Below w.heap.size w w' := by
  go_enter Tryd.func45, Tryd.ntmps45
  go_wp2_with fail
  refine (len64m 18446744073709551615 (by omega) _).mono ?_
  rintro e w1 ⟨rfl, rfl⟩
  rw [bl64]
  go_wp2
  go_ret
  exact ⟨rfl, ((Below.refl _ _).alloc (Nat.le_refl _) _)⟩

set_option maxHeartbeats 400000 in
theorem fits64 (a i : Int) (w : World) :
    Calls Tryd.prog 37 #[.agg #[.int .u64 a], .int .i64 i] w fun e w' => e = .returned (.bool (decide (0 ≤ i ∧ i < 64))) ∧ Below w.heap.size w w' := by
  by_cases h0 : 0 ≤ i
  · go_enter Tryd.func37, Tryd.ntmps37
    go_wp2_with (go_at_call 45; refine (width64 _ _).mono ?_; rintro e w1 ⟨rfl, hb⟩)
    go_ret
    exact ⟨ret_bool (by simp [h0]), ((Below.refl _ _).alloc (Nat.le_refl _) _).trans (hb.mono (by simp))⟩
  · have hd : decide (0 ≤ i) = false := by simpa using h0
    go_enter Tryd.func37, Tryd.ntmps37
    go_wp2
    go_ret
    exact ⟨ret_bool (by simp), ((Below.refl _ _).alloc (Nat.le_refl _) _)⟩
theorem fitsT64 (a i : Int) (h : 0 ≤ i ∧ i < 64) (w : World) :
    Calls Tryd.prog 37 #[.agg #[.int .u64 a], .int .i64 i] w fun e w' => e = .returned (.bool true) ∧ Below w.heap.size w w' :=
  (fits64 a i w).mono fun _ _ h' => by rw [decide_eq_true h] at h'; exact h'
theorem fitsF64 (a i : Int) (h : ¬ (0 ≤ i ∧ i < 64)) (w : World) :
    Calls Tryd.prog 37 #[.agg #[.int .u64 a], .int .i64 i] w fun e w' => e = .returned (.bool false) ∧ Below w.heap.size w w' :=
  (fits64 a i w).mono fun _ _ h' => by rw [decide_eq_false h] at h'; exact h'
theorem shl8 (i : Nat) (hi : i < 8) : IntKind.u8.wrap (IntKind.u8.wrap 1 * 2 ^ i) = ((2 ^ i : Nat) : Int) := by
  have h : (2 ^ i : Nat) < 256 := Nat.lt_of_lt_of_le (Nat.pow_lt_pow_right (by decide) hi) (by decide)
  have e : ((2 ^ i : Nat) : Int) = 2 ^ i := by simp
  have e1 : IntKind.u8.wrap 1 = 1 := by decide
  rw [e1, Int.one_mul, ← e]
  generalize (2 ^ i : Nat) = q at h
  simp only [IntKind.wrap, IntKind.bits, IntKind.signed]
  simp
  omega
theorem shl16 (i : Nat) (hi : i < 16) : IntKind.u16.wrap (IntKind.u16.wrap 1 * 2 ^ i) = ((2 ^ i : Nat) : Int) := by
  have h : (2 ^ i : Nat) < 65536 := Nat.lt_of_lt_of_le (Nat.pow_lt_pow_right (by decide) hi) (by decide)
  have e : ((2 ^ i : Nat) : Int) = 2 ^ i := by simp
  have e1 : IntKind.u16.wrap 1 = 1 := by decide
  rw [e1, Int.one_mul, ← e]
  generalize (2 ^ i : Nat) = q at h
  simp only [IntKind.wrap, IntKind.bits, IntKind.signed]
  simp
  omega
theorem shl32 (i : Nat) (hi : i < 32) : IntKind.u32.wrap (IntKind.u32.wrap 1 * 2 ^ i) = ((2 ^ i : Nat) : Int) := by
  have h : (2 ^ i : Nat) < 4294967296 := Nat.lt_of_lt_of_le (Nat.pow_lt_pow_right (by decide) hi) (by decide)
  have e : ((2 ^ i : Nat) : Int) = 2 ^ i := by simp
  have e1 : IntKind.u32.wrap 1 = 1 := by decide
  rw [e1, Int.one_mul, ← e]
  generalize (2 ^ i : Nat) = q at h
  simp only [IntKind.wrap, IntKind.bits, IntKind.signed]
  simp
  omega
theorem shl64 (i : Nat) (hi : i < 64) : IntKind.u64.wrap (IntKind.u64.wrap 1 * 2 ^ i) = ((2 ^ i : Nat) : Int) := by
  have h : (2 ^ i : Nat) < 18446744073709551616 := Nat.lt_of_lt_of_le (Nat.pow_lt_pow_right (by decide) hi) (by decide)
  have e : ((2 ^ i : Nat) : Int) = 2 ^ i := by simp
  have e1 : IntKind.u64.wrap 1 = 1 := by decide
  rw [e1, Int.one_mul, ← e]
  generalize (2 ^ i : Nat) = q at h
  simp only [IntKind.wrap, IntKind.bits, IntKind.signed]
  simp
  omega
set_option maxHeartbeats 400000 in
theorem only64 (a : Int) (i : Nat) (hi : i < 64) (p : Nat) (hp : IntKind.u64.wrap (IntKind.u64.wrap 1 * 2 ^ i) = (p : Int)) (w : World) :
    Calls Tryd.prog 39 #[.agg #[.int .u64 a], .int .i64 i] w fun e w' => e = .returned (.agg #[.int .u64 p]) ∧ Below w.heap.size w w' := by
  go_enter Tryd.func39, Tryd.ntmps39
  go_wp2
  go_region_with (go_at_call 36; refine (of64 _ _ _).mono ?_; rintro e w1 ⟨rfl, hb⟩; obtain ⟨hc, hf⟩ := bcell hb)
  go_wp2
  exact bodyPost_ret (v := .agg #[.int .u64 p]) (by simp [results, Tryd.results39, go_sem, hc]) rfl ⟨rfl, (((((Below.refl _ w).alloc (Nat.le_refl _) _).alloc (by simp) _).drew).trans (hb.mono (by simp; omega))).setCell (by simp) _⟩
end Go.Proofs.YtbbmjfjedonfaaaDoor
