/- The plain calls of a set: what each answers, for every word; each makes new memory alone. -/
import Derived.Test.YtpbjmdkfijlooaaGreatDoorLib
import Derived.Test.YtpbjmdkfijlooaaGreatDoorMath
import Derived.WalkKit
import Derived.WalkSpells
import Derived.WalkLawsBesides
import Derived.Deep.RegionHeld3
import Derived.Laws.BitsAllLaws
namespace Go.Proofs.YtpbjmdkfijlooaaGreatDoor
open Go.RowKit

/-- What lay below reads as before. -/
theorem bcell {W w1 : World} (hb : Below W.heap.size W w1) : (∀ b o, b < W.heap.size → w1.cell? ⟨b, o, none⟩ = W.cell? ⟨b, o, none⟩) ∧ (∀ b o, b < W.heap.size → w1.frozen? ⟨b, o, none⟩ = W.frozen? ⟨b, o, none⟩) :=
  ⟨fun b o h => hb.cell (p := ⟨b, o, none⟩) h, fun b o h => hb.frozen (p := ⟨b, o, none⟩) h⟩

theorem ne_cast (n : Nat) : ((n : Int) != 0) = (n != 0) := by
  rw [Bool.eq_iff_iff]; simp
theorem eq_cast (n : Nat) : ((n : Int) == 0) = (n == 0) := by
  rw [Bool.eq_iff_iff]; simp

set_option maxHeartbeats 400000 in
theorem of8 (a x : Int) (w : World) :
    Calls Tryz.prog 61 #[.agg #[.int .u8 a], .int .u8 x] w fun e w' => e = .returned (.agg #[.int .u8 x]) ∧ Below w.heap.size w w' := by
  go_enter Tryz.func61, Tryz.ntmps61
  go_wp2
  exact bodyPost_ret (v := .agg #[.int .u8 x]) (by simp [results, Tryz.results61, go_sem]) rfl ⟨rfl, ((Below.refl _ _).alloc (Nat.le_refl _) _).alloc (by simp) _⟩

set_option maxHeartbeats 400000 in
theorem of16 (a x : Int) (w : World) :
    Calls Tryz.prog 4 #[.agg #[.int .u16 a], .int .u16 x] w fun e w' => e = .returned (.agg #[.int .u16 x]) ∧ Below w.heap.size w w' := by
  go_enter Tryz.func4, Tryz.ntmps4
  go_wp2
  exact bodyPost_ret (v := .agg #[.int .u16 x]) (by simp [results, Tryz.results4, go_sem]) rfl ⟨rfl, ((Below.refl _ _).alloc (Nat.le_refl _) _).alloc (by simp) _⟩

set_option maxHeartbeats 400000 in
theorem of32 (a x : Int) (w : World) :
    Calls Tryz.prog 5 #[.agg #[.int .u32 a], .int .u32 x] w fun e w' => e = .returned (.agg #[.int .u32 x]) ∧ Below w.heap.size w w' := by
  go_enter Tryz.func5, Tryz.ntmps5
  go_wp2
  exact bodyPost_ret (v := .agg #[.int .u32 x]) (by simp [results, Tryz.results5, go_sem]) rfl ⟨rfl, ((Below.refl _ _).alloc (Nat.le_refl _) _).alloc (by simp) _⟩

set_option maxHeartbeats 400000 in
theorem of64 (a x : Int) (w : World) :
    Calls Tryz.prog 42 #[.agg #[.int .u64 a], .int .u64 x] w fun e w' => e = .returned (.agg #[.int .u64 x]) ∧ Below w.heap.size w w' := by
  go_enter Tryz.func42, Tryz.ntmps42
  go_wp2
  exact bodyPost_ret (v := .agg #[.int .u64 x]) (by simp [results, Tryz.results42, go_sem]) rfl ⟨rfl, ((Below.refl _ _).alloc (Nat.le_refl _) _).alloc (by simp) _⟩

set_option maxHeartbeats 400000 in
theorem word8 (a : Int) (w : World) :
    Calls Tryz.prog 63 #[.agg #[.int .u8 a]] w fun e w' => e = .returned (.int .u8 a) ∧ Below w.heap.size w w' := by
  go_enter Tryz.func63, Tryz.ntmps63
  go_wp2
  go_ret
  exact ⟨rfl, ((Below.refl _ _).alloc (Nat.le_refl _) _)⟩

set_option maxHeartbeats 400000 in
theorem word16 (a : Int) (w : World) :
    Calls Tryz.prog 21 #[.agg #[.int .u16 a]] w fun e w' => e = .returned (.int .u16 a) ∧ Below w.heap.size w w' := by
  go_enter Tryz.func21, Tryz.ntmps21
  go_wp2
  go_ret
  exact ⟨rfl, ((Below.refl _ _).alloc (Nat.le_refl _) _)⟩

set_option maxHeartbeats 400000 in
theorem word32 (a : Int) (w : World) :
    Calls Tryz.prog 24 #[.agg #[.int .u32 a]] w fun e w' => e = .returned (.int .u32 a) ∧ Below w.heap.size w w' := by
  go_enter Tryz.func24, Tryz.ntmps24
  go_wp2
  go_ret
  exact ⟨rfl, ((Below.refl _ _).alloc (Nat.le_refl _) _)⟩

set_option maxHeartbeats 400000 in
theorem word64 (a : Int) (w : World) :
    Calls Tryz.prog 44 #[.agg #[.int .u64 a]] w fun e w' => e = .returned (.int .u64 a) ∧ Below w.heap.size w w' := by
  go_enter Tryz.func44, Tryz.ntmps44
  go_wp2
  go_ret
  exact ⟨rfl, ((Below.refl _ _).alloc (Nat.le_refl _) _)⟩

set_option maxHeartbeats 400000 in
theorem meets8 (a b : Nat) (ha : a < 256) (hb : b < 256) (w : World) :
    Calls Tryz.prog 94 #[.agg #[.int .u8 a], .agg #[.int .u8 b]] w fun e w' => e = .returned (.bool ((a &&& b : Nat) != 0)) ∧ Below w.heap.size w w' := by
  go_enter Tryz.func94, Tryz.ntmps94
  go_wp2
  go_ret
  exact ⟨ret_bool (by rw [u8_and_nat a b ha hb, ne_cast]), ((Below.refl _ _).alloc (Nat.le_refl _) _).alloc (by simp) _⟩

set_option maxHeartbeats 400000 in
theorem meets16 (a b : Nat) (ha : a < 65536) (hb : b < 65536) (w : World) :
    Calls Tryz.prog 32 #[.agg #[.int .u16 a], .agg #[.int .u16 b]] w fun e w' => e = .returned (.bool ((a &&& b : Nat) != 0)) ∧ Below w.heap.size w w' := by
  go_enter Tryz.func32, Tryz.ntmps32
  go_wp2
  go_ret
  exact ⟨ret_bool (by rw [u16_and_nat a b ha hb, ne_cast]), ((Below.refl _ _).alloc (Nat.le_refl _) _).alloc (by simp) _⟩

set_option maxHeartbeats 400000 in
theorem meets32 (a b : Nat) (ha : a < 4294967296) (hb : b < 4294967296) (w : World) :
    Calls Tryz.prog 35 #[.agg #[.int .u32 a], .agg #[.int .u32 b]] w fun e w' => e = .returned (.bool ((a &&& b : Nat) != 0)) ∧ Below w.heap.size w w' := by
  go_enter Tryz.func35, Tryz.ntmps35
  go_wp2
  go_ret
  exact ⟨ret_bool (by rw [u32_and_nat a b ha hb, ne_cast]), ((Below.refl _ _).alloc (Nat.le_refl _) _).alloc (by simp) _⟩

set_option maxHeartbeats 400000 in
theorem meets64 (a b : Nat) (ha : a < 18446744073709551616) (hb : b < 18446744073709551616) (w : World) :
    Calls Tryz.prog 86 #[.agg #[.int .u64 a], .agg #[.int .u64 b]] w fun e w' => e = .returned (.bool ((a &&& b : Nat) != 0)) ∧ Below w.heap.size w w' := by
  go_enter Tryz.func86, Tryz.ntmps86
  go_wp2
  go_ret
  exact ⟨ret_bool (by rw [u64_and_nat a b ha hb, ne_cast]), ((Below.refl _ _).alloc (Nat.le_refl _) _).alloc (by simp) _⟩

theorem bl8 : Lib.bitLen 255 = 8 := by decide +kernel
set_option maxHeartbeats 400000 in
theorem width8 (a : Int) (w : World) :
    Calls Tryz.prog 65 #[.agg #[.int .u8 a]] w fun e w' => e = .returned (.int .i64 8) ∧ Below w.heap.size w w' := by
  go_enter Tryz.func65, Tryz.ntmps65
  go_wp2_with fail
  refine (len64m 255 (by omega) _).mono ?_
  rintro e w1 ⟨rfl, rfl⟩
  rw [bl8]
  go_wp2
  go_ret
  exact ⟨rfl, ((Below.refl _ _).alloc (Nat.le_refl _) _)⟩

theorem bl16 : Lib.bitLen 65535 = 16 := by decide +kernel
set_option maxHeartbeats 400000 in
theorem width16 (a : Int) (w : World) :
    Calls Tryz.prog 6 #[.agg #[.int .u16 a]] w fun e w' => e = .returned (.int .i64 16) ∧ Below w.heap.size w w' := by
  go_enter Tryz.func6, Tryz.ntmps6
  go_wp2_with fail
  refine (len64m 65535 (by omega) _).mono ?_
  rintro e w1 ⟨rfl, rfl⟩
  rw [bl16]
  go_wp2
  go_ret
  exact ⟨rfl, ((Below.refl _ _).alloc (Nat.le_refl _) _)⟩

theorem bl32 : Lib.bitLen 4294967295 = 32 := by decide +kernel
set_option maxHeartbeats 400000 in
theorem width32 (a : Int) (w : World) :
    Calls Tryz.prog 7 #[.agg #[.int .u32 a]] w fun e w' => e = .returned (.int .i64 32) ∧ Below w.heap.size w w' := by
  go_enter Tryz.func7, Tryz.ntmps7
  go_wp2_with fail
  refine (len64m 4294967295 (by omega) _).mono ?_
  rintro e w1 ⟨rfl, rfl⟩
  rw [bl32]
  go_wp2
  go_ret
  exact ⟨rfl, ((Below.refl _ _).alloc (Nat.le_refl _) _)⟩

theorem bl64 : Lib.bitLen 18446744073709551615 = 64 := by decide +kernel
set_option maxHeartbeats 400000 in
theorem width64 (a : Int) (w : World) :
    Calls Tryz.prog 46 #[.agg #[.int .u64 a]] w fun e w' => e = .returned (.int .i64 64) ∧ Below w.heap.size w w' := by
  go_enter Tryz.func46, Tryz.ntmps46
  go_wp2_with fail
  refine (len64m 18446744073709551615 (by omega) _).mono ?_
  rintro e w1 ⟨rfl, rfl⟩
  rw [bl64]
  go_wp2
  go_ret
  exact ⟨rfl, ((Below.refl _ _).alloc (Nat.le_refl _) _)⟩

set_option maxHeartbeats 400000 in
theorem fits8 (a i : Int) (w : World) :
    Calls Tryz.prog 90 #[.agg #[.int .u8 a], .int .i64 i] w fun e w' => e = .returned (.bool (decide (0 ≤ i ∧ i < 8))) ∧ Below w.heap.size w w' := by
  by_cases h0 : 0 ≤ i
  · go_enter Tryz.func90, Tryz.ntmps90
    go_wp2_with (go_at_call 65; refine (width8 _ _).mono ?_; rintro e w1 ⟨rfl, hb⟩)
    go_ret
    exact ⟨ret_bool (by simp [h0]), ((Below.refl _ _).alloc (Nat.le_refl _) _).trans (hb.mono (by simp))⟩
  · have hd : decide (0 ≤ i) = false := by simpa using h0
    go_enter Tryz.func90, Tryz.ntmps90
    go_wp2
    go_ret
    exact ⟨ret_bool (by simp), ((Below.refl _ _).alloc (Nat.le_refl _) _)⟩
theorem fitsT8 (a i : Int) (h : 0 ≤ i ∧ i < 8) (w : World) :
    Calls Tryz.prog 90 #[.agg #[.int .u8 a], .int .i64 i] w fun e w' => e = .returned (.bool true) ∧ Below w.heap.size w w' :=
  (fits8 a i w).mono fun _ _ h' => by rw [decide_eq_true h] at h'; exact h'
theorem fitsF8 (a i : Int) (h : ¬ (0 ≤ i ∧ i < 8)) (w : World) :
    Calls Tryz.prog 90 #[.agg #[.int .u8 a], .int .i64 i] w fun e w' => e = .returned (.bool false) ∧ Below w.heap.size w w' :=
  (fits8 a i w).mono fun _ _ h' => by rw [decide_eq_false h] at h'; exact h'
set_option maxHeartbeats 400000 in
theorem fits16 (a i : Int) (w : World) :
    Calls Tryz.prog 31 #[.agg #[.int .u16 a], .int .i64 i] w fun e w' => e = .returned (.bool (decide (0 ≤ i ∧ i < 16))) ∧ Below w.heap.size w w' := by
  by_cases h0 : 0 ≤ i
  · go_enter Tryz.func31, Tryz.ntmps31
    go_wp2_with (go_at_call 6; refine (width16 _ _).mono ?_; rintro e w1 ⟨rfl, hb⟩)
    go_ret
    exact ⟨ret_bool (by simp [h0]), ((Below.refl _ _).alloc (Nat.le_refl _) _).trans (hb.mono (by simp))⟩
  · have hd : decide (0 ≤ i) = false := by simpa using h0
    go_enter Tryz.func31, Tryz.ntmps31
    go_wp2
    go_ret
    exact ⟨ret_bool (by simp), ((Below.refl _ _).alloc (Nat.le_refl _) _)⟩
theorem fitsT16 (a i : Int) (h : 0 ≤ i ∧ i < 16) (w : World) :
    Calls Tryz.prog 31 #[.agg #[.int .u16 a], .int .i64 i] w fun e w' => e = .returned (.bool true) ∧ Below w.heap.size w w' :=
  (fits16 a i w).mono fun _ _ h' => by rw [decide_eq_true h] at h'; exact h'
theorem fitsF16 (a i : Int) (h : ¬ (0 ≤ i ∧ i < 16)) (w : World) :
    Calls Tryz.prog 31 #[.agg #[.int .u16 a], .int .i64 i] w fun e w' => e = .returned (.bool false) ∧ Below w.heap.size w w' :=
  (fits16 a i w).mono fun _ _ h' => by rw [decide_eq_false h] at h'; exact h'
set_option maxHeartbeats 400000 in
theorem fits32 (a i : Int) (w : World) :
    Calls Tryz.prog 34 #[.agg #[.int .u32 a], .int .i64 i] w fun e w' => e = .returned (.bool (decide (0 ≤ i ∧ i < 32))) ∧ Below w.heap.size w w' := by
  by_cases h0 : 0 ≤ i
  · go_enter Tryz.func34, Tryz.ntmps34
    go_wp2_with (go_at_call 7; refine (width32 _ _).mono ?_; rintro e w1 ⟨rfl, hb⟩)
    go_ret
    exact ⟨ret_bool (by simp [h0]), ((Below.refl _ _).alloc (Nat.le_refl _) _).trans (hb.mono (by simp))⟩
  · have hd : decide (0 ≤ i) = false := by simpa using h0
    go_enter Tryz.func34, Tryz.ntmps34
    go_wp2
    go_ret
    exact ⟨ret_bool (by simp), ((Below.refl _ _).alloc (Nat.le_refl _) _)⟩
theorem fitsT32 (a i : Int) (h : 0 ≤ i ∧ i < 32) (w : World) :
    Calls Tryz.prog 34 #[.agg #[.int .u32 a], .int .i64 i] w fun e w' => e = .returned (.bool true) ∧ Below w.heap.size w w' :=
  (fits32 a i w).mono fun _ _ h' => by rw [decide_eq_true h] at h'; exact h'
theorem fitsF32 (a i : Int) (h : ¬ (0 ≤ i ∧ i < 32)) (w : World) :
    Calls Tryz.prog 34 #[.agg #[.int .u32 a], .int .i64 i] w fun e w' => e = .returned (.bool false) ∧ Below w.heap.size w w' :=
  (fits32 a i w).mono fun _ _ h' => by rw [decide_eq_false h] at h'; exact h'
set_option maxHeartbeats 400000 in
theorem fits64 (a i : Int) (w : World) :
    Calls Tryz.prog 82 #[.agg #[.int .u64 a], .int .i64 i] w fun e w' => e = .returned (.bool (decide (0 ≤ i ∧ i < 64))) ∧ Below w.heap.size w w' := by
  by_cases h0 : 0 ≤ i
  · go_enter Tryz.func82, Tryz.ntmps82
    go_wp2_with (go_at_call 46; refine (width64 _ _).mono ?_; rintro e w1 ⟨rfl, hb⟩)
    go_ret
    exact ⟨ret_bool (by simp [h0]), ((Below.refl _ _).alloc (Nat.le_refl _) _).trans (hb.mono (by simp))⟩
  · have hd : decide (0 ≤ i) = false := by simpa using h0
    go_enter Tryz.func82, Tryz.ntmps82
    go_wp2
    go_ret
    exact ⟨ret_bool (by simp), ((Below.refl _ _).alloc (Nat.le_refl _) _)⟩
theorem fitsT64 (a i : Int) (h : 0 ≤ i ∧ i < 64) (w : World) :
    Calls Tryz.prog 82 #[.agg #[.int .u64 a], .int .i64 i] w fun e w' => e = .returned (.bool true) ∧ Below w.heap.size w w' :=
  (fits64 a i w).mono fun _ _ h' => by rw [decide_eq_true h] at h'; exact h'
theorem fitsF64 (a i : Int) (h : ¬ (0 ≤ i ∧ i < 64)) (w : World) :
    Calls Tryz.prog 82 #[.agg #[.int .u64 a], .int .i64 i] w fun e w' => e = .returned (.bool false) ∧ Below w.heap.size w w' :=
  (fits64 a i w).mono fun _ _ h' => by rw [decide_eq_false h] at h'; exact h'
theorem shl8 (i : Nat) (hi : i < 8) : IntKind.u8.wrap (IntKind.u8.wrap 1 * 2 ^ i) = ((2 ^ i : Nat) : Int) := by
  have h : (2 ^ i : Nat) < 256 := Nat.lt_of_lt_of_le (Nat.pow_lt_pow_right (by decide) hi) (by decide)
  have e : ((2 ^ i : Nat) : Int) = 2 ^ i := by simp
  have e1 : IntKind.u8.wrap 1 = 1 := by decide
  rw [e1, Int.one_mul, ← e]
  generalize (2 ^ i : Nat) = q at h
  simp only [IntKind.wrap, IntKind.bits, IntKind.signed]
  simp
  omega
theorem shl16 (i : Nat) (hi : i < 16) : IntKind.u16.wrap (IntKind.u16.wrap 1 * 2 ^ i) = ((2 ^ i : Nat) : Int) := by
  have h : (2 ^ i : Nat) < 65536 := Nat.lt_of_lt_of_le (Nat.pow_lt_pow_right (by decide) hi) (by decide)
  have e : ((2 ^ i : Nat) : Int) = 2 ^ i := by simp
  have e1 : IntKind.u16.wrap 1 = 1 := by decide
  rw [e1, Int.one_mul, ← e]
  generalize (2 ^ i : Nat) = q at h
  simp only [IntKind.wrap, IntKind.bits, IntKind.signed]
  simp
  omega
theorem shl32 (i : Nat) (hi : i < 32) : IntKind.u32.wrap (IntKind.u32.wrap 1 * 2 ^ i) = ((2 ^ i : Nat) : Int) := by
  have h : (2 ^ i : Nat) < 4294967296 := Nat.lt_of_lt_of_le (Nat.pow_lt_pow_right (by decide) hi) (by decide)
  have e : ((2 ^ i : Nat) : Int) = 2 ^ i := by simp
  have e1 : IntKind.u32.wrap 1 = 1 := by decide
  rw [e1, Int.one_mul, ← e]
  generalize (2 ^ i : Nat) = q at h
  simp only [IntKind.wrap, IntKind.bits, IntKind.signed]
  simp
  omega
theorem shl64 (i : Nat) (hi : i < 64) : IntKind.u64.wrap (IntKind.u64.wrap 1 * 2 ^ i) = ((2 ^ i : Nat) : Int) := by
  have h : (2 ^ i : Nat) < 18446744073709551616 := Nat.lt_of_lt_of_le (Nat.pow_lt_pow_right (by decide) hi) (by decide)
  have e : ((2 ^ i : Nat) : Int) = 2 ^ i := by simp
  have e1 : IntKind.u64.wrap 1 = 1 := by decide
  rw [e1, Int.one_mul, ← e]
  generalize (2 ^ i : Nat) = q at h
  simp only [IntKind.wrap, IntKind.bits, IntKind.signed]
  simp
  omega
set_option maxHeartbeats 400000 in
theorem only8 (a : Int) (i : Nat) (hi : i < 8) (p : Nat) (hp : IntKind.u8.wrap (IntKind.u8.wrap 1 * 2 ^ i) = (p : Int)) (w : World) :
    Calls Tryz.prog 92 #[.agg #[.int .u8 a], .int .i64 i] w fun e w' => e = .returned (.agg #[.int .u8 p]) ∧ Below w.heap.size w w' := by
  go_enter Tryz.func92, Tryz.ntmps92
  go_wp2
  go_region_with (go_at_call 61; refine (of8 _ _ _).mono ?_; rintro e w1 ⟨rfl, hb⟩; obtain ⟨hc, hf⟩ := bcell hb)
  go_wp2
  exact bodyPost_ret (v := .agg #[.int .u8 p]) (by simp [results, Tryz.results92, go_sem, hc]) rfl ⟨rfl, (((((Below.refl _ w).alloc (Nat.le_refl _) _).alloc (by simp) _).drew).trans (hb.mono (by simp; omega))).setCell (by simp) _⟩
set_option maxHeartbeats 400000 in
theorem only16 (a : Int) (i : Nat) (hi : i < 16) (p : Nat) (hp : IntKind.u16.wrap (IntKind.u16.wrap 1 * 2 ^ i) = (p : Int)) (w : World) :
    Calls Tryz.prog 33 #[.agg #[.int .u16 a], .int .i64 i] w fun e w' => e = .returned (.agg #[.int .u16 p]) ∧ Below w.heap.size w w' := by
  go_enter Tryz.func33, Tryz.ntmps33
  go_wp2
  go_region_with (go_at_call 4; refine (of16 _ _ _).mono ?_; rintro e w1 ⟨rfl, hb⟩; obtain ⟨hc, hf⟩ := bcell hb)
  go_wp2
  exact bodyPost_ret (v := .agg #[.int .u16 p]) (by simp [results, Tryz.results33, go_sem, hc]) rfl ⟨rfl, (((((Below.refl _ w).alloc (Nat.le_refl _) _).alloc (by simp) _).drew).trans (hb.mono (by simp; omega))).setCell (by simp) _⟩
set_option maxHeartbeats 400000 in
theorem only32 (a : Int) (i : Nat) (hi : i < 32) (p : Nat) (hp : IntKind.u32.wrap (IntKind.u32.wrap 1 * 2 ^ i) = (p : Int)) (w : World) :
    Calls Tryz.prog 36 #[.agg #[.int .u32 a], .int .i64 i] w fun e w' => e = .returned (.agg #[.int .u32 p]) ∧ Below w.heap.size w w' := by
  go_enter Tryz.func36, Tryz.ntmps36
  go_wp2
  go_region_with (go_at_call 5; refine (of32 _ _ _).mono ?_; rintro e w1 ⟨rfl, hb⟩; obtain ⟨hc, hf⟩ := bcell hb)
  go_wp2
  exact bodyPost_ret (v := .agg #[.int .u32 p]) (by simp [results, Tryz.results36, go_sem, hc]) rfl ⟨rfl, (((((Below.refl _ w).alloc (Nat.le_refl _) _).alloc (by simp) _).drew).trans (hb.mono (by simp; omega))).setCell (by simp) _⟩
set_option maxHeartbeats 400000 in
theorem only64 (a : Int) (i : Nat) (hi : i < 64) (p : Nat) (hp : IntKind.u64.wrap (IntKind.u64.wrap 1 * 2 ^ i) = (p : Int)) (w : World) :
    Calls Tryz.prog 84 #[.agg #[.int .u64 a], .int .i64 i] w fun e w' => e = .returned (.agg #[.int .u64 p]) ∧ Below w.heap.size w w' := by
  go_enter Tryz.func84, Tryz.ntmps84
  go_wp2
  go_region_with (go_at_call 42; refine (of64 _ _ _).mono ?_; rintro e w1 ⟨rfl, hb⟩; obtain ⟨hc, hf⟩ := bcell hb)
  go_wp2
  exact bodyPost_ret (v := .agg #[.int .u64 p]) (by simp [results, Tryz.results84, go_sem, hc]) rfl ⟨rfl, (((((Below.refl _ w).alloc (Nat.le_refl _) _).alloc (by simp) _).drew).trans (hb.mono (by simp; omega))).setCell (by simp) _⟩
end Go.Proofs.YtpbjmdkfijlooaaGreatDoor
