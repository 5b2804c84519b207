/- Next: the least number that is not below i. -/
import Derived.Test.YtahfobbiaimoiaaGreatDoorJ01
import Derived.Test.YtahfobbiaimoiaaGreatDoorLib
import Derived.WalkKit
import Derived.WalkSpells
import Derived.WalkLawsBesides
import Derived.Deep.RegionHeld3
import Derived.Laws.BitsAllLaws
namespace Go.Proofs.YtahfobbiaimoiaaGreatDoor.O
open Go.RowKit

/-- What lay below reads as before. -/
theorem bcell {W w1 : World} (hb : Below W.heap.size W w1) : (∀ b o, b < W.heap.size → w1.cell? ⟨b, o, none⟩ = W.cell? ⟨b, o, none⟩) ∧ (∀ b o, b < W.heap.size → w1.frozen? ⟨b, o, none⟩ = W.frozen? ⟨b, o, none⟩) :=
  ⟨fun b o h => hb.cell (p := ⟨b, o, none⟩) h, fun b o h => hb.frozen (p := ⟨b, o, none⟩) h⟩

theorem ne_cast (n : Nat) : ((n : Int) != 0) = (n != 0) := by
  rw [Bool.eq_iff_iff]; simp
theorem eq_cast (n : Nat) : ((n : Int) == 0) = (n == 0) := by
  rw [Bool.eq_iff_iff]; simp

set_option maxHeartbeats 400000 in
theorem of64 (a x : Int) (w : World) :
    Calls Tryz.prog 123 #[.agg #[.int .u64 a], .int .u64 x] w fun e w' => e = .returned (.agg #[.int .u64 x]) ∧ Below w.heap.size w w' := by
  go_enter Tryz.func123, Tryz.ntmps123
  go_wp2
  exact bodyPost_ret (v := .agg #[.int .u64 x]) (by simp [results, Tryz.results123, go_sem]) rfl ⟨rfl, ((Below.refl _ _).alloc (Nat.le_refl _) _).alloc (by simp) _⟩

set_option maxHeartbeats 400000 in
theorem word64 (a : Int) (w : World) :
    Calls Tryz.prog 97 #[.agg #[.int .u64 a]] w fun e w' => e = .returned (.int .u64 a) ∧ Below w.heap.size w w' := by
  go_enter Tryz.func97, Tryz.ntmps97
  go_wp2
  go_ret
  exact ⟨rfl, ((Below.refl _ _).alloc (Nat.le_refl _) _)⟩

set_option maxHeartbeats 400000 in
theorem meets64 (a b : Nat) (ha : a < 18446744073709551616) (hb : b < 18446744073709551616) (w : World) :
    Calls Tryz.prog 184 #[.agg #[.int .u64 a], .agg #[.int .u64 b]] w fun e w' => e = .returned (.bool ((a &&& b : Nat) != 0)) ∧ Below w.heap.size w w' := by
  go_enter Tryz.func184, Tryz.ntmps184
  go_wp2
  go_ret
  exact ⟨ret_bool (by rw [u64_and_nat a b ha hb, ne_cast]), ((Below.refl _ _).alloc (Nat.le_refl _) _).alloc (by simp) _⟩

theorem bl64 : Lib.bitLen 18446744073709551615 = 64 := by decide +kernel
set_option maxHeartbeats 400000 in
theorem width64 (a : Int) (w : World) :
    Calls Tryz.prog 170 #[.agg #[.int .u64 a]] w fun e w' => e = .returned (.int .i64 64) ∧ Below w.heap.size w w' := by
  go_enter Tryz.func170, Tryz.ntmps170
  go_wp2_with fail
  refine (len64m 18446744073709551615 (by omega) _).mono ?_
  rintro e w1 ⟨rfl, rfl⟩
  rw [bl64]
  go_wp2
  go_ret
  exact ⟨rfl, ((Below.refl _ _).alloc (Nat.le_refl _) _)⟩

set_option maxHeartbeats 400000 in
theorem fits64 (a i : Int) (w : World) :
    Calls Tryz.prog 183 #[.agg #[.int .u64 a], .int .i64 i] w fun e w' => e = .returned (.bool (decide (0 ≤ i ∧ i < 64))) ∧ Below w.heap.size w w' := by
  by_cases h0 : 0 ≤ i
  · go_enter Tryz.func183, Tryz.ntmps183
    go_wp2_with (go_at_call 170; refine (width64 _ _).mono ?_; rintro e w1 ⟨rfl, hb⟩)
    go_ret
    exact ⟨ret_bool (by simp [h0]), ((Below.refl _ _).alloc (Nat.le_refl _) _).trans (hb.mono (by simp))⟩
  · have hd : decide (0 ≤ i) = false := by simpa using h0
    go_enter Tryz.func183, Tryz.ntmps183
    go_wp2
    go_ret
    exact ⟨ret_bool (by simp), ((Below.refl _ _).alloc (Nat.le_refl _) _)⟩
theorem fitsT64 (a i : Int) (h : 0 ≤ i ∧ i < 64) (w : World) :
    Calls Tryz.prog 183 #[.agg #[.int .u64 a], .int .i64 i] w fun e w' => e = .returned (.bool true) ∧ Below w.heap.size w w' :=
  (fits64 a i w).mono fun _ _ h' => by rw [decide_eq_true h] at h'; exact h'
theorem fitsF64 (a i : Int) (h : ¬ (0 ≤ i ∧ i < 64)) (w : World) :
    Calls Tryz.prog 183 #[.agg #[.int .u64 a], .int .i64 i] w fun e w' => e = .returned (.bool false) ∧ Below w.heap.size w w' :=
  (fits64 a i w).mono fun _ _ h' => by rw [decide_eq_false h] at h'; exact h'
theorem shl8 (i : Nat) (hi : i < 8) : IntKind.u8.wrap (IntKind.u8.wrap 1 * 2 ^ i) = ((2 ^ i : Nat) : Int) := by
  have h : (2 ^ i : Nat) < 256 := Nat.lt_of_lt_of_le (Nat.pow_lt_pow_right (by decide) hi) (by decide)
  have e : ((2 ^ i : Nat) : Int) = 2 ^ i := by simp
  have e1 : IntKind.u8.wrap 1 = 1 := by decide
  rw [e1, Int.one_mul, ← e]
  generalize (2 ^ i : Nat) = q at h
  simp only [IntKind.wrap, IntKind.bits, IntKind.signed]
  simp
  omega
theorem shl16 (i : Nat) (hi : i < 16) : IntKind.u16.wrap (IntKind.u16.wrap 1 * 2 ^ i) = ((2 ^ i : Nat) : Int) := by
  have h : (2 ^ i : Nat) < 65536 := Nat.lt_of_lt_of_le (Nat.pow_lt_pow_right (by decide) hi) (by decide)
  have e : ((2 ^ i : Nat) : Int) = 2 ^ i := by simp
  have e1 : IntKind.u16.wrap 1 = 1 := by decide
  rw [e1, Int.one_mul, ← e]
  generalize (2 ^ i : Nat) = q at h
  simp only [IntKind.wrap, IntKind.bits, IntKind.signed]
  simp
  omega
theorem shl32 (i : Nat) (hi : i < 32) : IntKind.u32.wrap (IntKind.u32.wrap 1 * 2 ^ i) = ((2 ^ i : Nat) : Int) := by
  have h : (2 ^ i : Nat) < 4294967296 := Nat.lt_of_lt_of_le (Nat.pow_lt_pow_right (by decide) hi) (by decide)
  have e : ((2 ^ i : Nat) : Int) = 2 ^ i := by simp
  have e1 : IntKind.u32.wrap 1 = 1 := by decide
  rw [e1, Int.one_mul, ← e]
  generalize (2 ^ i : Nat) = q at h
  simp only [IntKind.wrap, IntKind.bits, IntKind.signed]
  simp
  omega
theorem shl64 (i : Nat) (hi : i < 64) : IntKind.u64.wrap (IntKind.u64.wrap 1 * 2 ^ i) = ((2 ^ i : Nat) : Int) := by
  have h : (2 ^ i : Nat) < 18446744073709551616 := Nat.lt_of_lt_of_le (Nat.pow_lt_pow_right (by decide) hi) (by decide)
  have e : ((2 ^ i : Nat) : Int) = 2 ^ i := by simp
  have e1 : IntKind.u64.wrap 1 = 1 := by decide
  rw [e1, Int.one_mul, ← e]
  generalize (2 ^ i : Nat) = q at h
  simp only [IntKind.wrap, IntKind.bits, IntKind.signed]
  simp
  omega
set_option maxHeartbeats 400000 in
theorem only64 (a : Int) (i : Nat) (hi : i < 64) (p : Nat) (hp : IntKind.u64.wrap (IntKind.u64.wrap 1 * 2 ^ i) = (p : Int)) (w : World) :
    Calls Tryz.prog 185 #[.agg #[.int .u64 a], .int .i64 i] w fun e w' => e = .returned (.agg #[.int .u64 p]) ∧ Below w.heap.size w w' := by
  go_enter Tryz.func185, Tryz.ntmps185
  go_wp2
  go_region_with (go_at_call 123; refine (of64 _ _ _).mono ?_; rintro e w1 ⟨rfl, hb⟩; obtain ⟨hc, hf⟩ := bcell hb)
  go_wp2
  exact bodyPost_ret (v := .agg #[.int .u64 p]) (by simp [results, Tryz.results185, go_sem, hc]) rfl ⟨rfl, (((((Below.refl _ w).alloc (Nat.le_refl _) _).alloc (by simp) _).drew).trans (hb.mono (by simp; omega))).setCell (by simp) _⟩
end Go.Proofs.YtahfobbiaimoiaaGreatDoor.O
namespace Go.Proofs.YtahfobbiaimoiaaGreatDoor.O
open Go.RowKit

/-- What a region keeps of the world at its start: one cell, and all that lay ahead. -/
theorem keep1 {w W w1 : World} {b : Nat} {v : Value} (h : W.cell? ⟨b, 0, none⟩ = some v ∧ b < W.heap.size ∧ Below w.heap.size w W) (hb : Below W.heap.size W w1) :
    w1.cell? ⟨b, 0, none⟩ = some v ∧ b < w1.heap.size ∧ Below w.heap.size w w1 :=
  have ⟨h1, h2, h3⟩ := h
  ⟨(hb.cell (p := ⟨b, 0, none⟩) h2).trans h1, Nat.lt_of_lt_of_le h2 hb.size, h3.trans (hb.mono h3.size)⟩
theorem and_pow (a n : Nat) : (a &&& 2 ^ n != 0) = a.testBit n := by
  rw [nat_bit]
  have h : 0 < 2 ^ n := Nat.two_pow_pos n
  rw [Nat.testBit_eq_decide_div_mod_eq]
  rcases Nat.mod_two_eq_zero_or_one (a / 2 ^ n) with e | e <;> rw [e] <;> simp
theorem out_of_bits64 {a : Nat} {i : Int} (ha : a < 18446744073709551616) (h : ¬ (0 ≤ i ∧ i < 64)) : (decide (0 ≤ i) && a.testBit i.toNat) = false := by
  by_cases h0 : 0 ≤ i
  · have : 64 ≤ i.toNat := by omega
    rw [Nat.testBit_lt_two_pow (Nat.lt_of_lt_of_le (show a < 2 ^ 64 from ha) (Nat.pow_le_pow_right (by decide) this))]; simp
  · simp [h0]
set_option maxHeartbeats 1000000 in
theorem has64 (a : Nat) (ha : a < 18446744073709551616) (i : Int) (w : World) :
    Calls Tryz.prog 169 #[.agg #[.int .u64 a], .int .i64 i] w fun e w' => e = .returned (.bool (decide (0 ≤ i) && a.testBit i.toNat)) ∧ Below w.heap.size w w' := by
  by_cases h : 0 ≤ i ∧ i < 64
  · obtain ⟨n, rfl⟩ := Int.eq_ofNat_of_zero_le h.1
    have hn : n < 64 := by omega
    have hsh := shl64 n hn
    have hp : (2 ^ n : Nat) < 18446744073709551616 := Nat.lt_of_lt_of_le (Nat.pow_lt_pow_right (by decide) hn) (by decide)
    generalize hq : (2 ^ n : Nat) = p at hsh hp
    have Hq : Hid (2 ^ n = p) := hq
    clear hq
    go_enter Tryz.func169, Tryz.ntmps169
    go_wp2
    go_region_held3 (fun W => W.cell? ⟨w.heap.size, 0, none⟩ = some (.int .u64 a) ∧ w.heap.size < W.heap.size ∧ Below w.heap.size w W) (first | (exact keep1 (by assumption) hb) | (exact keep1 ⟨by simp, by simp, ((Below.refl _ w).alloc (Nat.le_refl _) _).drew⟩ hb) | (exact ⟨by simp, by simp, ((Below.refl _ w).alloc (Nat.le_refl _) _).drew⟩) | go_keep) (first | (go_at_call 183; refine (fitsT64 _ _ h _).mono ?_; rintro e w1 ⟨rfl, hb⟩) | (go_at_call 185; refine (only64 _ _ hn p hsh _).mono ?_; rintro e w1 ⟨rfl, hb⟩) | (go_at_call 184; refine (meets64 _ _ ha hp _).mono ?_; rintro e w1 ⟨rfl, hb⟩))
    all_goals go_wp2
    all_goals go_ret
    all_goals exact ⟨ret_bool (by rw [← Hq.out, and_pow]; simp), by first | exact ‹_ ∧ _ ∧ _›.2.2 | assumption⟩
  · go_enter Tryz.func169, Tryz.ntmps169
    go_wp2
    first | go_region_with (go_at_call 183; refine (fitsF64 _ _ h _).mono ?_; rintro e w1 ⟨rfl, hb⟩) | fail
    all_goals go_wp2
    all_goals go_ret
    all_goals exact ⟨ret_bool (by rw [out_of_bits64 ha h]), (((Below.refl _ w).alloc (Nat.le_refl _) _).drew).trans (hb.mono (by simp))⟩
end Go.Proofs.YtahfobbiaimoiaaGreatDoor.O
namespace Go.Proofs.YtahfobbiaimoiaaGreatDoor.O
open Go.RowKit
set_option maxHeartbeats 1000000 in
theorem orC64 (a b c : Nat) (e : bits .or .u64 (a : Int) (b : Int) = (c : Int)) (w : World) :
    Calls Tryz.prog 95 #[.agg #[.int .u64 a], .agg #[.int .u64 b]] w fun e w' => e = .returned (.agg #[.int .u64 c]) ∧ Below w.heap.size w w' := by
  go_enter Tryz.func95, Tryz.ntmps95
  go_wp2_with (go_at_call 123; refine (of64 _ _ _).mono ?_; rintro e w1 ⟨rfl, hb⟩; obtain ⟨hc, hf⟩ := bcell hb)
  exact bodyPost_ret (v := .agg #[.int .u64 c]) (by simp [results, Tryz.results95, go_sem, hc]) rfl ⟨rfl, ((((((Below.refl _ w).alloc (Nat.le_refl _) _).alloc (by simp) _)).alloc (by simp; omega) _).trans (hb.mono (by simp; omega))).setCell (by simp; omega) _⟩
theorem or64 (a b : Nat) (ha : a < 18446744073709551616) (hb : b < 18446744073709551616) (w : World) :
    Calls Tryz.prog 95 #[.agg #[.int .u64 a], .agg #[.int .u64 b]] w fun e w' => e = .returned (.agg #[.int .u64 ((a ||| b : Nat) : Int)]) ∧ Below w.heap.size w w' := orC64 a b _ (u64_or_nat a b ha hb) w
set_option maxHeartbeats 1000000 in
theorem minusC64 (a b c : Nat) (e : bits .andNot .u64 (a : Int) (b : Int) = (c : Int)) (w : World) :
    Calls Tryz.prog 91 #[.agg #[.int .u64 a], .agg #[.int .u64 b]] w fun e w' => e = .returned (.agg #[.int .u64 c]) ∧ Below w.heap.size w w' := by
  go_enter Tryz.func91, Tryz.ntmps91
  go_wp2_with (go_at_call 123; refine (of64 _ _ _).mono ?_; rintro e w1 ⟨rfl, hb⟩; obtain ⟨hc, hf⟩ := bcell hb)
  exact bodyPost_ret (v := .agg #[.int .u64 c]) (by simp [results, Tryz.results91, go_sem, hc]) rfl ⟨rfl, ((((((Below.refl _ w).alloc (Nat.le_refl _) _).alloc (by simp) _)).alloc (by simp; omega) _).trans (hb.mono (by simp; omega))).setCell (by simp; omega) _⟩
theorem minus64 (a b : Nat) (ha : a < 18446744073709551616) (hb : b < 18446744073709551616) (w : World) :
    Calls Tryz.prog 91 #[.agg #[.int .u64 a], .agg #[.int .u64 b]] w fun e w' => e = .returned (.agg #[.int .u64 ((a &&& (18446744073709551615 - b) : Nat) : Int)]) ∧ Below w.heap.size w w' := minusC64 a b _ (u64_andNot_nat a b ha hb) w
set_option maxHeartbeats 1000000 in
theorem sub64 (a b : Nat) (ha : a < 18446744073709551616) (hb : b < 18446744073709551616) (w : World) :
    Calls Tryz.prog 94 #[.agg #[.int .u64 a], .agg #[.int .u64 b]] w fun e w' => e = .returned (.bool ((a &&& (18446744073709551615 - b) : Nat) == 0)) ∧ Below w.heap.size w w' := by
  go_enter Tryz.func94, Tryz.ntmps94
  go_wp2
  go_ret
  exact ⟨ret_bool (by rw [u64_andNot_nat a b ha hb, eq_cast]), ((Below.refl _ _).alloc (Nat.le_refl _) _).alloc (by simp) _⟩
theorem xor_full (n a : Nat) (h : a < 2 ^ n) : (2 ^ n - 1) ^^^ a = 2 ^ n - 1 - a := by
  have e : 2 ^ n - 1 - a = 2 ^ n - (a + 1) := by omega
  rw [e]
  apply Nat.eq_of_testBit_eq; intro i
  rw [Nat.testBit_xor, Nat.testBit_two_pow_sub_one, Nat.testBit_two_pow_sub_succ h]
  by_cases hi : i < n
  · simp [hi]
  · rw [Nat.testBit_lt_two_pow (Nat.lt_of_lt_of_le h (Nat.pow_le_pow_right (by decide) (by omega)))]; simp [hi]
end Go.Proofs.YtahfobbiaimoiaaGreatDoor.O
namespace Go.Proofs.YtahfobbiaimoiaaGreatDoor.O
open Go.RowKit
/-- The library's table of places, as its initialiser lays it. -/
def Tab (w : World) : Prop := (∀ i : Nat, i < 64 → w.cell? ⟨0, i, none⟩ = some (.int .u8 (dbTab.getD i 0 : Nat))) ∧ 1 ≤ w.heap.size
theorem Tab.below {w w' : World} {n : Nat} (h : Tab w) (hn : 1 ≤ n) (hb : Below n w w') : Tab w' :=
  ⟨fun i hi => (hb.cell (p := ⟨0, i, none⟩) (Nat.lt_of_lt_of_le (show 0 < 1 by decide) hn)).trans (h.1 i hi), Nat.le_trans h.2 hb.size⟩
theorem Tab.over {w w' : World} (h : Tab w) (hb : Below w.heap.size w w') : Tab w' := h.below h.2 hb
theorem neg_wrap (x : Nat) (h0 : 0 < x) (hx : x < 18446744073709551616) : IntKind.u64.wrap (-(x : Int)) = ((18446744073709551616 - x : Nat) : Int) := by
  simp only [IntKind.wrap, IntKind.bits, IntKind.signed]; simp; omega
theorem tz_at (x : Nat) (j : Fin 64) (l : List (Fin 64)) (hx : x < 18446744073709551616) (h : nums x = j :: l) :
    IntKind.u64.wrap (bits .and .u64 (x : Int) (IntKind.u64.wrap (-(x : Int))) * 285870213051353865) / 288230376151711744 = ((dbAt j.val : Nat) : Int) := by
  have h0 : 0 < x := by
    rcases Nat.eq_zero_or_pos x with e | e
    · subst e; rw [nums_zero] at h; cases h
    · exact e
  have e := and_neg_nums hx h
  rw [neg_wrap x h0 hx, u64_and_nat _ _ hx (by omega), show x &&& (18446744073709551616 - x) = 2 ^ j.val from e]
  unfold dbAt
  rw [IntKind.wrap_u64]
  omega
set_option maxRecDepth 100000 in
set_option maxHeartbeats 400000 in
theorem tz64mC (x q : Nat) (k : Int) (h0 : ((x : Int) == 0) = false) (hq : IntKind.u64.wrap (bits .and .u64 (x : Int) (IntKind.u64.wrap (-(x : Int))) * 285870213051353865) / 288230376151711744 = (q : Int)) (hq2 : q < 64) (w : World) (hk0 : 0 ≤ k) (hk1 : k < 64)
    (hc : w.cell? ⟨0, q, none⟩ = some (.int .u8 k)) :
    Calls Tryz.prog 143 #[.int .u64 x] w fun e w' => e = .returned (.int .i64 k) ∧ w' = w := by
  go_enter Tryz.func143, Tryz.ntmps143
  go_wp2
  go_ret
  exact ⟨rfl, rfl⟩
theorem tz64m (x : Nat) (hx : x < 18446744073709551616) (j : Fin 64) (l : List (Fin 64)) (h : nums x = j :: l) (w : World) (ht : Tab w) :
    Calls Tryz.prog 143 #[.int .u64 x] w fun e w' => e = .returned (.int .i64 j.val) ∧ w' = w := by
  obtain ⟨d1, d2⟩ := db_ok j
  refine tz64mC x (dbAt j.val) j.val ?_ (tz_at x j l hx h) d1 w (by omega) (by omega) ?_
  · rw [eq_cast]
    rcases Nat.eq_zero_or_pos x with e | e
    · subst e; rw [nums_zero] at h; cases h
    · simp; omega
  · rw [ht.1 _ d1]
    simp [d2]
set_option maxHeartbeats 400000 in
theorem low64 (x : Nat) (hx : x < 18446744073709551616) (w : World) (ht : Tab w) :
    Calls Tryz.prog 125 #[.agg #[.int .u64 x]] w fun e w' => e = .returned (.int .i64 (lowI (nums x))) ∧ Below w.heap.size w w' := by
  cases hn : nums x with
  | nil =>
    obtain rfl := nums_eq_nil (Nat.lt_of_lt_of_le hx (by decide)) hn
    go_enter Tryz.func125, Tryz.ntmps125
    go_wp2
    go_ret
    exact ⟨rfl, (Below.refl _ _).alloc (Nat.le_refl _) _⟩
  | cons j l =>
    have h0 : ((x : Int) == 0) = false := by
      rw [eq_cast]
      rcases Nat.eq_zero_or_pos x with e | e
      · subst e; rw [nums_zero] at hn; cases hn
      · simp; omega
    have Hn : Hid (nums x = j :: l) := hn
    clear hn
    go_enter Tryz.func125, Tryz.ntmps125
    go_wp2_with fail
    refine (tz64m x (by omega) j l Hn.out _ (ht.over ((Below.refl _ _).alloc (Nat.le_refl _) _))).mono ?_
    rintro e w1 ⟨rfl, rfl⟩
    go_wp2
    go_ret
    exact ⟨rfl, (Below.refl _ _).alloc (Nat.le_refl _) _⟩
theorem below_eq64 (i : Nat) (hi : i < 64) (x : Nat) (hx : x < 18446744073709551616) : bits .and .u64 (x : Int) (IntKind.u64.wrap (((2 ^ i : Nat) : Int) - 1)) = ((x % 2 ^ i : Nat) : Int) := by
  have h : (2 ^ i : Nat) < 18446744073709551616 := Nat.lt_of_lt_of_le (Nat.pow_lt_pow_right (by decide) hi) (by decide)
  have hp : 0 < 2 ^ i := Nat.two_pow_pos i
  have e : IntKind.u64.wrap (((2 ^ i : Nat) : Int) - 1) = ((2 ^ i - 1 : Nat) : Int) := by
    generalize (2 ^ i : Nat) = q at h hp
    simp only [IntKind.wrap, IntKind.bits, IntKind.signed]; simp; omega
  rw [e, u64_and_nat x _ hx (by omega), Nat.and_two_pow_sub_one_eq_mod]
set_option maxHeartbeats 1000000 in
theorem belowC64 (x p y i : Nat) (hi : i < 64) (hp : IntKind.u64.wrap (IntKind.u64.wrap 1 * 2 ^ i) = (p : Int)) (hy : bits .and .u64 (x : Int) (IntKind.u64.wrap ((p : Int) - 1)) = (y : Int)) (w : World) :
    Calls Tryz.prog 144 #[.agg #[.int .u64 x], .int .i64 i] w fun e w' => e = .returned (.agg #[.int .u64 y]) ∧ Below w.heap.size w w' := by
  go_enter Tryz.func144, Tryz.ntmps144
  go_wp2_with (go_at_call 170; refine (width64 _ _).mono ?_; rintro e w1 ⟨rfl, hb⟩; obtain ⟨hc, hf⟩ := bcell hb)
  have hz : w.heap.size + 1 < w1.heap.size := by have := hb.size; simp at this; omega
  have c1 : w1.cell? ⟨w.heap.size, 0, none⟩ = some (.int .u64 x) := by rw [hc _ _ (by simp; omega)]; simp
  have c2 : w1.cell? ⟨w.heap.size + 1, 0, none⟩ = some (.int .u64 0) := by rw [hc _ _ (by simp)]; simp
  have f2 : w1.frozen? ⟨w.heap.size + 1, 0, none⟩ = false := by rw [hf _ _ (by simp)]; simp
  clear hc hf
  go_region_with (go_at_call 123; refine (of64 _ _ _).mono ?_; rintro e w2 ⟨rfl, hb2⟩; have c3 : w2.cell? ⟨w.heap.size + 1, 0, none⟩ = some (.int .u64 0) := (hb2.cell (p := ⟨w.heap.size + 1, 0, none⟩) hz).trans c2; have f3 : w2.frozen? ⟨w.heap.size + 1, 0, none⟩ = false := (hb2.frozen (p := ⟨w.heap.size + 1, 0, none⟩) hz).trans f2)
  all_goals go_wp2
  all_goals exact bodyPost_ret (v := .agg #[.int .u64 y]) (by simp [results, Tryz.results144, go_sem, c3]) rfl ⟨rfl, ((((((Below.refl _ w).alloc (Nat.le_refl _) _).alloc (by simp) _).trans (hb.mono (by simp; omega))).drew).trans (hb2.mono (by simp; omega))).setCell (by simp) _⟩
set_option maxHeartbeats 1000000 in
theorem belowN64 (x : Nat) (i : Int) (hi : i < 0) (w : World) :
    Calls Tryz.prog 144 #[.agg #[.int .u64 x], .int .i64 i] w fun e w' => e = .returned (.agg #[.int .u64 0]) ∧ Below w.heap.size w w' := by
  go_enter Tryz.func144, Tryz.ntmps144
  go_wp2
  exact bodyPost_ret (v := .agg #[.int .u64 0]) (by simp [results, Tryz.results144, go_sem]) rfl ⟨rfl, (((Below.refl _ w).alloc (Nat.le_refl _) _).alloc (by simp) _)⟩
set_option maxHeartbeats 1000000 in
theorem belowA64 (x : Nat) (i : Int) (hi : 64 ≤ i) (w : World) :
    Calls Tryz.prog 144 #[.agg #[.int .u64 x], .int .i64 i] w fun e w' => e = .returned (.agg #[.int .u64 x]) ∧ Below w.heap.size w w' := by
  go_enter Tryz.func144, Tryz.ntmps144
  go_wp2_with (go_at_call 170; refine (width64 _ _).mono ?_; rintro e w1 ⟨rfl, hb⟩; obtain ⟨hc, hf⟩ := bcell hb)
  exact bodyPost_ret (v := .agg #[.int .u64 x]) (by simp [results, Tryz.results144, go_sem, hc]) rfl ⟨rfl, ((((Below.refl _ w).alloc (Nat.le_refl _) _).alloc (by simp) _).trans (hb.mono (by simp; omega))).setCell (by simp) _⟩
/-- What of x is below i. -/
def belowX (x : Nat) (i : Int) : Nat := if i < 0 then 0 else x % 2 ^ i.toNat
theorem below64 (x : Nat) (hx : x < 18446744073709551616) (i : Int) (w : World) :
    Calls Tryz.prog 144 #[.agg #[.int .u64 x], .int .i64 i] w fun e w' => e = .returned (.agg #[.int .u64 (belowX x i)]) ∧ Below w.heap.size w w' := by
  unfold belowX
  by_cases h0 : i < 0
  · rw [if_pos h0]; exact belowN64 x i h0 w
  · rw [if_neg h0]
    obtain ⟨n, rfl⟩ := Int.eq_ofNat_of_zero_le (show 0 ≤ i by omega)
    by_cases h1 : n < 64
    · exact belowC64 x _ _ n h1 (shl64 n h1) (below_eq64 n h1 x hx) w
    · have e : x % 2 ^ (n : Int).toNat = x := Nat.mod_eq_of_lt (Nat.lt_of_lt_of_le (show x < 2 ^ 64 from hx) (Nat.pow_le_pow_right (by decide) (by omega)))
      rw [e]; exact belowA64 x n (by omega) w
end Go.Proofs.YtahfobbiaimoiaaGreatDoor.O
namespace Go.Proofs.YtahfobbiaimoiaaGreatDoor.O
open Go.RowKit
/-- x less what of it is below i. -/
theorem minus_bits (n x b : Nat) (hb : b < 2 ^ n) (j : Nat) (hj : j < n) : (x &&& (2 ^ n - 1 - b)).testBit j = (x.testBit j && !b.testBit j) := by
  have e : 2 ^ n - 1 - b = 2 ^ n - (b + 1) := by omega
  rw [Nat.testBit_and, e, Nat.testBit_two_pow_sub_succ hb]; simp [hj]
theorem belowX_le (x : Nat) (i : Int) : belowX x i ≤ x := by
  unfold belowX; split
  · exact Nat.zero_le _
  · exact Nat.mod_le _ _
theorem belowX_bit (x : Nat) (i : Int) (j : Nat) : (belowX x i).testBit j = (x.testBit j && decide ((j : Int) < i)) := by
  unfold belowX; split
  · have : ¬ (j : Int) < i := by omega
    simp [this]
  · rw [Nat.testBit_mod_two_pow]
    have : (j < i.toNat) ↔ ((j : Int) < i) := by omega
    simp [this, Bool.and_comm]
theorem nums_below (x : Nat) (i : Int) : nums (belowX x i) = toI i (nums x) := nums_to fun j => belowX_bit x i j.val
theorem nums_rest64 (x : Nat) (hx : x < 18446744073709551616) (i : Int) : x &&& (18446744073709551615 - belowX x i) < 18446744073709551616 ∧ nums (x &&& (18446744073709551615 - belowX x i)) = fromI i (nums x) := by
  have hb : belowX x i < 2 ^ 64 := Nat.lt_of_le_of_lt (belowX_le x i) hx
  refine ⟨Nat.lt_of_le_of_lt Nat.and_le_left hx, nums_from fun j => ?_⟩
  by_cases hj : j.val < 64
  · have e := minus_bits 64 x (belowX x i) hb j.val hj
    rw [show (18446744073709551615 - belowX x i) = 2 ^ 64 - 1 - belowX x i from rfl, e, belowX_bit]
    have : decide (i ≤ (j.val : Int)) = !decide ((j.val : Int) < i) := by
      by_cases h : (j.val : Int) < i
      · simp [h]
      · simp [h]; omega
    rw [this]
    cases x.testBit j.val <;> simp
  · have h0 : x.testBit j.val = false := Nat.testBit_lt_two_pow (Nat.lt_of_lt_of_le (show x < 2 ^ 64 from hx) (Nat.pow_le_pow_right (by decide) (by omega)))
    rw [Nat.testBit_and, h0]; simp
set_option maxHeartbeats 1000000 in
theorem nextC64 (x b y : Nat) (i : Int) (hb : b = belowX x i) (hy : y = x &&& (18446744073709551615 - b)) (hx : x < 18446744073709551616) (hb' : b < 18446744073709551616) (hy' : y < 18446744073709551616) (k : Int) (hk : k = lowI (nums y)) (w : World) (ht : Tab w) :
    Calls Tryz.prog 126 #[.agg #[.int .u64 x], .int .i64 i] w fun e w' => e = .returned (.int .i64 k) ∧ Below w.heap.size w w' := by
  have h1 : ∀ W, Calls Tryz.prog 144 #[.agg #[.int .u64 x], .int .i64 i] W fun e w' => e = .returned (.agg #[.int .u64 b]) ∧ Below W.heap.size W w' := by subst hb; exact below64 x hx i
  have h2 : ∀ W, Calls Tryz.prog 91 #[.agg #[.int .u64 x], .agg #[.int .u64 b]] W fun e w' => e = .returned (.agg #[.int .u64 y]) ∧ Below W.heap.size W w' := by subst hy; exact minus64 x b hx hb'
  have h3 : ∀ W, Tab W → Calls Tryz.prog 125 #[.agg #[.int .u64 y]] W fun e w' => e = .returned (.int .i64 k) ∧ Below W.heap.size W w' := by subst hk; exact low64 y hy'
  clear hb hy hk
  have H1 : Hid _ := h1
  have H2 : Hid _ := h2
  have H3 : Hid _ := h3
  clear h1 h2 h3
  go_enter Tryz.func126, Tryz.ntmps126
  go_wp2
  go_region_held3 (fun W => W.cell? ⟨w.heap.size, 0, none⟩ = some (.int .u64 x) ∧ w.heap.size < W.heap.size ∧ Below w.heap.size w W) (first | (exact keep1 (by assumption) hb) | (exact keep1 ⟨by simp, by simp, ((Below.refl _ w).alloc (Nat.le_refl _) _).drew⟩ hb) | (exact ⟨by simp, by simp, ((Below.refl _ w).alloc (Nat.le_refl _) _).drew⟩)) (first | (go_at_call 144; refine (H1.out _).mono ?_; rintro e w1 ⟨rfl, hb⟩) | (go_at_call 91; refine (H2.out _).mono ?_; rintro e w1 ⟨rfl, hb⟩) | (go_at_call 125; refine (H3.out _ (ht.over ‹_ ∧ _ ∧ _›.2.2)).mono ?_; rintro e w1 ⟨rfl, hb⟩))
  all_goals go_wp2
  all_goals go_ret
  all_goals exact ⟨rfl, ‹_ ∧ _ ∧ _›.2.2⟩
theorem next64 (x : Nat) (hx : x < 18446744073709551616) (i : Int) (w : World) (ht : Tab w) :
    Calls Tryz.prog 126 #[.agg #[.int .u64 x], .int .i64 i] w fun e w' => e = .returned (.int .i64 (lowI (fromI i (nums x)))) ∧ Below w.heap.size w w' := by
  have h := nums_rest64 x hx i
  exact nextC64 x _ _ i rfl rfl hx (Nat.lt_of_le_of_lt (belowX_le x i) hx) h.1 _ (by rw [h.2]) w ht
end Go.Proofs.YtahfobbiaimoiaaGreatDoor.O
