/- The word's lowest number by the library's table, and what of a set is below a number. -/
import Derived.Test.YtbbmjfjedonfaaaDoorTwo
namespace Go.Proofs.YtbbmjfjedonfaaaDoor
open Go.RowKit
/-- The library's table of places, as its initialiser lays it. -/
def Tab (w : World) : Prop := (∀ i : Nat, i < 64 → w.cell? ⟨0, i, none⟩ = some (.int .u8 (dbTab.getD i 0 : Nat))) ∧ 1 ≤ w.heap.size
theorem Tab.below {w w' : World} {n : Nat} (h : Tab w) (hn : 1 ≤ n) (hb : Below n w w') : Tab w' :=
  ⟨fun i hi => (hb.cell (p := ⟨0, i, none⟩) (Nat.lt_of_lt_of_le (show 0 < 1 by decide) hn)).trans (h.1 i hi), Nat.le_trans h.2 hb.size⟩
theorem Tab.over {w w' : World} (h : Tab w) (hb : Below w.heap.size w w') : Tab w' := h.below h.2 hb
theorem neg_wrap (x : Nat) (h0 : 0 < x) (hx : x < 18446744073709551616) : IntKind.u64.wrap (-(x : Int)) = ((18446744073709551616 - x : Nat) : Int) := by
  simp only [IntKind.wrap, IntKind.bits, IntKind.signed]; simp; omega
theorem tz_at (x : Nat) (j : Fin 64) (l : List (Fin 64)) (hx : x < 18446744073709551616) (h : nums x = j :: l) :
    IntKind.u64.wrap (bits .and .u64 (x : Int) (IntKind.u64.wrap (-(x : Int))) * 285870213051353865) / 288230376151711744 = ((dbAt j.val : Nat) : Int) := by
  have h0 : 0 < x := by
    rcases Nat.eq_zero_or_pos x with e | e
    · subst e; rw [nums_zero] at h; cases h
    · exact e
  have e := and_neg_nums hx h
  rw [neg_wrap x h0 hx, u64_and_nat _ _ hx (by omega), show x &&& (18446744073709551616 - x) = 2 ^ j.val from e]
  unfold dbAt
  rw [IntKind.wrap_u64]
  omega
set_option maxRecDepth 100000 in
set_option maxHeartbeats 400000 in
theorem tz64mC (x q : Nat) (k : Int) (h0 : ((x : Int) == 0) = false) (hq : IntKind.u64.wrap (bits .and .u64 (x : Int) (IntKind.u64.wrap (-(x : Int))) * 285870213051353865) / 288230376151711744 = (q : Int)) (hq2 : q < 64) (w : World) (hk0 : 0 ≤ k) (hk1 : k < 64)
    (hc : w.cell? ⟨0, q, none⟩ = some (.int .u8 k)) :
    Calls Tryd.prog 40 #[.int .u64 x] w fun e w' => e = .returned (.int .i64 k) ∧ w' = w := by
  go_enter Tryd.func40, Tryd.ntmps40
  go_wp2
  go_ret
  exact ⟨rfl, rfl⟩
theorem tz64m (x : Nat) (hx : x < 18446744073709551616) (j : Fin 64) (l : List (Fin 64)) (h : nums x = j :: l) (w : World) (ht : Tab w) :
    Calls Tryd.prog 40 #[.int .u64 x] w fun e w' => e = .returned (.int .i64 j.val) ∧ w' = w := by
  obtain ⟨d1, d2⟩ := db_ok j
  refine tz64mC x (dbAt j.val) j.val ?_ (tz_at x j l hx h) d1 w (by omega) (by omega) ?_
  · rw [eq_cast]
    rcases Nat.eq_zero_or_pos x with e | e
    · subst e; rw [nums_zero] at h; cases h
    · simp; omega
  · rw [ht.1 _ d1]
    simp [d2]
set_option maxHeartbeats 400000 in
theorem low64 (x : Nat) (hx : x < 18446744073709551616) (w : World) (ht : Tab w) :
    Calls Tryd.prog 24 #[.agg #[.int .u64 x]] w fun e w' => e = .returned (.int .i64 (lowI (nums x))) ∧ Below w.heap.size w w' := by
  cases hn : nums x with
  | nil =>
    obtain rfl := nums_eq_nil (Nat.lt_of_lt_of_le hx (by decide)) hn
    go_enter Tryd.func24, Tryd.ntmps24
    go_wp2
    go_ret
    exact ⟨rfl, (Below.refl _ _).alloc (Nat.le_refl _) _⟩
  | cons j l =>
    have h0 : ((x : Int) == 0) = false := by
      rw [eq_cast]
      rcases Nat.eq_zero_or_pos x with e | e
      · subst e; rw [nums_zero] at hn; cases hn
      · simp; omega
    have Hn : Hid (nums x = j :: l) := hn
    clear hn
    go_enter Tryd.func24, Tryd.ntmps24
    go_wp2_with fail
    refine (tz64m x (by omega) j l Hn.out _ (ht.over ((Below.refl _ _).alloc (Nat.le_refl _) _))).mono ?_
    rintro e w1 ⟨rfl, rfl⟩
    go_wp2
    go_ret
    exact ⟨rfl, (Below.refl _ _).alloc (Nat.le_refl _) _⟩
theorem below_eq64 (i : Nat) (hi : i < 64) (x : Nat) (hx : x < 18446744073709551616) : bits .and .u64 (x : Int) (IntKind.u64.wrap (((2 ^ i : Nat) : Int) - 1)) = ((x % 2 ^ i : Nat) : Int) := by
  have h : (2 ^ i : Nat) < 18446744073709551616 := Nat.lt_of_lt_of_le (Nat.pow_lt_pow_right (by decide) hi) (by decide)
  have hp : 0 < 2 ^ i := Nat.two_pow_pos i
  have e : IntKind.u64.wrap (((2 ^ i : Nat) : Int) - 1) = ((2 ^ i - 1 : Nat) : Int) := by
    generalize (2 ^ i : Nat) = q at h hp
    simp only [IntKind.wrap, IntKind.bits, IntKind.signed]; simp; omega
  rw [e, u64_and_nat x _ hx (by omega), Nat.and_two_pow_sub_one_eq_mod]
set_option maxHeartbeats 1000000 in
theorem belowC64 (x p y i : Nat) (hi : i < 64) (hp : IntKind.u64.wrap (IntKind.u64.wrap 1 * 2 ^ i) = (p : Int)) (hy : bits .and .u64 (x : Int) (IntKind.u64.wrap ((p : Int) - 1)) = (y : Int)) (w : World) :
    Calls Tryd.prog 46 #[.agg #[.int .u64 x], .int .i64 i] w fun e w' => e = .returned (.agg #[.int .u64 y]) ∧ Below w.heap.size w w' := by
  go_enter Tryd.func46, Tryd.ntmps46
  go_wp2_with (go_at_call 45; refine (width64 _ _).mono ?_; rintro e w1 ⟨rfl, hb⟩; obtain ⟨hc, hf⟩ := bcell hb)
  have hz : w.heap.size + 1 < w1.heap.size := by have := hb.size; simp at this; omega
  have c1 : w1.cell? ⟨w.heap.size, 0, none⟩ = some (.int .u64 x) := by rw [hc _ _ (by simp; omega)]; simp
  have c2 : w1.cell? ⟨w.heap.size + 1, 0, none⟩ = some (.int .u64 0) := by rw [hc _ _ (by simp)]; simp
  have f2 : w1.frozen? ⟨w.heap.size + 1, 0, none⟩ = false := by rw [hf _ _ (by simp)]; simp
  clear hc hf
  go_region_with (go_at_call 36; refine (of64 _ _ _).mono ?_; rintro e w2 ⟨rfl, hb2⟩; have c3 : w2.cell? ⟨w.heap.size + 1, 0, none⟩ = some (.int .u64 0) := (hb2.cell (p := ⟨w.heap.size + 1, 0, none⟩) hz).trans c2; have f3 : w2.frozen? ⟨w.heap.size + 1, 0, none⟩ = false := (hb2.frozen (p := ⟨w.heap.size + 1, 0, none⟩) hz).trans f2)
  all_goals go_wp2
  all_goals exact bodyPost_ret (v := .agg #[.int .u64 y]) (by simp [results, Tryd.results46, go_sem, c3]) rfl ⟨rfl, ((((((Below.refl _ w).alloc (Nat.le_refl _) _).alloc (by simp) _).trans (hb.mono (by simp; omega))).drew).trans (hb2.mono (by simp; omega))).setCell (by simp) _⟩
set_option maxHeartbeats 1000000 in
theorem belowN64 (x : Nat) (i : Int) (hi : i < 0) (w : World) :
    Calls Tryd.prog 46 #[.agg #[.int .u64 x], .int .i64 i] w fun e w' => e = .returned (.agg #[.int .u64 0]) ∧ Below w.heap.size w w' := by
  go_enter Tryd.func46, Tryd.ntmps46
  go_wp2
  exact bodyPost_ret (v := .agg #[.int .u64 0]) (by simp [results, Tryd.results46, go_sem]) rfl ⟨rfl, (((Below.refl _ w).alloc (Nat.le_refl _) _).alloc (by simp) _)⟩
set_option maxHeartbeats 1000000 in
theorem belowA64 (x : Nat) (i : Int) (hi : 64 ≤ i) (w : World) :
    Calls Tryd.prog 46 #[.agg #[.int .u64 x], .int .i64 i] w fun e w' => e = .returned (.agg #[.int .u64 x]) ∧ Below w.heap.size w w' := by
  go_enter Tryd.func46, Tryd.ntmps46
  go_wp2_with (go_at_call 45; refine (width64 _ _).mono ?_; rintro e w1 ⟨rfl, hb⟩; obtain ⟨hc, hf⟩ := bcell hb)
  exact bodyPost_ret (v := .agg #[.int .u64 x]) (by simp [results, Tryd.results46, go_sem, hc]) rfl ⟨rfl, ((((Below.refl _ w).alloc (Nat.le_refl _) _).alloc (by simp) _).trans (hb.mono (by simp; omega))).setCell (by simp) _⟩
/-- What of x is below i. -/
def belowX (x : Nat) (i : Int) : Nat := if i < 0 then 0 else x % 2 ^ i.toNat
theorem below64 (x : Nat) (hx : x < 18446744073709551616) (i : Int) (w : World) :
    Calls Tryd.prog 46 #[.agg #[.int .u64 x], .int .i64 i] w fun e w' => e = .returned (.agg #[.int .u64 (belowX x i)]) ∧ Below w.heap.size w w' := by
  unfold belowX
  by_cases h0 : i < 0
  · rw [if_pos h0]; exact belowN64 x i h0 w
  · rw [if_neg h0]
    obtain ⟨n, rfl⟩ := Int.eq_ofNat_of_zero_le (show 0 ≤ i by omega)
    by_cases h1 : n < 64
    · exact belowC64 x _ _ n h1 (shl64 n h1) (below_eq64 n h1 x hx) w
    · have e : x % 2 ^ (n : Int).toNat = x := Nat.mod_eq_of_lt (Nat.lt_of_lt_of_le (show x < 2 ^ 64 from hx) (Nat.pow_le_pow_right (by decide) (by omega)))
      rw [e]; exact belowA64 x n (by omega) w
end Go.Proofs.YtbbmjfjedonfaaaDoor
