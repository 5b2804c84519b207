/- Rank, High, Nth: how many are below a number, the greatest, the one with so many below it. -/
import Derived.Test.YtpbjmdkfijlooaaGreatDoorAll
import Derived.Test.YtpbjmdkfijlooaaGreatDoorOnes
namespace Go.Proofs.YtpbjmdkfijlooaaGreatDoor
open Go.RowKit Go.Shelf
attribute [local go_sem] Oper.semAt_some
/-- The last of a list; -1: none. -/
def lastI (l : List (Fin 64)) : Int := match l.getLast? with | none => -1 | some j => j.val
/-- The one at a place; -1: none. -/
def nthI (l : List (Fin 64)) (k : Int) : Int := if 0 ≤ k then match l[k.toNat]? with | none => -1 | some j => j.val else -1
theorem bitLen_last (x : Nat) (hx : x < 18446744073709551616) : (Lib.bitLen x : Int) - 1 = lastI (nums x) := by
  unfold lastI
  cases h : (nums x).getLast? with
  | none =>
    have e : nums x = [] := List.getLast?_eq_none_iff.1 h
    obtain rfl := nums_eq_nil hx e
    rfl
  | some j =>
    obtain ⟨pre, hp⟩ := List.getLast?_eq_some_iff.1 h
    have hj : x.testBit j.val = true := (mem_nums x j).1 (by rw [hp]; simp)
    have h1 : 2 ^ j.val ≤ x := Nat.ge_two_pow_of_testBit hj
    have h2 : x < 2 ^ (j.val + 1) := by
      apply Nat.lt_pow_two_of_testBit
      intro i hi
      rcases Nat.lt_or_ge i 64 with h64 | h64
      · cases hb : x.testBit i with
        | false => rfl
        | true =>
          have hm : (⟨i, h64⟩ : Fin 64) ∈ nums x := (mem_nums x _).2 hb
          have hs := sorted_nums x
          rw [hp] at hm hs
          rcases List.mem_append.1 hm with hm | hm
          · have := (List.pairwise_append.1 hs).2.2 _ hm j (by simp)
            have : i < j.val := this
            omega
          · have : i = j.val := congrArg Fin.val (List.mem_singleton.1 hm)
            omega
      · exact Nat.testBit_lt_two_pow (Nat.lt_of_lt_of_le (show x < 2 ^ 64 from hx) (Nat.pow_le_pow_right (by decide) h64))
    have e := Lib.bitLen_shift j.val x h1 hx
    have hp2 := Nat.two_pow_pos j.val
    have e1 : x / 2 ^ j.val = 1 := by
      rw [Nat.div_eq_iff hp2]
      rw [Nat.pow_succ] at h2
      omega
    rw [e1, show Lib.bitLen 1 = 1 from by decide] at e
    show _ = (j.val : Int)
    omega
set_option maxHeartbeats 1000000 in
theorem highC8 (x b : Nat) (hx : x < 256) (k : Int) (hb : b = Lib.bitLen x) (hl : b ≤ 64) (hk : (b : Int) - 1 = k) (w : World) :
    Calls Tryz.prog 69 #[.agg #[.int .u8 x]] w fun e w' => e = .returned (.int .i64 k) ∧ Below w.heap.size w w' := by
  have h1 : Hid (∀ W, Calls Tryz.prog 28 #[.int .u64 x] W fun e w' => e = .returned (.int .i64 b) ∧ w' = W) := by subst hb; exact len64m x (by omega)
  clear hb
  go_enter Tryz.func69, Tryz.ntmps69
  go_wp2_with (go_at_call 28; refine (h1.out _).mono ?_; rintro e w1 ⟨rfl, rfl⟩)
  go_ret
  exact ⟨rfl, (Below.refl _ _).alloc (Nat.le_refl _) _⟩
theorem high8 (x : Nat) (hx : x < 256) (w : World) :
    Calls Tryz.prog 69 #[.agg #[.int .u8 x]] w fun e w' => e = .returned (.int .i64 (lastI (nums x))) ∧ Below w.heap.size w w' :=
  highC8 x _ hx _ rfl (Lib.bitLen_le x 64 (Nat.le_refl _) (show x < 2 ^ 64 by omega)) (bitLen_last x (by omega)) w
set_option maxHeartbeats 1000000 in
theorem highC16 (x b : Nat) (hx : x < 65536) (k : Int) (hb : b = Lib.bitLen x) (hl : b ≤ 64) (hk : (b : Int) - 1 = k) (w : World) :
    Calls Tryz.prog 11 #[.agg #[.int .u16 x]] w fun e w' => e = .returned (.int .i64 k) ∧ Below w.heap.size w w' := by
  have h1 : Hid (∀ W, Calls Tryz.prog 28 #[.int .u64 x] W fun e w' => e = .returned (.int .i64 b) ∧ w' = W) := by subst hb; exact len64m x (by omega)
  clear hb
  go_enter Tryz.func11, Tryz.ntmps11
  go_wp2_with (go_at_call 28; refine (h1.out _).mono ?_; rintro e w1 ⟨rfl, rfl⟩)
  go_ret
  exact ⟨rfl, (Below.refl _ _).alloc (Nat.le_refl _) _⟩
theorem high16 (x : Nat) (hx : x < 65536) (w : World) :
    Calls Tryz.prog 11 #[.agg #[.int .u16 x]] w fun e w' => e = .returned (.int .i64 (lastI (nums x))) ∧ Below w.heap.size w w' :=
  highC16 x _ hx _ rfl (Lib.bitLen_le x 64 (Nat.le_refl _) (show x < 2 ^ 64 by omega)) (bitLen_last x (by omega)) w
set_option maxHeartbeats 1000000 in
theorem highC32 (x b : Nat) (hx : x < 4294967296) (k : Int) (hb : b = Lib.bitLen x) (hl : b ≤ 64) (hk : (b : Int) - 1 = k) (w : World) :
    Calls Tryz.prog 13 #[.agg #[.int .u32 x]] w fun e w' => e = .returned (.int .i64 k) ∧ Below w.heap.size w w' := by
  have h1 : Hid (∀ W, Calls Tryz.prog 28 #[.int .u64 x] W fun e w' => e = .returned (.int .i64 b) ∧ w' = W) := by subst hb; exact len64m x (by omega)
  clear hb
  go_enter Tryz.func13, Tryz.ntmps13
  go_wp2_with (go_at_call 28; refine (h1.out _).mono ?_; rintro e w1 ⟨rfl, rfl⟩)
  go_ret
  exact ⟨rfl, (Below.refl _ _).alloc (Nat.le_refl _) _⟩
theorem high32 (x : Nat) (hx : x < 4294967296) (w : World) :
    Calls Tryz.prog 13 #[.agg #[.int .u32 x]] w fun e w' => e = .returned (.int .i64 (lastI (nums x))) ∧ Below w.heap.size w w' :=
  highC32 x _ hx _ rfl (Lib.bitLen_le x 64 (Nat.le_refl _) (show x < 2 ^ 64 by omega)) (bitLen_last x (by omega)) w
set_option maxHeartbeats 1000000 in
theorem highC64 (x b : Nat) (hx : x < 18446744073709551616) (k : Int) (hb : b = Lib.bitLen x) (hl : b ≤ 64) (hk : (b : Int) - 1 = k) (w : World) :
    Calls Tryz.prog 51 #[.agg #[.int .u64 x]] w fun e w' => e = .returned (.int .i64 k) ∧ Below w.heap.size w w' := by
  have h1 : Hid (∀ W, Calls Tryz.prog 28 #[.int .u64 x] W fun e w' => e = .returned (.int .i64 b) ∧ w' = W) := by subst hb; exact len64m x (by omega)
  clear hb
  go_enter Tryz.func51, Tryz.ntmps51
  go_wp2_with (go_at_call 28; refine (h1.out _).mono ?_; rintro e w1 ⟨rfl, rfl⟩)
  go_ret
  exact ⟨rfl, (Below.refl _ _).alloc (Nat.le_refl _) _⟩
theorem high64 (x : Nat) (hx : x < 18446744073709551616) (w : World) :
    Calls Tryz.prog 51 #[.agg #[.int .u64 x]] w fun e w' => e = .returned (.int .i64 (lastI (nums x))) ∧ Below w.heap.size w w' :=
  highC64 x _ hx _ rfl (Lib.bitLen_le x 64 (Nat.le_refl _) (show x < 2 ^ 64 by omega)) (bitLen_last x (by omega)) w
set_option maxHeartbeats 1000000 in
theorem rankC8 (x b : Nat) (i : Int) (hx : x < 256) (hb : b = belowX x i) (k : Nat) (hk : (nums b).length = k) (w : World) :
    Calls Tryz.prog 71 #[.agg #[.int .u8 x], .int .i64 i] w fun e w' => e = .returned (.int .i64 k) ∧ Below w.heap.size w w' := by
  have hbl : b < 256 := by rw [hb]; exact Nat.lt_of_le_of_lt (belowX_le x i) hx
  have h1 : Hid (∀ W, Calls Tryz.prog 95 #[.agg #[.int .u8 x], .int .i64 i] W fun e w' => e = .returned (.agg #[.int .u8 b]) ∧ Below W.heap.size W w') := by subst hb; exact below8 x hx i
  have h2 : Hid (∀ W, Calls Tryz.prog 67 #[.agg #[.int .u8 b]] W fun e w' => e = .returned (.int .i64 k) ∧ Below W.heap.size W w') := by subst hk; exact len8 b hbl
  clear hb hk
  go_enter Tryz.func71, Tryz.ntmps71
  go_wp2_with (first | (go_at_call 95; refine (h1.out _).mono ?_; rintro e w1 ⟨rfl, hb1⟩) | (go_at_call 67; refine (h2.out _).mono ?_; rintro e w2 ⟨rfl, hb2⟩))
  go_ret
  exact ⟨rfl, (((Below.refl _ w).alloc (Nat.le_refl _) _).trans (hb1.mono (by simp))).trans (hb2.mono (by have := hb1.size; simp at this; omega))⟩
theorem rank8 (x : Nat) (hx : x < 256) (i : Int) (w : World) :
    Calls Tryz.prog 71 #[.agg #[.int .u8 x], .int .i64 i] w fun e w' => e = .returned (.int .i64 ((toI i (nums x)).length : Nat)) ∧ Below w.heap.size w w' :=
  rankC8 x _ i hx rfl _ (by rw [nums_below]) w
set_option maxHeartbeats 1000000 in
theorem rankC64 (x b : Nat) (i : Int) (hx : x < 18446744073709551616) (hb : b = belowX x i) (k : Nat) (hk : (nums b).length = k) (w : World) :
    Calls Tryz.prog 54 #[.agg #[.int .u64 x], .int .i64 i] w fun e w' => e = .returned (.int .i64 k) ∧ Below w.heap.size w w' := by
  have hbl : b < 18446744073709551616 := by rw [hb]; exact Nat.lt_of_le_of_lt (belowX_le x i) hx
  have h1 : Hid (∀ W, Calls Tryz.prog 88 #[.agg #[.int .u64 x], .int .i64 i] W fun e w' => e = .returned (.agg #[.int .u64 b]) ∧ Below W.heap.size W w') := by subst hb; exact below64 x hx i
  have h2 : Hid (∀ W, Calls Tryz.prog 48 #[.agg #[.int .u64 b]] W fun e w' => e = .returned (.int .i64 k) ∧ Below W.heap.size W w') := by subst hk; exact len64 b hbl
  clear hb hk
  go_enter Tryz.func54, Tryz.ntmps54
  go_wp2_with (first | (go_at_call 88; refine (h1.out _).mono ?_; rintro e w1 ⟨rfl, hb1⟩) | (go_at_call 48; refine (h2.out _).mono ?_; rintro e w2 ⟨rfl, hb2⟩))
  go_ret
  exact ⟨rfl, (((Below.refl _ w).alloc (Nat.le_refl _) _).trans (hb1.mono (by simp))).trans (hb2.mono (by have := hb1.size; simp at this; omega))⟩
theorem rank64 (x : Nat) (hx : x < 18446744073709551616) (i : Int) (w : World) :
    Calls Tryz.prog 54 #[.agg #[.int .u64 x], .int .i64 i] w fun e w' => e = .returned (.int .i64 ((toI i (nums x)).length : Nat)) ∧ Below w.heap.size w w' :=
  rankC64 x _ i hx rfl _ (by rw [nums_below]) w
end Go.Proofs.YtpbjmdkfijlooaaGreatDoor
