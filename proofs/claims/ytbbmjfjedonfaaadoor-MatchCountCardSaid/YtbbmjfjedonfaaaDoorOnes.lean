/- OnesCount64 and Len: how many numbers are in the set. -/
import Derived.Test.YtbbmjfjedonfaaaDoorPop
import Derived.Test.YtbbmjfjedonfaaaDoorLeaf
namespace Go.Proofs.YtbbmjfjedonfaaaDoor
open Go.RowKit
theorem u64w (a b : Nat) (h : a + b < 18446744073709551616) : IntKind.u64.wrap ((a : Int) + (b : Int)) = ((a + b : Nat) : Int) := by
  rw [IntKind.wrap_u64]; omega
theorem mask85 : mask 85 8 = 6148914691236517205 := by decide +kernel
theorem mask51 : mask 51 8 = 3689348814741910323 := by decide +kernel
theorem mask15 : mask 15 8 = 1085102592571150095 := by decide +kernel
theorem o1 (x : Nat) (hx : x < 18446744073709551616) : IntKind.u64.wrap (bits .and .u64 ((x : Int) / 2) 6148914691236517205 + bits .and .u64 (x : Int) 6148914691236517205) = ((s1 8 x : Nat) : Int) ∧ s1 8 x < 18446744073709551616 := by
  have e1 : (x : Int) / 2 = ((x / 2 : Nat) : Int) := by omega
  have m : (6148914691236517205 : Int) = ((6148914691236517205 : Nat) : Int) := rfl
  have l1 : x / 2 &&& 6148914691236517205 ≤ 6148914691236517205 := Nat.and_le_right
  have l2 : x &&& 6148914691236517205 ≤ 6148914691236517205 := Nat.and_le_right
  rw [e1, m, u64_and_nat _ _ (by omega) (by omega), u64_and_nat _ _ hx (by omega), u64w _ _ (by omega)]
  unfold s1; rw [mask85]
  exact ⟨rfl, by omega⟩
theorem o2 (x : Nat) (hx : x < 18446744073709551616) : IntKind.u64.wrap (bits .and .u64 ((x : Int) / 4) 3689348814741910323 + bits .and .u64 (x : Int) 3689348814741910323) = ((s2 8 x : Nat) : Int) ∧ s2 8 x ≤ 7378697629483820646 := by
  have e1 : (x : Int) / 4 = ((x / 4 : Nat) : Int) := by omega
  have m : (3689348814741910323 : Int) = ((3689348814741910323 : Nat) : Int) := rfl
  have l1 : x / 4 &&& 3689348814741910323 ≤ 3689348814741910323 := Nat.and_le_right
  have l2 : x &&& 3689348814741910323 ≤ 3689348814741910323 := Nat.and_le_right
  rw [e1, m, u64_and_nat _ _ (by omega) (by omega), u64_and_nat _ _ hx (by omega), u64w _ _ (by omega)]
  unfold s2; rw [mask51]
  exact ⟨rfl, by omega⟩
theorem o3 (x : Nat) (hx : x ≤ 7378697629483820646) : bits .and .u64 (IntKind.u64.wrap ((x : Int) / 16 + (x : Int))) 1085102592571150095 = ((s3 8 x : Nat) : Int) := by
  have e1 : (x : Int) / 16 = ((x / 16 : Nat) : Int) := by omega
  have m : (1085102592571150095 : Int) = ((1085102592571150095 : Nat) : Int) := rfl
  rw [e1, m, u64w _ _ (by omega), u64_and_nat _ _ (by omega) (by omega)]
  unfold s3; rw [mask15]
theorem o4 (x d : Nat) (hd : d = 256 ∨ d = 65536 ∨ d = 4294967296) (hx : x ≤ 2000000000000000000) : IntKind.u64.wrap ((x : Int) + (x : Int) / (d : Int)) = ((x + x / d : Nat) : Int) ∧ x + x / d ≤ x + x / 256 := by
  rcases hd with rfl | rfl | rfl
  · rw [IntKind.wrap_u64]; omega
  · rw [IntKind.wrap_u64]; omega
  · rw [IntKind.wrap_u64]; omega
set_option maxRecDepth 100000 in
set_option maxHeartbeats 1000000 in
theorem onesC (x y1 y2 y3 y4 y5 y6 c : Nat) (e1 : IntKind.u64.wrap (bits .and .u64 ((x : Int) / 2) 6148914691236517205 + bits .and .u64 (x : Int) 6148914691236517205) = (y1 : Int))
    (e2 : IntKind.u64.wrap (bits .and .u64 ((y1 : Int) / 4) 3689348814741910323 + bits .and .u64 (y1 : Int) 3689348814741910323) = (y2 : Int))
    (e3 : bits .and .u64 (IntKind.u64.wrap ((y2 : Int) / 16 + (y2 : Int))) 1085102592571150095 = (y3 : Int))
    (e4 : IntKind.u64.wrap ((y3 : Int) + (y3 : Int) / 256) = (y4 : Int)) (e5 : IntKind.u64.wrap ((y4 : Int) + (y4 : Int) / 65536) = (y5 : Int)) (e6 : IntKind.u64.wrap ((y5 : Int) + (y5 : Int) / 4294967296) = (y6 : Int))
    (hb : y6 < 9000000000000000000) (e7 : bits .and .i64 (y6 : Int) 127 = (c : Int)) (w : World) :
    Calls Tryd.prog 35 #[.int .u64 x] w fun e w' => e = .returned (.int .i64 c) ∧ w' = w := by
  go_enter Tryd.func35, Tryd.ntmps35
  go_wp2
  go_ret
  exact ⟨rfl, rfl⟩
theorem i64_127 (y : Nat) (hy : y < 9000000000000000000) : bits .and .i64 (y : Int) 127 = ((y % 128 : Nat) : Int) := by
  have hx : y &&& 127 < 2 ^ 7 := Nat.and_lt_two_pow _ (by omega)
  show IntKind.i64.wrap ((BitVec.ofInt 64 (y : Int) &&& BitVec.ofInt 64 ((127 : Nat) : Int)).toNat : Int) = _
  rw [BitVec.toNat_and, ofInt_u64 y (by omega), ofInt_u64 127 (by omega), show (127 : Nat) = 2 ^ 7 - 1 from rfl, Nat.and_two_pow_sub_one_eq_mod]
  simp [IntKind.wrap, IntKind.bits, IntKind.signed]
  omega
theorem ones64m (x : Nat) (hx : x < 18446744073709551616) (w : World) :
    Calls Tryd.prog 35 #[.int .u64 x] w fun e w' => e = .returned (.int .i64 (nums x).length) ∧ w' = w := by
  obtain ⟨a1, b1⟩ := o1 x hx
  obtain ⟨a2, b2⟩ := o2 _ b1
  have a3 := o3 _ b2
  have sw := (swar 8 x).2
  obtain ⟨c1, c2⟩ := addup x _ sw
  rw [len_nums, ← c2]
  generalize s3 8 (s2 8 (s1 8 x)) = y at *
  clear sw c2
  have a4 := o4 y 256 (.inl rfl) (by omega)
  have a5 := o4 (y + y / 256) 65536 (.inr (.inl rfl)) (by omega)
  have a6 := o4 (y + y / 256 + (y + y / 256) / 65536) 4294967296 (.inr (.inr rfl)) (by omega)
  have hb : y + y / 256 + (y + y / 256) / 65536 + (y + y / 256 + (y + y / 256) / 65536) / 4294967296 < 9000000000000000000 := by omega
  exact onesC x _ _ _ _ _ _ _ a1 a2 a3 a4.1 a5.1 a6.1 hb (i64_127 _ hb) w
set_option maxHeartbeats 1000000 in
theorem len64 (x : Nat) (hx : x < 18446744073709551616) (w : World) :
    Calls Tryd.prog 20 #[.agg #[.int .u64 x]] w fun e w' => e = .returned (.int .i64 (nums x).length) ∧ Below w.heap.size w w' := by
  go_enter Tryd.func20, Tryd.ntmps20
  go_wp2_with (go_at_call 35; refine (ones64m x (by omega) _).mono ?_; rintro e w1 ⟨rfl, rfl⟩)
  go_ret
  exact ⟨rfl, (Below.refl _ _).alloc (Nat.le_refl _) _⟩
end Go.Proofs.YtbbmjfjedonfaaaDoor
