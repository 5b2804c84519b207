/- BitsOne answers true for every input, wherever the library's table lies as it is laid; it makes new memory alone. -/
import Derived.Test.YtpbjmdkfijlooaaGreatDoorOneA
import Derived.Test.YtpbjmdkfijlooaaGreatDoorOneB
import Derived.Test.YtpbjmdkfijlooaaGreatDoorOneN
import Derived.Test.YtpbjmdkfijlooaaGreatDoorOneM
import Derived.Test.YtpbjmdkfijlooaaGreatDoorWakes
import Derived.Test.YtpbjmdkfijlooaaGreatDoorFnNil
namespace Go.Proofs.YtpbjmdkfijlooaaGreatDoor
open Go.RowKit
theorem one8 (a : Nat) (ha : a < 256) (i k : Int) (w : World) (ht : Tab w) :
    Calls Tryz.prog 26 #[.int .u8 a, .int .i64 i, .int .i64 k] w fun e w' => e = .returned (.bool true) ∧ Below w.heap.size w w' := by
  have KH : ∀ W, Calls Tryz.prog 15 #[.int .u64 a, .int .i64 8, .int .i64 i] W fun e w' => e = .returned (.bool (decide (0 ≤ i) && a.testBit i.toNat)) ∧ w' = W := refHasA a 8 i ha (by decide)
  have KG := has8 a ha i
  by_cases h : 0 ≤ i ∧ i < 8
  · obtain ⟨n, rfl⟩ := Int.eq_ofNat_of_zero_le h.1
    have hn : n < 8 := by omega
    have hpl : (2 ^ n : Nat) < 256 := Nat.lt_of_lt_of_le (Nat.pow_lt_pow_right (by decide) hn) (by decide)
    have hql : (a ||| 2 ^ n : Nat) < 256 := Nat.or_lt_two_pow (n := 8) ha hpl
    have hor := u64_or_nat a (2 ^ n) (by omega) (by omega)
    rw [Int.toNat_natCast, show (decide (0 ≤ (n : Int))) = true by simp, Bool.true_and] at KH KG
    have KW := withT8 a ha n hn (2 ^ n) _ (shl8 n hn) hpl rfl
    cases hb : a.testBit n with
    | true =>
      rw [hb] at KH KG
      have e := bit_in (n := 8) ha hn hb
      have hge : 2 ^ n ≤ a := Nat.ge_two_pow_of_testBit hb
      have hs : IntKind.u64.wrap ((a : Int) - ((2 ^ n : Nat) : Int)) = ((a - 2 ^ n : Nat) : Int) := by
        generalize (2 ^ n : Nat) = p at hge
        simp only [IntKind.wrap, IntKind.bits, IntKind.signed]; simp; omega
      exact oneA8 a ha n k (a ||| 2 ^ n) 0 (a - 2 ^ n) ⟨hql, Nat.lt_of_le_of_lt (Nat.sub_le _ _) ha⟩ true w ht h.1 h.2 KW (withoutT8 a ha n hn (2 ^ n) _ (shl8 n hn) hpl e) KH KG (2 ^ n) rfl (refOne n (by omega)) hor rfl hs
    | false =>
      rw [hb] at KH KG
      have e := bit_out (n := 8) ha hn hb
      exact oneB8 a ha n k (a ||| 2 ^ n) 0 a ⟨hql, ha⟩ false w ht h.1 h.2 KW (withoutT8 a ha n hn (2 ^ n) _ (shl8 n hn) hpl e) KH KG (2 ^ n) rfl (refOne n (by omega)) hor rfl rfl
  · rw [out_of_bits8 ha h] at KH KG
    by_cases h0 : i < 0
    · exact oneN8 a ha i k 0 1 a ⟨by decide, ha⟩ false w ht h0 (withF8 a i h) (withoutF8 a i h) KH KG rfl rfl rfl rfl
    · exact oneM8 a ha i k 0 1 a ⟨by decide, ha⟩ false w ht (by omega) (withF8 a i h) (withoutF8 a i h) KH KG rfl rfl rfl rfl
theorem one64 (a : Nat) (ha : a < 18446744073709551616) (i k : Int) (w : World) (ht : Tab w) :
    Calls Tryz.prog 25 #[.int .u64 a, .int .i64 i, .int .i64 k] w fun e w' => e = .returned (.bool true) ∧ Below w.heap.size w w' := by
  have KH : ∀ W, Calls Tryz.prog 15 #[.int .u64 a, .int .i64 64, .int .i64 i] W fun e w' => e = .returned (.bool (decide (0 ≤ i) && a.testBit i.toNat)) ∧ w' = W := refHasA a 64 i ha (by decide)
  have KG := has64 a ha i
  by_cases h : 0 ≤ i ∧ i < 64
  · obtain ⟨n, rfl⟩ := Int.eq_ofNat_of_zero_le h.1
    have hn : n < 64 := by omega
    have hpl : (2 ^ n : Nat) < 18446744073709551616 := Nat.lt_of_lt_of_le (Nat.pow_lt_pow_right (by decide) hn) (by decide)
    have hql : (a ||| 2 ^ n : Nat) < 18446744073709551616 := Nat.or_lt_two_pow (n := 64) ha hpl
    have hor := u64_or_nat a (2 ^ n) (by omega) (by omega)
    rw [Int.toNat_natCast, show (decide (0 ≤ (n : Int))) = true by simp, Bool.true_and] at KH KG
    have KW := withT64 a ha n hn (2 ^ n) _ (shl64 n hn) hpl rfl
    cases hb : a.testBit n with
    | true =>
      rw [hb] at KH KG
      have e := bit_in (n := 64) ha hn hb
      have hge : 2 ^ n ≤ a := Nat.ge_two_pow_of_testBit hb
      have hs : IntKind.u64.wrap ((a : Int) - ((2 ^ n : Nat) : Int)) = ((a - 2 ^ n : Nat) : Int) := by
        generalize (2 ^ n : Nat) = p at hge
        simp only [IntKind.wrap, IntKind.bits, IntKind.signed]; simp; omega
      exact oneA64 a ha n k (a ||| 2 ^ n) 0 (a - 2 ^ n) ⟨hql, Nat.lt_of_le_of_lt (Nat.sub_le _ _) ha⟩ true w ht h.1 h.2 KW (withoutT64 a ha n hn (2 ^ n) _ (shl64 n hn) hpl e) KH KG (2 ^ n) rfl (refOne n (by omega)) hor rfl hs
    | false =>
      rw [hb] at KH KG
      have e := bit_out (n := 64) ha hn hb
      exact oneB64 a ha n k (a ||| 2 ^ n) 0 a ⟨hql, ha⟩ false w ht h.1 h.2 KW (withoutT64 a ha n hn (2 ^ n) _ (shl64 n hn) hpl e) KH KG (2 ^ n) rfl (refOne n (by omega)) hor rfl rfl
  · rw [out_of_bits64 ha h] at KH KG
    by_cases h0 : i < 0
    · exact oneN64 a ha i k 0 1 a ⟨by decide, ha⟩ false w ht h0 (withF64 a i h) (withoutF64 a i h) KH KG rfl rfl rfl rfl
    · exact oneM64 a ha i k 0 1 a ⟨by decide, ha⟩ false w ht (by omega) (withF64 a i h) (withoutF64 a i h) KH KG rfl rfl rfl rfl
/-- What is kept of the law's own variables. -/
theorem keepB {w W w1 : World} {x b c : Nat} {u0 u2 u3 v u : Value} (h : W.cell? ⟨x, 0, none⟩ = some u0 ∧ W.cell? ⟨x, 2, none⟩ = some u2 ∧ W.cell? ⟨x, 3, none⟩ = some u3 ∧ W.cell? ⟨b, 0, none⟩ = some v ∧ W.cell? ⟨c, 0, none⟩ = some u ∧ Below w.heap.size w W) (hb : Below W.heap.size W w1) :
    w1.cell? ⟨x, 0, none⟩ = some u0 ∧ w1.cell? ⟨x, 2, none⟩ = some u2 ∧ w1.cell? ⟨x, 3, none⟩ = some u3 ∧ w1.cell? ⟨b, 0, none⟩ = some v ∧ w1.cell? ⟨c, 0, none⟩ = some u ∧ Below w.heap.size w w1 :=
  have ⟨h0, h2, h3, h4, h5, h6⟩ := h
  ⟨(hb.cell (p := ⟨x, 0, none⟩) (cell_lt h0)).trans h0, (hb.cell (p := ⟨x, 2, none⟩) (cell_lt h0)).trans h2, (hb.cell (p := ⟨x, 3, none⟩) (cell_lt h0)).trans h3, (hb.cell (p := ⟨b, 0, none⟩) (cell_lt h4)).trans h4, (hb.cell (p := ⟨c, 0, none⟩) (cell_lt h5)).trans h5, h6.trans (hb.mono h6.size)⟩
set_option maxRecDepth 100000 in
set_option maxHeartbeats 4000000 in
theorem bitsOne_walk (A B : Nat) (I K : Int) (hA : A < 18446744073709551616) (w : World) (ht : Tab w) :
    Calls Tryz.prog 3 #[.agg #[.int .u64 A, .int .u64 B, .int .i64 I, .int .i64 K]] w fun e w' => e = .returned (.bool true) ∧ Below w.heap.size w w' := by
  obtain ⟨v, hv, hvw, hvl⟩ : ∃ a : Nat, (A : Int) % 65536 = (a : Int) ∧ IntKind.u16.wrap (A : Int) = (a : Int) ∧ a < 65536 := ⟨A % 65536, by omega, by simp only [IntKind.wrap, IntKind.bits, IntKind.signed]; simp, by omega⟩
  obtain ⟨y, hy, hyw, hyl⟩ : ∃ a : Nat, (A : Int) % 4294967296 = (a : Int) ∧ IntKind.u32.wrap (A : Int) = (a : Int) ∧ a < 4294967296 := ⟨A % 4294967296, by omega, by simp only [IntKind.wrap, IntKind.bits, IntKind.signed]; simp, by omega⟩
  obtain ⟨z, hz, hzw, hzl⟩ : ∃ a : Nat, (A : Int) % 256 = (a : Int) ∧ IntKind.u8.wrap (A : Int) = (a : Int) ∧ a < 256 := ⟨A % 256, by omega, by simp only [IntKind.wrap, IntKind.bits, IntKind.signed]; simp, by omega⟩
  have O64 := hide' (fun W (hW : Below w.heap.size w W) => one64 A hA I K W (ht.over hW))
  have O8 := hide' (fun W (hW : Below w.heap.size w W) => one8 z hzl I K W (ht.over hW))
  have WK := hide' (fun W (hW : Below w.heap.size w W) => wakes W (ht.over hW))
  obtain ⟨m16, hm16⟩ : ∃ m, (nums v).length = m := ⟨_, rfl⟩
  obtain ⟨t16, ht16⟩ : ∃ m, lastI (nums v) = m := ⟨_, rfl⟩
  obtain ⟨p16, hp16⟩ : ∃ m, (decide (0 ≤ I) && v.testBit I.toNat) = m := ⟨_, rfl⟩
  obtain ⟨s16, hs16⟩ : ∃ T : ByteArray, (⟨(txt (nums v) ++ [125]).toArray⟩ : ByteArray) = T := ⟨_, rfl⟩
  obtain ⟨q16, hq16⟩ : ∃ q : Nat, 65535 - v = q := ⟨_, rfl⟩
  have hql16 : q16 < 65536 := by omega
  have L16 := hide' (len16 v hvl)
  have M16 := hide' (refLen v (by omega))
  rw [hm16] at L16 M16
  have H16 := hide' (high16 v hvl)
  have I16 := hide' (refHigh v (by omega))
  rw [ht16] at H16 I16
  have G16 := hide' (has16 v hvl I)
  have J16 : Hid (∀ W, Calls Tryz.prog 15 #[.int .u64 v, .int .i64 16, .int .i64 I] W fun e w' => e = .returned (.bool (decide (0 ≤ I) && v.testBit I.toNat)) ∧ w' = W) := refHasA v 16 I hvl (by decide)
  rw [hp16] at G16 J16
  have T16 := hide' (fun W (hW : Below w.heap.size w W) => text16 v hvl W (ht.over hW))
  have U16 := hide' (refText v (by omega))
  rw [hs16] at T16 U16
  have N16 := hide' (not16 v hvl)
  rw [hq16] at N16
  obtain ⟨f16, hf16⟩ : ∃ f : Nat, 2 ^ 16 - 1 = f := ⟨_, rfl⟩
  have F16 : Hid (∀ W, Calls Tryz.prog 22 #[.int .i64 16] W fun e w' => e = .returned (.int .u64 f16) ∧ w' = W) := by subst hf16; exact refFull 16 (by decide)
  have hw16 : IntKind.u64.wrap ((f16 : Int) - (v : Int)) = (q16 : Int) := by
    rw [← hq16, ← hf16]
    simp only [IntKind.wrap, IntKind.bits, IntKind.signed]; simp; omega
  clear hm16 ht16 hp16 hs16 hq16 hf16
  obtain ⟨m32, hm32⟩ : ∃ m, (nums y).length = m := ⟨_, rfl⟩
  obtain ⟨t32, ht32⟩ : ∃ m, lastI (nums y) = m := ⟨_, rfl⟩
  obtain ⟨p32, hp32⟩ : ∃ m, (decide (0 ≤ I) && y.testBit I.toNat) = m := ⟨_, rfl⟩
  obtain ⟨s32, hs32⟩ : ∃ T : ByteArray, (⟨(txt (nums y) ++ [125]).toArray⟩ : ByteArray) = T := ⟨_, rfl⟩
  obtain ⟨q32, hq32⟩ : ∃ q : Nat, 4294967295 - y = q := ⟨_, rfl⟩
  have hql32 : q32 < 4294967296 := by omega
  have L32 := hide' (len32 y hyl)
  have M32 := hide' (refLen y (by omega))
  rw [hm32] at L32 M32
  have H32 := hide' (high32 y hyl)
  have I32 := hide' (refHigh y (by omega))
  rw [ht32] at H32 I32
  have G32 := hide' (has32 y hyl I)
  have J32 : Hid (∀ W, Calls Tryz.prog 15 #[.int .u64 y, .int .i64 32, .int .i64 I] W fun e w' => e = .returned (.bool (decide (0 ≤ I) && y.testBit I.toNat)) ∧ w' = W) := refHasA y 32 I hyl (by decide)
  rw [hp32] at G32 J32
  have T32 := hide' (fun W (hW : Below w.heap.size w W) => text32 y hyl W (ht.over hW))
  have U32 := hide' (refText y (by omega))
  rw [hs32] at T32 U32
  have N32 := hide' (not32 y hyl)
  rw [hq32] at N32
  obtain ⟨f32, hf32⟩ : ∃ f : Nat, 2 ^ 32 - 1 = f := ⟨_, rfl⟩
  have F32 : Hid (∀ W, Calls Tryz.prog 22 #[.int .i64 32] W fun e w' => e = .returned (.int .u64 f32) ∧ w' = W) := by subst hf32; exact refFull 32 (by decide)
  have hw32 : IntKind.u64.wrap ((f32 : Int) - (y : Int)) = (q32 : Int) := by
    rw [← hq32, ← hf32]
    simp only [IntKind.wrap, IntKind.bits, IntKind.signed]; simp; omega
  clear hm32 ht32 hp32 hs32 hq32 hf32
  clear hA ht
  go_enter Tryz.func3, Tryz.ntmps3
  go_wp2_with fail
  refine (of16 _ _ _).mono ?_
  rintro e w1 ⟨rfl, hb1⟩
  have x0 : w1.heap[w.heap.size]? = some (.cells #[.int .u64 A, .int .u64 B, .int .i64 I, .int .i64 K] 24 (0, 0)) := (hb1.block _ (by simp; omega)).trans (alloc4 _ _ _ _).1
  have k0 : w1.cell? ⟨w.heap.size, 0, none⟩ = some (.int .u64 A) := by simp [World.cell?, x0]
  have k2 : w1.cell? ⟨w.heap.size, 2, none⟩ = some (.int .i64 I) := by simp [World.cell?, x0]
  have k3 : w1.cell? ⟨w.heap.size, 3, none⟩ = some (.int .i64 K) := by simp [World.cell?, x0]
  have k4 : w1.cell? ⟨w.heap.size + 1 + 1, 0, none⟩ = some (.int .u32 0) := by
    have h := World.alloc_heap_new ((w.alloc (.cells #[.int .u64 A, .int .u64 B, .int .i64 I, .int .i64 K] 24)).alloc (.cells #[.int .u16 0] 27)) (.cells #[.int .u32 0] 30)
    rw [World.size_alloc, World.size_alloc] at h
    have x4 := (hb1.block (w.heap.size + 1 + 1) (by simp)).trans h
    simp [World.cell?, x4]
  have b1 : Below w.heap.size w w1 := ((((Below.refl _ w).alloc (Nat.le_refl _) _).alloc (by simp) _).alloc (by simp; omega) _).trans (hb1.mono (by simp; omega))
  have k0' := cell_al k0
  have k4' := cell_al k4
  clear hb1
  go_wp2_with fail
  refine (of32 _ _ _).mono ?_
  rintro e w2 ⟨rfl, hb2⟩
  clear k0' k4'
  have hk : (w2.alloc (.cells #[.int .u32 y] 30)).cell? ⟨w.heap.size, 0, none⟩ = some (.int .u64 A) ∧ (w2.alloc (.cells #[.int .u32 y] 30)).cell? ⟨w.heap.size, 2, none⟩ = some (.int .i64 I) ∧ (w2.alloc (.cells #[.int .u32 y] 30)).cell? ⟨w.heap.size, 3, none⟩ = some (.int .i64 K) ∧ (w2.alloc (.cells #[.int .u32 y] 30)).cell? ⟨w1.heap.size, 0, none⟩ = some (.int .u16 v) ∧ (w2.alloc (.cells #[.int .u32 y] 30)).cell? ⟨w2.heap.size, 0, none⟩ = some (.int .u32 y) ∧ Below w.heap.size w (w2.alloc (.cells #[.int .u32 y] 30)) := by
    have hl := cell_lt k0
    have hg : ∀ (b i : Nat) (x : Value), w1.cell? ⟨b, i, none⟩ = some x → (w2.alloc (.cells #[.int .u32 y] 30)).cell? ⟨b, i, none⟩ = some x := fun b i x h => cell_al ((hb2.cell (p := ⟨b, i, none⟩) (by have := cell_lt h; show b < _; simp; omega)).trans (cell_al h _)) _
    refine ⟨hg _ _ _ k0, hg _ _ _ k2, hg _ _ _ k3, cell_al ((hb2.cell (p := ⟨w1.heap.size, 0, none⟩) (by show w1.heap.size < _; simp)).trans (by simp)) _, by simp, ?_⟩
    exact ((b1.alloc b1.size _).trans (hb2.mono (by have := b1.size; simp; omega))).alloc (by have := hb2.size; have := b1.size; simp at *; omega) _
  clear hb2 b1 k0 k2 k3 k4
  go_wp2_with fail
  generalize hW : w2.alloc (.cells #[.int .u32 y] 30) = W0 at *
  clear hW
  generalize w2.heap.size = bd at *
  generalize w1.heap.size = bc at *
  go_region_held3 (fun W => W.cell? ⟨w.heap.size, 0, none⟩ = some (.int .u64 A) ∧ W.cell? ⟨w.heap.size, 2, none⟩ = some (.int .i64 I) ∧ W.cell? ⟨w.heap.size, 3, none⟩ = some (.int .i64 K) ∧ W.cell? ⟨bc, 0, none⟩ = some (.int .u16 v) ∧ W.cell? ⟨bd, 0, none⟩ = some (.int .u32 y) ∧ Below w.heap.size w W) (first | (exact keepB (by assumption) hb) | (exact keepB (keepB hk (Below.refl _ _).drew) hb) | (exact keepB hk (Below.refl _ _).drew) | assumption) (first | (go_at_call 6; refine (width16 _ _).mono ?_; rintro e w3 ⟨rfl, hb⟩) | (go_at_call 8; refine (L16.out _).mono ?_; rintro e w3 ⟨rfl, hb⟩) | (go_at_call_of 9 ((v : Nat) : Int); refine (M16.out _).mono ?_; rintro e w3 ⟨rfl, hb⟩) | (go_at_call 11; refine (H16.out _).mono ?_; rintro e w3 ⟨rfl, hb⟩) | (go_at_call_of 12 ((v : Nat) : Int); refine (I16.out _).mono ?_; rintro e w3 ⟨rfl, hb⟩) | (go_at_call 14; refine (G16.out _).mono ?_; rintro e w3 ⟨rfl, hb⟩) | (go_at_call_of 15 ((v : Nat) : Int); refine (J16.out _).mono ?_; rintro e w3 ⟨rfl, rfl⟩) | (go_at_call 17; refine (T16.out _ ‹_ ∧ _ ∧ _ ∧ _ ∧ _ ∧ Below _ _ _›.2.2.2.2.2).mono ?_; rintro e w3 ⟨rfl, hb⟩) | (go_at_call_of 18 ((v : Nat) : Int); refine (U16.out _).mono ?_; rintro e w3 ⟨rfl, hb⟩) | (go_at_call 20; refine (N16.out _).mono ?_; rintro e w3 ⟨rfl, hb⟩) | (go_at_call 21; refine (word16 _ _).mono ?_; rintro e w3 ⟨rfl, hb⟩) | (go_at_call 7; refine (width32 _ _).mono ?_; rintro e w3 ⟨rfl, hb⟩) | (go_at_call 10; refine (L32.out _).mono ?_; rintro e w3 ⟨rfl, hb⟩) | (go_at_call_of 9 ((y : Nat) : Int); refine (M32.out _).mono ?_; rintro e w3 ⟨rfl, hb⟩) | (go_at_call 13; refine (H32.out _).mono ?_; rintro e w3 ⟨rfl, hb⟩) | (go_at_call_of 12 ((y : Nat) : Int); refine (I32.out _).mono ?_; rintro e w3 ⟨rfl, hb⟩) | (go_at_call 16; refine (G32.out _).mono ?_; rintro e w3 ⟨rfl, hb⟩) | (go_at_call_of 15 ((y : Nat) : Int); refine (J32.out _).mono ?_; rintro e w3 ⟨rfl, rfl⟩) | (go_at_call 19; refine (T32.out _ ‹_ ∧ _ ∧ _ ∧ _ ∧ _ ∧ Below _ _ _›.2.2.2.2.2).mono ?_; rintro e w3 ⟨rfl, hb⟩) | (go_at_call_of 18 ((y : Nat) : Int); refine (U32.out _).mono ?_; rintro e w3 ⟨rfl, hb⟩) | (go_at_call 23; refine (N32.out _).mono ?_; rintro e w3 ⟨rfl, hb⟩) | (go_at_call 24; refine (word32 _ _).mono ?_; rintro e w3 ⟨rfl, hb⟩) | (go_at_call_of 22 (Value.int IntKind.i64 16); refine (F16.out _).mono ?_; rintro e w3 ⟨rfl, rfl⟩) | (go_at_call_of 22 (Value.int IntKind.i64 32); refine (F32.out _).mono ?_; rintro e w3 ⟨rfl, rfl⟩) | (go_at_call 25; refine (O64.out _ ‹_ ∧ _ ∧ _ ∧ _ ∧ _ ∧ Below _ _ _›.2.2.2.2.2).mono ?_; rintro e w3 ⟨rfl, hb⟩) | (go_at_call 26; refine (O8.out _ ‹_ ∧ _ ∧ _ ∧ _ ∧ _ ∧ Below _ _ _›.2.2.2.2.2).mono ?_; rintro e w3 ⟨rfl, hb⟩) | (go_at_call 27; refine (WK.out _ ‹_ ∧ _ ∧ _ ∧ _ ∧ _ ∧ Below _ _ _›.2.2.2.2.2).mono ?_; rintro e w3 ⟨rfl, hb⟩))
  all_goals (replace hk := ‹_ ∧ _ ∧ _ ∧ _ ∧ _ ∧ Below _ _ _›)
  go_wp2_with (first | (go_at_call 6; refine (width16 _ _).mono ?_; rintro e w3 ⟨rfl, hb⟩; replace hk := keepB hk hb; clear hb) | (go_at_call 8; refine (L16.out _).mono ?_; rintro e w3 ⟨rfl, hb⟩; replace hk := keepB hk hb; clear hb) | (go_at_call_of 9 ((v : Nat) : Int); refine (M16.out _).mono ?_; rintro e w3 ⟨rfl, hb⟩; replace hk := keepB hk hb; clear hb) | (go_at_call 11; refine (H16.out _).mono ?_; rintro e w3 ⟨rfl, hb⟩; replace hk := keepB hk hb; clear hb) | (go_at_call_of 12 ((v : Nat) : Int); refine (I16.out _).mono ?_; rintro e w3 ⟨rfl, hb⟩; replace hk := keepB hk hb; clear hb) | (go_at_call 14; refine (G16.out _).mono ?_; rintro e w3 ⟨rfl, hb⟩; replace hk := keepB hk hb; clear hb) | (go_at_call_of 15 ((v : Nat) : Int); refine (J16.out _).mono ?_; rintro e w3 ⟨rfl, rfl⟩) | (go_at_call 17; refine (T16.out _ hk.2.2.2.2.2).mono ?_; rintro e w3 ⟨rfl, hb⟩; replace hk := keepB hk hb; clear hb) | (go_at_call_of 18 ((v : Nat) : Int); refine (U16.out _).mono ?_; rintro e w3 ⟨rfl, hb⟩; replace hk := keepB hk hb; clear hb) | (go_at_call 20; refine (N16.out _).mono ?_; rintro e w3 ⟨rfl, hb⟩; replace hk := keepB hk hb; clear hb) | (go_at_call 21; refine (word16 _ _).mono ?_; rintro e w3 ⟨rfl, hb⟩; replace hk := keepB hk hb; clear hb) | (go_at_call 7; refine (width32 _ _).mono ?_; rintro e w3 ⟨rfl, hb⟩; replace hk := keepB hk hb; clear hb) | (go_at_call 10; refine (L32.out _).mono ?_; rintro e w3 ⟨rfl, hb⟩; replace hk := keepB hk hb; clear hb) | (go_at_call_of 9 ((y : Nat) : Int); refine (M32.out _).mono ?_; rintro e w3 ⟨rfl, hb⟩; replace hk := keepB hk hb; clear hb) | (go_at_call 13; refine (H32.out _).mono ?_; rintro e w3 ⟨rfl, hb⟩; replace hk := keepB hk hb; clear hb) | (go_at_call_of 12 ((y : Nat) : Int); refine (I32.out _).mono ?_; rintro e w3 ⟨rfl, hb⟩; replace hk := keepB hk hb; clear hb) | (go_at_call 16; refine (G32.out _).mono ?_; rintro e w3 ⟨rfl, hb⟩; replace hk := keepB hk hb; clear hb) | (go_at_call_of 15 ((y : Nat) : Int); refine (J32.out _).mono ?_; rintro e w3 ⟨rfl, rfl⟩) | (go_at_call 19; refine (T32.out _ hk.2.2.2.2.2).mono ?_; rintro e w3 ⟨rfl, hb⟩; replace hk := keepB hk hb; clear hb) | (go_at_call_of 18 ((y : Nat) : Int); refine (U32.out _).mono ?_; rintro e w3 ⟨rfl, hb⟩; replace hk := keepB hk hb; clear hb) | (go_at_call 23; refine (N32.out _).mono ?_; rintro e w3 ⟨rfl, hb⟩; replace hk := keepB hk hb; clear hb) | (go_at_call 24; refine (word32 _ _).mono ?_; rintro e w3 ⟨rfl, hb⟩; replace hk := keepB hk hb; clear hb) | (go_at_call_of 22 (Value.int IntKind.i64 16); refine (F16.out _).mono ?_; rintro e w3 ⟨rfl, rfl⟩) | (go_at_call_of 22 (Value.int IntKind.i64 32); refine (F32.out _).mono ?_; rintro e w3 ⟨rfl, rfl⟩) | (go_at_call 25; refine (O64.out _ hk.2.2.2.2.2).mono ?_; rintro e w3 ⟨rfl, hb⟩; replace hk := keepB hk hb; clear hb) | (go_at_call 26; refine (O8.out _ hk.2.2.2.2.2).mono ?_; rintro e w3 ⟨rfl, hb⟩; replace hk := keepB hk hb; clear hb) | (go_at_call 27; refine (WK.out _ hk.2.2.2.2.2).mono ?_; rintro e w3 ⟨rfl, hb⟩; replace hk := keepB hk hb; clear hb))
  go_ret
  exact ⟨rfl, hk.2.2.2.2.2⟩
end Go.Proofs.YtpbjmdkfijlooaaGreatDoor
