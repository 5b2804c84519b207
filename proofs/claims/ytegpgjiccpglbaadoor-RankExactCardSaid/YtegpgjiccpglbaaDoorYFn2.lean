/- What is asked of a hierarchy: Has, Spread, Below, Above, Depth. -/
import Derived.Test.YtegpgjiccpglbaaDoorYFn
import Derived.Test.YtegpgjiccpglbaaDoorYMath2
namespace Go.Proofs.YtegpgjiccpglbaaDoor
open Go.RowKit
theorem okA_nat {a : Int} (h : okA a = true) : ∃ i : Nat, i < 64 ∧ a = (i : Int) := by
  rw [okA_iff] at h
  exact ⟨a.toNat, by omega, by omega⟩
theorem okA_of {i : Nat} (h : i < 64) : okA (i : Int) = true := by rw [okA_iff]; omega
/-- Is there a link? -/
def hasJ (J : Nat → Nat) (a b : Int) : Bool := okA a && okA b && (J a.toNat).testBit b.toNat
/-- What is below a number. -/
def belI (J : Nat → Nat) (a : Int) : Nat := if okA a then bel J a.toNat else 0
def abvI (J : Nat → Nat) (a : Int) : Nat := if okA a then abv J a.toNat else 0
def depI (J : Nat → Nat) (a : Int) : Nat := if okA a then dep J a.toNat else 0
section
variable {w : World} {b : Nat} {J : Nat → Nat}
set_option maxRecDepth 100000 in
set_option maxHeartbeats 1000000 in
theorem has (h : RkAt w b J) (x y : Int) :
    Calls Tryd.prog 14 #[.pointer (some ⟨b, 0, none⟩), .int .i64 x, .int .i64 y] w fun e w' => e = .returned (.bool (hasJ J x y)) ∧ w' = w := by
  cases hx : okA x with
  | false =>
    have e : hasJ J x y = false := by simp [hasJ, hx]
    rw [e]
    go_enter Tryd.func14, Tryd.ntmps14
    go_wp2_with (go_at_call 29; refine (within _ _).mono ?_; rintro e w1 ⟨rfl, rfl⟩)
    go_ret
    exact ⟨rfl, rfl⟩
  | true =>
    cases hy : okA y with
    | false =>
      have e : hasJ J x y = false := by simp [hasJ, hy]
      rw [e]
      go_enter Tryd.func14, Tryd.ntmps14
      go_wp2_with (go_at_call 29; refine (within _ _).mono ?_; rintro e w1 ⟨rfl, rfl⟩)
      go_ret
      exact ⟨rfl, rfl⟩
    | true =>
      have e : hasJ J x y = (J x.toNat).testBit y.toNat := by simp [hasJ, hx, hy]
      obtain ⟨i, hi, rfl⟩ := okA_nat hx
      obtain ⟨j, hj, rfl⟩ := okA_nat hy
      rw [Int.toNat_natCast, Int.toNat_natCast] at e
      rw [e]
      have c := h.cell hi
      have KI := hide' (inR j (J i) hj (h.wf i hi))
      have hi1 : (0 : Int) ≤ (i : Int) := by omega
      have hi2 : (i : Int) < 64 := by omega
      clear e
      generalize (J i).testBit j = t at *
      generalize J i = q at *
      go_enter Tryd.func14, Tryd.ntmps14
      go_wp2_with (first | (go_at_call 29; refine (within _ _).mono ?_; rintro e w1 ⟨rfl, rfl⟩) | (go_at_call 30; refine (KI.out _).mono ?_; rintro e w1 ⟨rfl, rfl⟩))
      go_ret
      exact ⟨rfl, rfl⟩
set_option maxRecDepth 100000 in
set_option maxHeartbeats 1000000 in
theorem spread (h : RkAt w b J) (s0 : Nat) (hs0 : s0 < 18446744073709551616) :
    Calls Tryd.prog 16 #[.pointer (some ⟨b, 0, none⟩), .int .u64 s0] w fun e w' => e = .returned (.int .u64 (spr J s0 : Int)) ∧ Qt w w' := by
  have hst := hide' (SpI.start h.wf h.acy hs0)
  have ha0 := u64_andNot_nat (nxt J s0) s0 (nxt_lt h.wf s0) hs0
  have KN := hide' (next h s0 hs0)
  generalize nxt J s0 &&& (18446744073709551615 - s0) = f0 at *
  generalize nxt J s0 = n0 at *
  go_enter Tryd.func16, Tryd.ntmps16
  go_wp2_with (go_at_call 34; refine KN.out.mono ?_; rintro e w1 ⟨rfl, hb1⟩)
  go_loopw [1, 5] (fun s f wr => ∃ x y : Nat, Hid (SpI J s0 x y) ∧ s = .int .u64 x ∧ f = .int .u64 y ∧ Qt w wr) (fun s _ _ => 18446744073709551616 - (intOf s).toNat)
  case atStart => exact ⟨s0, f0, hst, rfl, rfl, hb1⟩
  case round =>
    clear KN ha0 hst hb1
    obtain ⟨x, y, hI, rfl, rfl, hB⟩ := hrel
    have hxl := hI.out.sl
    have hyl := hI.out.fl
    by_cases h0 : y = 0
    · subst h0
      have he := hI.out.done h.wf h.acy hs0
      subst he
      go_wp2
      go_ret
      exact ⟨rfl, hB⟩
    · have hne : ((y : Int) != 0) = true := by rw [ne_cast]; simpa using h0
      have hI2 := hide' (hI.out.step h.wf h.acy hs0)
      have hg := hI.out.grow h0
      have ho := u64_or_nat x y hxl hyl
      have hol : x ||| y < 18446744073709551616 := Nat.or_lt_two_pow (n := 64) hxl hyl
      have ha := u64_andNot_nat (nxt J y) (x ||| y) (nxt_lt h.wf y) hol
      have KN := hide' (next (h.over hB.below) y hyl)
      clear h0 hI h hs0
      generalize nxt J y &&& (18446744073709551615 - (x ||| y)) = f1 at *
      generalize nxt J y = n1 at *
      generalize x ||| y = z at *
      go_wp2_with (go_at_call 34; refine KN.out.mono ?_; rintro e w1 ⟨rfl, hb1⟩)
      go_roundw
      case rel => exact ⟨z, f1, hI2, rfl, rfl, hB.trans hb1⟩
      case measure => simp [intOf]; omega
set_option maxRecDepth 100000 in
set_option maxHeartbeats 1000000 in
theorem belowR (h : RkAt w b J) (x : Int) :
    Calls Tryd.prog 15 #[.pointer (some ⟨b, 0, none⟩), .int .i64 x] w fun e w' => e = .returned (.int .u64 (belI J x : Int)) ∧ Qt w w' := by
  cases hx : okA x with
  | false =>
    have e : belI J x = 0 := by simp [belI, hx]
    rw [e]
    go_enter Tryd.func15, Tryd.ntmps15
    go_wp2_with (go_at_call 29; refine (within _ _).mono ?_; rintro e w1 ⟨rfl, rfl⟩)
    go_ret
    exact ⟨rfl, Qt.refl _⟩
  | true =>
    have e : belI J x = bel J x.toNat := by simp [belI, hx]
    obtain ⟨i, hi, rfl⟩ := okA_nat hx
    rw [Int.toNat_natCast] at e
    rw [e]
    unfold bel
    have KS := hide' (spread h (2 ^ i) (pow_lt64 hi))
    have KO := hide' (only i hi)
    clear e
    generalize (2 ^ i : Nat) = p at *
    generalize spr J p = q at *
    go_enter Tryd.func15, Tryd.ntmps15
    go_wp2_with (first | (go_at_call 29; refine (within _ _).mono ?_; rintro e w1 ⟨rfl, rfl⟩) | (go_at_call 31; refine (KO.out _).mono ?_; rintro e w1 ⟨rfl, rfl⟩) | (go_at_call 16; refine KS.out.mono ?_; rintro e w1 ⟨rfl, hb1⟩))
    go_ret
    exact ⟨rfl, hb1⟩
theorem belowN (h : RkAt w b J) {i : Nat} (hi : i < 64) :
    Calls Tryd.prog 15 #[.pointer (some ⟨b, 0, none⟩), .int .i64 (i : Int)] w fun e w' => e = .returned (.int .u64 (bel J i : Int)) ∧ Qt w w' := by
  have := belowR h (i : Int)
  rwa [show belI J (i : Int) = bel J i by simp [belI, okA_of hi]] at this
set_option maxRecDepth 100000 in
set_option maxHeartbeats 1000000 in
theorem above (h : RkAt w b J) (x : Int) :
    Calls Tryd.prog 17 #[.pointer (some ⟨b, 0, none⟩), .int .i64 x] w fun e w' => e = .returned (.int .u64 (abvI J x : Int)) ∧ Qt w w' := by
  cases hx : okA x with
  | false =>
    have e : abvI J x = 0 := by simp [abvI, hx]
    rw [e]
    go_enter Tryd.func17, Tryd.ntmps17
    go_wp2_with (go_at_call 29; refine (within _ _).mono ?_; rintro e w1 ⟨rfl, rfl⟩)
    go_ret
    exact ⟨rfl, Qt.refl _⟩
  | true =>
    have e : abvI J x = abv J x.toNat := by simp [abvI, hx]
    obtain ⟨i, hi, rfl⟩ := okA_nat hx
    rw [Int.toNat_natCast] at e
    rw [e]
    clear e
    go_enter Tryd.func17, Tryd.ntmps17
    go_wp2_with (go_at_call 29; refine (within _ _).mono ?_; rintro e w1 ⟨rfl, hw1⟩; have hw2 := hw1.symm; subst hw2; clear hw1)
    go_loopw [5, 10] (fun a k wr => ∃ c : Nat, c ≤ 64 ∧ k = .int .i64 c ∧ a = .int .u64 (abvN J i c : Int) ∧ Qt w wr) (fun _ k _ => (64 - intOf k).toNat)
    case atStart => exact ⟨0, by omega, rfl, rfl, Qt.refl _⟩
    case round =>
      clear hx
      obtain ⟨c, hc, rfl, rfl, hB⟩ := hrel
      by_cases hlt : c < 64
      · have KB := hide' (belowN (h.over hB.below) hlt)
        have KI := hide' (inR i (bel J c) hi (bel_lt h.wf hlt))
        have KO := hide' (only c hlt)
        have ho := u64_or_nat (abvN J i c) (2 ^ c) (abvN_lt J i c hc) (pow_lt64 hlt)
        have hn : Hid (abvN J i (c + 1) = if (bel J c).testBit i then abvN J i c ||| 2 ^ c else abvN J i c) := rfl
        cases ht : (bel J c).testBit i with
        | true =>
          rw [ht, if_pos rfl] at hn
          rw [ht] at KI
          clear ht h
          generalize (2 ^ c : Nat) = p at *
          generalize abvN J i c = a1 at *
          generalize hz : a1 ||| p = z at *
          have hz' := hide' hz
          clear hz
          generalize bel J c = q at *
          go_wp2_with (first | (go_at_call 15; refine KB.out.mono ?_; rintro e w1 ⟨rfl, hb1⟩) | (go_at_call 30; refine (KI.out _).mono ?_; rintro e w1 ⟨rfl, rfl⟩) | (go_at_call 31; refine (KO.out _).mono ?_; rintro e w1 ⟨rfl, rfl⟩))
          go_roundw
          case rel => exact ⟨c + 1, by omega, by go_num, by rw [hn.out], hB.trans hb1⟩
          case measure => simp [intOf]; omega
        | false =>
          rw [ht, if_neg (by simp)] at hn
          rw [ht] at KI
          clear ht h ho
          generalize abvN J i c = a1 at *
          generalize bel J c = q at *
          go_wp2_with (first | (go_at_call 15; refine KB.out.mono ?_; rintro e w1 ⟨rfl, hb1⟩) | (go_at_call 30; refine (KI.out _).mono ?_; rintro e w1 ⟨rfl, rfl⟩))
          go_roundw
          case rel => exact ⟨c + 1, by omega, by go_num, by rw [hn.out], hB.trans hb1⟩
          case measure => simp [intOf]; omega
      · obtain rfl : c = 64 := by omega
        have he : abvN J i 64 = abv J i := rfl
        go_wp2
        go_ret
        exact ⟨rfl, hB⟩
set_option maxRecDepth 100000 in
set_option maxHeartbeats 1000000 in
theorem depth (h : RkAt w b J) (x : Int) :
    Calls Tryd.prog 18 #[.pointer (some ⟨b, 0, none⟩), .int .i64 x] w fun e w' => e = .returned (.int .i64 (depI J x : Int)) ∧ Qt w w' := by
  cases hx : okA x with
  | false =>
    have e : depI J x = 0 := by simp [depI, hx]
    rw [e]
    go_enter Tryd.func18, Tryd.ntmps18
    go_wp2_with (go_at_call 29; refine (within _ _).mono ?_; rintro e w1 ⟨rfl, rfl⟩)
    go_ret
    exact ⟨rfl, Qt.refl _⟩
  | true =>
    have e : depI J x = dep J x.toNat := by simp [depI, hx]
    obtain ⟨i, hi, rfl⟩ := okA_nat hx
    rw [Int.toNat_natCast] at e
    rw [e]
    clear e
    have c0 := h.cell hi
    have hi1 : (0 : Int) ≤ (i : Int) := by omega
    have hi2 : (i : Int) < 64 := by omega
    go_enter Tryd.func18, Tryd.ntmps18
    go_wp2_with (go_at_call 29; refine (within _ _).mono ?_; rintro e w1 ⟨rfl, hw1⟩; have hw2 := hw1.symm; subst hw2; clear hw1)
    go_loopw [5, 6] (fun d s wr => ∃ k y : Nat, Hid (y = levN J i k ∧ k ≤ 63 ∧ dep J i = k + depF J (64 - k) y) ∧ d = .int .i64 k ∧ s = .int .u64 (y : Int) ∧ Qt w wr) (fun d _ _ => (64 - intOf d).toNat)
    case atStart => exact ⟨0, J i, ⟨rfl, by omega, by rw [Nat.zero_add]; rfl⟩, rfl, rfl, Qt.refl _⟩
    case round =>
      clear c0 hx
      obtain ⟨k, y, hI, rfl, rfl, hB⟩ := hrel
      have hyl : y < 18446744073709551616 := by rw [hI.out.1]; exact levN_lt h.wf hi k
      by_cases h0 : y = 0
      · subst h0
        have he : dep J i = k := by rw [hI.out.2.2, depF_zero, Nat.add_zero]
        have he' := hide' he
        clear he h hI
        go_wp2
        go_ret
        exact ⟨by show Ending.returned (Value.int .i64 (k : Int)) = _; rw [he'.out], hB⟩
      · have hk : k < 63 := levN_end h.wf h.acy hi (by rw [← hI.out.1]; exact h0)
        have hne : ((y : Int) != 0) = true := by rw [ne_cast]; simpa using h0
        have hI2 : Hid (nxt J y = levN J i (k + 1) ∧ k + 1 ≤ 63 ∧ dep J i = (k + 1) + depF J (64 - (k + 1)) (nxt J y)) := by
          refine ⟨by rw [hI.out.1]; rfl, by omega, ?_⟩
          rw [hI.out.2.2, show 64 - k = (64 - (k + 1)) + 1 by omega]
          show k + (if y = 0 then 0 else depF J (64 - (k + 1)) (nxt J y) + 1) = _
          rw [if_neg h0]; omega
        have KN := hide' (next (h.over hB.below) y hyl)
        clear h0 hI h
        generalize nxt J y = n1 at *
        go_wp2_with (go_at_call 34; refine KN.out.mono ?_; rintro e w1 ⟨rfl, hb1⟩)
        go_roundw
        case rel => exact ⟨k + 1, n1, hI2, by go_num, rfl, hB.trans hb1⟩
        case measure => simp [intOf]; omega
end
end Go.Proofs.YtegpgjiccpglbaaDoor
