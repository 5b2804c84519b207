/- The document's Before, Preds, Succs, Ready, Down. -/
import Derived.Test.YtbpojobmenagkaaDoorRMat
import Derived.Test.YtbpojobmenagkaaDoorOLawM
namespace Go.Proofs.YtbpojobmenagkaaDoor
open Go.RowKit Go.Shelf
/-- Does a come ahead of b, whatever numbers they are? -/
def befI (R : Nat → Nat → Bool) (a b : Int) : Bool := decide (0 ≤ a ∧ 0 ≤ b) && R a.toNat b.toNat
/-- The places of a test, as a word. -/
def accB (f : Nat → Bool) (k : Nat) : Nat := (List.range k).foldl (fun acc a => if f a = true then acc ||| 2 ^ a else acc) 0
theorem accB_snoc (f : Nat → Bool) (k : Nat) : accB f (k + 1) = if f k = true then accB f k ||| 2 ^ k else accB f k := by
  unfold accB; rw [List.range_succ, List.foldl_append]; rfl
theorem accB_bits (f : Nat → Bool) (a : Nat) : ∀ k, (accB f k).testBit a = (decide (a < k) && f a)
  | 0 => by simp [accB]
  | k + 1 => by
    rw [accB_snoc]
    have ih := accB_bits f a k
    by_cases e : a = k
    · subst e
      have h0 : decide (a < a) = false := by simp
      rw [h0, Bool.false_and] at ih
      cases h : f a with
      | true => rw [if_pos rfl, Nat.testBit_or, ih, Nat.testBit_two_pow]; simp
      | false => rw [if_neg (by simp), ih]; simp
    · have hd : decide (a < k + 1) = decide (a < k) := by
        by_cases h : a < k
        · simp [h]; omega
        · simp [h]; omega
      have hp : (2 ^ k).testBit a = false := by rw [Nat.testBit_two_pow]; simp; omega
      cases h : f k with
      | true => rw [if_pos rfl, Nat.testBit_or, ih, hp, hd]; simp
      | false => rw [if_neg (by simp), ih, hd]
theorem accB_lt (f : Nat → Bool) {k : Nat} (hk : k ≤ 64) : accB f k < 18446744073709551616 :=
  small64 hk fun i hi => by
    rw [accB_bits] at hi
    simp only [Bool.and_eq_true, decide_eq_true_eq] at hi
    exact hi.1
theorem bit_test' {r a : Nat} (hr : r < 18446744073709551616) : (bits .and .u64 ((r : Int) / 2 ^ a) 1 == 0) = !r.testBit a := by
  have e : ((r : Int) / 2 ^ a) = ((r / 2 ^ a : Nat) : Int) := by simp
  have hlt : r / 2 ^ a < 18446744073709551616 := Nat.lt_of_le_of_lt (Nat.div_le_self _ _) hr
  rw [e, show (1 : Int) = ((1 : Nat) : Int) from rfl, u64_and_nat _ 1 hlt (by decide), eq_cast, Nat.testBit_eq_decide_div_mod_eq, Nat.and_one_is_mod]
  rcases Nat.mod_two_eq_zero_or_one (r / 2 ^ a) with h | h <;> rw [h] <;> rfl
theorem bit_test1 {r a : Nat} (hr : r < 18446744073709551616) : (bits .and .u64 ((r : Int) / 2 ^ a) 1 == 1) = r.testBit a := by
  have e : ((r : Int) / 2 ^ a) = ((r / 2 ^ a : Nat) : Int) := by simp
  have hlt : r / 2 ^ a < 18446744073709551616 := Nat.lt_of_le_of_lt (Nat.div_le_self _ _) hr
  rw [e, show (1 : Int) = ((1 : Nat) : Int) from rfl, u64_and_nat _ 1 hlt (by decide), Nat.testBit_eq_decide_div_mod_eq, Nat.and_one_is_mod]
  rcases Nat.mod_two_eq_zero_or_one (r / 2 ^ a) with h | h <;> rw [h] <;> rfl
section
variable {w w0 : World} {go m : Nat} {R : Nat → Nat → Bool} {ov : Value} {gr : Nat → Nat} {Pf Sf : Nat → Nat}
set_option maxRecDepth 100000 in
set_option maxHeartbeats 400000 in
theorem refBefore (hM : Mat w0 go m m R ov gr w) (hin : ∀ a b, R a b = true → a < m ∧ b < m) (a b : Int) :
    Calls Tryd.prog 52 #[.pointer (some ⟨go, 0, none⟩), .int .i64 a, .int .i64 b] w fun e w' => e = .returned (.bool (befI R a b)) ∧ w' = w := by
  have c0 := hM.c0
  by_cases h : (0 ≤ a ∧ 0 ≤ b) ∧ a < m ∧ b < m
  · obtain ⟨⟨h1, h2⟩, h3, h4⟩ := h
    obtain ⟨x, rfl⟩ := Int.eq_ofNat_of_zero_le h1
    obtain ⟨y, rfl⟩ := Int.eq_ofNat_of_zero_le h2
    have hx : x < m := by omega
    have hy : y < m := by omega
    obtain ⟨gt, cap, rfl⟩ := hM.shape (by omega)
    have c1 := hM.c1
    have c2 := hM.row rfl hx
    have c3 := hM.at hx hy
    have he : Hid (befI R x y = R x y) := by show _ = _; unfold befI; simp
    generalize R x y = t at *
    generalize gr x = gx at *
    go_enter Tryd.func52, Tryd.ntmps52
    go_wp2
    go_ret
    exact ⟨ret_bool (by rw [he.out]), rfl⟩
  · have he : Hid (befI R a b = false) := by
      show _ = _
      cases e : befI R a b with
      | false => rfl
      | true =>
        unfold befI at e
        rw [Bool.and_eq_true, decide_eq_true_eq] at e
        have := hin _ _ e.2
        exact absurd ⟨e.1, by omega, by omega⟩ h
    have hno : a < 0 ∨ (0 ≤ a ∧ b < 0) ∨ (0 ≤ a ∧ 0 ≤ b ∧ (m : Int) ≤ a) ∨ (0 ≤ a ∧ 0 ≤ b ∧ a < m ∧ (m : Int) ≤ b) := by omega
    clear h
    rcases hno with h | ⟨h1, h2⟩ | ⟨h1, h2, h3⟩ | ⟨h1, h2, h3, h4⟩
    all_goals
      go_enter Tryd.func52, Tryd.ntmps52
      go_wp2
      go_ret
      exact ⟨ret_bool (by rw [he.out]), rfl⟩
set_option maxRecDepth 100000 in
set_option maxHeartbeats 400000 in
theorem refPreds (hM : Mat w0 go m m R ov gr w) (hm : m ≤ 64) (hin : ∀ a b, R a b = true → a < m ∧ b < m) (a : Int) :
    Calls Tryd.prog 44 #[.pointer (some ⟨go, 0, none⟩), .int .i64 a] w fun e w' => e = .returned (.int .u64 (accB (fun i => befI R i a) m : Int)) ∧ w' = w := by
  have c0 := hM.c0
  have KB := hide' (fun i => refBefore hM hin i a)
  clear hM
  generalize hf : (fun i : Nat => befI R (i : Int) a) = f
  have hf' : Hid (∀ i : Nat, befI R (i : Int) a = f i) := fun i => by rw [← hf]
  clear hf
  go_enter Tryd.func44, Tryd.ntmps44
  go_wp2
  go_loop [5, 6] (fun pw pi => ∃ i : Nat, i ≤ m ∧ pi = .int .i64 i ∧ pw = .int .u64 (accB f i : Int)) (fun _ pi => ((m : Int) - intOf pi).toNat)
  case atStart => exact ⟨0, Nat.zero_le _, rfl, rfl⟩
  case round =>
    obtain ⟨i, hi, rfl, rfl⟩ := hrel
    by_cases hlt : i < m
    · have K1 := KB.out (i : Int)
      rw [hf'.out i] at K1
      have hsn := accB_snoc f i
      have hsh := shlc i (by omega)
      have hpw : (2 ^ i : Nat) < 18446744073709551616 := Nat.lt_of_lt_of_le (Nat.pow_lt_pow_right (by decide) (show i < 64 by omega)) (by decide)
      have hor := u64_or_nat (accB f i) (2 ^ i) (accB_lt f (by omega)) hpw
      cases hfi : f i with
      | true =>
        rw [hfi] at K1 hsn
        rw [if_pos rfl] at hsn
        rw [← hsn] at hor
        have K1' := hide' K1
        clear hsn K1 hfi
        generalize hy : accB f (i + 1) = y at *
        have hy' := hide' hy
        clear hy
        generalize accB f i = x at *
        generalize 2 ^ i = pw at *
        go_wp2_with (go_at_call 52; refine K1'.out.mono ?_; rintro e w1 ⟨rfl, rfl⟩)
        exact ⟨⟨i + 1, by omega, by go_num, by rw [hy'.out]⟩, by simp [intOf]; omega⟩
      | false =>
        rw [hfi] at K1 hsn
        rw [if_neg (by simp)] at hsn
        have K1' := hide' K1
        have hsn' := hide' hsn
        clear hsn K1 hfi hor hsh hpw
        go_wp2_with (go_at_call 52; refine K1'.out.mono ?_; rintro e w1 ⟨rfl, rfl⟩)
        exact ⟨⟨i + 1, by omega, by go_num, by rw [hsn'.out]⟩, by simp [intOf]; omega⟩
    · obtain rfl : i = m := by omega
      go_wp2
      go_ret
      exact ⟨rfl, rfl⟩
/-- What is ready, by a test. -/
def rdT (Pf : Nat → Nat) (d a : Nat) : Bool := !d.testBit a && (Pf a &&& (18446744073709551615 - d) == 0)
set_option maxRecDepth 100000 in
set_option maxHeartbeats 400000 in
theorem refReady (hM : Mat w0 go m m R ov gr w) (hm : m ≤ 64) (hin : ∀ a b, R a b = true → a < m ∧ b < m) (hPf : ∀ a, a < m → accB (fun i => befI R i (a : Int)) m = Pf a ∧ Pf a < 18446744073709551616) (d : Nat) (hd : d < 18446744073709551616) :
    Calls Tryd.prog 27 #[.pointer (some ⟨go, 0, none⟩), .int .u64 d] w fun e w' => e = .returned (.int .u64 (accB (rdT Pf d) m : Int)) ∧ w' = w := by
  have c0 := hM.c0
  have KB : Hid (∀ a : Nat, a < m → Calls Tryd.prog 44 #[.pointer (some ⟨go, 0, none⟩), .int .i64 a] w fun e w' => e = .returned (.int .u64 (Pf a : Int)) ∧ w' = w) := fun a ha => by
    have := refPreds hM hm hin (a : Int)
    rwa [(hPf a ha).1] at this
  have hPl : Hid (∀ a, a < m → Pf a < 18446744073709551616) := fun a ha => (hPf a ha).2
  have hrd : Hid (∀ a, rdT Pf d a = (!d.testBit a && (Pf a &&& (18446744073709551615 - d) == 0))) := fun a => rfl
  clear hM hPf
  generalize rdT Pf d = f at *
  go_enter Tryd.func27, Tryd.ntmps27
  go_wp2
  go_loop [5, 6] (fun pw pi => ∃ i : Nat, i ≤ m ∧ pi = .int .i64 i ∧ pw = .int .u64 (accB f i : Int)) (fun _ pi => ((m : Int) - intOf pi).toNat)
  case atStart => exact ⟨0, Nat.zero_le _, rfl, rfl⟩
  case round =>
    obtain ⟨i, hi, rfl, rfl⟩ := hrel
    by_cases hlt : i < m
    · have K1 := hide' (KB.out i hlt)
      have hsn := accB_snoc f i
      rw [hrd.out i] at hsn
      have hbt := bit_test' (a := i) hd
      have han := u64_andNot_nat (Pf i) d (hPl.out i hlt) hd
      have hsh := shlc i (by omega)
      have hpw : (2 ^ i : Nat) < 18446744073709551616 := Nat.lt_of_lt_of_le (Nat.pow_lt_pow_right (by decide) (show i < 64 by omega)) (by decide)
      have hor := u64_or_nat (accB f i) (2 ^ i) (accB_lt f (by omega)) hpw
      cases hb : d.testBit i with
      | true =>
        rw [hb] at hsn hbt
        simp only [Bool.not_true, Bool.false_and, Bool.false_eq_true, if_false] at hsn
        have hsn' := hide' hsn
        clear hsn hb hor hsh hpw han
        go_wp2
        exact ⟨⟨i + 1, by omega, by go_num, by rw [hsn'.out]⟩, by simp [intOf]; omega⟩
      | false =>
        rw [hb] at hsn hbt
        cases hz : (Pf i &&& (18446744073709551615 - d) == 0) with
        | true =>
          rw [hz] at hsn
          simp only [Bool.not_false, Bool.true_and, if_true] at hsn
          have hz0 : Pf i &&& (18446744073709551615 - d) = 0 := by simpa using hz
          rw [hz0] at han
          rw [← hsn] at hor
          clear hb hz hz0 hsn
          generalize hy : accB f (i + 1) = y at *
          have hy' := hide' hy
          clear hy
          generalize accB f i = x at *
          generalize 2 ^ i = pw at *
          generalize Pf i = pi at *
          go_wp2_with (go_at_call 44; refine K1.out.mono ?_; rintro e w1 ⟨rfl, rfl⟩)
          exact ⟨⟨i + 1, by omega, by go_num, by rw [hy'.out]⟩, by simp [intOf]; omega⟩
        | false =>
          rw [hz] at hsn
          simp only [Bool.and_false, Bool.false_eq_true, if_false] at hsn
          have hsn' := hide' hsn
          have hz0 : (((Pf i &&& (18446744073709551615 - d) : Nat) : Int) == 0) = false := by rw [eq_cast]; exact hz
          rw [← han] at hz0
          clear hb hz hsn hor hsh hpw han
          generalize Pf i = pi at *
          go_wp2_with (go_at_call 44; refine K1.out.mono ?_; rintro e w1 ⟨rfl, rfl⟩)
          exact ⟨⟨i + 1, by omega, by go_num, by rw [hsn'.out]⟩, by simp [intOf]; omega⟩
    · obtain rfl : i = m := by omega
      go_wp2
      go_ret
      exact ⟨rfl, rfl⟩
/-- Down, place by place. -/
def dnT (m : Nat) (Pf : Nat → Nat) (d a : Nat) : Bool := d.testBit a && (decide (m ≤ a) || !(Pf a &&& (18446744073709551615 - d) == 0))
def dnAll (f : Nat → Bool) : Bool := (List.range 64).all fun a => !f a
theorem dnAll_iff (f : Nat → Bool) : dnAll f = true ↔ ∀ a, a < 64 → f a = false := by
  unfold dnAll
  rw [List.all_eq_true]
  constructor
  · intro h a ha
    have := h a (List.mem_range.2 ha)
    simpa using this
  · intro h a ha
    rw [h a (List.mem_range.1 ha)]; rfl
end
end Go.Proofs.YtbpojobmenagkaaDoor
