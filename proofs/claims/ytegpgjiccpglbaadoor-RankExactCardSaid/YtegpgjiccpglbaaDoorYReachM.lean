/- The links gone through again and again reach what is below: plain. -/
import Derived.Test.YtegpgjiccpglbaaDoorYPair
import Derived.Test.YtegpgjiccpglbaaDoorYMath2
namespace Go.Proofs.YtegpgjiccpglbaaDoor
/-- One link gone through. -/
def stp (w : Nat) (p : Int × Int) : Nat := if w.testBit p.1.toNat then w ||| 2 ^ p.2.toNat else w
def rnd (l : List (Int × Int)) (w : Nat) : Nat := l.foldl stp w
def rndN (l : List (Int × Int)) (w : Nat) : Nat → Nat
  | 0 => w
  | n + 1 => rnd l (rndN l w n)
theorem stp_lt {w : Nat} {p : Int × Int} (hw : w < 18446744073709551616) (hp : p.2.toNat < 64) : stp w p < 18446744073709551616 := by
  unfold stp; split
  · exact Nat.or_lt_two_pow (n := 64) hw (pow_lt64 hp)
  · exact hw
/-- A pair of places. -/
def okP (p : Int × Int) : Prop := (0 ≤ p.1 ∧ p.1 < 64) ∧ (0 ≤ p.2 ∧ p.2 < 64)
theorem rnd_lt : ∀ (l : List (Int × Int)) {w : Nat}, w < 18446744073709551616 → (∀ p ∈ l, okP p) → rnd l w < 18446744073709551616
  | [], _, hw, _ => hw
  | p :: l, w, hw, hl => rnd_lt l (w := stp w p) (stp_lt hw (by have := hl p (by simp); unfold okP at this; omega)) fun q hq => hl q (by simp [hq])
theorem rndN_lt {l : List (Int × Int)} {w : Nat} (hw : w < 18446744073709551616) (hl : ∀ p ∈ l, okP p) : ∀ n, rndN l w n < 18446744073709551616
  | 0 => hw
  | n + 1 => rnd_lt l (rndN_lt hw hl n) hl
theorem stp_mono {w : Nat} {p : Int × Int} {b : Nat} (h : w.testBit b = true) : (stp w p).testBit b = true := by
  unfold stp; split
  · rw [Nat.testBit_or, h]; rfl
  · exact h
theorem rnd_mono : ∀ (l : List (Int × Int)) {w b : Nat}, w.testBit b = true → (rnd l w).testBit b = true
  | [], _, _, h => h
  | _ :: l, _, _, h => rnd_mono l (stp_mono h)
theorem rnd_step : ∀ (l : List (Int × Int)) {w : Nat} {p : Int × Int}, p ∈ l → w.testBit p.1.toNat = true → (rnd l w).testBit p.2.toNat = true
  | q :: l, w, p, hp, h => by
    rcases List.mem_cons.1 hp with rfl | hp
    · refine rnd_mono l ?_
      unfold stp; rw [if_pos h, Nat.testBit_or, Nat.testBit_two_pow]; simp
    · exact rnd_step l hp (stp_mono h)
theorem rnd_in {J : Nat → Nat} {a : Nat} : ∀ (l : List (Int × Int)) {w : Nat}, (∀ p ∈ l, ∃ x y : Nat, E J x y ∧ p = ((x : Int), (y : Int))) → (∀ b, w.testBit b = true → Rc J a b) → ∀ b, (rnd l w).testBit b = true → Rc J a b
  | [], _, _, h => h
  | p :: l, w, hl, h => by
    refine rnd_in l (w := stp w p) (fun q hq => hl q (by simp [hq])) fun b hb => ?_
    obtain ⟨x, y, e, rfl⟩ := hl p (by simp)
    unfold stp at hb
    simp only [Int.toNat_natCast] at hb
    split at hb
    · rename_i hx
      rw [Nat.testBit_or, Bool.or_eq_true, one_bit] at hb
      rcases hb with hb | rfl
      · exact h b hb
      · exact (h x hx).snoc e
    · exact h b hb
theorem rndN_bel {J : Nat → Nat} (hw : Wf J) (hy : Acy J) {a : Nat} (ha : a < 64) : rndN (lks J) (2 ^ a) 64 = bel J a := by
  have hl : ∀ p ∈ lks J, ∃ x y : Nat, E J x y ∧ p = ((x : Int), (y : Int)) := fun p hp => (mem_lks hw).1 hp
  have h1 : ∀ n b, (rndN (lks J) (2 ^ a) n).testBit b = true → Rc J a b := by
    intro n
    induction n with
    | zero => intro b hb; rw [show rndN (lks J) (2 ^ a) 0 = 2 ^ a from rfl, one_bit] at hb; subst hb; exact .refl _ _
    | succ n ih => exact rnd_in (lks J) hl ih
  have h2 : ∀ n b, Way J n a b → ∀ m, n ≤ m → (rndN (lks J) (2 ^ a) m).testBit b = true := by
    intro n b w
    have hmono : ∀ {n b : Nat}, (rndN (lks J) (2 ^ a) n).testBit b = true → ∀ m, n ≤ m → (rndN (lks J) (2 ^ a) m).testBit b = true := fun {n b} h m hm => by
      induction m with
      | zero => obtain rfl : n = 0 := by omega
                exact h
      | succ m ih =>
        by_cases e : n = m + 1
        · subst e; exact h
        · exact rnd_mono _ (ih (by omega))
    suffices h : (rndN (lks J) (2 ^ a) n).testBit b = true from fun m hm => hmono h m hm
    have key : ∀ n x b, Way J n x b → x = a → (rndN (lks J) (2 ^ a) n).testBit b = true := by
      intro n x b w
      induction w with
      | nil x => intro e; subst e; rw [show rndN (lks J) (2 ^ x) 0 = 2 ^ x from rfl, one_bit]
      | @snoc n x b c _ e ih =>
        intro hx
        have := rnd_step (lks J) (p := ((b : Int), (c : Int))) ((mem_lks hw).2 ⟨b, c, e, rfl⟩) (w := rndN (lks J) (2 ^ a) n) (by simpa using ih hx)
        show (rnd (lks J) (rndN (lks J) (2 ^ a) n)).testBit c = true
        simpa using this
    exact key n a b w rfl
  apply Nat.eq_of_testBit_eq; intro b
  rw [Bool.eq_iff_iff, bel_bit hw hy ha]
  constructor
  · exact h1 64 b
  · rintro ⟨n, w⟩
    exact h2 n b w 64 (Nat.le_trans (w.short hw hy ha) (by decide))
theorem lks_ok {J : Nat → Nat} (hw : Wf J) : ∀ p ∈ lks J, okP p := fun p hp => by
  obtain ⟨x, y, e, rfl⟩ := (mem_lks hw).1 hp
  have := e.lt hw
  have := e.1
  unfold okP
  simp only []
  omega
theorem rnd_take {l : List (Int × Int)} {c : Nat} {p : Int × Int} (h : l[c]? = some p) (w : Nat) : rnd (l.take (c + 1)) w = stp (rnd (l.take c) w) p := by
  unfold rnd; rw [List.take_add_one, h, List.foldl_append]; rfl
/-- Two ways there and back: one place. -/
theorem Rc.anti {J : Nat → Nat} (hy : Acy J) {a b : Nat} (h1 : Rc J a b) (h2 : Rc J b a) : a = b := by
  obtain ⟨n, w⟩ := h1
  cases n with
  | zero => cases w; rfl
  | succ n =>
    obtain ⟨c, e, w2⟩ := w.head n rfl
    exact absurd (Rc.trans ⟨n, w2⟩ h2) (hy a c e)
/-- All that is below every third place. -/
def thrN (J : Nat → Nat) : Nat → Nat
  | 0 => 0
  | k + 1 => if k % 3 = 0 then thrN J k ||| bel J k else thrN J k
theorem thrN_lt {J : Nat → Nat} (hw : Wf J) : ∀ k, k ≤ 64 → thrN J k < 18446744073709551616
  | 0, _ => by show 0 < 18446744073709551616; decide
  | k + 1, h => by
    unfold thrN; split
    · exact Nat.or_lt_two_pow (n := 64) (thrN_lt hw k (by omega)) (bel_lt hw (by omega))
    · exact thrN_lt hw k (by omega)
theorem thrN_bit {J : Nat → Nat} (b : Nat) : ∀ k, (thrN J k).testBit b = true ↔ ∃ a, a < k ∧ a % 3 = 0 ∧ (bel J a).testBit b = true
  | 0 => by simp [thrN]
  | k + 1 => by
    unfold thrN
    split
    · rename_i h
      rw [Nat.testBit_or, Bool.or_eq_true, thrN_bit b k]
      constructor
      · rintro (⟨a, h1, h2⟩ | h1)
        · exact ⟨a, by omega, h2⟩
        · exact ⟨k, by omega, h, h1⟩
      · rintro ⟨a, h1, h2, h3⟩
        by_cases e : a = k
        · subst e; exact .inr h3
        · exact .inl ⟨a, by omega, h2, h3⟩
    · rename_i h
      rw [thrN_bit b k]
      constructor
      · rintro ⟨a, h1, h2⟩; exact ⟨a, by omega, h2⟩
      · rintro ⟨a, h1, h2, h3⟩
        have : a ≠ k := fun e => h (e ▸ h2)
        exact ⟨a, by omega, h2, h3⟩
theorem thirds : ∀ a : Fin 64, (10540996613548315209 : Nat).testBit a.val = decide (a.val % 3 = 0) := by decide +kernel
theorem spr_thirds {J : Nat → Nat} (hw : Wf J) (hy : Acy J) : spr J 10540996613548315209 = thrN J 64 := by
  apply Nat.eq_of_testBit_eq; intro b
  rw [Bool.eq_iff_iff, spr_bit hw hy (by decide), thrN_bit]
  constructor
  · rintro ⟨a, h, r⟩
    have ha := bit_lt (by decide) h
    have := thirds ⟨a, ha⟩
    rw [h] at this
    exact ⟨a, ha, by simpa using this.symm, (bel_bit hw hy ha).2 r⟩
  · rintro ⟨a, ha, h, r⟩
    have := thirds ⟨a, ha⟩
    exact ⟨a, by rw [this]; simpa using h, (bel_bit hw hy ha).1 r⟩
end Go.Proofs.YtegpgjiccpglbaaDoor
