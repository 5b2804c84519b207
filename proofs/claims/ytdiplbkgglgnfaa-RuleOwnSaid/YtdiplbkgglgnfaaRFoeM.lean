/- Blocks as words, and which are set against which: plain facts. -/
import Derived.Test.YtdiplbkgglgnfaaRTies
namespace Go.Proofs.Ytdiplbkgglgnfaa
/-- The words of the blocks, of the first c steps. -/
def bwC (t : List Nat) : Nat → Nat → Nat
  | 0, _ => 0
  | c + 1, b => if t[c]? = some b then bwC t c b ||| 2 ^ c else bwC t c b
theorem bwC_lt (t : List Nat) (c b : Nat) : bwC t c b < 2 ^ c := by
  induction c with
  | zero => simp [bwC]
  | succ c ih =>
    rw [bwC]
    have h1 : bwC t c b < 2 ^ (c + 1) := Nat.lt_trans ih (Nat.pow_lt_pow_right (by decide) (Nat.lt_succ_self c))
    split
    · exact Nat.or_lt_two_pow h1 (Nat.pow_lt_pow_right (by decide) (Nat.lt_succ_self c))
    · exact h1
theorem bwC_bit (t : List Nat) (c b s : Nat) : (bwC t c b).testBit s = true ↔ s < c ∧ t[s]? = some b := by
  induction c with
  | zero => simp [bwC]
  | succ c ih =>
    rw [bwC]
    by_cases h : t[c]? = some b
    · rw [if_pos h, Nat.testBit_or, Bool.or_eq_true, ih, Nat.testBit_two_pow]
      constructor
      · rintro (⟨h1, h2⟩ | h1)
        · exact ⟨by omega, h2⟩
        · have : c = s := by simpa using h1
          subst this
          exact ⟨by omega, h⟩
      · rintro ⟨h1, h2⟩
        by_cases e : s = c
        · right; simp [e]
        · left; exact ⟨by omega, h2⟩
    · rw [if_neg h, ih]
      constructor
      · rintro ⟨h1, h2⟩; exact ⟨by omega, h2⟩
      · rintro ⟨h1, h2⟩
        refine ⟨?_, h2⟩
        by_cases e : s = c
        · subst e; exact absurd h2 h
        · omega
/-- A step's block set against those of the other steps, up to the j-th. -/
def agJ (W : Nat → Nat) (o : List Nat) (i : Nat) (A : Nat → Nat) : Nat → Nat → Nat
  | 0, x => A x
  | j + 1, x => if j = i then agJ W o i A j x else if x = o.getD i 0 then agJ W o i A j x ||| W (o.getD j 0) else agJ W o i A j x
/-- The blocks of the steps set against one another, up to the i-th. -/
def agI (W : Nat → Nat) (o : List Nat) (A : Nat → Nat) : Nat → Nat → Nat
  | 0, x => A x
  | i + 1, x => agJ W o i (agI W o A i) o.length x
/-- The blocks of a rule's steps. -/
def ofR (t : List Nat) (r : Rl) : List Nat := (r.steps.map Int.toNat).map fun s => t.getD s 0
/-- What the first c rules set against a block. -/
def agC (W : Nat → Nat) (t : List Nat) (R : List Rl) : Nat → Nat → Nat
  | 0, _ => 0
  | c + 1, x => match R[c]? with
    | some r => if r.kind = 1 then agI W (ofR t r) (agC W t R c) (ofR t r).length x else agC W t R c x
    | none => agC W t R c x
theorem agJ_lt {W : Nat → Nat} {o : List Nat} {i : Nat} {A : Nat → Nat} {p : Nat} (hW : ∀ b, W b < 2 ^ p) (hA : ∀ b, A b < 2 ^ p) (j x : Nat) : agJ W o i A j x < 2 ^ p := by
  induction j with
  | zero => exact hA x
  | succ j ih =>
    rw [agJ]
    split
    · exact ih
    · split
      · exact Nat.or_lt_two_pow ih (hW _)
      · exact ih
theorem agI_lt {W : Nat → Nat} {o : List Nat} {A : Nat → Nat} {p : Nat} (hW : ∀ b, W b < 2 ^ p) (hA : ∀ b, A b < 2 ^ p) (i x : Nat) : agI W o A i x < 2 ^ p := by
  induction i generalizing x with
  | zero => exact hA x
  | succ i ih => exact agJ_lt hW ih _ _
theorem agC_lt {W : Nat → Nat} {t : List Nat} {R : List Rl} {p : Nat} (hW : ∀ b, W b < 2 ^ p) (c x : Nat) : agC W t R c x < 2 ^ p := by
  induction c generalizing x with
  | zero => exact Nat.two_pow_pos p
  | succ c ih =>
    rw [agC]
    split
    · split
      · exact agI_lt hW ih _ _
      · exact ih x
    · exact ih x
/-- A bit that is set: there before, or for two steps of the rule. -/
theorem agJ_bit {W : Nat → Nat} {o : List Nat} {i : Nat} {A : Nat → Nat} {j x y : Nat} : (agJ W o i A j x).testBit y = true ↔ (A x).testBit y = true ∨ x = o.getD i 0 ∧ ∃ k, k < j ∧ k ≠ i ∧ (W (o.getD k 0)).testBit y = true := by
  induction j with
  | zero => simp [agJ]
  | succ j ih =>
    rw [agJ]
    by_cases h : j = i
    · rw [if_pos h, ih]
      constructor
      · rintro (h1 | ⟨h1, k, h2, h3, h4⟩)
        · exact .inl h1
        · exact .inr ⟨h1, k, by omega, h3, h4⟩
      · rintro (h1 | ⟨h1, k, h2, h3, h4⟩)
        · exact .inl h1
        · exact .inr ⟨h1, k, by omega, h3, h4⟩
    · rw [if_neg h]
      by_cases hx : x = o.getD i 0
      · rw [if_pos hx, Nat.testBit_or, Bool.or_eq_true, ih]
        constructor
        · rintro ((h1 | ⟨h1, k, h2, h3, h4⟩) | h1)
          · exact .inl h1
          · exact .inr ⟨h1, k, by omega, h3, h4⟩
          · exact .inr ⟨hx, j, by omega, h, h1⟩
        · rintro (h1 | ⟨h1, k, h2, h3, h4⟩)
          · exact .inl (.inl h1)
          · by_cases e : k = j
            · subst e; exact .inr h4
            · exact .inl (.inr ⟨h1, k, by omega, h3, h4⟩)
      · rw [if_neg hx, ih]
        constructor
        · rintro (h1 | ⟨h1, _⟩)
          · exact .inl h1
          · exact absurd h1 hx
        · rintro (h1 | ⟨h1, _⟩)
          · exact .inl h1
          · exact absurd h1 hx
theorem agI_bit {W : Nat → Nat} {o : List Nat} {A : Nat → Nat} {i x y : Nat} : (agI W o A i x).testBit y = true ↔ (A x).testBit y = true ∨ ∃ k, k < i ∧ x = o.getD k 0 ∧ ∃ l, l < o.length ∧ l ≠ k ∧ (W (o.getD l 0)).testBit y = true := by
  induction i with
  | zero => simp [agI]
  | succ i ih =>
    rw [agI, agJ_bit, ih]
    constructor
    · rintro ((h1 | ⟨k, h1, h2, h3⟩) | ⟨h1, h2⟩)
      · exact .inl h1
      · exact .inr ⟨k, by omega, h2, h3⟩
      · exact .inr ⟨i, by omega, h1, h2⟩
    · rintro (h1 | ⟨k, h1, h2, h3⟩)
      · exact .inl (.inl h1)
      · by_cases e : k = i
        · subst e; exact .inr ⟨h2, h3⟩
        · exact .inl (.inr ⟨k, by omega, h2, h3⟩)
theorem agC_bit {W : Nat → Nat} {t : List Nat} {R : List Rl} {c x y : Nat} : (agC W t R c x).testBit y = true ↔ ∃ d r, d < c ∧ R[d]? = some r ∧ r.kind = 1 ∧ ∃ k, k < (ofR t r).length ∧ x = (ofR t r).getD k 0 ∧ ∃ l, l < (ofR t r).length ∧ l ≠ k ∧ (W ((ofR t r).getD l 0)).testBit y = true := by
  induction c generalizing x with
  | zero => simp [agC]
  | succ c ih =>
    have hstep : ∀ r, R[c]? = some r → r.kind = 1 → ((agC W t R (c + 1) x).testBit y = true ↔ (agC W t R c x).testBit y = true ∨ ∃ k, k < (ofR t r).length ∧ x = (ofR t r).getD k 0 ∧ ∃ l, l < (ofR t r).length ∧ l ≠ k ∧ (W ((ofR t r).getD l 0)).testBit y = true) := fun r hr hk => by
      have : agC W t R (c + 1) x = agI W (ofR t r) (agC W t R c) (ofR t r).length x := by simp [agC, hr, hk]
      rw [this, agI_bit]
    have hskip : (∀ r, R[c]? = some r → r.kind ≠ 1) → agC W t R (c + 1) x = agC W t R c x := fun h => by
      rw [agC]
      split
      · rename_i r hr
        rw [if_neg (h r hr)]
      · rfl
    constructor
    · intro h
      by_cases hex : ∃ r, R[c]? = some r ∧ r.kind = 1
      · obtain ⟨r, hr, hk⟩ := hex
        rcases (hstep r hr hk).1 h with h1 | h1
        · obtain ⟨d, r', h2, h3⟩ := ih.1 h1
          exact ⟨d, r', by omega, h3⟩
        · exact ⟨c, r, by omega, hr, hk, h1⟩
      · rw [hskip fun r hr hk => hex ⟨r, hr, hk⟩] at h
        obtain ⟨d, r', h2, h3⟩ := ih.1 h
        exact ⟨d, r', by omega, h3⟩
    · rintro ⟨d, r, h1, h2, h3, h4⟩
      by_cases e : d = c
      · subst e
        exact (hstep r h2 h3).2 (.inr h4)
      · have h5 := ih.2 ⟨d, r, by omega, h2, h3, h4⟩
        by_cases hex : ∃ r, R[c]? = some r ∧ r.kind = 1
        · obtain ⟨r', hr, hk⟩ := hex
          exact (hstep r' hr hk).2 (.inl h5)
        · rw [hskip fun r hr hk => hex ⟨r, hr, hk⟩]
          exact h5
/-- The steps that are kept apart from a step. -/
def foe (n : Nat) (R : List Rl) (s : Nat) : Nat := agC (bwC (tie n R) n) (tie n R) R R.length ((tie n R).getD s 0)
theorem foe_lt (n : Nat) (R : List Rl) (s : Nat) : foe n R s < 2 ^ n := agC_lt (fun b => bwC_lt _ _ b) _ _
def clash (n : Nat) (R : List Rl) : Bool := (List.range n).any fun s => (foe n R s).testBit s
end Go.Proofs.Ytdiplbkgglgnfaa
