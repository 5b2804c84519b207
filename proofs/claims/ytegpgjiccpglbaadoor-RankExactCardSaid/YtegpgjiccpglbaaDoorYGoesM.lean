/- What laying, cutting and dropping do to the row of links: plain. -/
import Derived.Test.YtegpgjiccpglbaaDoorYReachM
import Derived.Test.YtegpgjiccpglbaaDoorYDrop
namespace Go.Proofs.YtegpgjiccpglbaaDoor
theorem nums_nodup (x : Nat) : (nums x).Pairwise (· ≠ ·) := (sorted_nums x).imp fun {a b} h e => by subst e; exact Nat.lt_irrefl _ h
theorem count_more {α : Type} [DecidableEq α] : ∀ (l : List α) (p q : α → Bool) (j : α), l.Pairwise (· ≠ ·) → j ∈ l → p j = false → (∀ x, q x = (p x || decide (x = j))) → l.countP q = l.countP p + 1
  | a :: l, p, q, j, hn, hj, hp, hq => by
    rw [List.countP_cons, List.countP_cons]
    rw [List.pairwise_cons] at hn
    by_cases e : a = j
    · subst e
      have h1 : l.countP q = l.countP p := List.countP_congr fun x hx => by
        have := hn.1 x hx
        rw [hq x]; simp [Ne.symm this]
      rw [h1, hq a, hp]; simp
    · have hj' : j ∈ l := by
        rcases List.mem_cons.1 hj with h | h
        · exact absurd h.symm e
        · exact h
      have := count_more l p q j hn.2 hj' hp hq
      rw [this, hq a]; simp [e]; omega
theorem nums_count (x : Nat) : (nums x).length = (List.finRange 64).countP fun i => x.testBit i.val := by
  unfold nums; rw [List.countP_eq_length_filter]
theorem fin_nodup : (List.finRange 64).Pairwise (· ≠ ·) := sorted_fin.imp fun {a b} h e => by subst e; exact Nat.lt_irrefl _ h
theorem nums_lay {x j : Nat} (hj : j < 64) (h : x.testBit j = false) : (nums (x ||| 2 ^ j)).length = (nums x).length + 1 := by
  rw [nums_count, nums_count]
  refine count_more _ _ _ ⟨j, hj⟩ fin_nodup (by simp) h fun i => ?_
  rw [Nat.testBit_or, Nat.testBit_two_pow]
  congr 1
  rw [decide_eq_decide]
  exact ⟨fun e => Fin.ext e.symm, fun e => (congrArg Fin.val e).symm⟩
theorem lksN_lay {J : Nat → Nat} {i j : Nat} (hj : j < 64) (h : (J i).testBit j = false) : ∀ k, (lksN (lay J i j) k).length = (lksN J k).length + if i < k then 1 else 0
  | 0 => by simp [lksN]
  | k + 1 => by
    rw [lksN_snoc, lksN_snoc, List.length_append, List.length_append, lksN_lay hj h k]
    have e : ∀ x, (lkRow k (nums x)).length = (nums x).length := fun x => by simp [lkRow]
    rw [e, e]
    by_cases hk : k = i
    · subst hk
      have : lay J k j k = J k ||| 2 ^ j := by simp [lay, putJ]
      rw [this, nums_lay hj h]
      simp; omega
    · have : lay J i j k = J k := by simp [lay, putJ, hk]
      rw [this]
      have : (i < k + 1) ↔ (i < k) := by omega
      simp [this]; omega
theorem lks_lay {J : Nat → Nat} {i j : Nat} (hi : i < 64) (hj : j < 64) (h : (J i).testBit j = false) : (lks (lay J i j)).length = (lks J).length + 1 := by
  unfold lks; rw [lksN_lay hj h, if_pos hi]
/-- Laid and cut: as it was. -/
theorem lay_cut {J : Nat → Nat} (hw : Wf J) {i j : Nat} (hi : i < 64) (hj : j < 64) (h : (J i).testBit j = false) : ∀ k, k < 64 → cutJ (lay J i j) i j k = J k := by
  intro k hk
  have hl := lay_wf hw hi hj (J := J)
  by_cases e : k = i
  · subst e
    have h1 : cutJ (lay J k j) k j k = (J k ||| 2 ^ j) &&& (18446744073709551615 - 2 ^ j) := by simp [cutJ, lay, putJ]
    rw [h1]
    apply Nat.eq_of_testBit_eq; intro b
    rw [andNot_bit _ _ (Nat.or_lt_two_pow (n := 64) (hw k hk) (pow_lt64 hj)) (pow_lt64 hj), Nat.testBit_or, Nat.testBit_two_pow]
    by_cases e : j = b
    · subst e; rw [h]; simp
    · simp [e]
  · simp [cutJ, lay, putJ, e]
/-- Does a link touch x? -/
def tch (x : Int) (p : Int × Int) : Bool := decide (p.1 = x) || decide (p.2 = x)
theorem filter_row {x a k : Nat} (hka : k ≠ a) (hx : x < 18446744073709551616) (ha : a < 64) : (lkRow k (nums x)).filter (fun p => !tch (a : Int) p) = lkRow k (nums (x &&& (18446744073709551615 - 2 ^ a))) := by
  unfold lkRow
  rw [List.filter_map]
  congr 1
  unfold nums
  rw [List.filter_filter]
  refine List.filter_congr fun i _ => ?_
  rw [andNot_bit _ _ hx (pow_lt64 ha), Nat.testBit_two_pow, Bool.and_comm]
  congr 1
  have h1 : ¬ (k : Int) = (a : Int) := by omega
  simp [tch, h1]
  omega
theorem filter_lksN {J : Nat → Nat} (hw : Wf J) {a : Nat} (ha : a < 64) : ∀ k, k ≤ 64 → (lksN J k).filter (fun p => !tch (a : Int) p) = lksN (drpJ J a) k
  | 0, _ => by simp [lksN]
  | k + 1, hk => by
    rw [lksN_snoc, lksN_snoc, List.filter_append, filter_lksN hw ha k (by omega)]
    congr 1
    by_cases e : k = a
    · subst e
      have : drpJ J k k = 0 := by simp [drpJ]
      rw [this, nums_zero]
      unfold lkRow
      rw [List.filter_map, List.map_nil]
      rw [List.map_eq_nil_iff, List.filter_eq_nil_iff]
      intro i _
      simp [tch]
    · rw [filter_row e (hw k (by omega)) ha]
      simp [drpJ, e]
theorem filter_lks {J : Nat → Nat} (hw : Wf J) {a : Nat} (ha : a < 64) : (lks J).filter (fun p => !tch (a : Int) p) = lks (drpJ J a) := filter_lksN hw ha 64 (Nat.le_refl _)
theorem count_row {x a k : Nat} (hka : k ≠ a) (ha : a < 64) : (lkRow k (nums x)).countP (tch (a : Int)) = if x.testBit a then 1 else 0 := by
  unfold lkRow
  rw [List.countP_map]
  have h1 : ¬ (k : Int) = (a : Int) := by omega
  have h2 : ∀ i : Fin 64, (tch (a : Int) ∘ fun b : Fin 64 => ((k : Int), (b.val : Int))) i = decide (i = ⟨a, ha⟩) := fun i => by
    simp [tch, h1]
    constructor
    · intro h; exact Fin.ext (by show i.val = a; omega)
    · intro h; rw [h]
  rw [List.countP_congr (q := fun i => decide (i = ⟨a, ha⟩)) fun i _ => by rw [h2 i]]
  by_cases ht : x.testBit a = true
  · rw [if_pos ht]
    have := count_more (nums x) (fun _ => false) (fun i => decide (i = ⟨a, ha⟩)) ⟨a, ha⟩ (nums_nodup x) ((mem_nums x _).2 ht) rfl fun _ => by simp
    simpa using this
  · rw [if_neg ht, List.countP_eq_zero]
    intro i hi e
    simp at e
    subst e
    exact ht ((mem_nums x _).1 hi)
theorem count_self {x k : Nat} : (lkRow k (nums x)).countP (tch (k : Int)) = (nums x).length := by
  unfold lkRow
  rw [List.countP_map, List.countP_eq_length.2]
  intro i _
  simp [tch]
theorem count_lksN {J : Nat → Nat} {a : Nat} (ha : a < 64) : ∀ k, (lksN J k).countP (tch (a : Int)) = (if a < k then (nums (J a)).length else 0) + cntN J a k
  | 0 => by simp [lksN, cntN]
  | k + 1 => by
    rw [lksN_snoc, List.countP_append, count_lksN ha k, cntN_snoc]
    by_cases e : k = a
    · subst e
      rw [count_self]; simp; omega
    · rw [count_row e ha]
      have : (a < k + 1) ↔ (a < k) := by omega
      simp [e, this]; omega
theorem count_lks {J : Nat → Nat} {a : Nat} (ha : a < 64) : (lks J).countP (tch (a : Int)) = drC J a := by
  unfold lks drC; rw [count_lksN ha, if_pos ha]
/-- A number that is no place: no link touches it. -/
theorem tch_out {J : Nat → Nat} (hw : Wf J) {x : Int} (hx : okA x = false) : ∀ p ∈ lks J, tch x p = false := fun p hp => by
  have := lks_ok hw p hp
  unfold okP at this
  unfold okA at hx
  have h2 : ¬ (0 ≤ x ∧ x < 64) := by simpa using hx
  unfold tch
  simp; omega
/-- What is told of links that touch x, whatever it is. -/
theorem drop_links {J : Nat → Nat} (hw : Wf J) (x : Int) : (lks J).countP (tch x) = drCI J x ∧ (lks J).filter (fun p => !tch x p) = lks (drJI J x) := by
  unfold drCI drJI
  cases hx : okA x with
  | true =>
    obtain ⟨a, ha, rfl⟩ := okA_nat hx
    simp only [if_true, Int.toNat_natCast]
    exact ⟨count_lks ha, filter_lks hw ha⟩
  | false =>
    have h := tch_out hw hx
    simp only [Bool.false_eq_true, if_false]
    exact ⟨List.countP_eq_zero.2 fun p hp e => (by rw [h p hp] at e; cases e), List.filter_eq_self.2 fun p hp => (by rw [h p hp]; rfl)⟩
end Go.Proofs.YtegpgjiccpglbaaDoor
