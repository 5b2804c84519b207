/- The numbers of a word, rising: plain facts on words and lists; nothing of the program. -/
import Derived.Test.YtfajgbdnfphajaaRows
namespace Go.Proofs.Ytfajgbdnfphajaa.M

/-- The numbers of a word, rising. -/
def nums (x : Nat) : List (Fin 64) := (List.finRange 64).filter (fun i => x.testBit i.val)
/-- The first of a list; -1: none. -/
def lowI : List (Fin 64) → Int
  | [] => -1
  | j :: _ => j.val
/-- Those not below i. -/
def fromI (i : Int) (l : List (Fin 64)) : List (Fin 64) := l.filter (fun j => decide (i ≤ (j.val : Int)))
/-- Those below i. -/
def toI (i : Int) (l : List (Fin 64)) : List (Fin 64) := l.filter (fun j => decide ((j.val : Int) < i))

theorem mem_nums (x : Nat) (i : Fin 64) : i ∈ nums x ↔ x.testBit i.val = true := by simp [nums]
theorem sorted_fin : (List.finRange 64).Pairwise (· < ·) := by decide +kernel
theorem sorted_nums (x : Nat) : (nums x).Pairwise (· < ·) := sorted_fin.sublist List.filter_sublist
theorem nums_congr {x y : Nat} (h : ∀ i : Fin 64, x.testBit i.val = y.testBit i.val) : nums x = nums y := by
  unfold nums; exact List.filter_congr fun i _ => h i
theorem nums_from {x y : Nat} {i : Int} (h : ∀ j : Fin 64, y.testBit j.val = (x.testBit j.val && decide (i ≤ (j.val : Int)))) : nums y = fromI i (nums x) := by
  unfold nums fromI; rw [List.filter_filter]; exact List.filter_congr fun j _ => by rw [h j, Bool.and_comm]
theorem nums_to {x y : Nat} {i : Int} (h : ∀ j : Fin 64, y.testBit j.val = (x.testBit j.val && decide ((j.val : Int) < i))) : nums y = toI i (nums x) := by
  unfold nums toI; rw [List.filter_filter]; exact List.filter_congr fun j _ => by rw [h j, Bool.and_comm]
theorem nums_zero : nums 0 = [] := by simp [nums]
theorem nums_eq_nil {x : Nat} (hx : x < 2 ^ 64) (h : nums x = []) : x = 0 := by
  apply Nat.eq_of_testBit_eq
  intro i
  by_cases hi : i < 64
  · have : (⟨i, hi⟩ : Fin 64) ∉ nums x := by rw [h]; simp
    rw [mem_nums] at this
    simpa using this
  · rw [Nat.testBit_lt_two_pow (Nat.lt_of_lt_of_le hx (Nat.pow_le_pow_right (by decide) (by omega)))]; simp
theorem nums_inj {x y : Nat} (hx : x < 2 ^ 64) (hy : y < 2 ^ 64) (h : nums x = nums y) : x = y := by
  apply Nat.eq_of_testBit_eq
  intro i
  by_cases hi : i < 64
  · have e : (⟨i, hi⟩ : Fin 64) ∈ nums x ↔ (⟨i, hi⟩ : Fin 64) ∈ nums y := by rw [h]
    rw [mem_nums, mem_nums] at e
    exact Bool.eq_iff_iff.2 e
  · rw [Nat.testBit_lt_two_pow (Nat.lt_of_lt_of_le hx (Nat.pow_le_pow_right (by decide) (by omega))), Nat.testBit_lt_two_pow (Nat.lt_of_lt_of_le hy (Nat.pow_le_pow_right (by decide) (by omega)))]

/-- In a rising list: what is behind j is what is not below j + 1. -/
theorem from_snoc {l pre rest : List (Fin 64)} {j : Fin 64} (hs : l.Pairwise (· < ·)) (h : l = pre ++ j :: rest) : fromI ((j.val : Int) + 1) l = rest := by
  subst h
  unfold fromI
  rw [List.pairwise_append] at hs
  obtain ⟨_, h2, h3⟩ := hs
  rw [List.pairwise_cons] at h2
  rw [List.filter_append, List.filter_cons]
  have e1 : pre.filter (fun k => decide ((j.val : Int) + 1 ≤ (k.val : Int))) = [] := by
    rw [List.filter_eq_nil_iff]; intro k hk
    have := h3 k hk j (by simp)
    have : k.val < j.val := this
    simp; omega
  have e2 : rest.filter (fun k => decide ((j.val : Int) + 1 ≤ (k.val : Int))) = rest := by
    rw [List.filter_eq_self]; intro k hk
    have : j.val < k.val := h2.1 k hk
    simp; omega
  rw [e1, e2, if_neg (by simp; omega)]; rfl
theorem to_snoc {l pre rest : List (Fin 64)} {j : Fin 64} (hs : l.Pairwise (· < ·)) (h : l = pre ++ j :: rest) : toI (j.val : Int) l = pre := by
  subst h
  unfold toI
  rw [List.pairwise_append] at hs
  obtain ⟨_, h2, h3⟩ := hs
  rw [List.pairwise_cons] at h2
  rw [List.filter_append, List.filter_cons]
  have e1 : pre.filter (fun k => decide ((k.val : Int) < (j.val : Int))) = pre := by
    rw [List.filter_eq_self]; intro k hk
    have : k.val < j.val := h3 k hk j (by simp)
    simp; omega
  have e2 : rest.filter (fun k => decide ((k.val : Int) < (j.val : Int))) = [] := by
    rw [List.filter_eq_nil_iff]; intro k hk
    have : j.val < k.val := h2.1 k hk
    simp; omega
  rw [e1, e2, if_neg (by simp)]; simp
theorem from_low (l : List (Fin 64)) {i : Int} (hi : i ≤ 0) : fromI i l = l := by
  unfold fromI; rw [List.filter_eq_self]; intro k _; simp; omega

/-- A word whose least number is k: the word and its negative have just that in common. -/
theorem and_neg {x k : Nat} (hk : k < 64) (h1 : x.testBit k = true) (h0 : ∀ j, j < k → x.testBit j = false) (hx : x < 2 ^ 64) : x &&& (2 ^ 64 - x) = 2 ^ k := by
  have hm : x % 2 ^ (k + 1) = 2 ^ k := by
    apply Nat.eq_of_testBit_eq; intro i
    rw [Nat.testBit_mod_two_pow, Nat.testBit_two_pow]
    by_cases e : k = i
    · subst e; simp [h1]
    · by_cases hlt : i < k + 1
      · rw [h0 i (by omega)]; simp [e]
      · simp [hlt, e]
  have hd := Nat.div_add_mod x (2 ^ (k + 1))
  rw [hm] at hd
  generalize x / 2 ^ (k + 1) = m at hd
  have hp : 0 < 2 ^ k := Nat.two_pow_pos k
  have hx0 : 0 < x := by omega
  have e2 : 2 ^ 64 - x = 2 ^ 64 - ((x - 1) + 1) := by omega
  have hm1 : x - 1 = 2 ^ (k + 1) * m + (2 ^ k - 1) := by omega
  have hlt1 : 2 ^ k - 1 < 2 ^ (k + 1) := by rw [Nat.pow_succ]; omega
  have hlt2 : 2 ^ k < 2 ^ (k + 1) := by rw [Nat.pow_succ]; omega
  apply Nat.eq_of_testBit_eq; intro i
  rw [Nat.testBit_and, e2, Nat.testBit_two_pow_sub_succ (by omega), Nat.testBit_two_pow]
  by_cases hi : i < k
  · rw [h0 i hi]; simp; omega
  · by_cases e : k = i
    · subst e
      have : (x - 1).testBit k = false := by rw [hm1, Nat.testBit_two_pow_mul_add _ hlt1, if_pos (by omega), Nat.testBit_two_pow_sub_one]; simp
      rw [h1, this]; simp [hk]
    · have a1 : x.testBit i = m.testBit (i - (k + 1)) := by rw [← hd, Nat.testBit_two_pow_mul_add _ hlt2, if_neg (by omega)]
      have a2 : (x - 1).testBit i = m.testBit (i - (k + 1)) := by rw [hm1, Nat.testBit_two_pow_mul_add _ hlt1, if_neg (by omega)]
      rw [a1, a2]; simp [e]; intro h _; exact h
theorem and_neg_nums {x : Nat} {j : Fin 64} {l : List (Fin 64)} (hx : x < 2 ^ 64) (h : nums x = j :: l) : x &&& (2 ^ 64 - x) = 2 ^ j.val := by
  have hs := sorted_nums x
  refine and_neg j.isLt ((mem_nums x j).1 (by rw [h]; simp)) ?_ hx
  intro i hi
  have hi64 : i < 64 := by omega
  cases hb : x.testBit i with
  | false => rfl
  | true =>
    have hm : (⟨i, hi64⟩ : Fin 64) ∈ nums x := (mem_nums x _).2 hb
    rw [h] at hm hs
    rcases List.mem_cons.1 hm with e | hm
    · have : i = j.val := congrArg Fin.val e
      omega
    · have : j.val < i := (List.pairwise_cons.1 hs).1 _ hm
      omega
/-- The place that the library's table is asked at. -/
def dbAt (k : Nat) : Nat := 2 ^ k * 285870213051353865 % 18446744073709551616 / 288230376151711744
def dbTab : List Nat := [0, 1, 56, 2, 57, 49, 28, 3, 61, 58, 42, 50, 38, 29, 17, 4, 62, 47, 59, 36, 45, 43, 51, 22, 53, 39, 33, 30, 24, 18, 12, 5, 63, 55, 48, 27, 60, 41, 37, 16, 46, 35, 44, 21, 52, 32, 23, 11, 54, 26, 40, 15, 34, 20, 31, 10, 25, 14, 19, 9, 13, 8, 7, 6]
theorem db_ok : ∀ k : Fin 64, dbAt k.val < 64 ∧ dbTab[dbAt k.val]? = some k.val := by decide +kernel
end Go.Proofs.Ytfajgbdnfphajaa.M
