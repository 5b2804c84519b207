/- The subsets of so many numbers, as the iterator tells them: plain lists. -/
import Derived.Test.YthjgbnehoiafhaaDoorC6Fn
namespace Go.Proofs.YthjgbnehoiafhaaDoor
/-- How many numbers a word has. -/
def pop64 (x : Nat) : Nat := (nums x).length
/-- The word without its lowest number. -/
def restX (s : Nat) : Nat := s &&& (18446744073709551615 - 2 ^ (lowI (nums s)).toNat)
/-- What the iterator tells for one t. -/
def stepC (s t : Nat) : List Nat := (nums (aheadX s t)).map fun j => t ||| 2 ^ j.val
def chF : Nat → Nat → List Nat
  | 0, _ => [0]
  | k + 1, s => (chF k (restX s)).flatMap (stepC s)
theorem pop64_le (s : Nat) : pop64 s ≤ 64 := by
  unfold pop64 nums
  refine Nat.le_trans (List.length_filter_le _ _) ?_
  simp
theorem pop_zero : pop64 0 = 0 := by rw [pop64, nums_zero]; rfl
theorem restX_lt {s : Nat} (hs : s < 18446744073709551616) : restX s < 18446744073709551616 := Nat.lt_of_le_of_lt Nat.and_le_left hs
theorem rest_low {s : Nat} (h : 0 < pop64 s) : 0 ≤ lowI (nums s) ∧ lowI (nums s) < 64 := by
  unfold pop64 at h
  cases hn : nums s with
  | nil => rw [hn] at h; exact absurd h (Nat.lt_irrefl _)
  | cons j l =>
    show 0 ≤ (j.val : Int) ∧ (j.val : Int) < 64
    omega
theorem rest_nums {s : Nat} {j : Fin 64} {l : List (Fin 64)} (h : nums s = j :: l) : nums (restX s) = l := by
  have e : (lowI (nums s)).toNat = j.val := by rw [h]; rfl
  have hp : 2 ^ j.val < 2 ^ 64 := Nat.pow_lt_pow_right (by decide) j.isLt
  have hs := sorted_nums s
  have key : nums (restX s) = fromI ((j.val : Int) + 1) (nums s) := by
    refine nums_from fun i => ?_
    unfold restX
    rw [e, show (18446744073709551615 : Nat) = 2 ^ 64 - 1 by decide, minus_bits 64 s (2 ^ j.val) hp i.val i.isLt, Nat.testBit_two_pow]
    by_cases hb : s.testBit i.val = true
    · have hm := (mem_nums s i).2 hb
      rw [h] at hm hs
      rcases List.mem_cons.1 hm with q | q
      · subst q
        have h2 : ¬ (i.val : Int) + 1 ≤ (i.val : Int) := by omega
        simp [hb, h2]
      · have hlt : j < i := (List.pairwise_cons.1 hs).1 i q
        have hlt' : j.val < i.val := hlt
        have h1 : ¬ j.val = i.val := by omega
        have h2 : (j.val : Int) + 1 ≤ (i.val : Int) := by omega
        simp [hb, h1, h2]
    · have hb0 : s.testBit i.val = false := by simpa using hb
      simp [hb0]
  rw [key]
  exact from_snoc (pre := []) hs h
theorem rest_pop {s : Nat} (_ : s < 18446744073709551616) (h : 0 < pop64 s) : pop64 (restX s) + 1 = pop64 s := by
  unfold pop64 at h ⊢
  cases hn : nums s with
  | nil => rw [hn] at h; exact absurd h (Nat.lt_irrefl _)
  | cons j l => rw [rest_nums hn]; rfl
theorem chF_lt : ∀ (k s : Nat), ∀ t ∈ chF k s, t < 18446744073709551616
  | 0, s, t, h => by
    have : t = 0 := by simpa [chF] using h
    omega
  | k + 1, s, t, h => by
    unfold chF at h
    obtain ⟨u, hu, ht⟩ := List.mem_flatMap.1 h
    obtain ⟨j, hj, rfl⟩ := List.mem_map.1 ht
    exact Nat.or_lt_two_pow (n := 64) (chF_lt k _ u hu) (Nat.pow_lt_pow_right (by decide) j.isLt)
theorem chF_step {k s : Nat} (_ : s < 18446744073709551616) : chF (k + 1) s = (chF k (restX s)).flatMap (stepC s) := rfl
theorem pre_inner {k s t : Nat} (hs : s < 18446744073709551616) {pre : List Nat} {p2 : List (Fin 64)} {j : Fin 64} (h1 : pre ++ [t] <+: chF k (restX s)) (h2 : p2 ++ [j] <+: nums (aheadX s t)) :
    (pre.flatMap (stepC s) ++ p2.map (fun j => t ||| 2 ^ j.val)) ++ [t ||| 2 ^ j.val] <+: chF (k + 1) s := by
  obtain ⟨r1, h1⟩ := h1
  obtain ⟨r2, h2⟩ := h2
  rw [chF_step hs, ← h1]
  refine ⟨r2.map (fun j => t ||| 2 ^ j.val) ++ r1.flatMap (stepC s), ?_⟩
  rw [List.flatMap_append, List.flatMap_append, List.flatMap_cons, List.flatMap_nil, List.append_nil, show stepC s t = (p2 ++ [j] ++ r2).map (fun j => t ||| 2 ^ j.val) by rw [h2]; rfl]
  simp
theorem flat_pre {s : Nat} {l m : List Nat} (h : l <+: m) : l.flatMap (stepC s) <+: m.flatMap (stepC s) := by
  obtain ⟨r, rfl⟩ := h
  exact ⟨r.flatMap (stepC s), by simp⟩
theorem mem64 {x : Nat} (_ : x < 18446744073709551616) {j : Fin 64} (_ : j ∈ nums x) : j.val < 64 := j.isLt
end Go.Proofs.YthjgbnehoiafhaaDoor
