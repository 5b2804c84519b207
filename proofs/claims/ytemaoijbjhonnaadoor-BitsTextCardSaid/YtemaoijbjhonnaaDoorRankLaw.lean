/- Plain facts on rank and place; BitsRank's walk: true for every word. -/
import Derived.Test.YtemaoijbjhonnaaDoorNth
import Derived.Test.YtemaoijbjhonnaaDoorWakes
namespace Go.Proofs.YtemaoijbjhonnaaDoor
open Go.RowKit
theorem hide' {p : Prop} (h : p) : Hid p := h
theorem split_at {x : Nat} {c : Nat} (hc : c < 64) (hp : x.testBit c = true) : ∃ rest, nums x = toI (c : Int) (nums x) ++ ⟨c, hc⟩ :: rest := by
  have hm : (⟨c, hc⟩ : Fin 64) ∈ nums x := (mem_nums x _).2 hp
  obtain ⟨pre, rest, h⟩ := List.append_of_mem hm
  exact ⟨rest, by rw [show ((c : Nat) : Int) = (((⟨c, hc⟩ : Fin 64).val : Nat) : Int) from rfl, to_snoc (sorted_nums x) h]; exact h⟩
theorem to_next {x : Nat} {c : Nat} (hc : c < 64) : toI ((c : Int) + 1) (nums x) = toI (c : Int) (nums x) ++ (if x.testBit c then [⟨c, hc⟩] else []) := by
  by_cases hp : x.testBit c = true
  · rw [if_pos hp]
    obtain ⟨rest, h⟩ := split_at hc hp
    generalize hpre : toI (c : Int) (nums x) = pre at *
    have hs := sorted_nums x
    rw [h] at hs ⊢
    unfold toI
    rw [List.pairwise_append] at hs
    obtain ⟨_, h2, h3⟩ := hs
    rw [List.pairwise_cons] at h2
    rw [List.filter_append, List.filter_cons]
    have e1 : pre.filter (fun k => decide ((k.val : Int) < (c : Int) + 1)) = pre := by
      rw [List.filter_eq_self]; intro k hk
      have : k.val < c := h3 k hk ⟨c, hc⟩ (by simp)
      simp; omega
    have e2 : rest.filter (fun k => decide ((k.val : Int) < (c : Int) + 1)) = [] := by
      rw [List.filter_eq_nil_iff]; intro k hk
      have : c < k.val := h2.1 k hk
      simp; omega
    rw [e1, e2, if_pos (by simp; omega)]
  · rw [if_neg hp, List.append_nil]
    unfold toI
    refine List.filter_congr fun k hk => ?_
    have hne : k.val ≠ c := fun e => hp (by rw [← e]; exact (mem_nums x k).1 hk)
    simp; omega
theorem to_all (x : Nat) : toI 64 (nums x) = nums x := by
  unfold toI; rw [List.filter_eq_self]; intro k _; simp; omega
theorem to_none (x : Nat) : toI 0 (nums x) = [] := by
  unfold toI; rw [List.filter_eq_nil_iff]; intro k _; simp
theorem next_at {l pre rest : List (Fin 64)} {j : Fin 64} (hs : l.Pairwise (· < ·)) (h : l = pre ++ j :: rest) : lowI (fromI (lastI pre + 1) l) = j.val := by
  unfold lastI
  cases e : pre.getLast? with
  | none =>
    have : pre = [] := List.getLast?_eq_none_iff.1 e
    subst this
    rw [show ((-1 : Int) + 1) = 0 from rfl, from_low l (Int.le_refl _), h]; rfl
  | some k =>
    obtain ⟨pre', hp⟩ := List.getLast?_eq_some_iff.1 e
    subst hp
    have : fromI ((k.val : Int) + 1) l = j :: rest := from_snoc (pre := pre') hs (by rw [h]; simp)
    rw [this]; rfl
theorem next_end {l : List (Fin 64)} (hs : l.Pairwise (· < ·)) : lowI (fromI (lastI l + 1) l) = -1 := by
  unfold lastI
  cases e : l.getLast? with
  | none =>
    have : l = [] := List.getLast?_eq_none_iff.1 e
    subst this; rfl
  | some k =>
    obtain ⟨pre', hp⟩ := List.getLast?_eq_some_iff.1 e
    have : fromI ((k.val : Int) + 1) l = [] := from_snoc hs hp
    rw [this]; rfl
theorem last_bound (l : List (Fin 64)) : -1 ≤ lastI l ∧ lastI l < 64 := by
  unfold lastI; cases l.getLast? with
  | none => decide
  | some k => have := k.isLt; exact ⟨by show -1 ≤ (k.val : Int); omega, by show (k.val : Int) < 64; omega⟩
theorem nth_end (l : List (Fin 64)) : nthI l (l.length : Nat) = -1 := by
  unfold nthI; rw [if_pos (by omega)]; simp
theorem cnt_compl (n : Nat) : ∀ x y : Nat, (∀ i, i < n → y.testBit i = !x.testBit i) → cnt n y = n - cnt n x := by
  induction n with
  | zero => intros; rfl
  | succ n ih =>
    intro x y h
    have h0 := h 0 (by omega)
    rw [Nat.testBit_zero, Nat.testBit_zero] at h0
    have h1 := ih (x / 2) (y / 2) (fun i hi => by have := h (i + 1) (by omega); rwa [Nat.testBit_succ, Nat.testBit_succ] at this)
    have l1 := cnt_le n (x / 2)
    rw [cnt, cnt, h1]
    have hx := Nat.mod_two_eq_zero_or_one x
    have hy := Nat.mod_two_eq_zero_or_one y
    rcases hx with hx | hx <;> rcases hy with hy | hy <;> simp [hx, hy] at h0 <;> omega
theorem len_not (x : Nat) (hx : x < 18446744073709551616) : (nums (18446744073709551615 - x)).length = 64 - (nums x).length := by
  rw [len_nums, len_nums]
  refine cnt_compl 64 x _ fun i hi => ?_
  have e : 18446744073709551615 - x = 2 ^ 64 - (x + 1) := by omega
  rw [e, Nat.testBit_two_pow_sub_succ hx]; simp [hi]
end Go.Proofs.YtemaoijbjhonnaaDoor
