/- How many rows keep an order: plain facts. -/
import Derived.Test.YtgmnldibabdjmaaDoorOExactM
import Derived.Test.YtgmnldibabdjmaaDoorOLawM
namespace Go.Proofs.YtgmnldibabdjmaaDoor
/-- In how many ways k places more can follow d. -/
def ext (n : Nat) (Pf : Nat → Nat) : Nat → Nat → Nat
  | 0, _ => 1
  | k + 1, d => ((nums (rdW n Pf d)).map fun a => ext n Pf k (d ||| 2 ^ a.val)).sum
/-- A sum, each of its parts cut at M. -/
def capS {α : Type} (M : Nat) (f : α → Nat) (l : List α) : Nat := (l.map fun a => min (f a) M).sum
theorem capS_snoc {α : Type} (M : Nat) (f : α → Nat) (l : List α) (a : α) : capS M f (l ++ [a]) = capS M f l + min (f a) M := by simp [capS]
theorem capS_small {α : Type} {M : Nat} {f : α → Nat} : ∀ (l : List α), capS M f l < M → capS M f l = (l.map f).sum
  | [], _ => rfl
  | a :: l, h => by
    have h' : min (f a) M + capS M f l < M := h
    have ih := capS_small (M := M) (f := f) l (by omega)
    show min (f a) M + capS M f l = _
    rw [ih, List.map_cons, List.sum_cons]
    omega
theorem capS_le {α : Type} (M : Nat) (f : α → Nat) : ∀ (l : List α), capS M f l ≤ (l.map f).sum
  | [] => Nat.le_refl _
  | a :: l => by
    have ih := capS_le M f l
    show min (f a) M + capS M f l ≤ _
    rw [List.map_cons, List.sum_cons]
    omega
theorem sum_prefix {α : Type} {f : α → Nat} {l m : List α} (h : l <+: m) : (l.map f).sum ≤ (m.map f).sum := by
  obtain ⟨r, rfl⟩ := h
  simp
/-- How many entries a call may lay. -/
def bnd (M : Nat) : Nat → Nat
  | 0 => 0
  | k + 1 => 1 + 2 * (M * k) + bnd M k
theorem bnd_le (M : Nat) : ∀ k, bnd M k ≤ k + 2 * (M * (k * k))
  | 0 => Nat.zero_le _
  | k + 1 => by
    have h := bnd_le M k
    show 1 + 2 * (M * k) + bnd M k ≤ _
    have e : M * ((k + 1) * (k + 1)) = M * (k * k) + M * k + M * k + M := by
      rw [show (k + 1) * (k + 1) = k * k + k + k + 1 by rw [Nat.add_mul, Nat.mul_add]; omega, Nat.mul_add, Nat.mul_add, Nat.mul_add]; omega
    omega
def bE (M r k : Nat) : Nat := if r < M then r * k else bnd M k
theorem bE_le (M : Nat) {r k : Nat} (hr : r ≤ M) : bE M r k ≤ M * k + bnd M k := by
  unfold bE
  split
  · have := Nat.mul_le_mul_right k hr; omega
  · omega
/-- The sum over the places below i that t takes. -/
def sumT (f : Nat → Nat) (t : Nat → Bool) : Nat → Nat
  | 0 => 0
  | i + 1 => sumT f t i + (if t i = true then f i else 0)
theorem sumT_range (f : Nat → Nat) (t : Nat → Bool) : ∀ i, (((List.range i).filter t).map f).sum = sumT f t i
  | 0 => rfl
  | i + 1 => by
    rw [List.range_succ, List.filter_append, List.map_append, List.sum_append, sumT_range f t i]
    show _ = sumT f t i + _
    by_cases h : t i = true
    · simp [h]
    · simp [h]
theorem sum_nums (f : Nat → Nat) {x n : Nat} (hn : n ≤ 64) (h : ∀ i, x.testBit i = true → i < n) : ((nums x).map fun a => f a.val).sum = sumT f x.testBit n := by
  have e := fin_range x.testBit
  rw [range_cut hn h] at e
  rw [← sumT_range, ← e]
  unfold nums
  rw [List.map_map]; rfl
theorem sumT_mono (f : Nat → Nat) (t : Nat → Bool) {i : Nat} : ∀ {j : Nat}, i ≤ j → sumT f t i ≤ sumT f t j
  | 0, h => by obtain rfl : i = 0 := by omega
               exact Nat.le_refl _
  | j + 1, h => by
    by_cases e : i = j + 1
    · subst e; exact Nat.le_refl _
    · have := sumT_mono f t (show i ≤ j by omega)
      show _ ≤ sumT f t j + _
      omega
theorem le_sum_mem {x : Nat} : ∀ {l : List Nat}, x ∈ l → x ≤ l.sum
  | a :: l, h => by
    rw [List.sum_cons]
    rcases List.mem_cons.1 h with e | e
    · omega
    · have := le_sum_mem e; omega
section
variable {n : Nat} {R : Nat → Nat → Bool} {Pf Sf : Nat → Nat}
theorem Ord.ext_sum (h : Ord n R Pf Sf) {d : Nat} (hd : d < 18446744073709551616) (k : Nat) : ext n Pf (k + 1) d = sumT (fun a => ext n Pf k (d ||| 2 ^ a)) (rdW n Pf d).testBit n :=
  sum_nums (fun a => ext n Pf k (d ||| 2 ^ a)) h.n64 fun i hi => ((h.rdW_bits hd i).1 hi).1
theorem Ord.ext_pos (h : Ord n R Pf Sf) : ∀ (k d : Nat), isDown n R d → cnt n d + k = n → 1 ≤ ext n Pf k d
  | 0, _, _, _ => Nat.le_refl _
  | k + 1, d, hd, hc => by
    have hl := down_lt h.n64 hd
    obtain ⟨b, hb64, hb⟩ := h.ready_ne hl (show cnt n d < n by omega)
    have hr := (h.rdW_bits hl b).1 hb
    have hm : (⟨b, hb64⟩ : Fin 64) ∈ nums (rdW n Pf d) := (mem_nums _ _).2 hb
    have ih := Ord.ext_pos h k (d ||| 2 ^ b) (down_add hd hr) (by rw [cnt_add n d b hr.2.1, if_pos hr.1]; omega)
    refine Nat.le_trans ih ?_
    show _ ≤ ((nums (rdW n Pf d)).map fun a => ext n Pf k (d ||| 2 ^ a.val)).sum
    exact le_sum_mem (List.mem_map.2 ⟨_, hm, rfl⟩)
/-- A Down set of all places is the word of all. -/
theorem down_full {d : Nat} (hd : isDown n R d) (hc : cnt n d = n) : d = 2 ^ n - 1 := by
  apply Nat.eq_of_testBit_eq
  intro i
  rw [Nat.testBit_two_pow_sub_one]
  by_cases hi : i < n
  · rw [cnt_full hc i hi]; simp [hi]
  · cases e : d.testBit i with
    | false => simp [hi]
    | true => exact absurd (hd.1 i e) hi
theorem not_full {d : Nat} (hc : cnt n d < n) : d ≠ 2 ^ n - 1 := fun e => by
  obtain ⟨a, ha, hda⟩ := cnt_some hc
  rw [e, Nat.testBit_two_pow_sub_one] at hda
  simp [ha] at hda
end
end Go.Proofs.YtgmnldibabdjmaaDoor
