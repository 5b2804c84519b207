/- after answers with the Down set that comes next by its word, or there is none. -/
import Derived.Test.YtmdeljldmehefaaDoorOAfter
import Derived.Test.YtmdeljldmehefaaDoorODownsM
namespace Go.Proofs.YtmdeljldmehefaaDoor
theorem upA_bits {a : Nat} (ha : a < 64) (i : Nat) : (upA a).testBit i = (decide (a ≤ i) && decide (i < 64)) := by
  have e : upA a = 2 ^ a * (2 ^ (64 - a) - 1) := by
    unfold upA
    rw [Nat.mul_sub, ← Nat.pow_add, show a + (64 - a) = 64 by omega, Nat.mul_one]
  rw [e, Nat.testBit_two_pow_mul, Nat.testBit_two_pow_sub_one]
  by_cases h : a ≤ i
  · simp [h]; omega
  · simp [h]
section
variable {n : Nat} {R : Nat → Nat → Bool} {Pf Sf : Nat → Nat} {s : Nat}
theorem Ord.cnd_iff (h : Ord n R Pf Sf) (hs : s < 18446744073709551616) {k : Nat} (hk : k < n) : cnd Pf s k = true ↔ ∀ b, R b k = true → k ≤ b → s.testBit b = true := by
  have h64 := h.n64
  unfold cnd
  rw [sub_bits (Nat.lt_of_le_of_lt Nat.and_le_left (h.pre_lt hk)) hs]
  constructor
  · intro hh b hr hb
    refine hh b ?_
    have := (h.inn b k hr).1
    rw [Nat.testBit_and, h.pre k hk, hr, upA_bits (by omega)]
    simp; omega
  · intro hh i hi
    rw [Nat.testBit_and, h.pre k hk, upA_bits (by omega)] at hi
    simp only [Bool.and_eq_true, decide_eq_true_eq] at hi
    exact hh i hi.1 hi.2.1
theorem mem_left (hs : s < 18446744073709551616) {k : Fin 64} : k ∈ nums ((2 ^ n - 1) &&& (18446744073709551615 - s)) ↔ k.val < n ∧ s.testBit k.val = false := by
  rw [mem_nums, Nat.testBit_and, Nat.testBit_two_pow_sub_one, not_bits hs k.isLt]
  simp
theorem nxt_bits {a : Nat} (ha : a < 64) (hs : s < 18446744073709551616) (i : Nat) : (nxt s a).testBit i = true ↔ (a ≤ i ∧ s.testBit i = true) ∨ i = a := by
  unfold nxt
  rw [Nat.testBit_or, Nat.testBit_and, upA_bits ha, Nat.testBit_two_pow]
  simp only [Bool.or_eq_true, Bool.and_eq_true, decide_eq_true_eq]
  constructor
  · rintro (⟨h1, h2, _⟩ | h)
    · exact .inl ⟨h2, h1⟩
    · exact .inr h.symm
  · rintro (⟨h1, h2⟩ | h)
    · refine .inl ⟨h2, h1, ?_⟩
      rcases Nat.lt_or_ge i 64 with hi | hi
      · exact hi
      · have : s.testBit i = false := Nat.testBit_lt_two_pow (Nat.lt_of_lt_of_le hs (Nat.pow_le_pow_right (n := 2) (by decide) hi))
        rw [this] at h2; cases h2
    · exact .inr h.symm
theorem Ord.up_is (h : Ord n R Pf Sf) (hs : isDown n R s) {a : Nat} (ha : a < n) : isUp R s a (upR Pf s a) := fun i => by
  have h64 := h.n64
  have hsl := down_lt h64 hs
  unfold upR
  rw [Nat.testBit_or, Bool.or_eq_true, nxt_bits (by omega) hsl, orAll_bits, List.any_eq_true]
  have hin : ∀ k, ((a ≤ k ∧ s.testBit k = true) ∨ k = a) → k < n := fun k hk => by
    rcases hk with ⟨_, hk⟩ | rfl
    · exact hs.1 k hk
    · exact ha
  refine or_congr Iff.rfl ?_
  constructor
  · rintro ⟨k, hk, hb⟩
    rw [mem_nums, nxt_bits (by omega) hsl] at hk
    exact ⟨k.val, hk, by rw [← h.pre k.val (hin _ hk)]; exact hb⟩
  · rintro ⟨k, hk, hr⟩
    have hkn := hin k hk
    exact ⟨⟨k, by omega⟩, (mem_nums _ _).2 ((nxt_bits (by omega) hsl k).2 hk), by rw [h.pre k hkn]; exact hr⟩
theorem Ord.aft_next (h : Ord n R Pf Sf) (hs : isDown n R s) {u : Nat} {b : Bool} (ha : AftR n Pf s u b) :
    (b = true ∧ isDown n R u ∧ s < u ∧ ∀ t, isDown n R t → s < t → u ≤ t) ∨ (b = false ∧ u = 0 ∧ ∀ t, isDown n R t → t ≤ s) := by
  have h64 := h.n64
  have hsl := down_lt h64 hs
  rcases ha with ⟨rfl, rfl, hno⟩ | ⟨rfl, pre, k, hpre, hc, hmin, rfl⟩
  · refine .inr ⟨rfl, rfl, fun t ht => no_up h (fun d hd hm => ?_) ht⟩
    have := hno ⟨d, by omega⟩ ((mem_left hsl).2 ⟨hd, hm.1⟩)
    rw [(h.cnd_iff hsl hd).2 hm.2] at this
    cases this
  · obtain ⟨rest, hrest⟩ := hpre
    have hkm : k ∈ nums ((2 ^ n - 1) &&& (18446744073709551615 - s)) := by rw [← hrest]; simp
    have hk := (mem_left hsl).1 hkm
    have hm : mayUp R s k.val := ⟨hk.2, (h.cnd_iff hsl hk.1).1 hc⟩
    have hu := h.up_is hs hk.1
    refine .inl ⟨rfl, up_down h hs hk.1 hu, up_lt hs hm hu, fun t ht hst => up_least h hs hm (fun d hd hmd => ?_) hu ht hst⟩
    have hdn : d < n := by omega
    have hdm : (⟨d, by omega⟩ : Fin 64) ∈ nums ((2 ^ n - 1) &&& (18446744073709551615 - s)) := (mem_left hsl).2 ⟨hdn, hmd.1⟩
    have hso := sorted_nums ((2 ^ n - 1) &&& (18446744073709551615 - s))
    rw [← hrest] at hdm hso
    rw [List.append_assoc, List.mem_append, List.singleton_append, List.mem_cons] at hdm
    rw [List.append_assoc, List.singleton_append, List.pairwise_append] at hso
    rcases hdm with hd1 | hd1 | hd1
    · have := hmin _ hd1
      rw [(h.cnd_iff hsl hdn).2 hmd.2] at this
      cases this
    · have := congrArg Fin.val hd1
      simp at this; omega
    · have := (List.pairwise_cons.1 hso.2.1).1 _ hd1
      have : k.val < d := this
      omega
end
end Go.Proofs.YtmdeljldmehefaaDoor
