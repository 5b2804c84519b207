/- What both orders tell is the same: plain facts; Pairs of two like rows. -/
import Derived.Test.YtbpojobmenagkaaDoorRFns
namespace Go.Proofs.YtbpojobmenagkaaDoor
open Go.RowKit Go.Shelf
theorem fin_range (p : Nat → Bool) : ((List.finRange 64).filter fun i => p i.val).map (·.val) = (List.range 64).filter p := by
  have e : (List.finRange 64).map (·.val) = List.range 64 := by decide +kernel
  rw [← e, List.filter_map]
  rfl
theorem range_cut {p : Nat → Bool} {k : Nat} (hk : k ≤ 64) (hp : ∀ i, p i = true → i < k) : (List.range 64).filter p = (List.range k).filter p := by
  obtain ⟨d, hd⟩ : ∃ d, 64 = k + d := ⟨64 - k, by omega⟩
  rw [hd, List.range_add, List.filter_append]
  have : ((List.range d).map (k + ·)).filter p = [] := by
    rw [List.filter_eq_nil_iff]
    intro x hx
    obtain ⟨y, _, rfl⟩ := List.mem_map.1 hx
    intro e
    have := hp _ e
    omega
  rw [this, List.append_nil]
section
variable {n : Nat} {R : Nat → Nat → Bool} {Pf Sf : Nat → Nat} (h : Ord n R Pf Sf)
include h
theorem Ord.bef (a b : Int) : (decide (0 ≤ b) && (sucI n Sf a).testBit b.toNat) = befI R a b := by
  unfold befI sucI
  by_cases hb : 0 ≤ b
  · by_cases ha : 0 ≤ a ∧ a < n
    · rw [if_pos ha, h.suc a.toNat (by omega)]
      simp [hb, ha.1]
    · rw [if_neg ha]
      cases e : R a.toNat b.toNat with
      | false => simp
      | true =>
        have := (h.inn _ _ e).1
        have : ¬ 0 ≤ a := by omega
        simp [this]
  · simp [hb]
theorem Ord.suc_lt' (a : Int) : sucI n Sf a < 18446744073709551616 := by
  unfold sucI
  split
  · exact h.suc_lt (by omega)
  · decide
theorem Ord.accP (a : Int) : accB (fun i => befI R i a) n = preI n Pf a := by
  apply Nat.eq_of_testBit_eq
  intro i
  rw [accB_bits]
  unfold befI preI
  by_cases ha : 0 ≤ a ∧ a < n
  · rw [if_pos ha, h.pre a.toNat (by omega)]
    by_cases hi : i < n
    · simp [hi, ha.1]
    · cases e : R i a.toNat with
      | false => simp [hi]
      | true => exact absurd (h.inn _ _ e).1 hi
  · rw [if_neg ha, Nat.zero_testBit]
    by_cases h0 : 0 ≤ a
    · cases e : R i a.toNat with
      | false => simp [e]
      | true =>
        have := (h.inn _ _ e).2
        exact absurd ⟨h0, by omega⟩ ha
    · simp [h0]
theorem Ord.accS (a : Int) : accB (fun i => befI R a i) n = sucI n Sf a := by
  apply Nat.eq_of_testBit_eq
  intro i
  rw [accB_bits]
  unfold befI sucI
  by_cases ha : 0 ≤ a ∧ a < n
  · rw [if_pos ha, h.suc a.toNat (by omega)]
    by_cases hi : i < n
    · simp [hi, ha.1]
    · cases e : R a.toNat i with
      | false => simp [hi]
      | true => exact absurd (h.inn _ _ e).2 hi
  · rw [if_neg ha, Nat.zero_testBit]
    by_cases h0 : 0 ≤ a
    · cases e : R a.toNat i with
      | false => simp [e]
      | true =>
        have := (h.inn _ _ e).1
        exact absurd ⟨h0, by omega⟩ ha
    · simp [h0]
theorem Ord.accPn {a : Nat} (ha : a < n) : accB (fun i => befI R i (a : Int)) n = Pf a ∧ Pf a < 18446744073709551616 := by
  refine ⟨?_, h.pre_lt ha⟩
  rw [h.accP]
  unfold preI
  rw [if_pos (by omega), Int.toNat_natCast]
theorem Ord.accR {d : Nat} (hd : d < 18446744073709551616) : accB (rdT Pf d) n = rdW n Pf d := by
  apply Nat.eq_of_testBit_eq
  intro i
  rw [accB_bits, Bool.eq_iff_iff, h.rdW_bits hd]
  unfold rdT rdy
  simp only [Bool.and_eq_true, decide_eq_true_eq, Bool.not_eq_true']
  constructor
  · rintro ⟨h1, h2, h3⟩
    refine ⟨h1, h2, fun b hb => ?_⟩
    rw [sub_bits (h.pre_lt h1) hd] at h3
    exact h3 b (by rw [h.pre i h1]; exact hb)
  · rintro ⟨h1, h2, h3⟩
    refine ⟨h1, h2, ?_⟩
    rw [sub_bits (h.pre_lt h1) hd]
    intro b hb
    rw [h.pre i h1] at hb
    exact h3 b hb
theorem Ord.dn_iff {d : Nat} (hd : d < 18446744073709551616) : dnB n Pf d = true ↔ isDown n R d := by
  constructor
  · intro hb
    unfold dnB at hb
    rw [Bool.and_eq_true] at hb
    have hin := in_sub h.n64 hd hb.1
    have hlt : orAll Pf (nums d) < 18446744073709551616 := orAll_lt fun k hk => h.pre_lt (hin k hk)
    have h2 := (sub_bits hlt hd).1 hb.2
    have hlt64 : ∀ a, d.testBit a = true → a < 64 := fun a ha => by
      rcases Nat.lt_or_ge a 64 with h' | h'
      · exact h'
      · rw [Nat.testBit_lt_two_pow (Nat.lt_of_lt_of_le (show d < 2 ^ 64 from hd) (Nat.pow_le_pow_right (by decide) h'))] at ha; cases ha
    refine ⟨fun a ha => hin ⟨a, hlt64 a ha⟩ ((mem_nums _ _).2 ha), fun a b ha hab => h2 b ?_⟩
    rw [orAll_bits, List.any_eq_true]
    exact ⟨⟨a, hlt64 a ha⟩, (mem_nums _ _).2 ha, by rw [h.pre a (hin ⟨a, hlt64 a ha⟩ ((mem_nums _ _).2 ha))]; exact hab⟩
  · exact h.dnB_true
theorem Ord.accD {d : Nat} (hd : d < 18446744073709551616) : dnAll (dnT n Pf d) = dnB n Pf d := by
  rw [Bool.eq_iff_iff, dnAll_iff, h.dn_iff hd]
  have hlt64 : ∀ a, d.testBit a = true → a < 64 := fun a ha => by
    rcases Nat.lt_or_ge a 64 with h' | h'
    · exact h'
    · rw [Nat.testBit_lt_two_pow (Nat.lt_of_lt_of_le (show d < 2 ^ 64 from hd) (Nat.pow_le_pow_right (by decide) h'))] at ha; cases ha
  constructor
  · intro hall
    have key : ∀ a, d.testBit a = true → a < n ∧ (Pf a &&& (18446744073709551615 - d) == 0) = true := fun a ha => by
      have := hall a (hlt64 a ha)
      unfold dnT at this
      rw [ha, Bool.true_and, Bool.or_eq_false_iff] at this
      exact ⟨by have := this.1; simp at this; omega, by simpa using this.2⟩
    refine ⟨fun a ha => (key a ha).1, fun a b ha hab => ?_⟩
    have hk := key a ha
    rw [sub_bits (h.pre_lt hk.1) hd] at hk
    exact hk.2 b (by rw [h.pre a hk.1]; exact hab)
  · rintro ⟨h1, h2⟩ a _
    unfold dnT
    cases ha : d.testBit a with
    | false => rfl
    | true =>
      have hn := h1 a ha
      have : (Pf a &&& (18446744073709551615 - d) == 0) = true := by
        rw [sub_bits (h.pre_lt hn) hd]
        intro i hi
        rw [h.pre a hn] at hi
        exact h2 a i ha hi
      rw [this]
      simp; omega
theorem Ord.nums_in {a : Nat} (ha : a < n) : ∀ b ∈ nums (Sf a), b.val < n := fun b hb => by
  rw [mem_nums, h.suc a ha] at hb
  exact (h.inn _ _ hb).2
end
end Go.Proofs.YtbpojobmenagkaaDoor
