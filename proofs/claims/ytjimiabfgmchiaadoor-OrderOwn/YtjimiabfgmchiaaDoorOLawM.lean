/- Ready and Down by an order's words: plain facts. -/
import Derived.Test.YtjimiabfgmchiaaDoorODown
import Derived.Test.YtjimiabfgmchiaaDoorOPairs
namespace Go.Proofs.YtjimiabfgmchiaaDoor
theorem orAll_bits (F : Nat → Nat) (i : Nat) : ∀ (l : List (Fin 64)), (orAll F l).testBit i = l.any fun k => (F k.val).testBit i := by
  intro l
  unfold orAll
  suffices h : ∀ acc, (l.foldl (fun acc k => acc ||| F k.val) acc).testBit i = (acc.testBit i || l.any fun k => (F k.val).testBit i) by rw [h 0]; simp
  induction l with
  | nil => intro acc; simp
  | cons a l ih => intro acc; rw [List.foldl_cons, ih, Nat.testBit_or, List.any_cons, Bool.or_assoc]
theorem rdF_bits (Pf : Nat → Nat) (d k i : Nat) : (rdF Pf d k).testBit i = ((Pf k &&& (18446744073709551615 - d) == 0) && decide (k = i)) := by
  unfold rdF
  cases h : (Pf k &&& (18446744073709551615 - d) == 0) with
  | true => rw [if_pos rfl, Nat.testBit_two_pow]; simp
  | false => rw [if_neg (by simp)]; simp
theorem not_bits {d i : Nat} (hd : d < 18446744073709551616) (hi : i < 64) : (18446744073709551615 - d).testBit i = !d.testBit i := by
  have e : 18446744073709551615 - d = 2 ^ 64 - (d + 1) := by omega
  rw [e, Nat.testBit_two_pow_sub_succ (show d < 2 ^ 64 from hd)]
  simp [hi]
section
variable {n : Nat} {R : Nat → Nat → Bool} {Pf Sf : Nat → Nat}
theorem Ord.rdW_bits (h : Ord n R Pf Sf) {d : Nat} (hd : d < 18446744073709551616) (a : Nat) : (rdW n Pf d).testBit a = true ↔ rdy n R d a := by
  unfold rdW rdy
  rw [orAll_bits, List.any_eq_true]
  constructor
  · rintro ⟨k, hk, e⟩
    rw [rdF_bits, Bool.and_eq_true, decide_eq_true_eq] at e
    obtain ⟨e1, rfl⟩ := e
    have hkn := in_all hk
    rw [mem_nums, Nat.testBit_and, Bool.and_eq_true, not_bits hd k.isLt] at hk
    refine ⟨hkn, by simpa using hk.2, fun b hb => ?_⟩
    rw [sub_bits (h.pre_lt hkn) hd] at e1
    exact e1 b (by rw [h.pre k.val hkn]; exact hb)
  · rintro ⟨h1, h2, h3⟩
    have h64 : a < 64 := Nat.lt_of_lt_of_le h1 h.n64
    refine ⟨⟨a, h64⟩, ?_, ?_⟩
    · rw [mem_nums, Nat.testBit_and, Nat.testBit_two_pow_sub_one, not_bits hd h64]
      simp [h1, h2]
    · rw [rdF_bits, Bool.and_eq_true, decide_eq_true_eq]
      refine ⟨?_, rfl⟩
      rw [sub_bits (h.pre_lt h1) hd]
      intro i hi
      rw [h.pre a h1] at hi
      exact h3 i hi
theorem Ord.rdW_lt (h : Ord n R Pf Sf) {d : Nat} (hd : d < 18446744073709551616) : rdW n Pf d < 18446744073709551616 :=
  small64 h.n64 fun i hi => ((h.rdW_bits hd i).1 hi).1
theorem down_lt (hn : n ≤ 64) {d : Nat} (h : isDown n R d) : d < 18446744073709551616 := small64 hn fun i hi => h.1 i hi
theorem Ord.dnB_true (h : Ord n R Pf Sf) {d : Nat} (hd : isDown n R d) : dnB n Pf d = true := by
  have hlt := down_lt h.n64 hd
  unfold dnB
  rw [Bool.and_eq_true]
  constructor
  · rw [sub_bits hlt (allw_lt h.n64)]
    intro i hi
    rw [Nat.testBit_two_pow_sub_one]
    simpa using hd.1 i hi
  · rw [sub_bits (orAll_lt fun k hk => h.pre_lt (hd.1 k.val ((mem_nums _ _).1 hk))) hlt]
    intro i hi
    rw [orAll_bits, List.any_eq_true] at hi
    obtain ⟨k, hk, e⟩ := hi
    have hk' := (mem_nums _ _).1 hk
    rw [h.pre k.val (hd.1 _ hk')] at e
    exact hd.2 k.val i hk' e
theorem down_zero : isDown n R 0 := ⟨fun a h => by simp at h, fun a b h => by simp at h⟩
theorem down_add {d a : Nat} (h : isDown n R d) (ha : rdy n R d a) : isDown n R (d ||| 2 ^ a) := by
  refine ⟨fun i hi => ?_, fun i b hi hb => ?_⟩
  · rw [Nat.testBit_or, Nat.testBit_two_pow] at hi
    rcases Bool.or_eq_true _ _ ▸ hi with h1 | h1
    · exact h.1 i h1
    · have : a = i := by simpa using h1
      subst this; exact ha.1
  · rw [Nat.testBit_or, Nat.testBit_two_pow] at hi ⊢
    rcases Bool.or_eq_true _ _ ▸ hi with h1 | h1
    · rw [h.2 i b h1 hb]; rfl
    · have : a = i := by simpa using h1
      subst this
      rw [ha.2.2 b hb]; rfl
/-- Where what is asked for next stands, going up and round. -/
theorem Ord.ready_ne (h : Ord n R Pf Sf) {d : Nat} (hd : d < 18446744073709551616) (hc : cnt n d < n) : ∃ b, b < 64 ∧ (rdW n Pf d).testBit b = true := by
  obtain ⟨a, ha, hda⟩ := cnt_some hc
  obtain ⟨b, hb⟩ := h.some_ready (Pf a) a (Nat.le_refl _) ha hda
  exact ⟨b, Nat.lt_of_lt_of_le hb.1 h.n64, (h.rdW_bits hd b).2 hb⟩
theorem Ord.ready_off (h : Ord n R Pf Sf) {d : Nat} (hd : d < 18446744073709551616) : rdW n Pf d &&& d = 0 := by
  apply Nat.eq_of_testBit_eq
  intro i
  rw [Nat.testBit_and, Nat.zero_testBit]
  cases e : (rdW n Pf d).testBit i with
  | false => rfl
  | true => rw [((h.rdW_bits hd i).1 e).2.1]; rfl
theorem Ord.pre_in (h : Ord n R Pf Sf) {d a : Nat} (hd : d < 18446744073709551616) (ha : rdy n R d a) : Pf a &&& (18446744073709551615 - d) = 0 := by
  have := (sub_bits (h.pre_lt ha.1) hd).2 (fun i hi => ha.2.2 i (by rw [← h.pre a ha.1]; exact hi))
  simpa using this
theorem Ord.suc_off (h : Ord n R Pf Sf) {d a : Nat} (hd : isDown n R d) (ha : rdy n R d a) : Sf a &&& d = 0 := by
  apply Nat.eq_of_testBit_eq
  intro i
  rw [Nat.testBit_and, Nat.zero_testBit, h.suc a ha.1]
  cases e : R a i with
  | false => rfl
  | true =>
    cases e2 : d.testBit i with
    | false => rfl
    | true =>
      have := hd.2 i a e2 e
      rw [ha.2.1] at this
      cases this
theorem Ord.ready_full (h : Ord n R Pf Sf) {d : Nat} (hd : d < 18446744073709551616) (hc : cnt n d = n) : rdW n Pf d = 0 := by
  apply Nat.eq_of_testBit_eq
  intro i
  rw [Nat.zero_testBit]
  cases e : (rdW n Pf d).testBit i with
  | false => rfl
  | true =>
    have hr := (h.rdW_bits hd i).1 e
    have h2 := hr.2.1
    rw [cnt_full hc i hr.1] at h2
    cases h2
end
/-- The way from a up and round to b. -/
def way (a b : Nat) : Nat := (b + 64 - a) % 64
theorem way_step {a b : Nat} (ha : a < 64) (hb : b < 64) (h : a ≠ b) : way ((a + 1) % 64) b < way a b := by
  unfold way
  omega
end Go.Proofs.YtjimiabfgmchiaaDoor
