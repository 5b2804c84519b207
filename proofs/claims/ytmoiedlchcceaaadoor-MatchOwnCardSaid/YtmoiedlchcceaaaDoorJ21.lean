/- Which words the iterator tells: those that lie in the set and have so many numbers. -/
import Derived.Test.YtmoiedlchcceaaaDoorJ04
import Derived.Test.YtmoiedlchcceaaaDoorJ20
namespace Go.Proofs.YtmoiedlchcceaaaDoor
open Go.RowKit Go.Shelf
theorem choose_seq : ∀ (k s n kb sb : Nat) (w : World), s < 18446744073709551616 → k ≤ pop64 s → kb < w.heap.size → sb < w.heap.size → Tab w → w.cell? ⟨kb, 0, none⟩ = some (.int .i64 (k : Int)) → w.cell? ⟨sb, 0, none⟩ = some (.int .u64 (s : Int)) →
    SeqL n Tryd.prog 55 #[.pointer (some ⟨kb, 0, none⟩), .pointer (some ⟨sb, 0, none⟩)] encT (KpB sb) (chF k s) w
  | 0, s, n, kb, sb, w, hs, _, hkb, hsb, _, hk, hc => choose_zero s n kb sb w hs hkb hsb hk hc
  | k + 1, s, n, kb, sb, w, hs, hp, hkb, hsb, ht, hk, hc => choose_step k s n kb sb w hs hp hkb hsb ht hk hc fun n' kb' sb' w' h1 h2 h3 h4 h5 => choose_seq k (restX s) n' kb' sb' w' (restX_lt hs) (by have := rest_pop hs (s := s) (by omega); omega) h1 h2 h3 h4 h5
end Go.Proofs.YtmoiedlchcceaaaDoor
namespace Go.Proofs.YtmoiedlchcceaaaDoor
theorem or_bit (t : Nat) (j i : Fin 64) : (t ||| 2 ^ j.val).testBit i.val = true ↔ t.testBit i.val = true ∨ i = j := by
  rw [Nat.testBit_or, Bool.or_eq_true, Nat.testBit_two_pow]
  constructor
  · rintro (h | h)
    · exact .inl h
    · exact .inr (Fin.ext (of_decide_eq_true h).symm)
  · rintro (h | h)
    · exact .inl h
    · exact .inr (decide_eq_true (by rw [h]))
theorem sorted_ext : ∀ {l m : List (Fin 64)}, l.Pairwise (· < ·) → m.Pairwise (· < ·) → (∀ i, i ∈ l ↔ i ∈ m) → l = m
  | [], [], _, _, _ => rfl
  | [], y :: m, _, _, h => by have := (h y).2 (List.mem_cons_self ..); cases this
  | x :: l, [], _, _, h => by have := (h x).1 (List.mem_cons_self ..); cases this
  | x :: l, y :: m, h1, h2, h => by
    have p1 := List.pairwise_cons.1 h1
    have p2 := List.pairwise_cons.1 h2
    have e : x = y := by
      rcases List.mem_cons.1 ((h x).1 (List.mem_cons_self ..)) with q | q
      · exact q
      · rcases List.mem_cons.1 ((h y).2 (List.mem_cons_self ..)) with r | r
        · exact r.symm
        · have a := p2.1 x q
          have b := p1.1 y r
          have a : y.val < x.val := a
          have b : x.val < y.val := b
          omega
    subst e
    rw [sorted_ext p1.2 p2.2 fun i => ?_]
    have hi := h i
    rw [List.mem_cons, List.mem_cons] at hi
    constructor
    · intro q
      rcases hi.1 (.inr q) with r | r
      · subst r; have := p1.1 i q; exact absurd this (Nat.lt_irrefl i.val)
      · exact r
    · intro q
      rcases hi.2 (.inr q) with r | r
      · subst r; have := p2.1 i q; exact absurd this (Nat.lt_irrefl i.val)
      · exact r
/-- A number that is below all others laid ahead. -/
theorem nums_lay {t : Nat} {j : Fin 64} (h : ∀ i ∈ nums t, j < i) : nums (t ||| 2 ^ j.val) = j :: nums t := by
  have hs1 := sorted_nums (t ||| 2 ^ j.val)
  have hs2 : (j :: nums t).Pairwise (· < ·) := List.pairwise_cons.2 ⟨h, sorted_nums t⟩
  have hm : ∀ i, i ∈ nums (t ||| 2 ^ j.val) ↔ i ∈ j :: nums t := fun i => by
    rw [mem_nums, or_bit, List.mem_cons, mem_nums]
    exact Or.comm
  exact sorted_ext hs1 hs2 hm
theorem ahead_mem {s t : Nat} (ht : t < 18446744073709551616) {j : Fin 64} : j ∈ nums (aheadX s t) ↔ s.testBit j.val = true ∧ ∀ i ∈ nums t, j < i := by
  unfold aheadX
  by_cases h0 : t = 0
  · rw [if_pos h0, h0, nums_zero, mem_nums]
    simp
  · rw [if_neg h0, mem_nums, belowX_bit, Bool.and_eq_true]
    cases hn : nums t with
    | nil =>
      constructor
      · rintro ⟨_, h⟩
        have h := of_decide_eq_true h
        have : (j.val : Int) < lowI [] := h
        have : lowI [] < 0 := by decide
        omega
      · rintro ⟨h1, _⟩
        refine ⟨h1, ?_⟩
        exact absurd (nums_eq_nil ht hn) h0
    | cons k l =>
      have hs := sorted_nums t
      rw [hn] at hs
      constructor
      · rintro ⟨h1, h2⟩
        have h2 : (j.val : Int) < (k.val : Int) := of_decide_eq_true h2
        refine ⟨h1, fun i hi => ?_⟩
        rcases List.mem_cons.1 hi with rfl | hi
        · show j.val < i.val; omega
        · have : k < i := (List.pairwise_cons.1 hs).1 i hi
          have : k.val < i.val := this
          show j.val < i.val; omega
      · rintro ⟨h1, h2⟩
        have h3 : j < k := h2 k (List.mem_cons_self ..)
        have h3 : j.val < k.val := h3
        exact ⟨h1, decide_eq_true (show (j.val : Int) < (k.val : Int) by omega)⟩
theorem chF_mem : ∀ (k s t : Nat), t ∈ chF k s ↔ t < 18446744073709551616 ∧ (∀ i ∈ nums t, s.testBit i.val = true) ∧ (nums t).length = k
  | 0, s, t => by
    constructor
    · intro h
      have : t = 0 := by simpa [chF] using h
      subst this
      rw [nums_zero]
      exact ⟨by decide, fun i h => (by cases h), rfl⟩
    · rintro ⟨h1, _, h3⟩
      have := nums_eq_nil h1 (List.eq_nil_of_length_eq_zero h3)
      subst this
      simp [chF]
  | k + 1, s, t => by
    unfold chF
    rw [List.mem_flatMap]
    constructor
    · rintro ⟨t', h1, h2⟩
      obtain ⟨j, hj, rfl⟩ := List.mem_map.1 h2
      obtain ⟨a, b, c⟩ := (chF_mem k (restX s) t').1 h1
      obtain ⟨d, e⟩ := (ahead_mem a).1 hj
      rw [nums_lay e]
      refine ⟨Nat.or_lt_two_pow (n := 64) a (Nat.pow_lt_pow_right (by decide) j.isLt), fun i hi => ?_, by rw [List.length_cons, c]⟩
      rcases List.mem_cons.1 hi with rfl | hi
      · exact d
      · have := b i hi
        unfold restX at this
        rw [Nat.testBit_and, Bool.and_eq_true] at this
        exact this.1
    · rintro ⟨h1, h2, h3⟩
      cases hn : nums t with
      | nil => rw [hn] at h3; cases h3
      | cons j l =>
        rw [hn] at h2 h3
        have hr := rest_nums hn
        have hs := sorted_nums t
        rw [hn] at hs
        have hlow := (List.pairwise_cons.1 hs).1
        have h4 : restX t < 18446744073709551616 := restX_lt h1
        refine ⟨restX t, (chF_mem k (restX s) (restX t)).2 ⟨h4, fun i hi => ?_, by rw [hr]; simpa using h3⟩, List.mem_map.2 ⟨j, (ahead_mem h4).2 ⟨h2 j (List.mem_cons_self ..), by rw [hr]; exact hlow⟩, ?_⟩⟩
        · rw [hr] at hi
          have hsi := (mem_nums s i).2 (h2 i (List.mem_cons_of_mem _ hi))
          have hsj := (mem_nums s j).2 (h2 j (List.mem_cons_self ..))
          cases hm : nums s with
          | nil => rw [hm] at hsi; cases hsi
          | cons y m =>
            have hss := sorted_nums s
            rw [hm] at hsi hsj hss
            rw [← mem_nums, rest_nums hm]
            rcases List.mem_cons.1 hsi with q | q
            · exfalso
              subst q
              have hji : j.val < i.val := hlow i hi
              rcases List.mem_cons.1 hsj with r | r
              · rw [r] at hji; exact Nat.lt_irrefl _ hji
              · have : i.val < j.val := (List.pairwise_cons.1 hss).1 j r
                omega
            · exact q
        · refine nums_inj (Nat.or_lt_two_pow (n := 64) h4 (Nat.pow_lt_pow_right (by decide) j.isLt)) h1 ?_
          rw [nums_lay (by rw [hr]; exact hlow), hr, hn]
end Go.Proofs.YtmoiedlchcceaaaDoor
