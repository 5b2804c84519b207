/- What both orders tell is the same: plain facts; Pairs of two like rows. -/
import Derived.Test.YteiedppecijhfaaDoorRCov
namespace Go.Proofs.YteiedppecijhfaaDoor
open Go.RowKit Go.Shelf
theorem pair_eq (a b : Int) (w : World) : (Op.equalIn 10000 53 (.agg #[.int .i64 a, .int .i64 b]) (.agg #[.int .i64 a, .int .i64 b])).run Tryd.prog w = .ok true w := by
  have u3 := Tryd.underlying3
  have a3 := Tryd.isAgg3
  have z3 := Tryd.sizeOf3
  rw [show (10000 : Nat) = 9999 + 1 from rfl, Op.equalIn]
  simp only [Sem.run_bind, run_underlying Tryd.underlying53, Result.andThen_ok]
  simp only [Std.Legacy.Range.forIn_eq_forIn_range', Std.Legacy.Range.size, Nat.sub_zero, Nat.add_sub_cancel, Nat.div_one, List.range'_succ, List.range'_zero, List.forIn_cons, List.forIn_nil]
  go_simp
set_option maxRecDepth 100000 in
set_option maxHeartbeats 1000000 in
theorem keepPairsT (L : List (Int × Int)) (va vb : Value) (w : World) (ha : PairsAt w va L) (hb : PairsAt w vb L) (hn : L.length ≤ 1000000) :
    Calls Tryd.prog 19 #[va, vb] w fun e w' => e = .returned (.bool true) ∧ Below w.heap.size w w' := by
  obtain ⟨oa, ca, rfl, hca, ha⟩ := ha
  obtain ⟨ob, cb, rfl, hcb, hb⟩ := hb
  have ha' := hide' ha
  have hb' := hide' hb
  have hca1 := hca.1
  have hcb1 := hcb.1
  clear ha hb hca hcb
  go_enter Tryd.func19, Tryd.ntmps19
  go_wp2
  go_loopw [5] (fun k wr => Below w.heap.size w wr ∧ ∃ (c : Nat), c ≤ L.length ∧ k = .int .i64 c) (fun k _ => ((L.length : Int) - intOf k).toNat)
  case atStart => exact ⟨Below.refl _ _, 0, Nat.zero_le _, rfl⟩
  case round =>
    obtain ⟨hB, c, hc, rfl⟩ := hrel
    by_cases hlt : c < L.length
    · obtain ⟨⟨x, y⟩, hx⟩ : ∃ x, L[c]? = some x := ⟨_, List.getElem?_eq_getElem hlt⟩
      obtain ⟨g1, o1, rfl, c1', c2'⟩ := ha'.out c _ hx
      obtain ⟨g2, o2, rfl, c3', c4'⟩ := hb'.out c _ hx
      have c1 := cell_over c1' hB
      have c2 := cell_over c2' hB
      have c3 := cell_over c3' hB
      have c4 := cell_over c4' hB
      clear c1' c2' c3' c4' hx
      have hpe := fun W => pair_eq x y W
      simp only [] at c1 c2 c3 c4
      go_wp2
      go_region
      go_wp2
      exact ⟨⟨hB.drew, c + 1, by omega, by go_num⟩, by simp [intOf]; omega⟩
    · obtain rfl : c = L.length := by omega
      go_wp2
      go_ret
      exact ⟨rfl, hB⟩
theorem fin_range (p : Nat → Bool) : ((List.finRange 64).filter fun i => p i.val).map (·.val) = (List.range 64).filter p := by
  have e : (List.finRange 64).map (·.val) = List.range 64 := by decide +kernel
  rw [← e, List.filter_map]
  rfl
theorem range_cut {p : Nat → Bool} {k : Nat} (hk : k ≤ 64) (hp : ∀ i, p i = true → i < k) : (List.range 64).filter p = (List.range k).filter p := by
  obtain ⟨d, hd⟩ : ∃ d, 64 = k + d := ⟨64 - k, by omega⟩
  rw [hd, List.range_add, List.filter_append]
  have : ((List.range d).map (k + ·)).filter p = [] := by
    rw [List.filter_eq_nil_iff]
    intro x hx
    obtain ⟨y, _, rfl⟩ := List.mem_map.1 hx
    intro e
    have := hp _ e
    omega
  rw [this, List.append_nil]
section
variable {n : Nat} {R : Nat → Nat → Bool} {Pf Sf : Nat → Nat} (h : Ord n R Pf Sf)
include h
theorem Ord.bef (a b : Int) : (decide (0 ≤ b) && (sucI n Sf a).testBit b.toNat) = befI R a b := by
  unfold befI sucI
  by_cases hb : 0 ≤ b
  · by_cases ha : 0 ≤ a ∧ a < n
    · rw [if_pos ha, h.suc a.toNat (by omega)]
      simp [hb, ha.1]
    · rw [if_neg ha]
      cases e : R a.toNat b.toNat with
      | false => simp
      | true =>
        have := (h.inn _ _ e).1
        have : ¬ 0 ≤ a := by omega
        simp [this]
  · simp [hb]
theorem Ord.suc_lt' (a : Int) : sucI n Sf a < 18446744073709551616 := by
  unfold sucI
  split
  · exact h.suc_lt (by omega)
  · decide
theorem Ord.accP (a : Int) : accB (fun i => befI R i a) n = preI n Pf a := by
  apply Nat.eq_of_testBit_eq
  intro i
  rw [accB_bits]
  unfold befI preI
  by_cases ha : 0 ≤ a ∧ a < n
  · rw [if_pos ha, h.pre a.toNat (by omega)]
    by_cases hi : i < n
    · simp [hi, ha.1]
    · cases e : R i a.toNat with
      | false => simp [hi]
      | true => exact absurd (h.inn _ _ e).1 hi
  · rw [if_neg ha, Nat.zero_testBit]
    by_cases h0 : 0 ≤ a
    · cases e : R i a.toNat with
      | false => simp [e]
      | true =>
        have := (h.inn _ _ e).2
        exact absurd ⟨h0, by omega⟩ ha
    · simp [h0]
theorem Ord.accS (a : Int) : accB (fun i => befI R a i) n = sucI n Sf a := by
  apply Nat.eq_of_testBit_eq
  intro i
  rw [accB_bits]
  unfold befI sucI
  by_cases ha : 0 ≤ a ∧ a < n
  · rw [if_pos ha, h.suc a.toNat (by omega)]
    by_cases hi : i < n
    · simp [hi, ha.1]
    · cases e : R a.toNat i with
      | false => simp [hi]
      | true => exact absurd (h.inn _ _ e).2 hi
  · rw [if_neg ha, Nat.zero_testBit]
    by_cases h0 : 0 ≤ a
    · cases e : R a.toNat i with
      | false => simp [e]
      | true =>
        have := (h.inn _ _ e).1
        exact absurd ⟨h0, by omega⟩ ha
    · simp [h0]
theorem Ord.accPn {a : Nat} (ha : a < n) : accB (fun i => befI R i (a : Int)) n = Pf a ∧ Pf a < 18446744073709551616 := by
  refine ⟨?_, h.pre_lt ha⟩
  rw [h.accP]
  unfold preI
  rw [if_pos (by omega), Int.toNat_natCast]
theorem Ord.accR {d : Nat} (hd : d < 18446744073709551616) : accB (rdT Pf d) n = rdW n Pf d := by
  apply Nat.eq_of_testBit_eq
  intro i
  rw [accB_bits, Bool.eq_iff_iff, h.rdW_bits hd]
  unfold rdT rdy
  simp only [Bool.and_eq_true, decide_eq_true_eq, Bool.not_eq_true']
  constructor
  · rintro ⟨h1, h2, h3⟩
    refine ⟨h1, h2, fun b hb => ?_⟩
    rw [sub_bits (h.pre_lt h1) hd] at h3
    exact h3 b (by rw [h.pre i h1]; exact hb)
  · rintro ⟨h1, h2, h3⟩
    refine ⟨h1, h2, ?_⟩
    rw [sub_bits (h.pre_lt h1) hd]
    intro b hb
    rw [h.pre i h1] at hb
    exact h3 b hb
theorem Ord.dn_iff {d : Nat} (hd : d < 18446744073709551616) : dnB n Pf d = true ↔ isDown n R d := by
  constructor
  · intro hb
    unfold dnB at hb
    rw [Bool.and_eq_true] at hb
    have hin := in_sub h.n64 hd hb.1
    have hlt : orAll Pf (nums d) < 18446744073709551616 := orAll_lt fun k hk => h.pre_lt (hin k hk)
    have h2 := (sub_bits hlt hd).1 hb.2
    have hlt64 : ∀ a, d.testBit a = true → a < 64 := fun a ha => by
      rcases Nat.lt_or_ge a 64 with h' | h'
      · exact h'
      · rw [Nat.testBit_lt_two_pow (Nat.lt_of_lt_of_le (show d < 2 ^ 64 from hd) (Nat.pow_le_pow_right (by decide) h'))] at ha; cases ha
    refine ⟨fun a ha => hin ⟨a, hlt64 a ha⟩ ((mem_nums _ _).2 ha), fun a b ha hab => h2 b ?_⟩
    rw [orAll_bits, List.any_eq_true]
    exact ⟨⟨a, hlt64 a ha⟩, (mem_nums _ _).2 ha, by rw [h.pre a (hin ⟨a, hlt64 a ha⟩ ((mem_nums _ _).2 ha))]; exact hab⟩
  · exact h.dnB_true
theorem Ord.accD {d : Nat} (hd : d < 18446744073709551616) : dnAll (dnT n Pf d) = dnB n Pf d := by
  rw [Bool.eq_iff_iff, dnAll_iff, h.dn_iff hd]
  have hlt64 : ∀ a, d.testBit a = true → a < 64 := fun a ha => by
    rcases Nat.lt_or_ge a 64 with h' | h'
    · exact h'
    · rw [Nat.testBit_lt_two_pow (Nat.lt_of_lt_of_le (show d < 2 ^ 64 from hd) (Nat.pow_le_pow_right (by decide) h'))] at ha; cases ha
  constructor
  · intro hall
    have key : ∀ a, d.testBit a = true → a < n ∧ (Pf a &&& (18446744073709551615 - d) == 0) = true := fun a ha => by
      have := hall a (hlt64 a ha)
      unfold dnT at this
      rw [ha, Bool.true_and, Bool.or_eq_false_iff] at this
      exact ⟨by have := this.1; simp at this; omega, by simpa using this.2⟩
    refine ⟨fun a ha => (key a ha).1, fun a b ha hab => ?_⟩
    have hk := key a ha
    rw [sub_bits (h.pre_lt hk.1) hd] at hk
    exact hk.2 b (by rw [h.pre a hk.1]; exact hab)
  · rintro ⟨h1, h2⟩ a _
    unfold dnT
    cases ha : d.testBit a with
    | false => rfl
    | true =>
      have hn := h1 a ha
      have : (Pf a &&& (18446744073709551615 - d) == 0) = true := by
        rw [sub_bits (h.pre_lt hn) hd]
        intro i hi
        rw [h.pre a hn] at hi
        exact h2 a i ha hi
      rw [this]
      simp; omega
theorem Ord.cov_iff {a b : Nat} (ha : a < n) (hb : b < n) : okK R a b n = (R a b && ((Sf a &&& Pf b) == 0)) := by
  unfold okK
  congr 1
  rw [Bool.eq_iff_iff, List.all_eq_true, beq_iff_eq]
  constructor
  · intro hall
    apply Nat.eq_of_testBit_eq
    intro i
    rw [Nat.testBit_and, Nat.zero_testBit, h.suc a ha, h.pre b hb]
    by_cases hi : i < n
    · have := hall i (List.mem_range.2 hi)
      cases e : R a i with
      | false => rfl
      | true => rw [e] at this; simpa using this
    · cases e : R a i with
      | false => rfl
      | true => exact absurd (h.inn _ _ e).2 hi
  · intro h0 i _
    have := congrArg (fun x => x.testBit i) h0
    simp only [Nat.testBit_and, Nat.zero_testBit, h.suc a ha, h.pre b hb] at this
    rw [this]; rfl
theorem Ord.cov_row {a : Nat} (ha : a < n) : covRow Pf Sf a (nums (Sf a)) = cvRow R n a n := by
  unfold covRow cvRow nums
  rw [List.filter_filter]
  have e : (List.range n).filter (fun x => okK R a x n) = (List.range 64).filter (fun b => ((Sf a &&& Pf b) == 0) && (Sf a).testBit b) := by
    rw [range_cut h.n64 (p := fun b => ((Sf a &&& Pf b) == 0) && (Sf a).testBit b) fun i hi => by
      rw [Bool.and_eq_true, h.suc a ha] at hi
      exact (h.inn _ _ hi.2).2]
    apply List.filter_congr
    intro b hb
    rw [h.cov_iff ha (List.mem_range.1 hb), h.suc a ha, Bool.and_comm]
  rw [e, ← fin_range, List.map_map]
  rfl
theorem Ord.cov_all : covK Pf Sf n = cvK R n n := by
  unfold covK cvK
  rw [List.flatMap_def, List.flatMap_def]
  congr 1
  exact List.map_congr_left fun a ha => h.cov_row (List.mem_range.1 ha)
theorem Ord.nums_in {a : Nat} (ha : a < n) : ∀ b ∈ nums (Sf a), b.val < n := fun b hb => by
  rw [mem_nums, h.suc a ha] at hb
  exact (h.inn _ _ hb).2
end
end Go.Proofs.YteiedppecijhfaaDoor
