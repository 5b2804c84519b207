/- The document's Clash; keep.Rows of like rows. -/
import Derived.Test.YtcdlodmoiobpbaaRDFoes
namespace Go.Proofs.Ytcdlodmoiobpbaa
open Go.RowKit
theorem shr_bitD (x i : Nat) (hx : x < 18446744073709551616) : (bits .and .u64 ((x : Int) / 2 ^ i) 1 == 1) = x.testBit i := by
  have h1 : ((x : Int) / 2 ^ i) = ((x / 2 ^ i : Nat) : Int) := by simp
  have h2 : x / 2 ^ i < 18446744073709551616 := Nat.lt_of_le_of_lt (Nat.div_le_self _ _) hx
  have h3 := u64_and_nat (x / 2 ^ i) 1 h2 (by decide)
  rw [h1]
  rw [show ((1 : Int)) = ((1 : Nat) : Int) from rfl, h3, Nat.and_one_is_mod, Nat.testBit_eq_decide_div_mod_eq]
  rw [Bool.eq_iff_iff, beq_iff_eq, decide_eq_true_iff]
  omega
set_option maxRecDepth 100000 in
set_option maxHeartbeats 4000000 in
theorem rClash (R : List Rl) (v : Value) (w : World) (hr : RowR w v R) (hR : R.length ≤ 1000) (hm : ∀ r ∈ R, r.steps.length ≤ 1000) (n : Nat) (hg : rgt (n : Int) R = true) :
    Calls Try.prog 14 #[.int .i64 (n : Int), v] w fun e w' => e = .returned (.bool (clash n R)) ∧ Below w.heap.size w w' := by
  have KR := hide' (rRight (n : Int) R v w hr hR hm)
  rw [hg] at KR
  have KF : Hid (∀ W, Below w.heap.size w W → Calls Try.prog 13 #[.int .i64 (n : Int), v] W fun e w' => ∃ g, e = .returned (.slice (some ⟨g, 0, none⟩) n n) ∧ Hid (RowU w' g n (foe n R)) ∧ Hid (Below W.heap.size W w')) := fun W hW => rFoes R v W (hr.below hW (Nat.le_refl _)) hR hm n hg
  obtain ⟨n', hn', hn12, _⟩ := rgt_nat hg
  have : n' = n := by omega
  subst this
  obtain ⟨oa, cap, rfl⟩ := hr.shape
  have hlt64 : Hid (∀ s, foe n' R s < 18446744073709551616) := fun s => by
    have := foe_lt n' R s
    have := pow_le12 (n := n') (by omega)
    omega
  have hT : Hid (∀ c, c < n' → (foe n' R c).testBit c = true → clash n' R = true) := fun c hc h => any_take hc h
  have hE : Hid ((∀ c, c < n' → (foe n' R c).testBit c = false) → clash n' R = false) := fun h => by
    unfold clash
    rw [List.any_eq_false]
    intro c hc
    rw [h c (List.mem_range.1 hc)]; decide
  clear hr hm hg
  generalize foe n' R = F at *
  generalize clash n' R = res at *
  go_enter Try.func14, Try.ntmps14
  go_wp2_with (go_at_call 7; refine KR.out.mono ?_; rintro e w0 ⟨rfl, hb0⟩)
  refine (KF.out _ hb0).mono ?_
  rintro e w1 ⟨g, rfl, hrow, hb1⟩
  have hB1 := hide' (hb0.trans (hb1.out.mono hb0.size))
  clear KF KR hb1
  go_wp2
  go_loopw [6] (fun k wr => ∃ (c : Nat), c ≤ n' ∧ k = .int .i64 c ∧ Hid (∀ d, d < c → (F d).testBit d = false) ∧ wr = w1) (fun k _ => ((n' : Int) - intOf k).toNat)
  case atStart => exact ⟨0, Nat.zero_le _, rfl, fun d hd => by omega, rfl⟩
  case round =>
    obtain ⟨c, hcl, rfl, hA, rfl⟩ := hrel
    by_cases hlt : c < n'
    · have cu := hrow.out c hlt
      have hT' := hide' (hT.out c hlt)
      have hA2 : Hid ((F c).testBit c = false → ∀ d, d < c + 1 → (F d).testBit d = false) := fun h d hd => by
        by_cases e : d = c
        · subst e; exact h
        · exact hA.out d (by omega)
      have hF64 := hlt64.out c
      clear hT hE hlt64 hA hrow
      cases hbit : (F c).testBit c with
      | true =>
        have hR2 := hide' (hT'.out hbit)
        rw [← shr_bitD (F c) c hF64] at hbit
        clear hT' hA2 hF64
        generalize F c = q at *
        go_wp2
        go_ret
        exact ⟨ret_bool hR2.out.symm, hB1.out⟩
      | false =>
        have hA3 := hide' (hA2.out hbit)
        rw [← shr_bitD (F c) c hF64] at hbit
        clear hT' hA2 hF64
        generalize F c = q at *
        go_wp2
        exact ⟨⟨c + 1, by omega, by go_num, hA3, trivial⟩, by simp [intOf]; omega⟩
    · obtain rfl : c = n' := by omega
      have hR2 := hide' (hE.out hA.out)
      clear hT hE hlt64 hA hrow
      go_wp2
      go_ret
      exact ⟨ret_bool hR2.out.symm, hB1.out⟩
set_option maxRecDepth 100000 in
set_option maxHeartbeats 2000000 in
theorem keepRowsT (g1 g2 n : Nat) (F : Nat → Nat) (w : World) (ha : RowU w g1 n F) (hb : RowU w g2 n F) (hn : n ≤ 1000) :
    Calls Try.prog 12 #[.slice (some ⟨g1, 0, none⟩) n n, .slice (some ⟨g2, 0, none⟩) n n] w fun e w' => e = .returned (.bool true) ∧ Below w.heap.size w w' := by
  have ha' := hide' ha
  have hb' := hide' hb
  clear ha hb
  go_enter Try.func12, Try.ntmps12
  go_wp2
  go_loopw [5] (fun k wr => ∃ (c : Nat), Hid (Below w.heap.size w wr) ∧ c ≤ n ∧ k = .int .i64 c) (fun k _ => ((n : Int) - intOf k).toNat)
  case atStart => exact ⟨0, Below.refl _ _, Nat.zero_le _, rfl⟩
  case round =>
    obtain ⟨c, hB, hc, rfl⟩ := hrel
    by_cases hlt : c < n
    · obtain ⟨x, hx⟩ : ∃ x, x = F c := ⟨_, rfl⟩
      have c1 := (ha'.out.below hB.out) c hlt
      have c2 := (hb'.out.below hB.out) c hlt
      rw [← hx] at c1 c2
      clear ha' hb' hx
      go_wp2
      go_region
      go_wp2
      exact ⟨⟨c + 1, hB.out.drew, by omega, by go_num⟩, by simp [intOf]; omega⟩
    · obtain rfl : c = n := by omega
      clear ha' hb'
      go_wp2
      go_ret
      exact ⟨rfl, hB.out⟩
end Go.Proofs.Ytcdlodmoiobpbaa
