/- Clash: what it answers. -/
import Derived.Test.YtcdlodmoiobpbaaRFoes
namespace Go.Proofs.Ytcdlodmoiobpbaa
open Go.RowKit
theorem any_take {n c : Nat} {p : Nat → Bool} (h : c < n) (hp : p c = true) : (List.range n).any p = true := List.any_eq_true.2 ⟨c, List.mem_range.2 h, hp⟩
set_option maxRecDepth 100000 in
set_option maxHeartbeats 4000000 in
theorem clashF (R : List Rl) (v : Value) (w : World) (hr : RowR w v R) (hR : R.length ≤ 1000) (hm : ∀ r ∈ R, r.steps.length ≤ 1000) (n : Nat) (hg : rgt (n : Int) R = true) :
    Calls Try.prog 8 #[.int .i64 (n : Int), v] w fun e w' => e = .returned (.bool (clash n R)) ∧ Below w.heap.size w w' := by
  have KF := hide' (foesF R v w hr hR hm n hg)
  obtain ⟨n', hn', hn12, _⟩ := rgt_nat hg
  have : n' = n := by omega
  subst this
  obtain ⟨oa, cap, rfl⟩ : ∃ oa cap, v = .slice oa R.length cap := by
    obtain ⟨oa, cap, e, _⟩ := hr
    exact ⟨oa, cap, e⟩
  have hlt64 : Hid (∀ s, foe n' R s < 18446744073709551616) := fun s => by
    have := foe_lt n' R s
    have := pow_le12 (n := n') (by omega)
    omega
  have hT : Hid (∀ c, c < n' → (foe n' R c).testBit c = true → clash n' R = true) := fun c hc h => any_take hc h
  have hE : Hid ((∀ c, c < n' → (foe n' R c).testBit c = false) → clash n' R = false) := fun h => by
    unfold clash
    rw [List.any_eq_false]
    intro c hc
    rw [h c (List.mem_range.1 hc)]; decide
  clear hr hm hg
  generalize foe n' R = F at *
  generalize clash n' R = res at *
  go_enter Try.func8, Try.ntmps8
  go_wp2_with fail
  refine KF.out.mono ?_
  rintro e w1 ⟨g, rfl, hrow, hb1⟩
  have hB1 := hide' hb1
  clear KF hb1
  go_wp2
  go_loopw [7, 8, 17] (fun _ _ k wr => ∃ (c : Nat), c ≤ n' ∧ k = .int .i64 c ∧ Hid (∀ d, d < c → (F d).testBit d = false) ∧ Hid (Below w1.heap.size w1 wr)) (fun _ _ k _ => ((n' : Int) - intOf k).toNat)
  case atStart => exact ⟨0, Nat.zero_le _, rfl, fun d hd => by omega, Below.refl _ _⟩
  case round =>
    obtain ⟨c, hcl, rfl, hA, hB⟩ := hrel
    have hBw : Hid (Below w.heap.size w wr) := hB1.out.trans (hB.out.mono hB1.out.size)
    by_cases hlt : c < n'
    · have cu := (hrow.out.below hB.out) c hlt
      have KO := hide' fun W => of64 0 ((F c : Nat) : Int) W
      have KH : Hid (∀ W, Calls Try.prog 24 #[.agg #[.int .u64 ((F c : Nat) : Int)], .int .i64 (c : Int)] W fun e w' => e = .returned (.bool ((F c).testBit c)) ∧ Below W.heap.size W w') := fun W => by
        have := has64 (F c) (hlt64.out c) (c : Int) W
        rwa [decide_eq_true (by omega : (0 : Int) ≤ (c : Int)), Bool.true_and, Int.toNat_natCast] at this
      have hT' := hide' (hT.out c hlt)
      have hA2 : Hid ((F c).testBit c = false → ∀ d, d < c + 1 → (F d).testBit d = false) := fun h d hd => by
        by_cases e : d = c
        · subst e; exact h
        · exact hA.out d (by omega)
      clear hT hE hlt64 hA hrow
      cases hbit : (F c).testBit c with
      | true =>
        rw [hbit] at KH
        have hR2 := hide' (hT'.out hbit)
        clear hT' hA2 hbit
        generalize F c = q at *
        go_wp2_with (first | (go_at_call 23; refine (KO.out _).mono ?_; rintro e w3 ⟨rfl, hb3⟩) | (go_at_call 24; refine (KH.out _).mono ?_; rintro e w4 ⟨rfl, hb4⟩))
        go_ret
        exact ⟨ret_bool hR2.out.symm, (hBw.out.trans (hb3.mono hBw.out.size)).trans (hb4.mono (Nat.le_trans hBw.out.size hb3.size))⟩
      | false =>
        rw [hbit] at KH
        have hA3 := hide' (hA2.out hbit)
        clear hT' hA2 hbit
        generalize F c = q at *
        go_wp2_with (first | (go_at_call 23; refine (KO.out _).mono ?_; rintro e w3 ⟨rfl, hb3⟩) | (go_at_call 24; refine (KH.out _).mono ?_; rintro e w4 ⟨rfl, hb4⟩))
        exact ⟨⟨c + 1, by omega, by go_num, hA3, (hB.out.trans (hb3.mono hB.out.size)).trans (hb4.mono (Nat.le_trans hB.out.size hb3.size))⟩, by simp [intOf]; omega⟩
    · obtain rfl : c = n' := by omega
      have hR2 := hide' (hE.out hA.out)
      clear hT hE hlt64 hA hrow
      go_wp2
      go_ret
      exact ⟨ret_bool hR2.out.symm, hBw.out⟩
set_option maxRecDepth 100000 in
set_option maxHeartbeats 2000000 in
theorem clashN (n : Int) (R : List Rl) (v : Value) (w : World) (hr : RowR w v R) (hR : R.length ≤ 1000) (hm : ∀ r ∈ R, r.steps.length ≤ 1000) (hg : rgt n R = false) :
    Calls Try.prog 8 #[.int .i64 n, v] w fun e w' => e = .returned (.bool false) ∧ Below w.heap.size w w' := by
  have KF := hide' (foesN n R v w hr hR hm hg)
  obtain ⟨oa, cap, rfl⟩ : ∃ oa cap, v = .slice oa R.length cap := by
    obtain ⟨oa, cap, e, _⟩ := hr
    exact ⟨oa, cap, e⟩
  clear hr hm hg
  go_enter Try.func8, Try.ntmps8
  go_wp2_with (go_at_call 6; refine KF.out.mono ?_; rintro e w1 ⟨rfl, hb1⟩)
  refine wp_loop_rounds 1 ?_
  rw [rounds_succ]
  go_wp2
  go_ret
  exact ⟨rfl, hb1⟩
end Go.Proofs.Ytcdlodmoiobpbaa
