/- BitsRank answers true for every word, wherever the library's table lies as it is laid; it makes new memory alone. -/
import Derived.Test.YtajfafckhipgeaaDoorRankLaw
namespace Go.Proofs.YtajfafckhipgeaaDoor
open Go.RowKit
theorem nth64 (x : Nat) (hx : x < 18446744073709551616) (k : Int) (w : World) (ht : Tab w) :
    Calls Tryd.prog 22 #[.agg #[.int .u64 x], .int .i64 k] w fun e W' => e = .returned (.int .i64 (nthI (nums x) k)) ∧ Below w.heap.size w W' := callsIn_wide.1 (nthC64 x hx k w ht)
theorem hasB (A : Nat) (hA : A < 18446744073709551616) (c : Nat) (p : Bool) (hp : A.testBit c = p) (W : World) :
    Calls Tryd.prog 9 #[.agg #[.int .u64 A], .int .i64 c] W fun e w' => e = .returned (.bool p) ∧ Below W.heap.size W w' := by
  have h := has64 A hA c W
  rw [Int.toNat_natCast, hp] at h
  simpa using h
set_option maxRecDepth 100000 in
set_option maxHeartbeats 4000000 in
theorem bitsRank_walk (A B : Nat) (I K : Int) (hA : A < 18446744073709551616) (w : World) (ht : Tab w) :
    Calls Tryd.prog 4 #[.agg #[.int .u64 A, .int .u64 B, .int .i64 I, .int .i64 K]] w fun e w' => e = .returned (.bool true) ∧ Below w.heap.size w w' := by
  go_enter Tryd.func4, Tryd.ntmps4
  go_wp2_with fail
  refine (of64 _ _ _).mono ?_
  rintro e w1 ⟨rfl, hb1⟩
  have b1 : Below w.heap.size w w1 := (((Below.refl _ w).alloc (Nat.le_refl _) _).alloc (by simp) _).trans (hb1.mono (by simp; omega))
  have k0 := keep1 (w := w) (W := w1.alloc (.cells #[.int .u64 A] 26)) (w1 := w1.alloc (.cells #[.int .u64 A] 26)) (b := w1.heap.size) (v := .int .u64 A) ⟨by simp, by simp, b1.alloc b1.size _⟩ (Below.refl _ _)
  clear hb1 b1
  go_wp2
  generalize w1.heap.size = ba at *
  go_loopw [5, 6, 7] (fun n la i wr => ∃ (c m : Nat) (l : Int), c ≤ 64 ∧ i = .int .i64 c ∧ n = .int .i64 m ∧ la = .int .i64 l ∧ Hid (m = (toI (c : Int) (nums A)).length) ∧ Hid (l = lastI (toI (c : Int) (nums A))) ∧ (wr.cell? ⟨ba, 0, none⟩ = some (.int .u64 A) ∧ ba < wr.heap.size ∧ Below w.heap.size w wr)) (fun _ _ i _ => (64 - intOf i).toNat)
  case atStart => exact ⟨0, 0, -1, by omega, rfl, rfl, rfl, by show 0 = _; rw [show (((0 : Nat) : Int)) = 0 from rfl, to_none]; rfl, by show (-1 : Int) = _; rw [show (((0 : Nat) : Int)) = 0 from rfl, to_none]; rfl, k0⟩
  case round =>
    clear k0
    obtain ⟨c, m, l, hc, rfl, rfl, rfl, hm, hl, hk⟩ := hrel
    have hlb := last_bound (toI (c : Int) (nums A))
    rw [← hl.out] at hlb
    obtain ⟨hl1, hl2⟩ := hlb
    have hmb : m ≤ 64 := by
      rw [hm.out]
      exact Nat.le_trans (List.length_filter_le _ _) (nums_len A)
    have KW : Hid (∀ W, Below w.heap.size w W → Calls Tryd.prog 20 #[] W fun e w' => e = .returned (.bool true) ∧ Below W.heap.size W w') := fun W hW => wakes W (ht.over hW)
    by_cases hlt : c < 64
    · have hnx := to_next (x := A) hlt
      cases hp : A.testBit c with
      | false =>
        have KH : Hid _ := hasB A hA c false hp
        rw [hp] at hnx
        have hnx' : Hid (toI ((c : Int) + 1) (nums A) = toI (c : Int) (nums A)) := by show _ = _; simpa using hnx
        clear hnx hp hA ht
        go_wp2_with (go_at_call 9; refine (KH.out _).mono ?_; rintro e w3 ⟨rfl, hb⟩; replace hk := keep1 hk hb; clear hb)
        exact ⟨⟨c + 1, m, l, by omega, by go_num, rfl, rfl, by show m = _; rw [show (((c + 1 : Nat) : Int)) = (c : Int) + 1 by omega, hnx'.out]; exact hm.out, by show l = _; rw [show (((c + 1 : Nat) : Int)) = (c : Int) + 1 by omega, hnx'.out]; exact hl.out, hk⟩, by simp [intOf]; omega⟩
      | true =>
        have KH : Hid _ := hasB A hA c true hp
        rw [hp] at hnx
        obtain ⟨rest, hsp⟩ := split_at hlt hp
        have KR : Hid (∀ W, Calls Tryd.prog 21 #[.agg #[.int .u64 A], .int .i64 c] W fun e w' => e = .returned (.int .i64 m) ∧ Below W.heap.size W w') := by rw [hm.out]; exact rank64 A hA c
        have KS : Hid (∀ W, Calls Tryd.prog 21 #[.agg #[.int .u64 A], .int .i64 ((c : Int) + 1)] W fun e w' => e = .returned (.int .i64 ((m : Int) + 1)) ∧ Below W.heap.size W w') := fun W => by
          have h := rank64 A hA ((c : Int) + 1) W
          rw [hnx] at h
          simpa [hm.out] using h
        have KN : Hid (∀ W, Below w.heap.size w W → Calls Tryd.prog 22 #[.agg #[.int .u64 A], .int .i64 m] W fun e w' => e = .returned (.int .i64 c) ∧ Below W.heap.size W w') := fun W hW => by
          have h := nth64 A hA m W (ht.over hW)
          rw [nth_hit (sorted_nums A) hsp (by rw [hm.out])] at h
          exact h
        have KX : Hid (∀ W, Below w.heap.size w W → Calls Tryd.prog 23 #[.agg #[.int .u64 A], .int .i64 (l + 1)] W fun e w' => e = .returned (.int .i64 c) ∧ Below W.heap.size W w') := fun W hW => by
          have h := next64 A hA (l + 1) W (ht.over hW)
          rw [hl.out, next_at (sorted_nums A) hsp] at h
          rw [hl.out]; exact h
        have KL : Hid (m = 0 → ∀ W, Below w.heap.size w W → Calls Tryd.prog 24 #[.agg #[.int .u64 A]] W fun e w' => e = .returned (.int .i64 c) ∧ Below W.heap.size W w') := fun h0 W hW => by
          have h := low64 A hA W (ht.over hW)
          have e0 : toI (c : Int) (nums A) = [] := List.length_eq_zero_iff.1 (by rw [← hm.out]; exact h0)
          rw [e0, List.nil_append] at hsp
          rw [hsp] at h; exact h
        have hnx' : Hid (toI ((c : Int) + 1) (nums A) = toI (c : Int) (nums A) ++ [⟨c, hlt⟩]) := by show _ = _; simpa using hnx
        clear hnx hp hA ht hsp
        by_cases hm0 : m = 0
        · have hd : ((m : Int) == 0) = true := by simp [hm0]
          replace KL := hide' (KL.out hm0)
          clear hm0
          go_wp2_with (first | (go_at_call 9; refine (KH.out _).mono ?_; rintro e w3 ⟨rfl, hb⟩; replace hk := keep1 hk hb; clear hb) | (go_at_call_of 21 (Value.int IntKind.i64 ((c : Nat) : Int)); refine (KR.out _).mono ?_; rintro e w3 ⟨rfl, hb⟩; replace hk := keep1 hk hb; clear hb) | (go_at_call 21; refine (KS.out _).mono ?_; rintro e w3 ⟨rfl, hb⟩; replace hk := keep1 hk hb; clear hb) | (go_at_call 22; refine (KN.out _ hk.2.2).mono ?_; rintro e w3 ⟨rfl, hb⟩; replace hk := keep1 hk hb; clear hb) | (go_at_call 23; refine (KX.out _ hk.2.2).mono ?_; rintro e w3 ⟨rfl, hb⟩; replace hk := keep1 hk hb; clear hb) | (go_at_call 24; refine (KL.out _ hk.2.2).mono ?_; rintro e w3 ⟨rfl, hb⟩; replace hk := keep1 hk hb; clear hb))
          exact ⟨⟨c + 1, m + 1, c, by omega, by go_num, by go_num, rfl, by show m + 1 = _; rw [show (((c + 1 : Nat) : Int)) = (c : Int) + 1 by omega, hnx'.out, List.length_append, ← hm.out]; rfl, by show (c : Int) = _; rw [show (((c + 1 : Nat) : Int)) = (c : Int) + 1 by omega, hnx'.out]; simp [lastI], hk⟩, by simp [intOf]; omega⟩
        · have hd : ((m : Int) == 0) = false := by simp; omega
          clear KL
          go_wp2_with (first | (go_at_call 9; refine (KH.out _).mono ?_; rintro e w3 ⟨rfl, hb⟩; replace hk := keep1 hk hb; clear hb) | (go_at_call_of 21 (Value.int IntKind.i64 ((c : Nat) : Int)); refine (KR.out _).mono ?_; rintro e w3 ⟨rfl, hb⟩; replace hk := keep1 hk hb; clear hb) | (go_at_call 21; refine (KS.out _).mono ?_; rintro e w3 ⟨rfl, hb⟩; replace hk := keep1 hk hb; clear hb) | (go_at_call 22; refine (KN.out _ hk.2.2).mono ?_; rintro e w3 ⟨rfl, hb⟩; replace hk := keep1 hk hb; clear hb) | (go_at_call 23; refine (KX.out _ hk.2.2).mono ?_; rintro e w3 ⟨rfl, hb⟩; replace hk := keep1 hk hb; clear hb))
          exact ⟨⟨c + 1, m + 1, c, by omega, by go_num, by go_num, rfl, by show m + 1 = _; rw [show (((c + 1 : Nat) : Int)) = (c : Int) + 1 by omega, hnx'.out, List.length_append, ← hm.out]; rfl, by show (c : Int) = _; rw [show (((c + 1 : Nat) : Int)) = (c : Int) + 1 by omega, hnx'.out]; simp [lastI], hk⟩, by simp [intOf]; omega⟩
    · obtain rfl : c = 64 := by omega
      have hmE : m = (nums A).length := by have := hm.out; rw [show (((64 : Nat) : Int)) = 64 from rfl, to_all] at this; exact this
      have hlE : l = lastI (nums A) := by have := hl.out; rw [show (((64 : Nat) : Int)) = 64 from rfl, to_all] at this; exact this
      obtain ⟨C, hC⟩ : ∃ C, 18446744073709551615 - A = C := ⟨_, rfl⟩
      have hCl : C < 18446744073709551616 := by omega
      have KE : Hid (∀ W, Calls Tryd.prog 25 #[.agg #[.int .u64 A]] W fun e w' => e = .returned (.int .i64 m) ∧ Below W.heap.size W w') := by rw [hmE]; exact len64 A hA
      have KI : Hid (∀ W, Calls Tryd.prog 26 #[.agg #[.int .u64 A]] W fun e w' => e = .returned (.int .i64 l) ∧ Below W.heap.size W w') := by rw [hlE]; exact high64 A hA
      have KX : Hid (∀ W, Below w.heap.size w W → Calls Tryd.prog 23 #[.agg #[.int .u64 A], .int .i64 (l + 1)] W fun e w' => e = .returned (.int .i64 (-1)) ∧ Below W.heap.size W w') := fun W hW => by
        have h := next64 A hA (l + 1) W (ht.over hW)
        rw [hlE, next_end (sorted_nums A)] at h
        rw [hlE]; exact h
      have KN : Hid (∀ W, Below w.heap.size w W → Calls Tryd.prog 22 #[.agg #[.int .u64 A], .int .i64 m] W fun e w' => e = .returned (.int .i64 (-1)) ∧ Below W.heap.size W w') := fun W hW => by
        have h := nth64 A hA m W (ht.over hW)
        rw [hmE, nth_end] at h
        rw [hmE]; exact h
      have KL : Hid (m = 0 → ∀ W, Below w.heap.size w W → Calls Tryd.prog 24 #[.agg #[.int .u64 A]] W fun e w' => e = .returned (.int .i64 (-1)) ∧ Below W.heap.size W w') := fun h0 W hW => by
        have h := low64 A hA W (ht.over hW)
        have e0 : nums A = [] := List.length_eq_zero_iff.1 (by rw [← hmE]; exact h0)
        rw [e0] at h; exact h
      have KO : Hid (∀ W, Calls Tryd.prog 14 #[.agg #[.int .u64 A]] W fun e w' => e = .returned (.agg #[.int .u64 C]) ∧ Below W.heap.size W w') := by rw [← hC]; exact not64 A hA
      have KC : Hid (∀ W, Calls Tryd.prog 25 #[.agg #[.int .u64 C]] W fun e w' => e = .returned (.int .i64 (64 - (m : Int))) ∧ Below W.heap.size W w') := fun W => by
        have h := len64 C hCl W
        rw [← hC, len_not A hA, ← hmE, show (((64 - m : Nat)) : Int) = 64 - (m : Int) by omega] at h
        rw [← hC]; exact h
      clear hA ht hmE hlE hC hCl hm hl
      by_cases hm0 : m = 0
      · have hd : decide (0 < (m : Int)) = false := by simp [hm0]
        replace KL := hide' (KL.out hm0)
        clear hm0
        go_wp2_with (first | (go_at_call_of 25 ((C : Nat) : Int); refine (KC.out _).mono ?_; rintro e w3 ⟨rfl, hb⟩; replace hk := keep1 hk hb; clear hb) | (go_at_call 25; refine (KE.out _).mono ?_; rintro e w3 ⟨rfl, hb⟩; replace hk := keep1 hk hb; clear hb) | (go_at_call 26; refine (KI.out _).mono ?_; rintro e w3 ⟨rfl, hb⟩; replace hk := keep1 hk hb; clear hb) | (go_at_call 23; refine (KX.out _ hk.2.2).mono ?_; rintro e w3 ⟨rfl, hb⟩; replace hk := keep1 hk hb; clear hb) | (go_at_call 22; refine (KN.out _ hk.2.2).mono ?_; rintro e w3 ⟨rfl, hb⟩; replace hk := keep1 hk hb; clear hb) | (go_at_call 24; refine (KL.out _ hk.2.2).mono ?_; rintro e w3 ⟨rfl, hb⟩; replace hk := keep1 hk hb; clear hb) | (go_at_call 14; refine (KO.out _).mono ?_; rintro e w3 ⟨rfl, hb⟩; replace hk := keep1 hk hb; clear hb) | (go_at_call 20; refine (KW.out _ hk.2.2).mono ?_; rintro e w3 ⟨rfl, hb⟩; replace hk := keep1 hk hb; clear hb))
        all_goals go_ret
        all_goals exact ⟨rfl, hk.2.2⟩
      · have hd : 0 < (m : Int) := by omega
        clear KL
        go_wp2_with (first | (go_at_call_of 25 ((C : Nat) : Int); refine (KC.out _).mono ?_; rintro e w3 ⟨rfl, hb⟩; replace hk := keep1 hk hb; clear hb) | (go_at_call 25; refine (KE.out _).mono ?_; rintro e w3 ⟨rfl, hb⟩; replace hk := keep1 hk hb; clear hb) | (go_at_call 26; refine (KI.out _).mono ?_; rintro e w3 ⟨rfl, hb⟩; replace hk := keep1 hk hb; clear hb) | (go_at_call 23; refine (KX.out _ hk.2.2).mono ?_; rintro e w3 ⟨rfl, hb⟩; replace hk := keep1 hk hb; clear hb) | (go_at_call 22; refine (KN.out _ hk.2.2).mono ?_; rintro e w3 ⟨rfl, hb⟩; replace hk := keep1 hk hb; clear hb) | (go_at_call 24; refine (KL.out _ hk.2.2).mono ?_; rintro e w3 ⟨rfl, hb⟩; replace hk := keep1 hk hb; clear hb) | (go_at_call 14; refine (KO.out _).mono ?_; rintro e w3 ⟨rfl, hb⟩; replace hk := keep1 hk hb; clear hb) | (go_at_call 20; refine (KW.out _ hk.2.2).mono ?_; rintro e w3 ⟨rfl, hb⟩; replace hk := keep1 hk hb; clear hb))
        all_goals go_ret
        all_goals exact ⟨rfl, hk.2.2⟩
end Go.Proofs.YtajfafckhipgeaaDoor
