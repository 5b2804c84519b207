/- The document's Legal, top, Size at patterns; kept: what they answer. -/
import Derived.Test.YtlffhpggfhpgnaaPFn
import Derived.Test.YtlffhpggfhpgnaaQMath
namespace Go.Proofs.Ytlffhpggfhpgnaa
open Go.RowKit
set_option maxRecDepth 100000 in
set_option maxHeartbeats 1000000 in
theorem refTop (l : List Nat) (v : Value) (w : World) (hr : RowI w v (ints l)) (hn : l.length ≤ 25) (hl : Leg 0 l) :
    Calls Try.prog 21 #[v] w fun e w' => e = .returned (.int .i64 ((blks 0 l : Nat) - 1)) ∧ w' = w := by
  obtain ⟨oa, cap, rfl, _, hc⟩ := hr
  have hc' := hide' hc
  have hl' := hide' hl
  clear hc hl
  rw [ints_len]
  go_enter Try.func21, Try.ntmps21
  go_wp2
  go_loop [3, 4] (fun m k => ∃ c : Nat, c ≤ l.length ∧ k = .int .i64 c ∧ m = .int .i64 ((blks 0 (l.take c) : Nat) - 1) ∧ blks 0 (l.take c) ≤ c) (fun _ k => (l.length - intOf k).toNat)
  case atStart => exact ⟨0, Nat.zero_le _, rfl, rfl, by simp [blks]⟩
  case round =>
    obtain ⟨c, hc, rfl, rfl, hm⟩ := hrel
    by_cases hlt : c < l.length
    · obtain ⟨x, hx⟩ : ∃ x, l[c]? = some x := ⟨_, List.getElem?_eq_getElem hlt⟩
      obtain ⟨g, o, rfl, cx⟩ := hc'.out c x (ints_at hx)
      have hxl := leg_at hl'.out hx
      have hN := blks_take hx
      have hN2 : Hid (blks 0 (l.take (c + 1)) ≤ c + 1) := by show _ ≤ _; rw [hN]; omega
      clear hx
      generalize blks 0 (l.take c) = m at *
      generalize hq : blks 0 (l.take (c + 1)) = q at *
      generalize hn' : l.length = n at *
      by_cases hg : ((m : Int) - 1 < (x : Int))
      · have hN' : Hid ((q : Int) - 1 = x) := by show _ = _; rw [hN]; omega
        clear hN
        go_wp2
        go_round
        case rel => exact ⟨c + 1, by omega, by go_num, by rw [hq, hN'.out], by rw [hq]; exact hN2.out⟩
        case measure => simp [intOf]; omega
      · have hN' : Hid (q = m) := by show _ = _; rw [hN]; omega
        clear hN
        go_wp2
        go_round
        case rel => exact ⟨c + 1, by omega, by go_num, by rw [hq, hN'.out], by rw [hq]; exact hN2.out⟩
        case measure => simp [intOf]; omega
    · obtain rfl : c = l.length := by omega
      rw [List.take_length] at hm ⊢
      go_wp2
      go_ret
      exact ⟨rfl, rfl⟩
set_option maxRecDepth 100000 in
set_option maxHeartbeats 1000000 in
theorem refLegal (l : List Nat) (v : Value) (w : World) (hr : RowI w v (ints l)) (hn : l.length ≤ 25) (hl : Leg 0 l) :
    Calls Try.prog 20 #[v] w fun e w' => e = .returned (.bool true) ∧ w' = w := by
  obtain ⟨oa, cap, rfl, _, hc⟩ := hr
  have hc' := hide' hc
  have hl' := hide' hl
  clear hc hl
  rw [ints_len]
  go_enter Try.func20, Try.ntmps20
  go_wp2
  go_loop [3, 4] (fun m k => ∃ c : Nat, c ≤ l.length ∧ k = .int .i64 c ∧ m = .int .i64 ((blks 0 (l.take c) : Nat) - 1) ∧ blks 0 (l.take c) ≤ c) (fun _ k => (l.length - intOf k).toNat)
  case atStart => exact ⟨0, Nat.zero_le _, rfl, rfl, by simp [blks]⟩
  case round =>
    obtain ⟨c, hc, rfl, rfl, hm⟩ := hrel
    by_cases hlt : c < l.length
    · obtain ⟨x, hx⟩ : ∃ x, l[c]? = some x := ⟨_, List.getElem?_eq_getElem hlt⟩
      obtain ⟨g, o, rfl, cx⟩ := hc'.out c x (ints_at hx)
      have hxl := leg_at hl'.out hx
      have hN := blks_take hx
      have hN2 : Hid (blks 0 (l.take (c + 1)) ≤ c + 1) := by show _ ≤ _; rw [hN]; omega
      clear hx
      generalize blks 0 (l.take c) = m at *
      generalize hq : blks 0 (l.take (c + 1)) = q at *
      generalize hn' : l.length = n at *
      have hx0 : ¬ (x : Int) < 0 := by omega
      have hx1 : ¬ (m : Int) < (x : Int) := by omega
      by_cases hg : ((m : Int) - 1 < (x : Int))
      · have hN' : Hid ((q : Int) - 1 = x) := by show _ = _; rw [hN]; omega
        clear hN
        go_wp2
        go_round
        case rel => exact ⟨c + 1, by omega, by go_num, by rw [hq, hN'.out], by rw [hq]; exact hN2.out⟩
        case measure => simp [intOf]; omega
      · have hN' : Hid (q = m) := by show _ = _; rw [hN]; omega
        clear hN
        go_wp2
        go_round
        case rel => exact ⟨c + 1, by omega, by go_num, by rw [hq, hN'.out], by rw [hq]; exact hN2.out⟩
        case measure => simp [intOf]; omega
    · obtain rfl : c = l.length := by omega
      rw [List.take_length] at hm ⊢
      go_wp2
      go_ret
      exact ⟨rfl, rfl⟩
set_option maxRecDepth 100000 in
set_option maxHeartbeats 1000000 in
theorem refSize (l : List Nat) (v : Value) (w : World) (hr : RowI w v (ints l)) (hn : l.length ≤ 25) (hl : Leg 0 l) :
    Calls Try.prog 11 #[v] w fun e w' => e = .returned (.int .i64 (blks 0 l)) ∧ w' = w := by
  have KL := hide' (refLegal l v w hr hn hl)
  have KB := hide' (refTop l v w hr hn hl)
  have hb := blks_leg hl
  obtain ⟨oa, cap, rfl, _, _⟩ := hr
  go_enter Try.func11, Try.ntmps11
  go_wp2_with (first | (go_at_call 20; refine KL.out.mono ?_; rintro e w1 ⟨rfl, rfl⟩) | (go_at_call 21; refine KB.out.mono ?_; rintro e w1 ⟨rfl, rfl⟩))
  go_ret
  exact ⟨ret_int (by omega), rfl⟩
end Go.Proofs.Ytlffhpggfhpgnaa
