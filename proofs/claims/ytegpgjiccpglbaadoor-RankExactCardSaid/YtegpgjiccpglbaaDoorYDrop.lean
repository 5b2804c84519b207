/- Drop: all links of a place go. -/
import Derived.Test.YtegpgjiccpglbaaDoorYFn3
namespace Go.Proofs.YtegpgjiccpglbaaDoor
open Go.RowKit
/-- Drop under way: the place's own links are gone, and those of the first k places to it. -/
def drpN (J : Nat → Nat) (a k : Nat) : Nat → Nat := fun i => if i = a then 0 else if i < k then J i &&& (18446744073709551615 - 2 ^ a) else J i
/-- Of the first k places, how many have a link to a. -/
def cntN (J : Nat → Nat) (a k : Nat) : Nat := (List.range k).countP fun i => decide (i ≠ a) && (J i).testBit a
theorem cntN_snoc (J : Nat → Nat) (a k : Nat) : cntN J a (k + 1) = cntN J a k + (if (decide (k ≠ a) && (J k).testBit a) = true then 1 else 0) := by
  unfold cntN; rw [List.range_succ, List.countP_append, List.countP_singleton]
theorem cntN_le (J : Nat → Nat) (a k : Nat) : cntN J a k ≤ k := by
  unfold cntN
  have := List.countP_le_length (p := fun i => decide (i ≠ a) && (J i).testBit a) (l := List.range k)
  simpa using this
theorem nums_len (x : Nat) : (nums x).length ≤ 64 := by
  unfold nums
  exact Nat.le_trans (List.length_filter_le _ _) (by simp)
/-- How many links go. -/
def drC (J : Nat → Nat) (a : Nat) : Nat := (nums (J a)).length + cntN J a 64
theorem drpN_end (J : Nat → Nat) (a i : Nat) (hi : i < 64) : drpN J a 64 i = drpJ J a i := by
  unfold drpN drpJ; simp [hi]
theorem drpN_wf {J : Nat → Nat} (hw : Wf J) (a k : Nat) : Wf (drpN J a k) := fun i hi => by
  unfold drpN; split
  · decide
  · split
    · exact Nat.lt_of_le_of_lt Nat.and_le_left (hw i hi)
    · exact hw i hi
theorem drpN_sub {J : Nat → Nat} {a k x y : Nat} (h : E (drpN J a k) x y) : E J x y := by
  unfold E drpN at h
  refine ⟨h.1, ?_⟩
  have h2 := h.2
  split at h2
  · simp at h2
  · split at h2
    · rw [Nat.testBit_and, Bool.and_eq_true] at h2; exact h2.1
    · exact h2
theorem drpN_acy {J : Nat → Nat} (hy : Acy J) (a k : Nat) : Acy (drpN J a k) := hy.sub fun _ _ e => drpN_sub e
theorem RkAt.congr {w : World} {b : Nat} {J K : Nat → Nat} (h : RkAt w b J) (e : ∀ i, i < 64 → J i = K i) : RkAt w b K := by
  refine ⟨h.row.congr fun i hi => by rw [e i hi], fun i hi => by rw [← e i hi]; exact h.wf i hi, h.acy.sub fun x y ⟨h1, h2⟩ => ⟨h1, by rw [e x h1]; exact h2⟩, h.tab, h.far⟩
theorem hasJ_nat {J : Nat → Nat} {i j : Nat} (hi : i < 64) (hj : j < 64) : hasJ J i j = (J i).testBit j := by simp [hasJ, okA_of hi, okA_of hj]
theorem drpN_has {J : Nat → Nat} {a k : Nat} (hk : k < 64) (ha : a < 64) : hasJ (drpN J a k) k a = (decide (k ≠ a) && (J k).testBit a) := by
  rw [hasJ_nat hk ha]
  unfold drpN
  by_cases e : k = a
  · simp [e]
  · simp [e]
theorem drpN_next {J : Nat → Nat} (hw : Wf J) {a k : Nat} (hk : k < 64) (ha : a < 64) : ∀ i, i < 64 → cuJ (drpN J a k) k a i = drpN J a (k + 1) i := by
  intro i hi
  unfold cuJ
  rw [drpN_has hk ha]
  have hother : i ≠ k → drpN J a k i = drpN J a (k + 1) i := fun e => by
    unfold drpN
    have : i < k + 1 ↔ i < k := by omega
    simp [this]
  by_cases e : k = a
  · subst e
    simp
    by_cases e2 : i = k
    · subst e2; simp [drpN]
    · exact hother e2
  · cases ht : (J k).testBit a with
    | true =>
      simp [e]
      unfold cutJ putJ
      by_cases e2 : i = k
      · subst e2; simp [drpN, e]
      · rw [if_neg e2]; exact hother e2
    | false =>
      simp
      by_cases e2 : i = k
      · subst e2
        simp [drpN, e]
        apply Nat.eq_of_testBit_eq; intro j
        rw [andNot_bit _ _ (hw i hi) (pow_lt64 ha), Nat.testBit_two_pow]
        by_cases e3 : a = j
        · subst e3; rw [ht]; rfl
        · simp [e3]
      · exact hother e2
def drCI (J : Nat → Nat) (x : Int) : Nat := if okA x then drC J x.toNat else 0
def drJI (J : Nat → Nat) (x : Int) : Nat → Nat := if okA x then drpJ J x.toNat else J
section
variable {w : World} {b : Nat} {J : Nat → Nat}
set_option maxRecDepth 100000 in
set_option maxHeartbeats 1000000 in
theorem dropR (h : RkAt w b J) (x : Int) :
    Calls Tryd.prog 12 #[.pointer (some ⟨b, 0, none⟩), .int .i64 x] w fun e w' => e = .returned (.int .i64 (drCI J x : Int)) ∧ RkAt w' b (drJI J x) ∧ w.grownBy w' (some b) := by
  cases hx : okA x with
  | false =>
    have e : drCI J x = 0 := by simp [drCI, hx]
    have e2 : drJI J x = J := by simp [drJI, hx]
    rw [e, e2]
    clear e e2
    go_enter Tryd.func12, Tryd.ntmps12
    go_wp2_with (go_at_call 29; refine (within _ _).mono ?_; rintro e w1 ⟨rfl, rfl⟩)
    go_ret
    exact ⟨rfl, h, grown_refl _ _⟩
  | true =>
    have e : drCI J x = drC J x.toNat := by simp [drCI, hx]
    have e2 : drJI J x = drpJ J x.toNat := by simp [drJI, hx]
    rw [e, e2]
    clear e e2
    obtain ⟨a, ha, rfl⟩ := okA_nat hx
    rw [Int.toNat_natCast]
    have c0 := h.cell ha
    have f0 := h.frz a
    have KO := hide' (ones64m (J a) (h.wf a ha))
    have hput : Hid (RkAt (w.setCell ⟨b, a, none⟩ (.int .u64 ((0 : Nat) : Int))) b (drpN J a 0)) := h.put (fun k _ => by simp [drpN]) (drpN_wf h.wf a 0) (drpN_acy h.acy a 0)
    have hwf := hide' h.wf
    have hle := nums_len (J a)
    have hdc : Hid (drC J a = (nums (J a)).length + cntN J a 64) := rfl
    have ha1 : (0 : Int) ≤ (a : Int) := by omega
    have ha2 : (a : Int) < 64 := by omega
    have hgr : Hid (w.grownBy (w.setCell ⟨b, a, none⟩ (.int .u64 ((0 : Nat) : Int))) (some b)) := grown_set _ _ _ _
    clear h
    generalize (nums (J a)).length = c at *
    generalize J a = q at *
    go_enter Tryd.func12, Tryd.ntmps12
    go_wp2_with (first | (go_at_call 29; refine (within _ _).mono ?_; rintro e w1 ⟨rfl, hw1⟩; have hw2 := hw1.symm; subst hw2; clear hw1) | (go_at_call 32; refine (KO.out _).mono ?_; rintro e w1 ⟨rfl, hw1⟩; have hw2 := hw1.symm; subst hw2; clear hw1))
    go_loopw [5, 22] (fun g k wr => ∃ n : Nat, n ≤ 64 ∧ k = .int .i64 n ∧ g = .int .i64 ((c + cntN J a n : Nat) : Int) ∧ Hid (RkAt wr b (drpN J a n)) ∧ w.grownBy wr (some b)) (fun _ k _ => (64 - intOf k).toNat)
    case atStart => exact ⟨0, by omega, rfl, rfl, hput, hgr.out⟩
    case round =>
      clear hput hgr c0 f0 KO
      obtain ⟨n, hn, rfl, rfl, hR, hG⟩ := hrel
      by_cases hlt : n < 64
      · have KC := cutR hR.out (n : Int) (a : Int)
        have hnx : ∀ V, RkAt V b (cuJ (drpN J a n) n a) → Hid (RkAt V b (drpN J a (n + 1))) := fun V hV => hV.congr (drpN_next hwf.out hlt ha)
        have hnx' := hide' hnx
        have hcn := cntN_snoc J a n
        have hcl := cntN_le J a n
        have hcc : cuC (drpN J a n) n a = if (decide (n ≠ a) && (J n).testBit a) = true then 0 else 26 := by
          unfold cuC; rw [okA_of hlt, okA_of ha, drpN_has hlt ha]; simp
        rw [hcc] at KC
        clear hnx hcc
        cases ht : (decide (n ≠ a) && (J n).testBit a) with
        | true =>
          rw [ht, if_pos rfl] at KC hcn
          have KC' := hide' KC
          have hcn' := hide' hcn
          clear KC hcn ht hR
          generalize cntN J a n = d at *
          go_wp2_with (go_at_call 11; refine KC'.out.mono ?_; rintro e w1 ⟨rfl, hR1, hG1⟩)
          go_roundw
          case rel => exact ⟨n + 1, by omega, by go_num, by rw [hcn'.out]; go_num, hnx'.out _ hR1, grown_trans hG hG1⟩
          case measure => simp [intOf]; omega
        | false =>
          rw [ht, if_neg (by simp)] at KC hcn
          have KC' := hide' KC
          have hcn' := hide' hcn
          clear KC hcn ht hR
          generalize cntN J a n = d at *
          go_wp2_with (go_at_call 11; refine KC'.out.mono ?_; rintro e w1 ⟨rfl, hR1, hG1⟩)
          go_roundw
          case rel => exact ⟨n + 1, by omega, by go_num, by rw [hcn'.out]; rfl, hnx'.out _ hR1, grown_trans hG hG1⟩
          case measure => simp [intOf]; omega
      · obtain rfl : n = 64 := by omega
        have hR2 := hR.out.congr (drpN_end J a)
        clear hR
        generalize cntN J a 64 = d at *
        go_wp2
        go_ret
        exact ⟨by rw [hdc.out]; rfl, hR2, hG⟩
end
end Go.Proofs.YtegpgjiccpglbaaDoor
