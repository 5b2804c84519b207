/- The document's Legal; fault. -/
import Derived.Test.YtghodeggobgclaaLRef2
namespace Go.Proofs.Ytghodeggobgclaa
open Go.RowKit Go.Shelf
theorem legal_nil' : legalT [] = false := rfl
theorem legal_big' {T : List UInt8} (h : 24 < T.length) : legalT T = false := by
  cases T with
  | nil => rfl
  | cons c r =>
    unfold legalT
    have h' : decide ((c :: r).length ≤ 24) = false := decide_eq_false (by omega)
    simp only [h', Bool.false_and]
theorem legal_one' {c : UInt8} {r : List UInt8} (h : (c :: r).length ≤ 24) : legalT (c :: r) = (isLet c && (c :: r).all isIn) := by
  unfold legalT
  have h' : decide ((c :: r).length ≤ 24) = true := decide_eq_true h
  simp only [h', Bool.true_and]
set_option maxRecDepth 100000 in
set_option maxHeartbeats 4000000 in
theorem rLegal (T : List UInt8) (w : World) (hm : T.length ≤ 9223372036854775807) :
    Calls Try.prog 66 #[.string (bs T)] w fun e w' => e = .returned (.bool (legalT T)) ∧ w' = w := by
  have hsz := bs_size T
  by_cases h0 : T = []
  · subst h0
    rw [legal_nil']
    have hl0 : (bs []).size = 0 := hsz
    clear hsz hm
    generalize bs [] = st at *
    go_enter Try.func66, Try.ntmps66
    go_wp2
    go_ret
    exact ⟨rfl, rfl⟩
  · by_cases h9 : 24 < T.length
    · rw [legal_big' h9]
      clear h0
      generalize bs T = st at *
      go_enter Try.func66, Try.ntmps66
      go_wp2
      go_ret
      exact ⟨rfl, rfl⟩
    · obtain ⟨c, r, rfl⟩ : ∃ c r, T = c :: r := by
        cases T with
        | nil => exact absurd rfl h0
        | cons c r => exact ⟨c, r, rfl⟩
      rw [legal_one' (by omega)]
      obtain ⟨q0, e0⟩ := bs_at (l := c :: r) (i := 0) (x := c) rfl
      have hat : Hid (∀ i x, (c :: r)[i]? = some x → ∃ h : i < (bs (c :: r)).size, (bs (c :: r))[i]'h = x) := fun c x h => bs_at h
      have KD : Hid (∀ (x : UInt8) W, Calls Try.prog 41 #[.int .u8 (x.toNat : Int)] W fun e w' => e = .returned (.bool (isIn x)) ∧ w' = W) := fun x W => rInner x W
      have K4 := hide' (rLetter c w)
      have hpos : 1 ≤ (c :: r).length := by simp
      generalize hT : c :: r = T at *
      clear h0 hT
      generalize hst : bs T = st at *
      clear hst
      cases hl : isLet c
      · rw [hl] at K4
        clear hat KD hl
        rw [Bool.false_and]
        go_enter Try.func66, Try.ntmps66
        go_wp2_with (go_at_call 40; refine K4.out.mono ?_; rintro e w1 ⟨rfl, hw⟩; obtain rfl : w = w1 := hw.symm)
        go_ret
        exact ⟨rfl, rfl⟩
      · rw [hl] at K4
        clear hl
        rw [Bool.true_and]
        go_enter Try.func66, Try.ntmps66
        go_wp2_with (go_at_call 40; refine K4.out.mono ?_; rintro e w1 ⟨rfl, hw⟩; obtain rfl : w = w1 := hw.symm)
        go_loopw [3] (fun k wr => ∃ n : Nat, k = .int .i64 n ∧ n ≤ T.length ∧ w = wr ∧ Hid (T.all isIn = (T.drop n).all isIn)) (fun k _ => ((T.length : Int) - intOf k).toNat)
        case atStart => exact ⟨0, rfl, Nat.zero_le _, rfl, rfl⟩
        case round =>
          obtain ⟨n, rfl, hn, rfl, hl⟩ := hrel
          by_cases hlt : n < T.length
          · obtain ⟨x, hx⟩ : ∃ x, T[n]? = some x := ⟨_, List.getElem?_eq_getElem hlt⟩
            obtain ⟨q1, e1⟩ := hat.out n x hx
            have hsp := hide' (hl.out.trans (all_split hx))
            have KD1 := hide' (KD.out x w)
            cases hdx : isIn x
            · have hr : Hid (T.all isIn = false) := by show _ = _; rw [hsp.out, hdx]; rfl
              rw [hdx] at KD1
              clear hx hsp hat KD hdx hl e0
              go_wp2_with (go_at_call 41; refine KD1.out.mono ?_; rintro e w1 ⟨rfl, rfl⟩)
              go_ret
              exact ⟨by rw [hr.out]; rfl, rfl⟩
            · have hr : Hid (T.all isIn = (T.drop (n + 1)).all isIn) := by show _ = _; rw [hsp.out, hdx]; rfl
              rw [hdx] at KD1
              clear hx hsp hat KD hdx hl e0
              go_wp2_with (go_at_call 41; refine KD1.out.mono ?_; rintro e w1 ⟨rfl, hw⟩; obtain rfl : w = w1 := hw.symm)
              exact ⟨⟨n + 1, by go_num, by omega, trivial, hr.out⟩, by simp [intOf]; omega⟩
          · obtain rfl : n = T.length := by omega
            have hr : Hid (T.all isIn = true) := by show _ = _; rw [hl.out, List.drop_eq_nil_of_le (Nat.le_refl _)]; rfl
            clear hat KD hl
            go_wp2
            go_ret
            exact ⟨by rw [hr.out]; rfl, rfl⟩
set_option maxHeartbeats 2000000 in
theorem rFault (a b c : Int) (w : World) : Calls Try.prog 39 #[.int .i64 a, .int .i64 b, .int .i64 c] w fun e w' => e = .returned (.agg #[.int .i64 a, .int .i64 b, .int .i64 c]) ∧ Below w.heap.size w w' := by
  go_enter Try.func39, Try.ntmps39
  go_wp2
  exact bodyPost_ret (v := .agg #[.int .i64 a, .int .i64 b, .int .i64 c]) (by simp [results, Try.results39, go_sem]) rfl ⟨rfl, (Below.refl _ w).alloc (Nat.le_refl _) _⟩
end Go.Proofs.Ytghodeggobgclaa
