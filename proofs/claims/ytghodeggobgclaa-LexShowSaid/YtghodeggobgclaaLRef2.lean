/- The document's names and numbers: Value, Right, Legal. -/
import Derived.Test.YtghodeggobgclaaLRef
namespace Go.Proofs.Ytghodeggobgclaa
open Go.RowKit Go.Shelf
set_option maxRecDepth 100000 in
set_option maxHeartbeats 2000000 in
theorem rValue (T : List UInt8) (w : World) (hm : T.length ≤ 9) (hd : ∀ c ∈ T, isDig c = true) :
    Calls Try.prog 44 #[.string (bs T)] w fun e w' => e = .returned (.int .i64 (valu T : Nat)) ∧ w' = w := by
  have hsz := bs_size T
  have hat : Hid (∀ c x, T[c]? = some x → ∃ h : c < (bs T).size, (bs T)[c]'h = x) := fun c x h => bs_at h
  have hd' := hide' hd
  clear hd
  generalize hs : bs T = s at *
  clear hs
  go_enter Try.func44, Try.ntmps44
  go_wp2
  go_loop [3, 4] (fun v k => ∃ c m : Nat, k = .int .i64 c ∧ v = .int .i64 m ∧ c ≤ T.length ∧ Hid (m = valu (T.take c)) ∧ m < 1000000000) (fun _ k => ((T.length : Int) - intOf k).toNat)
  case atStart => exact ⟨0, 0, rfl, rfl, Nat.zero_le _, rfl, by decide⟩
  case round =>
    obtain ⟨c, m, rfl, rfl, hc, hv, hm9⟩ := hrel
    by_cases hlt : c < T.length
    · obtain ⟨x, hx⟩ : ∃ x, T[c]? = some x := ⟨_, List.getElem?_eq_getElem hlt⟩
      obtain ⟨q1, e1⟩ := hat.out c x hx
      have hdx : isDig x = true := hd'.out x (List.mem_of_getElem? hx)
      simp [isDig] at hdx
      obtain ⟨d1, d2⟩ := hdx
      have hn : Hid (10 * m + (x.toNat - 48) = valu (T.take (c + 1))) := by show _ = _; rw [take_snoc hx, valu_snoc, hv.out, Nat.mul_comm]
      have hlt9 : 10 * m + (x.toNat - 48) < 1000000000 := by
        rw [hn.out]
        refine Nat.lt_of_lt_of_le (valu_lt (c + 1) _ (by rw [List.length_take]; omega) fun y hy => hd'.out y (List.mem_of_mem_take hy)) ?_
        exact Nat.pow_le_pow_right (n := 10) (by decide) (show c + 1 ≤ 9 by omega)
      clear hx hat hv
      go_wp2
      exact ⟨⟨c + 1, 10 * m + (x.toNat - 48), by go_num, by go_num, by omega, hn.out, hlt9⟩, by simp [intOf]; omega⟩
    · obtain rfl : c = T.length := by omega
      have hr : Hid (m = valu T) := by show _ = _; rw [hv.out, List.take_of_length_le (Nat.le_refl _)]
      clear hat hv hd'
      go_wp2
      go_ret
      exact ⟨by rw [← hr.out]; rfl, rfl⟩
/-- A number as the document takes it. -/
def rightT (T : List UInt8) : Bool := match T with | [] => false | c :: _ => decide (T.length ≤ 9) && !(decide (1 < T.length) && decide (c = 48)) && T.all isDig
theorem right_nil : rightT [] = false := rfl
theorem right_big {T : List UInt8} (h : 9 < T.length) : rightT T = false := by
  cases T with
  | nil => rfl
  | cons c r =>
    unfold rightT
    have h' : decide ((c :: r).length ≤ 9) = false := decide_eq_false (by omega)
    simp only [h', Bool.false_and]
theorem right_one {c : UInt8} {r : List UInt8} (h : (c :: r).length ≤ 9) : rightT (c :: r) = (!(decide (1 < (c :: r).length) && decide (c = 48)) && (c :: r).all isDig) := by
  unfold rightT
  have h' : decide ((c :: r).length ≤ 9) = true := decide_eq_true h
  simp only [h', Bool.true_and]
theorem all_split {p : UInt8 → Bool} {T : List UInt8} {n : Nat} {x : UInt8} (hx : T[n]? = some x) : (T.drop n).all p = (p x && (T.drop (n + 1)).all p) := by
  rw [drop_at hx, List.all_cons]
set_option maxRecDepth 100000 in
set_option maxHeartbeats 4000000 in
theorem rRight (T : List UInt8) (w : World) (hm : T.length ≤ 9223372036854775807) :
    Calls Try.prog 43 #[.string (bs T)] w fun e w' => e = .returned (.bool (rightT T)) ∧ w' = w := by
  have hsz := bs_size T
  by_cases h0 : T = []
  · subst h0
    rw [right_nil]
    have hl0 : (bs []).size = 0 := hsz
    clear hsz hm
    generalize bs [] = st at *
    go_enter Try.func43, Try.ntmps43
    go_wp2
    go_ret
    exact ⟨rfl, rfl⟩
  · by_cases h9 : 9 < T.length
    · rw [right_big h9]
      clear h0
      generalize bs T = st at *
      go_enter Try.func43, Try.ntmps43
      go_wp2
      go_ret
      exact ⟨rfl, rfl⟩
    · obtain ⟨c, r, rfl⟩ : ∃ c r, T = c :: r := by
        cases T with
        | nil => exact absurd rfl h0
        | cons c r => exact ⟨c, r, rfl⟩
      rw [right_one (by omega)]
      obtain ⟨q0, e0⟩ := bs_at (l := c :: r) (i := 0) (x := c) rfl
      have hc48 : Hid (decide (c = 48) = ((c.toNat : Int) == 48)) := u8_eq c 48
      have hat : Hid (∀ i x, (c :: r)[i]? = some x → ∃ h : i < (bs (c :: r)).size, (bs (c :: r))[i]'h = x) := fun c x h => bs_at h
      have KD : Hid (∀ (x : UInt8) W, Calls Try.prog 42 #[.int .u8 (x.toNat : Int)] W fun e w' => e = .returned (.bool (isDig x)) ∧ w' = W) := fun x W => rDigit x W
      have hpos : 1 ≤ (c :: r).length := by simp
      generalize hT : c :: r = T at *
      clear h0
      by_cases hbad : 1 < T.length ∧ c = 48
      · have hr : Hid ((!(decide (1 < T.length) && decide (c = 48)) && T.all isDig) = false) := by show _ = _; simp [hbad.1, hbad.2]
        rw [hr.out]
        obtain ⟨hb1, hb2⟩ := hbad
        have e48 : (48 : UInt8).toNat = 48 := rfl
        rw [hb2] at e0
        clear hr hT hb2 hc48
        generalize bs T = st at *
        go_enter Try.func43, Try.ntmps43
        go_wp2
        go_ret
        exact ⟨rfl, rfl⟩
      · have hr : Hid ((!(decide (1 < T.length) && decide (c = 48)) && T.all isDig) = T.all isDig) := by
          show _ = _
          have : (decide (1 < T.length) && decide (c = 48)) = false := by
            rw [Bool.and_eq_false_iff]
            by_cases h : 1 < T.length
            · right; exact decide_eq_false fun h' => hbad ⟨h, h'⟩
            · left; exact decide_eq_false h
          rw [this]; rfl
        rw [hr.out]
        have hq : Hid (1 < T.length → ((c.toNat : Int) == 48) = false) := fun h => by rw [← hc48.out]; exact decide_eq_false fun h' => hbad ⟨h, h'⟩
        clear hr hT hbad hc48
        generalize hst : bs T = st at *
        clear hst
        by_cases h1 : 1 < T.length
        · have hq1 := hq.out h1
          clear hq
          go_enter Try.func43, Try.ntmps43
          go_wp2
          go_loopw [3] (fun k wr => ∃ n : Nat, k = .int .i64 n ∧ n ≤ T.length ∧ w = wr ∧ Hid (T.all isDig = (T.drop n).all isDig)) (fun k _ => ((T.length : Int) - intOf k).toNat)
          case atStart => exact ⟨0, rfl, Nat.zero_le _, rfl, rfl⟩
          case round =>
            obtain ⟨n, rfl, hn, rfl, hl⟩ := hrel
            by_cases hlt : n < T.length
            · obtain ⟨x, hx⟩ : ∃ x, T[n]? = some x := ⟨_, List.getElem?_eq_getElem hlt⟩
              obtain ⟨q1, e1⟩ := hat.out n x hx
              have hsp := hide' (hl.out.trans (all_split hx))
              have KD1 := hide' (KD.out x w)
              cases hdx : isDig x
              · have hr : Hid (T.all isDig = false) := by show _ = _; rw [hsp.out, hdx]; rfl
                rw [hdx] at KD1
                clear hx hsp hat KD hdx hl e0
                go_wp2_with (go_at_call 42; refine KD1.out.mono ?_; rintro e w1 ⟨rfl, rfl⟩)
                go_ret
                exact ⟨by rw [hr.out]; rfl, rfl⟩
              · have hr : Hid (T.all isDig = (T.drop (n + 1)).all isDig) := by show _ = _; rw [hsp.out, hdx]; rfl
                rw [hdx] at KD1
                clear hx hsp hat KD hdx hl e0
                go_wp2_with (go_at_call 42; refine KD1.out.mono ?_; rintro e w1 ⟨rfl, hw⟩; obtain rfl : w = w1 := hw.symm)
                exact ⟨⟨n + 1, by go_num, by omega, trivial, hr.out⟩, by simp [intOf]; omega⟩
            · obtain rfl : n = T.length := by omega
              have hr : Hid (T.all isDig = true) := by show _ = _; rw [hl.out, List.drop_eq_nil_of_le (Nat.le_refl _)]; rfl
              clear hat KD hl
              go_wp2
              go_ret
              exact ⟨by rw [hr.out]; rfl, rfl⟩
        · clear hq
          go_enter Try.func43, Try.ntmps43
          go_wp2
          go_loopw [3] (fun k wr => ∃ n : Nat, k = .int .i64 n ∧ n ≤ T.length ∧ w = wr ∧ Hid (T.all isDig = (T.drop n).all isDig)) (fun k _ => ((T.length : Int) - intOf k).toNat)
          case atStart => exact ⟨0, rfl, Nat.zero_le _, rfl, rfl⟩
          case round =>
            obtain ⟨n, rfl, hn, rfl, hl⟩ := hrel
            by_cases hlt : n < T.length
            · obtain ⟨x, hx⟩ : ∃ x, T[n]? = some x := ⟨_, List.getElem?_eq_getElem hlt⟩
              obtain ⟨q1, e1⟩ := hat.out n x hx
              have hsp := hide' (hl.out.trans (all_split hx))
              have KD1 := hide' (KD.out x w)
              cases hdx : isDig x
              · have hr : Hid (T.all isDig = false) := by show _ = _; rw [hsp.out, hdx]; rfl
                rw [hdx] at KD1
                clear hx hsp hat KD hdx hl e0
                go_wp2_with (go_at_call 42; refine KD1.out.mono ?_; rintro e w1 ⟨rfl, rfl⟩)
                go_ret
                exact ⟨by rw [hr.out]; rfl, rfl⟩
              · have hr : Hid (T.all isDig = (T.drop (n + 1)).all isDig) := by show _ = _; rw [hsp.out, hdx]; rfl
                rw [hdx] at KD1
                clear hx hsp hat KD hdx hl e0
                go_wp2_with (go_at_call 42; refine KD1.out.mono ?_; rintro e w1 ⟨rfl, hw⟩; obtain rfl : w = w1 := hw.symm)
                exact ⟨⟨n + 1, by go_num, by omega, trivial, hr.out⟩, by simp [intOf]; omega⟩
            · obtain rfl : n = T.length := by omega
              have hr : Hid (T.all isDig = true) := by show _ = _; rw [hl.out, List.drop_eq_nil_of_le (Nat.le_refl _)]; rfl
              clear hat KD hl
              go_wp2
              go_ret
              exact ⟨by rw [hr.out]; rfl, rfl⟩
end Go.Proofs.Ytghodeggobgclaa
