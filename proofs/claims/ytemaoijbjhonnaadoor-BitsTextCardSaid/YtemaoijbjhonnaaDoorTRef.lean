/- The document's Parse: what it answers. -/
import Derived.Test.YtemaoijbjhonnaaDoorTParse
namespace Go.Proofs.YtemaoijbjhonnaaDoor
open Go.RowKit
set_option maxHeartbeats 400000 in
theorem refOneT (i p : Nat) (hi : i < 64) (hp : IntKind.u64.wrap (2 ^ i) = (p : Int)) (w : World) :
    Calls Tryd.prog 39 #[.int .i64 i] w fun e w' => e = .returned (.int .u64 p) ∧ w' = w := by
  go_enter Tryd.func39, Tryd.ntmps39
  go_wp2
  go_ret
  exact ⟨rfl, rfl⟩
/-- What has been read: the word of those that fit, and whether one did not. -/
def wdOf (wd : Nat) (acc : List Nat) : Nat := orNs (acc.filter fun n => decide (n < wd))
def bigOf (wd : Nat) (acc : List Nat) : Bool := acc.any fun n => decide (wd ≤ n)
theorem wd_lt (wd : Nat) (acc : List Nat) : wdOf wd acc < 2 ^ wd := orNs_lt fun n hn => by simpa using (List.mem_filter.1 hn).2
theorem wd_fit {wd n : Nat} (acc : List Nat) (h : n < wd) : wdOf wd (acc ++ [n]) = wdOf wd acc ||| 2 ^ n := by
  unfold wdOf; rw [List.filter_append]; simp [h, orNs_snoc]
theorem wd_big {wd n : Nat} (acc : List Nat) (h : wd ≤ n) : wdOf wd (acc ++ [n]) = wdOf wd acc := by
  unfold wdOf; rw [List.filter_append]; simp [Nat.not_lt.2 h]
theorem big_fit {wd n : Nat} (acc : List Nat) (h : n < wd) : bigOf wd (acc ++ [n]) = bigOf wd acc := by
  unfold bigOf; rw [List.any_append]; simp; omega
theorem big_big {wd n : Nat} (acc : List Nat) (h : wd ≤ n) : bigOf wd (acc ++ [n]) = true := by
  unfold bigOf; rw [List.any_append]; simp [h]
theorem resP_end {wd : Nat} {T : List UInt8} {acc : List Nat} (h : prs T = some acc) : resP wd T = if bigOf wd acc = true then (0, 1) else (wdOf wd acc, 0) := by
  by_cases hb : bigOf wd acc = true
  · rw [if_pos hb]
    unfold bigOf at hb
    obtain ⟨n, hn, h2⟩ := List.any_eq_true.1 hb
    exact resP_big h hn (by simpa using h2)
  · rw [if_neg hb]
    have hall : ∀ n ∈ acc, n < wd := fun n hn => by
      rcases Nat.lt_or_ge n wd with h1 | h1
      · exact h1
      · exact absurd (List.any_eq_true.2 ⟨n, hn, by simpa using h1⟩) hb
    rw [resP_ok h hall]
    unfold wdOf
    rw [List.filter_eq_self.2 (fun n hn => by simpa using hall n hn)]
theorem form_of {T : List UInt8} (h : T.head? = some 123 ∧ T.tail.getLast? = some 125) : ∃ q, T = 123 :: (q ++ [125]) := by
  cases T with
  | nil => cases h.1
  | cons c t =>
    have h1 : c = 123 := Option.some.inj h.1
    obtain ⟨q, hq⟩ := List.getLast?_eq_some_iff.1 h.2
    have hq' : t = q ++ [125] := hq
    exact ⟨q, by rw [h1, hq']⟩
theorem prs_form (q : List UInt8) (hq : q ≠ []) : prs (123 :: (q ++ [125])) = goS (-1) 0 0 [] q := by
  unfold prs
  have e : (123 :: (q ++ [125]) : List UInt8).tail = q ++ [125] := rfl
  rw [e, if_pos ⟨rfl, by simp⟩, List.dropLast_concat, if_neg hq]
set_option maxRecDepth 100000 in
set_option maxHeartbeats 4000000 in
theorem refParseC (q : List UInt8) (hq : q ≠ []) (hm : q.length + 2 ≤ 9223372036854775807) (wd : Nat) (hwd : wd ≤ 64) (w : World) :
    Calls Tryd.prog 15 #[.string (bs (123 :: (q ++ [125]))), .int .i64 wd] w fun e w' => e = .returned (.tuple #[.int .u64 (resP wd (123 :: (q ++ [125]))).1, .int .i64 (resP wd (123 :: (q ++ [125]))).2]) ∧ w' = w := by
  have hql : 1 ≤ q.length := List.length_pos_iff.2 hq
  have hsz : (bs (123 :: (q ++ [125]))).size = q.length + 2 := by rw [bs_size]; simp
  have hx : ((bs (123 :: (q ++ [125]))).toList == [123, 125]) = false := by
    rw [bs_toList, beq_dec]
    simp only [decide_eq_false_iff_not]
    intro h
    have := congrArg List.length h
    simp only [List.length_cons, List.length_append, List.length_nil] at this
    omega
  have hat : Hid (∀ c x, (123 :: (q ++ [125]))[c]? = some x → ∃ h : c < (bs (123 :: (q ++ [125]))).size, (bs (123 :: (q ++ [125])))[c]'h = x) := fun c x h => bs_at h
  obtain ⟨z0, e0⟩ := hat.out 0 123 rfl
  obtain ⟨z1, e1⟩ := hat.out (q.length + 1) 125 (by simp)
  have hpr := prs_form q hq
  generalize hPT : prs (123 :: (q ++ [125])) = PT at *
  have hR : Hid (∀ acc, PT = some acc → resP wd (123 :: (q ++ [125])) = if bigOf wd acc = true then (0, 1) else (wdOf wd acc, 0)) := fun acc h => resP_end (by rw [hPT]; exact h)
  have hRn : Hid (PT = none → resP wd (123 :: (q ++ [125])) = (0, 3)) := fun h => resP_none (by rw [hPT]; exact h)
  have hat2 : Hid (∀ c x, q[c]? = some x → ∃ h : c + 1 < (bs (123 :: (q ++ [125]))).size, (bs (123 :: (q ++ [125])))[c + 1]'h = x) := fun c x h => hat.out (c + 1) x (by
    rw [List.getElem?_cons_succ, List.getElem?_append_left (List.getElem?_eq_some_iff.1 h).1]; exact h)
  have hpr' := hideT hpr
  generalize resP wd (123 :: (q ++ [125])) = R at *
  clear hPT hat hpr
  generalize bs (123 :: (q ++ [125])) = s at *
  go_enter Tryd.func15, Tryd.ntmps15
  go_wp2
  go_loop [6, 7, 8, 9, 10, 11] (fun wv lv bv nv dv iv => ∃ (c : Nat) (acc : List Nat) (x : Nat) (last : Int) (big : Bool) (n d : Nat), c ≤ q.length + 1 ∧ iv = .int .i64 ((c + 1 : Nat) : Int) ∧ wv = .int .u64 (x : Int) ∧ lv = .int .i64 last ∧ bv = .bool big ∧ nv = .int .i64 (n : Int) ∧ dv = .int .i64 (d : Int) ∧ Hid (x = wdOf wd acc) ∧ Hid (big = bigOf wd acc) ∧ -1 ≤ last ∧ last < 1000 ∧ d ≤ 3 ∧ n < 1000 ∧ Hid (n < 10 ^ d) ∧ Hid (PT = if c ≤ q.length then goS last n d acc (q.drop c) else some acc)) (fun _ _ _ _ _ iv => ((q.length + 2 : Int) - intOf iv).toNat)
  case atStart => exact ⟨0, [], 0, -1, false, 0, 0, by omega, rfl, rfl, rfl, rfl, rfl, rfl, rfl, rfl, by decide, by decide, by decide, by decide, (by show 0 < 10 ^ 0; decide), by show _ = _; rw [if_pos (Nat.zero_le _)]; exact hpr'.out⟩
  case round =>
    clear hpr' hx
    obtain ⟨c, acc, x, last, big, n, d, hc, rfl, rfl, rfl, rfl, rfl, rfl, hX, hBg, hl1, hl2, hd3, hn3, hnd, hE⟩ := hrel
    by_cases hle : c ≤ q.length
    · rw [if_pos hle] at hE
      by_cases hcq : c < q.length
      · obtain ⟨y, hy⟩ : ∃ y, q[c]? = some y := ⟨_, List.getElem?_eq_getElem hcq⟩
        obtain ⟨zz, ey⟩ := hat2.out c y hy
        have hdrop : Hid (q.drop c = y :: q.drop (c + 1)) := by
          obtain ⟨hl, e⟩ := List.getElem?_eq_some_iff.1 hy
          show _ = _
          rw [List.drop_eq_getElem_cons hl, e]
        clear hy e0 e1 hat2
        by_cases hdg : 48 ≤ y.toNat ∧ y.toNat ≤ 57
        · have hg1 := hdg.1
          have hg2 := hdg.2
          by_cases hbad : d = 3 ∨ (0 < d ∧ n = 0)
          · have hN : PT = none := by
              rw [hE.out, hdrop.out]; unfold goS; rw [if_pos hdg, if_pos hbad]
            have hR3 := hRn.out hN
            subst hR3
            clear hE hN hR hRn hdg
            rcases hbad with rfl | ⟨hd0, rfl⟩
            · go_wp2
              go_ret2
              exact ⟨rfl, rfl⟩
            · by_cases hd33 : d = 3
              · subst hd33
                go_wp2
                go_ret2
                exact ⟨rfl, rfl⟩
              · go_wp2
                go_ret2
                exact ⟨rfl, rfl⟩
          · have hE2 : Hid (PT = goS last (10 * n + (y.toNat - 48)) (d + 1) acc (q.drop (c + 1))) := by
              show _ = _
              rw [hE.out, hdrop.out]
              conv => lhs; unfold goS
              rw [if_pos hdg, if_neg hbad]
            have hd3' : d ≠ 3 := fun h => hbad (.inl h)
            have hnd2 : Hid (10 * n + (y.toNat - 48) < 10 ^ (d + 1)) := by show _ < _; rw [Nat.pow_succ]; have := hnd.out; omega
            have hn2 : 10 * n + (y.toNat - 48) < 1000 := by
              have h1 : 10 ^ (d + 1) ≤ 10 ^ 3 := Nat.pow_le_pow_right (by decide) (by omega)
              have h2 := hnd2.out
              omega
            by_cases hd0 : d = 0
            · subst hd0
              clear hbad hE hdg
              go_wp2
              exact ⟨⟨c + 1, acc, x, last, big, 10 * n + (y.toNat - 48), 0 + 1, by omega, by go_num, rfl, rfl, rfl, by go_num, rfl, hX, hBg, hl1, hl2, by decide, hn2, hnd2, by show _ = _; rw [if_pos (by omega)]; exact hE2.out⟩, by simp [intOf]; omega⟩
            · have hn0 : n ≠ 0 := fun h => hbad (.inr ⟨by omega, h⟩)
              have hb3 : ((d : Int) == 3) = false := by rw [beq_eq_false_iff_ne]; omega
              have hbn : ((n : Int) == 0) = false := by rw [beq_eq_false_iff_ne]; omega
              have hdp : 0 < d := by omega
              clear hbad hE hdg
              go_wp2
              exact ⟨⟨c + 1, acc, x, last, big, 10 * n + (y.toNat - 48), d + 1, by omega, by go_num, rfl, rfl, rfl, by go_num, by go_num, hX, hBg, hl1, hl2, by omega, hn2, hnd2, by show _ = _; rw [if_pos (by omega)]; exact hE2.out⟩, by simp [intOf]; omega⟩
        · have hnn : ¬ (48 ≤ (y.toNat : Int) ∧ (y.toNat : Int) ≤ 57) := by omega
          by_cases h44 : y = 44
          · subst h44
            clear hnn hdg
            by_cases hbad : d = 0 ∨ (n : Int) ≤ last
            · have hN : PT = none := by
                rw [hE.out, hdrop.out]; unfold goS; rw [if_neg (by decide), if_pos rfl, if_pos hbad]
              have hR3 := hRn.out hN
              subst hR3
              clear hE hN hR hRn
              by_cases hd0 : d = 0
              · subst hd0
                clear hbad
                go_wp2
                go_ret2
                exact ⟨rfl, rfl⟩
              · have hle2 : (n : Int) ≤ last := hbad.resolve_left hd0
                clear hbad
                go_wp2
                go_ret2
                exact ⟨rfl, rfl⟩
            · have hE2 : Hid (PT = if c + 1 ≤ q.length then goS n 0 0 (acc ++ [n]) (q.drop (c + 1)) else some (acc ++ [n])) := by
                show _ = _
                rw [if_pos (by omega), hE.out, hdrop.out]
                conv => lhs; unfold goS
                rw [if_neg (by decide), if_pos rfl, if_neg hbad]
              have hd0 : d ≠ 0 := fun h => hbad (.inl h)
              have hgt : ¬ (n : Int) ≤ last := fun h => hbad (.inr h)
              clear hbad hE
              by_cases hfit : n < wd
              · have hpl : (2 : Nat) ^ n < 18446744073709551616 := Nat.lt_of_lt_of_le (Nat.pow_lt_pow_right (by decide) (show n < 64 by omega)) (by decide)
                have hsh : IntKind.u64.wrap (2 ^ n) = ((2 ^ n : Nat) : Int) := by
                  rw [show ((2 : Int) ^ n) = ((2 ^ n : Nat) : Int) by simp]
                  generalize 2 ^ n = k at *
                  simp [IntKind.wrap, IntKind.bits, IntKind.signed]
                  omega
                have KO := hideT (fun W => refOneT n (2 ^ n) (by omega) hsh W)
                have hxl : x < 18446744073709551616 := by rw [hX.out]; exact Nat.lt_of_lt_of_le (wd_lt wd acc) (Nat.pow_le_pow_right (by decide) hwd)
                have ho := u64_or_nat x (2 ^ n) hxl hpl
                have hX2 : Hid ((x ||| 2 ^ n : Nat) = wdOf wd (acc ++ [n])) := by show _ = _; rw [wd_fit acc hfit, ← hX.out]
                have hB2 : Hid (big = bigOf wd (acc ++ [n])) := by show _ = _; rw [big_fit acc hfit]; exact hBg.out
                clear hsh
                generalize (2 ^ n : Nat) = p at *
                generalize (x ||| p : Nat) = y2 at *
                go_wp2_with (go_at_call 39; refine (KO.out _).mono ?_; rintro e w3 ⟨rfl, rfl⟩)
                exact ⟨⟨c + 1, acc ++ [n], y2, n, big, 0, 0, by omega, by go_num, rfl, rfl, rfl, rfl, rfl, hX2, hB2, by omega, by omega, by decide, by decide, (by show 0 < 10 ^ 0; decide), hE2⟩, by simp [intOf]; omega⟩
              · have hX2 : Hid (x = wdOf wd (acc ++ [n])) := by show _ = _; rw [wd_big acc (by omega)]; exact hX.out
                have hB2 : Hid (true = bigOf wd (acc ++ [n])) := (big_big acc (by omega)).symm
                go_wp2
                exact ⟨⟨c + 1, acc ++ [n], x, n, true, 0, 0, by omega, by go_num, rfl, rfl, rfl, rfl, rfl, hX2, hB2, by omega, by omega, by decide, by decide, (by show 0 < 10 ^ 0; decide), hE2⟩, by simp [intOf]; omega⟩
          · have hN : PT = none := by
              rw [hE.out, hdrop.out]; unfold goS; rw [if_neg hdg, if_neg h44]
            have hR3 := hRn.out hN
            subst hR3
            have h44n : y.toNat ≠ 44 := fun h => h44 (UInt8.toNat_inj.1 (by rw [h]; rfl))
            clear hE hN hR hRn
            by_cases hlow : y.toNat < 48
            · clear hdg hnn h44
              go_wp2
              go_ret2
              exact ⟨rfl, rfl⟩
            · have hhigh : 57 < y.toNat := by omega
              clear hdg hnn h44
              go_wp2
              go_ret2
              exact ⟨rfl, rfl⟩
      · obtain rfl : c = q.length := by omega
        rw [List.drop_length] at hE
        clear e0 hat2
        have hlq : decide ((q.length : Int) + 1 < (q.length : Int) + 2 - 1) = false := by simp only [decide_eq_false_iff_not]; omega
        have hlq2 : ¬ ((q.length : Int) + 1 < (q.length : Int) + 2 - 1) := by omega
        by_cases hbad : d = 0 ∨ (n : Int) ≤ last
        · have hN : PT = none := by
            rw [hE.out]; unfold goS; rw [if_pos hbad]
          have hR3 := hRn.out hN
          subst hR3
          clear hE hN hR hRn
          by_cases hd0 : d = 0
          · subst hd0
            clear hbad
            go_wp2
            go_ret2
            exact ⟨rfl, rfl⟩
          · have hle2 : (n : Int) ≤ last := hbad.resolve_left hd0
            clear hbad
            go_wp2
            go_ret2
            exact ⟨rfl, rfl⟩
        · have hE2 : Hid (PT = if q.length + 1 ≤ q.length then goS n 0 0 (acc ++ [n]) (q.drop (q.length + 1)) else some (acc ++ [n])) := by
            show _ = _
            rw [if_neg (by omega), hE.out]; unfold goS; rw [if_neg hbad]
          have hd0 : d ≠ 0 := fun h => hbad (.inl h)
          have hgt : ¬ (n : Int) ≤ last := fun h => hbad (.inr h)
          clear hbad hE
          by_cases hfit : n < wd
          · have hpl : (2 : Nat) ^ n < 18446744073709551616 := Nat.lt_of_lt_of_le (Nat.pow_lt_pow_right (by decide) (show n < 64 by omega)) (by decide)
            have hsh : IntKind.u64.wrap (2 ^ n) = ((2 ^ n : Nat) : Int) := by
              rw [show ((2 : Int) ^ n) = ((2 ^ n : Nat) : Int) by simp]
              generalize 2 ^ n = k at *
              simp [IntKind.wrap, IntKind.bits, IntKind.signed]
              omega
            have KO := hideT (fun W => refOneT n (2 ^ n) (by omega) hsh W)
            have hxl : x < 18446744073709551616 := by rw [hX.out]; exact Nat.lt_of_lt_of_le (wd_lt wd acc) (Nat.pow_le_pow_right (by decide) hwd)
            have ho := u64_or_nat x (2 ^ n) hxl hpl
            have hX2 : Hid ((x ||| 2 ^ n : Nat) = wdOf wd (acc ++ [n])) := by show _ = _; rw [wd_fit acc hfit, ← hX.out]
            have hB2 : Hid (big = bigOf wd (acc ++ [n])) := by show _ = _; rw [big_fit acc hfit]; exact hBg.out
            clear hsh
            generalize (2 ^ n : Nat) = p at *
            generalize (x ||| p : Nat) = y2 at *
            go_wp2_with (go_at_call 39; refine (KO.out _).mono ?_; rintro e w3 ⟨rfl, rfl⟩)
            exact ⟨⟨q.length + 1, acc ++ [n], y2, n, big, 0, 0, by omega, by go_num, rfl, rfl, rfl, rfl, rfl, hX2, hB2, by omega, by omega, by decide, by decide, (by show 0 < 10 ^ 0; decide), hE2⟩, by simp [intOf]; omega⟩
          · have hX2 : Hid (x = wdOf wd (acc ++ [n])) := by show _ = _; rw [wd_big acc (by omega)]; exact hX.out
            have hB2 : Hid (true = bigOf wd (acc ++ [n])) := (big_big acc (by omega)).symm
            go_wp2
            exact ⟨⟨q.length + 1, acc ++ [n], x, n, true, 0, 0, by omega, by go_num, rfl, rfl, rfl, rfl, rfl, hX2, hB2, by omega, by omega, by decide, by decide, (by show 0 < 10 ^ 0; decide), hE2⟩, by simp [intOf]; omega⟩
    · rw [if_neg hle] at hE
      obtain rfl : c = q.length + 1 := by omega
      have hR3 := hR.out acc hE.out
      rw [← hX.out, ← hBg.out] at hR3
      clear hE hR hRn hX hBg e0 e1 hat2
      cases big with
      | true =>
        rw [if_pos rfl] at hR3
        subst hR3
        go_wp2
        go_ret2
        exact ⟨rfl, rfl⟩
      | false =>
        rw [if_neg (by decide)] at hR3
        subst hR3
        go_wp2
        go_ret2
        exact ⟨rfl, rfl⟩
set_option maxRecDepth 100000 in
set_option maxHeartbeats 4000000 in
theorem refParse (T : List UInt8) (hm : T.length ≤ 9223372036854775807) (wd : Nat) (hwd : wd ≤ 64) (w : World) :
    Calls Tryd.prog 15 #[.string (bs T), .int .i64 wd] w fun e w' => e = .returned (.tuple #[.int .u64 (resP wd T).1, .int .i64 (resP wd T).2]) ∧ w' = w := by
  by_cases hbr : T.head? = some 123 ∧ T.tail.getLast? = some 125
  · obtain ⟨q, rfl⟩ := form_of hbr
    by_cases hq : q = []
    · subst hq
      have hR : resP wd [123, 125] = (0, 0) := resP_ok (L := []) rfl (fun n hn => by cases hn)
      have hx : ((bs ([123, 125] : List UInt8)).toList == [123, 125]) = true := by rw [bs_toList]; rfl
      rw [show (123 :: ([] ++ [125]) : List UInt8) = [123, 125] from rfl, hR]
      clear hbr hR hm
      generalize bs [123, 125] = s at *
      go_enter Tryd.func15, Tryd.ntmps15
      go_wp2
      go_ret2
      exact ⟨rfl, rfl⟩
    · exact refParseC q hq (by simp only [List.length_cons, List.length_append, List.length_nil] at hm; omega) wd hwd w
  · have hR := resP_none (wd := wd) (T := T) (if_neg hbr)
    rw [hR]
    have hsz := bs_size T
    have hx : ((bs T).toList == [123, 125]) = false := by
      rw [bs_toList, beq_dec]
      simp only [decide_eq_false_iff_not]
      rintro rfl
      exact hbr ⟨rfl, rfl⟩
    by_cases hl : T.length < 3
    · clear hbr hR
      generalize bs T = s at *
      go_enter Tryd.func15, Tryd.ntmps15
      go_wp2
      go_ret2
      exact ⟨rfl, rfl⟩
    · obtain ⟨x0, hx0⟩ : ∃ x, T[0]? = some x := ⟨_, List.getElem?_eq_getElem (by omega)⟩
      obtain ⟨k, hk⟩ : ∃ k, T.length = k + 1 := ⟨T.length - 1, by omega⟩
      obtain ⟨x1, hx1⟩ : ∃ x, T[k]? = some x := ⟨_, List.getElem?_eq_getElem (by omega)⟩
      obtain ⟨z0, e0⟩ := bs_at hx0
      obtain ⟨z1, e1⟩ := bs_at hx1
      have hne : ¬ (x0 = 123 ∧ x1 = 125) := by
        rintro ⟨rfl, rfl⟩
        refine hbr ⟨by rw [List.head?_eq_getElem?]; exact hx0, ?_⟩
        rw [List.getLast?_eq_getElem?, List.length_tail, hk, List.getElem?_tail, show k + 1 - 1 - 1 + 1 = k by omega]
        exact hx1
      rw [hk] at hsz hm
      have h3 : ¬ (k + 1 < 3) := by omega
      clear hbr hR hx0 hx1 hl hk
      generalize bs T = s at *
      by_cases h0 : x0 = 123
      · subst h0
        have h1 : x1.toNat ≠ 125 := fun h => hne ⟨rfl, UInt8.toNat_inj.1 (by rw [h]; rfl)⟩
        have h1b : ((x1.toNat : Int) != 125) = true := by rw [bne_iff_ne]; omega
        clear hne
        go_enter Tryd.func15, Tryd.ntmps15
        go_wp2
        go_ret2
        exact ⟨rfl, rfl⟩
      · have h1 : x0.toNat ≠ 123 := fun h => h0 (UInt8.toNat_inj.1 (by rw [h]; rfl))
        have h1b : ((x0.toNat : Int) != 123) = true := by rw [bne_iff_ne]; omega
        clear hne h0
        go_enter Tryd.func15, Tryd.ntmps15
        go_wp2
        go_ret2
        exact ⟨rfl, rfl⟩
end Go.Proofs.YtemaoijbjhonnaaDoor
