/- OrderReady answers true. -/
import Derived.Test.YteiedppecijhfaaDoorOBoth
namespace Go.Proofs.YteiedppecijhfaaDoor
open Go.RowKit Go.Shelf
/-- A row of ints that came in. -/
def RowZ (W : World) (ob : Option Addr) (lb : Nat) : Prop := ∀ i, i < lb → ∃ g o z, ob = some ⟨g, o, none⟩ ∧ W.cell? ⟨g, o + i, none⟩ = some (.int .i64 z) ∧ -9223372036854775808 ≤ z ∧ z ≤ 9223372036854775807
theorem bit_test {r a : Nat} (hr : r < 18446744073709551616) : (bits .and .u64 ((r : Int) / 2 ^ a) 1 == 0) = !r.testBit a := by
  have e : ((r : Int) / 2 ^ a) = ((r / 2 ^ a : Nat) : Int) := by simp
  have hlt : r / 2 ^ a < 18446744073709551616 := Nat.lt_of_le_of_lt (Nat.div_le_self _ _) hr
  rw [e, show (1 : Int) = ((1 : Nat) : Int) from rfl, u64_and_nat _ 1 hlt (by decide), eq_cast, Nat.testBit_eq_decide_div_mod_eq, Nat.and_one_is_mod]
  rcases Nat.mod_two_eq_zero_or_one (r / 2 ^ a) with h | h <;> rw [h] <;> rfl
theorem tmod_bd (z : Int) : -64 < z.tmod 64 ∧ z.tmod 64 < 64 := by
  have h1 := Int.tmod_lt_of_pos z (show (0 : Int) < 64 by decide)
  have h2 := Int.tmod_lt_of_pos (-z) (show (0 : Int) < 64 by decide)
  rw [Int.neg_tmod] at h2
  omega
set_option maxRecDepth 100000 in
set_option maxHeartbeats 1000000 in
theorem orderReady_walk (n : Int) (v : Value) (L : List (Int × Int)) (A B s : Int) (ob : Option Addr) (lb cb : Nat) (mo : Int) (w : World) (hv : PairsAt w v L) (hn : L.length * 16 ≤ 140737488351232) (ht : Tab w)
    (hr : RowZ w ob lb) (hlb : lb ≤ 140737488351232) :
    Calls Tryd.prog 6 #[.agg #[.int .i64 n, v, .int .i64 A, .int .i64 B, .int .u64 s, .slice ob lb cb, .int .u64 mo]] w fun e w' => e = .returned (.bool true) ∧ Below w.heap.size w w' := by
  obtain ⟨oa, cap, hve, _⟩ := id hv
  subst hve
  have hB0 : Below w.heap.size w (w.alloc (.cells #[.int .i64 n, .slice oa L.length cap, .int .i64 A, .int .i64 B, .int .u64 s, .slice ob lb cb, .int .u64 mo] 26)) := (Below.refl _ w).alloc (Nat.le_refl _) _
  have c5 : (w.alloc (.cells #[.int .i64 n, .slice oa L.length cap, .int .i64 A, .int .i64 B, .int .u64 s, .slice ob lb cb, .int .u64 mo] 26)).cell? ⟨w.heap.size, 5, none⟩ = some (.slice ob lb cb) := by simp
  have KB := hide' (bothP n _ L A B s ob lb cb mo _ (hv.over hB0) hn (ht.over hB0))
  go_enter Tryd.func6, Tryd.ntmps6
  go_wp2_with fail
  refine KB.out.mono ?_
  rintro e w1 ⟨hb1, po, pr, rfl, hor⟩
  have B1 := hB0.trans (hb1.mono hB0.size)
  have d5 := cell_over c5 hb1
  clear c5 KB
  rcases hor with ⟨rfl, rfl⟩ | ⟨m, go, gp, gs, Pf, Sf, gr, ov, rr, w0, rfl, hok, rfl, rfl, ho, hO, hM⟩
  · go_wp2
    go_ret
    exact ⟨rfl, B1⟩
  · have hm := hO.n64
    have cN := hM.c0
    go_wp2
    go_loopw [6, 7] (fun pd pk W => ∃ d k : Nat, k ≤ m ∧ pk = .int .i64 k ∧ pd = .int .u64 (d : Int) ∧ Hid (isDown m (ordL m L) d ∧ cnt m d = k) ∧ Below w1.heap.size w1 W) (fun _ pk _ => ((m : Int) - intOf pk).toNat)
    case atStart => exact ⟨0, 0, Nat.zero_le _, rfl, rfl, ⟨down_zero, cnt_zero m⟩, Below.refl _ _⟩
    case round =>
      obtain ⟨d, k, hk, rfl, rfl, hD, hBW⟩ := hrel
      have cN' := cell_over cN hBW
      have hd64 := down_lt hm hD.out.1
      by_cases hlt : k < m
      · have hcnt : cnt m d < m := by rw [hD.out.2]; exact hlt
        have hrl := hO.rdW_lt hd64
        have KR := hide' (readyO (ho.over hBW) hm (fun a ha => hO.pre_lt ha) d hd64 (ht.over (B1.trans (hBW.mono B1.size))))
        have KD : Hid (∀ W, Below w1.heap.size w1 W → Calls Tryd.prog 17 #[.pointer (some ⟨go, 0, none⟩), .int .u64 d] W fun e W' => e = .returned (.bool true) ∧ Below W.heap.size W W') := fun W hW => by
          have := downO (ho.over hW) hm (fun a ha => hO.pre_lt ha) d hd64 (ht.over (B1.trans (hW.mono B1.size)))
          rwa [hO.dnB_true hD.out.1] at this
        have hoff := hO.ready_off hd64
        obtain ⟨b, hb64, hbit⟩ := hO.ready_ne hd64 hcnt
        have hrb := hide' (hO.rdW_bits hd64)
        generalize rdW m Pf d = r at *
        have hr0 : ((r : Int) == 0) = false := by
          rw [eq_cast]
          cases e : r == 0 with
          | false => rfl
          | true => have : r = 0 := by simpa using e
                    subst this; simp at hbit
        have hand : bits .and .u64 (r : Int) (d : Int) = 0 := by rw [u64_and_nat r d hrl hd64, hoff]; rfl
        clear hoff
        go_wp2_with fail
        refine KR.out.mono ?_
        rintro e w2 ⟨rfl, hb2⟩
        have B2 := hBW.trans (hb2.mono hBW.size)
        go_wp2_with fail
        refine (KD.out _ B2).mono ?_
        rintro e w3 ⟨rfl, hb3⟩
        have B3 := B2.trans (hb3.mono B2.size)
        have d5' := cell_over d5 B3
        by_cases hkl : k < lb
        · obtain ⟨g, o, z, rfl, cz, hz1, hz2⟩ := hr k hkl
          have cz' := cell_over cz (B1.trans (B3.mono B1.size))
          obtain ⟨tz1, tz2⟩ := tmod_bd z
          go_wp2
          all_goals
            go_loopw [10] (fun pa W => ∃ a : Nat, a < 64 ∧ pa = .int .i64 (a : Int) ∧ W = w3) (fun pa _ => way (intOf pa).toNat b)
            case atStart => first | exact ⟨(z.tmod 64 + 64).toNat, by omega, by rw [Int.toNat_of_nonneg (by omega)], rfl⟩ | exact ⟨(z.tmod 64).toNat, by omega, by rw [Int.toNat_of_nonneg (by omega)], rfl⟩
            case round =>
              obtain ⟨a, ha, rfl, rfl⟩ := hrel
              have cNr := cell_over cN B3
              have hbt := bit_test (a := a) hrl
              cases hba : r.testBit a with
              | false =>
                rw [hba] at hbt
                have hab : a ≠ b := fun e => by rw [e, hbit] at hba; cases hba
                have hst := hide' (way_step ha hb64 hab)
                clear hba hab
                go_wp2
                exact ⟨⟨(a + 1) % 64, by omega, by congr 1, trivial⟩, by simp only [intOf]; rw [show ((a : Int) + 1) % 64 = (((a + 1) % 64 : Nat) : Int) by omega, Int.toNat_natCast, Int.toNat_natCast]; exact hst.out⟩
              | true =>
                rw [hba] at hbt
                have hrd := (hrb.out a).1 hba
                have ham : a < m := hrd.1
                have hpl := hO.pre_lt ham
                have hsl := hO.suc_lt ham
                have hpr : bits .andNot .u64 (Pf a : Int) (d : Int) = 0 := by rw [u64_andNot_nat _ _ hpl hd64, hO.pre_in hd64 hrd]; rfl
                have hsu : bits .and .u64 (Sf a : Int) (d : Int) = 0 := by rw [u64_and_nat _ _ hsl hd64, hO.suc_off hD.out.1 hrd]; rfl
                have KP := hide' (predsT (ho.over B3) ham)
                have KS : Hid (∀ W, Below w1.heap.size w1 W → Calls Tryd.prog 13 #[.pointer (some ⟨go, 0, none⟩), .int .i64 a] W fun e w' => e = .returned (.int .u64 (Sf a : Int)) ∧ Below W.heap.size W w') := fun W hW => succsT (ho.over hW) ham
                have hsh := shlc a ha
                have hpw : (2 ^ a : Nat) < 18446744073709551616 := Nat.lt_of_lt_of_le (Nat.pow_lt_pow_right (by decide) ha) (by decide)
                have hor := u64_or_nat d (2 ^ a) hd64 hpw
                have hnx : Hid (isDown m (ordL m L) (d ||| 2 ^ a) ∧ cnt m (d ||| 2 ^ a) = k + 1) := ⟨down_add hD.out.1 hrd, by rw [cnt_add m d a hrd.2.1, hD.out.2, if_pos ham]⟩
                clear hrb hba hrd hbit hD hr KR KD hcnt hr0 hand
                generalize hde : d ||| 2 ^ a = d2 at *
                generalize 2 ^ a = pw at *
                clear hde
                go_wp2_with fail
                refine KP.out.mono ?_
                rintro e w4 ⟨rfl, hb4⟩
                have B4 := B3.trans (hb4.mono B3.size)
                go_wp2_with fail
                refine (KS.out _ B4).mono ?_
                rintro e w5 ⟨rfl, hb5⟩
                have B5 := B4.trans (hb5.mono B4.size)
                go_wp2
                exact ⟨⟨d2, k + 1, by omega, by go_num, rfl, hnx, B5⟩, by simp [intOf]; omega⟩
        · go_wp2
          all_goals
            go_loopw [10] (fun pa W => ∃ a : Nat, a < 64 ∧ pa = .int .i64 (a : Int) ∧ W = w3) (fun pa _ => way (intOf pa).toNat b)
            case atStart => exact ⟨0, by omega, rfl, rfl⟩
            case round =>
              obtain ⟨a, ha, rfl, rfl⟩ := hrel
              have cNr := cell_over cN B3
              have hbt := bit_test (a := a) hrl
              cases hba : r.testBit a with
              | false =>
                rw [hba] at hbt
                have hab : a ≠ b := fun e => by rw [e, hbit] at hba; cases hba
                have hst := hide' (way_step ha hb64 hab)
                clear hba hab
                go_wp2
                exact ⟨⟨(a + 1) % 64, by omega, by congr 1, trivial⟩, by simp only [intOf]; rw [show ((a : Int) + 1) % 64 = (((a + 1) % 64 : Nat) : Int) by omega, Int.toNat_natCast, Int.toNat_natCast]; exact hst.out⟩
              | true =>
                rw [hba] at hbt
                have hrd := (hrb.out a).1 hba
                have ham : a < m := hrd.1
                have hpl := hO.pre_lt ham
                have hsl := hO.suc_lt ham
                have hpr : bits .andNot .u64 (Pf a : Int) (d : Int) = 0 := by rw [u64_andNot_nat _ _ hpl hd64, hO.pre_in hd64 hrd]; rfl
                have hsu : bits .and .u64 (Sf a : Int) (d : Int) = 0 := by rw [u64_and_nat _ _ hsl hd64, hO.suc_off hD.out.1 hrd]; rfl
                have KP := hide' (predsT (ho.over B3) ham)
                have KS : Hid (∀ W, Below w1.heap.size w1 W → Calls Tryd.prog 13 #[.pointer (some ⟨go, 0, none⟩), .int .i64 a] W fun e w' => e = .returned (.int .u64 (Sf a : Int)) ∧ Below W.heap.size W w') := fun W hW => succsT (ho.over hW) ham
                have hsh := shlc a ha
                have hpw : (2 ^ a : Nat) < 18446744073709551616 := Nat.lt_of_lt_of_le (Nat.pow_lt_pow_right (by decide) ha) (by decide)
                have hor := u64_or_nat d (2 ^ a) hd64 hpw
                have hnx : Hid (isDown m (ordL m L) (d ||| 2 ^ a) ∧ cnt m (d ||| 2 ^ a) = k + 1) := ⟨down_add hD.out.1 hrd, by rw [cnt_add m d a hrd.2.1, hD.out.2, if_pos ham]⟩
                clear hrb hba hrd hbit hD hr KR KD hcnt hr0 hand
                generalize hde : d ||| 2 ^ a = d2 at *
                generalize 2 ^ a = pw at *
                clear hde
                go_wp2_with fail
                refine KP.out.mono ?_
                rintro e w4 ⟨rfl, hb4⟩
                have B4 := B3.trans (hb4.mono B3.size)
                go_wp2_with fail
                refine (KS.out _ B4).mono ?_
                rintro e w5 ⟨rfl, hb5⟩
                have B5 := B4.trans (hb5.mono B4.size)
                go_wp2
                exact ⟨⟨d2, k + 1, by omega, by go_num, rfl, hnx, B5⟩, by simp [intOf]; omega⟩
      · obtain rfl : k = m := by omega
        have hful := hO.ready_full hd64 hD.out.2
        have KR : Hid (Calls Tryd.prog 15 #[.pointer (some ⟨go, 0, none⟩), .int .u64 d] wr fun e W' => e = .returned (.int .u64 0) ∧ Below wr.heap.size wr W') := by
          have := readyO (ho.over hBW) hm (fun a ha => hO.pre_lt ha) d hd64 (ht.over (B1.trans (hBW.mono B1.size)))
          rwa [hful] at this
        have KD : Hid (∀ W, Below w1.heap.size w1 W → Calls Tryd.prog 17 #[.pointer (some ⟨go, 0, none⟩), .int .u64 d] W fun e W' => e = .returned (.bool true) ∧ Below W.heap.size W W') := fun W hW => by
          have := downO (ho.over hW) hm (fun a ha => hO.pre_lt ha) d hd64 (ht.over (B1.trans (hW.mono B1.size)))
          rwa [hO.dnB_true hD.out.1] at this
        clear hful hD hr
        go_wp2_with fail
        refine KR.out.mono ?_
        rintro e w2 ⟨rfl, hb2⟩
        have B2 := hBW.trans (hb2.mono hBW.size)
        go_wp2_with fail
        refine (KD.out _ B2).mono ?_
        rintro e w3 ⟨rfl, hb3⟩
        have B3 := B2.trans (hb3.mono B2.size)
        go_wp2
        go_ret
        exact ⟨rfl, B1.trans (B3.mono B1.size)⟩
end Go.Proofs.YteiedppecijhfaaDoor
