/- The document's Legal, Size, Alike, Bell, First, Rank, At. -/
import Derived.Test.YtagkopmegfmhaaaERef1
import Derived.Test.YtagkopmegfmhaaaEBad
import Derived.Deep.RegionHeld3
namespace Go.Proofs.Ytagkopmegfmhaaa
open Go.RowKit
set_option maxRecDepth 100000 in
set_option maxHeartbeats 1000000 in
theorem refLegal (l : List Int) (v : Value) (w : World) (hr : RowI w v l) (hn : l.length ≤ 1000) :
    Calls Try.prog 24 #[v] w fun e w' => e = .returned (.bool (Lg l)) ∧ w' = w := by
  obtain ⟨oa, cap, rfl, _, hc⟩ := hr
  have hc' := hide' hc
  clear hc
  by_cases h25 : l.length ≤ 25
  · have h25I : ¬ (25 : Int) < (l.length : Int) := by omega
    have hLg : Hid (Lg l = legB 0 l) := by show _ = _; unfold Lg; rw [decide_eq_true h25]; rfl
    go_enter Try.func24, Try.ntmps24
    go_wp2
    go_loop [3, 4] (fun m k => ∃ c b : Nat, c ≤ l.length ∧ k = .int .i64 c ∧ m = .int .i64 ((b : Int) - 1) ∧ b ≤ c ∧ Hid (legB b (l.drop c) = legB 0 l)) (fun _ k => (l.length - intOf k).toNat)
    case atStart => exact ⟨0, 0, Nat.zero_le _, rfl, rfl, Nat.le_refl _, rfl⟩
    case round =>
      obtain ⟨c, b, hc, rfl, rfl, hm, hE⟩ := hrel
      by_cases hlt : c < l.length
      · obtain ⟨x, hx⟩ : ∃ x, l[c]? = some x := ⟨_, List.getElem?_eq_getElem hlt⟩
        obtain ⟨g, o, rfl, cx⟩ := hc'.out c x hx
        have hS := hide' (legB_at (b := b) hx)
        clear hx
        by_cases h0 : x < 0
        · have hF : Hid (legB 0 l = false) := by show _ = _; rw [← hE.out, hS.out, decide_eq_false (by omega)]; rfl
          clear hS hE
          generalize hn' : l.length = n at *
          go_wp2
          go_ret
          exact ⟨ret_bool (by rw [hLg.out, hF.out]), rfl⟩
        · have d0 : decide (x < 0) = false := decide_eq_false h0
          by_cases h1 : (b : Int) < x
          · have hF : Hid (legB 0 l = false) := by show _ = _; rw [← hE.out, hS.out, decide_eq_false (p := x ≤ (b : Int)) (by omega), Bool.and_false]; rfl
            clear hS hE
            generalize hn' : l.length = n at *
            go_wp2
            go_ret
            exact ⟨ret_bool (by rw [hLg.out, hF.out]), rfl⟩
          · have d1 : decide ((b : Int) < x) = false := decide_eq_false h1
            have hE2 : Hid (legB (max b (x.toNat + 1)) (l.drop (c + 1)) = legB 0 l) := by
              show _ = _
              rw [← hE.out, hS.out, decide_eq_true (by omega), decide_eq_true (by omega)]; rfl
            have hN2 : Hid (max b (x.toNat + 1) ≤ c + 1) := by show _ ≤ _; omega
            by_cases hg : (b : Int) - 1 < x
            · have hN' : Hid (((max b (x.toNat + 1) : Nat) : Int) - 1 = x) := by show _ = _; omega
              clear hS hE
              generalize hn' : l.length = n at *
              go_wp2
              go_round
              case rel => exact ⟨c + 1, max b (x.toNat + 1), by omega, by go_num, by rw [hN'.out], hN2.out, hE2⟩
              case measure => simp [intOf]; omega
            · have hN' : Hid (max b (x.toNat + 1) = b) := by show _ = _; omega
              clear hS hE
              generalize hn' : l.length = n at *
              go_wp2
              go_round
              case rel => exact ⟨c + 1, max b (x.toNat + 1), by omega, by go_num, by rw [hN'.out], hN2.out, hE2⟩
              case measure => simp [intOf]; omega
      · obtain rfl : c = l.length := by omega
        have hT : Hid (legB 0 l = true) := by show _ = _; rw [← hE.out, List.drop_length]; rfl
        clear hE
        go_wp2
        go_ret
        exact ⟨ret_bool (by rw [hLg.out, hT.out]), rfl⟩
  · have h25I : (25 : Int) < (l.length : Int) := by omega
    have hLg : Hid (Lg l = false) := by show _ = _; unfold Lg; rw [decide_eq_false h25]; rfl
    go_enter Try.func24, Try.ntmps24
    go_wp2
    go_ret
    exact ⟨ret_bool (by rw [hLg.out]), rfl⟩
set_option maxRecDepth 100000 in
set_option maxHeartbeats 1000000 in
theorem refTop (l : List Nat) (v : Value) (w : World) (hr : RowI w v (ints l)) (hn : l.length ≤ 25) (hl : Leg 0 l) :
    Calls Try.prog 47 #[v] w fun e w' => e = .returned (.int .i64 ((blks 0 l : Nat) - 1)) ∧ w' = w := by
  obtain ⟨oa, cap, rfl, _, hc⟩ := hr
  have hc' := hide' hc
  have hl' := hide' hl
  clear hc hl
  rw [ints_len]
  go_enter Try.func47, Try.ntmps47
  go_wp2
  go_loop [3, 4] (fun m k => ∃ c : Nat, c ≤ l.length ∧ k = .int .i64 c ∧ m = .int .i64 ((blks 0 (l.take c) : Nat) - 1) ∧ blks 0 (l.take c) ≤ c) (fun _ k => (l.length - intOf k).toNat)
  case atStart => exact ⟨0, Nat.zero_le _, rfl, rfl, by simp [blks]⟩
  case round =>
    obtain ⟨c, hc, rfl, rfl, hm⟩ := hrel
    by_cases hlt : c < l.length
    · obtain ⟨x, hx⟩ : ∃ x, l[c]? = some x := ⟨_, List.getElem?_eq_getElem hlt⟩
      obtain ⟨g, o, rfl, cx⟩ := hc'.out c x (ints_at hx)
      have hxl := leg_at hl'.out hx
      have hN := blks_take hx
      have hN2 : Hid (blks 0 (l.take (c + 1)) ≤ c + 1) := by show _ ≤ _; rw [hN]; omega
      clear hx
      generalize blks 0 (l.take c) = m at *
      generalize hq : blks 0 (l.take (c + 1)) = q at *
      generalize hn' : l.length = n at *
      by_cases hg : ((m : Int) - 1 < (x : Int))
      · have hN' : Hid ((q : Int) - 1 = x) := by show _ = _; rw [hN]; omega
        clear hN
        go_wp2
        go_round
        case rel => exact ⟨c + 1, by omega, by go_num, by rw [hq, hN'.out], by rw [hq]; exact hN2.out⟩
        case measure => simp [intOf]; omega
      · have hN' : Hid (q = m) := by show _ = _; rw [hN]; omega
        clear hN
        go_wp2
        go_round
        case rel => exact ⟨c + 1, by omega, by go_num, by rw [hq, hN'.out], by rw [hq]; exact hN2.out⟩
        case measure => simp [intOf]; omega
    · obtain rfl : c = l.length := by omega
      rw [List.take_length] at hm ⊢
      go_wp2
      go_ret
      exact ⟨rfl, rfl⟩
set_option maxRecDepth 100000 in
set_option maxHeartbeats 1000000 in
theorem refSize (l : List Nat) (v : Value) (w : World) (hr : RowI w v (ints l)) (hn : l.length ≤ 25) (hl : Leg 0 l) :
    Calls Try.prog 26 #[v] w fun e w' => e = .returned (.int .i64 (blks 0 l)) ∧ w' = w := by
  have KL := hide' (refLegal (ints l) v w hr (by rw [ints_len]; omega))
  rw [Lg.ints hl hn] at KL
  have KB := hide' (refTop l v w hr hn hl)
  have hb := blks_leg hl
  obtain ⟨oa, cap, rfl, _, _⟩ := hr
  go_enter Try.func26, Try.ntmps26
  go_wp2_with (first | (go_at_call 24; refine KL.out.mono ?_; rintro e w1 ⟨rfl, rfl⟩) | (go_at_call 47; refine KB.out.mono ?_; rintro e w1 ⟨rfl, rfl⟩))
  go_ret
  exact ⟨ret_int (by omega), rfl⟩
set_option maxRecDepth 100000 in
set_option maxHeartbeats 1000000 in
theorem refSizeB (l : List Int) (v : Value) (w : World) (hr : RowI w v l) (hn : l.length ≤ 1000) (hb : Lg l = false) :
    Calls Try.prog 26 #[v] w fun e w' => e = .returned (.int .i64 0) ∧ w' = w := by
  have KL := hide' (refLegal l v w hr hn)
  rw [hb] at KL
  obtain ⟨oa, cap, rfl, _, _⟩ := hr
  go_enter Try.func26, Try.ntmps26
  go_wp2_with (first | (go_at_call 24; refine KL.out.mono ?_; rintro e w1 ⟨rfl, rfl⟩))
  go_ret
  exact ⟨rfl, rfl⟩
set_option maxRecDepth 100000 in
set_option maxHeartbeats 1000000 in
theorem refAlike (a b : List Int) (va vb : Value) (w : World) (ra : RowI w va a) (rb : RowI w vb b) (hna : a.length ≤ 1000) (hnb : b.length ≤ 1000) :
    Calls Try.prog 37 #[va, vb] w fun e w' => e = .returned (.bool (Ak a b)) ∧ w' = w := by
  have K1 := hide' (refLegal a va w ra hna)
  have K2 := hide' (refLegal b vb w rb hnb)
  obtain ⟨oa, ca, rfl, _, _⟩ := ra
  obtain ⟨ob, cb, rfl, _, _⟩ := rb
  have hA : Hid (Ak a b = (Lg a && Lg b && decide (a.length = b.length))) := by show _ = _; unfold Ak; cases Lg a <;> cases Lg b <;> simp
  cases h1 : Lg a
  · rw [h1] at K1 hA
    go_enter Try.func37, Try.ntmps37
    go_wp2_with (first | (go_at_call 24; refine K1.out.mono ?_; rintro e w1 ⟨rfl, rfl⟩))
    go_ret
    exact ⟨ret_bool (by rw [hA.out]; rfl), rfl⟩
  · cases h2 : Lg b
    · rw [h1] at K1 hA
      rw [h2] at K2 hA
      go_enter Try.func37, Try.ntmps37
      go_wp2_with fail
      refine K1.out.mono ?_
      rintro e w1 ⟨rfl, rfl⟩
      go_wp2_with fail
      refine K2.out.mono ?_
      rintro e w2 ⟨rfl, rfl⟩
      go_wp2
      go_ret
      exact ⟨ret_bool (by rw [hA.out]; rfl), rfl⟩
    · rw [h1] at K1 hA
      rw [h2] at K2 hA
      go_enter Try.func37, Try.ntmps37
      go_wp2_with fail
      refine K1.out.mono ?_
      rintro e w1 ⟨rfl, rfl⟩
      go_wp2_with fail
      refine K2.out.mono ?_
      rintro e w2 ⟨rfl, rfl⟩
      go_wp2
      go_ret
      exact ⟨ret_bool (by rw [hA.out]; rw [Bool.eq_iff_iff]; simp; omega), rfl⟩
set_option maxRecDepth 100000 in
set_option maxHeartbeats 1000000 in
theorem refBell (n : Nat) (hn : n ≤ 25) (w : World) :
    Calls Try.prog 17 #[.int .i64 n] w fun e w' => e = .returned (.int .u64 ((ways n 0 : Nat) : Int)) ∧ Below w.heap.size w w' := by
  have KW := hide' (refWays n 0 (by omega) w)
  go_enter Try.func17, Try.ntmps17
  go_wp2_with (first | (go_at_call 42; refine KW.out.mono ?_; rintro e w1 ⟨rfl, hB⟩))
  go_ret
  exact ⟨rfl, hB⟩
set_option maxRecDepth 100000 in
set_option maxHeartbeats 1000000 in
theorem refFirst (n : Nat) (hn : n ≤ 25) (w : World) :
    Calls Try.prog 18 #[.int .i64 n] w fun e w' => ∃ g, e = .returned (.slice (some ⟨g, 0, none⟩) n n) ∧ RowI w' (.slice (some ⟨g, 0, none⟩) n n) (ints (List.replicate n 0)) ∧ Below w.heap.size w w' := by
  obtain ⟨i0, hi, hz0, hz1, hz2⟩ := info_parts info3
  go_enter Try.func18, Try.ntmps18
  go_wp2_with (at_make; refine wpList_make_full _ rfl _ _ 22 rfl w.heap.size 3 i0 (.int .i64 0) 1 Try.underlying22 hi hz0 hz1 .i64 .i64 _ _ n rfl rfl rfl rfl (by rw [hz2]; omega) (by unfold maxLen; omega) (by simp) ?_; intro w2 hrow hgrow)
  go_ret
  refine ⟨_, rfl, ?_, (Below.refl _ w).grown hgrow (Nat.le_refl _) (fun j ej => by cases ej)⟩
  have h := hrow
  rw [show (Value.int .i64 0).cells = #[.int .i64 0] from rfl, toList_madeCells_one, Nat.mul_one] at h
  have e : (ints (List.replicate n 0)).length = n := by rw [ints_len, List.length_replicate]
  have h2 : w2.ownsRow w.heap.size 3 1 (.slice (some ⟨w.heap.size, 0, none⟩) n n) (ints (List.replicate n 0)).length (cellsI (ints (List.replicate n 0))) := by
    rw [e]
    simpa [cellsI, ints] using h
  exact RowI.of_owns h2
set_option maxRecDepth 100000 in
set_option maxHeartbeats 1000000 in
theorem firstP (n : Nat) (hn : n ≤ 25) (w : World) :
    Calls Try.prog 14 #[.int .i64 n] w fun e w' => ∃ g, e = .returned (.tuple #[.slice (some ⟨g, 0, none⟩) n n, .int .i64 0]) ∧ RowI w' (.slice (some ⟨g, 0, none⟩) n n) (ints (List.replicate n 0)) ∧ Below w.heap.size w w' := by
  obtain ⟨i0, hi, hz0, hz1, hz2⟩ := info_parts info3
  have KF := hide' (fitsN n hn)
  go_enter Try.func14, Try.ntmps14
  go_wp2_with (first | (go_at_call 12; refine (KF.out _).mono ?_; rintro e w1 ⟨rfl, hw1⟩; obtain rfl : w = w1 := hw1.symm) | (at_make; refine wpList_make_full _ rfl _ _ 22 rfl w.heap.size 3 i0 (.int .i64 0) 1 Try.underlying22 hi hz0 hz1 .i64 .i64 _ _ n rfl rfl rfl rfl (by rw [hz2]; omega) (by unfold maxLen; omega) (by simp) ?_; intro w2 hrow hgrow))
  refine bodyPost_ret (v := .tuple #[.slice (some ⟨w.heap.size, 0, none⟩) n n, .int .i64 0]) (by simp [results, Try.results14, go_sem]) rfl ⟨_, rfl, ?_, (Below.refl _ w).grown hgrow (Nat.le_refl _) (fun j ej => by cases ej)⟩
  have h := hrow
  rw [show (Value.int .i64 0).cells = #[.int .i64 0] from rfl, toList_madeCells_one, Nat.mul_one] at h
  have e : (ints (List.replicate n 0)).length = n := by rw [ints_len, List.length_replicate]
  have h2 : w2.ownsRow w.heap.size 3 1 (.slice (some ⟨w.heap.size, 0, none⟩) n n) (ints (List.replicate n 0)).length (cellsI (ints (List.replicate n 0))) := by
    rw [e]
    simpa [cellsI, ints] using h
  exact RowI.of_owns h2
end Go.Proofs.Ytagkopmegfmhaaa
