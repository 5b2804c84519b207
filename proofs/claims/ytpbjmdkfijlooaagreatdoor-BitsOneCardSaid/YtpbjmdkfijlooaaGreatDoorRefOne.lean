/- The document's answers on one set: One, Has, Len, Next, Low, High, Rank, Nth. -/
import Derived.Test.YtpbjmdkfijlooaaGreatDoorRefPl
import Derived.Test.YtpbjmdkfijlooaaGreatDoorAllLaw
namespace Go.Proofs.YtpbjmdkfijlooaaGreatDoor
open Go.RowKit
set_option maxHeartbeats 400000 in
theorem refOneC (i p : Nat) (hi : i < 64) (hp : IntKind.u64.wrap (2 ^ i) = (p : Int)) (w : World) :
    Calls Tryz.prog 41 #[.int .i64 i] w fun e w' => e = .returned (.int .u64 p) ∧ w' = w := by
  go_enter Tryz.func41, Tryz.ntmps41
  go_wp2
  go_ret
  exact ⟨rfl, rfl⟩
theorem refOne (i : Nat) (hi : i < 64) (w : World) :
    Calls Tryz.prog 41 #[.int .i64 i] w fun e w' => e = .returned (.int .u64 ((2 ^ i : Nat) : Int)) ∧ w' = w := by
  have h := shl64 i hi
  rw [show IntKind.u64.wrap 1 = 1 from by decide, Int.one_mul] at h
  exact refOneC i _ hi h w
set_option maxHeartbeats 400000 in
theorem refHasA (x wd : Nat) (i : Int) (hx : x < 2 ^ wd) (hw : wd ≤ 64) (w : World) :
    Calls Tryz.prog 15 #[.int .u64 x, .int .i64 wd, .int .i64 i] w fun e w' => e = .returned (.bool (decide (0 ≤ i) && x.testBit i.toNat)) ∧ w' = w := by
  by_cases h : 0 ≤ i ∧ i < wd
  · obtain ⟨n, rfl⟩ := Int.eq_ofNat_of_zero_le h.1
    have := refHas x n wd (Nat.lt_of_lt_of_le hx (Nat.pow_le_pow_right (by decide) hw)) (by omega) hw w
    simpa using this
  · have e : (decide (0 ≤ i) && x.testBit i.toNat) = false := by
      by_cases h0 : 0 ≤ i
      · rw [Nat.testBit_lt_two_pow (Nat.lt_of_lt_of_le hx (Nat.pow_le_pow_right (by decide) (by omega)))]; simp
      · simp [h0]
    rw [e]
    clear hx e
    by_cases h0 : 0 ≤ i
    · have h1 : decide (i < (wd : Int)) = false := by simp; omega
      go_enter Tryz.func15, Tryz.ntmps15
      go_wp2
      go_ret
      exact ⟨rfl, rfl⟩
    · have h1 : decide (0 ≤ i) = false := by simp; omega
      go_enter Tryz.func15, Tryz.ntmps15
      go_wp2
      go_ret
      exact ⟨rfl, rfl⟩
set_option maxHeartbeats 400000 in
theorem refLen (x : Nat) (hx : x < 18446744073709551616) (w : World) :
    Calls Tryz.prog 9 #[.int .u64 x] w fun e w' => e = .returned (.int .i64 (nums x).length) ∧ Below w.heap.size w w' := by
  have hnl := nums_len x
  have KP : Hid _ := refPlaces x 64 hx (Nat.le_refl _)
  go_enter Tryz.func9, Tryz.ntmps9
  go_wp2_with (go_at_call 30; refine (KP.out _).mono ?_; rintro e w1 ⟨v, rfl, hrow, hb⟩; obtain ⟨oa, cap, rfl⟩ := owns_shape hrow)
  go_ret
  exact ⟨rfl, hb⟩
theorem next_hit {l : List (Fin 64)} {i : Int} {c : Nat} {j : Fin 64} (h : ∀ k ∈ l.take c, (k.val : Int) < i) (hj : l[c]? = some j) (hi : i ≤ (j.val : Int)) : lowI (fromI i l) = j.val := by
  obtain ⟨hlt, rfl⟩ := List.getElem?_eq_some_iff.1 hj
  have hsp : l = l.take c ++ l[c] :: l.drop (c + 1) := by rw [List.getElem_cons_drop, List.take_append_drop]
  generalize hx : l[c] = x at *
  unfold fromI
  rw [hsp, List.filter_append, List.filter_cons, if_pos (by simpa using hi)]
  have : (l.take c).filter (fun j => decide (i ≤ (j.val : Int))) = [] := by
    rw [List.filter_eq_nil_iff]; intro k hk; have := h k hk; simp; omega
  rw [this]; rfl
theorem next_none {l : List (Fin 64)} {i : Int} (h : ∀ k ∈ l, (k.val : Int) < i) : lowI (fromI i l) = -1 := by
  have : fromI i l = [] := by
    unfold fromI; rw [List.filter_eq_nil_iff]; intro k hk; have := h k hk; simp; omega
  rw [this]; rfl
theorem take_more {l : List (Fin 64)} {c : Nat} {j : Fin 64} (hj : l[c]? = some j) : l.take (c + 1) = l.take c ++ [j] := by
  obtain ⟨hlt, rfl⟩ := List.getElem?_eq_some_iff.1 hj
  rw [List.take_add_one, hj]; rfl
set_option maxRecDepth 100000 in
set_option maxHeartbeats 2000000 in
theorem refNext (x : Nat) (i : Int) (hx : x < 18446744073709551616) (w : World) :
    Calls Tryz.prog 53 #[.int .u64 x, .int .i64 i] w fun e w' => e = .returned (.int .i64 (lowI (fromI i (nums x)))) ∧ Below w.heap.size w w' := by
  have hnl := nums_len x
  have KP : Hid _ := refPlaces x 64 hx (Nat.le_refl _)
  go_enter Tryz.func53, Tryz.ntmps53
  go_wp2_with (go_at_call 30; refine (KP.out _).mono ?_; rintro e w1 ⟨v, rfl, hrow, hb⟩; obtain ⟨oa, cap, rfl⟩ := owns_shape hrow)
  go_loopw [6] (fun k wr => wr = w1 ∧ ∃ (c : Nat), c ≤ (nums x).length ∧ k = .int .i64 c ∧ Hid (∀ j ∈ (nums x).take c, (j.val : Int) < i)) (fun k _ => ((nums x).length - intOf k).toNat)
  case atStart => exact ⟨rfl, 0, Nat.zero_le _, rfl, fun j hj => by simp at hj⟩
  case round =>
    obtain ⟨rfl, c, hc, rfl, hall⟩ := hrel
    by_cases hlt : c < (nums x).length
    · obtain ⟨j, hj⟩ : ∃ j, (nums x)[c]? = some j := ⟨_, List.getElem?_eq_getElem hlt⟩
      obtain ⟨g, cap', hvs⟩ := owns_form hrow (by omega)
      cases hvs
      have cJ := row_cell hrow hj
      have Hj := hide' hj
      by_cases hi : i ≤ (j.val : Int)
      · have e := hide' (next_hit hall.out hj hi)
        clear hj hrow
        generalize (nums x).length = n at *
        go_wp2
        go_ret
        exact ⟨ret_int e.out.symm, hb⟩
      · have hd : decide (i ≤ (j.val : Int)) = false := by simpa using hi
        have hall' : Hid (∀ k ∈ (nums x).take (c + 1), (k.val : Int) < i) := fun k hk => by
          rw [take_more hj] at hk
          rcases List.mem_append.1 hk with hk | hk
          · exact hall.out k hk
          · obtain rfl := List.mem_singleton.1 hk; omega
        clear hj hrow
        generalize hn : (nums x).length = n at *
        go_wp2
        exact ⟨⟨trivial, c + 1, by omega, by go_num, hall'⟩, by simp [intOf]; omega⟩
    · obtain rfl : c = (nums x).length := by omega
      have e := hide' (next_none (l := nums x) (i := i) (fun k hk => hall.out k (by rw [List.take_length]; exact hk)))
      clear hall
      generalize (nums x).length = n at *
      go_wp2
      go_ret
      exact ⟨ret_int e.out.symm, hb⟩
set_option maxHeartbeats 400000 in
theorem refLow (x : Nat) (hx : x < 18446744073709551616) (w : World) :
    Calls Tryz.prog 50 #[.int .u64 x] w fun e w' => e = .returned (.int .i64 (lowI (nums x))) ∧ Below w.heap.size w w' := by
  have K : Hid (∀ W, Calls Tryz.prog 53 #[.int .u64 x, .int .i64 0] W fun e w' => e = .returned (.int .i64 (lowI (nums x))) ∧ Below W.heap.size W w') := fun W => by
    have h := refNext x 0 hx W
    rwa [from_low _ (Int.le_refl _)] at h
  go_enter Tryz.func50, Tryz.ntmps50
  go_wp2_with (go_at_call 53; refine (K.out _).mono ?_; rintro e w1 ⟨rfl, hb⟩)
  go_ret
  exact ⟨rfl, hb⟩
set_option maxHeartbeats 1000000 in
theorem refHigh (x : Nat) (hx : x < 18446744073709551616) (w : World) :
    Calls Tryz.prog 12 #[.int .u64 x] w fun e w' => e = .returned (.int .i64 (lastI (nums x))) ∧ Below w.heap.size w w' := by
  have hnl := nums_len x
  have KP : Hid _ := refPlaces x 64 hx (Nat.le_refl _)
  go_enter Tryz.func12, Tryz.ntmps12
  go_wp2_with fail
  refine (KP.out _).mono ?_
  rintro e w1 ⟨v, rfl, hrow, hb⟩
  obtain ⟨oa, cap, rfl⟩ := owns_shape hrow
  by_cases h0 : (nums x).length = 0
  · have e : Hid (lastI (nums x) = -1) := by
      show _ = _
      rw [List.length_eq_zero_iff.1 h0]; rfl
    generalize (nums x).length = n at *
    subst h0
    go_wp2
    go_ret
    exact ⟨ret_int e.out.symm, hb⟩
  · obtain ⟨j, hj⟩ : ∃ j, (nums x)[(nums x).length - 1]? = some j := ⟨_, List.getElem?_eq_getElem (by omega)⟩
    obtain ⟨g, cap', hvs⟩ := owns_form hrow (by omega)
    cases hvs
    have cJ := row_cell hrow hj
    have e : Hid (lastI (nums x) = (j.val : Int)) := by
      show _ = _
      unfold lastI; rw [List.getLast?_eq_getElem?, hj]
    have hd : (((nums x).length : Int) == 0) = false := by simpa using h0
    clear hj hrow
    obtain ⟨m, hm⟩ : ∃ m, (nums x).length = m + 1 := ⟨(nums x).length - 1, by omega⟩
    rw [hm] at cJ hd hnl ⊢
    rw [Nat.add_sub_cancel] at cJ
    go_wp2
    go_ret
    exact ⟨ret_int e.out.symm, hb⟩
set_option maxHeartbeats 1000000 in
theorem refNth (x : Nat) (k : Int) (hx : x < 18446744073709551616) (w : World) :
    Calls Tryz.prog 57 #[.int .u64 x, .int .i64 k] w fun e w' => e = .returned (.int .i64 (nthI (nums x) k)) ∧ Below w.heap.size w w' := by
  have hnl := nums_len x
  have KP : Hid _ := refPlaces x 64 hx (Nat.le_refl _)
  go_enter Tryz.func57, Tryz.ntmps57
  go_wp2_with fail
  refine (KP.out _).mono ?_
  rintro e w1 ⟨v, rfl, hrow, hb⟩
  obtain ⟨oa, cap, rfl⟩ := owns_shape hrow
  by_cases h0 : 0 ≤ k
  · obtain ⟨c, rfl⟩ := Int.eq_ofNat_of_zero_le h0
    by_cases h1 : c < (nums x).length
    · obtain ⟨j, hj⟩ : ∃ j, (nums x)[c]? = some j := ⟨_, List.getElem?_eq_getElem h1⟩
      obtain ⟨g, cap', hvs⟩ := owns_form hrow (by omega)
      cases hvs
      have cJ := row_cell hrow hj
      have e : Hid (nthI (nums x) (c : Int) = (j.val : Int)) := by
        show _ = _
        unfold nthI; rw [if_pos (by omega), Int.toNat_natCast, hj]
      clear hj hrow
      generalize (nums x).length = n at *
      go_wp2
      go_ret
      exact ⟨ret_int e.out.symm, hb⟩
    · have e : Hid (nthI (nums x) (c : Int) = -1) := by
        show _ = _
        unfold nthI; rw [if_pos (by omega), Int.toNat_natCast, List.getElem?_eq_none (by omega)]
      generalize (nums x).length = n at *
      go_wp2
      go_ret
      exact ⟨ret_int e.out.symm, hb⟩
  · have e : Hid (nthI (nums x) k = -1) := by
      show _ = _
      unfold nthI; rw [if_neg h0]
    generalize (nums x).length = n at *
    go_wp2
    go_ret
    exact ⟨ret_int e.out.symm, hb⟩
theorem to_take {l : List (Fin 64)} {c : Nat} {j : Fin 64} {i : Int} (hj : l[c]? = some j) : (toI i (l.take (c + 1))).length = (toI i (l.take c)).length + (if (j.val : Int) < i then 1 else 0) := by
  rw [take_more hj]
  unfold toI
  rw [List.filter_append, List.length_append]
  by_cases h : (j.val : Int) < i <;> simp [h]
set_option maxRecDepth 100000 in
set_option maxHeartbeats 2000000 in
theorem refRank (x : Nat) (i : Int) (hx : x < 18446744073709551616) (w : World) :
    Calls Tryz.prog 55 #[.int .u64 x, .int .i64 i] w fun e w' => e = .returned (.int .i64 ((toI i (nums x)).length : Nat)) ∧ Below w.heap.size w w' := by
  have hnl := nums_len x
  have KP : Hid _ := refPlaces x 64 hx (Nat.le_refl _)
  go_enter Tryz.func55, Tryz.ntmps55
  go_wp2_with (go_at_call 30; refine (KP.out _).mono ?_; rintro e w1 ⟨v, rfl, hrow, hb⟩; obtain ⟨oa, cap, rfl⟩ := owns_shape hrow)
  go_loopw [5, 7] (fun m k wr => wr = w1 ∧ ∃ (c r : Nat), c ≤ (nums x).length ∧ r ≤ c ∧ k = .int .i64 c ∧ m = .int .i64 r ∧ Hid (r = (toI i ((nums x).take c)).length)) (fun _ k _ => ((nums x).length - intOf k).toNat)
  case atStart => exact ⟨rfl, 0, 0, Nat.zero_le _, Nat.le_refl _, rfl, rfl, by show 0 = _; simp [toI]⟩
  case round =>
    obtain ⟨rfl, c, r, hc, hr, rfl, rfl, hR⟩ := hrel
    by_cases hlt : c < (nums x).length
    · obtain ⟨j, hj⟩ : ∃ j, (nums x)[c]? = some j := ⟨_, List.getElem?_eq_getElem hlt⟩
      obtain ⟨g, cap', hvs⟩ := owns_form hrow (by omega)
      cases hvs
      have cJ := row_cell hrow hj
      have hN := to_take (i := i) hj
      by_cases hi : (j.val : Int) < i
      · rw [if_pos hi] at hN
        have hN' := hide' hN
        clear hj hrow hN
        generalize hn : (nums x).length = n at *
        go_wp2
        exact ⟨⟨trivial, c + 1, r + 1, by omega, by omega, by go_num, by go_num, by show r + 1 = _; rw [hN'.out, ← hR.out]⟩, by simp [intOf]; omega⟩
      · rw [if_neg hi] at hN
        have hd : decide ((j.val : Int) < i) = false := by simpa using hi
        have hN' := hide' hN
        clear hj hrow hN
        generalize hn : (nums x).length = n at *
        go_wp2
        exact ⟨⟨trivial, c + 1, r, by omega, by omega, by go_num, by go_num, by show r = _; rw [hN'.out, ← hR.out]; rfl⟩, by simp [intOf]; omega⟩
    · obtain rfl : c = (nums x).length := by omega
      have e : Hid (r = (toI i (nums x)).length) := by
        show _ = _
        rw [hR.out, List.take_length]
      clear hR
      generalize (nums x).length = n at *
      go_wp2
      go_ret
      exact ⟨ret_int (by rw [e.out]), hb⟩
end Go.Proofs.YtpbjmdkfijlooaaGreatDoor
