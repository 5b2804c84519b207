/- The document's Has, Places, Len: what they answer (as RefPl and RefOne have it). -/
import Derived.Test.YtjmpkiopnkldmaaDoorWakes
namespace Go.Proofs.YtjmpkiopnkldmaaDoor
open Go.RowKit
theorem split_at {x : Nat} {c : Nat} (hc : c < 64) (hp : x.testBit c = true) : ∃ rest, nums x = toI (c : Int) (nums x) ++ ⟨c, hc⟩ :: rest := by
  have hm : (⟨c, hc⟩ : Fin 64) ∈ nums x := (mem_nums x _).2 hp
  obtain ⟨pre, rest, h⟩ := List.append_of_mem hm
  exact ⟨rest, by rw [show ((c : Nat) : Int) = (((⟨c, hc⟩ : Fin 64).val : Nat) : Int) from rfl, to_snoc (sorted_nums x) h]; exact h⟩
theorem to_next {x : Nat} {c : Nat} (hc : c < 64) : toI ((c : Int) + 1) (nums x) = toI (c : Int) (nums x) ++ (if x.testBit c then [⟨c, hc⟩] else []) := by
  by_cases hp : x.testBit c = true
  · rw [if_pos hp]
    obtain ⟨rest, h⟩ := split_at hc hp
    generalize hpre : toI (c : Int) (nums x) = pre at *
    have hs := sorted_nums x
    rw [h] at hs ⊢
    unfold toI
    rw [List.pairwise_append] at hs
    obtain ⟨_, h2, h3⟩ := hs
    rw [List.pairwise_cons] at h2
    rw [List.filter_append, List.filter_cons]
    have e1 : pre.filter (fun k => decide ((k.val : Int) < (c : Int) + 1)) = pre := by
      rw [List.filter_eq_self]; intro k hk
      have : k.val < c := h3 k hk ⟨c, hc⟩ (by simp)
      simp; omega
    have e2 : rest.filter (fun k => decide ((k.val : Int) < (c : Int) + 1)) = [] := by
      rw [List.filter_eq_nil_iff]; intro k hk
      have : c < k.val := h2.1 k hk
      simp; omega
    rw [e1, e2, if_pos (by simp; omega)]
  · rw [if_neg hp, List.append_nil]
    unfold toI
    refine List.filter_congr fun k hk => ?_
    have hne : k.val ≠ c := fun e => hp (by rw [← e]; exact (mem_nums x k).1 hk)
    simp; omega
theorem to_all (x : Nat) : toI 64 (nums x) = nums x := by
  unfold toI; rw [List.filter_eq_self]; intro k _; simp; omega
theorem to_none (x : Nat) : toI 0 (nums x) = [] := by
  unfold toI; rw [List.filter_eq_nil_iff]; intro k _; simp
theorem shr_bit (x i : Nat) (hx : x < 18446744073709551616) : (bits .and .u64 ((x : Int) / 2 ^ i) 1 == 1) = x.testBit i := by
  have e1 : (x : Int) / 2 ^ i = ((x / 2 ^ i : Nat) : Int) := by simp
  have hl : x / 2 ^ i < 18446744073709551616 := Nat.lt_of_le_of_lt (Nat.div_le_self _ _) hx
  rw [e1, show (1 : Int) = ((1 : Nat) : Int) from rfl, u64_and_nat _ 1 hl (by omega), nat_mask1, Nat.testBit_eq_decide_div_mod_eq]
  rw [Bool.eq_iff_iff]; simp; omega
set_option maxHeartbeats 400000 in
theorem refHas (x i wd : Nat) (hx : x < 18446744073709551616) (h : i < wd) (hw : wd ≤ 64) (w : World) :
    Calls Tryd.prog 28 #[.int .u64 x, .int .i64 wd, .int .i64 i] w fun e w' => e = .returned (.bool (x.testBit i)) ∧ w' = w := by
  go_enter Tryd.func28, Tryd.ntmps28
  go_wp2
  go_ret
  exact ⟨ret_bool (shr_bit x i hx), rfl⟩
theorem info3 : (Tryd.prog.info? 3).map (fun i => (i.zero, i.size, i.bytes)) = some (some (.int .i64 0), 1, 8) := by kernel_rfl
/-- Numbers as a row's cells. -/
def intsOf (l : List (Fin 64)) : List Value := l.map fun j => Value.int .i64 (j.val : Int)
theorem refHasQ (x i wd : Nat) (hx : x < 18446744073709551616) (h : i < wd) (hw : wd ≤ 64) (p : Bool) (hp : x.testBit i = p) (w : World) :
    Calls Tryd.prog 28 #[.int .u64 x, .int .i64 wd, .int .i64 i] w fun e w' => e = .returned (.bool p) ∧ w' = w := by subst hp; exact refHas x i wd hx h hw w
theorem to_wd (x wd : Nat) (hx : x < 2 ^ wd) : toI (wd : Int) (nums x) = nums x := by
  unfold toI; rw [List.filter_eq_self]; intro k hk
  have hb := (mem_nums x k).1 hk
  have : k.val < wd := by
    rcases Nat.lt_or_ge k.val wd with h | h
    · exact h
    · rw [Nat.testBit_lt_two_pow (Nat.lt_of_lt_of_le hx (Nat.pow_le_pow_right (by decide) h))] at hb; cases hb
  simp; omega
theorem to_len (x : Nat) (c : Int) : (toI c (nums x)).length ≤ 64 := Nat.le_trans (List.length_filter_le _ _) (nums_len x)
set_option maxRecDepth 100000 in
set_option maxHeartbeats 2000000 in
theorem refPlacesC (x wd : Nat) (hx : x < 18446744073709551616) (hw : wd ≤ 64) (w : World) :
    Calls Tryd.prog 17 #[.int .u64 x, .int .i64 wd] w fun e w' => ∃ v, e = .returned v ∧ w'.ownsRow w.heap.size 3 1 v (toI (wd : Int) (nums x)).length (intsOf (toI (wd : Int) (nums x))) ∧ Below w.heap.size w w' := by
  obtain ⟨i0, hi, hz0, hz1, hz2⟩ := info_parts info3
  go_enter Tryd.func17, Tryd.ntmps17
  go_wp2
  go_loopw [5, 6] (fun v i wr => ∃ (c : Nat), c ≤ wd ∧ i = .int .i64 c ∧ wr.ownsRow w.heap.size 3 1 v (toI (c : Int) (nums x)).length (intsOf (toI (c : Int) (nums x))) ∧ Below w.heap.size w wr) (fun _ i _ => (wd - intOf i).toNat)
  case atStart => exact ⟨0, Nat.zero_le _, rfl, by rw [show (((0 : Nat) : Int)) = 0 from rfl, to_none]; exact World.ownsRow_nil _ _ _ _, Below.refl _ _⟩
  case round =>
    obtain ⟨c, hc, rfl, hrow, hB⟩ := hrel
    by_cases hlt : c < wd
    · have hnx := to_next (x := x) (c := c) (by omega)
      have hml := to_len x c
      cases hp : x.testBit c with
      | false =>
        have KH : Hid _ := refHasQ x c wd hx hlt hw false hp
        rw [hp] at hnx
        have hnx' : Hid (toI ((c : Int) + 1) (nums x) = toI (c : Int) (nums x)) := by show _ = _; simpa using hnx
        clear hnx hp hx
        generalize hT : toI (c : Int) (nums x) = T at *
        clear hT
        go_wp2_with (go_at_call 28; refine (KH.out _).mono ?_; rintro e w3 ⟨rfl, rfl⟩)
        go_roundw
        case rel => exact ⟨c + 1, by omega, by go_num, by rw [show (((c + 1 : Nat) : Int)) = (c : Int) + 1 by omega, hnx'.out]; exact hrow, hB⟩
        case measure => simp [intOf]; omega
      | true =>
        have KH : Hid _ := refHasQ x c wd hx hlt hw true hp
        rw [hp] at hnx
        have hnx' : Hid (toI ((c : Int) + 1) (nums x) = toI (c : Int) (nums x) ++ [⟨c, by omega⟩]) := by show _ = _; simpa using hnx
        clear hnx hp hx
        generalize hT : toI (c : Int) (nums x) = T at *
        clear hT
        go_wp2_with (first | (go_at_call 28; refine (KH.out _).mono ?_; rintro e w3 ⟨rfl, rfl⟩) | (at_builtin; refine wpList_append_own _ rfl _ _ 42 rfl w.heap.size 3 i0 (.int .i64 0) 1 8 Tryd.underlying42 hi hz0 hz1 hz2 rfl (by decide) _ T.length (intsOf T) rfl (hrow.alloc _) ⟨_, 0, none⟩ 1 1 [.int .i64 c] rfl rfl (cell_one_new _ _ _) (by simp [Value.oneCell']) (by unfold maxLen; omega) (by omega) (by have := hB.size; simp; omega) ?_; intro v1 w1 hown1 hgrow1 hnil; clear hnil))
        obtain ⟨hko, hbo⟩ := row_keeps (hrow.alloc (.cells #[.int .i64 c] 3)) (by have := hB.size; simp; omega) hgrow1
        exact ⟨⟨c + 1, by omega, by go_num, by rw [show (((c + 1 : Nat) : Int)) = (c : Int) + 1 by omega, hnx'.out]; simpa [intsOf] using hown1, (hB.trans ((Below.refl _ _).alloc hB.size _)).trans hbo⟩, by simp [intOf]; omega⟩
    · obtain rfl : c = wd := by omega
      go_wp2
      go_ret
      exact ⟨_, rfl, hrow, hB⟩
theorem refPlaces (x wd : Nat) (hx : x < 2 ^ wd) (hw : wd ≤ 64) (w : World) :
    Calls Tryd.prog 17 #[.int .u64 x, .int .i64 wd] w fun e w' => ∃ v, e = .returned v ∧ w'.ownsRow w.heap.size 3 1 v (nums x).length (intsOf (nums x)) ∧ Below w.heap.size w w' := by
  have h := refPlacesC x wd (Nat.lt_of_lt_of_le hx (Nat.pow_le_pow_right (by decide) hw)) hw w
  rw [to_wd x wd hx] at h; exact h
theorem owns_shape {W : World} {base : Nat} {e : TypeId} {size : Nat} {v : Value} {n : Nat} {xs : List Value} (h : W.ownsRow base e size v n xs) : ∃ oa cap, v = .slice oa n cap := by
  rcases h.2 with ⟨rfl, rfl⟩ | ⟨g, cap, _, rfl, _⟩
  · exact ⟨none, 0, rfl⟩
  · exact ⟨_, cap, rfl⟩
set_option maxHeartbeats 400000 in
theorem refLen (x : Nat) (hx : x < 18446744073709551616) (w : World) :
    Calls Tryd.prog 7 #[.int .u64 x] w fun e w' => e = .returned (.int .i64 (nums x).length) ∧ Below w.heap.size w w' := by
  have hnl := nums_len x
  have KP : Hid _ := refPlaces x 64 hx (Nat.le_refl _)
  go_enter Tryd.func7, Tryd.ntmps7
  go_wp2_with (go_at_call 17; refine (KP.out _).mono ?_; rintro e w1 ⟨v, rfl, hrow, hb⟩; obtain ⟨oa, cap, rfl⟩ := owns_shape hrow)
  go_ret
  exact ⟨rfl, hb⟩
end Go.Proofs.YtjmpkiopnkldmaaDoor
