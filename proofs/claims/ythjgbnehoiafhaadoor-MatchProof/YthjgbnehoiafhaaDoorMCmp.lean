/- slices.Compare of two rows of ints. -/
import Derived.Test.YthjgbnehoiafhaaDoorMInts
namespace Go.Proofs.YthjgbnehoiafhaaDoor.I
open Go.RowKit
set_option maxHeartbeats 400000 in
theorem isNaNI (x : Int) (w : World) : Calls Tryd.prog 82 #[.int .i64 x] w fun e w' => e = .returned (.bool false) ∧ w' = w := by
  have hx : (x != x) = false := by simp
  go_enter Tryd.func82, Tryd.ntmps82
  go_wp2
  go_ret
  exact ⟨ret_bool (by simp), rfl⟩
def cmpI (x y : Int) : Int := if x < y then -1 else if y < x then 1 else 0
set_option maxHeartbeats 1000000 in
theorem cmpF (x y : Int) (w : World) : Calls Tryd.prog 78 #[.int .i64 x, .int .i64 y] w fun e w' => e = .returned (.int .i64 (cmpI x y)) ∧ w' = w := by
  unfold cmpI
  by_cases h1 : x < y
  · rw [if_pos h1]
    go_enter Tryd.func78, Tryd.ntmps78
    go_wp2_with (first | (go_at_call 82; refine (isNaNI _ _).mono ?_; rintro e w1 ⟨rfl, rfl⟩))
    go_ret
    exact ⟨rfl, rfl⟩
  · rw [if_neg h1]
    by_cases h2 : y < x
    · rw [if_pos h2]
      go_enter Tryd.func78, Tryd.ntmps78
      go_wp2_with (first | (go_at_call 82; refine (isNaNI _ _).mono ?_; rintro e w1 ⟨rfl, rfl⟩))
      go_ret
      exact ⟨rfl, rfl⟩
    · rw [if_neg h2]
      go_enter Tryd.func78, Tryd.ntmps78
      go_wp2_with (first | (go_at_call 82; refine (isNaNI _ _).mono ?_; rintro e w1 ⟨rfl, rfl⟩))
      go_ret
      exact ⟨rfl, rfl⟩
/-- How two rows of one length stand: by the first place at which they are not the same. -/
def cmpL : List Int → List Int → Int
  | x :: l, y :: m => if cmpI x y = 0 then cmpL l m else cmpI x y
  | [], _ :: _ => -1
  | _ :: _, [] => 1
  | [], [] => 0
theorem cmpI_zero {x y : Int} : cmpI x y = 0 ↔ x = y := by unfold cmpI; split <;> (try split) <;> omega
theorem cmpL_same : ∀ (p l m : List Int), cmpL (p ++ l) (p ++ m) = cmpL l m
  | [], _, _ => rfl
  | x :: p, l, m => by
    show (if cmpI x x = 0 then cmpL (p ++ l) (p ++ m) else cmpI x x) = _
    rw [if_pos (cmpI_zero.2 rfl), cmpL_same p l m]
set_option maxRecDepth 100000 in
set_option maxHeartbeats 2000000 in
theorem compareF (la lb : List Int) (va vb : Value) (w : World) (ha : RowI w va la) (hb : RowI w vb lb) (hn : la.length ≤ 1000000) (hl : la.length = lb.length) :
    Calls Tryd.prog 61 #[va, vb] w fun e w' => e = .returned (.int .i64 (cmpL la lb)) ∧ Below w.heap.size w w' := by
  obtain ⟨oa, ca, rfl, _, hca⟩ := ha
  obtain ⟨ob, cb, rfl, _, hcb⟩ := hb
  have hca' := hide' hca
  have hcb' := hide' hcb
  have hl' := hide' hl
  clear hca hcb hl
  go_enter Tryd.func61, Tryd.ntmps61
  go_wp2
  go_loopw [5, 6, 7, 8, 11] (fun _ _ _ _ k wr => Below w.heap.size w wr ∧ ∃ (c : Nat), c ≤ la.length ∧ k = .int .i64 c ∧ Hid (la.take c = lb.take c)) (fun _ _ _ _ k _ => ((la.length : Int) - intOf k).toNat)
  case atStart => exact ⟨Below.refl _ _, 0, Nat.zero_le _, rfl, by show _ = _; simp⟩
  case round =>
    obtain ⟨hB, c, hc, rfl, hE⟩ := hrel
    by_cases hlt : c < la.length
    · obtain ⟨x, hx⟩ : ∃ x, la[c]? = some x := ⟨_, List.getElem?_eq_getElem hlt⟩
      obtain ⟨y, hy⟩ : ∃ y, lb[c]? = some y := ⟨_, List.getElem?_eq_getElem (by have := hl'.out; omega)⟩
      obtain ⟨ga, o1, rfl, c1'⟩ := hca'.out c x hx
      obtain ⟨gb, o2, rfl, c2'⟩ := hcb'.out c y hy
      have c1 := (hB.cell (p := ⟨ga, o1 + c, none⟩) (cell_lt c1')).trans c1'
      have c2 := (hB.cell (p := ⟨gb, o2 + c, none⟩) (cell_lt c2')).trans c2'
      have hx' := hide' hx
      have hy' := hide' hy
      have hltb : c < lb.length := by have := hl'.out; omega
      have hsp : Hid (cmpL la lb = if cmpI x y = 0 then cmpL (la.drop (c + 1)) (lb.drop (c + 1)) else cmpI x y) := by
        show _ = _
        have e1 : la = la.take c ++ x :: la.drop (c + 1) := by
          obtain ⟨h1, h2⟩ := List.getElem?_eq_some_iff.1 hx
          rw [← h2, List.getElem_cons_drop, List.take_append_drop]
        have e2 : lb = lb.take c ++ y :: lb.drop (c + 1) := by
          obtain ⟨h1, h2⟩ := List.getElem?_eq_some_iff.1 hy
          rw [← h2, List.getElem_cons_drop, List.take_append_drop]
        have := cmpL_same (la.take c) (x :: la.drop (c + 1)) (y :: lb.drop (c + 1))
        rw [← e1, hE.out, ← e2] at this
        rw [this]; rfl
      clear c1' c2' hx hy
      by_cases hxy : x = y
      · subst hxy
        have h0 : cmpI x x = 0 := cmpI_zero.2 rfl
        go_wp2_with fail
        refine (cmpF x x _).mono ?_
        rintro e w1 ⟨rfl, rfl⟩
        rw [h0]
        go_wp2
        exact ⟨⟨hB, c + 1, by omega, by go_num, by show _ = _; rw [List.take_add_one, List.take_add_one, hE.out, hx'.out, hy'.out]⟩, by simp [intOf]; omega⟩
      · have h0 : ¬ cmpI x y = 0 := fun e => hxy (cmpI_zero.1 e)
        have hq := hsp.out
        rw [if_neg h0] at hq
        have hq' := hide' hq
        clear hq
        have KC := hide' (cmpF x y)
        generalize cmpI x y = cz at *
        have hd : (cz != 0) = true := by simpa using h0
        go_wp2_with fail
        refine (KC.out _).mono ?_
        rintro e w1 ⟨rfl, rfl⟩
        go_wp2
        go_ret
        exact ⟨by rw [hq'.out]; rfl, hB⟩
    · obtain rfl : c = la.length := by omega
      have hend : Hid (cmpL la lb = 0) := by
        show _ = _
        have h1 := hE.out
        rw [List.take_length, hl'.out, List.take_length] at h1
        rw [h1]
        have := cmpL_same lb [] []
        rw [List.append_nil] at this
        rw [this]; rfl
      have hlb : ¬ (la.length : Int) < (lb.length : Int) := by have := hl'.out; omega
      go_wp2
      go_ret
      exact ⟨by rw [hend.out]; rfl, hB⟩
end Go.Proofs.YthjgbnehoiafhaaDoor.I
