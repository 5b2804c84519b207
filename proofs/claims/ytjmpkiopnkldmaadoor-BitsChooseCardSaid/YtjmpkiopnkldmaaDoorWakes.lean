/- wakes answers true, wherever the library's table lies as it is laid. -/
import Derived.Test.YtjmpkiopnkldmaaDoorText
import Derived.Test.YtjmpkiopnkldmaaDoorOnes
namespace Go.Proofs.YtjmpkiopnkldmaaDoor
open Go.RowKit
theorem nums150 : nums 150 = [1, 2, 4, 7] := by decide +kernel
theorem len150 (w : World) : Calls Tryd.prog 10 #[.agg #[.int .u8 150]] w fun e w' => e = .returned (.int .i64 4) ∧ Below w.heap.size w w' := by
  have h := len8 150 (by decide) w
  rw [nums150] at h; exact h
theorem has150 (w : World) : Calls Tryd.prog 18 #[.agg #[.int .u8 150], .int .i64 7] w fun e w' => e = .returned (.bool true) ∧ Below w.heap.size w w' := has8 150 (by decide) 7 w
theorem text150s : (txt (nums 150) ++ [125]) = [123, 49, 44, 50, 44, 52, 44, 55, 125] := by decide +kernel
theorem text150 (w : World) (ht : Tab w) : Calls Tryd.prog 19 #[.agg #[.int .u8 150]] w fun e w' => e = .returned (.string ⟨#[123, 49, 44, 50, 44, 52, 44, 55, 125]⟩) ∧ Below w.heap.size w w' := by
  have h := text8 150 (by decide) w ht
  rw [text150s] at h; exact h
set_option maxRecDepth 100000 in
set_option maxHeartbeats 1000000 in
theorem wakes (w : World) (ht : Tab w) : Calls Tryd.prog 8 #[] w fun e w' => e = .returned (.bool true) ∧ Below w.heap.size w w' := by
  go_enter Tryd.func8, Tryd.ntmps8
  go_wp2_with fail
  refine (of8 _ _ _).mono ?_
  rintro e w1 ⟨rfl, hb1⟩
  have t1 : Tab w1 := (ht.over ((Below.refl _ w).alloc (Nat.le_refl _) _)).over hb1
  have b1 : Below w.heap.size w w1 := ((Below.refl _ w).alloc (Nat.le_refl _) _).trans (hb1.mono (by simp))
  clear hb1
  go_wp2_with fail
  refine (len150 _).mono ?_
  rintro e w2 ⟨rfl, hb2⟩
  have k2 := keep1 (w := w) (b := w1.heap.size) (v := .int .u8 150) ⟨by simp, by simp, b1.alloc b1.size _⟩ hb2
  have c2 := k2.1
  clear hb2
  go_wp2_with fail
  refine (has150 _).mono ?_
  rintro e w3 ⟨rfl, hb3⟩
  have k3 := keep1 k2 hb3
  have c3 := k3.1
  clear hb3 c2 k2
  go_wp2_with fail
  refine (text150 _ (ht.over k3.2.2)).mono ?_
  rintro e w4 ⟨rfl, hb4⟩
  have k4 := keep1 k3 hb4
  have c4 := k4.1
  clear hb4 c3 k3
  go_wp2_with fail
  refine (width8 _ _).mono ?_
  rintro e w5 ⟨rfl, hb5⟩
  have k5 := keep1 k4 hb5
  clear hb5 c4 k4
  go_wp2
  go_ret
  exact ⟨rfl, k5.2.2⟩
end Go.Proofs.YtjmpkiopnkldmaaDoor
