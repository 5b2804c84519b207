/- The disk's runs. -/
import Derived.Test.YtkabileeincjaaaDkF
namespace Go.Proofs.Ytkabileeincjaaa
open Go.RowKit
theorem make16 (w : World) : ∃ w', (Instr.makeSlice 22 (.int .i64 16) (.int .i64 16)).run Try.prog w = .ok (.slice (some ⟨w.heap.size, 0, none⟩) 16 16) w' ∧ Hid (BkB w' w.heap.size (List.replicate 16 0)) ∧ Hid (Below w.heap.size w w') := by
  obtain ⟨i0, hi, hz0, hz1, hz2⟩ := info_parts infoU8
  obtain ⟨w', hr, h1, h2⟩ := run_make_full (P := Try.prog) w w.heap.size 22 5 i0 (.int .u8 0) 1 Try.underlying22 hi hz0 hz1 .i64 .i64 16 (by rw [hz2]; omega) (by unfold maxLen; omega) (Nat.le_refl _)
  exact ⟨w', hr, made_bk h1, (Below.refl _ w).grown h2 (Nat.le_refl _) (fun j ej => by cases ej)⟩
theorem row16 {w' : World} {g : Nat} {L : List Nat} (h : BkB w' g L) (hL : L.length = 16) : RowC w' (.slice (some ⟨g, 0, none⟩) 16 16) L := RowC.of_bk h (fun i z hz => by rw [Nat.zero_add]; exact hz) hL.symm (Nat.le_refl _)
set_option maxRecDepth 100000 in
set_option maxHeartbeats 2000000 in
theorem wakesF (w : World) : Calls Try.prog 12 #[] w fun e w' => e = .returned (.bool true) ∧ Below w.heap.size w w' := by
  have K := hide' (newF 2 w (by omega) (by omega))
  unfold NewP at K
  rw [show ((2 : Nat) : Int) = 2 from rfl] at K
  go_enter Try.func12, Try.ntmps12
  go_wp2_with fail
  refine K.out.mono ?_
  rintro e w1 ⟨g, gb, rfl, hd, hge, hb⟩
  have hk := newD_ok (n := 2) (by omega) (by omega)
  have K1 := hide' (blocksF hd.out hk.len hk.most)
  rw [show ((2 : Nat) : Int) = 2 from rfl] at K1
  have K2 := hide' (powerF hd.out)
  rw [show (newD 2).power = true from rfl] at K2
  obtain ⟨w2, hr2, hb2, hw2⟩ := make16 w1
  have hd2 := hide' (hd.out.below hw2.out (Nat.le_refl _))
  have K3 := hide' (writeF hd2.out hk 1 (by omega) rfl _ _ (row16 hb2.out (by simp)) (by simp) (by simp [newD]))
  unfold ChP at K3
  rw [show ((1 : Nat) : Int) = 1 from rfl] at K3
  have hk2 := wrD_ok (b := 1) (L := List.replicate 16 0) hk (by omega) (by simp) (by simp [newD])
  have hk' := hide' hk
  have hk2' := hide' hk2
  clear hk hk2
  go_wp2_with (first | (go_at_call 14; refine K1.out.mono ?_; rintro e w2 ⟨rfl, hw1⟩; obtain rfl : w1 = w2 := hw1.symm) | (go_at_call 20; refine K2.out.mono ?_; rintro e w2 ⟨rfl, hw1⟩; obtain rfl : w1 = w2 := hw1.symm))
  refine K3.out.mono ?_
  rintro e w3 ⟨rfl, hd3, hw3⟩
  have K4 := hide' (writesF hd3.out)
  rw [show (wrD (newD 2) 1 (List.replicate 16 0)).writes = 1 from rfl] at K4
  obtain ⟨w4, hr4, hb4, hw4⟩ := make16 w3
  have hd4 := hide' (hd3.out.below hw4.out (Nat.le_refl _))
  have K5 := hide' (writeBad hd4.out hk2'.out.len hk2'.out.most 2 _ _ (row16 hb4.out (by simp)) (by omega))
  go_wp2_with (first | (go_at_call 17; refine K4.out.mono ?_; rintro e w5 ⟨rfl, hw1⟩; obtain rfl : w3 = w5 := hw1.symm) | (go_at_call 19; refine K5.out.mono ?_; rintro e w5 ⟨rfl, hw1⟩; obtain rfl : w4 = w5 := hw1.symm))
  go_ret
  refine ⟨rfl, hb.out.trans ((hw2.out.mono hb.out.size).trans ((hw3.out.below hge.out.1 hge.out.2 ?_).trans (hw4.out.mono ?_)))⟩
  · exact Nat.le_trans hb.out.size hw2.out.size
  · exact Nat.le_trans hb.out.size (Nat.le_trans hw2.out.size hw3.out.size)
end Go.Proofs.Ytkabileeincjaaa
