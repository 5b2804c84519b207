/- OrderCount answers true. -/
import Derived.Test.YtgmnldibabdjmaaDoorOBoth
import Derived.Test.YtgmnldibabdjmaaDoorOCnt
import Derived.Test.YtgmnldibabdjmaaDoorRCount
import Derived.BigQuiet
namespace Go.Proofs.YtgmnldibabdjmaaDoor
open Go.RowKit Go.Shelf
theorem keep2i3 {W0 W w1 : World} {b0 i0 b1 i1 : Nat} {u0 u1 : Value} (h : W.cell? ⟨b0, i0, none⟩ = some u0 ∧ W.cell? ⟨b1, i1, none⟩ = some u1 ∧ Below W0.heap.size W0 W) (hb : Below W.heap.size W w1) :
    w1.cell? ⟨b0, i0, none⟩ = some u0 ∧ w1.cell? ⟨b1, i1, none⟩ = some u1 ∧ Below W0.heap.size W0 w1 := ⟨cell_over h.1 hb, cell_over h.2.1 hb, h.2.2.trans (hb.mono h.2.2.size)⟩
set_option maxRecDepth 100000 in
set_option maxHeartbeats 1000000 in
theorem orderCount_walk (n : Int) (v : Value) (L : List (Int × Int)) (A B s : Int) (ob : Option Addr) (lb cb : Nat) (mo : Nat) (hmo : mo < 18446744073709551616) (w : World) (hv : PairsAt w v L) (hn : L.length * 16 ≤ 140737488351232) (ht : Tab w) :
    Calls Tryd.prog 3 #[.agg #[.int .i64 n, v, .int .i64 A, .int .i64 B, .int .u64 s, .slice ob lb cb, .int .u64 (mo : Int)]] w fun e w' => e = .returned (.bool true) ∧ Below w.heap.size w w' := by
  obtain ⟨oa, cap, hve, _⟩ := id hv
  subst hve
  have hB0 : Below w.heap.size w (w.alloc (.cells #[.int .i64 n, .slice oa L.length cap, .int .i64 A, .int .i64 B, .int .u64 s, .slice ob lb cb, .int .u64 (mo : Int)] 26)) := (Below.refl _ w).alloc (Nat.le_refl _) _
  have c6 : (w.alloc (.cells #[.int .i64 n, .slice oa L.length cap, .int .i64 A, .int .i64 B, .int .u64 s, .slice ob lb cb, .int .u64 (mo : Int)] 26)).cell? ⟨w.heap.size, 6, none⟩ = some (.int .u64 (mo : Int)) := by simp
  have KB := hide' (bothP n _ L A B s ob lb cb mo _ (hv.over hB0) hn (ht.over hB0))
  go_enter Tryd.func3, Tryd.ntmps3
  go_wp2_with fail
  refine KB.out.mono ?_
  rintro e w1 ⟨hb1, po, pr, rfl, hor⟩
  have B1 := hB0.trans (hb1.mono hB0.size)
  have d6 := cell_over c6 hb1
  clear c6 KB
  rcases hor with ⟨rfl, rfl⟩ | ⟨m, go, gp, gs, Pf, Sf, gr, ov, rr, w0, rfl, hok, rfl, rfl, ho, hO, hM⟩
  · go_wp2
    go_ret
    exact ⟨rfl, B1⟩
  · have hm := hO.n64
    have t1 := ht.over B1
    have c0 := hM.c0
    have KP : Hid (∀ W, Below w1.heap.size w1 W → Calls Tryd.prog 5 #[.pointer (some ⟨go, 0, none⟩), .int .u64 (mo : Int)] W fun e w' => e = .returned (.int .u64 ((min (ext m Pf m 0) (min mo 65536) : Nat) : Int)) ∧ Below W.heap.size W w') := fun W hW => countO (ho.over hW) hO (t1.over hW) mo hmo
    have KQ : Hid (∀ W, Below w1.heap.size w1 W → Calls Tryd.prog 6 #[.pointer (some ⟨gr, 0, none⟩), .int .u64 0, .int .i64 (m : Int), .int .u64 ((min mo 65536 : Nat) : Int)] W fun e w' => e = .returned (.int .u64 ((min (ext m Pf m 0) (min mo 65536) : Nat) : Int)) ∧ w' = W) := fun W hW => refCount (hM.over hW) hO m 0 (min mo 65536) down_zero (by rw [cnt_zero]; omega) (Nat.min_le_right _ _)
    generalize min (ext m Pf m 0) (min mo 65536) = res at *
    have hS0 : Hid (w1.drew.cell? ⟨w.heap.size, 6, none⟩ = some (.int .u64 (mo : Int)) ∧ w1.drew.cell? ⟨gr, 0, none⟩ = some (.int .i64 (m : Int)) ∧ Below w1.heap.size w1 w1.drew) := ⟨d6, c0, (Below.refl _ _).drew⟩
    by_cases hgt : 65536 < mo
    · have hg2 : (65536 : Int) < (mo : Int) := by omega
      have e1 : min mo 65536 = 65536 := by omega
      rw [e1] at KQ
      go_wp2
      go_region_held3 (fun X => X.cell? ⟨w.heap.size, 6, none⟩ = some (.int .u64 (mo : Int)) ∧ X.cell? ⟨gr, 0, none⟩ = some (.int .i64 (m : Int)) ∧ Below w1.heap.size w1 X) (first | assumption | (exact keep2i3 (by assumption) hb) | (exact hS0.out)) (first | (go_at_call 5; refine (KP.out _ (by first | exact ‹_ ∧ _ ∧ _›.2.2 | exact (Below.refl _ _).drew)).mono ?_; rintro e w2 ⟨rfl, hb⟩) | (go_at_call 6; refine (KQ.out _ (by first | exact ‹_ ∧ _ ∧ _›.2.2 | exact (Below.refl _ _).drew)).mono ?_; rintro e w2 ⟨rfl, rfl⟩))
      all_goals
        have hS := ‹_ ∧ _ ∧ Below w1.heap.size w1 _›.2.2
        go_wp2
        go_ret
        exact ⟨rfl, B1.trans (hS.mono B1.size)⟩
    · have hg2 : ¬ (65536 : Int) < (mo : Int) := by omega
      have e1 : min mo 65536 = mo := by omega
      rw [e1] at KQ
      go_wp2
      go_region_held3 (fun X => X.cell? ⟨w.heap.size, 6, none⟩ = some (.int .u64 (mo : Int)) ∧ X.cell? ⟨gr, 0, none⟩ = some (.int .i64 (m : Int)) ∧ Below w1.heap.size w1 X) (first | assumption | (exact keep2i3 (by assumption) hb) | (exact hS0.out)) (first | (go_at_call 5; refine (KP.out _ (by first | exact ‹_ ∧ _ ∧ _›.2.2 | exact (Below.refl _ _).drew)).mono ?_; rintro e w2 ⟨rfl, hb⟩) | (go_at_call 6; refine (KQ.out _ (by first | exact ‹_ ∧ _ ∧ _›.2.2 | exact (Below.refl _ _).drew)).mono ?_; rintro e w2 ⟨rfl, rfl⟩))
      all_goals
        have hS := ‹_ ∧ _ ∧ Below w1.heap.size w1 _›.2.2
        go_wp2
        go_ret
        exact ⟨rfl, B1.trans (hS.mono B1.size)⟩
end Go.Proofs.YtgmnldibabdjmaaDoor
