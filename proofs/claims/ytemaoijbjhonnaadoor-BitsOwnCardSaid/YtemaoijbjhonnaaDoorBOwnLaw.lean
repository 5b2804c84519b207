/- BitsOwn answers true for every input, wherever the library's table lies as it is laid; of what was there before nothing turns. -/
import Derived.Test.YtemaoijbjhonnaaDoorPlacesFn
import Derived.Test.YtemaoijbjhonnaaDoorRefPl
import Derived.Test.YtemaoijbjhonnaaDoorWakes
import Derived.Test.YtemaoijbjhonnaaDoorKOwn
import Derived.Deep.RegionHeld3
namespace Go.Proofs.YtemaoijbjhonnaaDoor
open Go.RowKit
theorem intsOf_cells (l : List (Fin 64)) : intsOf l = K.cellsI (l.map fun j => (j.val : Int)) := by simp [intsOf, K.cellsI]
theorem nat_len (l : List (Fin 64)) (x : Nat) (h : l = nums x) : (l.map fun j => (j.val : Int)).length ≤ 1000000 := by
  subst h; rw [List.length_map]; have := nums_len x; omega
theorem keepO {W0 V V' : World} {b b0 b2 : Nat} {u0 u2 : Value} (hz : b < W0.heap.size) (z0 : b0 < b) (z2 : b2 < b) (h : V.cell? ⟨b0, 0, none⟩ = some u0 ∧ V.cell? ⟨b2, 0, none⟩ = some u2 ∧ Below b W0 V) (hb : Below V.heap.size V V') :
    V'.cell? ⟨b0, 0, none⟩ = some u0 ∧ V'.cell? ⟨b2, 0, none⟩ = some u2 ∧ Below b W0 V' := by
  have hs := h.2.2.size
  exact ⟨(hb.cell (p := ⟨b0, 0, none⟩) (by show b0 < _; omega)).trans h.1, (hb.cell (p := ⟨b2, 0, none⟩) (by show b2 < _; omega)).trans h.2.1, h.2.2.trans (hb.mono (by omega))⟩
set_option maxRecDepth 100000 in
set_option maxHeartbeats 4000000 in
theorem bitsOwn_walk (A B : Nat) (I J : Int) (hA : A < 18446744073709551616) (hB : B < 18446744073709551616) (w : World) (ht : Tab w) :
    Calls Tryd.prog 5 #[.agg #[.int .u64 A, .int .u64 B, .int .i64 I, .int .i64 J]] w fun e w' => e = .returned (.bool true) ∧ Below w.heap.size w w' := by
  go_enter Tryd.func5, Tryd.ntmps5
  go_wp2_with (go_at_call 12; refine (of64 _ _ _).mono ?_; rintro e w1 ⟨rfl, hb1⟩)
  have hB1 : Hid (Below w.heap.size w w1) := (((Below.refl _ w).alloc (Nat.le_refl _) _).alloc (by simp) _).trans (hb1.mono (by simp; omega))
  have zs : w.heap.size + 1 + 1 ≤ w1.heap.size := by have := hb1.size; simpa using this
  have x0 : w1.cell? ⟨w.heap.size, 0, none⟩ = some (.int .u64 A) := (hb1.cell (p := ⟨w.heap.size, 0, none⟩) (by simp; omega)).trans (by simp)
  have x1 : w1.cell? ⟨w.heap.size, 1, none⟩ = some (.int .u64 B) := (hb1.cell (p := ⟨w.heap.size, 1, none⟩) (by simp; omega)).trans (by simp)
  have x2 : w1.cell? ⟨w.heap.size + 1, 0, none⟩ = some (.int .u64 0) := (hb1.cell (p := ⟨w.heap.size + 1, 0, none⟩) (by simp)).trans (by simp)
  have hst := hide' (K.BookO.start (w1.alloc (.cells #[.int .u64 A] 36)))
  rw [World.size_alloc] at hst
  have hBW : Hid (Below w.heap.size w ((w1.alloc (.cells #[.int .u64 A] 36)).alloc (.cells #[.slice none 0 0, .slice none 0 0, .slice none 0 0, .slice none 0 0, .slice none 0 0, .slice none 0 0, .slice none 0 0, .slice none 0 0, .slice none 0 0, .slice none 0 0, .slice none 0 0, .slice none 0 0, .int .i64 0] 58))) := (hB1.out.alloc hB1.out.size _).alloc (by simp; omega) _
  have hBW1 : Hid (Below w1.heap.size w1 ((w1.alloc (.cells #[.int .u64 A] 36)).alloc (.cells #[.slice none 0 0, .slice none 0 0, .slice none 0 0, .slice none 0 0, .slice none 0 0, .slice none 0 0, .slice none 0 0, .slice none 0 0, .slice none 0 0, .slice none 0 0, .slice none 0 0, .slice none 0 0, .int .i64 0] 58))) := ((Below.refl _ w1).alloc (Nat.le_refl _) _).alloc (by simp) _
  have x3 : ((w1.alloc (.cells #[.int .u64 A] 36)).alloc (.cells #[.slice none 0 0, .slice none 0 0, .slice none 0 0, .slice none 0 0, .slice none 0 0, .slice none 0 0, .slice none 0 0, .slice none 0 0, .slice none 0 0, .slice none 0 0, .slice none 0 0, .slice none 0 0, .int .i64 0] 58)).cell? ⟨w1.heap.size, 0, none⟩ = some (.int .u64 A) := by simp
  generalize hW0 : ((w1.alloc (.cells #[.int .u64 A] 36)).alloc (.cells #[.slice none 0 0, .slice none 0 0, .slice none 0 0, .slice none 0 0, .slice none 0 0, .slice none 0 0, .slice none 0 0, .slice none 0 0, .slice none 0 0, .slice none 0 0, .slice none 0 0, .slice none 0 0, .int .i64 0] 58)) = W0 at *
  generalize hbs : w1.heap.size = bs at *
  generalize hbx : w.heap.size = bx at *
  have hC : Hid (∀ V, Below (bs + 1) W0 V → V.cell? ⟨bx, 0, none⟩ = some (.int .u64 A) ∧ V.cell? ⟨bx, 1, none⟩ = some (.int .u64 B) ∧ V.cell? ⟨bx + 1, 0, none⟩ = some (.int .u64 0) ∧ V.cell? ⟨bs, 0, none⟩ = some (.int .u64 A)) := fun V hV =>
    ⟨((hV.cell (p := ⟨bx, 0, none⟩) (by show bx < bs + 1; omega)).trans (hBW1.out.cell (p := ⟨bx, 0, none⟩) (by show bx < bs; omega))).trans x0, ((hV.cell (p := ⟨bx, 1, none⟩) (by show bx < bs + 1; omega)).trans (hBW1.out.cell (p := ⟨bx, 1, none⟩) (by show bx < bs; omega))).trans x1, ((hV.cell (p := ⟨bx + 1, 0, none⟩) (by show bx + 1 < bs + 1; omega)).trans (hBW1.out.cell (p := ⟨bx + 1, 0, none⟩) (by show bx + 1 < bs; omega))).trans x2, (hV.cell (p := ⟨bs, 0, none⟩) (by show bs < bs + 1; omega)).trans x3⟩
  have hT : Hid (∀ V, Below (bs + 1) W0 V → Tab V) := fun V hV => ht.over (by rw [hbx]; exact hBW.out.trans (hV.mono (by omega)))
  have hE : Hid (∀ V, Below (bs + 1) W0 V → Below bx w V) := fun V hV => hBW.out.trans (hV.mono (by omega))
  have KP : Hid (∀ (X : Nat), X < 18446744073709551616 → ∀ V, Below (bs + 1) W0 V → Calls Tryd.prog 20 #[.agg #[.int .u64 X]] V fun e W' => ∃ oa cap, e = .returned (.slice oa (nums X).length cap) ∧ W'.ownsRow V.heap.size 3 1 (.slice oa (nums X).length cap) (nums X).length (K.cellsI ((nums X).map fun j => (j.val : Int))) ∧ Below V.heap.size V W') := fun X hX V hV => (places64 X hX V (hT.out V hV)).mono fun e W' ⟨v, he, hv, hb⟩ => by
    rw [intsOf_cells] at hv
    obtain ⟨oa, cap, rfl⟩ := K.own_shape hv
    exact ⟨oa, cap, he, hv, hb⟩
  have hz0 : Hid (bs + 1 < W0.heap.size) := by obtain ⟨_, tg, hk, _⟩ := hst.out; exact hk.lt
  have hLA : Hid (((nums A).map fun j => (j.val : Int)).length ≤ 1000000) := nat_len _ A rfl
  have hLB : Hid (((nums B).map fun j => (j.val : Int)).length ≤ 1000000) := nat_len _ B rfl
  have hzx : Hid (bx + 1 + 1 ≤ bs) := zs
  clear hW0 hbs x0 x1 x2 x3 zs hb1 hB1 hBW1 hBW
  go_loopw [6] (fun i wr => ∃ c : Nat, c ≤ 5 ∧ i = .int .i64 c ∧ K.BookO W0 (bs + 1) wr) (fun i _ => (5 - intOf i).toNat)
  case atStart => exact ⟨0, by decide, rfl, hst.out⟩
  case round =>
    clear hst
    obtain ⟨c, hc, rfl, hk⟩ := hrel
    have hk := hide' hk
    obtain ⟨q0, q1, q2, q3⟩ := hC.out wr hk.out.1
    by_cases hlt : c < 5
    · generalize hNA : (nums A).map (fun j => (j.val : Int)) = LA at *
      generalize hNB : (nums B).map (fun j => (j.val : Int)) = LB at *
      have KPA := hide' (KP.out A hA)
      have KPB := hide' (KP.out B hB)
      rw [hNA] at KPA
      rw [hNB] at KPB
      clear hNA hNB KP
      generalize (nums A).length = nA at *
      generalize (nums B).length = nB at *
      go_wp2_with (first | (go_at_call 12; refine (of64 _ _ _).mono ?_; rintro e w4 ⟨rfl, hb4⟩; replace hk := hide' (hk.out.below hb4); clear hb4) | (go_at_call_of 20 ((A : Nat) : Int); refine (KPA.out _ hk.out.1).mono ?_; rintro e w2 ⟨oa, cap, rfl, hrow, hb2⟩; have KI := hide' (K.ownInts hk.out hb2 hrow hLA.out); clear hrow hb2) | (go_at_call_of 20 ((B : Nat) : Int); refine (KPB.out _ hk.out.1).mono ?_; rintro e w5 ⟨oa2, cap2, rfl, hrow, hb2⟩; have KI := hide' (K.ownInts hk.out hb2 hrow hLB.out); clear hrow hb2) | (go_at_call 19; refine KI.out.mono ?_; rintro e w3 ⟨rfl, hk3⟩; clear KI q0 q1 q2 q3; replace hk := hide' hk3; clear hk3; obtain ⟨q0, q1, q2, q3⟩ := hC.out w3 hk.out.1))
      exact ⟨⟨c + 1, by omega, by go_num, hk.out⟩, by simp [intOf]; omega⟩
    · have KC := hide' (K.ownClose (hk.out.below (Below.refl _ _).drew))
      have KPA := hide' (KP.out A hA)
      have KR : Hid (∀ V, Calls Tryd.prog 23 #[.int .u64 A, .int .i64 64] V fun e W' => ∃ oa cap, e = .returned (.slice oa (nums A).length cap) ∧ W'.ownsRow V.heap.size 3 1 (.slice oa (nums A).length cap) (nums A).length (K.cellsI ((nums A).map fun j => (j.val : Int))) ∧ Below V.heap.size V W') := fun V => (refPlaces A 64 (by omega) (by decide) V).mono fun e W' ⟨v, he, hv, hb⟩ => by
        rw [intsOf_cells] at hv
        obtain ⟨oa, cap, rfl⟩ := K.own_shape hv
        exact ⟨oa, cap, he, hv, hb⟩
      generalize (nums A).map (fun j => (j.val : Int)) = LA at *
      generalize (nums A).length = nA at *
      have KI : Hid (∀ v1 v2 W, K.RowI W v1 LA → K.RowI W v2 LA → Calls Tryd.prog 22 #[v1, v2] W fun e w' => e = .returned (.bool true) ∧ Below W.heap.size W w') := fun v1 v2 W r1 r2 => by
        have := K.keepInts LA LA v1 v2 W r1 r2 hLA.out hLA.out
        simpa using this
      have KW : Hid (∀ W, Below (bs + 1) W0 W → Calls Tryd.prog 10 #[] W fun e w' => e = .returned (.bool true) ∧ Below W.heap.size W w') := fun W hW => wakes W (hT.out W hW)
      have hi0 : Hid (wr.drew.cell? ⟨bx, 0, none⟩ = some (.int .u64 A) ∧ wr.drew.cell? ⟨bs, 0, none⟩ = some (.int .u64 A) ∧ Below (bs + 1) W0 wr.drew) := ⟨q0, q3, hk.out.1.drew⟩
      have zx : bx < bs + 1 := by have h2 := hzx.out; omega
      have kC : Hid (∀ V, Below (bs + 1) W0 V → V.cell? ⟨bx, 0, none⟩ = some (.int .u64 A) ∧ V.cell? ⟨bs, 0, none⟩ = some (.int .u64 A) ∧ Below (bs + 1) W0 V) := fun V hV => ⟨(hC.out V hV).1, (hC.out V hV).2.2.2, hV⟩
      have kS : Hid (∀ V V', (V.cell? ⟨bx, 0, none⟩ = some (.int .u64 A) ∧ V.cell? ⟨bs, 0, none⟩ = some (.int .u64 A) ∧ Below (bs + 1) W0 V) → Below V.heap.size V V' → (V'.cell? ⟨bx, 0, none⟩ = some (.int .u64 A) ∧ V'.cell? ⟨bs, 0, none⟩ = some (.int .u64 A) ∧ Below (bs + 1) W0 V')) := fun V V' h hb => keepO hz0.out zx (Nat.lt_succ_self _) h hb
      clear KP hk q0 q1 q2 q3 hC
      go_wp2
      go_region_held3 (fun V => V.cell? ⟨bx, 0, none⟩ = some (.int .u64 A) ∧ V.cell? ⟨bs, 0, none⟩ = some (.int .u64 A) ∧ Below (bs + 1) W0 V) (first | (exact kS.out _ _ (by assumption) hb) | (exact kS.out _ _ hi0.out hb) | (exact kC.out _ hbc) | (exact hi0.out)) (first | (go_at_call 21; refine KC.out.mono ?_; rintro e w8 ⟨rfl, hbc⟩) | (go_at_call 20; refine (KPA.out _ ‹_ ∧ _ ∧ _›.2.2).mono ?_; rintro e w9 ⟨oa, cap, rfl, hrow1, hb⟩; have R1 := hide' (K.RowI.of_owns hrow1); clear hrow1) | (go_at_call 23; refine (KR.out _).mono ?_; clear hb; rintro e w10 ⟨oa2, cap2, rfl, hrow2, hb⟩; have R2 := hide' (K.RowI.of_owns hrow2); have R3 := hide' (R1.out.below hb (Nat.le_refl _)); clear hrow2 R1) | (go_at_call 22; refine (KI.out _ _ _ R3.out R2.out).mono ?_; clear hb; rintro e w11 ⟨rfl, hb⟩) | (go_at_call 10; refine (KW.out _ ‹_ ∧ _ ∧ _›.2.2).mono ?_; clear hb; rintro e w12 ⟨rfl, hb⟩))
      go_wp2
      go_ret
      exact ⟨rfl, by rw [hbx]; exact hE.out _ ‹_ ∧ _ ∧ Below (bs + 1) W0 w12›.2.2⟩
end Go.Proofs.YtemaoijbjhonnaaDoor
