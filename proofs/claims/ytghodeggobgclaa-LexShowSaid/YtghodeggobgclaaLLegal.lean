/- Legal: what it answers. -/
import Derived.Test.YtghodeggobgclaaLScan
import Derived.Deep.RegionHeld3
namespace Go.Proofs.Ytghodeggobgclaa
open Go.RowKit Go.Shelf
theorem len_all (p : UInt8 → Bool) : ∀ T : List UInt8, (len p T = T.length ↔ T.all p = true)
  | [] => by simp [len]
  | c :: T => by
    cases h : p c
    · rw [len_cons_false h]; simp [h]
    · rw [len_cons_true h]
      have := len_all p T
      simp [h]
      simpa using this
theorem legal_nil : legalT [] = false := rfl
theorem legal_big {T : List UInt8} (h : 24 < T.length) : legalT T = false := by
  cases T with
  | nil => rfl
  | cons c r =>
    unfold legalT
    have h' : decide ((c :: r).length ≤ 24) = false := decide_eq_false (by omega)
    simp only [h', Bool.false_and]
theorem legal_one {c : UInt8} {r : List UInt8} (h : (c :: r).length ≤ 24) : legalT (c :: r) = (isLet c && (((len isIn (c :: r) : Nat) : Int) == (((c :: r).length : Nat) : Int))) := by
  have e : (((len isIn (c :: r) : Nat) : Int) == (((c :: r).length : Nat) : Int)) = (c :: r).all isIn := by
    rw [Bool.eq_iff_iff, beq_iff_eq, ← len_all]
    omega
  rw [e]
  unfold legalT
  have h' : decide ((c :: r).length ≤ 24) = true := by simpa using h
  simp only [h', Bool.true_and]
theorem kblk_new (K : Kd) (w : World) : kblk K (w.alloc (.cells #[fv K.g0 K.l0, fv K.g1 K.l1, fv K.g2 K.l2, fv K.g3 K.l3, fv K.g4 K.l4, fv K.g5 K.l5, fv K.g6 K.l6, fv K.g7 K.l7] 88)) w.heap.size := heap_alloc_new w _
set_option maxRecDepth 100000 in
set_option maxHeartbeats 4000000 in
theorem legalF (T : List UInt8) (w : World) (hm : T.length ≤ 9223372036854775807) : Calls Try.prog 34 #[.string (bs T)] w fun e w' => e = .returned (.bool (legalT T)) ∧ Below w.heap.size w w' := by
  have hsz := bs_size T
  by_cases h0 : T = []
  · rw [h0] at hsz ⊢
    rw [legal_nil]
    have hl0 : (bs []).size = 0 := hsz
    clear h0 hsz hm
    generalize bs [] = st at *
    go_enter Try.func34, Try.ntmps34
    go_wp2_with fail
    refine (kindsOB _).mono ?_
    rintro e w1 ⟨K, rfl, hK, hb1⟩
    have B1 := hide' hb1
    clear hK hb1
    unfold Kd.v
    go_upto_region 2 with fail
    go_quiet (fail)
    go_wp2
    go_ret
    exact ⟨rfl, (B1.out.alloc B1.out.size _).trans ((drew_below _ _).mono (by have := B1.out.size; simp; omega))⟩
  · by_cases h24 : 24 < T.length
    · rw [legal_big h24]
      have g0 : (((T.length : Nat) : Int) == 0) = false := by rw [beq_eq_false_iff_ne]; omega
      have g1 : decide ((24 : Int) < (T.length : Int)) = true := by simp; omega
      have g2 : decide (24 < T.length) = true := by simp; omega
      clear h0
      generalize bs T = st at *
      go_enter Try.func34, Try.ntmps34
      go_wp2_with fail
      refine (kindsOB _).mono ?_
      rintro e w1 ⟨K, rfl, hK, hb1⟩
      have B1 := hide' hb1
      clear hK hb1
      unfold Kd.v
      go_upto_region 2 with fail
      go_quiet (fail)
      go_wp2
      go_ret
      exact ⟨rfl, (B1.out.alloc B1.out.size _).trans ((drew_below _ _).mono (by have := B1.out.size; simp; omega))⟩
    · obtain ⟨c, r, rfl⟩ : ∃ c r, T = c :: r := by
        cases T with
        | nil => exact absurd rfl h0
        | cons c r => exact ⟨c, r, rfl⟩
      rw [legal_one (by omega)]
      obtain ⟨q0, e0⟩ := bs_at (l := c :: r) (i := 0) (x := c) rfl
      have KL : Hid (∀ (K : Kd) (W : World), KOk K W → Calls Try.prog 67 #[.string (bs (c :: r)), .func (.func K.g6) #[] K.l6] W fun e w' => e = .returned (.int .i64 (len isIn (c :: r) : Nat)) ∧ Below W.heap.size W w') := fun K W h => lengthF (c :: r) _ _ _ W h.nm hm
      generalize len isIn (c :: r) = nn at *
      have g0 : ((((c :: r).length : Nat) : Int) == 0) = false := by rw [beq_eq_false_iff_ne]; simp only [List.length_cons]; omega
      generalize (c :: r).length = m at *
      clear h0
      generalize bs (c :: r) = st at *
      go_enter Try.func34, Try.ntmps34
      go_wp2_with fail
      refine (kindsOB _).mono ?_
      rintro e w1 ⟨K, rfl, hK, hb1⟩
      have B1 := hide' hb1
      have eg4 := hK.le.1
      have a1 : Hid (Below w1.heap.size w1 (w1.alloc (.cells #[fv K.g0 K.l0, fv K.g1 K.l1, fv K.g2 K.l2, fv K.g3 K.l3, fv K.g4 K.l4, fv K.g5 K.l5, fv K.g6 K.l6, fv K.g7 K.l7] 88))) := (Below.refl _ w1).alloc (Nat.le_refl _) _
      have hK2 : Hid (KOk K (w1.alloc (.cells #[fv K.g0 K.l0, fv K.g1 K.l1, fv K.g2 K.l2, fv K.g3 K.l3, fv K.g4 K.l4, fv K.g5 K.l5, fv K.g6 K.l6, fv K.g7 K.l7] 88))) := hK.later a1.out
      clear hK hb1
      obtain ⟨-, -, -, -, k4, -, k6, -⟩ := kblk_cells (kblk_new K w1)
      have B2 : Hid (Below w.heap.size w (w1.alloc (.cells #[fv K.g0 K.l0, fv K.g1 K.l1, fv K.g2 K.l2, fv K.g3 K.l3, fv K.g4 K.l4, fv K.g5 K.l5, fv K.g6 K.l6, fv K.g7 K.l7] 88))) := B1.out.trans (a1.out.mono B1.out.size)
      have KB := hide' (kblk_new K w1)
      unfold Kd.v
      go_upto_region 2 with fail
      generalize (w1.alloc (.cells #[fv K.g0 K.l0, fv K.g1 K.l1, fv K.g2 K.l2, fv K.g3 K.l3, fv K.g4 K.l4, fv K.g5 K.l5, fv K.g6 K.l6, fv K.g7 K.l7] 88)) = W1 at *
      have hlt1 : Hid (w1.heap.size < W1.heap.size) := (Array.getElem?_eq_some_iff.1 KB.out).1
      have g1 : decide ((24 : Int) < (m : Int)) = false := by simp; omega
      have g2 : decide (24 < m) = false := by simp; omega
      have hS : Hid (W1.drew.cell? ⟨w1.heap.size, 4, none⟩ = some (fv K.g4 K.l4) ∧ Below W1.heap.size W1 W1.drew) := ⟨k4, (Below.refl _ _).drew⟩
      have hKeep : Hid (∀ V V' : World, (V.cell? ⟨w1.heap.size, 4, none⟩ = some (fv K.g4 K.l4) ∧ Below W1.heap.size W1 V) → Below V.heap.size V V' → (V'.cell? ⟨w1.heap.size, 4, none⟩ = some (fv K.g4 K.l4) ∧ Below W1.heap.size W1 V')) := fun V V' h hb => ⟨(hb.cell (p := ⟨w1.heap.size, 4, none⟩) (Nat.lt_of_lt_of_le hlt1.out h.2.size)).trans h.1, h.2.trans (hb.mono h.2.size)⟩
      cases hl : isLet c
      · have K4 : Hid (∀ W : World, Below W1.heap.size W1 W → Calls Try.prog K.g4 (#[.int .u8 (c.toNat : Int)] ++ K.l4) W fun e w' => e = .returned (.bool false) ∧ Below W.heap.size W w') := fun W hb => by
          have := hK2.out.le.2 W c (.of 0 hb)
          rwa [hl] at this
        have hl' := hide' hl
        clear KL hl hK2 KB a1 B1
        go_region_held3 (fun V => V.cell? ⟨w1.heap.size, 4, none⟩ = some (fv K.g4 K.l4) ∧ Below W1.heap.size W1 V) (first | (exact hKeep.out _ _ (by assumption) hb) | (exact hKeep.out _ _ hS.out hb) | (exact hS.out)) (first | (go_at_fn K.g4; refine (K4.out _ (by first | exact ‹_ ∧ _›.2 | exact (Below.refl _ _).drew)).mono ?_; rintro e w2 ⟨rfl, hb⟩))
        have hb2 : Below W1.heap.size W1 w2 := ((Below.refl _ W1).drew).trans hb
        have B3 := hide' (B2.out.trans (hb2.mono B2.out.size))
        clear hb hb2
        go_wp2_with fail
        go_ret
        exact ⟨by rw [hl'.out]; rfl, B3.out⟩
      · have K4 : Hid (∀ W : World, Below W1.heap.size W1 W → Calls Try.prog K.g4 (#[.int .u8 (c.toNat : Int)] ++ K.l4) W fun e w' => e = .returned (.bool true) ∧ Below W.heap.size W w') := fun W hb => by
          have := hK2.out.le.2 W c (.of 0 hb)
          rwa [hl] at this
        have hl' := hide' hl
        clear hl a1 B1
        go_region_held3 (fun V => V.cell? ⟨w1.heap.size, 4, none⟩ = some (fv K.g4 K.l4) ∧ Below W1.heap.size W1 V) (first | (exact hKeep.out _ _ (by assumption) hb) | (exact hKeep.out _ _ hS.out hb) | (exact hS.out)) (first | (go_at_fn K.g4; refine (K4.out _ (by first | exact ‹_ ∧ _›.2 | exact (Below.refl _ _).drew)).mono ?_; rintro e w2 ⟨rfl, hb⟩))
        have hb2 : Below W1.heap.size W1 w2 := ((Below.refl _ W1).drew).trans hb
        have B3 := hide' (B2.out.trans (hb2.mono B2.out.size))
        have k6' : w2.cell? ⟨w1.heap.size, 6, none⟩ = some (fv K.g6 K.l6) := (hb2.cell (p := ⟨w1.heap.size, 6, none⟩) hlt1.out).trans k6
        have KL2 := hide' (KL.out K w2 (hK2.out.later hb2))
        clear hb hb2 KL hK2
        go_wp2_with fail
        refine KL2.out.mono ?_
        rintro e w3 ⟨rfl, hb3⟩
        have B4 := hide' (B3.out.trans (hb3.mono B3.out.size))
        clear hb3
        go_wp2_with fail
        go_ret
        exact ⟨by rw [hl'.out]; simp, B4.out⟩
end Go.Proofs.Ytghodeggobgclaa
