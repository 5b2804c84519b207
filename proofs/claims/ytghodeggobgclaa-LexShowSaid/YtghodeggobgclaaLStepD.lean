/- step: no token. -/
import Derived.Test.YtghodeggobgclaaLStepA
import Derived.Test.YtghodeggobgclaaLCut
namespace Go.Proofs.Ytghodeggobgclaa
open Go.RowKit Go.Shelf
theorem cut_err {t : List UInt8} {e : Int} (h : cutT t = .error e) : e ≠ 0 := by
  unfold cutT at h
  cases t with
  | nil => cases h; decide
  | cons c r =>
    simp only at h
    split at h
    · split at h
      · cases h; decide
      · cases h
    · split at h
      · split at h
        · cases h; decide
        · split at h
          · cases h; decide
          · cases h
      · split at h
        · cases h
        · cases h; decide
set_option maxRecDepth 100000 in
set_option maxHeartbeats 4000000 in
theorem stepErr {w0 w : World} {K : Kd} {T : List UInt8} {a s l : Nat} {v : Value} {toks : List Tok} (H : Sc w0 w K T a s l v toks) (_htk : toks.length + 1 ≤ a + l) {c : UInt8} {r : List UInt8} (hT : T.drop a = c :: r) (hb0 : isBl c = false) (hr0 : isRm c = false) (he0 : isEnd c = false) {er : Int} (hc : cutT (c :: r) = .error er) :
    Calls Try.prog 36 #[.pointer (some ⟨w0.heap.size, 0, none⟩)] w (StepPost w0 K T a s l toks) := by
  obtain ⟨x8, x9, x10, x11, x12⟩ := H.cells
  obtain ⟨f9, f10, f11, f12⟩ := H.frozen
  obtain ⟨k0, k1, k2, k3, k4, k5, k6, k7⟩ := H.kinds
  have hal : a < T.length := by
    rcases Nat.lt_or_ge a T.length with h | h
    · exact h
    · rw [List.drop_eq_nil_of_le h] at hT; cases hT
  have hlr : (c :: r).length = T.length - a := by rw [← hT, List.length_drop]
  have hT6 := H.tT
  have hsz := bs_size T
  have hx : (bs T).extract a T.length = bs (c :: r) := by rw [drop_ext, hT]
  obtain ⟨q0, e0⟩ := bs_at (l := c :: r) (i := 0) (x := c) rfl
  have eg0 := H.kk.bl.1
  have eg1 := H.kk.rm.1
  have eg2 := H.kk.en.1
  have K0 : Hid (∀ W : World, Below w.heap.size w W → Calls Try.prog K.g0 (#[.int .u8 (c.toNat : Int)] ++ K.l0) W fun e w' => e = .returned (.bool (isBl c)) ∧ Below w.heap.size w w') := fun W hb =>
    (H.kk.bl.2 W c (.of 0 (H.bl.trans (hb.mono (Nat.le_of_lt H.lt))))).mono fun e w' h => ⟨h.1, hb.trans (h.2.mono hb.size)⟩
  have K1 : Hid (∀ W : World, Below w.heap.size w W → Calls Try.prog K.g1 (#[.int .u8 (c.toNat : Int)] ++ K.l1) W fun e w' => e = .returned (.bool (isRm c)) ∧ Below w.heap.size w w') := fun W hb =>
    (H.kk.rm.2 W c (.of 0 (H.bl.trans (hb.mono (Nat.le_of_lt H.lt))))).mono fun e w' h => ⟨h.1, hb.trans (h.2.mono hb.size)⟩
  have K2 : Hid (∀ W : World, Below w.heap.size w W → Calls Try.prog K.g2 (#[.int .u8 (c.toNat : Int)] ++ K.l2) W fun e w' => e = .returned (.bool (isEnd c)) ∧ Below w.heap.size w w') := fun W hb =>
    (H.kk.en.2 W c (.of 0 (H.bl.trans (hb.mono (Nat.le_of_lt H.lt))))).mono fun e w' h => ⟨h.1, hb.trans (h.2.mono hb.size)⟩
  rw [hb0] at K0
  rw [hr0] at K1
  rw [he0] at K2
  have hne := cut_err hc
  have hne2 : (er != 0) = true := by simpa using hne
  have KC : Hid (∀ W : World, Below w.heap.size w W → Calls Try.prog 72 #[.agg #[fv K.g0 K.l0, fv K.g1 K.l1, fv K.g2 K.l2, fv K.g3 K.l3, fv K.g4 K.l4, fv K.g5 K.l5, fv K.g6 K.l6, fv K.g7 K.l7], .string (bs (c :: r))] W fun e w' => e = .returned (.tuple #[.agg #[.int .i64 0, .string ⟨#[]⟩, .int .i64 0, .int .i64 0, .int .i64 0], .int .i64 er]) ∧ Below w.heap.size w w') := fun W hb => by
    have hv : cutV (c :: r) = .tuple #[tv tz, .int .i64 er] := by unfold cutV; rw [hc]
    have := cutF K c r W (H.kk.later (H.bl.trans (hb.mono (Nat.le_of_lt H.lt)))) (by rw [hlr]; omega)
    rw [hv] at this
    exact this.mono fun e w' h => ⟨h.1, hb.trans (h.2.mono hb.size)⟩
  have hP : Hid (∀ W : World, Below w.heap.size w W → StepPost w0 K T a s l toks (.returned (.int .i64 er)) W) := fun W hb => by
    refine .inr ⟨er, hne, rfl, ⟨v, H.below hb⟩, ?_⟩
    rw [hT, scan_err hb0 hr0 he0 hc]
  clear hb0 hr0 he0 hc hne
  have H' := hide' H
  have hlt := hide' H.lt
  generalize bs (c :: r) = sr at *
  generalize bs T = st at *
  clear H hT hlr
  go_enter Try.func36, Try.ntmps36
  go_upto_region 1 with fail
  go_quiet (fail)
  go_wp2_with fail
  refine (K0.out _ (drew_below w nq)).mono ?_
  rintro e w1 ⟨rfl, hb1⟩
  have b1 := hide' hb1
  have H1 := hide' (H'.out.below hb1)
  clear x8 x9 x10 x11 x12 f9 f10 f11 f12 k0 k1 k2 k3 k4 k5 k6 k7 hb1
  obtain ⟨x8, x9, x10, x11, x12⟩ := H1.out.cells
  obtain ⟨f9, f10, f11, f12⟩ := H1.out.frozen
  obtain ⟨k0, k1, k2, k3, k4, k5, k6, k7⟩ := H1.out.kinds
  go_wp2_with fail
  refine (K1.out _ (b1.out)).mono ?_
  rintro e w2 ⟨rfl, hb2⟩
  have b2 := hide' hb2
  have H2 := hide' (H'.out.below hb2)
  clear x8 x9 x10 x11 x12 f9 f10 f11 f12 k0 k1 k2 k3 k4 k5 k6 k7 hb2
  obtain ⟨x8, x9, x10, x11, x12⟩ := H2.out.cells
  obtain ⟨f9, f10, f11, f12⟩ := H2.out.frozen
  obtain ⟨k0, k1, k2, k3, k4, k5, k6, k7⟩ := H2.out.kinds
  go_wp2_with fail
  refine (K2.out _ (b2.out)).mono ?_
  rintro e w3 ⟨rfl, hb3⟩
  have b3 := hide' hb3
  have H3 := hide' (H'.out.below hb3)
  clear x8 x9 x10 x11 x12 f9 f10 f11 f12 k0 k1 k2 k3 k4 k5 k6 k7 hb3
  obtain ⟨x8, x9, x10, x11, x12⟩ := H3.out.cells
  obtain ⟨f9, f10, f11, f12⟩ := H3.out.frozen
  obtain ⟨k0, k1, k2, k3, k4, k5, k6, k7⟩ := H3.out.kinds
  go_wp2_with fail
  refine (KC.out _ b3.out).mono ?_
  rintro e w4 ⟨rfl, hb4⟩
  have b4 := hide' hb4
  clear x8 x9 x10 x11 x12 f9 f10 f11 f12 k0 k1 k2 k3 k4 k5 k6 k7 hb4 H1 H2 H3
  go_wp2_with fail
  go_ret
  exact hP.out _ (b4.out.alloc b4.out.size _)
end Go.Proofs.Ytghodeggobgclaa
