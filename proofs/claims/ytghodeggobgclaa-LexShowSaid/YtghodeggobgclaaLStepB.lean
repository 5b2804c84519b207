/- step: ends of lines. -/
import Derived.Test.YtghodeggobgclaaLStepA
namespace Go.Proofs.Ytghodeggobgclaa
open Go.RowKit Go.Shelf
set_option maxRecDepth 100000 in
set_option maxHeartbeats 4000000 in
theorem stepEn {w0 w : World} {K : Kd} {T : List UInt8} {a s l : Nat} {v : Value} {toks : List Tok} (H : Sc w0 w K T a s l v toks) (htk : toks.length + 1 ≤ a + l) {c : UInt8} {r : List UInt8} (hT : T.drop a = c :: r) (hb0 : isBl c = false) (hr0 : isRm c = false) (hc : isEnd c = true) :
    Calls Try.prog 36 #[.pointer (some ⟨w0.heap.size, 0, none⟩)] w (StepPost w0 K T a s l toks) := by
  obtain ⟨x8, x9, x10, x11, x12⟩ := H.cells
  obtain ⟨f9, f10, f11, f12⟩ := H.frozen
  obtain ⟨k0, k1, k2, k3, k4, k5, k6, k7⟩ := H.kinds
  have hal : a < T.length := by
    rcases Nat.lt_or_ge a T.length with h | h
    · exact h
    · rw [List.drop_eq_nil_of_le h] at hT; cases hT
  have hlr : (c :: r).length = T.length - a := by rw [← hT, List.length_drop]
  have hT6 := H.tT
  have hsz := bs_size T
  have hx : (bs T).extract a T.length = bs (c :: r) := by rw [drop_ext, hT]
  obtain ⟨q0, e0⟩ := bs_at (l := c :: r) (i := 0) (x := c) rfl
  have eg0 := H.kk.bl.1
  have eg1 := H.kk.rm.1
  have eg2 := H.kk.en.1
  have K0 : Hid (∀ W : World, Below w.heap.size w W → Calls Try.prog K.g0 (#[.int .u8 (c.toNat : Int)] ++ K.l0) W fun e w' => e = .returned (.bool (isBl c)) ∧ Below w.heap.size w w') := fun W hb =>
    (H.kk.bl.2 W c (.of 0 (H.bl.trans (hb.mono (Nat.le_of_lt H.lt))))).mono fun e w' h => ⟨h.1, hb.trans (h.2.mono hb.size)⟩
  have K1 : Hid (∀ W : World, Below w.heap.size w W → Calls Try.prog K.g1 (#[.int .u8 (c.toNat : Int)] ++ K.l1) W fun e w' => e = .returned (.bool (isRm c)) ∧ Below w.heap.size w w') := fun W hb =>
    (H.kk.rm.2 W c (.of 0 (H.bl.trans (hb.mono (Nat.le_of_lt H.lt))))).mono fun e w' h => ⟨h.1, hb.trans (h.2.mono hb.size)⟩
  have K2 : Hid (∀ W : World, Below w.heap.size w W → Calls Try.prog K.g2 (#[.int .u8 (c.toNat : Int)] ++ K.l2) W fun e w' => e = .returned (.bool (isEnd c)) ∧ Below w.heap.size w w') := fun W hb =>
    (H.kk.en.2 W c (.of 0 (H.bl.trans (hb.mono (Nat.le_of_lt H.lt))))).mono fun e w' h => ⟨h.1, hb.trans (h.2.mono hb.size)⟩
  rw [hb0] at K0
  rw [hr0] at K1
  rw [hc] at K2
  have KE : Hid (∀ W : World, Below w.heap.size w W → Calls Try.prog 38 #[.pointer (some ⟨w0.heap.size, 0, none⟩)] W fun e w' => e = .returned (.tuple #[]) ∧ ∃ v', Sc w0 w' K T a s l v' (endL toks l (a - s + 1 : Nat))) := fun W hb => endLineF (H.below hb) htk
  have hP : Hid (∀ (W : World) v', Sc w0 W K T a s l v' (endL toks l (a - s + 1 : Nat)) → StepPost w0 K T a s l toks (.returned (.int .i64 0)) (((W.setCell ⟨w0.heap.size, 9, none⟩ (.int .i64 ((a : Int) + 1))).setCell ⟨w0.heap.size, 10, none⟩ (.int .i64 ((a : Int) + 1))).setCell ⟨w0.heap.size, 11, none⟩ (.int .i64 ((l : Int) + 1)))) := fun W v' h => by
    rw [show (a : Int) + 1 = ((a + 1 : Nat) : Int) by omega, show (l : Int) + 1 = ((l + 1 : Nat) : Int) by omega]
    have hl := H.ln
    have he := endL_len toks l (a - s + 1 : Nat)
    refine .inl ⟨rfl, a + 1, a + 1, l + 1, endL toks l (a - s + 1 : Nat), v', ((h.setAt (a + 1) (by omega) (by omega)).setStart).setLine (by omega), by omega, by omega, ?_⟩
    rw [hT, scan_end hb0 hr0 hc, show T.drop (a + 1) = r by rw [← List.drop_drop, hT]; rfl]
    congr 1
    omega
  clear hb0 hr0 hc
  have H' := hide' H
  have hlt := hide' H.lt
  generalize bs (c :: r) = sr at *
  generalize bs T = st at *
  clear H hT htk hlr
  go_enter Try.func36, Try.ntmps36
  go_upto_region 1 with fail
  go_quiet (fail)
  go_wp2_with fail
  refine (K0.out _ (drew_below w nq)).mono ?_
  rintro e w1 ⟨rfl, hb1⟩
  have b1 := hide' hb1
  have H1 := hide' (H'.out.below hb1)
  clear x8 x9 x10 x11 x12 f9 f10 f11 f12 k0 k1 k2 k3 k4 k5 k6 k7 hb1
  obtain ⟨x8, x9, x10, x11, x12⟩ := H1.out.cells
  obtain ⟨f9, f10, f11, f12⟩ := H1.out.frozen
  obtain ⟨k0, k1, k2, k3, k4, k5, k6, k7⟩ := H1.out.kinds
  go_wp2_with fail
  refine (K1.out _ (b1.out)).mono ?_
  rintro e w2 ⟨rfl, hb2⟩
  have b2 := hide' hb2
  have H2 := hide' (H'.out.below hb2)
  clear x8 x9 x10 x11 x12 f9 f10 f11 f12 k0 k1 k2 k3 k4 k5 k6 k7 hb2
  obtain ⟨x8, x9, x10, x11, x12⟩ := H2.out.cells
  obtain ⟨f9, f10, f11, f12⟩ := H2.out.frozen
  obtain ⟨k0, k1, k2, k3, k4, k5, k6, k7⟩ := H2.out.kinds
  go_wp2_with fail
  refine (K2.out _ (b2.out)).mono ?_
  rintro e w3 ⟨rfl, hb3⟩
  have b3 := hide' hb3
  have H3 := hide' (H'.out.below hb3)
  clear x8 x9 x10 x11 x12 f9 f10 f11 f12 k0 k1 k2 k3 k4 k5 k6 k7 hb3
  obtain ⟨x8, x9, x10, x11, x12⟩ := H3.out.cells
  obtain ⟨f9, f10, f11, f12⟩ := H3.out.frozen
  obtain ⟨k0, k1, k2, k3, k4, k5, k6, k7⟩ := H3.out.kinds
  go_wp2_with fail
  refine (KE.out _ b3.out).mono ?_
  rintro e w4 ⟨rfl, v4, h4⟩
  have H4 := hide' h4
  clear x8 x9 x10 x11 x12 f9 f10 f11 f12 k0 k1 k2 k3 k4 k5 k6 k7 h4
  obtain ⟨x8, x9, x10, x11, x12⟩ := H4.out.cells
  obtain ⟨f9, f10, f11, f12⟩ := H4.out.frozen
  have hln := H4.out.ln
  go_wp2_with fail
  go_ret
  exact hP.out w4 v4 H4.out
end Go.Proofs.Ytghodeggobgclaa
