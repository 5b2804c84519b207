/- The document's run: Claim, Done, Abort, Mark, State. -/
import Derived.Test.YtahfobbiaimoiaaGreatDoorJ07
import Derived.Test.YtahfobbiaimoiaaGreatDoorJ15
import Derived.Test.YtahfobbiaimoiaaGreatDoorJ18
import Derived.Deep.RegionHeld3
namespace Go.Proofs.YtahfobbiaimoiaaGreatDoor
open Go.RowKit
/-- What a call that changes a run leaves. -/
def OpR (w : World) (B gr gt : Nat) (nm : ByteArray) (sv rv : Value) (go ct : Nat) (lv : Value) (v : Value) (R' : Rs) (e : Ending) (w' : World) : Prop :=
  e = .returned v ∧ ∃ lv', RnAt w' B gr gt nm sv rv go ct lv' R' ∧ FrR gr gt lv w w' ∧ NwL w.heap.size lv lv'
section
variable {w : World} {B gr gt : Nat} {nm : ByteArray} {sv rv : Value} {go ct : Nat} {lv : Value} {R : Rs} {gp gs : Nat} {Pf Sf : Nat → Nat}
theorem OpR.same (h : RnAt w B gr gt nm sv rv go ct lv R) {w' : World} (hb : Below w.heap.size w w') (v : Value) : OpR w B gr gt nm sv rv go ct lv v R (.returned v) w' := ⟨rfl, lv, h.over hb, .of_below hb, NwL.refl _ _⟩
theorem OpR.of_hap {W w' : World} (hb : Below w.heap.size w W) {R' : Rs} {x : Ending} (h : HapR W B gr gt nm sv rv go ct lv R' x w') (v : Value) : OpR w B gr gt nm sv rv go ct lv v R' (.returned v) w' := by
  obtain ⟨_, l, h1, h2, h3⟩ := h
  exact ⟨rfl, l, h1, (FrR.of_below hb).trans h2 (NwL.refl _ _), (NwL.refl w.heap.size lv).trans h3 hb.size⟩
theorem canC_end (h : endd R = true) (step : Int) : canC Pf R step = 30 := by unfold canC; rw [if_pos h]
theorem canC_has {step : Int} (h : endd R = false) (h2 : hasS R step = false) : canC Pf R step = 25 := by unfold canC; rw [if_neg (by rw [h]; decide), if_pos h2]
theorem canC_st {step : Int} (h : endd R = false) (h2 : hasS R step = true) (h3 : (sAt R step).st ≠ 0) : canC Pf R step = 31 := by unfold canC; rw [if_neg (by rw [h]; decide), if_neg (by rw [h2]; decide), if_pos h3]
theorem canC_ord {step : Int} (h : endd R = false) (h2 : hasS R step = true) (h3 : (sAt R step).st = 0) (h4 : Pf step.toNat &&& (18446744073709551615 - thz R.S 2) ≠ 0) : canC Pf R step = 32 := by unfold canC; rw [if_neg (by rw [h]; decide), if_neg (by rw [h2]; decide), if_neg (by rw [h3]; decide), if_pos h4]
theorem canC_ok {step : Int} (h : endd R = false) (h2 : hasS R step = true) (h3 : (sAt R step).st = 0) (h4 : Pf step.toNat &&& (18446744073709551615 - thz R.S 2) = 0) : canC Pf R step = 0 := by unfold canC; rw [if_neg (by rw [h]; decide), if_neg (by rw [h2]; decide), if_neg (by rw [h3]; decide), if_neg (by rw [h4]; decide)]
set_option maxRecDepth 100000 in
set_option maxHeartbeats 4000000 in
theorem claimF (h : RnAt w B gr gt nm sv rv go ct lv R) (ho : O.OrdAt w go gp gs R.S.length Pf Sf) (hn : R.S.length ≤ 64) (hP : ∀ a, a < R.S.length → Pf a < 18446744073709551616) (hl : R.log.length ≤ 100000) (hB : B ≤ w.heap.size) (step user tick : Int) :
    Calls Tryz.prog 34 #[.pointer (some ⟨gr, 0, none⟩), .int .i64 step, .int .i64 user, .int .i64 tick] w (OpR w B gr gt nm sv rv go ct lv (.int .i64 (canC Pf R step)) (clmR Pf R step user tick)) := by
  have KE := hide' (endedF h)
  have KH := hide' (hasF h step)
  have hQ : Hid (∀ z, z ≠ 0 → canC Pf R step = z → ∀ w', Below w.heap.size w w' → OpR w B gr gt nm sv rv go ct lv (.int .i64 (canC Pf R step)) (clmR Pf R step user tick) (.returned (.int .i64 z)) w') := fun z h0 e w' hb => by
    rw [show clmR Pf R step user tick = R by unfold clmR; rw [if_neg (by rw [e]; exact h0)], e]
    exact OpR.same h hb _
  have hQ2 : Hid (canC Pf R step = 0 → ∀ W x w', Below w.heap.size w W → HapR W B gr gt nm sv rv go ct lv (hapC R step user tick) x w' → OpR w B gr gt nm sv rv go ct lv (.int .i64 (canC Pf R step)) (clmR Pf R step user tick) (.returned (.int .i64 0)) w') := fun e W x w' hb hh => by
    rw [show clmR Pf R step user tick = hapC R step user tick by unfold clmR; rw [if_pos e], e]
    exact OpR.of_hap hb hh _
  cases he : endd R with
  | true =>
    have hF := hide' (hQ.out 30 (by decide) (canC_end he step) w (Below.refl _ _))
    rw [he] at KE
    clear hQ hQ2 h ho hP he KH
    generalize OpR w B gr gt nm sv rv go ct lv (.int .i64 (canC Pf R step)) (clmR Pf R step user tick) = QQ at *
    go_enter Tryz.func34, Tryz.ntmps34
    go_wp2_with (go_at_call 54; refine KE.out.mono ?_; rintro e w1 ⟨rfl, hw⟩; obtain rfl : w = w1 := hw.symm)
    exact hF.out
  | false =>
  rw [he] at KE
  cases hh : hasS R step with
  | false =>
    have hF := hide' (hQ.out 25 (by decide) (canC_has he hh) w (Below.refl _ _))
    rw [hh] at KH
    clear hQ hQ2 h ho hP he hh
    generalize OpR w B gr gt nm sv rv go ct lv (.int .i64 (canC Pf R step)) (clmR Pf R step user tick) = QQ at *
    go_enter Tryz.func34, Tryz.ntmps34
    go_wp2_with (first | (go_at_call 54; refine KE.out.mono ?_; rintro e w1 ⟨rfl, hw⟩; obtain rfl : w = w1 := hw.symm) | (go_at_call 53; refine KH.out.mono ?_; rintro e w1 ⟨rfl, hw⟩; obtain rfl : w = w1 := hw.symm))
    exact hF.out
  | true =>
  rw [hh] at KH
  obtain ⟨g0, g1, g2⟩ := hasS_iff hh
  have c3 := h.c3
  have c4 := h.c4
  have hcap := h.cap
  obtain ⟨u0, u1, u2, u3⟩ := h.at (sAt_some hh)
  by_cases h3 : (sAt R step).st = 0
  · have KP := hide' (O.predsT ho g1)
    have KT : Hid (∀ W, Below w.heap.size w W → Calls Tryz.prog 56 #[.pointer (some ⟨gr, 0, none⟩), .int .i64 2] W fun e w' => e = .returned (.int .u64 (thz R.S 2 : Int)) ∧ Below W.heap.size W w') := fun W hW => thoseF (h.over hW) 2 (by omega)
    have hd := thz_lt R.S 2 hn
    have hp := hP _ g1
    have hand := u64_andNot_nat (Pf step.toNat) (thz R.S 2) hp hd
    have KA : Hid (∀ W, Below w.heap.size w W → Calls Tryz.prog 68 #[.pointer (some ⟨gr, 0, none⟩), .agg #[.int .i64 tick, .int .i64 2, .int .i64 step, .int .i64 user]] W (HapR W B gr gt nm sv rv go ct lv (hapC R step user tick))) := fun W hW => hapF (h.over hW) ⟨tick, 2, step, user⟩ _ (.inr (.inr (.inr (.inl ⟨rfl, hh, rfl⟩)))) hl (Nat.le_trans hB hW.size) (by omega)
    have hQ3 : Hid (Pf step.toNat &&& (18446744073709551615 - thz R.S 2) ≠ 0 → ∀ w', Below w.heap.size w w' → OpR w B gr gt nm sv rv go ct lv (.int .i64 (canC Pf R step)) (clmR Pf R step user tick) (.returned (.int .i64 32)) w') := fun h4 => hQ.out 32 (by decide) (canC_ord he hh h3 h4)
    have hQ4 : Hid (Pf step.toNat &&& (18446744073709551615 - thz R.S 2) = 0 → ∀ W x w', Below w.heap.size w W → HapR W B gr gt nm sv rv go ct lv (hapC R step user tick) x w' → OpR w B gr gt nm sv rv go ct lv (.int .i64 (canC Pf R step)) (clmR Pf R step user tick) (.returned (.int .i64 0)) w') := fun h4 => hQ2.out (canC_ok he hh h3 h4)
    rw [h3] at u0
    clear hQ hQ2 h ho hP he hh h3
    generalize OpR w B gr gt nm sv rv go ct lv (.int .i64 (canC Pf R step)) (clmR Pf R step user tick) = QQ at *
    generalize Pf step.toNat &&& (18446744073709551615 - thz R.S 2) = y at *
    generalize thz R.S 2 = d at *
    generalize hapC R step user tick = RC at *
    generalize Pf step.toNat = p at *
    generalize step.toNat = k at *
    subst g2
    by_cases hy : y = 0
    · subst hy
      go_enter Tryz.func34, Tryz.ntmps34
      go_wp2_with (first | (go_at_call 54; refine KE.out.mono ?_; rintro e w1 ⟨rfl, hw⟩; obtain rfl : w = w1 := hw.symm) | (go_at_call 53; refine KH.out.mono ?_; rintro e w1 ⟨rfl, hw⟩; obtain rfl : w = w1 := hw.symm) | (go_at_call 67; refine KP.out.mono ?_; rintro e w2 ⟨rfl, hb2⟩) | (go_at_call 56; refine (KT.out _ hb2).mono ?_; rintro e w3 ⟨rfl, hb3⟩))
      have hb' := hide' (hb2.trans (hb3.mono hb2.size))
      refine (KA.out _ hb'.out).mono ?_
      rintro x w4 hX
      obtain rfl := hX.1
      have hF := hide' (hQ4.out (by first | trivial | rfl) _ _ _ hb'.out hX)
      clear hQ3 hQ4 KA KT KP hX hb2 hb3 hb'
      go_wp2
      exact hF.out
    · have hy' : ((y : Int) == 0) = false := by rw [beq_eq_false_iff_ne]; omega
      have hF0 := hide' (hQ3.out hy)
      clear hQ3 hQ4 KA hy
      go_enter Tryz.func34, Tryz.ntmps34
      go_wp2_with (first | (go_at_call 54; refine KE.out.mono ?_; rintro e w1 ⟨rfl, hw⟩; obtain rfl : w = w1 := hw.symm) | (go_at_call 53; refine KH.out.mono ?_; rintro e w1 ⟨rfl, hw⟩; obtain rfl : w = w1 := hw.symm) | (go_at_call 67; refine KP.out.mono ?_; rintro e w2 ⟨rfl, hb2⟩) | (go_at_call 56; refine (KT.out _ hb2).mono ?_; rintro e w3 ⟨rfl, hb3⟩))
      exact hF0.out _ (hb2.trans (hb3.mono hb2.size))
  · have hF := hide' (hQ.out 31 (by decide) (canC_st he hh h3) w (Below.refl _ _))
    have h3' : ((sAt R step).st == 0) = false := by rw [beq_eq_false_iff_ne]; exact h3
    clear hQ hQ2 h ho hP he hh h3
    generalize OpR w B gr gt nm sv rv go ct lv (.int .i64 (canC Pf R step)) (clmR Pf R step user tick) = QQ at *
    generalize (sAt R step).st = t0 at *
    generalize step.toNat = k at *
    subst g2
    go_enter Tryz.func34, Tryz.ntmps34
    go_wp2_with (first | (go_at_call 54; refine KE.out.mono ?_; rintro e w1 ⟨rfl, hw⟩; obtain rfl : w = w1 := hw.symm) | (go_at_call 53; refine KH.out.mono ?_; rintro e w1 ⟨rfl, hw⟩; obtain rfl : w = w1 := hw.symm))
    exact hF.out
theorem canD_end (h : endd R = true) (step user : Int) : canD R step user = 30 := by unfold canD; rw [if_pos h]
theorem canD_has {step user : Int} (h : endd R = false) (h2 : hasS R step = false) : canD R step user = 25 := by unfold canD; rw [if_neg (by rw [h]; decide), if_pos h2]
theorem canD_un {step user : Int} (h : endd R = false) (h2 : hasS R step = true) (h3 : (sAt R step).st = 0) : canD R step user = 35 := by unfold canD; rw [if_neg (by rw [h]; decide), if_neg (by rw [h2]; decide), if_pos h3]
theorem canD_dn {step user : Int} (h : endd R = false) (h2 : hasS R step = true) (h3 : (sAt R step).st = 2) : canD R step user = 37 := by unfold canD; rw [if_neg (by rw [h]; decide), if_neg (by rw [h2]; decide), if_neg (by rw [h3]; decide), if_pos h3]
theorem canD_us {step user : Int} (h : endd R = false) (h2 : hasS R step = true) (h3 : (sAt R step).st ≠ 0) (h4 : (sAt R step).st ≠ 2) (h5 : (sAt R step).us ≠ user) : canD R step user = 36 := by unfold canD; rw [if_neg (by rw [h]; decide), if_neg (by rw [h2]; decide), if_neg h3, if_neg h4, if_pos h5]
theorem canD_ok {step user : Int} (h : endd R = false) (h2 : hasS R step = true) (h3 : (sAt R step).st ≠ 0) (h4 : (sAt R step).st ≠ 2) (h5 : (sAt R step).us = user) : canD R step user = 0 := by unfold canD; rw [if_neg (by rw [h]; decide), if_neg (by rw [h2]; decide), if_neg h3, if_neg h4, if_neg (by rw [h5]; simp)]
set_option maxRecDepth 100000 in
set_option maxHeartbeats 4000000 in
theorem doneF (h : RnAt w B gr gt nm sv rv go ct lv R) (hn : R.S.length ≤ 64) (hl : R.log.length ≤ 100000) (hB : B ≤ w.heap.size) (step user tick : Int) :
    Calls Tryz.prog 35 #[.pointer (some ⟨gr, 0, none⟩), .int .i64 step, .int .i64 user, .int .i64 tick] w (OpR w B gr gt nm sv rv go ct lv (.int .i64 (canD R step user)) (donR R step user tick)) := by
  have KE := hide' (endedF h)
  have KH := hide' (hasF h step)
  have hQ : Hid (∀ z, z ≠ 0 → canD R step user = z → OpR w B gr gt nm sv rv go ct lv (.int .i64 (canD R step user)) (donR R step user tick) (.returned (.int .i64 z)) w) := fun z h0 e => by
    rw [show donR R step user tick = R by unfold donR; rw [if_neg (by rw [e]; exact h0)], e]
    exact OpR.same h (Below.refl _ _) _
  have hQ2 : Hid (canD R step user = 0 → ∀ x w', HapR w B gr gt nm sv rv go ct lv (hapD R step user tick) x w' → OpR w B gr gt nm sv rv go ct lv (.int .i64 (canD R step user)) (donR R step user tick) (.returned (.int .i64 0)) w') := fun e x w' hh => by
    rw [show donR R step user tick = hapD R step user tick by unfold donR; rw [if_pos e], e]
    exact OpR.of_hap (Below.refl _ _) hh _
  cases he : endd R with
  | true =>
    have hF := hide' (hQ.out 30 (by decide) (canD_end he step user))
    rw [he] at KE
    clear hQ hQ2 h he KH
    generalize OpR w B gr gt nm sv rv go ct lv (.int .i64 (canD R step user)) (donR R step user tick) = QQ at *
    go_enter Tryz.func35, Tryz.ntmps35
    go_wp2_with (go_at_call 54; refine KE.out.mono ?_; rintro e w1 ⟨rfl, hw⟩; obtain rfl : w = w1 := hw.symm)
    exact hF.out
  | false =>
  rw [he] at KE
  cases hh : hasS R step with
  | false =>
    have hF := hide' (hQ.out 25 (by decide) (canD_has he hh))
    rw [hh] at KH
    clear hQ hQ2 h he hh
    generalize OpR w B gr gt nm sv rv go ct lv (.int .i64 (canD R step user)) (donR R step user tick) = QQ at *
    go_enter Tryz.func35, Tryz.ntmps35
    go_wp2_with (first | (go_at_call 54; refine KE.out.mono ?_; rintro e w1 ⟨rfl, hw⟩; obtain rfl : w = w1 := hw.symm) | (go_at_call 53; refine KH.out.mono ?_; rintro e w1 ⟨rfl, hw⟩; obtain rfl : w = w1 := hw.symm))
    exact hF.out
  | true =>
  rw [hh] at KH
  obtain ⟨g0, g1, g2⟩ := hasS_iff hh
  have c4 := h.c4
  have hcap := h.cap
  obtain ⟨u0, u1, u2, u3⟩ := h.at (sAt_some hh)
  have KA : Hid (Calls Tryz.prog 68 #[.pointer (some ⟨gr, 0, none⟩), .agg #[.int .i64 tick, .int .i64 3, .int .i64 step, .int .i64 user]] w (HapR w B gr gt nm sv rv go ct lv (hapD R step user tick))) := hapF h ⟨tick, 3, step, user⟩ _ (.inr (.inr (.inr (.inr ⟨rfl, hh, rfl⟩)))) hl hB (by omega)
  have q0 : Hid ((sAt R step).st = 0 → canD R step user = 35) := fun h3 => canD_un he hh h3
  have q1 : Hid ((sAt R step).st = 2 → canD R step user = 37) := fun h3 => canD_dn he hh h3
  have q2 : Hid ((sAt R step).st ≠ 0 → (sAt R step).st ≠ 2 → (sAt R step).us ≠ user → canD R step user = 36) := fun h3 h4 h5 => canD_us he hh h3 h4 h5
  have q3 : Hid ((sAt R step).st ≠ 0 → (sAt R step).st ≠ 2 → (sAt R step).us = user → canD R step user = 0) := fun h3 h4 h5 => canD_ok he hh h3 h4 h5
  clear h he hh
  generalize OpR w B gr gt nm sv rv go ct lv (.int .i64 (canD R step user)) (donR R step user tick) = QQ at *
  generalize canD R step user = cz at *
  generalize hapD R step user tick = RD at *
  generalize (sAt R step).st = t0 at *
  generalize (sAt R step).us = t1 at *
  generalize (sAt R step).ca = t2 at *
  generalize (sAt R step).da = t3 at *
  generalize step.toNat = k at *
  subst g2
  by_cases h0 : t0 = 0
  · subst h0
    have hF := hide' (hQ.out 35 (by decide) (q0.out rfl))
    clear hQ hQ2 KA q0 q1 q2 q3
    go_enter Tryz.func35, Tryz.ntmps35
    go_wp2_with (first | (go_at_call 54; refine KE.out.mono ?_; rintro e w1 ⟨rfl, hw⟩; obtain rfl : w = w1 := hw.symm) | (go_at_call 53; refine KH.out.mono ?_; rintro e w1 ⟨rfl, hw⟩; obtain rfl : w = w1 := hw.symm))
    exact hF.out
  have h0' : (t0 == 0) = false := by rw [beq_eq_false_iff_ne]; exact h0
  by_cases h2 : t0 = 2
  · subst h2
    have hF := hide' (hQ.out 37 (by decide) (q1.out rfl))
    clear hQ hQ2 KA q0 q1 q2 q3
    go_enter Tryz.func35, Tryz.ntmps35
    go_wp2_with (first | (go_at_call 54; refine KE.out.mono ?_; rintro e w1 ⟨rfl, hw⟩; obtain rfl : w = w1 := hw.symm) | (go_at_call 53; refine KH.out.mono ?_; rintro e w1 ⟨rfl, hw⟩; obtain rfl : w = w1 := hw.symm))
    exact hF.out
  have h2' : (t0 == 2) = false := by rw [beq_eq_false_iff_ne]; exact h2
  by_cases h5 : t1 = user
  · have hc := q3.out h0 h2 h5
    subst h5
    have hF0 := hide' (hQ2.out hc)
    clear hQ hQ2 q0 q1 q2 q3 hc h0 h2
    go_enter Tryz.func35, Tryz.ntmps35
    go_wp2_with (first | (go_at_call 54; refine KE.out.mono ?_; rintro e w1 ⟨rfl, hw⟩; obtain rfl : w = w1 := hw.symm) | (go_at_call 53; refine KH.out.mono ?_; rintro e w1 ⟨rfl, hw⟩; obtain rfl : w = w1 := hw.symm))
    refine KA.out.mono ?_
    rintro x w4 hX
    obtain rfl := hX.1
    have hF := hide' (hF0.out _ _ hX)
    clear KA hX hF0
    go_wp2
    exact hF.out
  · have h5' : (t1 == user) = false := by rw [beq_eq_false_iff_ne]; exact h5
    have hF := hide' (hQ.out 36 (by decide) (q2.out h0 h2 h5))
    clear hQ hQ2 KA q0 q1 q2 q3 h5 h0 h2
    go_enter Tryz.func35, Tryz.ntmps35
    go_wp2_with (first | (go_at_call 54; refine KE.out.mono ?_; rintro e w1 ⟨rfl, hw⟩; obtain rfl : w = w1 := hw.symm) | (go_at_call 53; refine KH.out.mono ?_; rintro e w1 ⟨rfl, hw⟩; obtain rfl : w = w1 := hw.symm))
    exact hF.out
set_option maxRecDepth 100000 in
set_option maxHeartbeats 4000000 in
theorem abortF (h : RnAt w B gr gt nm sv rv go ct lv R) (hn : R.S.length ≤ 64) (hl : R.log.length ≤ 100000) (hB : B ≤ w.heap.size) (tick : Int) :
    Calls Tryz.prog 66 #[.pointer (some ⟨gr, 0, none⟩), .int .i64 tick] w (OpR w B gr gt nm sv rv go ct lv (.int .i64 (if endd R = true then 30 else 0)) (aboR R tick)) := by
  have KE := hide' (endedF h)
  cases he : endd R with
  | true =>
    have hF : Hid (OpR w B gr gt nm sv rv go ct lv (.int .i64 (if true = true then 30 else 0)) (aboR R tick) (.returned (.int .i64 30)) w) := by
      rw [show aboR R tick = R by unfold aboR; rw [if_pos he]]
      exact OpR.same h (Below.refl _ _) _
    rw [he] at KE
    clear h he
    generalize OpR w B gr gt nm sv rv go ct lv (.int .i64 (if true = true then 30 else 0)) (aboR R tick) = QQ at *
    go_enter Tryz.func66, Tryz.ntmps66
    go_wp2_with (go_at_call 54; refine KE.out.mono ?_; rintro e w1 ⟨rfl, hw⟩; obtain rfl : w = w1 := hw.symm)
    exact hF.out
  | false =>
    have KA : Hid (∀ W, Below w.heap.size w W → Calls Tryz.prog 68 #[.pointer (some ⟨gr, 0, none⟩), .agg #[.int .i64 tick, .int .i64 4, .int .i64 (-1), .int .i64 (-1)]] W (HapR W B gr gt nm sv rv go ct lv (hapS R 4 ⟨tick, 4, -1, -1⟩))) := fun W hW => hapF (h.over hW) ⟨tick, 4, -1, -1⟩ _ (.inr (.inr (.inl ⟨rfl, rfl⟩))) hl (Nat.le_trans hB hW.size) (by omega)
    have hF0 : Hid (∀ W x w', Below w.heap.size w W → HapR W B gr gt nm sv rv go ct lv (hapS R 4 ⟨tick, 4, -1, -1⟩) x w' → OpR w B gr gt nm sv rv go ct lv (.int .i64 (if false = true then 30 else 0)) (aboR R tick) (.returned (.int .i64 0)) w') := fun W x w' hb hh => by
      rw [show aboR R tick = hapS R 4 ⟨tick, 4, -1, -1⟩ by unfold aboR; rw [he]; rfl]
      exact OpR.of_hap hb hh _
    have KO : Hid (Calls Tryz.prog 69 #[.int .i64 4, .int .i64 tick] w fun x w' => x = .returned (.agg #[.int .i64 tick, .int .i64 4, .int .i64 (-1), .int .i64 (-1)]) ∧ Below w.heap.size w w') := ofNoStepF 4 tick w
    rw [he] at KE
    clear h he
    generalize OpR w B gr gt nm sv rv go ct lv (.int .i64 (if false = true then 30 else 0)) (aboR R tick) = QQ at *
    generalize hapS R 4 ⟨tick, 4, -1, -1⟩ = RA at *
    go_enter Tryz.func66, Tryz.ntmps66
    go_wp2_with (first | (go_at_call 54; refine KE.out.mono ?_; rintro e w1 ⟨rfl, hw⟩; obtain rfl : w = w1 := hw.symm) | (go_at_call 69; refine KO.out.mono ?_; rintro e w2 ⟨rfl, hb2⟩))
    refine (KA.out _ hb2).mono ?_
    rintro x w4 hX
    obtain rfl := hX.1
    have hF := hide' (hF0.out _ _ _ hb2 hX)
    clear KA KO hX hF0 hb2
    go_wp2
    exact hF.out
set_option maxRecDepth 100000 in
set_option maxHeartbeats 4000000 in
theorem markF (h : RnAt w B gr gt nm sv rv go ct lv R) (hn : R.S.length ≤ 64) (hl : R.log.length ≤ 100000) (hB : B ≤ w.heap.size) (b : Bool) (tick : Int) :
    Calls Tryz.prog 36 #[.pointer (some ⟨gr, 0, none⟩), .bool b, .int .i64 tick] w (OpR w B gr gt nm sv rv go ct lv (.bool (mrkB R b)) (mrkR R b tick)) := by
  have KE := hide' (endedF h)
  have c5 := h.c5
  have hF1 : Hid (mrkB R b = false → OpR w B gr gt nm sv rv go ct lv (.bool (mrkB R b)) (mrkR R b tick) (.returned (.bool false)) w) := fun hm => by
    rw [show mrkR R b tick = R by unfold mrkR; rw [hm]; rfl, hm]
    exact OpR.same h (Below.refl _ _) _
  have hF2 : Hid (mrkB R b = true → ∀ W x w', Below w.heap.size w W → HapR W B gr gt nm sv rv go ct lv (hapS R (if b then 2 else 1) ⟨tick, if b then 5 else 6, -1, -1⟩) x w' → OpR w B gr gt nm sv rv go ct lv (.bool (mrkB R b)) (mrkR R b tick) (.returned (.bool true)) w') := fun hm W x w' hb hh => by
    rw [show mrkR R b tick = hapS R (if b then 2 else 1) ⟨tick, if b then 5 else 6, -1, -1⟩ by unfold mrkR; rw [if_pos hm], hm]
    exact OpR.of_hap hb hh _
  have KA : Hid (∀ W, Below w.heap.size w W → Calls Tryz.prog 68 #[.pointer (some ⟨gr, 0, none⟩), .agg #[.int .i64 tick, .int .i64 (if b then 5 else 6), .int .i64 (-1), .int .i64 (-1)]] W (HapR W B gr gt nm sv rv go ct lv (hapS R (if b then 2 else 1) ⟨tick, if b then 5 else 6, -1, -1⟩))) := fun W hW => hapF (h.over hW) ⟨tick, if b then 5 else 6, -1, -1⟩ _ (by cases b; exact .inl ⟨.inr rfl, rfl⟩; exact .inr (.inl ⟨rfl, rfl⟩)) hl (Nat.le_trans hB hW.size) (by omega)
  have KO : Hid (Calls Tryz.prog 69 #[.int .i64 (if b then 5 else 6), .int .i64 tick] w fun x w' => x = .returned (.agg #[.int .i64 tick, .int .i64 (if b then 5 else 6), .int .i64 (-1), .int .i64 (-1)]) ∧ Below w.heap.size w w') := ofNoStepF _ tick w
  have hm : Hid (mrkB R b = (!(endd R) && !(b == decide (R.stat = 2)))) := rfl
  clear h
  generalize OpR w B gr gt nm sv rv go ct lv (.bool (mrkB R b)) (mrkR R b tick) = QQ at *
  generalize hapS R (if b then 2 else 1) ⟨tick, if b then 5 else 6, -1, -1⟩ = RA at *
  generalize mrkB R b = mb at *
  cases he : endd R with
  | true =>
    rw [he] at KE hm
    have hF := hide' (hF1.out hm.out)
    clear hF1 hF2 KA KO he hm
    go_enter Tryz.func36, Tryz.ntmps36
    go_wp2_with (go_at_call 54; refine KE.out.mono ?_; rintro e w1 ⟨rfl, hw⟩; obtain rfl : w = w1 := hw.symm)
    exact hF.out
  | false =>
    rw [he] at KE hm
    clear he
    by_cases h2 : R.stat = 2
    · rw [h2] at c5
      have e2 : decide (R.stat = 2) = true := decide_eq_true h2
      rw [e2] at hm
      clear e2 h2
      cases b with
      | true =>
        have hF := hide' (hF1.out hm.out)
        clear hF1 hF2 KA KO hm
        go_enter Tryz.func36, Tryz.ntmps36
        go_wp2_with (go_at_call 54; refine KE.out.mono ?_; rintro e w1 ⟨rfl, hw⟩; obtain rfl : w = w1 := hw.symm)
        exact hF.out
      | false =>
        have hF0 := hide' (hF2.out hm.out)
        clear hF1 hF2 hm
        simp only [Bool.false_eq_true, if_false] at KO KA
        go_enter Tryz.func36, Tryz.ntmps36
        go_wp2_with (first | (go_at_call 54; refine KE.out.mono ?_; rintro e w1 ⟨rfl, hw⟩; obtain rfl : w = w1 := hw.symm) | (go_at_call 69; refine KO.out.mono ?_; rintro e w2 ⟨rfl, hb2⟩))
        refine (KA.out _ hb2).mono ?_
        rintro x w4 hX
        obtain rfl := hX.1
        have hF := hide' (hF0.out _ _ _ hb2 hX)
        clear KA KO hX hF0 hb2
        go_wp2
        exact hF.out
    · have h2' : (R.stat == 2) = false := by rw [beq_eq_false_iff_ne]; exact h2
      have e2 : decide (R.stat = 2) = false := decide_eq_false h2
      rw [e2] at hm
      clear e2 h2
      cases b with
      | false =>
        have hF := hide' (hF1.out hm.out)
        clear hF1 hF2 KA KO hm
        go_enter Tryz.func36, Tryz.ntmps36
        go_wp2_with (go_at_call 54; refine KE.out.mono ?_; rintro e w1 ⟨rfl, hw⟩; obtain rfl : w = w1 := hw.symm)
        exact hF.out
      | true =>
        have hF0 := hide' (hF2.out hm.out)
        clear hF1 hF2 hm
        simp only [if_true] at KO KA
        go_enter Tryz.func36, Tryz.ntmps36
        go_wp2_with (first | (go_at_call 54; refine KE.out.mono ?_; rintro e w1 ⟨rfl, hw⟩; obtain rfl : w = w1 := hw.symm) | (go_at_call 69; refine KO.out.mono ?_; rintro e w2 ⟨rfl, hb2⟩))
        refine (KA.out _ hb2).mono ?_
        rintro x w4 hX
        obtain rfl := hX.1
        have hF := hide' (hF0.out _ _ _ hb2 hX)
        clear KA KO hX hF0 hb2
        go_wp2
        exact hF.out
end
end Go.Proofs.YtahfobbiaimoiaaGreatDoor
namespace Go.Proofs.YtahfobbiaimoiaaGreatDoor
open Go.RowKit
section
variable {w : World} {B gd gt : Nat} {nm : ByteArray} {sv rv : Value} {go ct : Nat} {ev : Value} {S : List SS} {L : List Ev} {sk : Bool} {en : Int}
def EvR (w : World) (B gd gt : Nat) (nm : ByteArray) (sv rv : Value) (go ct : Nat) (ev : Value) (S : List SS) (L : List Ev) (sk : Bool) (en : Int) (x : Ending) (w' : World) : Prop :=
  x = .returned (.tuple #[]) ∧ ∃ ev', RzAt w' B gd gt nm sv rv go ct ev' S L sk en ∧ FrR gd gt ev w w' ∧ NwL w.heap.size ev ev'
theorem RzAt.grown5 {W w2 : World} (h : RzAt W B gd gt nm sv rv go ct ev S L sk en) (hg : W.grownBy w2 ev.ownBlock) : w2.frozen? ⟨gd, 5, none⟩ = false ∧ w2.cell? ⟨gd, 5, none⟩ = some ev := by
  have k1 : w2.heap[gd]? = W.heap[gd]? := hg.block gd h.lt fun e2 => kind_ne h.lg h.ob (by decide) e2.symm
  have ob2 := k1.trans h.ob
  exact ⟨by simp [World.frozen?, ob2], by simp [World.cell?, ob2]⟩
set_option maxRecDepth 100000 in
set_option maxHeartbeats 1000000 in
theorem eventD (h : RzAt w B gd gt nm sv rv go ct ev S L sk en) (hl : L.length ≤ 100000) (hB : B ≤ w.heap.size) (e : Ev) :
    Calls Tryz.prog 85 #[.pointer (some ⟨gd, 0, none⟩), .int .i64 e.tick, .int .i64 e.kind, .int .i64 e.step, .int .i64 e.user] w (EvR w B gd gt nm sv rv go ct ev S (L ++ [e]) sk en) := by
  obtain ⟨c3, c4, c5, c6, c7⟩ := h.cs
  have H := hide' h
  obtain ⟨ol, cl, rfl⟩ := own_shp h.lg
  have hQ : Hid (∀ g cap w2, w2.ownsRow B 76 4 (.slice (some ⟨g, 0, none⟩) (L.length + 1) cap) (L.length + 1) (cellsEv L ++ evcells e) → w.grownBy w2 (Value.slice ol L.length cl).ownBlock → ((Value.slice ol L.length cl).ownBlock = some g ∨ w.heap.size ≤ g) → EvR w B gd gt nm sv rv go ct (.slice ol L.length cl) S (L ++ [e]) sk en (.returned (.tuple #[])) (w2.setCell ⟨gd, 5, none⟩ (.slice (some ⟨g, 0, none⟩) (L.length + 1) cap))) := fun g cap w2 h1 h2 h3 => by
    obtain ⟨p1, p2, p3⟩ := H.out.push e h1 h2 h3
    exact ⟨rfl, _, p1, p2, p3⟩
  clear h
  generalize EvR w B gd gt nm sv rv go ct (.slice ol L.length cl) S (L ++ [e]) sk en = QQ at *
  go_enter Tryz.func85, Tryz.ntmps85
  go_wp2_with (at_builtin; refine app1L elE rfl (.tmp 14) (.tmp 20) rfl B w (.slice ol L.length cl) L.length (cellsEv L) (evcells e) rfl rfl H.out.lg rfl (evone e) hB (by omega) ?_; intro g cap w2 hown hgr hnw; obtain ⟨f5, d5⟩ := H.out.grown5 hgr; have hF := hide' (hQ.out g cap w2 hown hgr hnw); clear hown hgr hnw)
  go_end0
  exact hF.out
set_option maxRecDepth 100000 in
set_option maxHeartbeats 2000000 in
theorem completedD (h : RzAt w B gd gt nm sv rv go ct ev S L sk en) (hn : S.length ≤ 64) :
    Calls Tryz.prog 99 #[.pointer (some ⟨gd, 0, none⟩)] w fun e w' => e = .returned (.int .u64 (thz S 2 : Int)) ∧ w' = w := by
  obtain ⟨c3, c4, c5, c6, c7⟩ := h.cs
  have hA : Hid (∀ i s, S[i]? = some s → w.cell? ⟨gt, i * 4, none⟩ = some (.int .i64 s.st)) := fun i s hs => (h.at hs).1
  have hcap := h.cap
  clear h
  unfold thz
  go_enter Tryz.func99, Tryz.ntmps99
  go_wp2
  go_loop [3, 4] (fun v j => ∃ (c : Nat), c ≤ S.length ∧ j = .int .i64 c ∧ v = .int .u64 (O.accB (thB S 2) c : Nat)) (fun _ j => ((S.length : Int) - intOf j).toNat)
  case atStart => exact ⟨0, Nat.zero_le _, rfl, rfl⟩
  case round =>
    obtain ⟨c, hcl, rfl, rfl⟩ := hrel
    have hlt0 := O.accB_lt (thB S 2) (k := c) (by omega)
    have hN := hide' (accB_next (thB S 2) c)
    by_cases hlt : c < S.length
    · obtain ⟨s, hx⟩ : ∃ x, S[c]? = some x := ⟨_, List.getElem?_eq_getElem hlt⟩
      have a0 := hA.out c s hx
      have hth : Hid (thB S 2 c = decide (s.st = 2)) := by show _ = _; unfold thB; rw [hx]; simp
      rw [hth.out] at hN
      have hsh := O.shlc c (by omega)
      have hpw : (2 ^ c : Nat) < 18446744073709551616 := Nat.lt_of_lt_of_le (Nat.pow_lt_pow_right (by decide) (show c < 64 by omega)) (by decide)
      have hor := u64_or_nat (O.accB (thB S 2) c) (2 ^ c) hlt0 hpw
      generalize hy : O.accB (thB S 2) (c + 1) = y at *
      have hy' := hide' hy
      clear hA hx hth hy
      generalize s.st = t0 at *
      by_cases e : t0 = 2
      · subst e
        have hq : y = O.accB (thB S 2) c ||| 2 ^ c := by rw [hN.out]; simp
        rw [← hq] at hor
        clear hN hq hlt0
        generalize O.accB (thB S 2) c = x at *
        generalize 2 ^ c = pw at *
        go_wp2
        go_round
        case rel => exact ⟨c + 1, by omega, by go_num, by rw [hy'.out]⟩
        case measure => simp [intOf]; omega
      · have e' : (t0 == 2) = false := by rw [beq_eq_false_iff_ne]; exact e
        have hq : Hid (y = O.accB (thB S 2) c) := by show _ = _; rw [hN.out]; simp [e]
        clear hN hor hsh hpw
        go_wp2
        go_round
        case rel => exact ⟨c + 1, by omega, by go_num, by rw [hy'.out, hq.out]⟩
        case measure => simp [intOf]; omega
    · obtain rfl : c = S.length := by omega
      clear hA hN
      go_wp2
      go_ret
      exact ⟨rfl, rfl⟩
set_option maxRecDepth 100000 in
set_option maxHeartbeats 2000000 in
theorem leftD (h : RzAt w B gd gt nm sv rv go ct ev S L sk en) (hn : S.length ≤ 1000) (hst : ∀ (i : Nat) (s : SS), S[i]? = some s → s.st = 0 ∨ s.st = 1 ∨ s.st = 2) :
    Calls Tryz.prog 122 #[.pointer (some ⟨gd, 0, none⟩)] w fun e w' => e = .returned (.tuple #[.int .i64 (lefA S : Nat), .int .i64 (lefB S : Nat)]) ∧ w' = w := by
  obtain ⟨c3, c4, c5, c6, c7⟩ := h.cs
  have hA : Hid (∀ i s, S[i]? = some s → w.cell? ⟨gt, i * 4, none⟩ = some (.int .i64 s.st)) := fun i s hs => (h.at hs).1
  have hcap := h.cap
  clear h
  go_enter Tryz.func122, Tryz.ntmps122
  go_wp2
  go_loop [4, 5, 6] (fun a b j => ∃ (c : Nat), c ≤ S.length ∧ j = .int .i64 c ∧ a = .int .i64 (lefA (S.take c) : Nat) ∧ b = .int .i64 (lefB (S.take c) : Nat)) (fun _ _ j => ((S.length : Int) - intOf j).toNat)
  case atStart => exact ⟨0, Nat.zero_le _, rfl, rfl, rfl⟩
  case round =>
    obtain ⟨c, hcl, rfl, rfl, rfl⟩ := hrel
    by_cases hlt : c < S.length
    · obtain ⟨s, hx⟩ : ∃ x, S[c]? = some x := ⟨_, List.getElem?_eq_getElem hlt⟩
      have a0 := hA.out c s hx
      have h3 := hst c s hx
      have n1 : Hid (lefA (S.take (c + 1)) = lefA (S.take c) + if s.st = 0 then 1 else 0) := by show _ = _; rw [take_next hx, lefA_snoc]
      have n2 : Hid (lefB (S.take (c + 1)) = lefB (S.take c) + if s.st = 0 ∨ s.st = 1 then 1 else 0) := by show _ = _; rw [take_next hx, lefB_snoc]
      have l1 : lefA (S.take c) ≤ 1000 := Nat.le_trans (lefA_le _) (by rw [List.length_take]; omega)
      have l2 : lefB (S.take c) ≤ 1000 := Nat.le_trans (lefB_le _) (by rw [List.length_take]; omega)
      generalize hy1 : lefA (S.take (c + 1)) = y1 at *
      generalize hy2 : lefB (S.take (c + 1)) = y2 at *
      have e1 := hide' hy1
      have e2 := hide' hy2
      clear hA hx hy1 hy2
      generalize lefA (S.take c) = x1 at *
      generalize lefB (S.take c) = x2 at *
      generalize s.st = t0 at *
      rcases h3 with rfl | rfl | rfl
      · have m1 : Hid (y1 = x1 + 1) := n1.out
        have m2 : Hid (y2 = x2 + 1) := by show _ = _; rw [n2.out]; simp
        clear n1 n2
        go_wp2
        go_round
        case rel => exact ⟨c + 1, by omega, by go_num, by rw [e1.out, m1.out]; go_num, by rw [e2.out, m2.out]; go_num⟩
        case measure => simp [intOf]; omega
      · have m1 : Hid (y1 = x1) := n1.out
        have m2 : Hid (y2 = x2 + 1) := by show _ = _; rw [n2.out]; simp
        clear n1 n2
        go_wp2
        go_round
        case rel => exact ⟨c + 1, by omega, by go_num, by rw [e1.out, m1.out], by rw [e2.out, m2.out]; go_num⟩
        case measure => simp [intOf]; omega
      · have m1 : Hid (y1 = x1) := by show _ = _; rw [n1.out]; simp
        have m2 : Hid (y2 = x2) := by show _ = _; rw [n2.out]; simp
        clear n1 n2
        go_wp2
        go_round
        case rel => exact ⟨c + 1, by omega, by go_num, by rw [e1.out, m1.out], by rw [e2.out, m2.out]⟩
        case measure => simp [intOf]; omega
    · obtain rfl : c = S.length := by omega
      have el : Hid (S.take S.length = S) := List.take_length
      clear hA
      go_wp2
      go_ret2
      exact ⟨rfl, rfl⟩
set_option maxHeartbeats 400000 in
theorem statusD {R : Rs} (h : RzAt w B gd gt nm sv rv go ct ev R.S R.log sk en) (hs : SkE R sk en) :
    Calls Tryz.prog 16 #[.pointer (some ⟨gd, 0, none⟩)] w fun e w' => e = .returned (.int .i64 R.stat) ∧ w' = w := by
  obtain ⟨c3, c4, c5, c6, c7⟩ := h.cs
  have hx := hide' hs.stat
  clear h hs
  by_cases h0 : en = 0
  · subst h0
    cases sk with
    | true =>
      have hy : Hid (R.stat = 2) := by rw [hx.out]; rfl
      go_enter Tryz.func16, Tryz.ntmps16
      go_wp2
      go_ret
      exact ⟨by rw [hy.out]; rfl, rfl⟩
    | false =>
      have hy : Hid (R.stat = 1) := by rw [hx.out]; rfl
      go_enter Tryz.func16, Tryz.ntmps16
      go_wp2
      go_ret
      exact ⟨by rw [hy.out]; rfl, rfl⟩
  · have hy : Hid (R.stat = en) := by rw [hx.out, if_pos h0]; rfl
    have h0' : (en == 0) = false := by rw [beq_eq_false_iff_ne]; exact h0
    go_enter Tryz.func16, Tryz.ntmps16
    go_wp2
    go_ret
    exact ⟨by rw [hy.out]; rfl, rfl⟩
end
end Go.Proofs.YtahfobbiaimoiaaGreatDoor
namespace Go.Proofs.YtahfobbiaimoiaaGreatDoor
open Go.RowKit
/-- What is ready, by what can be claimed. -/
theorem rdyD {n : Nat} {Rel : Nat → Nat → Bool} {Pf Sf : Nat → Nat} {R : Rs} (hO : O.Ord n Rel Pf Sf) (hl : R.S.length = n) : O.accB (fun i => decide (canC Pf R (i : Int) = 0)) n = rdyR n Pf R := by
  have hd := thz_lt R.S 2 (by rw [hl]; exact hO.n64)
  apply Nat.eq_of_testBit_eq
  intro i
  rw [O.accB_bits, Bool.eq_iff_iff]
  unfold rdyR
  by_cases he : endd R = true
  · rw [if_pos he, Nat.zero_testBit]
    simp only [Bool.and_eq_true, decide_eq_true_eq]
    constructor
    · rintro ⟨_, h2⟩
      rw [canC_end he] at h2
      cases h2
    · intro h; cases h
  rw [if_neg he, Nat.testBit_and, Bool.and_eq_true, Bool.and_eq_true, decide_eq_true_eq, decide_eq_true_eq, thz_bit, hO.rdW_bits hd]
  have he' : endd R = false := by simpa using he
  constructor
  · rintro ⟨h1, h2⟩
    obtain ⟨_, g2, g3, g4⟩ := canC_zero h2
    have hs := sAt_some g2
    rw [Int.toNat_natCast] at hs g4
    refine ⟨⟨h1, ?_, fun b hb => ?_⟩, ?_⟩
    · rw [thz_bit]; unfold thB; rw [hs]; simp [g3]
    · have q := (O.sub_bits (hO.pre_lt h1) hd).1 (by simpa using g4)
      exact q b (by rw [hO.pre i h1]; exact hb)
    · unfold thB; rw [hs]; simp [g3]
  · rintro ⟨h1, h2⟩
    refine ⟨h1.1, ?_⟩
    obtain ⟨s, hs⟩ : ∃ s, R.S[i]? = some s := ⟨_, List.getElem?_eq_getElem (by rw [hl]; exact h1.1)⟩
    have h0 : s.st = 0 := by unfold thB at h2; rw [hs] at h2; simpa using h2
    have hh : hasS R (i : Int) = true := by unfold hasS; simp [hl, h1.1]
    have e : sAt R (i : Int) = s := by unfold sAt; rw [Int.toNat_natCast, hs]; rfl
    exact canC_ok he' hh (by rw [e]; exact h0) (by rw [Int.toNat_natCast]; exact hO.pre_in hd h1)
/-- What a call of the document's run leaves. -/
def OpZ (w : World) (B gd gt : Nat) (nm : ByteArray) (sv rv : Value) (go ct : Nat) (ev : Value) (v : Value) (R' : Rs) (e : Ending) (w' : World) : Prop :=
  e = .returned v ∧ ∃ ev' sk' en', RzAt w' B gd gt nm sv rv go ct ev' R'.S R'.log sk' en' ∧ SkE R' sk' en' ∧ FrR gd gt ev w w' ∧ NwL w.heap.size ev ev'
section
variable {w : World} {B gd gt : Nat} {nm : ByteArray} {sv rv : Value} {go ct : Nat} {ev : Value} {R : Rs} {sk : Bool} {en : Int} {Pf : Nat → Nat}
theorem OpZ.same (h : RzAt w B gd gt nm sv rv go ct ev R.S R.log sk en) (hs : SkE R sk en) (v : Value) : OpZ w B gd gt nm sv rv go ct ev v R (.returned v) w := ⟨rfl, ev, sk, en, h, hs, .of_below (Below.refl _ _), NwL.refl _ _⟩
set_option maxRecDepth 100000 in
set_option maxHeartbeats 2000000 in
theorem canClaimD (h : RzAt w B gd gt nm sv rv go ct ev R.S R.log sk en) (hs : SkE R sk en) (hn : R.S.length ≤ 64) (KP : ∀ a : Nat, a < R.S.length → Calls Tryz.prog 98 #[.pointer (some ⟨go, 0, none⟩), .int .i64 (a : Int)] w fun e w' => e = .returned (.int .u64 (Pf a : Int)) ∧ w' = w) (hP : ∀ a, a < R.S.length → Pf a < 18446744073709551616) (step : Int) :
    Calls Tryz.prog 57 #[.pointer (some ⟨gd, 0, none⟩), .int .i64 step] w fun e w' => e = .returned (.int .i64 (canC Pf R step)) ∧ w' = w := by
  obtain ⟨c3, c4, c5, c6, c7⟩ := h.cs
  have hcap := h.cap
  have KC := hide' (completedD h hn)
  have hen := hs.en0
  have hF : Hid (∀ z, canC Pf R step = z → (fun e w' => e = Ending.returned (.int .i64 (canC Pf R step)) ∧ w' = w) (.returned (.int .i64 z)) w) := fun z e => ⟨by rw [e], rfl⟩
  by_cases h0 : en = 0
  · subst h0
    have he : endd R = false := by rw [hen]; rfl
    cases hh : hasS R step with
    | false =>
      have hF1 := hide' (hF.out 25 (canC_has he hh))
      have hx : step < 0 ∨ (0 ≤ step ∧ (R.S.length : Int) ≤ step) := by
        unfold hasS at hh
        simp at hh
        omega
      clear hF h hs KC hP KP hen he hh
      generalize (fun e w' => e = Ending.returned (.int .i64 (canC Pf R step)) ∧ w' = w) = QQ at *
      generalize R.S.length = n at *
      rcases hx with hx | ⟨hx, hx2⟩
      · go_enter Tryz.func57, Tryz.ntmps57
        go_wp2
        exact hF1.out
      · have hx' : ¬ step < 0 := by omega
        go_enter Tryz.func57, Tryz.ntmps57
        go_wp2
        exact hF1.out
    | true =>
      obtain ⟨g0, g1, g2⟩ := hasS_iff hh
      obtain ⟨u0, u1, u2, u3⟩ := h.at (sAt_some hh)
      by_cases h3 : (sAt R step).st = 0
      · have KQ := hide' (KP _ g1)
        have hp := hP _ g1
        have hd := thz_lt R.S 2 hn
        have hand := u64_andNot_nat (Pf step.toNat) (thz R.S 2) hp hd
        have q4 : Hid (Pf step.toNat &&& (18446744073709551615 - thz R.S 2) ≠ 0 → canC Pf R step = 32) := fun h4 => canC_ord he hh h3 h4
        have q5 : Hid (Pf step.toNat &&& (18446744073709551615 - thz R.S 2) = 0 → canC Pf R step = 0) := fun h4 => canC_ok he hh h3 h4
        rw [h3] at u0
        clear h hs hP KP hen he hh h3
        generalize (fun e w' => e = Ending.returned (.int .i64 (canC Pf R step)) ∧ w' = w) = QQ at *
        generalize canC Pf R step = cz at *
        generalize Pf step.toNat &&& (18446744073709551615 - thz R.S 2) = y at *
        generalize thz R.S 2 = d at *
        generalize Pf step.toNat = p at *
        generalize R.S.length = n at *
        generalize step.toNat = k at *
        subst g2
        by_cases hy : y = 0
        · have hF1 := hide' (hF.out 0 (q5.out hy))
          subst hy
          clear hF q4 q5
          go_enter Tryz.func57, Tryz.ntmps57
          go_wp2_with (first | (go_at_call 98; refine KQ.out.mono ?_; rintro e w1 ⟨rfl, hw⟩; obtain rfl : w = w1 := hw.symm) | (go_at_call 99; refine KC.out.mono ?_; rintro e w1 ⟨rfl, hw⟩; obtain rfl : w = w1 := hw.symm))
          exact hF1.out
        · have hy' : ((y : Int) == 0) = false := by rw [beq_eq_false_iff_ne]; omega
          have hF1 := hide' (hF.out 32 (q4.out hy))
          clear hF q4 q5 hy
          go_enter Tryz.func57, Tryz.ntmps57
          go_wp2_with (first | (go_at_call 98; refine KQ.out.mono ?_; rintro e w1 ⟨rfl, hw⟩; obtain rfl : w = w1 := hw.symm) | (go_at_call 99; refine KC.out.mono ?_; rintro e w1 ⟨rfl, hw⟩; obtain rfl : w = w1 := hw.symm))
          exact hF1.out
      · have hF1 := hide' (hF.out 31 (canC_st he hh h3))
        have h3' : ((sAt R step).st == 0) = false := by rw [beq_eq_false_iff_ne]; exact h3
        clear hF h hs KC hP KP hen he hh h3
        generalize (fun e w' => e = Ending.returned (.int .i64 (canC Pf R step)) ∧ w' = w) = QQ at *
        generalize (sAt R step).st = t0 at *
        generalize R.S.length = n at *
        generalize step.toNat = k at *
        subst g2
        go_enter Tryz.func57, Tryz.ntmps57
        go_wp2
        exact hF1.out
  · have he : endd R = true := by rw [hen]; simpa using h0
    have hF1 := hide' (hF.out 30 (canC_end he step))
    have h0' : (en == 0) = false := by rw [beq_eq_false_iff_ne]; exact h0
    clear hF h hs KC hP KP hen he h0
    generalize (fun e w' => e = Ending.returned (.int .i64 (canC Pf R step)) ∧ w' = w) = QQ at *
    go_enter Tryz.func57, Tryz.ntmps57
    go_wp2
    exact hF1.out
set_option maxRecDepth 100000 in
set_option maxHeartbeats 2000000 in
theorem canDoneD (h : RzAt w B gd gt nm sv rv go ct ev R.S R.log sk en) (hs : SkE R sk en) (step user : Int) :
    Calls Tryz.prog 121 #[.pointer (some ⟨gd, 0, none⟩), .int .i64 step, .int .i64 user] w fun e w' => e = .returned (.int .i64 (canD R step user)) ∧ w' = w := by
  obtain ⟨c3, c4, c5, c6, c7⟩ := h.cs
  have hcap := h.cap
  have hen := hs.en0
  have hF : Hid (∀ z, canD R step user = z → (fun e w' => e = Ending.returned (.int .i64 (canD R step user)) ∧ w' = w) (.returned (.int .i64 z)) w) := fun z e => ⟨by rw [e], rfl⟩
  by_cases h0 : en = 0
  · subst h0
    have he : endd R = false := by rw [hen]; rfl
    cases hh : hasS R step with
    | false =>
      have hF1 := hide' (hF.out 25 (canD_has he hh))
      have hx : step < 0 ∨ (0 ≤ step ∧ (R.S.length : Int) ≤ step) := by
        unfold hasS at hh
        simp at hh
        omega
      clear hF h hs hen he hh
      generalize (fun e w' => e = Ending.returned (.int .i64 (canD R step user)) ∧ w' = w) = QQ at *
      generalize R.S.length = n at *
      rcases hx with hx | ⟨hx, hx2⟩
      · go_enter Tryz.func121, Tryz.ntmps121
        go_wp2
        exact hF1.out
      · have hx' : ¬ step < 0 := by omega
        go_enter Tryz.func121, Tryz.ntmps121
        go_wp2
        exact hF1.out
    | true =>
      obtain ⟨g0, g1, g2⟩ := hasS_iff hh
      obtain ⟨u0, u1, u2, u3⟩ := h.at (sAt_some hh)
      have q0 : Hid ((sAt R step).st = 0 → canD R step user = 35) := fun h3 => canD_un he hh h3
      have q1 : Hid ((sAt R step).st = 2 → canD R step user = 37) := fun h3 => canD_dn he hh h3
      have q2 : Hid ((sAt R step).st ≠ 0 → (sAt R step).st ≠ 2 → (sAt R step).us ≠ user → canD R step user = 36) := fun h3 h4 h5 => canD_us he hh h3 h4 h5
      have q3 : Hid ((sAt R step).st ≠ 0 → (sAt R step).st ≠ 2 → (sAt R step).us = user → canD R step user = 0) := fun h3 h4 h5 => canD_ok he hh h3 h4 h5
      clear h hs hen he hh
      generalize (fun e w' => e = Ending.returned (.int .i64 (canD R step user)) ∧ w' = w) = QQ at *
      generalize canD R step user = cz at *
      generalize (sAt R step).st = t0 at *
      generalize (sAt R step).us = t1 at *
      generalize R.S.length = n at *
      generalize step.toNat = k at *
      subst g2
      by_cases e0 : t0 = 0
      · subst e0
        have hF1 := hide' (hF.out 35 (q0.out rfl))
        clear hF q0 q1 q2 q3
        go_enter Tryz.func121, Tryz.ntmps121
        go_wp2
        exact hF1.out
      have e0' : (t0 == 0) = false := by rw [beq_eq_false_iff_ne]; exact e0
      by_cases e2 : t0 = 2
      · subst e2
        have hF1 := hide' (hF.out 37 (q1.out rfl))
        clear hF q0 q1 q2 q3
        go_enter Tryz.func121, Tryz.ntmps121
        go_wp2
        exact hF1.out
      have e2' : (t0 == 2) = false := by rw [beq_eq_false_iff_ne]; exact e2
      by_cases e5 : t1 = user
      · have hF1 := hide' (hF.out 0 (q3.out e0 e2 e5))
        subst e5
        clear hF q0 q1 q2 q3 e0 e2
        go_enter Tryz.func121, Tryz.ntmps121
        go_wp2
        exact hF1.out
      · have hF1 := hide' (hF.out 36 (q2.out e0 e2 e5))
        have e5' : (t1 == user) = false := by rw [beq_eq_false_iff_ne]; exact e5
        clear hF q0 q1 q2 q3 e0 e2 e5
        go_enter Tryz.func121, Tryz.ntmps121
        go_wp2
        exact hF1.out
  · have he : endd R = true := by rw [hen]; simpa using h0
    have hF1 := hide' (hF.out 30 (canD_end he step user))
    have h0' : (en == 0) = false := by rw [beq_eq_false_iff_ne]; exact h0
    clear hF h hs hen he h0
    generalize (fun e w' => e = Ending.returned (.int .i64 (canD R step user)) ∧ w' = w) = QQ at *
    go_enter Tryz.func121, Tryz.ntmps121
    go_wp2
    exact hF1.out
end
end Go.Proofs.YtahfobbiaimoiaaGreatDoor
namespace Go.Proofs.YtahfobbiaimoiaaGreatDoor
open Go.RowKit
section
variable {w : World} {B gd gt : Nat} {nm : ByteArray} {sv rv : Value} {go ct : Nat} {ev : Value} {R : Rs} {sk : Bool} {en : Int} {Pf : Nat → Nat}
theorem OpZ.of_ev {W w' : World} {v : Value} {R' : Rs} {sk' : Bool} {en' : Int} {x : Ending} (hf : FrR gd gt ev w W) (h : EvR W B gd gt nm sv rv go ct ev R'.S R'.log sk' en' x w') (hs : SkE R' sk' en') : OpZ w B gd gt nm sv rv go ct ev v R' (.returned v) w' := by
  obtain ⟨_, l, h1, h2, h3⟩ := h
  exact ⟨rfl, l, sk', en', h1, hs, hf.trans h2 (NwL.refl _ _), (NwL.refl w.heap.size ev).trans h3 hf.size⟩
theorem SkE.same {R R' : Rs} {sk : Bool} {en : Int} (h : SkE R sk en) (e : R'.stat = R.stat) : SkE R' sk en := by
  unfold SkE endd at *
  rw [e]; exact h
set_option maxRecDepth 100000 in
set_option maxHeartbeats 2000000 in
theorem claimD (h : RzAt w B gd gt nm sv rv go ct ev R.S R.log sk en) (hs : SkE R sk en) (hn : R.S.length ≤ 64) (KP : ∀ a : Nat, a < R.S.length → Calls Tryz.prog 98 #[.pointer (some ⟨go, 0, none⟩), .int .i64 (a : Int)] w fun e w' => e = .returned (.int .u64 (Pf a : Int)) ∧ w' = w) (hP : ∀ a, a < R.S.length → Pf a < 18446744073709551616) (hl : R.log.length ≤ 100000) (hB : B ≤ w.heap.size) (step user tick : Int) :
    Calls Tryz.prog 86 #[.pointer (some ⟨gd, 0, none⟩), .int .i64 step, .int .i64 user, .int .i64 tick] w (OpZ w B gd gt nm sv rv go ct ev (.int .i64 (canC Pf R step)) (clmR Pf R step user tick)) := by
  have KC := hide' (canClaimD h hs hn KP hP step)
  by_cases hc : canC Pf R step = 0
  · obtain ⟨he, hh, h3, _⟩ := canC_zero hc
    obtain ⟨g0, g1, g2⟩ := hasS_iff hh
    obtain ⟨c3, c4, c5, c6, c7⟩ := h.cs
    have hcap := h.cap
    obtain ⟨u0, u1, u2, u3⟩ := h.at (sAt_some hh)
    have t0 := h.frT (step.toNat * 4)
    have t1 := h.frT (step.toNat * 4 + 1)
    have t2 := h.frT (step.toNat * 4 + 2)
    have t3 := h.frT (step.toNat * 4 + 3)
    have hf : Hid (FrR gd gt ev w ((((w.setCell ⟨gt, step.toNat * 4, none⟩ (.int .i64 1)).setCell ⟨gt, step.toNat * 4 + 1, none⟩ (.int .i64 user)).setCell ⟨gt, step.toNat * 4 + 2, none⟩ (.int .i64 tick)).setCell ⟨gt, step.toNat * 4 + 3, none⟩ (.int .i64 0))) := ((((FrR.refl gd gt ev w).setT _ _).setT _ _).setT _ _).setT _ _
    have h4 := h.setS4 step.toNat ⟨1, user, tick, 0⟩ g1
    have KR : Hid (∀ x w', EvR ((((w.setCell ⟨gt, step.toNat * 4, none⟩ (.int .i64 1)).setCell ⟨gt, step.toNat * 4 + 1, none⟩ (.int .i64 user)).setCell ⟨gt, step.toNat * 4 + 2, none⟩ (.int .i64 tick)).setCell ⟨gt, step.toNat * 4 + 3, none⟩ (.int .i64 0)) B gd gt nm sv rv go ct ev (R.S.set step.toNat ⟨1, user, tick, 0⟩) (R.log ++ [⟨tick, 2, step, user⟩]) sk en x w' → OpZ w B gd gt nm sv rv go ct ev (.int .i64 (canC Pf R step)) (clmR Pf R step user tick) (.returned (.int .i64 0)) w') := fun x w' hx => by
        have hr : clmR Pf R step user tick = hapC R step user tick := by unfold clmR; rw [if_pos hc]
        rw [hc, hr]
        exact OpZ.of_ev hf.out hx (hs.same rfl)
    have KE : Hid (Calls Tryz.prog 85 #[.pointer (some ⟨gd, 0, none⟩), .int .i64 tick, .int .i64 2, .int .i64 step, .int .i64 user] ((((w.setCell ⟨gt, step.toNat * 4, none⟩ (.int .i64 1)).setCell ⟨gt, step.toNat * 4 + 1, none⟩ (.int .i64 user)).setCell ⟨gt, step.toNat * 4 + 2, none⟩ (.int .i64 tick)).setCell ⟨gt, step.toNat * 4 + 3, none⟩ (.int .i64 0)) fun x w' => x = .returned (.tuple #[]) ∧ Hid (OpZ w B gd gt nm sv rv go ct ev (.int .i64 (canC Pf R step)) (clmR Pf R step user tick) (.returned (.int .i64 0)) w')) :=
      (eventD h4 hl (by simpa using hB) ⟨tick, 2, step, user⟩).mono fun x w' hx => ⟨hx.1, KR.out x w' hx⟩
    rw [hc] at KC
    clear KR hf h4 h hs KP hP he hh h3 hc
    generalize OpZ w B gd gt nm sv rv go ct ev (.int .i64 (canC Pf R step)) (clmR Pf R step user tick) = QQ at *
    generalize R.S.length = n at *
    generalize step.toNat = k at *
    subst g2
    go_enter Tryz.func86, Tryz.ntmps86
    go_wp2_with (first | (go_at_call 57; refine KC.out.mono ?_; rintro e w1 ⟨rfl, hw⟩; obtain rfl : w = w1 := hw.symm) | (go_at_call 85; refine KE.out.mono ?_; rintro e w2 ⟨rfl, hF⟩))
    exact hF.out
  · have hF := hide' (show OpZ w B gd gt nm sv rv go ct ev (.int .i64 (canC Pf R step)) (clmR Pf R step user tick) (.returned (.int .i64 (canC Pf R step))) w by
      rw [show clmR Pf R step user tick = R by unfold clmR; rw [if_neg hc]]
      exact OpZ.same h hs _)
    clear h hs KP hP
    generalize OpZ w B gd gt nm sv rv go ct ev (.int .i64 (canC Pf R step)) (clmR Pf R step user tick) = QQ at *
    generalize canC Pf R step = z at *
    have hc' : (z == 0) = false := by rw [beq_eq_false_iff_ne]; exact hc
    clear hc
    go_enter Tryz.func86, Tryz.ntmps86
    go_wp2_with (go_at_call 57; refine KC.out.mono ?_; rintro e w1 ⟨rfl, hw⟩; obtain rfl : w = w1 := hw.symm)
    exact hF.out
set_option maxRecDepth 100000 in
set_option maxHeartbeats 4000000 in
theorem doneD (h : RzAt w B gd gt nm sv rv go ct ev R.S R.log sk en) (hs : SkE R sk en) (hn : R.S.length ≤ 64) (hst : ∀ (i : Nat) (s : SS), R.S[i]? = some s → s.st = 0 ∨ s.st = 1 ∨ s.st = 2) (hl : R.log.length ≤ 90000) (hB : B ≤ w.heap.size) (step user tick : Int) :
    Calls Tryz.prog 87 #[.pointer (some ⟨gd, 0, none⟩), .int .i64 step, .int .i64 user, .int .i64 tick] w (OpZ w B gd gt nm sv rv go ct ev (.int .i64 (canD R step user)) (donR R step user tick)) := by
  have KC := hide' (canDoneD h hs step user)
  by_cases hc : canD R step user = 0
  · obtain ⟨he, hh, h3, _⟩ := canD_zero hc
    obtain ⟨g0, g1, g2⟩ := hasS_iff hh
    obtain ⟨c3, c4, c5, c6, c7⟩ := h.cs
    have hcap := h.cap
    have hsA := sAt_some hh
    obtain ⟨u0, u1, u2, u3⟩ := h.at hsA
    have t0 := h.frT (step.toNat * 4)
    have t3 := h.frT (step.toNat * 4 + 3)
    have c4' : (w.setCell ⟨gt, step.toNat * 4, none⟩ (.int .i64 2)).cell? ⟨gd, 4, none⟩ = some (.slice (some ⟨gt, 0, none⟩) R.S.length ct) := by
      have := Below.heap_setCell w ⟨gt, step.toNat * 4, none⟩ (.int .i64 2) gd h.gd_ne.symm
      rw [World.cell?, this]
      exact c4
    have hf : Hid (FrR gd gt ev w ((w.setCell ⟨gt, step.toNat * 4, none⟩ (.int .i64 2)).setCell ⟨gt, step.toNat * 4 + 3, none⟩ (.int .i64 tick))) := ((FrR.refl gd gt ev w).setT _ _).setT _ _
    have h2 := h.setS2 step.toNat (sAt R step) hsA 2 tick
    have hst2 : ∀ (i : Nat) (s : SS), (dnS R step tick)[i]? = some s → s.st = 0 ∨ s.st = 1 ∨ s.st = 2 := fun i s hi => set_st hi hst (.inr (.inr rfl))
    have hlen : (dnS R step tick).length = R.S.length := by simp [dnS]
    have KE : Hid (Calls Tryz.prog 85 #[.pointer (some ⟨gd, 0, none⟩), .int .i64 tick, .int .i64 3, .int .i64 step, .int .i64 user] ((w.setCell ⟨gt, step.toNat * 4, none⟩ (.int .i64 2)).setCell ⟨gt, step.toNat * 4 + 3, none⟩ (.int .i64 tick)) (EvR ((w.setCell ⟨gt, step.toNat * 4, none⟩ (.int .i64 2)).setCell ⟨gt, step.toNat * 4 + 3, none⟩ (.int .i64 tick)) B gd gt nm sv rv go ct ev (dnS R step tick) (R.log ++ [⟨tick, 3, step, user⟩]) sk en)) :=
      eventD h2 (by omega) (by simpa using hB) ⟨tick, 3, step, user⟩
    have KN : Hid (∀ w3 x, EvR ((w.setCell ⟨gt, step.toNat * 4, none⟩ (.int .i64 2)).setCell ⟨gt, step.toNat * 4 + 3, none⟩ (.int .i64 tick)) B gd gt nm sv rv go ct ev (dnS R step tick) (R.log ++ [⟨tick, 3, step, user⟩]) sk en x w3 →
        Calls Tryz.prog 122 #[.pointer (some ⟨gd, 0, none⟩)] w3 (fun e w' => e = .returned (.tuple #[.int .i64 (lefA (dnS R step tick) : Nat), .int .i64 (lefB (dnS R step tick) : Nat)]) ∧ w' = w3) ∧
        w3.frozen? ⟨gd, 7, none⟩ = false ∧ w3.cell? ⟨gd, 7, none⟩ = some (.int .i64 en) ∧
        (lefB (dnS R step tick) ≠ 0 → OpZ w B gd gt nm sv rv go ct ev (.int .i64 (canD R step user)) (donR R step user tick) (.returned (.int .i64 0)) w3) ∧
        (lefB (dnS R step tick) = 0 → Calls Tryz.prog 85 #[.pointer (some ⟨gd, 0, none⟩), .int .i64 tick, .int .i64 7, .int .i64 (-1), .int .i64 (-1)] (w3.setCell ⟨gd, 7, none⟩ (.int .i64 3)) fun x w' => x = .returned (.tuple #[]) ∧ Hid (OpZ w B gd gt nm sv rv go ct ev (.int .i64 (canD R step user)) (donR R step user tick) (.returned (.int .i64 0)) w'))) := fun w3 x ⟨_, ev', q1, q2, q3⟩ => by
      have hB3 : B ≤ w3.heap.size := Nat.le_trans (by simpa using hB) q2.size
      refine ⟨leftD q1 (by rw [hlen]; omega) hst2, q1.frO 7, q1.cs.2.2.2.2, fun hz => ?_, fun hz => ?_⟩
      · have hr : donR R step user tick = ⟨dnS R step tick, R.stat, R.log ++ [⟨tick, 3, step, user⟩]⟩ := by unfold donR hapD; rw [if_pos hc, if_neg hz]
        rw [hc, hr]
        exact ⟨rfl, ev', sk, en, q1, hs.same rfl, hf.out.trans q2 (NwL.refl _ _), (NwL.refl w.heap.size ev).trans q3 hf.out.size⟩
      · have hr : donR R step user tick = ⟨dnS R step tick, 3, (R.log ++ [⟨tick, 3, step, user⟩]) ++ [⟨tick, 7, -1, -1⟩]⟩ := by unfold donR hapD; rw [if_pos hc, if_pos hz, List.append_assoc]; rfl
        refine (eventD (q1.setEn 3) (by simp; omega) (by simpa using hB3) ⟨tick, 7, -1, -1⟩).mono fun x w' hx => ⟨hx.1, ?_⟩
        rw [hc, hr]
        have hf3 : FrR gd gt ev w (w3.setCell ⟨gd, 7, none⟩ (.int .i64 3)) := (hf.out.trans q2 (NwL.refl _ _)).set 7 _
        obtain ⟨_, l, p1, p2, p3⟩ := hx
        have nw : NwL w.heap.size ev ev' := (NwL.refl w.heap.size ev).trans q3 hf.out.size
        exact ⟨rfl, l, sk, 3, p1, .inl ⟨rfl, rfl⟩, hf3.trans p2 nw, nw.trans p3 hf3.size⟩
    rw [hc] at KC
    clear hf h2 h hs he hh h3 hc hsA hst hst2 hlen
    generalize hQQ : OpZ w B gd gt nm sv rv go ct ev (.int .i64 (canD R step user)) (donR R step user tick) = QQ at *
    generalize hEE : EvR ((w.setCell ⟨gt, step.toNat * 4, none⟩ (.int .i64 2)).setCell ⟨gt, step.toNat * 4 + 3, none⟩ (.int .i64 tick)) B gd gt nm sv rv go ct ev (dnS R step tick) (R.log ++ [⟨tick, 3, step, user⟩]) sk en = EE at *
    have hE0 : Hid (∀ x w', EE x w' → x = .returned (.tuple #[])) := fun x w' hx => by rw [← hEE] at hx; exact hx.1
    clear hQQ hEE
    generalize lefA (dnS R step tick) = za at *
    generalize lefB (dnS R step tick) = zb at *
    generalize R.S.length = n at *
    generalize step.toNat = k at *
    subst g2
    go_enter Tryz.func87, Tryz.ntmps87
    go_wp2_with (first | (go_at_call 121; refine KC.out.mono ?_; rintro e w1 ⟨rfl, hw⟩; obtain rfl : w = w1 := hw.symm) | (fail))
    refine KE.out.mono ?_
    intro x w3 hx
    obtain rfl := hE0.out x w3 hx
    obtain ⟨k1, k2, k3, k4, k5⟩ := KN.out w3 _ hx
    have K1 := hide' k1
    have K4 := hide' k4
    have K5 := hide' k5
    clear KE KN KC hE0 hx k1 k4 k5
    by_cases hz : zb = 0
    · subst hz
      have K6 := hide' (K5.out rfl)
      clear K5 K4
      go_wp2_with (first | (go_at_call 122; refine K1.out.mono ?_; rintro e w1 ⟨rfl, hw⟩; obtain rfl : w3 = w1 := hw.symm) | (go_at_call 85; refine K6.out.mono ?_; rintro e w2 ⟨rfl, hF⟩))
      exact hF.out
    · have hz' : ((zb : Int) == 0) = false := by rw [beq_eq_false_iff_ne]; omega
      have hF := hide' (K4.out hz)
      clear K5 K4 hz
      go_wp2_with (go_at_call 122; refine K1.out.mono ?_; rintro e w1 ⟨rfl, hw⟩; obtain rfl : w3 = w1 := hw.symm)
      exact hF.out
  · have hF := hide' (show OpZ w B gd gt nm sv rv go ct ev (.int .i64 (canD R step user)) (donR R step user tick) (.returned (.int .i64 (canD R step user))) w by
      rw [show donR R step user tick = R by unfold donR; rw [if_neg hc]]
      exact OpZ.same h hs _)
    clear h hs hst
    generalize OpZ w B gd gt nm sv rv go ct ev (.int .i64 (canD R step user)) (donR R step user tick) = QQ at *
    generalize canD R step user = z at *
    have hc' : (z == 0) = false := by rw [beq_eq_false_iff_ne]; exact hc
    clear hc
    go_enter Tryz.func87, Tryz.ntmps87
    go_wp2_with (go_at_call 121; refine KC.out.mono ?_; rintro e w1 ⟨rfl, hw⟩; obtain rfl : w = w1 := hw.symm)
    exact hF.out
set_option maxRecDepth 100000 in
set_option maxHeartbeats 1000000 in
theorem abortD (h : RzAt w B gd gt nm sv rv go ct ev R.S R.log sk en) (hs : SkE R sk en) (hl : R.log.length ≤ 90000) (hB : B ≤ w.heap.size) (tick : Int) :
    Calls Tryz.prog 88 #[.pointer (some ⟨gd, 0, none⟩), .int .i64 tick] w (OpZ w B gd gt nm sv rv go ct ev (.int .i64 (if endd R = true then 30 else 0)) (aboR R tick)) := by
  obtain ⟨c3, c4, c5, c6, c7⟩ := h.cs
  have f7 := h.frO 7
  have hen := hs.en0
  by_cases h0 : en = 0
  · subst h0
    have he : endd R = false := by rw [hen]; rfl
    have hr : aboR R tick = hapS R 4 ⟨tick, 4, -1, -1⟩ := by unfold aboR; rw [if_neg (by rw [he]; decide)]
    have KE : Hid (Calls Tryz.prog 85 #[.pointer (some ⟨gd, 0, none⟩), .int .i64 tick, .int .i64 4, .int .i64 (-1), .int .i64 (-1)] (w.setCell ⟨gd, 7, none⟩ (.int .i64 4)) fun x w' => x = .returned (.tuple #[]) ∧ Hid (OpZ w B gd gt nm sv rv go ct ev (.int .i64 0) (aboR R tick) (.returned (.int .i64 0)) w')) :=
      (eventD (h.setEn 4) (by omega) (by simpa using hB) ⟨tick, 4, -1, -1⟩).mono fun x w' hx => ⟨hx.1, by
        rw [hr]
        exact OpZ.of_ev (R' := hapS R 4 ⟨tick, 4, -1, -1⟩) ((FrR.refl gd gt ev w).set 7 _) hx (.inl ⟨rfl, rfl⟩)⟩
    rw [if_neg (by rw [he]; decide)]
    clear h hs hen he hr
    generalize OpZ w B gd gt nm sv rv go ct ev (.int .i64 0) (aboR R tick) = QQ at *
    go_enter Tryz.func88, Tryz.ntmps88
    go_wp2_with (go_at_call 85; refine KE.out.mono ?_; rintro e w2 ⟨rfl, hF⟩)
    exact hF.out
  · have he : endd R = true := by rw [hen]; simpa using h0
    have h0' : (en == 0) = false := by rw [beq_eq_false_iff_ne]; exact h0
    have hF := hide' (show OpZ w B gd gt nm sv rv go ct ev (.int .i64 30) (aboR R tick) (.returned (.int .i64 30)) w by
      rw [show aboR R tick = R by unfold aboR; rw [if_pos he]]
      exact OpZ.same h hs _)
    rw [if_pos he]
    clear h hs hen he h0
    generalize OpZ w B gd gt nm sv rv go ct ev (.int .i64 30) (aboR R tick) = QQ at *
    go_enter Tryz.func88, Tryz.ntmps88
    go_wp2
    exact hF.out
set_option maxRecDepth 100000 in
set_option maxHeartbeats 1000000 in
theorem markD (h : RzAt w B gd gt nm sv rv go ct ev R.S R.log sk en) (hs : SkE R sk en) (hl : R.log.length ≤ 90000) (hB : B ≤ w.heap.size) (b : Bool) (tick : Int) :
    Calls Tryz.prog 89 #[.pointer (some ⟨gd, 0, none⟩), .bool b, .int .i64 tick] w (OpZ w B gd gt nm sv rv go ct ev (.bool (mrkB R b)) (mrkR R b tick)) := by
  obtain ⟨c3, c4, c5, c6, c7⟩ := h.cs
  have f6 := h.frO 6
  have hen := hs.en0
  have hno : Hid (mrkB R b = false → OpZ w B gd gt nm sv rv go ct ev (.bool (mrkB R b)) (mrkR R b tick) (.returned (.bool false)) w) := fun e => by
    rw [e, show mrkR R b tick = R by unfold mrkR; rw [if_neg (by rw [e]; decide)]]
    exact OpZ.same h hs _
  by_cases h0 : en = 0
  · subst h0
    have he : endd R = false := by rw [hen]; rfl
    have hk := hs.stk he
    by_cases hb : sk = b
    · subst hb
      have hF := hide' (hno.out (by unfold mrkB; rw [he, ← hk]; simp))
      clear h hs hen he hk hno
      generalize OpZ w B gd gt nm sv rv go ct ev (.bool (mrkB R sk)) (mrkR R sk tick) = QQ at *
      cases sk
      all_goals
        go_enter Tryz.func89, Tryz.ntmps89
        go_wp2
        exact hF.out
    · have hm : mrkB R b = true := by unfold mrkB; rw [he, ← hk]; cases sk <;> cases b <;> simp_all
      have hr : mrkR R b tick = hapS R (if b then 2 else 1) ⟨tick, if b then 5 else 6, -1, -1⟩ := by unfold mrkR; rw [if_pos hm]
      have KE : Hid (Calls Tryz.prog 85 #[.pointer (some ⟨gd, 0, none⟩), .int .i64 tick, .int .i64 (if b then 5 else 6), .int .i64 (-1), .int .i64 (-1)] (w.setCell ⟨gd, 6, none⟩ (.bool b)) fun x w' => x = .returned (.tuple #[]) ∧ Hid (OpZ w B gd gt nm sv rv go ct ev (.bool (mrkB R b)) (mrkR R b tick) (.returned (.bool true)) w')) :=
        (eventD (h.setSk b) (by omega) (by simpa using hB) ⟨tick, if b then 5 else 6, -1, -1⟩).mono fun x w' hx => ⟨hx.1, by
          rw [hm, hr]
          refine OpZ.of_ev (R' := hapS R (if b then 2 else 1) ⟨tick, if b then 5 else 6, -1, -1⟩) ((FrR.refl gd gt ev w).set 6 _) hx (.inr ⟨?_, rfl, rfl⟩)
          cases b <;> rfl⟩
      clear h hs hen he hr hno hk hm
      generalize OpZ w B gd gt nm sv rv go ct ev (.bool (mrkB R b)) (mrkR R b tick) = QQ at *
      cases sk <;> cases b
      · exact absurd rfl hb
      · have KE' : Hid (Calls Tryz.prog 85 #[.pointer (some ⟨gd, 0, none⟩), .int .i64 tick, .int .i64 5, .int .i64 (-1), .int .i64 (-1)] (w.setCell ⟨gd, 6, none⟩ (.bool true)) fun x w' => x = .returned (.tuple #[]) ∧ Hid (QQ (.returned (.bool true)) w')) := KE
        clear KE hb
        go_enter Tryz.func89, Tryz.ntmps89
        go_wp2_with (go_at_call 85; refine KE'.out.mono ?_; rintro e w2 ⟨rfl, hF⟩)
        exact hF.out
      · have KE' : Hid (Calls Tryz.prog 85 #[.pointer (some ⟨gd, 0, none⟩), .int .i64 tick, .int .i64 6, .int .i64 (-1), .int .i64 (-1)] (w.setCell ⟨gd, 6, none⟩ (.bool false)) fun x w' => x = .returned (.tuple #[]) ∧ Hid (QQ (.returned (.bool true)) w')) := KE
        clear KE hb
        go_enter Tryz.func89, Tryz.ntmps89
        go_wp2_with (go_at_call 85; refine KE'.out.mono ?_; rintro e w2 ⟨rfl, hF⟩)
        exact hF.out
      · exact absurd rfl hb
  · have he : endd R = true := by rw [hen]; simpa using h0
    have h0' : (en == 0) = false := by rw [beq_eq_false_iff_ne]; exact h0
    have hF := hide' (hno.out (by unfold mrkB; rw [he]; rfl))
    clear h hs hen he hno
    generalize OpZ w B gd gt nm sv rv go ct ev (.bool (mrkB R b)) (mrkR R b tick) = QQ at *
    go_enter Tryz.func89, Tryz.ntmps89
    go_wp2
    exact hF.out
end
end Go.Proofs.YtahfobbiaimoiaaGreatDoor
