/- Claim, Done, Abort, Mark. -/
import Derived.Test.YtaoddedocibdoaaDoorJ15
import Derived.Test.YtaoddedocibdoaaDoorJ18
namespace Go.Proofs.YtaoddedocibdoaaDoor
open Go.RowKit
/-- What a call that changes a run leaves. -/
def OpR (w : World) (B gr gt : Nat) (nm : ByteArray) (sv rv : Value) (go ct : Nat) (lv : Value) (v : Value) (R' : Rs) (e : Ending) (w' : World) : Prop :=
  e = .returned v ∧ ∃ lv', RnAt w' B gr gt nm sv rv go ct lv' R' ∧ FrR gr gt lv w w' ∧ NwL w.heap.size lv lv'
section
variable {w : World} {B gr gt : Nat} {nm : ByteArray} {sv rv : Value} {go ct : Nat} {lv : Value} {R : Rs} {gp gs : Nat} {Pf Sf : Nat → Nat}
theorem OpR.same (h : RnAt w B gr gt nm sv rv go ct lv R) {w' : World} (hb : Below w.heap.size w w') (v : Value) : OpR w B gr gt nm sv rv go ct lv v R (.returned v) w' := ⟨rfl, lv, h.over hb, .of_below hb, NwL.refl _ _⟩
theorem OpR.of_hap {W w' : World} (hb : Below w.heap.size w W) {R' : Rs} {x : Ending} (h : HapR W B gr gt nm sv rv go ct lv R' x w') (v : Value) : OpR w B gr gt nm sv rv go ct lv v R' (.returned v) w' := by
  obtain ⟨_, l, h1, h2, h3⟩ := h
  exact ⟨rfl, l, h1, (FrR.of_below hb).trans h2 (NwL.refl _ _), (NwL.refl w.heap.size lv).trans h3 hb.size⟩
theorem canC_end (h : endd R = true) (step : Int) : canC Pf R step = 30 := by unfold canC; rw [if_pos h]
theorem canC_has {step : Int} (h : endd R = false) (h2 : hasS R step = false) : canC Pf R step = 25 := by unfold canC; rw [if_neg (by rw [h]; decide), if_pos h2]
theorem canC_st {step : Int} (h : endd R = false) (h2 : hasS R step = true) (h3 : (sAt R step).st ≠ 0) : canC Pf R step = 31 := by unfold canC; rw [if_neg (by rw [h]; decide), if_neg (by rw [h2]; decide), if_pos h3]
theorem canC_ord {step : Int} (h : endd R = false) (h2 : hasS R step = true) (h3 : (sAt R step).st = 0) (h4 : Pf step.toNat &&& (18446744073709551615 - thz R.S 2) ≠ 0) : canC Pf R step = 32 := by unfold canC; rw [if_neg (by rw [h]; decide), if_neg (by rw [h2]; decide), if_neg (by rw [h3]; decide), if_pos h4]
theorem canC_ok {step : Int} (h : endd R = false) (h2 : hasS R step = true) (h3 : (sAt R step).st = 0) (h4 : Pf step.toNat &&& (18446744073709551615 - thz R.S 2) = 0) : canC Pf R step = 0 := by unfold canC; rw [if_neg (by rw [h]; decide), if_neg (by rw [h2]; decide), if_neg (by rw [h3]; decide), if_neg (by rw [h4]; decide)]
set_option maxRecDepth 100000 in
set_option maxHeartbeats 4000000 in
theorem claimF (h : RnAt w B gr gt nm sv rv go ct lv R) (ho : O.OrdAt w go gp gs R.S.length Pf Sf) (hn : R.S.length ≤ 64) (hP : ∀ a, a < R.S.length → Pf a < 18446744073709551616) (hl : R.log.length ≤ 100000) (hB : B ≤ w.heap.size) (step user tick : Int) :
    Calls Tryd.prog 8 #[.pointer (some ⟨gr, 0, none⟩), .int .i64 step, .int .i64 user, .int .i64 tick] w (OpR w B gr gt nm sv rv go ct lv (.int .i64 (canC Pf R step)) (clmR Pf R step user tick)) := by
  have KE := hide' (endedF h)
  have KH := hide' (hasF h step)
  have hQ : Hid (∀ z, z ≠ 0 → canC Pf R step = z → ∀ w', Below w.heap.size w w' → OpR w B gr gt nm sv rv go ct lv (.int .i64 (canC Pf R step)) (clmR Pf R step user tick) (.returned (.int .i64 z)) w') := fun z h0 e w' hb => by
    rw [show clmR Pf R step user tick = R by unfold clmR; rw [if_neg (by rw [e]; exact h0)], e]
    exact OpR.same h hb _
  have hQ2 : Hid (canC Pf R step = 0 → ∀ W x w', Below w.heap.size w W → HapR W B gr gt nm sv rv go ct lv (hapC R step user tick) x w' → OpR w B gr gt nm sv rv go ct lv (.int .i64 (canC Pf R step)) (clmR Pf R step user tick) (.returned (.int .i64 0)) w') := fun e W x w' hb hh => by
    rw [show clmR Pf R step user tick = hapC R step user tick by unfold clmR; rw [if_pos e], e]
    exact OpR.of_hap hb hh _
  cases he : endd R with
  | true =>
    have hF := hide' (hQ.out 30 (by decide) (canC_end he step) w (Below.refl _ _))
    rw [he] at KE
    clear hQ hQ2 h ho hP he KH
    generalize OpR w B gr gt nm sv rv go ct lv (.int .i64 (canC Pf R step)) (clmR Pf R step user tick) = QQ at *
    go_enter Tryd.func8, Tryd.ntmps8
    go_wp2_with (go_at_call 28; refine KE.out.mono ?_; rintro e w1 ⟨rfl, hw⟩; obtain rfl : w = w1 := hw.symm)
    exact hF.out
  | false =>
  rw [he] at KE
  cases hh : hasS R step with
  | false =>
    have hF := hide' (hQ.out 25 (by decide) (canC_has he hh) w (Below.refl _ _))
    rw [hh] at KH
    clear hQ hQ2 h ho hP he hh
    generalize OpR w B gr gt nm sv rv go ct lv (.int .i64 (canC Pf R step)) (clmR Pf R step user tick) = QQ at *
    go_enter Tryd.func8, Tryd.ntmps8
    go_wp2_with (first | (go_at_call 28; refine KE.out.mono ?_; rintro e w1 ⟨rfl, hw⟩; obtain rfl : w = w1 := hw.symm) | (go_at_call 29; refine KH.out.mono ?_; rintro e w1 ⟨rfl, hw⟩; obtain rfl : w = w1 := hw.symm))
    exact hF.out
  | true =>
  rw [hh] at KH
  obtain ⟨g0, g1, g2⟩ := hasS_iff hh
  have c3 := h.c3
  have c4 := h.c4
  have hcap := h.cap
  obtain ⟨u0, u1, u2, u3⟩ := h.at (sAt_some hh)
  by_cases h3 : (sAt R step).st = 0
  · have KP := hide' (O.predsT ho g1)
    have KT : Hid (∀ W, Below w.heap.size w W → Calls Tryd.prog 31 #[.pointer (some ⟨gr, 0, none⟩), .int .i64 2] W fun e w' => e = .returned (.int .u64 (thz R.S 2 : Int)) ∧ Below W.heap.size W w') := fun W hW => thoseF (h.over hW) 2 (by omega)
    have hd := thz_lt R.S 2 hn
    have hp := hP _ g1
    have hand := u64_andNot_nat (Pf step.toNat) (thz R.S 2) hp hd
    have KA : Hid (∀ W, Below w.heap.size w W → Calls Tryd.prog 22 #[.pointer (some ⟨gr, 0, none⟩), .agg #[.int .i64 tick, .int .i64 2, .int .i64 step, .int .i64 user]] W (HapR W B gr gt nm sv rv go ct lv (hapC R step user tick))) := fun W hW => hapF (h.over hW) ⟨tick, 2, step, user⟩ _ (.inr (.inr (.inr (.inl ⟨rfl, hh, rfl⟩)))) hl (Nat.le_trans hB hW.size) (by omega)
    have hQ3 : Hid (Pf step.toNat &&& (18446744073709551615 - thz R.S 2) ≠ 0 → ∀ w', Below w.heap.size w w' → OpR w B gr gt nm sv rv go ct lv (.int .i64 (canC Pf R step)) (clmR Pf R step user tick) (.returned (.int .i64 32)) w') := fun h4 => hQ.out 32 (by decide) (canC_ord he hh h3 h4)
    have hQ4 : Hid (Pf step.toNat &&& (18446744073709551615 - thz R.S 2) = 0 → ∀ W x w', Below w.heap.size w W → HapR W B gr gt nm sv rv go ct lv (hapC R step user tick) x w' → OpR w B gr gt nm sv rv go ct lv (.int .i64 (canC Pf R step)) (clmR Pf R step user tick) (.returned (.int .i64 0)) w') := fun h4 => hQ2.out (canC_ok he hh h3 h4)
    rw [h3] at u0
    clear hQ hQ2 h ho hP he hh h3
    generalize OpR w B gr gt nm sv rv go ct lv (.int .i64 (canC Pf R step)) (clmR Pf R step user tick) = QQ at *
    generalize Pf step.toNat &&& (18446744073709551615 - thz R.S 2) = y at *
    generalize thz R.S 2 = d at *
    generalize hapC R step user tick = RC at *
    generalize Pf step.toNat = p at *
    generalize step.toNat = k at *
    subst g2
    by_cases hy : y = 0
    · subst hy
      go_enter Tryd.func8, Tryd.ntmps8
      go_wp2_with (first | (go_at_call 28; refine KE.out.mono ?_; rintro e w1 ⟨rfl, hw⟩; obtain rfl : w = w1 := hw.symm) | (go_at_call 29; refine KH.out.mono ?_; rintro e w1 ⟨rfl, hw⟩; obtain rfl : w = w1 := hw.symm) | (go_at_call 30; refine KP.out.mono ?_; rintro e w2 ⟨rfl, hb2⟩) | (go_at_call 31; refine (KT.out _ hb2).mono ?_; rintro e w3 ⟨rfl, hb3⟩))
      have hb' := hide' (hb2.trans (hb3.mono hb2.size))
      refine (KA.out _ hb'.out).mono ?_
      rintro x w4 hX
      obtain rfl := hX.1
      have hF := hide' (hQ4.out (by first | trivial | rfl) _ _ _ hb'.out hX)
      clear hQ3 hQ4 KA KT KP hX hb2 hb3 hb'
      go_wp2
      exact hF.out
    · have hy' : ((y : Int) == 0) = false := by rw [beq_eq_false_iff_ne]; omega
      have hF0 := hide' (hQ3.out hy)
      clear hQ3 hQ4 KA hy
      go_enter Tryd.func8, Tryd.ntmps8
      go_wp2_with (first | (go_at_call 28; refine KE.out.mono ?_; rintro e w1 ⟨rfl, hw⟩; obtain rfl : w = w1 := hw.symm) | (go_at_call 29; refine KH.out.mono ?_; rintro e w1 ⟨rfl, hw⟩; obtain rfl : w = w1 := hw.symm) | (go_at_call 30; refine KP.out.mono ?_; rintro e w2 ⟨rfl, hb2⟩) | (go_at_call 31; refine (KT.out _ hb2).mono ?_; rintro e w3 ⟨rfl, hb3⟩))
      exact hF0.out _ (hb2.trans (hb3.mono hb2.size))
  · have hF := hide' (hQ.out 31 (by decide) (canC_st he hh h3) w (Below.refl _ _))
    have h3' : ((sAt R step).st == 0) = false := by rw [beq_eq_false_iff_ne]; exact h3
    clear hQ hQ2 h ho hP he hh h3
    generalize OpR w B gr gt nm sv rv go ct lv (.int .i64 (canC Pf R step)) (clmR Pf R step user tick) = QQ at *
    generalize (sAt R step).st = t0 at *
    generalize step.toNat = k at *
    subst g2
    go_enter Tryd.func8, Tryd.ntmps8
    go_wp2_with (first | (go_at_call 28; refine KE.out.mono ?_; rintro e w1 ⟨rfl, hw⟩; obtain rfl : w = w1 := hw.symm) | (go_at_call 29; refine KH.out.mono ?_; rintro e w1 ⟨rfl, hw⟩; obtain rfl : w = w1 := hw.symm))
    exact hF.out
theorem canD_end (h : endd R = true) (step user : Int) : canD R step user = 30 := by unfold canD; rw [if_pos h]
theorem canD_has {step user : Int} (h : endd R = false) (h2 : hasS R step = false) : canD R step user = 25 := by unfold canD; rw [if_neg (by rw [h]; decide), if_pos h2]
theorem canD_un {step user : Int} (h : endd R = false) (h2 : hasS R step = true) (h3 : (sAt R step).st = 0) : canD R step user = 35 := by unfold canD; rw [if_neg (by rw [h]; decide), if_neg (by rw [h2]; decide), if_pos h3]
theorem canD_dn {step user : Int} (h : endd R = false) (h2 : hasS R step = true) (h3 : (sAt R step).st = 2) : canD R step user = 37 := by unfold canD; rw [if_neg (by rw [h]; decide), if_neg (by rw [h2]; decide), if_neg (by rw [h3]; decide), if_pos h3]
theorem canD_us {step user : Int} (h : endd R = false) (h2 : hasS R step = true) (h3 : (sAt R step).st ≠ 0) (h4 : (sAt R step).st ≠ 2) (h5 : (sAt R step).us ≠ user) : canD R step user = 36 := by unfold canD; rw [if_neg (by rw [h]; decide), if_neg (by rw [h2]; decide), if_neg h3, if_neg h4, if_pos h5]
theorem canD_ok {step user : Int} (h : endd R = false) (h2 : hasS R step = true) (h3 : (sAt R step).st ≠ 0) (h4 : (sAt R step).st ≠ 2) (h5 : (sAt R step).us = user) : canD R step user = 0 := by unfold canD; rw [if_neg (by rw [h]; decide), if_neg (by rw [h2]; decide), if_neg h3, if_neg h4, if_neg (by rw [h5]; simp)]
set_option maxRecDepth 100000 in
set_option maxHeartbeats 4000000 in
theorem doneF (h : RnAt w B gr gt nm sv rv go ct lv R) (hn : R.S.length ≤ 64) (hl : R.log.length ≤ 100000) (hB : B ≤ w.heap.size) (step user tick : Int) :
    Calls Tryd.prog 9 #[.pointer (some ⟨gr, 0, none⟩), .int .i64 step, .int .i64 user, .int .i64 tick] w (OpR w B gr gt nm sv rv go ct lv (.int .i64 (canD R step user)) (donR R step user tick)) := by
  have KE := hide' (endedF h)
  have KH := hide' (hasF h step)
  have hQ : Hid (∀ z, z ≠ 0 → canD R step user = z → OpR w B gr gt nm sv rv go ct lv (.int .i64 (canD R step user)) (donR R step user tick) (.returned (.int .i64 z)) w) := fun z h0 e => by
    rw [show donR R step user tick = R by unfold donR; rw [if_neg (by rw [e]; exact h0)], e]
    exact OpR.same h (Below.refl _ _) _
  have hQ2 : Hid (canD R step user = 0 → ∀ x w', HapR w B gr gt nm sv rv go ct lv (hapD R step user tick) x w' → OpR w B gr gt nm sv rv go ct lv (.int .i64 (canD R step user)) (donR R step user tick) (.returned (.int .i64 0)) w') := fun e x w' hh => by
    rw [show donR R step user tick = hapD R step user tick by unfold donR; rw [if_pos e], e]
    exact OpR.of_hap (Below.refl _ _) hh _
  cases he : endd R with
  | true =>
    have hF := hide' (hQ.out 30 (by decide) (canD_end he step user))
    rw [he] at KE
    clear hQ hQ2 h he KH
    generalize OpR w B gr gt nm sv rv go ct lv (.int .i64 (canD R step user)) (donR R step user tick) = QQ at *
    go_enter Tryd.func9, Tryd.ntmps9
    go_wp2_with (go_at_call 28; refine KE.out.mono ?_; rintro e w1 ⟨rfl, hw⟩; obtain rfl : w = w1 := hw.symm)
    exact hF.out
  | false =>
  rw [he] at KE
  cases hh : hasS R step with
  | false =>
    have hF := hide' (hQ.out 25 (by decide) (canD_has he hh))
    rw [hh] at KH
    clear hQ hQ2 h he hh
    generalize OpR w B gr gt nm sv rv go ct lv (.int .i64 (canD R step user)) (donR R step user tick) = QQ at *
    go_enter Tryd.func9, Tryd.ntmps9
    go_wp2_with (first | (go_at_call 28; refine KE.out.mono ?_; rintro e w1 ⟨rfl, hw⟩; obtain rfl : w = w1 := hw.symm) | (go_at_call 29; refine KH.out.mono ?_; rintro e w1 ⟨rfl, hw⟩; obtain rfl : w = w1 := hw.symm))
    exact hF.out
  | true =>
  rw [hh] at KH
  obtain ⟨g0, g1, g2⟩ := hasS_iff hh
  have c4 := h.c4
  have hcap := h.cap
  obtain ⟨u0, u1, u2, u3⟩ := h.at (sAt_some hh)
  have KA : Hid (Calls Tryd.prog 22 #[.pointer (some ⟨gr, 0, none⟩), .agg #[.int .i64 tick, .int .i64 3, .int .i64 step, .int .i64 user]] w (HapR w B gr gt nm sv rv go ct lv (hapD R step user tick))) := hapF h ⟨tick, 3, step, user⟩ _ (.inr (.inr (.inr (.inr ⟨rfl, hh, rfl⟩)))) hl hB (by omega)
  have q0 : Hid ((sAt R step).st = 0 → canD R step user = 35) := fun h3 => canD_un he hh h3
  have q1 : Hid ((sAt R step).st = 2 → canD R step user = 37) := fun h3 => canD_dn he hh h3
  have q2 : Hid ((sAt R step).st ≠ 0 → (sAt R step).st ≠ 2 → (sAt R step).us ≠ user → canD R step user = 36) := fun h3 h4 h5 => canD_us he hh h3 h4 h5
  have q3 : Hid ((sAt R step).st ≠ 0 → (sAt R step).st ≠ 2 → (sAt R step).us = user → canD R step user = 0) := fun h3 h4 h5 => canD_ok he hh h3 h4 h5
  clear h he hh
  generalize OpR w B gr gt nm sv rv go ct lv (.int .i64 (canD R step user)) (donR R step user tick) = QQ at *
  generalize canD R step user = cz at *
  generalize hapD R step user tick = RD at *
  generalize (sAt R step).st = t0 at *
  generalize (sAt R step).us = t1 at *
  generalize (sAt R step).ca = t2 at *
  generalize (sAt R step).da = t3 at *
  generalize step.toNat = k at *
  subst g2
  by_cases h0 : t0 = 0
  · subst h0
    have hF := hide' (hQ.out 35 (by decide) (q0.out rfl))
    clear hQ hQ2 KA q0 q1 q2 q3
    go_enter Tryd.func9, Tryd.ntmps9
    go_wp2_with (first | (go_at_call 28; refine KE.out.mono ?_; rintro e w1 ⟨rfl, hw⟩; obtain rfl : w = w1 := hw.symm) | (go_at_call 29; refine KH.out.mono ?_; rintro e w1 ⟨rfl, hw⟩; obtain rfl : w = w1 := hw.symm))
    exact hF.out
  have h0' : (t0 == 0) = false := by rw [beq_eq_false_iff_ne]; exact h0
  by_cases h2 : t0 = 2
  · subst h2
    have hF := hide' (hQ.out 37 (by decide) (q1.out rfl))
    clear hQ hQ2 KA q0 q1 q2 q3
    go_enter Tryd.func9, Tryd.ntmps9
    go_wp2_with (first | (go_at_call 28; refine KE.out.mono ?_; rintro e w1 ⟨rfl, hw⟩; obtain rfl : w = w1 := hw.symm) | (go_at_call 29; refine KH.out.mono ?_; rintro e w1 ⟨rfl, hw⟩; obtain rfl : w = w1 := hw.symm))
    exact hF.out
  have h2' : (t0 == 2) = false := by rw [beq_eq_false_iff_ne]; exact h2
  by_cases h5 : t1 = user
  · have hc := q3.out h0 h2 h5
    subst h5
    have hF0 := hide' (hQ2.out hc)
    clear hQ hQ2 q0 q1 q2 q3 hc h0 h2
    go_enter Tryd.func9, Tryd.ntmps9
    go_wp2_with (first | (go_at_call 28; refine KE.out.mono ?_; rintro e w1 ⟨rfl, hw⟩; obtain rfl : w = w1 := hw.symm) | (go_at_call 29; refine KH.out.mono ?_; rintro e w1 ⟨rfl, hw⟩; obtain rfl : w = w1 := hw.symm))
    refine KA.out.mono ?_
    rintro x w4 hX
    obtain rfl := hX.1
    have hF := hide' (hF0.out _ _ hX)
    clear KA hX hF0
    go_wp2
    exact hF.out
  · have h5' : (t1 == user) = false := by rw [beq_eq_false_iff_ne]; exact h5
    have hF := hide' (hQ.out 36 (by decide) (q2.out h0 h2 h5))
    clear hQ hQ2 KA q0 q1 q2 q3 h5 h0 h2
    go_enter Tryd.func9, Tryd.ntmps9
    go_wp2_with (first | (go_at_call 28; refine KE.out.mono ?_; rintro e w1 ⟨rfl, hw⟩; obtain rfl : w = w1 := hw.symm) | (go_at_call 29; refine KH.out.mono ?_; rintro e w1 ⟨rfl, hw⟩; obtain rfl : w = w1 := hw.symm))
    exact hF.out
set_option maxRecDepth 100000 in
set_option maxHeartbeats 4000000 in
theorem abortF (h : RnAt w B gr gt nm sv rv go ct lv R) (hn : R.S.length ≤ 64) (hl : R.log.length ≤ 100000) (hB : B ≤ w.heap.size) (tick : Int) :
    Calls Tryd.prog 10 #[.pointer (some ⟨gr, 0, none⟩), .int .i64 tick] w (OpR w B gr gt nm sv rv go ct lv (.int .i64 (if endd R = true then 30 else 0)) (aboR R tick)) := by
  have KE := hide' (endedF h)
  cases he : endd R with
  | true =>
    have hF : Hid (OpR w B gr gt nm sv rv go ct lv (.int .i64 (if true = true then 30 else 0)) (aboR R tick) (.returned (.int .i64 30)) w) := by
      rw [show aboR R tick = R by unfold aboR; rw [if_pos he]]
      exact OpR.same h (Below.refl _ _) _
    rw [he] at KE
    clear h he
    generalize OpR w B gr gt nm sv rv go ct lv (.int .i64 (if true = true then 30 else 0)) (aboR R tick) = QQ at *
    go_enter Tryd.func10, Tryd.ntmps10
    go_wp2_with (go_at_call 28; refine KE.out.mono ?_; rintro e w1 ⟨rfl, hw⟩; obtain rfl : w = w1 := hw.symm)
    exact hF.out
  | false =>
    have KA : Hid (∀ W, Below w.heap.size w W → Calls Tryd.prog 22 #[.pointer (some ⟨gr, 0, none⟩), .agg #[.int .i64 tick, .int .i64 4, .int .i64 (-1), .int .i64 (-1)]] W (HapR W B gr gt nm sv rv go ct lv (hapS R 4 ⟨tick, 4, -1, -1⟩))) := fun W hW => hapF (h.over hW) ⟨tick, 4, -1, -1⟩ _ (.inr (.inr (.inl ⟨rfl, rfl⟩))) hl (Nat.le_trans hB hW.size) (by omega)
    have hF0 : Hid (∀ W x w', Below w.heap.size w W → HapR W B gr gt nm sv rv go ct lv (hapS R 4 ⟨tick, 4, -1, -1⟩) x w' → OpR w B gr gt nm sv rv go ct lv (.int .i64 (if false = true then 30 else 0)) (aboR R tick) (.returned (.int .i64 0)) w') := fun W x w' hb hh => by
      rw [show aboR R tick = hapS R 4 ⟨tick, 4, -1, -1⟩ by unfold aboR; rw [he]; rfl]
      exact OpR.of_hap hb hh _
    have KO : Hid (Calls Tryd.prog 23 #[.int .i64 4, .int .i64 tick] w fun x w' => x = .returned (.agg #[.int .i64 tick, .int .i64 4, .int .i64 (-1), .int .i64 (-1)]) ∧ Below w.heap.size w w') := ofNoStepF 4 tick w
    rw [he] at KE
    clear h he
    generalize OpR w B gr gt nm sv rv go ct lv (.int .i64 (if false = true then 30 else 0)) (aboR R tick) = QQ at *
    generalize hapS R 4 ⟨tick, 4, -1, -1⟩ = RA at *
    go_enter Tryd.func10, Tryd.ntmps10
    go_wp2_with (first | (go_at_call 28; refine KE.out.mono ?_; rintro e w1 ⟨rfl, hw⟩; obtain rfl : w = w1 := hw.symm) | (go_at_call 23; refine KO.out.mono ?_; rintro e w2 ⟨rfl, hb2⟩))
    refine (KA.out _ hb2).mono ?_
    rintro x w4 hX
    obtain rfl := hX.1
    have hF := hide' (hF0.out _ _ _ hb2 hX)
    clear KA KO hX hF0 hb2
    go_wp2
    exact hF.out
set_option maxRecDepth 100000 in
set_option maxHeartbeats 4000000 in
theorem markF (h : RnAt w B gr gt nm sv rv go ct lv R) (hn : R.S.length ≤ 64) (hl : R.log.length ≤ 100000) (hB : B ≤ w.heap.size) (b : Bool) (tick : Int) :
    Calls Tryd.prog 11 #[.pointer (some ⟨gr, 0, none⟩), .bool b, .int .i64 tick] w (OpR w B gr gt nm sv rv go ct lv (.bool (mrkB R b)) (mrkR R b tick)) := by
  have KE := hide' (endedF h)
  have c5 := h.c5
  have hF1 : Hid (mrkB R b = false → OpR w B gr gt nm sv rv go ct lv (.bool (mrkB R b)) (mrkR R b tick) (.returned (.bool false)) w) := fun hm => by
    rw [show mrkR R b tick = R by unfold mrkR; rw [hm]; rfl, hm]
    exact OpR.same h (Below.refl _ _) _
  have hF2 : Hid (mrkB R b = true → ∀ W x w', Below w.heap.size w W → HapR W B gr gt nm sv rv go ct lv (hapS R (if b then 2 else 1) ⟨tick, if b then 5 else 6, -1, -1⟩) x w' → OpR w B gr gt nm sv rv go ct lv (.bool (mrkB R b)) (mrkR R b tick) (.returned (.bool true)) w') := fun hm W x w' hb hh => by
    rw [show mrkR R b tick = hapS R (if b then 2 else 1) ⟨tick, if b then 5 else 6, -1, -1⟩ by unfold mrkR; rw [if_pos hm], hm]
    exact OpR.of_hap hb hh _
  have KA : Hid (∀ W, Below w.heap.size w W → Calls Tryd.prog 22 #[.pointer (some ⟨gr, 0, none⟩), .agg #[.int .i64 tick, .int .i64 (if b then 5 else 6), .int .i64 (-1), .int .i64 (-1)]] W (HapR W B gr gt nm sv rv go ct lv (hapS R (if b then 2 else 1) ⟨tick, if b then 5 else 6, -1, -1⟩))) := fun W hW => hapF (h.over hW) ⟨tick, if b then 5 else 6, -1, -1⟩ _ (by cases b; exact .inl ⟨.inr rfl, rfl⟩; exact .inr (.inl ⟨rfl, rfl⟩)) hl (Nat.le_trans hB hW.size) (by omega)
  have KO : Hid (Calls Tryd.prog 23 #[.int .i64 (if b then 5 else 6), .int .i64 tick] w fun x w' => x = .returned (.agg #[.int .i64 tick, .int .i64 (if b then 5 else 6), .int .i64 (-1), .int .i64 (-1)]) ∧ Below w.heap.size w w') := ofNoStepF _ tick w
  have hm : Hid (mrkB R b = (!(endd R) && !(b == decide (R.stat = 2)))) := rfl
  clear h
  generalize OpR w B gr gt nm sv rv go ct lv (.bool (mrkB R b)) (mrkR R b tick) = QQ at *
  generalize hapS R (if b then 2 else 1) ⟨tick, if b then 5 else 6, -1, -1⟩ = RA at *
  generalize mrkB R b = mb at *
  cases he : endd R with
  | true =>
    rw [he] at KE hm
    have hF := hide' (hF1.out hm.out)
    clear hF1 hF2 KA KO he hm
    go_enter Tryd.func11, Tryd.ntmps11
    go_wp2_with (go_at_call 28; refine KE.out.mono ?_; rintro e w1 ⟨rfl, hw⟩; obtain rfl : w = w1 := hw.symm)
    exact hF.out
  | false =>
    rw [he] at KE hm
    clear he
    by_cases h2 : R.stat = 2
    · rw [h2] at c5
      have e2 : decide (R.stat = 2) = true := decide_eq_true h2
      rw [e2] at hm
      clear e2 h2
      cases b with
      | true =>
        have hF := hide' (hF1.out hm.out)
        clear hF1 hF2 KA KO hm
        go_enter Tryd.func11, Tryd.ntmps11
        go_wp2_with (go_at_call 28; refine KE.out.mono ?_; rintro e w1 ⟨rfl, hw⟩; obtain rfl : w = w1 := hw.symm)
        exact hF.out
      | false =>
        have hF0 := hide' (hF2.out hm.out)
        clear hF1 hF2 hm
        simp only [Bool.false_eq_true, if_false] at KO KA
        go_enter Tryd.func11, Tryd.ntmps11
        go_wp2_with (first | (go_at_call 28; refine KE.out.mono ?_; rintro e w1 ⟨rfl, hw⟩; obtain rfl : w = w1 := hw.symm) | (go_at_call 23; refine KO.out.mono ?_; rintro e w2 ⟨rfl, hb2⟩))
        refine (KA.out _ hb2).mono ?_
        rintro x w4 hX
        obtain rfl := hX.1
        have hF := hide' (hF0.out _ _ _ hb2 hX)
        clear KA KO hX hF0 hb2
        go_wp2
        exact hF.out
    · have h2' : (R.stat == 2) = false := by rw [beq_eq_false_iff_ne]; exact h2
      have e2 : decide (R.stat = 2) = false := decide_eq_false h2
      rw [e2] at hm
      clear e2 h2
      cases b with
      | false =>
        have hF := hide' (hF1.out hm.out)
        clear hF1 hF2 KA KO hm
        go_enter Tryd.func11, Tryd.ntmps11
        go_wp2_with (go_at_call 28; refine KE.out.mono ?_; rintro e w1 ⟨rfl, hw⟩; obtain rfl : w = w1 := hw.symm)
        exact hF.out
      | true =>
        have hF0 := hide' (hF2.out hm.out)
        clear hF1 hF2 hm
        simp only [if_true] at KO KA
        go_enter Tryd.func11, Tryd.ntmps11
        go_wp2_with (first | (go_at_call 28; refine KE.out.mono ?_; rintro e w1 ⟨rfl, hw⟩; obtain rfl : w = w1 := hw.symm) | (go_at_call 23; refine KO.out.mono ?_; rintro e w2 ⟨rfl, hb2⟩))
        refine (KA.out _ hb2).mono ?_
        rintro x w4 hX
        obtain rfl := hX.1
        have hF := hide' (hF0.out _ _ _ hb2 hX)
        clear KA KO hX hF0 hb2
        go_wp2
        exact hF.out
end
end Go.Proofs.YtaoddedocibdoaaDoor
