/- PlanSound, walked. -/
import Derived.Test.YtgopaoecmefnkaaDoorJ26
import Derived.Test.YtgopaoecmefnkaaDoorJ28
namespace Go.Proofs.YtgopaoecmefnkaaDoor.S
open Go.RowKit Go.Shelf
set_option maxRecDepth 100000 in
set_option maxHeartbeats 16000000 in
theorem planSound_walk (P : Pb) (wv fv rv : Value) (L : List Int) (lv : Value) (w : World) (h : PbV w P wv fv rv) (hL : RowI w lv L) (hb : ∀ z ∈ P.who, z < 18446744073709551616) (ht : M.Tab w) :
    Calls Tryd.prog 3 #[pbV P wv fv rv, lv] w fun e w' => e = .returned (.bool true) ∧ Below w.heap.size w w' := by
  have hB0 : Hid (Below w.heap.size w (w.alloc (.cells #[.int .i64 P.users, wv, fv, rv] 26))) := (Below.refl _ w).alloc (Nat.le_refl _) _
  have K0 := hide' (cutC P wv fv rv _ (h.below hB0.out))
  have hk := hide' (cutP_ok hb)
  have ht' := hide' ht
  have hGw := ht.2
  have hL' := hide' hL
  have hQb : Hid (∀ V (a b c : Value), PbV V (cutP P) a b c → Calls Tryd.prog 5 #[pbV (cutP P) a b c] V fun e w' => ∃ va vb vc, e = .returned (pbV (cutP P) va vb vc) ∧ Hid (PbV w' (cutP P) va vb vc) ∧ Hid (Below V.heap.size V w') ∧ Hid (∀ ad n c, va = .slice (some ad) n c → V.heap.size ≤ ad.block ∧ ad.block < w'.heap.size)) := fun V a b c hq => cutD P a b c V hq
  have hQl : Hid ((cutP P).who.length ≤ 20) := by show (P.who.take 20).length ≤ 20; rw [List.length_take]; omega
  clear h ht hb hL
  unfold pbV at K0 hQb ⊢
  generalize cutP P = Q at *
  go_enter Tryd.func3, Tryd.ntmps3
  go_wp2_with fail
  refine K0.out.mono ?_
  rintro e w1 ⟨qw, qf, qr, rfl, hq1, hb1, ho1⟩
  have hB1 : Hid (Below w.heap.size w w1) := hB0.out.trans (hb1.out.mono hB0.out.size)
  obtain ⟨ow, cw, of, cf, or, cr, rfl, rfl, rfl⟩ := hq1.out.shape
  clear hb1 hB0 K0
  go_wp2_with fail
  refine (newF _).mono ?_
  rintro e w3 ⟨rfl, hg3, hb3⟩
  have hS := hide' (SvS.start hB1.out hq1.out ht'.out hg3.out hb3.out)
  have hz : (w1.alloc (.cells #[.int .i64 Q.users, .slice ow Q.who.length cw, .slice of Q.fixed.length cf, .slice or Q.rules.length cr] 26)).heap.size = w1.heap.size + 1 := by simp
  have hne : Hid (∀ ad n c, Value.slice ow Q.who.length cw = .slice (some ad) n c → ad.block ≠ (w1.alloc (.cells #[.int .i64 Q.users, .slice ow Q.who.length cw, .slice of Q.fixed.length cf, .slice or Q.rules.length cr] 26)).heap.size) := fun ad n c e => by have := (ho1.out ad n c e).2; omega
  have hgp : Hid (w1.heap.size ≠ (w1.alloc (.cells #[.int .i64 Q.users, .slice ow Q.who.length cw, .slice of Q.fixed.length cf, .slice or Q.rules.length cr] 26)).heap.size) := by show _ ≠ _; omega
  have hgs : Hid (w.heap.size ≤ (w1.alloc (.cells #[.int .i64 Q.users, .slice ow Q.who.length cw, .slice of Q.fixed.length cf, .slice or Q.rules.length cr] 26)).heap.size) := by have := hB1.out.size; show _ ≤ _; omega
  clear hg3 hb3 hq1 ho1 hz hB1 ht'
  generalize (w1.alloc (.cells #[.int .i64 Q.users, .slice ow Q.who.length cw, .slice of Q.fixed.length cf, .slice or Q.rules.length cr] 26)).heap.size = gs at *
  generalize w1.heap.size = g at *
  have hG : Hid (1 ≤ gs) := Nat.le_trans hGw hgs.out
  have K1 : Hid (∀ V a b c, SvS w Q (.slice ow Q.who.length cw) (.slice of Q.fixed.length cf) (.slice or Q.rules.length cr) g gs a b c V → Calls Tryd.prog 5 #[.agg #[.int .i64 Q.users, .slice ow Q.who.length cw, .slice of Q.fixed.length cf, .slice or Q.rules.length cr]] V fun e w' => ∃ va vb vc, e = .returned (.agg #[.int .i64 Q.users, va, vb, vc]) ∧ Hid (PbV w' Q va vb vc) ∧ Hid (Below V.heap.size V w') ∧ Hid (∀ ad n c, va = .slice (some ad) n c → V.heap.size ≤ ad.block ∧ ad.block < w'.heap.size)) := fun V a b c hV => hQb.out V _ _ _ hV.pv
  have K2 : Hid (∀ V va vb vc v' M, PbV V Q va vb vc → RowI V v' M → M.length ≤ 30 → Calls Tryd.prog 8 #[.agg #[.int .i64 Q.users, va, vb, vc], v'] V fun e w' => ∃ oa cap, e = .returned (.tuple #[.slice oa (flwR Q M).length cap, .int .i64 (chkN Q : Int)]) ∧ Hid (Below V.heap.size V w')) := fun V va vb vc v' M hV hr hl => (flawsPF Q va vb vc M v' V hV hr (by omega) hk.out).mono fun e w' ⟨v, h1, h2, h3⟩ => by
    obtain ⟨a, c, rfl⟩ := own_shp h2.out
    exact ⟨a, c, h1, h3⟩
  have K4 : Hid (∀ V v' M, RowI V v' M → Calls Tryd.prog 9 #[v'] V fun e w' => ∃ v'', e = .returned v'' ∧ RowI w' v'' (M.take 30) ∧ Below V.heap.size V w') := fun V v' M hV => row14F M v' V hV
  have K5 : Hid (∀ V va vb vc v' M, PbV V Q va vb vc → RowI V v' M → M.length ≤ 30 → Calls Tryd.prog 10 #[.agg #[.int .i64 Q.users, va, vb, vc], v'] V fun e w' => e = .returned (.bool (holP Q M)) ∧ Below V.heap.size V w') := fun V va vb vc v' M hV hr hl => holdsPF Q va vb vc M v' V hV hr (by omega) hk.out.w hk.out.f hk.out.r hk.out.s hk.out.b
  have K7 : Hid (∀ V, Calls Tryd.prog 7 #[] V fun e w' => e = .returned (.bool true) ∧ Below V.heap.size V w') := fun V => wakes14 V
  have K8 : Hid (∀ V va vb vc, SvS w Q (.slice ow Q.who.length cw) (.slice of Q.fixed.length cf) (.slice or Q.rules.length cr) g gs 0 0 0 V → PbV V Q va vb vc → (∀ ad n c, va = .slice (some ad) n c → ad.block ≠ gs) → Calls Tryd.prog 11 #[.pointer (some ⟨gs, 0, none⟩), .agg #[.int .i64 Q.users, va, vb, vc]] V (LeP V Q gs 0 0 0)) := fun V va vb vc hV hq hn => leastPF Q va vb vc gs 0 0 0 V hq hk.out hV.gg hG.out hV.tab hn (by decide) (by decide) (by decide)
  clear hk hQb
  have hTl : Hid ((L.take 30).length ≤ 30) := by show _ ≤ _; rw [List.length_take]; omega
  have hEq : Hid ((chkN Q ≠ 0 ∧ holP Q (L.take 30) = false) ∨ (chkN Q = 0 ∧ (flwR Q (L.take 30)).length = 0 ∧ holP Q (L.take 30) = true) ∨ (chkN Q = 0 ∧ (flwR Q (L.take 30)).length ≠ 0 ∧ holP Q (L.take 30) = false)) := by
    unfold Hid
    by_cases hC : chkN Q = 0
    · have h1 := flw_nil hC (L.take 30)
      have h2 : flwR Q (L.take 30) = flwL Q (L.take 30) := by unfold flwR; rw [if_pos hC]
      rw [h2]
      cases q : holP Q (L.take 30) with
      | true => exact .inr (.inl ⟨hC, h1.2 q, rfl⟩)
      | false => exact .inr (.inr ⟨hC, (fun e => by rw [h1.1 e] at q; cases q), rfl⟩)
    · exact .inl ⟨hC, by cases q : holP Q (L.take 30); rfl; exact absurd (holP_chk q) hC⟩
  have hGd : Hid (∀ l, holP Q l = true → chkN Q = 0 ∧ (flwR Q l).length = 0 ∧ l.take 30 = l) := fun l hl => by
    have hC := holP_chk hl
    refine ⟨hC, ?_, ?_⟩
    · unfold flwR
      rw [if_pos hC]
      exact (flw_nil hC l).2 hl
    · have h2 := (holP_of hl).2.1
      have := hQl.out
      exact List.take_of_length_le (by omega)
  go_wp2_with fail
  refine (K7.out _).mono ?_
  rintro e w4 ⟨rfl, hb4⟩
  have hS4 := hide' (hS.out.over hb4)
  have hgl : Hid (gs < w4.heap.size) := hS4.out.gg.lt
  clear hb4 hS K7
  have q := hS4.out.pb.all
  go_wp2_with fail
  refine (K1.out _ _ _ _ hS4.out).mono ?_
  rintro e w5 ⟨va, vb, vc, rfl, hq5, hb5, ho5⟩
  have hS5 := hide' (hS4.out.over hb5.out)
  have hr5 := hide' (hL'.out.below hS5.out.be (Nat.le_refl _))
  clear q hb5 ho5 hS4
  go_wp2_with fail
  refine (K4.out _ _ _ hr5.out).mono ?_
  rintro e w6 ⟨v6, rfl, hr6, hb6⟩
  have hS6 := hide' (hS5.out.over hb6)
  have hq6 := hide' (hq5.out.below hb6)
  have hr6' := hide' hr6
  clear hS5 hb6 hq5 hr5 hr6
  go_wp2_with fail
  refine (K2.out _ _ _ _ _ _ hq6.out hr6'.out hTl.out).mono ?_
  rintro e w7 ⟨o7, c7, rfl, hb7⟩
  have hS7 := hide' (hS6.out.over hb7.out)
  have hr7 := hide' (hL'.out.below hS7.out.be (Nat.le_refl _))
  clear hS6 hb7 hq6 hr6'
  have hK5 := hide' (fun V va vb vc v' hV hr => K5.out V va vb vc v' (L.take 30) hV hr hTl.out)
  generalize (flwR Q (L.take 30)).length = n7 at *
  obtain ⟨bb, hbb⟩ : ∃ b, b = holP Q (L.take 30) := ⟨_, rfl⟩
  rw [← hbb] at hEq hK5
  clear hbb K5
  obtain ⟨q0, q1, q2, q3⟩ := hS7.out.pb.all
  rcases hEq.out with ⟨hC, rfl⟩ | ⟨hC, hn, rfl⟩ | ⟨hC, hn, rfl⟩
  · have hc0 : (((chkN Q : Nat) : Int) == 0) = false := by rw [beq_eq_false_iff_ne]; omega
    have hc1 : ((chkN Q : Nat) : Int) ≠ 0 := by omega
    clear hEq
    go_wp2_with fail
    refine (K1.out _ _ _ _ hS7.out).mono ?_
    rintro e w8 ⟨va8, vb8, vc8, rfl, hq8, hb8, ho8⟩
    have hS8 := hide' (hS7.out.over hb8.out)
    have hr8 := hide' (hL'.out.below hS8.out.be (Nat.le_refl _))
    clear q0 q1 q2 q3 hb8 ho8 hS7 hr7
    go_wp2_with fail
    refine (K4.out _ _ _ hr8.out).mono ?_
    rintro e w9 ⟨v9, rfl, hr9, hb9⟩
    have hS9 := hide' (hS8.out.over hb9)
    have hq9 := hide' (hq8.out.below hb9)
    have hr9' := hide' hr9
    clear hS8 hb9 hq8 hr8 hr9
    go_wp2_with fail
    refine (hK5.out _ _ _ _ _ hq9.out hr9'.out).mono ?_
    rintro e w10 ⟨rfl, hb10⟩
    have hS10 := hide' (hS9.out.over hb10)
    clear hS9 hb10 hq9 hr9' hK5 hc0
    obtain ⟨q0, q1, q2, q3⟩ := hS10.out.pb.all
    have hgl2 : Hid (gs < w10.heap.size) := hS10.out.gg.lt
    go_wp2_with fail
    refine (K1.out _ _ _ _ hS10.out).mono ?_
    rintro e w11 ⟨va11, vb11, vc11, rfl, hq11, hb11, ho11⟩
    have hS11 := hide' (hS10.out.over hb11.out)
    have hn11 : Hid (∀ ad n c, va11 = .slice (some ad) n c → ad.block ≠ gs) := fun ad n c e => by have := (ho11.out ad n c e).1; have := hgl2.out; omega
    clear q0 q1 q2 q3 hb11 ho11 hS10
    go_wp2_with fail
    refine (K8.out _ _ _ _ hS11.out hq11.out hn11.out).mono ?_
    rintro e w12 ⟨⟨a12, b12, c12, hg12, _⟩, hf12, ⟨rfl, hls⟩ | ⟨v, l, rfl, hls, hown⟩⟩
    · have hS12 := hide' (hS11.out.fr hf12.out hg12.out hgs.out hne.out hgp.out hG.out)
      clear hS11 hf12 hg12 hq11 hn11 hne hgp hgs hG hgl K8 K1 K2 K4 hGd
      go_wp2
      go_ret
      exact ⟨rfl, hS12.out.be⟩
    · have hS12 := hide' (hS11.out.fr hf12.out hg12.out hgs.out hne.out hgp.out hG.out)
      obtain ⟨hC2, hF2, hT2⟩ := hGd.out l hls.out.1
      have hr12 := hide' (RowI.of_owns hown.out)
      obtain ⟨ol, cl, rfl⟩ := own_shp hown.out
      have hll : l.length ≤ 30 := by rw [← hT2, List.length_take]; omega
      have hll' := hide' hll
      have hT2' := hide' hT2
      have hF2' := hide' hF2
      have hK2 : Hid (∀ V va vb vc v', PbV V Q va vb vc → RowI V v' l → Calls Tryd.prog 8 #[.agg #[.int .i64 Q.users, va, vb, vc], v'] V fun e w' => ∃ oa cap, e = .returned (.tuple #[.slice oa 0 cap, .int .i64 0]) ∧ Hid (Below V.heap.size V w')) := fun V va vb vc v' h1 h2 => (K2.out V va vb vc v' l h1 h2 hll'.out).mono fun e w' ⟨a, c, h3, h4⟩ => ⟨a, c, by rw [h3, hF2'.out, hC2]; rfl, h4⟩
      have hK4 : Hid (∀ V v', RowI V v' l → Calls Tryd.prog 9 #[v'] V fun e w' => ∃ v'', e = .returned v'' ∧ RowI w' v'' l ∧ Below V.heap.size V w') := fun V v' h1 => by
        have := K4.out V v' l h1
        rw [hT2'.out] at this
        exact this
      clear hS11 hf12 hg12 hq11 hn11 hne hgp hgs hG hgl K8 K2 K4 hGd hC2 hF2 hT2 hll hown hls hC
      obtain ⟨q0, q1, q2, q3⟩ := hS12.out.pb.all
      go_wp2_with fail
      refine (K1.out _ _ _ _ hS12.out).mono ?_
      rintro e w13 ⟨va13, vb13, vc13, rfl, hq13, hb13, _⟩
      have hS13 := hide' (hS12.out.over hb13.out)
      have hr13 := hide' (hr12.out.below hb13.out (Nat.le_refl _))
      clear q0 q1 q2 q3 hb13 hS12 hr12
      go_wp2_with fail
      refine (hK4.out _ _ hr13.out).mono ?_
      rintro e w14 ⟨v14, rfl, hr14, hb14⟩
      have hS14 := hide' (hS13.out.over hb14)
      have hq14 := hide' (hq13.out.below hb14)
      have hr14' := hide' hr14
      clear hS13 hb14 hq13 hr13 hr14
      go_wp2_with fail
      refine (hK2.out _ _ _ _ _ hq14.out hr14'.out).mono ?_
      rintro e w15 ⟨o15, c15, rfl, hb15⟩
      have hS15 := hide' (hS14.out.over hb15.out)
      clear hS14 hb15 hq14 hr14' hK2 hK4 K1
      go_wp2
      go_ret
      exact ⟨rfl, hS15.out.be⟩
  · have hc0 : (((chkN Q : Nat) : Int) == 0) = true := by rw [beq_iff_eq]; omega
    have hc1 : ((chkN Q : Nat) : Int) = 0 := by omega
    clear hEq
    subst hn
    go_wp2_with fail
    refine (K1.out _ _ _ _ hS7.out).mono ?_
    rintro e w8 ⟨va8, vb8, vc8, rfl, hq8, hb8, ho8⟩
    have hS8 := hide' (hS7.out.over hb8.out)
    have hr8 := hide' (hL'.out.below hS8.out.be (Nat.le_refl _))
    clear q0 q1 q2 q3 hb8 ho8 hS7 hr7
    go_wp2_with fail
    refine (K4.out _ _ _ hr8.out).mono ?_
    rintro e w9 ⟨v9, rfl, hr9, hb9⟩
    have hS9 := hide' (hS8.out.over hb9)
    have hq9 := hide' (hq8.out.below hb9)
    have hr9' := hide' hr9
    clear hS8 hb9 hq8 hr8 hr9
    go_wp2_with fail
    refine (hK5.out _ _ _ _ _ hq9.out hr9'.out).mono ?_
    rintro e w10 ⟨rfl, hb10⟩
    have hS10 := hide' (hS9.out.over hb10)
    clear hS9 hb10 hq9 hr9' hK5 hc0
    obtain ⟨q0, q1, q2, q3⟩ := hS10.out.pb.all
    have hgl2 : Hid (gs < w10.heap.size) := hS10.out.gg.lt
    go_wp2_with fail
    refine (K1.out _ _ _ _ hS10.out).mono ?_
    rintro e w11 ⟨va11, vb11, vc11, rfl, hq11, hb11, ho11⟩
    have hS11 := hide' (hS10.out.over hb11.out)
    have hn11 : Hid (∀ ad n c, va11 = .slice (some ad) n c → ad.block ≠ gs) := fun ad n c e => by have := (ho11.out ad n c e).1; have := hgl2.out; omega
    clear q0 q1 q2 q3 hb11 ho11 hS10
    go_wp2_with fail
    refine (K8.out _ _ _ _ hS11.out hq11.out hn11.out).mono ?_
    rintro e w12 ⟨⟨a12, b12, c12, hg12, _⟩, hf12, ⟨rfl, hls⟩ | ⟨v, l, rfl, hls, hown⟩⟩
    · have hS12 := hide' (hS11.out.fr hf12.out hg12.out hgs.out hne.out hgp.out hG.out)
      clear hS11 hf12 hg12 hq11 hn11 hne hgp hgs hG hgl K8 K1 K2 K4 hGd
      go_wp2
      go_ret
      exact ⟨rfl, hS12.out.be⟩
    · have hS12 := hide' (hS11.out.fr hf12.out hg12.out hgs.out hne.out hgp.out hG.out)
      obtain ⟨hC2, hF2, hT2⟩ := hGd.out l hls.out.1
      have hr12 := hide' (RowI.of_owns hown.out)
      obtain ⟨ol, cl, rfl⟩ := own_shp hown.out
      have hll : l.length ≤ 30 := by rw [← hT2, List.length_take]; omega
      have hll' := hide' hll
      have hT2' := hide' hT2
      have hF2' := hide' hF2
      have hK2 : Hid (∀ V va vb vc v', PbV V Q va vb vc → RowI V v' l → Calls Tryd.prog 8 #[.agg #[.int .i64 Q.users, va, vb, vc], v'] V fun e w' => ∃ oa cap, e = .returned (.tuple #[.slice oa 0 cap, .int .i64 0]) ∧ Hid (Below V.heap.size V w')) := fun V va vb vc v' h1 h2 => (K2.out V va vb vc v' l h1 h2 hll'.out).mono fun e w' ⟨a, c, h3, h4⟩ => ⟨a, c, by rw [h3, hF2'.out, hC2]; rfl, h4⟩
      have hK4 : Hid (∀ V v', RowI V v' l → Calls Tryd.prog 9 #[v'] V fun e w' => ∃ v'', e = .returned v'' ∧ RowI w' v'' l ∧ Below V.heap.size V w') := fun V v' h1 => by
        have := K4.out V v' l h1
        rw [hT2'.out] at this
        exact this
      clear hS11 hf12 hg12 hq11 hn11 hne hgp hgs hG hgl K8 K2 K4 hGd hC2 hF2 hT2 hll hown hls hC
      obtain ⟨q0, q1, q2, q3⟩ := hS12.out.pb.all
      go_wp2_with fail
      refine (K1.out _ _ _ _ hS12.out).mono ?_
      rintro e w13 ⟨va13, vb13, vc13, rfl, hq13, hb13, _⟩
      have hS13 := hide' (hS12.out.over hb13.out)
      have hr13 := hide' (hr12.out.below hb13.out (Nat.le_refl _))
      clear q0 q1 q2 q3 hb13 hS12 hr12
      go_wp2_with fail
      refine (hK4.out _ _ hr13.out).mono ?_
      rintro e w14 ⟨v14, rfl, hr14, hb14⟩
      have hS14 := hide' (hS13.out.over hb14)
      have hq14 := hide' (hq13.out.below hb14)
      have hr14' := hide' hr14
      clear hS13 hb14 hq13 hr13 hr14
      go_wp2_with fail
      refine (hK2.out _ _ _ _ _ hq14.out hr14'.out).mono ?_
      rintro e w15 ⟨o15, c15, rfl, hb15⟩
      have hS15 := hide' (hS14.out.over hb15.out)
      clear hS14 hb15 hq14 hr14' hK2 hK4 K1
      go_wp2
      go_ret
      exact ⟨rfl, hS15.out.be⟩
  · have hc0 : (((chkN Q : Nat) : Int) == 0) = true := by rw [beq_iff_eq]; omega
    have hc1 : ((chkN Q : Nat) : Int) = 0 := by omega
    have hn0 : ((n7 : Int) == 0) = false := by rw [beq_eq_false_iff_ne]; omega
    have hn1 : (n7 : Int) ≠ 0 := by omega
    clear hEq
    go_wp2_with fail
    refine (K1.out _ _ _ _ hS7.out).mono ?_
    rintro e w8 ⟨va8, vb8, vc8, rfl, hq8, hb8, ho8⟩
    have hS8 := hide' (hS7.out.over hb8.out)
    have hr8 := hide' (hL'.out.below hS8.out.be (Nat.le_refl _))
    clear q0 q1 q2 q3 hb8 ho8 hS7 hr7
    go_wp2_with fail
    refine (K4.out _ _ _ hr8.out).mono ?_
    rintro e w9 ⟨v9, rfl, hr9, hb9⟩
    have hS9 := hide' (hS8.out.over hb9)
    have hq9 := hide' (hq8.out.below hb9)
    have hr9' := hide' hr9
    clear hS8 hb9 hq8 hr8 hr9
    go_wp2_with fail
    refine (hK5.out _ _ _ _ _ hq9.out hr9'.out).mono ?_
    rintro e w10 ⟨rfl, hb10⟩
    have hS10 := hide' (hS9.out.over hb10)
    clear hS9 hb10 hq9 hr9' hK5 hc0
    obtain ⟨q0, q1, q2, q3⟩ := hS10.out.pb.all
    have hgl2 : Hid (gs < w10.heap.size) := hS10.out.gg.lt
    go_wp2_with fail
    refine (K1.out _ _ _ _ hS10.out).mono ?_
    rintro e w11 ⟨va11, vb11, vc11, rfl, hq11, hb11, ho11⟩
    have hS11 := hide' (hS10.out.over hb11.out)
    have hn11 : Hid (∀ ad n c, va11 = .slice (some ad) n c → ad.block ≠ gs) := fun ad n c e => by have := (ho11.out ad n c e).1; have := hgl2.out; omega
    clear q0 q1 q2 q3 hb11 ho11 hS10
    go_wp2_with fail
    refine (K8.out _ _ _ _ hS11.out hq11.out hn11.out).mono ?_
    rintro e w12 ⟨⟨a12, b12, c12, hg12, _⟩, hf12, ⟨rfl, hls⟩ | ⟨v, l, rfl, hls, hown⟩⟩
    · have hS12 := hide' (hS11.out.fr hf12.out hg12.out hgs.out hne.out hgp.out hG.out)
      clear hS11 hf12 hg12 hq11 hn11 hne hgp hgs hG hgl K8 K1 K2 K4 hGd
      go_wp2
      go_ret
      exact ⟨rfl, hS12.out.be⟩
    · have hS12 := hide' (hS11.out.fr hf12.out hg12.out hgs.out hne.out hgp.out hG.out)
      obtain ⟨hC2, hF2, hT2⟩ := hGd.out l hls.out.1
      have hr12 := hide' (RowI.of_owns hown.out)
      obtain ⟨ol, cl, rfl⟩ := own_shp hown.out
      have hll : l.length ≤ 30 := by rw [← hT2, List.length_take]; omega
      have hll' := hide' hll
      have hT2' := hide' hT2
      have hF2' := hide' hF2
      have hK2 : Hid (∀ V va vb vc v', PbV V Q va vb vc → RowI V v' l → Calls Tryd.prog 8 #[.agg #[.int .i64 Q.users, va, vb, vc], v'] V fun e w' => ∃ oa cap, e = .returned (.tuple #[.slice oa 0 cap, .int .i64 0]) ∧ Hid (Below V.heap.size V w')) := fun V va vb vc v' h1 h2 => (K2.out V va vb vc v' l h1 h2 hll'.out).mono fun e w' ⟨a, c, h3, h4⟩ => ⟨a, c, by rw [h3, hF2'.out, hC2]; rfl, h4⟩
      have hK4 : Hid (∀ V v', RowI V v' l → Calls Tryd.prog 9 #[v'] V fun e w' => ∃ v'', e = .returned v'' ∧ RowI w' v'' l ∧ Below V.heap.size V w') := fun V v' h1 => by
        have := K4.out V v' l h1
        rw [hT2'.out] at this
        exact this
      clear hS11 hf12 hg12 hq11 hn11 hne hgp hgs hG hgl K8 K2 K4 hGd hC2 hF2 hT2 hll hown hls hC
      obtain ⟨q0, q1, q2, q3⟩ := hS12.out.pb.all
      go_wp2_with fail
      refine (K1.out _ _ _ _ hS12.out).mono ?_
      rintro e w13 ⟨va13, vb13, vc13, rfl, hq13, hb13, _⟩
      have hS13 := hide' (hS12.out.over hb13.out)
      have hr13 := hide' (hr12.out.below hb13.out (Nat.le_refl _))
      clear q0 q1 q2 q3 hb13 hS12 hr12
      go_wp2_with fail
      refine (hK4.out _ _ hr13.out).mono ?_
      rintro e w14 ⟨v14, rfl, hr14, hb14⟩
      have hS14 := hide' (hS13.out.over hb14)
      have hq14 := hide' (hq13.out.below hb14)
      have hr14' := hide' hr14
      clear hS13 hb14 hq13 hr13 hr14
      go_wp2_with fail
      refine (hK2.out _ _ _ _ _ hq14.out hr14'.out).mono ?_
      rintro e w15 ⟨o15, c15, rfl, hb15⟩
      have hS15 := hide' (hS14.out.over hb15.out)
      clear hS14 hb15 hq14 hr14' hK2 hK4 K1
      go_wp2
      go_ret
      exact ⟨rfl, hS15.out.be⟩
end Go.Proofs.YtgopaoecmefnkaaDoor.S
