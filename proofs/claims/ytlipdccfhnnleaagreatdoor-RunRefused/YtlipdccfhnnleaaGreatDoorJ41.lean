/- RunRefused: the law's walk. -/
import Derived.Test.YtlipdccfhnnleaaGreatDoorJ28
import Derived.Test.YtlipdccfhnnleaaGreatDoorJ40
import Derived.Deep.CutRange
import Derived.Deep.CutBlock
namespace Go.Proofs.YtlipdccfhnnleaaGreatDoor
open Go.RowKit
set_option maxRecDepth 100000 in
set_option maxHeartbeats 8000000 in
theorem runRefused_walk (F0 : Fw) (v : Value) (L : List Oq) (ov : Value) (q : Oq) (w : World) (hv : flV w v F0) (hN : FlN F0) (hL : RowQ w ov L) (ht : O.Tab w) :
    Calls Tryz.prog 4 #[v, ov, oqV q] w fun e w' => e = .returned (.bool true) ∧ Below w.heap.size w w' := by
  have KT0 : Hid (∀ W, Below w.heap.size w W → Calls Tryz.prog 6 #[v] W (CopR W (cutFw F0))) := fun W hW => twin7F F0 v W (hv.below hW (Nat.le_refl _))
  have KT1 : Hid (∀ V W x, flV V x (cutFw F0) → Below V.heap.size V W → Calls Tryz.prog 6 #[x] W (CopR W (cutFw F0))) := fun V W x hx hW => by
    have := twin7F (cutFw F0) x W (hx.below hW (Nat.le_refl _))
    rwa [cut_idem] at this
  have hB := flb_cut hN
  have hB' := hide' hB
  have KN : Hid (∀ W x, flV W x (cutFw F0) → Below w.heap.size w W → Calls Tryz.prog 7 #[x, .int .i64 0] W (NewP (cutFw F0) 0 W)) := fun W x hx hW => newRF _ x 0 W hx hB (ht.over hW)
  have KD : Hid (∀ W x, flV W x (cutFw F0) → Calls Tryz.prog 8 #[x, .int .i64 0] W (NewZ (cutFw F0) 0 W)) := fun W x hx => newD _ x 0 W hx hB
  have KC : Hid (∀ W x, flV W x (cutFw F0) → Calls Tryz.prog 12 #[x] W (flErr W (chkF (cutFw F0)))) := fun W x hx => checkD _ x W hx hB
  have KW : Hid (∀ W, Below w.heap.size w W → Calls Tryz.prog 9 #[] W fun e w' => e = .returned (.bool true) ∧ Below W.heap.size W w') := fun W hW => wakes17 W (ht.over hW)
  have T : Hid (∀ W, Below w.heap.size w W → O.Tab W) := fun W hW => ht.over hW
  generalize cutFw F0 = F at *
  obtain ⟨sv0, rv0, rfl, hs, hr⟩ := hv
  obtain ⟨oa, cap, rfl⟩ := hs.shape
  obtain ⟨ob, cb, rfl⟩ := hr.shape
  obtain ⟨oq, cq, rfl, hcq, hLc⟩ := hL
  have hLc' := hide' hLc
  clear hs hr hB hN ht hLc
  obtain ⟨qon, qop, qstep, quser, qtick, qstuck⟩ := q
  unfold oqV
  have B0 : Hid (Below w.heap.size w ((w.alloc (.cells #[.string F0.name, .slice oa F0.steps.length cap, .slice ob F0.rules.length cb] 25)).alloc (.cells #[.int .i64 qon, .int .i64 qop, .int .i64 qstep, .int .i64 quser, .int .i64 qtick, .bool qstuck] 37))) := ((Below.refl _ w).alloc (Nat.le_refl _) _).alloc (by simp) _
  have X0 : Hid (((w.alloc (.cells #[.string F0.name, .slice oa F0.steps.length cap, .slice ob F0.rules.length cb] 25)).alloc (.cells #[.int .i64 qon, .int .i64 qop, .int .i64 qstep, .int .i64 quser, .int .i64 qtick, .bool qstuck] 37)).heap[w.heap.size + 1]? = some (.cells #[.int .i64 qon, .int .i64 qop, .int .i64 qstep, .int .i64 quser, .int .i64 qtick, .bool qstuck] 37 (0, 0))) := by
    have := heap_alloc_new (w.alloc (.cells #[.string F0.name, .slice oa F0.steps.length cap, .slice ob F0.rules.length cb] 25)) (.cells #[.int .i64 qon, .int .i64 qop, .int .i64 qstep, .int .i64 quser, .int .i64 qtick, .bool qstuck] 37)
    rwa [World.size_alloc] at this
  go_enter Tryz.func4, Tryz.ntmps4
  go_wp2_with fail
  generalize (w.alloc (.cells #[.string F0.name, .slice oa F0.steps.length cap, .slice ob F0.rules.length cb] 25)).alloc (.cells #[.int .i64 qon, .int .i64 qop, .int .i64 qstep, .int .i64 quser, .int .i64 qtick, .bool qstuck] 37) = W0 at *
  have hx0 : Hid (w.heap.size + 1 < W0.heap.size) := (Array.getElem?_eq_some_iff.1 X0.out).1
  refine (KT0.out _ B0.out).mono ?_
  intro e w1 hC1
  obtain ⟨o1, c1, o2, c2, P1, P2, rfl, hF1, hb1⟩ := CopR.open hC1
  have B1 := hide' (B0.out.trans (hb1.mono B0.out.size))
  have E1 := hide' ((Below.refl W0.heap.size W0).trans hb1)
  clear KT0 hC1 hb1
  have hF1' := hide' (hF1.over ((Below.refl _ w1).alloc (Nat.le_refl _) (.cells #[.string F.name, .slice o1 F.steps.length c1, .slice o2 F.rules.length c2] 25)))
  have D1 := hide' (heap_alloc_new w1 (.cells #[.string F.name, .slice o1 F.steps.length c1, .slice o2 F.rules.length c2] 25))
  have B2 := hide' (B1.out.alloc B1.out.size (.cells #[.string F.name, .slice o1 F.steps.length c1, .slice o2 F.rules.length c2] 25))
  have E2 := hide' (E1.out.alloc E1.out.size (.cells #[.string F.name, .slice o1 F.steps.length c1, .slice o2 F.rules.length c2] 25))
  clear hF1 E1
  go_wp2_with fail
  generalize hbg : w1.heap.size = bg at *
  generalize w1.alloc (.cells #[.string F.name, .slice o1 F.steps.length c1, .slice o2 F.rules.length c2] 25) = W2 at *
  clear hbg
  refine (KT1.out W2 _ _ hF1'.out.fl (Below.refl _ _)).mono ?_
  intro e w3 hC3
  obtain ⟨o3, c3, o4, c4, P3, P4, rfl, hF3, hb3⟩ := CopR.open hC3
  have B3 := hide' (B2.out.trans (hb3.mono B2.out.size))
  have E3 := hide' (E2.out.trans (hb3.mono E2.out.size))
  have hF13 := hide' (hF1'.out.over hb3)
  have D3 : Hid (w3.heap[bg]? = some (.cells #[.string F.name, .slice o1 F.steps.length c1, .slice o2 F.rules.length c2] 25 (0, 0))) := (hb3.block bg (Array.getElem?_eq_some_iff.1 D1.out).1).trans D1.out
  have KN3 := hide' (KN.out w3 _ hF3.fl B3.out)
  clear KT1 KN hC3 hF3 D1 hF1' B2 E2 hb3
  go_wp2_with fail
  refine KN3.out.mono ?_
  rintro e w4 (⟨h0, rfl, hb4⟩ | ⟨ok, V0, gr, gt, sv, rv, go, gp, gs, ct, Pf, Sf, Q1, Q2, lv, rfl, hbV, hog, hX⟩)
  · have B4 := hide' (B3.out.trans (hb4.mono B3.out.size))
    have hF14 := hide' (hF13.out.over hb4)
    have D4 : Hid (w4.heap[bg]? = some (.cells #[.string F.name, .slice o1 F.steps.length c1, .slice o2 F.rules.length c2] 25 (0, 0))) := (hb4.block bg (Array.getElem?_eq_some_iff.1 D3.out).1).trans D3.out
    have g0 : w4.cell? ⟨bg, 0, none⟩ = some (.string F.name) := by simp [World.cell?, D4.out]
    have g1 : w4.cell? ⟨bg, 1, none⟩ = some (.slice o1 F.steps.length c1) := by simp [World.cell?, D4.out]
    have g2 : w4.cell? ⟨bg, 2, none⟩ = some (.slice o2 F.rules.length c2) := by simp [World.cell?, D4.out]
    have KC4 := hide' (KC.out w4 _ hF14.out.fl)
    generalize chkF F = z at *
    have h0' : (z == 0) = false := by rw [beq_eq_false_iff_ne]; exact h0
    clear KC KN3 KW KD T hF13 D3 hb4 hLc' hF14 D4 B3 B1 hB' X0 E3 hx0
    go_wp2_with fail
    refine KC4.out.mono ?_
    rintro e w5 ⟨rfl, hb5⟩
    have B5 := hide' (B4.out.trans (hb5.mono B4.out.size))
    clear KC4 hb5 B4
    go_wp2
    go_ret
    exact ⟨ret_bool (by simp [h0]), B5.out⟩
  · have hbX : Below w3.heap.size w3 w4 := hbV.trans (hX.bl.mono hbV.size)
    have B4 := hide' (B3.out.trans (hbX.mono B3.out.size))
    have E4 := hide' (E3.out.trans (hbX.mono E3.out.size))
    have hP4 := hide' (pr_of hbV hog hX)
    have hF14 := hide' (hF13.out.over hbX)
    have D4 : Hid (w4.heap[bg]? = some (.cells #[.string F.name, .slice o1 F.steps.length c1, .slice o2 F.rules.length c2] 25 (0, 0))) := (hbX.block bg (Array.getElem?_eq_some_iff.1 D3.out).1).trans D3.out
    have KW4 := hide' (KW.out w4 B4.out)
    have hw3 := hide' B3.out.size
    have hV3 := hide' hbV.size
    have hs03 := hide' E3.out.size
    clear KC KN3 KW hF13 D3 hbV hX hog hbX B1 B3 E3
    go_wp2_with fail
    refine KW4.out.mono ?_
    rintro e w5 ⟨rfl, hb5⟩
    have B5 := hide' (B4.out.trans (hb5.mono B4.out.size))
    have E5 := hide' (E4.out.trans (hb5.mono E4.out.size))
    have hF15 := hide' (hF14.out.over hb5)
    have D5 : Hid (w5.heap[bg]? = some (.cells #[.string F.name, .slice o1 F.steps.length c1, .slice o2 F.rules.length c2] 25 (0, 0))) := (hb5.block bg (Array.getElem?_eq_some_iff.1 D4.out).1).trans D4.out
    obtain ⟨g0, g1, g2⟩ := bx3 D5.out
    have b5 := hide' hb5
    clear KW4 hF14 D4 B4 E4 hb5
    go_wp2_with fail
    refine (KD.out w5 _ hF15.out.fl).mono ?_
    rintro e w6 (⟨h0, _⟩ | ⟨_, V1, gd, hd, sv1, rv1, go1, ct1, U1, U2, ev, rfl, hb6, hZ⟩)
    · exact absurd (chkF_ok ok) h0
    have B6 := hide' (B5.out.trans (hb6.mono B5.out.size))
    have E6 := hide' (E5.out.trans (hb6.mono E5.out.size))
    have hS6 : Hid (∃ k : SdK, (k.F = F ∧ k.gr = gr ∧ k.gd = gd) ∧ Sd k lv ev (newR F.steps.length 0) (newR F.steps.length 0) w6 ∧ w.heap.size ≤ k.V0.heap.size ∧ w.heap.size ≤ k.lo1 ∧ k.lo1 = w5.heap.size ∧ w3.heap.size ≤ k.V0.heap.size) := by
      refine ⟨⟨F, w3.heap.size, V0, gr, gt, sv, rv, go, gp, gs, ct, Pf, Sf, Q1, Q2, w5.heap.size, V1, gd, hd, sv1, rv1, go1, ct1, U1, U2⟩, ⟨rfl, rfl, rfl⟩, ?_, Nat.le_trans hw3.out hV3.out, B5.out.size, rfl, hV3.out⟩
      have hp5 : SdK.P ⟨F, w3.heap.size, V0, gr, gt, sv, rv, go, gp, gs, ct, Pf, Sf, Q1, Q2, w5.heap.size, V1, gd, hd, sv1, rv1, go1, ct1, U1, U2⟩ lv (newR F.steps.length 0) w4 := hP4.out
      exact Sd.start (hp5.kept b5.out.size fun b hb _ => b5.out.block b hb) hZ rfl hb6
    obtain ⟨k, ⟨hkF, hkr, hkd⟩, hS, hk1, hk2, hk3, hk4⟩ := hS6.out
    subst hkF hkr hkd
    have hge := hide' (hS.ge hk1 hk2)
    have hop : Hid (¬ k.wr lv ev (w.heap.size + 1)) := fun e => by
      have := hS.ge (m := W0.heap.size) (Nat.le_trans hs03.out hk4) (by rw [hk3]; exact E5.out.size) _ e
      have := hx0.out
      omega
    have X6 : Hid (w6.heap[w.heap.size + 1]? = some (.cells #[.int .i64 qon, .int .i64 qop, .int .i64 qstep, .int .i64 quser, .int .i64 qtick, .bool qstuck] 37 (0, 0))) := (E6.out.block _ hx0.out).trans X0.out
    have hn0 := ok.ne
    have hn12 := ok.le
    have hL0 := hide' (Lp.start hS hn0)
    clear KD hF15 hS6 hS hk1 hk2 hk3 hk4 B5 E5 E6 b5 hP4 X0 hs03 hV3 hw3 g0 g1 g2 D5 hZ hb6 hx0 ok
    go_upto_block 0 with fail
    go_cut [12] from 50 to 115 (fun _ wx => ∃ (lv' ev' : Value) (R : Rs), Hid (Lp k lv ev w6 lv' ev' k.F.steps.length R 200 wx))
    case first => as_aux_lemma =>
      go_wp2
      go_loopw [12] (fun j wr => ∃ (c : Nat) (lv' ev' : Value) (R : Rs), c ≤ L.length ∧ c ≤ 200 ∧ j = .int .i64 c ∧ Hid (Lp k lv ev w6 lv' ev' k.F.steps.length R c wr)) (fun j _ => ((200 : Int) - intOf j).toNat)
      case atStart => exact ⟨0, lv, ev, _, Nat.zero_le _, Nat.zero_le _, rfl, hL0⟩
      case round =>
        clear hL0
        obtain ⟨c, lv', ev', R, hcl, hc200, rfl, hP⟩ := hrel
        have hbw := hide' (hP.out.bel B6.out hge.out)
        by_cases hgo : c < L.length ∧ c < 200
        · obtain ⟨hlt, h200⟩ := hgo
          obtain ⟨q, hx⟩ : ∃ x, L[c]? = some x := ⟨_, List.getElem?_eq_getElem hlt⟩
          obtain ⟨g, f, rfl, e0, e1, e2, e3, e4, e5⟩ := hLc'.out c q hx
          have d0 := (hbw.out.cell (p := ⟨g, f + c * 6, none⟩) (cell_lt e0)).trans e0
          have d1 := (hbw.out.cell (p := ⟨g, f + c * 6 + 1, none⟩) (cell_lt e1)).trans e1
          have d2 := (hbw.out.cell (p := ⟨g, f + c * 6 + 2, none⟩) (cell_lt e2)).trans e2
          have d3 := (hbw.out.cell (p := ⟨g, f + c * 6 + 3, none⟩) (cell_lt e3)).trans e3
          have d4 := (hbw.out.cell (p := ⟨g, f + c * 6 + 4, none⟩) (cell_lt e4)).trans e4
          have d5 := (hbw.out.cell (p := ⟨g, f + c * 6 + 5, none⟩) (cell_lt e5)).trans e5
          have hcq1 := hcq.1
          have KK := hide' (hP.out.play (by omega) (T.out wr hbw.out) q)
          clear hx e0 e1 e2 e3 e4 e5 hLc' T hP hbw hcq
          generalize q.on = a0 at *
          generalize q.op = a1 at *
          generalize q.step = a2 at *
          generalize q.user = a3 at *
          generalize q.tick = a4 at *
          generalize q.stuck = a5 at *
          go_wp2_with fail
          refine KK.out.mono ?_
          rintro e w7 ⟨rfl, lv2, ev2, hP2⟩
          have hP7 := hide' hP2
          clear KK hP2 d0 d1 d2 d3 d4 d5
          go_wp2
          exact ⟨⟨c + 1, lv2, ev2, _, by omega, by omega, by go_num, hP7⟩, by simp [intOf]; omega⟩
        · have hP2 : Hid (Lp k lv ev w6 lv' ev' k.F.steps.length R 200 wr) := { hP.out with lg := by have := hP.out.lg; omega }
          clear hP hLc' T
          by_cases hlt : c < L.length
          · have h200 : ¬ c < 200 := fun h => hgo ⟨hlt, h⟩
            clear hgo
            go_wp2
            go_meet
            exact ⟨lv', ev', R, hP2⟩
          · clear hgo
            go_wp2
            go_meet
            exact ⟨lv', ev', R, hP2⟩
    case rest =>
    clear hL0 hLc' hcq
    obtain ⟨lv', ev', R, hP⟩ := hcut
    have hbw := hide' (hP.out.bel B6.out hge.out)
    have hX : Hid (∀ V, Lp k lv ev w6 lv' ev' k.F.steps.length R 200 V → V.heap[w.heap.size + 1]? = some (.cells #[.int .i64 qon, .int .i64 qop, .int .i64 qstep, .int .i64 quser, .int .i64 qtick, .bool qstuck] 37 (0, 0))) := fun V h => (h.fr.blk _ (Array.getElem?_eq_some_iff.1 X6.out).1 hop.out).trans X6.out
    have hlg := hP.out.lg
    have KL := hide' (logF hP.out.sd.p.run hP.out.ne (by omega))
    clear X6 hop
    go_wp2_with fail
    refine KL.out.mono ?_
    rintro e w7 ⟨v7, rfl, ho7, hb7⟩
    obtain ⟨o7, c7, rfl⟩ := own_shp ho7
    have hP7 := hide' (hP.out.over hb7)
    have X7 := hide' (bx6 (hX.out w7 hP7.out))
    obtain ⟨x1, x2, x3, x4, x5⟩ := X7.out
    have hbw7 := hide' (hP7.out.bel B6.out hge.out)
    have hfin : Hid (∀ lv2 R2 W z, Sd k lv2 ev' R2 R W → Zf (k.wr lv' ev') w7 W → R2.log ≠ [] → R2.log.length ≤ 1000 → Below w.heap.size w W ∧ (R2 = R → ∀ V, Below W.heap.size W V → Calls Tryz.prog 11 #[.pointer (some ⟨k.gr, 0, none⟩), .pointer (some ⟨k.gd, 0, none⟩)] V fun e w' => e = .returned (.bool true) ∧ Below V.heap.size V w') ∧ Calls Tryz.prog 13 #[.pointer (some ⟨k.gr, 0, none⟩)] W (fun e w' => ∃ v', e = .returned v' ∧ w'.ownsRow W.heap.size 62 4 v' R2.log.length (cellsEv R2.log) ∧ Below W.heap.size W w') ∧ z = z) := fun lv2 R2 W (z : Nat) h2 hz hne hlg2 => by
      have hbW : Below w.heap.size w W := hbw7.out.trans (hz.toBelow hbw7.out.size fun b e => by
        rcases hP7.out.nf b e with e1 | e1
        · exact hge.out b e1
        · exact Nat.le_trans B6.out.size e1)
      refine ⟨hbW, fun e V hV => ?_, logF h2.p.run hne (by omega), rfl⟩
      subst e
      exact wholeF (h2.over hV) hP7.out.ok hne (by omega) hB'.out (T.out V (hbW.trans (hV.mono hbW.size)))
    have hsd7 := hide' hP7.out.sd
    have hne7 := hide' hP7.out.ne
    clear KL hP ho7 hb7 hX hP7 X7 hbw hge B6 hB' T
    by_cases k1 : qop = 1
    · subst k1
      have KK := hide' (claimS hsd7.out (by omega) qstep quser qtick)
      have hr : Hid ((canC k.Pf R qstep ≠ 0 → clmR k.Pf R qstep quser qtick = R) ∧ (canC k.Pf R qstep = 0 → R.log.length < (clmR k.Pf R qstep quser qtick).log.length) ∧ (clmR k.Pf R qstep quser qtick).log ≠ [] ∧ (clmR k.Pf R qstep quser qtick).log.length ≤ 1000) := ⟨fun h => by unfold clmR; rw [if_neg h], fun h => by unfold clmR; rw [if_pos h]; simp [hapC], clmR_ne hne7.out _ _ _, by have := clmR_log k.Pf R qstep quser qtick; omega⟩
      clear hsd7 hne7
      generalize clmR k.Pf R qstep quser qtick = R2 at *
      generalize canC k.Pf R qstep = z at *
      go_wp2_with fail
      refine KK.out.mono ?_
      rintro e w8 ⟨rfl, lv2, h8, z8, n8⟩
      obtain ⟨f1, f2, f3, f4⟩ := hfin.out lv2 R2 w8 0 h8 z8 hr.out.2.2.1 hr.out.2.2.2
      have F1 := hide' f1
      have F2 := hide' f2
      have F3 := hide' f3
      clear f1 f2 f3 f4 KK hfin h8 z8 n8
      by_cases hz : z = 0
      · subst hz
        have hlt := hr.out.2.1 rfl
        clear F2 hr
        generalize R2.log.length = m2 at *
        generalize R.log.length = m1 at *
        go_wp2_with fail
        refine F3.out.mono ?_
        rintro e w9 ⟨v9, rfl, ho9, hb9⟩
        obtain ⟨o9, c9, rfl⟩ := own_shp ho9
        have hB9 := hide' (F1.out.trans (hb9.mono F1.out.size))
        have hlt' : decide ((m1 : Int) < m2) = true := decide_eq_true (by omega)
        clear F3 ho9 hb9
        go_wp2
        go_ret
        exact ⟨rfl, hB9.out⟩
      · have hz' : (z == 0) = false := by rw [beq_eq_false_iff_ne]; exact hz
        obtain rfl := hr.out.1 hz
        have F4 := hide' (F2.out rfl)
        clear F2 hr hz
        go_wp2_with fail
        refine F3.out.mono ?_
        rintro e w9 ⟨v9, rfl, ho9, hb9⟩
        obtain ⟨o9, c9, rfl⟩ := own_shp ho9
        have hb9' := hide' hb9
        have hB9 := hide' (F1.out.trans (hb9.mono F1.out.size))
        clear F3 ho9 hb9
        go_wp2_with fail
        refine (F4.out _ hb9'.out).mono ?_
        rintro e w10 ⟨rfl, hb10⟩
        have hB10 := hide' (hB9.out.trans (hb10.mono hB9.out.size))
        clear F4 hb10
        go_wp2
        go_ret
        exact ⟨rfl, hB10.out⟩
    have k1' : (qop == 1) = false := by rw [beq_eq_false_iff_ne]; exact k1
    by_cases k2 : qop = 2
    · subst k2
      have KK := hide' (doneS hsd7.out (by omega) qstep quser qtick)
      have hr : Hid ((canD R qstep quser ≠ 0 → donR R qstep quser qtick = R) ∧ (canD R qstep quser = 0 → R.log.length < (donR R qstep quser qtick).log.length) ∧ (donR R qstep quser qtick).log ≠ [] ∧ (donR R qstep quser qtick).log.length ≤ 1000) := ⟨fun h => by unfold donR; rw [if_neg h], fun h => by unfold donR hapD; rw [if_pos h]; split <;> simp, donR_ne hne7.out _ _ _, by have := donR_log R qstep quser qtick; omega⟩
      clear hsd7 hne7
      generalize donR R qstep quser qtick = R2 at *
      generalize canD R qstep quser = z at *
      go_wp2_with fail
      refine KK.out.mono ?_
      rintro e w8 ⟨rfl, lv2, h8, z8, n8⟩
      obtain ⟨f1, f2, f3, f4⟩ := hfin.out lv2 R2 w8 0 h8 z8 hr.out.2.2.1 hr.out.2.2.2
      have F1 := hide' f1
      have F2 := hide' f2
      have F3 := hide' f3
      clear f1 f2 f3 f4 KK hfin h8 z8 n8
      by_cases hz : z = 0
      · subst hz
        have hlt := hr.out.2.1 rfl
        clear F2 hr
        generalize R2.log.length = m2 at *
        generalize R.log.length = m1 at *
        go_wp2_with fail
        refine F3.out.mono ?_
        rintro e w9 ⟨v9, rfl, ho9, hb9⟩
        obtain ⟨o9, c9, rfl⟩ := own_shp ho9
        have hB9 := hide' (F1.out.trans (hb9.mono F1.out.size))
        have hlt' : decide ((m1 : Int) < m2) = true := decide_eq_true (by omega)
        clear F3 ho9 hb9
        go_wp2
        go_ret
        exact ⟨rfl, hB9.out⟩
      · have hz' : (z == 0) = false := by rw [beq_eq_false_iff_ne]; exact hz
        obtain rfl := hr.out.1 hz
        have F4 := hide' (F2.out rfl)
        clear F2 hr hz
        go_wp2_with fail
        refine F3.out.mono ?_
        rintro e w9 ⟨v9, rfl, ho9, hb9⟩
        obtain ⟨o9, c9, rfl⟩ := own_shp ho9
        have hb9' := hide' hb9
        have hB9 := hide' (F1.out.trans (hb9.mono F1.out.size))
        clear F3 ho9 hb9
        go_wp2_with fail
        refine (F4.out _ hb9'.out).mono ?_
        rintro e w10 ⟨rfl, hb10⟩
        have hB10 := hide' (hB9.out.trans (hb10.mono hB9.out.size))
        clear F4 hb10
        go_wp2
        go_ret
        exact ⟨rfl, hB10.out⟩
    have k2' : (qop == 2) = false := by rw [beq_eq_false_iff_ne]; exact k2
    by_cases k3 : qop = 3
    · subst k3
      have KK := hide' (abortS hsd7.out (by omega) qtick)
      have hr : Hid (((if endd R = true then (30 : Int) else 0) ≠ 0 → aboR R qtick = R) ∧ ((if endd R = true then (30 : Int) else 0) = 0 → R.log.length < (aboR R qtick).log.length) ∧ (aboR R qtick).log ≠ [] ∧ (aboR R qtick).log.length ≤ 1000) := ⟨fun h => by
          unfold aboR
          by_cases he : endd R = true
          · rw [if_pos he]
          · rw [if_neg he] at h; exact absurd rfl h, fun h => by
          unfold aboR
          by_cases he : endd R = true
          · rw [if_pos he] at h; cases h
          · rw [if_neg he]; simp [hapS], aboR_ne hne7.out _, by have := aboR_log R qtick; omega⟩
      clear hsd7 hne7
      generalize aboR R qtick = R2 at *
      generalize (if endd R = true then (30 : Int) else 0) = z at *
      go_wp2_with fail
      refine KK.out.mono ?_
      rintro e w8 ⟨rfl, lv2, h8, z8, n8⟩
      obtain ⟨f1, f2, f3, f4⟩ := hfin.out lv2 R2 w8 0 h8 z8 hr.out.2.2.1 hr.out.2.2.2
      have F1 := hide' f1
      have F2 := hide' f2
      have F3 := hide' f3
      clear f1 f2 f3 f4 KK hfin h8 z8 n8
      by_cases hz : z = 0
      · subst hz
        have hlt := hr.out.2.1 rfl
        clear F2 hr
        generalize R2.log.length = m2 at *
        generalize R.log.length = m1 at *
        go_wp2_with fail
        refine F3.out.mono ?_
        rintro e w9 ⟨v9, rfl, ho9, hb9⟩
        obtain ⟨o9, c9, rfl⟩ := own_shp ho9
        have hB9 := hide' (F1.out.trans (hb9.mono F1.out.size))
        have hlt' : decide ((m1 : Int) < m2) = true := decide_eq_true (by omega)
        clear F3 ho9 hb9
        go_wp2
        go_ret
        exact ⟨rfl, hB9.out⟩
      · have hz' : (z == 0) = false := by rw [beq_eq_false_iff_ne]; exact hz
        obtain rfl := hr.out.1 hz
        have F4 := hide' (F2.out rfl)
        clear F2 hr hz
        go_wp2_with fail
        refine F3.out.mono ?_
        rintro e w9 ⟨v9, rfl, ho9, hb9⟩
        obtain ⟨o9, c9, rfl⟩ := own_shp ho9
        have hb9' := hide' hb9
        have hB9 := hide' (F1.out.trans (hb9.mono F1.out.size))
        clear F3 ho9 hb9
        go_wp2_with fail
        refine (F4.out _ hb9'.out).mono ?_
        rintro e w10 ⟨rfl, hb10⟩
        have hB10 := hide' (hB9.out.trans (hb10.mono hB9.out.size))
        clear F4 hb10
        go_wp2
        go_ret
        exact ⟨rfl, hB10.out⟩
    have k3' : (qop == 3) = false := by rw [beq_eq_false_iff_ne]; exact k3
    clear hsd7 hne7 hfin
    go_wp2
    go_ret
    exact ⟨rfl, hbw7.out⟩
end Go.Proofs.YtlipdccfhnnleaaGreatDoor
