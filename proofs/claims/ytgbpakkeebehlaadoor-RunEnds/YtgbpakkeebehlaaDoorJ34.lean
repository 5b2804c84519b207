/- RunEnds: the law's walk. -/
import Derived.Test.YtgbpakkeebehlaaDoorJ32
import Derived.Deep.QuietTactic
import Derived.BigQuiet
import Derived.Deep.CutRange
import Derived.Deep.CutBlock
import Derived.Deep.RegionHeld3
namespace Go.Proofs.YtgbpakkeebehlaaDoor
open Go.RowKit
/-- The run while the law plays, with all that was there ahead of it. -/
structure RnL (w : World) (F : Fw) (bg : Nat) (o1 : Option Addr) (c1 : Nat) (o2 : Option Addr) (c2 : Nat) (V0 : World) (gr gt : Nat) (sv rv : Value) (go gp gs ct : Nat) (Pf Sf : Nat → Nat) (P1 : List (Sp × Value)) (P2 : List (Rl × Value)) (lv : Value) (R : Rs) (W : World) : Prop where
  x : RnX V0 F gr gt sv rv go gp gs ct Pf Sf P1 P2 lv R W
  bw : Below w.heap.size w V0
  ok : FlOk F
  bg : V0.heap[bg]? = some (.cells #[.string F.name, .slice o1 F.steps.length c1, .slice o2 F.rules.length c2] 25 (0, 0))
section
variable {w : World} {F : Fw} {bg : Nat} {o1 : Option Addr} {c1 : Nat} {o2 : Option Addr} {c2 : Nat} {V0 : World} {gr gt : Nat} {sv rv : Value} {go gp gs ct : Nat} {Pf Sf : Nat → Nat} {P1 : List (Sp × Value)} {P2 : List (Rl × Value)} {lv : Value} {R : Rs} {W W' : World}
theorem RnL.over (h : RnL w F bg o1 c1 o2 c2 V0 gr gt sv rv go gp gs ct Pf Sf P1 P2 lv R W) (hb : Below W.heap.size W W') : RnL w F bg o1 c1 o2 c2 V0 gr gt sv rv go gp gs ct Pf Sf P1 P2 lv R W' := { h with x := h.x.over hb }
theorem RnL.bl (h : RnL w F bg o1 c1 o2 c2 V0 gr gt sv rv go gp gs ct Pf Sf P1 P2 lv R W) : Below w.heap.size w W := h.bw.trans (h.x.bl.mono h.bw.size)
theorem RnL.g1 (h : RnL w F bg o1 c1 o2 c2 V0 gr gt sv rv go gp gs ct Pf Sf P1 P2 lv R W) : W.cell? ⟨bg, 1, none⟩ = some (.slice o1 F.steps.length c1) := by
  have := (h.x.bl.block bg (Array.getElem?_eq_some_iff.1 h.bg).1).trans h.bg
  simp [World.cell?, this]
theorem RnL.next {lv' : Value} {R' : Rs} (h : RnL w F bg o1 c1 o2 c2 V0 gr gt sv rv go gp gs ct Pf Sf P1 P2 lv R W) (hx : RnX V0 F gr gt sv rv go gp gs ct Pf Sf P1 P2 lv' R' W') : RnL w F bg o1 c1 o2 c2 V0 gr gt sv rv go gp gs ct Pf Sf P1 P2 lv' R' W' := { h with x := hx }
end
set_option maxRecDepth 100000 in
set_option maxHeartbeats 8000000 in
theorem runEnds_walk (F0 : Fw) (v : Value) (L : List Oq) (ov : Value) (D : List Int) (pv : Value) (w : World) (hv : flV w v F0) (hN : FlN F0) (hL : RowQ w ov L) (hD : RowI w pv D) (ht : O.Tab w) :
    Calls Tryd.prog 3 #[v, ov, pv] w fun e w' => e = .returned (.bool true) ∧ Below w.heap.size w w' := by
  have KT0 : Hid (∀ W, Below w.heap.size w W → Calls Tryd.prog 5 #[v] W (CopR W (cutFw F0))) := fun W hW => twin7F F0 v W (hv.below hW (Nat.le_refl _))
  have KT1 : Hid (∀ V W x, flV V x (cutFw F0) → Below V.heap.size V W → Calls Tryd.prog 5 #[x] W (CopR W (cutFw F0))) := fun V W x hx hW => by
    have := twin7F (cutFw F0) x W (hx.below hW (Nat.le_refl _))
    rwa [cut_idem] at this
  have hB := flb_cut hN
  have KN : Hid (∀ W x, flV W x (cutFw F0) → Below w.heap.size w W → Calls Tryd.prog 6 #[x, .int .i64 0] W (NewP (cutFw F0) 0 W)) := fun W x hx hW => newRF _ x 0 W hx hB (ht.over hW)
  have KC : Hid (∀ W x, flV W x (cutFw F0) → Calls Tryd.prog 8 #[x] W (flErr W (chkF (cutFw F0)))) := fun W x hx => checkD _ x W hx hB
  have KW : Hid (∀ W, Below w.heap.size w W → Calls Tryd.prog 7 #[] W fun e w' => e = .returned (.bool true) ∧ Below W.heap.size W w') := fun W hW => wakes17 W (ht.over hW)
  have T : Hid (∀ W, Below w.heap.size w W → O.Tab W) := fun W hW => ht.over hW
  generalize cutFw F0 = F at *
  obtain ⟨sv0, rv0, rfl, hs, hr⟩ := hv
  obtain ⟨oa, cap, rfl⟩ := hs.shape
  obtain ⟨ob, cb, rfl⟩ := hr.shape
  obtain ⟨oq, cq, rfl, hcq, hLc⟩ := hL
  obtain ⟨op, cp, rfl, hcp, hDc⟩ := hD
  have hLc' := hide' hLc
  have hDc' := hide' hDc
  clear hs hr hB hN ht hLc hDc
  have B0 : Hid (Below w.heap.size w (w.alloc (.cells #[.string F0.name, .slice oa F0.steps.length cap, .slice ob F0.rules.length cb] 25))) := (Below.refl _ w).alloc (Nat.le_refl _) _
  go_enter Tryd.func3, Tryd.ntmps3
  go_wp2_with fail
  refine (KT0.out _ B0.out).mono ?_
  intro e w1 hC1
  obtain ⟨o1, c1, o2, c2, P1, P2, rfl, hF1, hb1⟩ := hC1.open
  have B1 := hide' (B0.out.trans (hb1.mono B0.out.size))
  clear KT0 B0 hC1 hb1
  have hF1' := hide' (hF1.over ((Below.refl _ w1).alloc (Nat.le_refl _) (.cells #[.string F.name, .slice o1 F.steps.length c1, .slice o2 F.rules.length c2] 25)))
  have D1 := hide' (heap_alloc_new w1 (.cells #[.string F.name, .slice o1 F.steps.length c1, .slice o2 F.rules.length c2] 25))
  have B2 := hide' (B1.out.alloc B1.out.size (.cells #[.string F.name, .slice o1 F.steps.length c1, .slice o2 F.rules.length c2] 25))
  clear hF1
  go_wp2_with fail
  generalize hbg : w1.heap.size = bg at *
  generalize w1.alloc (.cells #[.string F.name, .slice o1 F.steps.length c1, .slice o2 F.rules.length c2] 25) = W2 at *
  clear hbg
  refine (KT1.out W2 _ _ hF1'.out.fl (Below.refl _ _)).mono ?_
  intro e w3 hC3
  obtain ⟨o3, c3, o4, c4, P3, P4, rfl, hF3, hb3⟩ := hC3.open
  have B3 := hide' (B2.out.trans (hb3.mono B2.out.size))
  have hF13 := hide' (hF1'.out.over hb3)
  have D3 : Hid (w3.heap[bg]? = some (.cells #[.string F.name, .slice o1 F.steps.length c1, .slice o2 F.rules.length c2] 25 (0, 0))) := (hb3.block bg (Array.getElem?_eq_some_iff.1 D1.out).1).trans D1.out
  have KN3 := hide' (KN.out w3 _ hF3.fl B3.out)
  clear KT1 KN hC3 hF3 D1 hF1' B2 hb3
  go_wp2_with fail
  refine KN3.out.mono ?_
  rintro e w4 (⟨h0, rfl, hb4⟩ | ⟨ok, V0, gr, gt, sv, rv, go, gp, gs, ct, Pf, Sf, Q1, Q2, lv, rfl, hbV, _, hX⟩)
  · have B4 := hide' (B3.out.trans (hb4.mono B3.out.size))
    have hF14 := hide' (hF13.out.over hb4)
    have D4 : Hid (w4.heap[bg]? = some (.cells #[.string F.name, .slice o1 F.steps.length c1, .slice o2 F.rules.length c2] 25 (0, 0))) := (hb4.block bg (Array.getElem?_eq_some_iff.1 D3.out).1).trans D3.out
    have g0 : w4.cell? ⟨bg, 0, none⟩ = some (.string F.name) := by simp [World.cell?, D4.out]
    have g1 : w4.cell? ⟨bg, 1, none⟩ = some (.slice o1 F.steps.length c1) := by simp [World.cell?, D4.out]
    have g2 : w4.cell? ⟨bg, 2, none⟩ = some (.slice o2 F.rules.length c2) := by simp [World.cell?, D4.out]
    have KC4 := hide' (KC.out w4 _ hF14.out.fl)
    generalize chkF F = z at *
    have h0' : (z == 0) = false := by rw [beq_eq_false_iff_ne]; exact h0
    clear KC KN3 KW T hF13 D3 hb4 hLc' hDc' hF14 D4 B3 B1
    go_wp2_with fail
    refine KC4.out.mono ?_
    rintro e w5 ⟨rfl, hb5⟩
    have B5 := hide' (B4.out.trans (hb5.mono B4.out.size))
    clear KC4 hb5 B4
    go_wp2
    go_ret
    exact ⟨ret_bool (by simp [h0]), B5.out⟩
  · have hBV := hide' (B3.out.trans (hbV.mono B3.out.size))
    have hR0 : Hid (RnL w F bg o1 c1 o2 c2 V0 gr gt sv rv go gp gs ct Pf Sf Q1 Q2 lv (newR F.steps.length 0) w4) := ⟨hX, hBV.out, ok, (hbV.block bg (Array.getElem?_eq_some_iff.1 D3.out).1).trans D3.out⟩
    have KW4 := hide' (KW.out w4 hR0.out.bl)
    clear KC KN3 KW hF13 D3 hbV hX B1 B3 hBV
    go_wp2_with fail
    refine KW4.out.mono ?_
    rintro e w5 ⟨rfl, hb5⟩
    have hR1 := hide' (hR0.out.over hb5)
    have hPS := hide' (PlS.start ok.ne 0)
    have hn12 := ok.le
    have hn0 := ok.ne
    clear KW4 hR0 hb5 ok
    go_upto_block 0 with fail
    go_cut [10] from 53 to 119 (fun _ wx => ∃ (lv : Value) (R : Rs), Hid (PlS F.steps.length R 200) ∧ Hid (RnL w F bg o1 c1 o2 c2 V0 gr gt sv rv go gp gs ct Pf Sf Q1 Q2 lv R wx))
    case first =>
      go_wp2
      go_loopw [10] (fun k wr => ∃ (c : Nat) (lv : Value) (R : Rs), c ≤ L.length ∧ c ≤ 200 ∧ k = .int .i64 c ∧ Hid (PlS F.steps.length R c) ∧ Hid (RnL w F bg o1 c1 o2 c2 V0 gr gt sv rv go gp gs ct Pf Sf Q1 Q2 lv R wr)) (fun k _ => ((200 : Int) - intOf k).toNat)
      case atStart => exact ⟨0, lv, _, Nat.zero_le _, Nat.zero_le _, rfl, hPS, hR1⟩
      case round =>
        clear hPS hR1
        obtain ⟨c, lv, R, hcl, hc200, rfl, hP, hX⟩ := hrel
        by_cases hgo : c < L.length ∧ c < 200
        · obtain ⟨hlt, h200⟩ := hgo
          obtain ⟨q, hx⟩ : ∃ x, L[c]? = some x := ⟨_, List.getElem?_eq_getElem hlt⟩
          obtain ⟨g, f, rfl, e0, e1, e2, e3, e4, e5⟩ := hLc'.out c q hx
          have hcell : Hid (∀ V, Below w.heap.size w V → V.cell? ⟨g, f + c * 6 + 1, none⟩ = some (.int .i64 q.op) ∧ V.cell? ⟨g, f + c * 6 + 2, none⟩ = some (.int .i64 q.step) ∧ V.cell? ⟨g, f + c * 6 + 3, none⟩ = some (.int .i64 q.user) ∧ V.cell? ⟨g, f + c * 6 + 4, none⟩ = some (.int .i64 q.tick) ∧ V.cell? ⟨g, f + c * 6 + 5, none⟩ = some (.bool q.stuck)) := fun V hV => ⟨(hV.cell (p := ⟨g, f + c * 6 + 1, none⟩) (cell_lt e1)).trans e1, (hV.cell (p := ⟨g, f + c * 6 + 2, none⟩) (cell_lt e2)).trans e2, (hV.cell (p := ⟨g, f + c * 6 + 3, none⟩) (cell_lt e3)).trans e3, (hV.cell (p := ⟨g, f + c * 6 + 4, none⟩) (cell_lt e4)).trans e4, (hV.cell (p := ⟨g, f + c * 6 + 5, none⟩) (cell_lt e5)).trans e5⟩
          have d1 := (hcell.out wr hX.out.bl).1
          have hlg : R.log.length ≤ 100000 := by have := hP.out.lg; omega
          have hcq1 := hcq.1
          have hNx := hide' (hP.out.next Pf q)
          have hXd := hide' (hX.out.over (Below.refl _ _).drew)
          clear hx e0 e1 e2 e3 e4 e5 hLc' hDc' T
          by_cases k1 : q.op = 1
          · rw [ply1 k1] at hNx
            rw [k1] at d1
            have KK := hide' (hXd.out.x.claimC hlg q.step q.user q.tick)
            have hS0 := hide' (hcell.out wr.drew hXd.out.bl).2
            clear hP hX k1
            go_wp2
            go_region_held3 (fun V => V.cell? ⟨g, f + c * 6 + 2, none⟩ = some (.int .i64 q.step) ∧ V.cell? ⟨g, f + c * 6 + 3, none⟩ = some (.int .i64 q.user) ∧ V.cell? ⟨g, f + c * 6 + 4, none⟩ = some (.int .i64 q.tick) ∧ V.cell? ⟨g, f + c * 6 + 5, none⟩ = some (.bool q.stuck)) (first | (exact hS0.out) | (exact (hcell.out _ (hXd.out.next hX2).bl).2)) (first | (go_at_call 9; refine KK.out.mono ?_; rintro e w6 ⟨rfl, l2, hX2⟩))
            have hX6 := hide' (hXd.out.next hX2)
            clear hX2 KK hS0 hXd hcell
            go_wp2
            exact ⟨⟨c + 1, l2, _, by omega, by omega, by go_num, hNx, hX6⟩, by simp [intOf]; omega⟩
          have k1' : (q.op == 1) = false := by rw [beq_eq_false_iff_ne]; exact k1
          by_cases k2 : q.op = 2
          · rw [ply2 k2] at hNx
            rw [k2] at d1
            have KK := hide' (hXd.out.x.doneC hlg q.step q.user q.tick)
            have hS0 := hide' (hcell.out wr.drew hXd.out.bl).2
            clear hP hX k1 k2 k1'
            go_wp2
            go_region_held3 (fun V => V.cell? ⟨g, f + c * 6 + 2, none⟩ = some (.int .i64 q.step) ∧ V.cell? ⟨g, f + c * 6 + 3, none⟩ = some (.int .i64 q.user) ∧ V.cell? ⟨g, f + c * 6 + 4, none⟩ = some (.int .i64 q.tick) ∧ V.cell? ⟨g, f + c * 6 + 5, none⟩ = some (.bool q.stuck)) (first | (exact hS0.out) | (exact (hcell.out _ (hXd.out.next hX2).bl).2)) (first | (go_at_call 10; refine KK.out.mono ?_; rintro e w6 ⟨rfl, l2, hX2⟩))
            have hX6 := hide' (hXd.out.next hX2)
            clear hX2 KK hS0 hXd hcell
            go_wp2
            exact ⟨⟨c + 1, l2, _, by omega, by omega, by go_num, hNx, hX6⟩, by simp [intOf]; omega⟩
          have k2' : (q.op == 2) = false := by rw [beq_eq_false_iff_ne]; exact k2
          by_cases k4 : q.op = 4
          · rw [ply4 k4] at hNx
            rw [k4] at d1
            have KK := hide' (hXd.out.x.markC hlg q.stuck q.tick)
            have hS0 := hide' (hcell.out wr.drew hXd.out.bl).2
            clear hP hX k1 k2 k1' k2' k4
            go_wp2
            go_region_held3 (fun V => V.cell? ⟨g, f + c * 6 + 2, none⟩ = some (.int .i64 q.step) ∧ V.cell? ⟨g, f + c * 6 + 3, none⟩ = some (.int .i64 q.user) ∧ V.cell? ⟨g, f + c * 6 + 4, none⟩ = some (.int .i64 q.tick) ∧ V.cell? ⟨g, f + c * 6 + 5, none⟩ = some (.bool q.stuck)) (first | (exact hS0.out) | (exact (hcell.out _ (hXd.out.next hX2).bl).2)) (first | (go_at_call 11; refine KK.out.mono ?_; rintro e w6 ⟨rfl, l2, hX2⟩))
            have hX6 := hide' (hXd.out.next hX2)
            clear hX2 KK hS0 hXd hcell
            go_wp2
            exact ⟨⟨c + 1, l2, _, by omega, by omega, by go_num, hNx, hX6⟩, by simp [intOf]; omega⟩
          have k4' : (q.op == 4) = false := by rw [beq_eq_false_iff_ne]; exact k4
          rw [ply0 k1 k2 (fun h => by cases h) k4] at hNx
          clear hP hXd hcell k1 k2 k4
          go_wp2
          exact ⟨⟨c + 1, lv, _, by omega, by omega, by go_num, hNx, hX⟩, by simp [intOf]; omega⟩
        · have hP2 : Hid (PlS F.steps.length R 200) := ⟨hP.out.ok, hP.out.st, by have := hP.out.lg; omega⟩
          clear hLc' hDc' T
          by_cases hlt : c < L.length
          · have h200 : ¬ c < 200 := fun h => hgo ⟨hlt, h⟩
            clear hgo
            go_wp2
            go_meet
            exact ⟨lv, R, hP2, hX⟩
          · clear hgo
            go_wp2
            go_meet
            exact ⟨lv, R, hP2, hX⟩
    case rest =>
    clear hPS hR1 hLc' hcq
    obtain ⟨lv, R, hP, hX⟩ := hcut
    have KS := hide' (statusF hX.out.x.run)
    have hlen : Hid (R.S.length = F.steps.length) := hX.out.x.len
    by_cases h3 : R.stat = 3
    · have hb0 : Hid (lefB R.S = 0) := hP.out.ok.fin.1 h3
      have ha0 : Hid (lefA R.S = 0) := by have := lefA_leB R.S; show _ = _; rw [hb0.out] at this; omega
      have KL := hide' (leftF hX.out.x.run (by rw [hlen.out]; omega))
      rw [hb0.out, ha0.out] at KL
      have hr0 : Hid (rdyR R.S.length Pf R = 0) := by show _ = _; unfold rdyR; rw [if_pos (by unfold endd; rw [h3]; rfl)]
      rw [h3] at KS
      clear hP hb0 ha0 hlen hDc' hcp h3
      go_wp2_with fail
      refine KS.out.mono ?_
      rintro e w6 ⟨rfl, hw⟩
      obtain rfl : wc = w6 := hw.symm
      go_wp2_with fail
      refine KL.out.mono ?_
      rintro e w7 ⟨rfl, hb7⟩
      have hX7 := hide' (hX.out.over hb7)
      have KR := hide' (hX7.out.x.readyC (T.out _ hX7.out.bl))
      rw [hr0.out] at KR
      clear KS KL hb7 T
      go_wp2_with fail
      refine KR.out.mono ?_
      rintro e w8 ⟨rfl, hb8⟩
      have hF := hide' (hX7.out.over hb8).bl
      clear KR hb8 hX7 hX
      go_wp2
      go_ret
      exact ⟨rfl, hF.out⟩
    · have h3' : (R.stat == 3) = false := by rw [beq_eq_false_iff_ne]; exact h3
      have KL := hide' (leftF hX.out.x.run (by rw [hlen.out]; omega))
      have hab : Hid (lefA R.S + lefB R.S ≤ 24) := by have h1 := lefA_le R.S; have h2 := lefB_le R.S; show _ ≤ _; rw [hlen.out] at h1 h2; omega
      have h00 : Hid (R.log.length ≤ 401) := hP.out.lg
      have hOk := hide' hP.out.ok
      have hst := hide' hP.out.st
      clear hP h3
      go_wp2_with fail
      refine KS.out.mono ?_
      rintro e w6 ⟨rfl, hw⟩
      obtain rfl : wc = w6 := hw.symm
      go_wp2_with fail
      refine KL.out.mono ?_
      rintro e w7 ⟨rfl, hb7⟩
      have hX7 := hide' (hX.out.over hb7)
      have g1 := hX7.out.g1
      have hG := hide' (show GoE F.steps.length R 0 from ⟨hOk.out, hst.out, by have := hab.out; omega, by have := h00.out; omega⟩)
      clear KS KL hb7 hX hOk hst hab h00 hlen
      go_wp2
      go_loopw [13, 14, 16] (fun a b k wr => ∃ (kk : Nat) (lv : Value) (R : Rs), k = .int .i64 kk ∧ a = .int .i64 (lefA R.S : Nat) ∧ b = .int .i64 (lefB R.S : Nat) ∧ kk ≤ 24 ∧ Hid (GoE F.steps.length R kk) ∧ Hid (RnL w F bg o1 c1 o2 c2 V0 gr gt sv rv go gp gs ct Pf Sf Q1 Q2 lv R wr)) (fun _ _ k _ => ((24 : Int) - intOf k).toNat)
      case atStart => exact ⟨0, lv, R, rfl, rfl, rfl, Nat.zero_le _, hG, hX7⟩
      case round =>
        clear hG hX7 g1
        obtain ⟨kk, lv, R, rfl, rfl, rfl, hk24, hG, hX⟩ := hrel
        have KS := hide' (statusF hX.out.x.run)
        have hA24 : lefA R.S ≤ 24 := by have := hG.out.ab; omega
        have hB24 : lefB R.S ≤ 24 := by have := hG.out.ab; omega
        generalize hla : lefA R.S = la at *
        generalize hlb : lefB R.S = lb at *
        by_cases hk : kk < 24
        · by_cases h3 : R.stat = 3
          · obtain ⟨_, e1, e2⟩ := hG.out.out (.inr h3)
            rw [hla] at e1
            rw [hlb] at e2
            subst e1 e2
            rw [h3] at KS
            have hF := hide' hX.out.bl
            clear hG hX hla hlb T hDc'
            go_wp2_with fail
            refine KS.out.mono ?_
            rintro e w6 ⟨rfl, hw⟩
            obtain rfl : wr = w6 := hw.symm
            go_wp2_with fail
            refine KS.out.mono ?_
            rintro e w6 ⟨rfl, hw⟩
            obtain rfl : wr = w6 := hw.symm
            go_wp2
            go_ret
            exact ⟨rfl, hF.out⟩
          · have h3' : (R.stat == 3) = false := by rw [beq_eq_false_iff_ne]; exact h3
            go_wp2_with fail
            refine KS.out.mono ?_
            rintro e w6 ⟨rfl, hw⟩
            obtain rfl : wr = w6 := hw.symm
            clear KS
            go_upto_if 159 with fail
            go_cut [17] from 147 to 169 (fun av wx => ∃ at_ : Nat, av = .int .i64 (at_ : Int) ∧ at_ < F.steps.length ∧ Hid (wx = wr))
            case first =>
              by_cases hd : kk < D.length
              · obtain ⟨z, hz⟩ : ∃ z, D[kk]? = some z := ⟨_, List.getElem?_eq_getElem hd⟩
                obtain ⟨g, o, rfl, hc⟩ := hDc'.out kk z hz
                have d1 := (hX.out.bl.cell (p := ⟨g, o + kk, none⟩) (cell_lt hc)).trans hc
                have hcp1 := hcp.1
                obtain ⟨j, hj1, hj2⟩ := turn_n z hn0 hn12
                have hj1' := hide' hj1
                have hn0' : ¬ (F.steps.length : Int) = 0 := by omega
                clear hj1 hX hG T hc hz hcp hDc'
                go_wp2
                rw [hj1'.out]
                go_meet
                exact ⟨j, rfl, hj2, rfl⟩
              · clear hX hG T hDc'
                go_wp2
                go_meet
                exact ⟨0, rfl, by omega, rfl⟩
            case rest =>
            obtain ⟨aa, rfl, haa, hwx⟩ := hcut
            obtain rfl : wc = wr := hwx.out
            clear hwx hDc' hcp h3'
            have h3' := hide' h3
            clear h3
            go_wp2
            go_loopw [13, 14, 18, 19] (fun a b m i wz => ∃ (c : Nat) (lv : Value) (R' : Rs) (mv : Bool), i = .int .i64 c ∧ a = .int .i64 (lefA R'.S : Nat) ∧ b = .int .i64 (lefB R'.S : Nat) ∧ m = .bool mv ∧ c ≤ F.steps.length ∧ Hid (mv = false → R' = R ∧ ∀ c', c' < c → ¬ mvS F.steps.length Pf R ((aa + c') % F.steps.length)) ∧ Hid (mv = true → GoE F.steps.length R' (kk + 1)) ∧ Hid (RnL w F bg o1 c1 o2 c2 V0 gr gt sv rv go gp gs ct Pf Sf Q1 Q2 lv R' wz)) (fun _ _ _ i _ => ((F.steps.length : Int) - intOf i).toNat)
            case atStart => exact ⟨0, lv, R, false, rfl, by rw [hla], by rw [hlb], rfl, Nat.zero_le _, (fun _ => ⟨rfl, fun c' h => absurd h (Nat.not_lt_zero _)⟩), (fun h => by cases h), hX⟩
            case round =>
              clear hX hla hlb hA24 hB24
              obtain ⟨c, lv, R', mv, rfl, rfl, rfl, rfl, hcn, hno, hyes, hX⟩ := hrel
              cases mv with
              | true =>
                have hG2 := hide' (hyes.out rfl)
                clear hno hyes hG T
                go_wp2
                all_goals exact ⟨⟨kk + 1, lv, R', by go_num, rfl, rfl, by omega, hG2, hX⟩, by simp [intOf]; omega⟩
              | false =>
                obtain ⟨rfl, hno⟩ := hno.out rfl
                clear hyes
                by_cases hlt : c < F.steps.length
                · have hn0' : ¬ (F.steps.length : Int) = 0 := by omega
                  have hsn : (aa + c) % F.steps.length < F.steps.length := Nat.mod_lt _ (by omega)
                  have hno2 : Hid (¬ mvS F.steps.length Pf R' ((aa + c) % F.steps.length) → ∀ c', c' < c + 1 → ¬ mvS F.steps.length Pf R' ((aa + c') % F.steps.length)) := fun h c' hc' => by
                    rcases Nat.lt_succ_iff_lt_or_eq.1 hc' with h' | rfl
                    · exact hno c' h'
                    · exact h
                  have hlenR : Hid (R'.S.length = F.steps.length) := hX.out.x.len
                  clear hno
                  go_upto_region 31 with fail
                  rw [turn_s' aa c F.steps.length]
                  generalize (aa + c) % F.steps.length = s at *
                  obtain ⟨t, ht⟩ : ∃ t, R'.S[s]? = some t := ⟨_, List.getElem?_eq_getElem (by rw [hlenR.out]; exact hsn)⟩
                  have KT := hide' (stateF hX.out.x.run (s : Int))
                  rw [sta_at ht] at KT
                  have hlg : Hid (R'.log.length ≤ 100000) := by have := hG.out.lg; show _ ≤ _; omega
                  have hA24 : lefA R'.S ≤ 24 := by have := hG.out.ab; omega
                  have hB24 : lefB R'.S ≤ 24 := by have := hG.out.ab; omega
                  go_wp2_with fail
                  refine KT.out.mono ?_
                  rintro e w6 ⟨rfl, hb6⟩
                  have hX7 := hide' (hX.out.over (hb6.trans ((Below.refl _ w6).alloc (Nat.le_refl _) (.cells #[.int .i64 t.st, .int .i64 t.us, .int .i64 t.ca, .int .i64 t.da] 45) |>.mono hb6.size)))
                  clear KT hX hb6
                  by_cases h1 : t.st = 1
                  · obtain ⟨hc0, hG2, e1, e2⟩ := hG.out.done h3'.out ht h1
                    have KD := hide' (hX7.out.x.doneC hlg.out (s : Int) t.us 9)
                    rw [hc0] at KD
                    rw [h1] at hX7 KD ⊢
                    clear hno2 T hc0 hG
                    go_wp2_with fail
                    refine KD.out.mono ?_
                    rintro e w8 ⟨rfl, l2, hX8⟩
                    have hX9 := hide' (hX7.out.next hX8)
                    clear KD hX7 hX8
                    go_wp2
                    exact ⟨⟨c + 1, l2, _, true, by go_num, by rw [e1], by rw [← e2]; go_num, rfl, by omega, (fun h => by cases h), (fun _ => hG2), hX9⟩, by simp [intOf]; omega⟩
                  · have h1' : (t.st == 1) = false := by rw [beq_eq_false_iff_ne]; exact h1
                    have KR := hide' (hX7.out.x.readyC (T.out _ hX7.out.bl))
                    rw [hlenR.out] at KR
                    have hbt := O.bit_test1 (a := s) (rdyR_lt (R := R') hX7.out.x.wrd (by rw [hlenR.out]; omega))
                    cases hb : (rdyR F.steps.length Pf R').testBit s with
                    | true =>
                      obtain ⟨hc0, hG2, e1, e2⟩ := hG.out.claim hX7.out.x.wrd h3'.out hsn hb (kk : Int)
                      rw [hb] at hbt
                      generalize rdyR F.steps.length Pf R' = x at *
                      have KC : Hid (∀ W, Below (w6.alloc (.cells #[.int .i64 t.st, .int .i64 t.us, .int .i64 t.ca, .int .i64 t.da] 45)).heap.size (w6.alloc (.cells #[.int .i64 t.st, .int .i64 t.us, .int .i64 t.ca, .int .i64 t.da] 45)) W → Calls Tryd.prog 9 #[.pointer (some ⟨gr, 0, none⟩), .int .i64 (s : Int), .int .i64 (kk : Int), .int .i64 9] W fun e w' => e = .returned (.int .i64 0) ∧ ∃ lv', RnL w F bg o1 c1 o2 c2 V0 gr gt sv rv go gp gs ct Pf Sf Q1 Q2 lv' (clmR Pf R' (s : Int) (kk : Int) 9) w') := fun W hW => by
                        have := (hX7.out.over hW).x.claimC hlg.out (s : Int) (kk : Int) 9
                        rw [hc0] at this
                        refine this.mono ?_
                        rintro e w9 ⟨rfl, l2, h9⟩
                        exact ⟨rfl, l2, (hX7.out.over hW).next h9⟩
                      clear hno2 T hc0 hG hb hX7 h1
                      go_wp2_with fail
                      refine KR.out.mono ?_
                      rintro e w8 ⟨rfl, hb8⟩
                      have KC8 := hide' (KC.out w8 hb8)
                      clear KR KC hb8
                      go_wp2_with fail
                      refine KC8.out.mono ?_
                      rintro e w9 ⟨rfl, l2, hX9⟩
                      have hX9' := hide' hX9
                      clear KC8 hX9
                      go_wp2
                      exact ⟨⟨c + 1, l2, _, true, by go_num, by rw [← e1]; go_num, by rw [e2], rfl, by omega, (fun h => by cases h), (fun _ => hG2), hX9'⟩, by simp [intOf]; omega⟩
                    | false =>
                      have hnm : Hid (∀ c', c' < c + 1 → ¬ mvS F.steps.length Pf R' ((aa + c') % F.steps.length)) := hno2.out fun h => by
                        rcases h with ⟨t', ht', e⟩ | h
                        · rw [ht] at ht'; cases ht'; exact h1 e
                        · rw [hb] at h; cases h
                      rw [hb] at hbt
                      generalize rdyR F.steps.length Pf R' = x at *
                      clear hno2 T hb hG h1
                      go_wp2_with fail
                      refine KR.out.mono ?_
                      rintro e w8 ⟨rfl, hb8⟩
                      have hX8 := hide' (hX7.out.over hb8)
                      clear KR hX7 hb8
                      go_wp2
                      exact ⟨⟨c + 1, lv, R', false, by go_num, rfl, rfl, rfl, by omega, (fun _ => ⟨rfl, hnm.out⟩), (fun h => by cases h), hX8⟩, by simp [intOf]; omega⟩
                · exfalso
                  obtain rfl : c = F.steps.length := by omega
                  exact hG.out.moves hX.out.x.wrd h3'.out haa hno
        · obtain rfl : kk = 24 := by omega
          obtain ⟨h3, e1, e2⟩ := hG.out.out (.inl rfl)
          rw [hla] at e1
          rw [hlb] at e2
          subst e1 e2
          rw [h3] at KS
          have hF := hide' hX.out.bl
          clear hG hX hla hlb T hDc' h3
          go_wp2_with fail
          refine KS.out.mono ?_
          rintro e w6 ⟨rfl, hw⟩
          obtain rfl : wr = w6 := hw.symm
          go_wp2
          go_ret
          exact ⟨rfl, hF.out⟩
end Go.Proofs.YtgbpakkeebehlaaDoor
