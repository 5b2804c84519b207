/- RunLog: the law's walk. -/
import Derived.Test.YtaoddedocibdoaaDoorJ32
import Derived.Laws.StructEq
import Derived.Deep.QuietTactic
import Derived.BigQuiet
import Derived.Deep.CutRange
import Derived.Deep.CutBlock
import Derived.Deep.RegionHeld3
namespace Go.Proofs.YtaoddedocibdoaaDoor
open Go.RowKit
/-- The run while the law plays, with all that was there ahead of it. -/
structure RnV (w : World) (F : Fw) (bg : Nat) (o1 : Option Addr) (c1 : Nat) (o2 : Option Addr) (c2 : Nat) (V0 : World) (gr gt : Nat) (sv rv : Value) (go gp gs ct : Nat) (Pf Sf : Nat → Nat) (P1 : List (Sp × Value)) (P2 : List (Rl × Value)) (lv : Value) (R : Rs) (W : World) : Prop where
  x : RnX V0 F gr gt sv rv go gp gs ct Pf Sf P1 P2 lv R W
  bw : Below w.heap.size w V0
  ok : FlOk F
  bg : V0.heap[bg]? = some (.cells #[.string F.name, .slice o1 F.steps.length c1, .slice o2 F.rules.length c2] 25 (0, 0))
section
variable {w : World} {F : Fw} {bg : Nat} {o1 : Option Addr} {c1 : Nat} {o2 : Option Addr} {c2 : Nat} {V0 : World} {gr gt : Nat} {sv rv : Value} {go gp gs ct : Nat} {Pf Sf : Nat → Nat} {P1 : List (Sp × Value)} {P2 : List (Rl × Value)} {lv : Value} {R : Rs} {W W' : World}
theorem RnV.over (h : RnV w F bg o1 c1 o2 c2 V0 gr gt sv rv go gp gs ct Pf Sf P1 P2 lv R W) (hb : Below W.heap.size W W') : RnV w F bg o1 c1 o2 c2 V0 gr gt sv rv go gp gs ct Pf Sf P1 P2 lv R W' := { h with x := h.x.over hb }
theorem RnV.bl (h : RnV w F bg o1 c1 o2 c2 V0 gr gt sv rv go gp gs ct Pf Sf P1 P2 lv R W) : Below w.heap.size w W := h.bw.trans (h.x.bl.mono h.bw.size)
theorem RnV.g1 (h : RnV w F bg o1 c1 o2 c2 V0 gr gt sv rv go gp gs ct Pf Sf P1 P2 lv R W) : W.cell? ⟨bg, 1, none⟩ = some (.slice o1 F.steps.length c1) := by
  have := (h.x.bl.block bg (Array.getElem?_eq_some_iff.1 h.bg).1).trans h.bg
  simp [World.cell?, this]
theorem RnV.next {lv' : Value} {R' : Rs} (h : RnV w F bg o1 c1 o2 c2 V0 gr gt sv rv go gp gs ct Pf Sf P1 P2 lv R W) (hx : RnX V0 F gr gt sv rv go gp gs ct Pf Sf P1 P2 lv' R' W') : RnV w F bg o1 c1 o2 c2 V0 gr gt sv rv go gp gs ct Pf Sf P1 P2 lv' R' W' := { h with x := hx }
end
theorem st_eq (a b c d : Int) (w : World) : (Op.equalIn 10000 51 (.agg #[.int .i64 a, .int .i64 b, .int .i64 c, .int .i64 d]) (.agg #[.int .i64 a, .int .i64 b, .int .i64 c, .int .i64 d])).run Tryd.prog w = .ok true w := by
  have u3 := Tryd.underlying3
  have a3 := Tryd.isAgg3
  have z3 := Tryd.sizeOf3
  rw [show (10000 : Nat) = 9999 + 1 from rfl, run_equalIn_struct w 9999 _ _ _ (by simp [Program.fieldsOf, Tryd.underlying51]) (by kernel_rfl)]
  simp only [Program.fieldsOf, Tryd.underlying51]
  go_simp
theorem ev_at {W : World} {B g n cap : Nat} {L : List Ev} (h : W.ownsRow B 49 4 (.slice (some ⟨g, 0, none⟩) n cap) L.length (cellsEv L)) {i : Nat} {e : Ev} (he : L[i]? = some e) : W.cell? ⟨g, i * 4, none⟩ = some (.int .i64 e.tick) ∧ W.cell? ⟨g, i * 4 + 1, none⟩ = some (.int .i64 e.kind) ∧ W.cell? ⟨g, i * 4 + 2, none⟩ = some (.int .i64 e.step) ∧ W.cell? ⟨g, i * 4 + 3, none⟩ = some (.int .i64 e.user) := by
  have hi := (List.getElem?_eq_some_iff.1 he).1
  obtain ⟨o, c, hv⟩ := own_shp h
  injection hv with _ hn _
  subst hn
  have a0 := h.cellAt (i * 4 + 0) (by omega)
  have a1 := h.cellAt (i * 4 + 1) (by omega)
  have a2 := h.cellAt (i * 4 + 2) (by omega)
  have a3 := h.cellAt (i * 4 + 3) (by omega)
  unfold cellsEv at a0 a1 a2 a3
  rw [four_at evcells evcells_len L i _ (by decide), he] at a0 a1 a2 a3
  exact ⟨a0, a1, a2, a3⟩
set_option maxRecDepth 100000 in
set_option maxHeartbeats 8000000 in
theorem runLog_walk (F0 : Fw) (v : Value) (L : List Oq) (ov : Value) (w : World) (hv : flV w v F0) (hN : FlN F0) (hL : RowQ w ov L) (ht : O.Tab w) :
    Calls Tryd.prog 3 #[v, ov] w fun e w' => e = .returned (.bool true) ∧ Below w.heap.size w w' := by
  have KT0 : Hid (∀ W, Below w.heap.size w W → Calls Tryd.prog 4 #[v] W (CopR W (cutFw F0))) := fun W hW => twin7F F0 v W (hv.below hW (Nat.le_refl _))
  have KT1 : Hid (∀ V W x, flV V x (cutFw F0) → Below V.heap.size V W → Calls Tryd.prog 4 #[x] W (CopR W (cutFw F0))) := fun V W x hx hW => by
    have := twin7F (cutFw F0) x W (hx.below hW (Nat.le_refl _))
    rwa [cut_idem] at this
  have hB := flb_cut hN
  have KN : Hid (∀ W x, flV W x (cutFw F0) → Below w.heap.size w W → Calls Tryd.prog 5 #[x, .int .i64 0] W (NewP (cutFw F0) 0 W)) := fun W x hx hW => newRF _ x 0 W hx hB (ht.over hW)
  have KC : Hid (∀ W x, flV W x (cutFw F0) → Calls Tryd.prog 7 #[x] W (flErr W (chkF (cutFw F0)))) := fun W x hx => checkD _ x W hx hB
  have KW : Hid (∀ W, Below w.heap.size w W → Calls Tryd.prog 6 #[] W fun e w' => e = .returned (.bool true) ∧ Below W.heap.size W w') := fun W hW => wakes17 W (ht.over hW)
  have T : Hid (∀ W, Below w.heap.size w W → O.Tab W) := fun W hW => ht.over hW
  have KP : Hid (∀ W sv orr lr cr, RowS W sv (cutFw F0).steps → Calls Tryd.prog 13 #[.agg #[.string (cutFw F0).name, sv, .slice orr lr cr]] W fun e w' => ∃ v', e = .returned v' ∧ O.PairsAt w' v' (prs (cutFw F0).steps) ∧ Below W.heap.size W w') := fun W sv orr lr cr h => pairsD _ sv _ orr lr cr W h (by have := hB.sl; omega) (fun s hs => (hB.st s hs).1)
  have KO : Hid (∀ W v, O.PairsAt W v (prs (cutFw F0).steps) → Calls Tryd.prog 12 #[.int .i64 ((cutFw F0).steps.length : Nat), v] W fun e w' => ∃ po z, e = .returned (.tuple #[.pointer po, .int .i64 z]) ∧ Hid (O.RefC W ((cutFw F0).steps.length : Nat) (prs (cutFw F0).steps) po z w') ∧ Below W.heap.size W w') := fun W v h => O.refT _ v _ W h (by have := prT_len (L := (cutFw F0).steps) (fun s hs => (hB.st s hs).1) (cutFw F0).steps.length; have := hB.sl; show (prT (cutFw F0).steps (cutFw F0).steps.length).length ≤ _; omega)
  generalize cutFw F0 = F at *
  obtain ⟨sv0, rv0, rfl, hs, hr⟩ := hv
  obtain ⟨oa, cap, rfl⟩ := hs.shape
  obtain ⟨ob, cb, rfl⟩ := hr.shape
  obtain ⟨oq, cq, rfl, hcq, hLc⟩ := hL
  have hLc' := hide' hLc
  clear hs hr hB hN ht hLc
  have B0 : Hid (Below w.heap.size w (w.alloc (.cells #[.string F0.name, .slice oa F0.steps.length cap, .slice ob F0.rules.length cb] 25))) := (Below.refl _ w).alloc (Nat.le_refl _) _
  go_enter Tryd.func3, Tryd.ntmps3
  go_wp2_with fail
  refine (KT0.out _ B0.out).mono ?_
  intro e w1 hC1
  obtain ⟨o1, c1, o2, c2, P1, P2, rfl, hF1, hb1⟩ := hC1.open
  have B1 := hide' (B0.out.trans (hb1.mono B0.out.size))
  clear KT0 B0 hC1 hb1
  have hF1' := hide' (hF1.over ((Below.refl _ w1).alloc (Nat.le_refl _) (.cells #[.string F.name, .slice o1 F.steps.length c1, .slice o2 F.rules.length c2] 25)))
  have D1 := hide' (heap_alloc_new w1 (.cells #[.string F.name, .slice o1 F.steps.length c1, .slice o2 F.rules.length c2] 25))
  have B2 := hide' (B1.out.alloc B1.out.size (.cells #[.string F.name, .slice o1 F.steps.length c1, .slice o2 F.rules.length c2] 25))
  clear hF1
  go_wp2_with fail
  generalize hbg : w1.heap.size = bg at *
  generalize w1.alloc (.cells #[.string F.name, .slice o1 F.steps.length c1, .slice o2 F.rules.length c2] 25) = W2 at *
  clear hbg
  refine (KT1.out W2 _ _ hF1'.out.fl (Below.refl _ _)).mono ?_
  intro e w3 hC3
  obtain ⟨o3, c3, o4, c4, P3, P4, rfl, hF3, hb3⟩ := hC3.open
  have B3 := hide' (B2.out.trans (hb3.mono B2.out.size))
  have hF13 := hide' (hF1'.out.over hb3)
  have D3 : Hid (w3.heap[bg]? = some (.cells #[.string F.name, .slice o1 F.steps.length c1, .slice o2 F.rules.length c2] 25 (0, 0))) := (hb3.block bg (Array.getElem?_eq_some_iff.1 D1.out).1).trans D1.out
  have KN3 := hide' (KN.out w3 _ hF3.fl B3.out)
  clear KT1 KN hC3 hF3 D1 hF1' B2 hb3
  go_wp2_with fail
  refine KN3.out.mono ?_
  rintro e w4 (⟨h0, rfl, hb4⟩ | ⟨ok, V0, gr, gt, sv, rv, go, gp, gs, ct, Pf, Sf, Q1, Q2, lv, rfl, hbV, _, hX⟩)
  · have B4 := hide' (B3.out.trans (hb4.mono B3.out.size))
    have hF14 := hide' (hF13.out.over hb4)
    have D4 : Hid (w4.heap[bg]? = some (.cells #[.string F.name, .slice o1 F.steps.length c1, .slice o2 F.rules.length c2] 25 (0, 0))) := (hb4.block bg (Array.getElem?_eq_some_iff.1 D3.out).1).trans D3.out
    have g0 : w4.cell? ⟨bg, 0, none⟩ = some (.string F.name) := by simp [World.cell?, D4.out]
    have g1 : w4.cell? ⟨bg, 1, none⟩ = some (.slice o1 F.steps.length c1) := by simp [World.cell?, D4.out]
    have g2 : w4.cell? ⟨bg, 2, none⟩ = some (.slice o2 F.rules.length c2) := by simp [World.cell?, D4.out]
    have KC4 := hide' (KC.out w4 _ hF14.out.fl)
    generalize chkF F = z at *
    have h0' : (z == 0) = false := by rw [beq_eq_false_iff_ne]; exact h0
    clear KC KN3 KW T hF13 D3 hb4 hLc' hF14 D4 B3 B1
    go_wp2_with fail
    refine KC4.out.mono ?_
    rintro e w5 ⟨rfl, hb5⟩
    have B5 := hide' (B4.out.trans (hb5.mono B4.out.size))
    clear KC4 hb5 B4
    go_wp2
    go_ret
    exact ⟨ret_bool (by simp [h0]), B5.out⟩
  · have hBV := hide' (B3.out.trans (hbV.mono B3.out.size))
    have hR0 : Hid (RnV w F bg o1 c1 o2 c2 V0 gr gt sv rv go gp gs ct Pf Sf Q1 Q2 lv (newR F.steps.length 0) w4) := ⟨hX, hBV.out, ok, (hbV.block bg (Array.getElem?_eq_some_iff.1 D3.out).1).trans D3.out⟩
    have hF0 := hide' (hF13.out.over hbV)
    have KW4 := hide' (KW.out w4 hR0.out.bl)
    clear KC KN3 KW hF13 D3 hbV hX B1 B3 hBV
    go_wp2_with fail
    refine KW4.out.mono ?_
    rintro e w5 ⟨rfl, hb5⟩
    have hR1 := hide' (hR0.out.over hb5)
    have hPS := hide' (PlL.start Pf ok.ne 0)
    have hn12 := ok.le
    have hn0 := ok.ne
    clear KW4 hR0 hb5
    go_upto_block 0 with fail
    go_cut [8] from 49 to 124 (fun _ wx => ∃ (lv : Value) (R : Rs), Hid (PlL Pf F.steps.length R 200) ∧ Hid (RnV w F bg o1 c1 o2 c2 V0 gr gt sv rv go gp gs ct Pf Sf Q1 Q2 lv R wx))
    case first => as_aux_lemma =>
      go_wp2
      go_loopw [8] (fun k wr => ∃ (c : Nat) (lv : Value) (R : Rs), c ≤ L.length ∧ c ≤ 200 ∧ k = .int .i64 c ∧ Hid (PlL Pf F.steps.length R c) ∧ Hid (RnV w F bg o1 c1 o2 c2 V0 gr gt sv rv go gp gs ct Pf Sf Q1 Q2 lv R wr)) (fun k _ => ((200 : Int) - intOf k).toNat)
      case atStart => exact ⟨0, lv, _, Nat.zero_le _, Nat.zero_le _, rfl, hPS, hR1⟩
      case round =>
        clear hPS hR1
        obtain ⟨c, lv, R, hcl, hc200, rfl, hP, hX⟩ := hrel
        by_cases hgo : c < L.length ∧ c < 200
        · obtain ⟨hlt, h200⟩ := hgo
          obtain ⟨q, hx⟩ : ∃ x, L[c]? = some x := ⟨_, List.getElem?_eq_getElem hlt⟩
          obtain ⟨g, f, rfl, e0, e1, e2, e3, e4, e5⟩ := hLc'.out c q hx
          have hcell : Hid (∀ V, Below w.heap.size w V → V.cell? ⟨g, f + c * 6 + 1, none⟩ = some (.int .i64 q.op) ∧ V.cell? ⟨g, f + c * 6 + 2, none⟩ = some (.int .i64 q.step) ∧ V.cell? ⟨g, f + c * 6 + 3, none⟩ = some (.int .i64 q.user) ∧ V.cell? ⟨g, f + c * 6 + 4, none⟩ = some (.int .i64 q.tick) ∧ V.cell? ⟨g, f + c * 6 + 5, none⟩ = some (.bool q.stuck)) := fun V hV => ⟨(hV.cell (p := ⟨g, f + c * 6 + 1, none⟩) (cell_lt e1)).trans e1, (hV.cell (p := ⟨g, f + c * 6 + 2, none⟩) (cell_lt e2)).trans e2, (hV.cell (p := ⟨g, f + c * 6 + 3, none⟩) (cell_lt e3)).trans e3, (hV.cell (p := ⟨g, f + c * 6 + 4, none⟩) (cell_lt e4)).trans e4, (hV.cell (p := ⟨g, f + c * 6 + 5, none⟩) (cell_lt e5)).trans e5⟩
          have d1 := (hcell.out wr hX.out.bl).1
          have hlg : R.log.length ≤ 100000 := by have := hP.out.ln; omega
          have hcq1 := hcq.1
          have hNx := hide' (hP.out.next q)
          have hXd := hide' (hX.out.over (Below.refl _ _).drew)
          clear hx e0 e1 e2 e3 e4 e5 hLc' T
          by_cases k1 : q.op = 1
          · rw [ply1 k1] at hNx
            rw [k1] at d1
            have KK := hide' (hXd.out.x.claimC hlg q.step q.user q.tick)
            have hS0 := hide' (hcell.out wr.drew hXd.out.bl).2
            clear hP hX k1
            go_wp2
            go_region_held3 (fun V => V.cell? ⟨g, f + c * 6 + 2, none⟩ = some (.int .i64 q.step) ∧ V.cell? ⟨g, f + c * 6 + 3, none⟩ = some (.int .i64 q.user) ∧ V.cell? ⟨g, f + c * 6 + 4, none⟩ = some (.int .i64 q.tick) ∧ V.cell? ⟨g, f + c * 6 + 5, none⟩ = some (.bool q.stuck)) (first | (exact hS0.out) | (exact (hcell.out _ (hXd.out.next hX2).bl).2)) (first | (go_at_call 8; refine KK.out.mono ?_; rintro e w6 ⟨rfl, l2, hX2⟩))
            have hX6 := hide' (hXd.out.next hX2)
            clear hX2 KK hS0 hXd hcell
            go_wp2
            exact ⟨⟨c + 1, l2, _, by omega, by omega, by go_num, hNx, hX6⟩, by simp [intOf]; omega⟩
          have k1' : (q.op == 1) = false := by rw [beq_eq_false_iff_ne]; exact k1
          by_cases k2 : q.op = 2
          · rw [ply2 k2] at hNx
            rw [k2] at d1
            have KK := hide' (hXd.out.x.doneC hlg q.step q.user q.tick)
            have hS0 := hide' (hcell.out wr.drew hXd.out.bl).2
            clear hP hX k1 k2 k1'
            go_wp2
            go_region_held3 (fun V => V.cell? ⟨g, f + c * 6 + 2, none⟩ = some (.int .i64 q.step) ∧ V.cell? ⟨g, f + c * 6 + 3, none⟩ = some (.int .i64 q.user) ∧ V.cell? ⟨g, f + c * 6 + 4, none⟩ = some (.int .i64 q.tick) ∧ V.cell? ⟨g, f + c * 6 + 5, none⟩ = some (.bool q.stuck)) (first | (exact hS0.out) | (exact (hcell.out _ (hXd.out.next hX2).bl).2)) (first | (go_at_call 9; refine KK.out.mono ?_; rintro e w6 ⟨rfl, l2, hX2⟩))
            have hX6 := hide' (hXd.out.next hX2)
            clear hX2 KK hS0 hXd hcell
            go_wp2
            exact ⟨⟨c + 1, l2, _, by omega, by omega, by go_num, hNx, hX6⟩, by simp [intOf]; omega⟩
          have k2' : (q.op == 2) = false := by rw [beq_eq_false_iff_ne]; exact k2
          by_cases k3 : q.op = 3
          · rw [ply3 k3] at hNx
            rw [k3] at d1
            have d4 := (hcell.out wr hX.out.bl).2.2.2.1
            have KK := hide' (hX.out.x.abortC hlg q.tick)
            clear hP hXd k1 k2 k1' k2' k3
            go_wp2_with fail
            refine KK.out.mono ?_
            rintro e w6 ⟨rfl, l2, hX2⟩
            have hX6 := hide' (hX.out.next hX2)
            clear hX2 KK hX hcell
            go_wp2
            exact ⟨⟨c + 1, l2, _, by omega, by omega, by go_num, hNx, hX6⟩, by simp [intOf]; omega⟩
          have k3' : (q.op == 3) = false := by rw [beq_eq_false_iff_ne]; exact k3
          by_cases k4 : q.op = 4
          · rw [ply4 k4] at hNx
            rw [k4] at d1
            have KK := hide' (hXd.out.x.markC hlg q.stuck q.tick)
            have hS0 := hide' (hcell.out wr.drew hXd.out.bl).2
            clear hP hX k1 k2 k3 k1' k2' k3' k4
            go_wp2
            go_region_held3 (fun V => V.cell? ⟨g, f + c * 6 + 2, none⟩ = some (.int .i64 q.step) ∧ V.cell? ⟨g, f + c * 6 + 3, none⟩ = some (.int .i64 q.user) ∧ V.cell? ⟨g, f + c * 6 + 4, none⟩ = some (.int .i64 q.tick) ∧ V.cell? ⟨g, f + c * 6 + 5, none⟩ = some (.bool q.stuck)) (first | (exact hS0.out) | (exact (hcell.out _ (hXd.out.next hX2).bl).2)) (first | (go_at_call 11; refine KK.out.mono ?_; rintro e w6 ⟨rfl, l2, hX2⟩))
            have hX6 := hide' (hXd.out.next hX2)
            clear hX2 KK hS0 hXd hcell
            go_wp2
            exact ⟨⟨c + 1, l2, _, by omega, by omega, by go_num, hNx, hX6⟩, by simp [intOf]; omega⟩
          have k4' : (q.op == 4) = false := by rw [beq_eq_false_iff_ne]; exact k4
          rw [ply0 k1 k2 (fun _ => k3) k4] at hNx
          clear hP hXd hcell k1 k2 k3 k4
          go_wp2
          exact ⟨⟨c + 1, lv, _, by omega, by omega, by go_num, hNx, hX⟩, by simp [intOf]; omega⟩
        · have hP2 : Hid (PlL Pf F.steps.length R 200) := ⟨hP.out.ok, hP.out.lg, by have := hP.out.ln; omega⟩
          clear hLc' T
          by_cases hlt : c < L.length
          · have h200 : ¬ c < 200 := fun h => hgo ⟨hlt, h⟩
            clear hgo
            go_wp2
            go_meet
            exact ⟨lv, R, hP2, hX⟩
          · clear hgo
            go_wp2
            go_meet
            exact ⟨lv, R, hP2, hX⟩
    case rest =>
    clear hPS hR1 hLc' hcq
    obtain ⟨lv, R, hP, hX⟩ := hcut
    have hXd := hide' (hX.out.over (Below.refl _ _).drew)
    have hcl : Hid (∀ V, RnV w F bg o1 c1 o2 c2 V0 gr gt sv rv go gp gs ct Pf Sf Q1 Q2 lv R V → V.cell? ⟨bg, 0, none⟩ = some (.string F.name) ∧ V.cell? ⟨bg, 1, none⟩ = some (.slice o1 F.steps.length c1) ∧ V.cell? ⟨bg, 2, none⟩ = some (.slice o2 F.rules.length c2)) := fun V h => by
      have := (h.x.bl.block bg (Array.getElem?_eq_some_iff.1 h.bg).1).trans h.bg
      simp [World.cell?, this]
    have hRw : Hid (∀ V, RnV w F bg o1 c1 o2 c2 V0 gr gt sv rv go gp gs ct Pf Sf Q1 Q2 lv R V → RowS V (.slice o1 F.steps.length c1) F.steps) := fun V h => by
      have := (hF0.out.over h.x.bl).t1.rowS
      rwa [hF0.out.m1] at this
    have hgd : Hid (O.goodP (F.steps.length : Nat) (prs F.steps) ∧ ¬ O.cycL F.steps.length (prs F.steps)) := ⟨prs_good (by omega) ok.st, ok.cy⟩
    have hS0 := hide' (hcl.out _ hXd.out)
    clear hX hF0 ok T
    go_upto_region 17 with fail
    go_region_held3 (fun V => V.cell? ⟨bg, 0, none⟩ = some (.string F.name) ∧ V.cell? ⟨bg, 1, none⟩ = some (.slice o1 F.steps.length c1) ∧ V.cell? ⟨bg, 2, none⟩ = some (.slice o2 F.rules.length c2)) (first | (exact hS0.out) | (exact hcl.out _ ((hXd.out.over hb6).over hb7)) | (exact hcl.out _ (hXd.out.over hb6))) (first | (go_at_call 12; refine (KO.out _ _ hpa).mono ?_; rintro e w7 ⟨po, z, rfl, hC, hb7⟩) | (go_at_call 13; refine (KP.out _ _ _ _ _ (hRw.out _ hXd.out)).mono ?_; rintro e w6 ⟨pv, rfl, hpa, hb6⟩))
    have hX7 := hide' ((hXd.out.over hb6).over hb7)
    obtain ⟨go', ov, gr', hpo, hM⟩ : ∃ go' ov gr', (po = some ⟨go', 0, none⟩ ∧ z = 0) ∧ O.Mat w6 go' F.steps.length F.steps.length (O.ordL F.steps.length (prs F.steps)) ov gr' w7 := by
      rcases hC.out with ⟨h, _⟩ | ⟨_, h, _⟩ | ⟨_, _, e, go', ov, gr', e2, hM⟩
      · exact absurd hgd.out.1 h
      · exact absurd h hgd.out.2
      · exact ⟨go', ov, gr', ⟨e2, e⟩, hM⟩
    obtain ⟨rfl, rfl⟩ := hpo
    have hM' := hide' hM
    have hne : R.log ≠ [] := by obtain ⟨a, l, q, _⟩ := hP.out.lg.hd; rw [q]; exact fun h => by cases h
    have hln : R.log.length ≤ 401 := hP.out.ln
    have KL := hide' (logF hX7.out.x.run hne (by omega))
    clear hXd hb6 hb7 hC hM hpa hS0 hgd KP KO hRw
    go_wp2_with fail
    refine KL.out.mono ?_
    rintro e w8 ⟨v8, rfl, hLo, hb8⟩
    obtain ⟨gl, cl, rfl⟩ : ∃ gl cl, v8 = .slice (some ⟨gl, 0, none⟩) R.log.length cl := by
      rcases hLo.2 with ⟨_, h0⟩ | ⟨g, cap, cs, rfl, _⟩
      · exact absurd (List.eq_nil_of_length_eq_zero h0) hne
      · exact ⟨g, cap, rfl⟩
    have hcl8 : R.log.length ≤ cl := by
      rcases hLo.2 with ⟨e, _⟩ | ⟨g, cap, cur, e, _, _, hcap, _⟩
      · cases e
      · cases e; exact hcap
    have hX8 := hide' (hX7.out.over hb8)
    have hM8 := hide' (hM'.out.over hb8)
    have hLo8 := hide' hLo
    have g1 := hX8.out.g1
    have hmk : ∀ W : World, (Instr.makeSlice 46 (.int .i64 (F.steps.length : Int)) (.int .i64 (F.steps.length : Int))).run Tryd.prog W = .ok (.slice (some ⟨W.heap.size, 0, none⟩) F.steps.length F.steps.length) (W.alloc (.cells (List.replicate (F.steps.length * 4) (Value.int .i64 0)).toArray 51)) := fun W => makeS4 F.steps.length (by omega) W
    obtain ⟨W9, hW9⟩ : ∃ W, W = w8.alloc (.cells (List.replicate (F.steps.length * 4) (Value.int .i64 0)).toArray 51) := ⟨_, rfl⟩
    obtain ⟨gz, hgz⟩ : ∃ g, g = w8.heap.size := ⟨_, rfl⟩
    have hRp : Hid (Rp w8 gz F.steps.length (List.replicate F.steps.length ⟨0, 0, 0, 0⟩) W9) := by rw [hgz]; exact Rp.start (n := F.steps.length) (by omega) hW9
    have hmk8 := hmk w8
    rw [← hW9, ← hgz] at hmk8
    clear hmk hW9 hgz KL hX7 hM' hLo hb8 hcl
    go_upto_block 3 with fail
    clear hmk8 g1
    have hEv : Hid (∀ V, Below w8.heap.size w8 V → ∀ (i : Nat) (e : Ev), R.log[i]? = some e → V.cell? ⟨gl, i * 4, none⟩ = some (.int .i64 e.tick) ∧ V.cell? ⟨gl, i * 4 + 1, none⟩ = some (.int .i64 e.kind) ∧ V.cell? ⟨gl, i * 4 + 2, none⟩ = some (.int .i64 e.step) ∧ V.cell? ⟨gl, i * 4 + 3, none⟩ = some (.int .i64 e.user)) := fun V hV i e he => by
      obtain ⟨a0, a1, a2, a3⟩ := ev_at hLo8.out he
      exact ⟨(hV.cell (p := ⟨gl, i * 4, none⟩) (cell_lt a0)).trans a0, (hV.cell (p := ⟨gl, i * 4 + 1, none⟩) (cell_lt a1)).trans a1, (hV.cell (p := ⟨gl, i * 4 + 2, none⟩) (cell_lt a2)).trans a2, (hV.cell (p := ⟨gl, i * 4 + 3, none⟩) (cell_lt a3)).trans a3⟩
    go_cut [13, 14] from 140 to 282 (fun dn _ wx => dn = .int .u64 ((thz R.S 2 : Nat) : Int) ∧ Hid (Rp w8 gz F.steps.length (R.S.map opn) wx))
    case first => as_aux_lemma =>
      go_wp2
      go_loopw [13, 14] (fun dn k wr => ∃ (c : Nat) (T : List SS), c ≤ R.log.length ∧ k = .int .i64 c ∧ dn = .int .u64 ((thz T 2 : Nat) : Int) ∧ Hid (T = repl F.steps.length (R.log.take c)) ∧ Hid (Rp w8 gz F.steps.length T wr)) (fun _ k _ => ((R.log.length : Int) - intOf k).toNat)
      case atStart => exact ⟨0, _, Nat.zero_le _, rfl, by rw [show repl F.steps.length (List.take 0 R.log) = List.replicate F.steps.length ⟨0, 0, 0, 0⟩ from rfl, thz_rep]; rfl, rfl, hRp⟩
      case round =>
        clear hRp
        obtain ⟨c, T, hcl, rfl, rfl, hT, hR⟩ := hrel
        have hTl := hR.out.len
        have hTd : thz T 2 < 18446744073709551616 := thz_lt T 2 (by omega)
        by_cases hlt : c < R.log.length
        · obtain ⟨e, he⟩ : ∃ e, R.log[c]? = some e := ⟨_, List.getElem?_eq_getElem hlt⟩
          have hok := hP.out.lg.ok c e he
          rw [← hT.out] at hok
          have hok' := hide' hok
          have hNx : Hid (evS T e = repl F.steps.length (R.log.take (c + 1))) := by show _ = _; rw [repl_next _ he, ← hT.out]
          obtain ⟨e0, e1, e2, e3⟩ := hEv.out wr hR.out.bl c e he
          have hEc : Hid (∀ V, Below w8.heap.size w8 V → V.cell? ⟨gl, c * 4, none⟩ = some (.int .i64 e.tick) ∧ V.cell? ⟨gl, c * 4 + 1, none⟩ = some (.int .i64 e.kind) ∧ V.cell? ⟨gl, c * 4 + 2, none⟩ = some (.int .i64 e.step) ∧ V.cell? ⟨gl, c * 4 + 3, none⟩ = some (.int .i64 e.user)) := fun V hV => hEv.out V hV c e he
          clear hok he hEv hT hP hLo8
          by_cases k2 : e.kind = 2
          · as_aux_lemma =>
            obtain ⟨h0, s, hs, hst, hpre⟩ := hok'.out.1 k2
            obtain ⟨k, hk⟩ : ∃ k : Nat, e.step = (k : Int) := ⟨_, (Int.toNat_of_nonneg h0).symm⟩
            rw [hk, Int.toNat_natCast] at hs hpre
            have hklt : k < F.steps.length := by have := (List.getElem?_eq_some_iff.1 hs).1; omega
            have hev : Hid (T.set k ⟨1, e.user, e.tick, 0⟩ = repl F.steps.length (R.log.take (c + 1))) := by
              have := hNx.out
              unfold evS at this
              rw [if_pos k2, hk, Int.toNat_natCast] at this
              exact this
            have hth : Hid (thz (T.set k ⟨1, e.user, e.tick, 0⟩) 2 = thz T 2) := thz_claim hs (by rw [hst]; decide) _ _ _
            have KPr := hide' (O.refPreds (hM8.out.over hR.out.bl) (by omega) hX8.out.x.wrd.inn (k : Int))
            rw [(hX8.out.x.wrd.preN hklt).1] at KPr
            have han := u64_andNot_nat (Pf k) (thz T 2) (hX8.out.x.wrd.preN hklt).2 hTd
            rw [hpre] at han
            obtain ⟨u0, u1, u2, u3⟩ := hR.out.at hs
            rw [hst] at u0
            rw [k2] at e1
            rw [hk] at e2 hEc
            have t0 := hR.out.frz (k * 4)
            have t1 := hR.out.frz (k * 4 + 1)
            have t2 := hR.out.frz (k * 4 + 2)
            have t3 := hR.out.frz (k * 4 + 3)
            have hR4 := hide' (hR.out.set4 k ⟨1, e.user, e.tick, 0⟩ hklt)
            have hS2 : Hid (wr.drew.cell? ⟨gl, c * 4, none⟩ = some (.int .i64 e.tick) ∧ wr.drew.cell? ⟨gl, c * 4 + 2, none⟩ = some (.int .i64 (k : Int)) ∧ wr.drew.cell? ⟨gl, c * 4 + 3, none⟩ = some (.int .i64 e.user)) := by have := hEc.out _ (hR.out.over (Below.refl _ _).drew).bl; exact ⟨this.1, this.2.2.1, this.2.2.2⟩
            have hS3 : Hid (((((wr.setCell ⟨gz, k * 4, none⟩ (.int .i64 1)).setCell ⟨gz, k * 4 + 1, none⟩ (.int .i64 e.user)).setCell ⟨gz, k * 4 + 2, none⟩ (.int .i64 e.tick)).setCell ⟨gz, k * 4 + 3, none⟩ (.int .i64 0)).drew.cell? ⟨gl, c * 4, none⟩ = some (.int .i64 e.tick) ∧ ((((wr.setCell ⟨gz, k * 4, none⟩ (.int .i64 1)).setCell ⟨gz, k * 4 + 1, none⟩ (.int .i64 e.user)).setCell ⟨gz, k * 4 + 2, none⟩ (.int .i64 e.tick)).setCell ⟨gz, k * 4 + 3, none⟩ (.int .i64 0)).drew.cell? ⟨gl, c * 4 + 2, none⟩ = some (.int .i64 (k : Int)) ∧ ((((wr.setCell ⟨gz, k * 4, none⟩ (.int .i64 1)).setCell ⟨gz, k * 4 + 1, none⟩ (.int .i64 e.user)).setCell ⟨gz, k * 4 + 2, none⟩ (.int .i64 e.tick)).setCell ⟨gz, k * 4 + 3, none⟩ (.int .i64 0)).drew.cell? ⟨gl, c * 4 + 3, none⟩ = some (.int .i64 e.user)) := by have := hEc.out _ (hR4.out.over (Below.refl _ _).drew).bl; exact ⟨this.1, this.2.2.1, this.2.2.2⟩
            have hR5 := hide' (hR4.out.over (Below.refl _ _).drew)
            clear hok' hNx hpre hs hst hR hR4 hEc hM8 hX8 hTl k2 hk h0
            generalize thz T 2 = d at *
            go_upto_region 30 with (go_at_call 15; refine KPr.out.mono ?_; rintro e9 w9 ⟨rfl, hw9⟩; obtain rfl : wr = w9 := hw9.symm)
            clear KPr
            go_region_held3 (fun V => V.cell? ⟨gl, c * 4, none⟩ = some (.int .i64 e.tick) ∧ V.cell? ⟨gl, c * 4 + 2, none⟩ = some (.int .i64 (k : Int)) ∧ V.cell? ⟨gl, c * 4 + 3, none⟩ = some (.int .i64 e.user)) (first | (exact hS2.out) | (exact hS3.out)) (first | fail)
            go_wp2
            exact ⟨⟨c + 1, _, by omega, by go_num, by rw [hth.out], hev, hR5⟩, by simp [intOf]; omega⟩
          · have k2' : (e.kind == 2) = false := by rw [beq_eq_false_iff_ne]; exact k2
            by_cases k3 : e.kind = 3
            · as_aux_lemma =>
              obtain ⟨h0, s, hs, hst, hus⟩ := hok'.out.2 k3
              obtain ⟨k, hk⟩ : ∃ k : Nat, e.step = (k : Int) := ⟨_, (Int.toNat_of_nonneg h0).symm⟩
              rw [hk, Int.toNat_natCast] at hs
              have hklt : k < F.steps.length := by have := (List.getElem?_eq_some_iff.1 hs).1; omega
              have hev : Hid (T.set k ⟨2, s.us, s.ca, e.tick⟩ = repl F.steps.length (R.log.take (c + 1))) := by
                have := hNx.out
                unfold evS at this
                rw [if_neg k2, if_pos k3, hk, Int.toNat_natCast, hs] at this
                exact this
              have hth : Hid (thz (T.set k ⟨2, s.us, s.ca, e.tick⟩) 2 = thz T 2 ||| 2 ^ k) := thz_done hs _ _ _
              obtain ⟨u0, u1, u2, u3⟩ := hR.out.at hs
              rw [hst] at u0
              rw [hus] at u1
              rw [k3] at e1
              rw [hk] at e2 hEc
              clear hok' hNx hst hM8 hX8 hTl k2 k2' k3 h0
              have hd' := hide' hTd
              generalize thz T 2 = d at *
              clear hTd
              go_upto_region 32 with fail
              go_quiet (fail)
              obtain ⟨W1, hW1⟩ : ∃ W, W = wr.drewN nq := ⟨_, rfl⟩
              have hR1 : Hid (Rp w8 gz F.steps.length T W1) := by rw [hW1]; exact hR.out.over (drew_belowR _ _)
              rw [← hW1]
              clear hW1 e0 e1 e2 e3 u0 u1 u2 u3 hR
              obtain ⟨u0, u1, u2, u3⟩ := hR1.out.at hs
              have t0 := hR1.out.frz (k * 4)
              obtain ⟨e0, e1, e2, e3⟩ := hEc.out W1 hR1.out.bl
              have hR2' := hR1.out.set0 k s hs 2
              obtain ⟨W2, hW2⟩ : ∃ W, W = W1.setCell ⟨gz, k * 4, none⟩ (.int .i64 2) := ⟨_, rfl⟩
              have hR2 : Hid (Rp w8 gz F.steps.length (T.set k ⟨2, s.us, s.ca, s.da⟩) W2) := by rw [hW2]; exact hR2'
              have hs2 : (T.set k ⟨2, s.us, s.ca, s.da⟩)[k]? = some ⟨2, s.us, s.ca, s.da⟩ := by rw [List.getElem?_set, if_pos rfl, if_pos (List.getElem?_eq_some_iff.1 hs).1]
              obtain ⟨v0, v1, v2, v3⟩ := hR2.out.at hs2
              have t3 := hR2.out.frz (k * 4 + 3)
              have hR3' := hR2.out.set3 k _ hs2 e.tick
              rw [List.set_set] at hR3'
              have hS2 : Hid (W2.drew.cell? ⟨gl, c * 4, none⟩ = some (.int .i64 e.tick) ∧ W2.drew.cell? ⟨gl, c * 4 + 2, none⟩ = some (.int .i64 (k : Int))) := by have := hEc.out _ (hR2.out.over (Below.refl _ _).drew).bl; exact ⟨this.1, this.2.2.1⟩
              have hS3 : Hid ((W2.setCell ⟨gz, k * 4 + 3, none⟩ (.int .i64 e.tick)).drew.cell? ⟨gl, c * 4, none⟩ = some (.int .i64 e.tick) ∧ (W2.setCell ⟨gz, k * 4 + 3, none⟩ (.int .i64 e.tick)).drew.cell? ⟨gl, c * 4 + 2, none⟩ = some (.int .i64 (k : Int))) := by have := hEc.out _ (hR3'.over (Below.refl _ _).drew).bl; exact ⟨this.1, this.2.2.1⟩
              have hR3 := hide' (hR3'.over (Below.refl _ _).drew)
              have e2d := (hEc.out _ hR3.out.bl).2.2.1
              have hsh := O.shlc k (by omega)
              have hpw : (2 ^ k : Nat) < 18446744073709551616 := Nat.lt_of_lt_of_le (Nat.pow_lt_pow_right (by decide) (show k < 64 by omega)) (by decide)
              have hor := u64_or_nat d (2 ^ k) hd'.out hpw
              clear hR2' hR3' hR1 hR2 hEc hs hs2 hk hus hpw hd'
              go_upto_region 35 with fail
              rw [← hW2]
              clear hW2 u0 u1 u2 u3 t0 e0 e1 e2 e3
              go_region_held3 (fun V => V.cell? ⟨gl, c * 4, none⟩ = some (.int .i64 e.tick) ∧ V.cell? ⟨gl, c * 4 + 2, none⟩ = some (.int .i64 (k : Int))) (first | (exact hS2.out) | (exact hS3.out)) (first | fail)
              clear v0 v1 v2 v3 t3 hS2 hS3
              generalize (W2.setCell ⟨gz, k * 4 + 3, none⟩ (.int .i64 e.tick)).drew = W3 at *
              go_wp2
              exact ⟨⟨c + 1, _, by omega, by go_num, by rw [hth.out, ← hor, Int.natCast_pow]; rfl, hev, hR3⟩, by simp [intOf]; omega⟩
            · have k3' : (e.kind == 3) = false := by rw [beq_eq_false_iff_ne]; exact k3
              rw [evS_none k2 k3] at hNx
              clear hok' hEc hM8 hX8 k2 k3
              generalize hdd : thz T 2 = d at *
              go_wp2
              exact ⟨⟨c + 1, T, by omega, by go_num, by rw [hdd], hNx, hR⟩, by simp [intOf]; omega⟩
        · obtain rfl : c = R.log.length := by omega
          have hTe : T = R.S.map opn := by have := hT.out; rw [List.take_length] at this; rw [this, hP.out.lg.at_]
          subst hTe
          have hth : Hid (thz (R.S.map opn) 2 = thz R.S 2) := thz_opn _ _
          clear hEv hT hP hLo8 hM8 hX8 hTl hTd hlt
          generalize thz (R.S.map opn) 2 = d at *
          go_wp2
          go_meet
          exact ⟨by rw [hth.out], hR⟩
    case rest =>
    obtain ⟨hdn, hRp0⟩ := hcut
    have hRp6 : Hid (Rp w8 gz F.steps.length (mixS R.S 0) wc) := by rw [mix_zero]; exact hRp0
    have hSl : R.S.length = F.steps.length := hX8.out.x.len
    clear hRp hRp0 hM8
    subst hdn
    go_upto_block 6 with fail
    go_cut [15, 16, 17] from 283 to 314 (fun _ _ _ wx => Hid (Below w8.heap.size w8 wx))
    case first => as_aux_lemma =>
      go_wp2
      go_loopw [15, 16, 17] (fun k _ _ wr => ∃ (c : Nat), c ≤ F.steps.length ∧ k = .int .i64 c ∧ Hid (Rp w8 gz F.steps.length (mixS R.S c) wr)) (fun k _ _ _ => ((F.steps.length : Int) - intOf k).toNat)
      case atStart => exact ⟨0, Nat.zero_le _, rfl, hRp6⟩
      case round =>
        clear hRp6
        obtain ⟨c, hcn, rfl, hR⟩ := hrel
        by_cases hlt : c < F.steps.length
        · obtain ⟨s, hs⟩ : ∃ s, R.S[c]? = some s := ⟨_, List.getElem?_eq_getElem (by omega)⟩
          have KT := hide' (stateF (hX8.out.over hR.out.bl).x.run (c : Int))
          rw [sta_at hs] at KT
          have hhs : hasS R (c : Int) = true := by unfold hasS; simp; omega
          rw [hhs] at KT
          have hm := mix_at hs
          have hop := hide' (opn_open hP.out.lg hs)
          have he : ∀ W : World, (Op.equalIn 10000 51 (.agg #[.int .i64 s.st, .int .i64 s.us, .int .i64 s.ca, .int .i64 s.da]) (.agg #[.int .i64 s.st, .int .i64 s.us, .int .i64 s.ca, .int .i64 s.da])).run Tryd.prog W = .ok true W := fun W => st_eq _ _ _ _ W
          clear hhs hEv hLo8 hX8 hP
          go_wp2_with fail
          refine KT.out.mono ?_
          rintro e w9 ⟨rfl, hb9⟩
          have hb10 := hb9.trans (((Below.refl _ w9).alloc (Nat.le_refl _) (.cells #[.int .i64 s.st, .int .i64 s.us, .int .i64 s.ca, .int .i64 s.da] 51)).mono hb9.size)
          have hR9 := hide' (hR.out.over hb10)
          have hgz : gz < w9.heap.size := Nat.lt_of_lt_of_le (own_lt' hR.out.own rfl) hb9.size
          have hx9 := heap_alloc_new w9 (.cells #[.int .i64 s.st, .int .i64 s.us, .int .i64 s.ca, .int .i64 s.da] 51)
          clear KT hR hb9 hb10
          go_upto_region 41 with fail
          obtain ⟨W10, hW10⟩ : ∃ W, W = w9.alloc (.cells #[.int .i64 s.st, .int .i64 s.us, .int .i64 s.ca, .int .i64 s.da] 51) := ⟨_, rfl⟩
          rw [← hW10] at hR9 hx9 ⊢
          clear hW10
          generalize w9.heap.size = gx at *
          by_cases h0 : s.st = 0
          · obtain ⟨ho, hs0⟩ := hop.out h0
            rw [ho] at hm
            obtain ⟨u0, u1, u2, u3⟩ := hR9.out.at hm
            have t1 := hR9.out.frz (c * 4 + 1)
            have hR11' := hR9.out.set1 c _ hm (-1)
            rw [show (⟨0, -1, 0, 0⟩ : SS) = s from hs0.symm, mix_set hs] at hR11'
            obtain ⟨W11, hW11⟩ : ∃ W, W = W10.setCell ⟨gz, c * 4 + 1, none⟩ (.int .i64 (-1)) := ⟨_, rfl⟩
            have hR11 : Hid (Rp w8 gz F.steps.length (mixS R.S (c + 1)) W11) := by rw [hW11]; exact hR11'
            have hx11 : W11.heap[gx]? = some (.cells #[.int .i64 s.st, .int .i64 s.us, .int .i64 s.ca, .int .i64 s.da] 51 (0, 0)) := by rw [hW11, Below.heap_setCell _ _ _ _ (by show gx ≠ gz; omega)]; exact hx9
            clear hR11' ho hs0 hR9 hx9 hgz
            go_upto_region 43 with fail
            rw [← hW11]
            clear hW11 u0 u1 u2 u3 t1 h0
            obtain ⟨v0, v1, v2, v3⟩ := hR11.out.at (mix_at1 hs)
            obtain ⟨x0, x1, x2, x3⟩ := bx4 hx11
            have hRq : Hid (∀ q, Rp w8 gz F.steps.length (mixS R.S (c + 1)) (W11.drewN q)) := fun q => hR11.out.over (drew_belowR _ _)
            clear hR11 hx11 hm hs hop
            go_quiet (fail)
            go_wp2
            exact ⟨⟨c + 1, by omega, by go_num, hRq.out _⟩, by simp [intOf]; omega⟩
          · have h0' : (s.st == 0) = false := by rw [beq_eq_false_iff_ne]; exact h0
            rw [opn_else h0] at hm
            obtain ⟨u0, u1, u2, u3⟩ := hR9.out.at hm
            have hR11 : Hid (Rp w8 gz F.steps.length (mixS R.S (c + 1)) W10) := by rw [mix_keep hs h0]; exact hR9
            have hx11 := hx9
            clear hR9 hx9 hgz h0
            go_upto_region 43 with fail
            clear u0 u1 u2 u3 h0'
            obtain ⟨v0, v1, v2, v3⟩ := hR11.out.at (mix_at1 hs)
            obtain ⟨x0, x1, x2, x3⟩ := bx4 hx11
            have hRq : Hid (∀ q, Rp w8 gz F.steps.length (mixS R.S (c + 1)) (W10.drewN q)) := fun q => hR11.out.over (drew_belowR _ _)
            clear hR11 hx11 hm hs hop
            go_quiet (fail)
            go_wp2
            exact ⟨⟨c + 1, by omega, by go_num, hRq.out _⟩, by simp [intOf]; omega⟩
        · obtain rfl : c = F.steps.length := by omega
          have hB := hide' hR.out.bl
          clear hEv hP hLo8 hX8 hR
          go_wp2
          go_meet
          exact hB
    case rest =>
    have hXe := hide' (hX8.out.over hcut.out)
    have KS := hide' (statusF hXe.out.x.run)
    have hF := hide' hXe.out.bl
    obtain ⟨ev, lx, hlg, hk1⟩ := hP.out.lg.hd
    have z1 := (hEv.out wc hcut.out 0 ev (by rw [hlg]; rfl)).2.1
    rw [hk1] at z1
    have z1' : wc.cell? ⟨gl, 1, none⟩ = some (.int .i64 1) := by simpa using z1
    have haw := O.all_word (n := F.steps.length) (by omega)
    have hfull := hide' (thz_full hP.out.ok)
    obtain ⟨m, hm⟩ : ∃ m, R.log.length = m + 1 := ⟨lx.length, by rw [hlg]; rfl⟩
    have hm' := hide' hm
    have hla := hide' hP.out.lg.la
    clear z1 hlg hRp6 hP hX8 hLo8 hXe hne hm
    by_cases h3 : R.stat = 3
    · have hq : (((thz R.S 2 : Nat) : Int) == ((2 ^ F.steps.length - 1 : Nat) : Int)) = true := by rw [hfull.out.2 h3]; simp
      obtain ⟨e7, he7, hk7⟩ := hla.out h3
      have z2 : wc.cell? ⟨gl, m * 4 + 1, none⟩ = some (.int .i64 7) := by
        rw [List.getLast?_eq_getElem?, hm'.out, Nat.add_sub_cancel] at he7
        have := (hEv.out wc hcut.out m e7 he7).2.1
        rw [hk7] at this
        exact this
      rw [h3] at KS
      clear hEv hcut hla hfull h3 he7
      rw [hm'.out] at hln hcl8 ⊢
      clear hm'
      generalize thz R.S 2 = d at *
      go_wp2_with fail
      refine KS.out.mono ?_
      rintro e w11 ⟨rfl, hw⟩
      obtain rfl : wc = w11 := hw.symm
      go_wp2
      go_ret
      exact ⟨rfl, hF.out⟩
    · have hq : (((thz R.S 2 : Nat) : Int) == ((2 ^ F.steps.length - 1 : Nat) : Int)) = false := by
        rw [beq_eq_false_iff_ne]
        intro e
        exact h3 (hfull.out.1 (by omega))
      have h3' : (R.stat == 3) = false := by rw [beq_eq_false_iff_ne]; exact h3
      clear hEv hcut hla hfull h3
      rw [hm'.out] at hln hcl8 ⊢
      clear hm'
      generalize thz R.S 2 = d at *
      go_wp2_with fail
      refine KS.out.mono ?_
      rintro e w11 ⟨rfl, hw⟩
      obtain rfl : wc = w11 := hw.symm
      go_wp2
      go_ret
      exact ⟨rfl, hF.out⟩
end Go.Proofs.YtaoddedocibdoaaDoor
