/- played: a run behind calls. -/
import Derived.Test.YtahfobbiaimoiaaGreatDoorJ32
import Derived.Test.YtahfobbiaimoiaaGreatDoorJ36
import Derived.Deep.RegionHeld3
import Derived.Deep.CutRange
namespace Go.Proofs.YtahfobbiaimoiaaGreatDoor
open Go.RowKit
/-- What played answers. -/
def PyP (F : Fw) (L : List Oq) (w : World) (e : Ending) (w' : World) : Prop :=
  ∃ pa, e = .returned (.pointer pa) ∧ Below w.heap.size w w' ∧ ((pa = none ∧ chkF F ≠ 0) ∨ (FlOk F ∧ ∃ V0 gr gt sv rv go gp gs ct Pf Sf P1 P2 lv wN, pa = some ⟨gr, 0, none⟩ ∧ (Below w.heap.size w wN ∧ OgX wN V0 go gp gs sv rv P1 P2) ∧ RnX V0 F gr gt sv rv go gp gs ct Pf Sf P1 P2 lv (plyL true Pf (newR F.steps.length 0) (L.take 200)) w'))
theorem rowQ_over {w w' : World} {v : Value} {L : List Oq} (h : RowQ w v L) (hb : Below w.heap.size w w') : RowQ w' v L := by
  obtain ⟨oa, cap, e, hc, h⟩ := h
  refine ⟨oa, cap, e, hc, fun i o ho => ?_⟩
  obtain ⟨g, f, e, h0, h1, h2, h3, h4, h5⟩ := h i o ho
  exact ⟨g, f, e, (hb.cell (cell_lt h0)).trans h0, (hb.cell (cell_lt h1)).trans h1, (hb.cell (cell_lt h2)).trans h2, (hb.cell (cell_lt h3)).trans h3, (hb.cell (cell_lt h4)).trans h4, (hb.cell (cell_lt h5)).trans h5⟩
set_option maxRecDepth 100000 in
set_option maxHeartbeats 8000000 in
theorem playedF (F : Fw) (L : List Oq) (v lv0 : Value) (w : World) (hv : flV w v F) (hc : cutFw F = F) (hB : FlB F) (hL : RowQ w lv0 L) (ht : O.Tab w) : Calls Tryz.prog 33 #[v, lv0] w (PyP F L w) := by
  have KT : Hid (∀ W, Below w.heap.size w W → Calls Tryz.prog 9 #[v] W (CopR W F)) := fun W hW => by
    have := twin7F F v W (hv.below hW (Nat.le_refl _))
    rwa [hc] at this
  have KN : Hid (∀ W x, flV W x F → Below w.heap.size w W → Calls Tryz.prog 46 #[x, .int .i64 0] W (NewP F 0 W)) := fun W x hx hW => newRF F x 0 W hx hB (ht.over hW)
  obtain ⟨sv0, rv0, rfl, hs, hr⟩ := hv
  obtain ⟨oa, cap, rfl⟩ := hs.shape
  obtain ⟨ob, cb, rfl⟩ := hr.shape
  have hL0 := hide' (fun V (hV : Below w.heap.size w V) => rowQ_over hL hV)
  obtain ⟨ol, cl, rfl, hcl, _⟩ := hL
  have hL' : Hid (∀ V, Below w.heap.size w V → ∀ i o, L[i]? = some o → ∃ g f, ol = some ⟨g, f, none⟩ ∧ V.cell? ⟨g, f + i * 6, none⟩ = some (.int .i64 o.on) ∧ V.cell? ⟨g, f + i * 6 + 1, none⟩ = some (.int .i64 o.op) ∧ V.cell? ⟨g, f + i * 6 + 2, none⟩ = some (.int .i64 o.step) ∧ V.cell? ⟨g, f + i * 6 + 3, none⟩ = some (.int .i64 o.user) ∧ V.cell? ⟨g, f + i * 6 + 4, none⟩ = some (.int .i64 o.tick) ∧ V.cell? ⟨g, f + i * 6 + 5, none⟩ = some (.bool o.stuck)) := fun V hV i o ho => by
    obtain ⟨_, _, e, _, h⟩ := hL0.out V hV
    injection e with e _ _
    subst e
    exact h i o ho
  clear hL0
  have hR1 : Hid (chkF F ≠ 0 → ∀ w', Below w.heap.size w w' → PyP F L w (.returned (.pointer none)) w') := fun h1 w' h2 => ⟨_, rfl, h2, .inl ⟨rfl, h1⟩⟩
  have hR2 : Hid (FlOk F → ∀ V0 gr gt sv rv go gp gs ct Pf Sf P1 P2 wN lv w', (Below w.heap.size w wN ∧ OgX wN V0 go gp gs sv rv P1 P2) → RnX V0 F gr gt sv rv go gp gs ct Pf Sf P1 P2 lv (plyL true Pf (newR F.steps.length 0) (L.take 200)) w' → PyP F L w (.returned (.pointer (some ⟨gr, 0, none⟩))) w') := fun ok V0 gr gt sv rv go gp gs ct Pf Sf P1 P2 wN lv w' hN hX => ⟨_, rfl, by
    have h1 := hN.1.trans (hN.2.1.mono hN.1.size)
    exact h1.trans (hX.bl.mono h1.size), .inr ⟨ok, V0, gr, gt, sv, rv, go, gp, gs, ct, Pf, Sf, P1, P2, lv, wN, rfl, hN, hX⟩⟩
  clear hs hr hB ht
  generalize PyP F L w = QQ at *
  have B0 : Hid (Below w.heap.size w (w.alloc (.cells #[.string F.name, .slice oa F.steps.length cap, .slice ob F.rules.length cb] 25))) := (Below.refl _ w).alloc (Nat.le_refl _) _
  obtain ⟨x0, x1, x2⟩ := bx3 (heap_alloc_new w (.cells #[.string F.name, .slice oa F.steps.length cap, .slice ob F.rules.length cb] 25))
  go_enter Tryz.func33, Tryz.ntmps33
  go_wp2_with fail
  generalize w.alloc (.cells #[.string F.name, .slice oa F.steps.length cap, .slice ob F.rules.length cb] 25) = W1 at *
  clear x0 x1 x2
  refine (KT.out _ B0.out).mono ?_
  intro e w2 hC
  obtain ⟨o1, c1, o2, c2, P1, P2, rfl, hF2, hb2⟩ := CopR.open hC
  have B2 := hide' (B0.out.trans (hb2.mono B0.out.size))
  have K2 := hide' (KN.out w2 _ hF2.fl B2.out)
  clear KT KN hC hF2 hb2 B0
  go_wp2_with fail
  refine K2.out.mono ?_
  intro e w3 hN
  obtain ⟨pa, rfl, hb3, hX⟩ := hN.oneX
  have B3 := hide' (B2.out.trans (hb3.mono B2.out.size))
  clear K2 hN hb3
  rcases hX with ⟨rfl, h0⟩ | ⟨ok, h0, V0, gr, gt, sv, rv, go, gp, gs, ct, Pf, Sf, Q1, Q2, lv, rfl, hbV, hX⟩
  · have hF := hide' (hR1.out h0 _ B3.out)
    clear hR1 hR2 h0 hL' B2 B3
    generalize chkF F = z at *
    by_cases hlt : 0 < L.length
    · have hlt' : (0 : Int) < (L.length : Int) := by omega
      go_wp2
      go_loopw [7] (fun j wr => j = .int .i64 0 ∧ wr = w3) (fun _ _ => 1)
      case atStart => exact ⟨rfl, rfl⟩
      case round =>
        obtain ⟨rfl, rfl⟩ := hrel
        go_wp2
        exact hF.out
    · have hlt' : ¬ (0 : Int) < (L.length : Int) := by omega
      go_wp2
      go_loopw [7] (fun j wr => j = .int .i64 0 ∧ wr = w3) (fun _ _ => 1)
      case atStart => exact ⟨rfl, rfl⟩
      case round =>
        obtain ⟨rfl, rfl⟩ := hrel
        go_wp2
        exact hF.out
  have hBV := hide' (B2.out.trans (hbV.1.mono B2.out.size))
  have hNN := hide' (And.intro B2.out hbV)
  have HF := hide' (fun lv' w' => hR2.out ok V0 gr gt sv rv go gp gs ct Pf Sf Q1 Q2 w2 lv' w' hNN.out)
  have hbw : Hid (∀ V, Below V0.heap.size V0 V → Below w.heap.size w V) := fun V hV => hBV.out.trans (hV.mono hBV.out.size)
  have hX3 := hide' hX
  rw [h0]
  clear hR1 hR2 h0 ok hX hbV B2 B3 hNN hBV
  generalize F.steps.length = nf at *
  have hlen : Hid (∀ c : Nat, c ≤ 200 → (plyL true Pf (newR nf 0) (L.take c)).log.length ≤ 100000) := fun c h => by
    have := plyL_log true Pf (L.take c) (newR nf 0)
    rw [show (newR nf 0).log.length = 1 from rfl, List.length_take] at this
    omega
  go_wp2
  go_loopw [7] (fun j wr => ∃ (c : Nat) (lv : Value), c ≤ L.length ∧ c ≤ 200 ∧ j = .int .i64 c ∧ Hid (RnX V0 F gr gt sv rv go gp gs ct Pf Sf Q1 Q2 lv (plyL true Pf (newR nf 0) (L.take c)) wr)) (fun j _ => ((200 : Int) - intOf j).toNat)
  case atStart => exact ⟨0, lv, Nat.zero_le _, Nat.zero_le _, rfl, hX3⟩
  case round =>
    clear hX3
    obtain ⟨c, lv, hcl1, hc200, rfl, hX⟩ := hrel
    by_cases hgo : c < L.length ∧ c < 200
    · obtain ⟨hlt, h200⟩ := hgo
      obtain ⟨q, hx⟩ : ∃ x, L[c]? = some x := ⟨_, List.getElem?_eq_getElem hlt⟩
      have hbr := hide' (hbw.out _ hX.out.bl)
      obtain ⟨g, f, rfl, d0, d1, d2, d3, d4, d5⟩ := hL'.out wr hbr.out c q hx
      have hcl2 : Hid (∀ V, Below w.heap.size w V → V.cell? ⟨g, f + c * 6 + 2, none⟩ = some (.int .i64 q.step) ∧ V.cell? ⟨g, f + c * 6 + 3, none⟩ = some (.int .i64 q.user) ∧ V.cell? ⟨g, f + c * 6 + 4, none⟩ = some (.int .i64 q.tick) ∧ V.cell? ⟨g, f + c * 6 + 5, none⟩ = some (.bool q.stuck)) := fun V hV => by
        obtain ⟨_, _, e, _, _, h2, h3, h4, h5⟩ := hL'.out V hV c q hx
        cases e
        exact ⟨h2, h3, h4, h5⟩
      have hcq1 := hcl.1
      clear hL' hcl
      by_cases k1 : q.op = 1
      · as_aux_lemma =>
        have K1 : Hid (∀ V, Below wr.heap.size wr V → Calls Tryz.prog 34 #[.pointer (some ⟨gr, 0, none⟩), .int .i64 q.step, .int .i64 q.user, .int .i64 q.tick] V fun e w' => e = .returned (.int .i64 (canC Pf (plyL true Pf (newR nf 0) (L.take c)) q.step)) ∧ ∃ lv', RnX V0 F gr gt sv rv go gp gs ct Pf Sf Q1 Q2 lv' (plyL true Pf (newR nf 0) (L.take (c + 1))) w') := fun V hV => by
          rw [take_nextQ true Pf _ hx, ply1 k1]
          exact (hX.out.over hV).claimC (hlen.out c (by omega)) q.step q.user q.tick
        clear hX HF hx hlen
        rw [k1] at d1
        skip
        generalize q.on = a0 at *
        generalize q.step = a1 at *
        generalize q.user = a2 at *
        generalize q.tick = a3 at *
        generalize q.stuck = a4 at *
        go_upto_region 7 with fail
        have hd : Hid (Below wr.heap.size wr wr.drew) := (Below.refl _ wr).drew
        go_region_held3 (fun V => V.cell? ⟨g, f + c * 6 + 2, none⟩ = some (.int .i64 a1) ∧ V.cell? ⟨g, f + c * 6 + 3, none⟩ = some (.int .i64 a2) ∧ V.cell? ⟨g, f + c * 6 + 4, none⟩ = some (.int .i64 a3) ∧ V.cell? ⟨g, f + c * 6 + 5, none⟩ = some (.bool a4)) (first | (exact hcl2.out _ (hbw.out _ hX5.out.bl)) | (exact hcl2.out _ (hbr.out.trans (hd.out.mono hbr.out.size)))) (first | (go_at_call 34; refine (K1.out _ hd.out).mono ?_; rintro e w5 ⟨rfl, lv', hX5a⟩; have hX5 := hide' hX5a; clear hX5a; (try dsimp only)))
        go_wp2
        exact ⟨⟨c + 1, lv', by omega, by omega, by go_num, hX5⟩, by simp [intOf]; omega⟩
      have n1 : (q.op == 1) = false := by rw [beq_eq_false_iff_ne]; exact k1
      by_cases k2 : q.op = 2
      · as_aux_lemma =>
        have K1 : Hid (∀ V, Below wr.heap.size wr V → Calls Tryz.prog 35 #[.pointer (some ⟨gr, 0, none⟩), .int .i64 q.step, .int .i64 q.user, .int .i64 q.tick] V fun e w' => e = .returned (.int .i64 (canD (plyL true Pf (newR nf 0) (L.take c)) q.step q.user)) ∧ ∃ lv', RnX V0 F gr gt sv rv go gp gs ct Pf Sf Q1 Q2 lv' (plyL true Pf (newR nf 0) (L.take (c + 1))) w') := fun V hV => by
          rw [take_nextQ true Pf _ hx, ply2 k2]
          exact (hX.out.over hV).doneC (hlen.out c (by omega)) q.step q.user q.tick
        clear hX HF hx hlen
        rw [k2] at d1
        skip
        generalize q.on = a0 at *
        generalize q.step = a1 at *
        generalize q.user = a2 at *
        generalize q.tick = a3 at *
        generalize q.stuck = a4 at *
        go_upto_region 9 with fail
        have hd : Hid (Below wr.heap.size wr wr.drew) := (Below.refl _ wr).drew
        go_region_held3 (fun V => V.cell? ⟨g, f + c * 6 + 2, none⟩ = some (.int .i64 a1) ∧ V.cell? ⟨g, f + c * 6 + 3, none⟩ = some (.int .i64 a2) ∧ V.cell? ⟨g, f + c * 6 + 4, none⟩ = some (.int .i64 a3) ∧ V.cell? ⟨g, f + c * 6 + 5, none⟩ = some (.bool a4)) (first | (exact hcl2.out _ (hbw.out _ hX5.out.bl)) | (exact hcl2.out _ (hbr.out.trans (hd.out.mono hbr.out.size)))) (first | (go_at_call 35; refine (K1.out _ hd.out).mono ?_; rintro e w5 ⟨rfl, lv', hX5a⟩; have hX5 := hide' hX5a; clear hX5a; (try dsimp only)))
        go_wp2
        exact ⟨⟨c + 1, lv', by omega, by omega, by go_num, hX5⟩, by simp [intOf]; omega⟩
      have n2 : (q.op == 2) = false := by rw [beq_eq_false_iff_ne]; exact k2
      by_cases k3 : q.op = 3
      · as_aux_lemma =>
        have K1 : Hid (∀ V, Below wr.heap.size wr V → Calls Tryz.prog 66 #[.pointer (some ⟨gr, 0, none⟩), .int .i64 q.tick] V fun e w' => e = .returned (.int .i64 (if endd (plyL true Pf (newR nf 0) (L.take c)) = true then 30 else 0)) ∧ ∃ lv', RnX V0 F gr gt sv rv go gp gs ct Pf Sf Q1 Q2 lv' (plyL true Pf (newR nf 0) (L.take (c + 1))) w') := fun V hV => by
          rw [take_nextQ true Pf _ hx, ply3 k3]
          exact (hX.out.over hV).abortC (hlen.out c (by omega)) q.tick
        clear hX HF hx hlen
        rw [k3] at d1
        generalize (if endd (plyL true Pf (newR nf 0) (L.take c)) = true then (30 : Int) else 0) = zz at K1
        generalize q.on = a0 at *
        generalize q.step = a1 at *
        generalize q.user = a2 at *
        generalize q.tick = a3 at *
        generalize q.stuck = a4 at *
        have K2 := hide' (K1.out _ (Below.refl _ wr))
        clear K1
        go_wp2_with fail
        refine K2.out.mono ?_
        rintro e w5 ⟨rfl, lv', hX5a⟩
        have hX5 := hide' hX5a
        clear hX5a K2 d0 d1 d2 d3 d4 d5
        go_wp2
        exact ⟨⟨c + 1, lv', by omega, by omega, by go_num, hX5⟩, by simp [intOf]; omega⟩
      have n3 : (q.op == 3) = false := by rw [beq_eq_false_iff_ne]; exact k3
      by_cases k4 : q.op = 4
      · as_aux_lemma =>
        have K1 : Hid (∀ V, Below wr.heap.size wr V → Calls Tryz.prog 36 #[.pointer (some ⟨gr, 0, none⟩), .bool q.stuck, .int .i64 q.tick] V fun e w' => e = .returned (.bool (mrkB (plyL true Pf (newR nf 0) (L.take c)) q.stuck)) ∧ ∃ lv', RnX V0 F gr gt sv rv go gp gs ct Pf Sf Q1 Q2 lv' (plyL true Pf (newR nf 0) (L.take (c + 1))) w') := fun V hV => by
          rw [take_nextQ true Pf _ hx, ply4 k4]
          exact (hX.out.over hV).markC (hlen.out c (by omega)) q.stuck q.tick
        clear hX HF hx hlen
        rw [k4] at d1
        skip
        generalize q.on = a0 at *
        generalize q.step = a1 at *
        generalize q.user = a2 at *
        generalize q.tick = a3 at *
        generalize q.stuck = a4 at *
        go_upto_region 13 with fail
        have hd : Hid (Below wr.heap.size wr wr.drew) := (Below.refl _ wr).drew
        go_region_held3 (fun V => V.cell? ⟨g, f + c * 6 + 2, none⟩ = some (.int .i64 a1) ∧ V.cell? ⟨g, f + c * 6 + 3, none⟩ = some (.int .i64 a2) ∧ V.cell? ⟨g, f + c * 6 + 4, none⟩ = some (.int .i64 a3) ∧ V.cell? ⟨g, f + c * 6 + 5, none⟩ = some (.bool a4)) (first | (exact hcl2.out _ (hbw.out _ hX5.out.bl)) | (exact hcl2.out _ (hbr.out.trans (hd.out.mono hbr.out.size)))) (first | (go_at_call 36; refine (K1.out _ hd.out).mono ?_; rintro e w5 ⟨rfl, lv', hX5a⟩; have hX5 := hide' hX5a; clear hX5a; (try dsimp only)))
        go_wp2
        exact ⟨⟨c + 1, lv', by omega, by omega, by go_num, hX5⟩, by simp [intOf]; omega⟩
      have n4 : (q.op == 4) = false := by rw [beq_eq_false_iff_ne]; exact k4
      have hX5 : Hid (RnX V0 F gr gt sv rv go gp gs ct Pf Sf Q1 Q2 lv (plyL true Pf (newR nf 0) (L.take (c + 1))) wr) := by
        show RnX _ _ _ _ _ _ _ _ _ _ _ _ _ _ _ _ _
        rw [take_nextQ true Pf _ hx, ply0 k1 k2 (fun _ => k3) k4]
        exact hX.out
      clear hX HF hx hlen
      generalize q.op = a9 at *
      go_wp2
      exact ⟨⟨c + 1, lv, by omega, by omega, by go_num, hX5⟩, by simp [intOf]; omega⟩
    · have hF : Hid (QQ (.returned (.pointer (some ⟨gr, 0, none⟩))) wr) := HF.out lv wr (by
        have : L.take c = L.take 200 := by
          by_cases h : c < L.length
          · have : c = 200 := by omega
            rw [this]
          · rw [List.take_of_length_le (by omega), List.take_of_length_le (by omega)]
        rw [← this]; exact hX.out)
      clear HF hX hL' hlen hbw
      by_cases hlt : c < L.length
      · have h200 : ¬ c < 200 := fun h => hgo ⟨hlt, h⟩
        clear hgo
        go_wp2
        exact hF.out
      · clear hgo
        go_wp2
        exact hF.out
end Go.Proofs.YtahfobbiaimoiaaGreatDoor
