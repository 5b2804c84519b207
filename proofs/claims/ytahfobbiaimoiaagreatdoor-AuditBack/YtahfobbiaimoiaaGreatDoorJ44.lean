/- AuditBack: the law's walk. -/
import Derived.Test.YtahfobbiaimoiaaGreatDoorJ34
import Derived.Test.YtahfobbiaimoiaaGreatDoorJ42
import Derived.Test.YtahfobbiaimoiaaGreatDoorJ43
import Derived.Deep.CutBlock
namespace Go.Proofs.YtahfobbiaimoiaaGreatDoor
open Go.RowKit
theorem backR {n : Nat} {Rel : Nat → Nat → Bool} {Pf Sf Pf' Sf' : Nat → Nat} (hn : n ≠ 0) (h : O.Ord n Rel Pf Sf) (h' : O.Ord n Rel Pf' Sf') (L : List Oq) : rpR Pf' (newR n (ftk (plyL true Pf (newR n 0) L).log)) (plyL true Pf (newR n 0) L).log = plyL true Pf (newR n 0) L := by
  rw [plyL_ftk, rpR_two h' h _ (newR_ok n hn 0).len]
  exact ply_back Pf n 0 L _ (back0 Pf n 0)
/-- What stands while both go on: the same has been told of both. -/
def Bk (w : World) (k1 k2 : SdK) (c : Nat) (W : World) : Prop := ∃ lv1 lv2 R, Dp w k1 k2 lv1 lv2 R R W ∧ R.log.length ≤ 500 + 2 * c ∧ R.log ≠ []
theorem usLn (S : List SS) : (usL S).length = S.length := by simp [usL]
set_option maxRecDepth 100000 in
set_option maxHeartbeats 8000000 in
theorem auditBack_walk (F0 : Fw) (v : Value) (L0 : List Oq) (ov : Value) (L1 : List Oq) (mv : Value) (w : World) (hv : flV w v F0) (hN : FlN F0) (ho : RowQ w ov L0) (hm : RowQ w mv L1) (ht : O.Tab w) :
    Calls Tryz.prog 5 #[v, ov, mv] w fun e w' => e = .returned (.bool true) ∧ Below w.heap.size w w' := by
  have KT0 : Hid (∀ W, Below w.heap.size w W → Calls Tryz.prog 9 #[v] W (CopR W (cutFw F0))) := fun W hW => twin7F F0 v W (hv.below hW (Nat.le_refl _))
  have KT1 : Hid (∀ W x, flV W x (cutFw F0) → Calls Tryz.prog 9 #[x] W (CopR W (cutFw F0))) := fun W x hx => by
    have := twin7F (cutFw F0) x W hx
    rwa [cut_idem] at this
  have hB' := hide' (flb_cut hN)
  have KW : Hid (∀ W, Below w.heap.size w W → Calls Tryz.prog 13 #[] W fun e w' => e = .returned (.bool true) ∧ Below W.heap.size W w') := fun W hW => wakes23 W (ht.over hW)
  have KP : Hid (∀ W x, Below w.heap.size w W → flV W x (cutFw F0) → Calls Tryz.prog 33 #[x, ov] W (PyP (cutFw F0) L0 W)) := fun W x hW hx => playedF _ L0 x ov W hx (cut_idem F0) hB'.out (rowQ_over ho hW) (ht.over hW)
  have KR : Hid (∀ W x y L, Below w.heap.size w W → flV W x (cutFw F0) → EvQ W y L → L.length ≤ 1000 → Calls Tryz.prog 11 #[x, y] W (RpP (cutFw F0) L W)) := fun W x y L hW hx hy hl => replayF _ _ x y W hx hB'.out hy hl (ht.over hW)
  generalize cutFw F0 = F at *
  have hL0 := hide' (fun V (hV : Below w.heap.size w V) => rowQ_over hm hV)
  obtain ⟨sv0, rv0, rfl, hs, hr⟩ := hv
  obtain ⟨oa, cap, rfl⟩ := hs.shape
  obtain ⟨ob, cb, rfl⟩ := hr.shape
  obtain ⟨oo, co, rfl, _, _⟩ := ho
  obtain ⟨om, cm, rfl, hcm, _⟩ := hm
  have hL' : Hid (∀ V, Below w.heap.size w V → ∀ i o, L1[i]? = some o → ∃ g f, om = some ⟨g, f, none⟩ ∧ V.cell? ⟨g, f + i * 6, none⟩ = some (.int .i64 o.on) ∧ V.cell? ⟨g, f + i * 6 + 1, none⟩ = some (.int .i64 o.op) ∧ V.cell? ⟨g, f + i * 6 + 2, none⟩ = some (.int .i64 o.step) ∧ V.cell? ⟨g, f + i * 6 + 3, none⟩ = some (.int .i64 o.user) ∧ V.cell? ⟨g, f + i * 6 + 4, none⟩ = some (.int .i64 o.tick) ∧ V.cell? ⟨g, f + i * 6 + 5, none⟩ = some (.bool o.stuck)) := fun V hV i o ho => by
    obtain ⟨_, _, e, _, h⟩ := hL0.out V hV
    injection e with e _ _
    subst e
    exact h i o ho
  clear hs hr hL0 hN ht
  have B0 : Hid (Below w.heap.size w (w.alloc (.cells #[.string F0.name, .slice oa F0.steps.length cap, .slice ob F0.rules.length cb] 25))) := (Below.refl _ w).alloc (Nat.le_refl _) _
  obtain ⟨x0, x1, x2⟩ := bx3 (heap_alloc_new w (.cells #[.string F0.name, .slice oa F0.steps.length cap, .slice ob F0.rules.length cb] 25))
  go_enter Tryz.func5, Tryz.ntmps5
  go_wp2_with fail
  clear x0 x1 x2
  generalize w.alloc (.cells #[.string F0.name, .slice oa F0.steps.length cap, .slice ob F0.rules.length cb] 25) = W0 at *
  refine (KT0.out _ B0.out).mono ?_
  intro e w1 hC1
  obtain ⟨o1, c1, o2, c2, P1, P2, rfl, hF1, hb1⟩ := CopR.open hC1
  have B2 := hide' ((B0.out.trans (hb1.mono B0.out.size)).alloc (Nat.le_trans B0.out.size hb1.size) (.cells #[.string F.name, .slice o1 F.steps.length c1, .slice o2 F.rules.length c2] 25))
  have hF2 := hide' (hF1.over ((Below.refl _ w1).alloc (Nat.le_refl _) (.cells #[.string F.name, .slice o1 F.steps.length c1, .slice o2 F.rules.length c2] 25)))
  have D2 := hide' (heap_alloc_new w1 (.cells #[.string F.name, .slice o1 F.steps.length c1, .slice o2 F.rules.length c2] 25))
  obtain ⟨x0, x1, x2⟩ := bx3 D2.out
  clear KT0 hC1 hb1 hF1 B0
  go_wp2_with fail
  clear x0 x1 x2
  generalize hbg : w1.heap.size = bf at *
  generalize w1.alloc (.cells #[.string F.name, .slice o1 F.steps.length c1, .slice o2 F.rules.length c2] 25) = W2 at *
  clear hbg
  have hG : Hid (∀ V, Below W2.heap.size W2 V → Below w.heap.size w V ∧ flV V (.agg #[.string F.name, .slice o1 F.steps.length c1, .slice o2 F.rules.length c2]) F ∧ V.cell? ⟨bf, 0, none⟩ = some (.string F.name) ∧ V.cell? ⟨bf, 1, none⟩ = some (.slice o1 F.steps.length c1) ∧ V.cell? ⟨bf, 2, none⟩ = some (.slice o2 F.rules.length c2)) := fun V hV => ⟨B2.out.trans (hV.mono B2.out.size), (hF2.out.over hV).fl, bx3 ((hV.block bf (Array.getElem?_eq_some_iff.1 D2.out).1).trans D2.out)⟩
  have K2 := hide' (KP.out W2 _ B2.out hF2.out.fl)
  clear D2 hF2 KP
  -- p := played(g, ops)
  refine K2.out.mono ?_
  intro e w3 hP3
  obtain ⟨pa, rfl, hb3, hP⟩ := hP3
  have E3 := hide' hb3
  have K3 := hide' (KW.out w3 (hG.out _ hb3).1)
  clear K2 KW
  rcases hP with ⟨rfl, h0⟩ | ⟨ok, V0, gr, gt, sv, rv, go, gp, gs, ct, Pf, Sf, P3, P4, lv, wN, rfl, hN, hX⟩
  · go_wp2_with fail
    refine K3.out.mono ?_
    rintro e w4 ⟨rfl, hb4⟩
    have hF := hide' ((hG.out _ (E3.out.trans (hb4.mono E3.out.size))).1)
    clear K3 hb4 hG E3 hL' KT1 KR hb3 h0
    go_wp2
    go_ret
    exact ⟨rfl, hF.out⟩
  have hX3 := hide' hX
  have hN3 := hide' hN
  clear hb3 hX hN
  go_wp2_with fail
  refine K3.out.mono ?_
  rintro e w4 ⟨rfl, hb4⟩
  have E4 := hide' (E3.out.trans (hb4.mono E3.out.size))
  have hX4 := hide' (hX3.out.over hb4)
  obtain ⟨_, _, x0, x1, x2⟩ := hG.out w4 E4.out
  have K4 := hide' (KT1.out w4 _ (hG.out w4 E4.out).2.1)
  clear K3 hb4 hX3 KT1
  -- Replay(Twin(g), p.Log())
  go_wp2_with fail
  refine K4.out.mono ?_
  intro e w5 hC5
  obtain ⟨o5, c5, o6, c6, P5, P6, rfl, hF5, hb5⟩ := CopR.open hC5
  have E5 := hide' (E4.out.trans (hb5.mono E4.out.size))
  have hX5 := hide' (hX4.out.over hb5)
  have hx5 := hide' (fun V (hV : Below w5.heap.size w5 V) => (hF5.over hV).fl)
  have hlog : Hid ((plyL true Pf (newR F.steps.length 0) (L0.take 200)).log.length ≤ 500) := by
    have := plyL_log true Pf (L0.take 200) (newR F.steps.length 0)
    rw [show (newR F.steps.length 0).log.length = 1 from rfl, List.length_take] at this
    show _ ≤ _; omega
  have hne : Hid ((plyL true Pf (newR F.steps.length 0) (L0.take 200)).log ≠ []) := fun e => by
    have := plyL_pre Pf (L0.take 200) (newR F.steps.length 0) (i := 0) (x := ⟨0, 1, -1, -1⟩) rfl
    rw [e] at this
    cases this
  have hbk : Hid (∀ Pf' Sf', O.Ord F.steps.length (O.ordL F.steps.length (prs F.steps)) Pf' Sf' → rpR Pf' (newR F.steps.length (ftk (plyL true Pf (newR F.steps.length 0) (L0.take 200)).log)) (plyL true Pf (newR F.steps.length 0) (L0.take 200)).log = plyL true Pf (newR F.steps.length 0) (L0.take 200)) := fun Pf' Sf' h' => backR ok.ne hX4.out.wrd h' _
  generalize plyL true Pf (newR F.steps.length 0) (L0.take 200) = R at *
  have K5 := hide' (logF hX5.out.run hne.out (by have := hlog.out; omega))
  clear K4 hC5 hF5 hb5 hX4 E4 x0 x1 x2
  go_wp2_with fail
  refine K5.out.mono ?_
  rintro e w6 ⟨v6, rfl, ho6, hb6⟩
  have E6 := hide' (E5.out.trans (hb6.mono E5.out.size))
  have hX6 := hide' (hX5.out.over hb6)
  have K6 := hide' (KR.out w6 _ v6 R.log (hG.out w6 E6.out).1 (hx5.out _ hb6) (EvQ.of_owns ho6) (by have := hlog.out; omega))
  obtain ⟨o6', c6', rfl⟩ := own_shp ho6
  clear K5 ho6 hb6 hX5 E5 hx5 KR
  go_wp2_with fail
  refine K6.out.mono ?_
  intro e w7 hR7
  obtain ⟨pb, z, rfl, hb7, h7⟩ := hR7
  rcases h7 with ⟨h0, _⟩ | ⟨_, V1, gr1, gt1, sv1, rv1, go1, gp1, gs1, ct1, Pf1, Sf1, P7, P8, lv1, wM, hM, hY, h7⟩
  · exact absurd (chkF_ok ok) h0
  have hq := hbk.out Pf1 Sf1 hY.wrd
  rw [hq] at hY h7
  rcases h7 with ⟨_, rfl, rfl⟩ | ⟨h8, _⟩
  rotate_left
  · exact absurd rfl h8
  have E7 := hide' (E6.out.trans (hb7.mono E6.out.size))
  have hW7 := hide' (hG.out _ E7.out).1
  obtain ⟨k1, hk1⟩ : ∃ k : SdK, k = ⟨F, wN.heap.size, V0, gr, gt, sv, rv, go, gp, gs, ct, Pf, Sf, P3, P4, 0, V0, 0, 0, sv, rv, 0, 0, P3, P4⟩ := ⟨_, rfl⟩
  obtain ⟨k2, hk2⟩ : ∃ k : SdK, k = ⟨F, wM.heap.size, V1, gr1, gt1, sv1, rv1, go1, gp1, gs1, ct1, Pf1, Sf1, P7, P8, 0, V1, 0, 0, sv1, rv1, 0, 0, P7, P8⟩ := ⟨_, rfl⟩
  have hp : k1.P lv R w6 := by rw [hk1]; exact pr_ofG hN3.out.2 hX6.out
  have hq2 : k2.P lv1 R w7 := by rw [hk2]; exact pr_ofG hM.2 hY
  have hwV : w.heap.size ≤ V0.heap.size := by
    have h1 := (hG.out W2 (Below.refl _ _)).1.size
    have h2 := hN3.out.1.size
    have h3 := hN3.out.2.1.size
    omega
  have hD : Dp w k1 k2 lv lv1 R R w7 := Dp.start hp hq2 hb7 (by rw [hk2]; exact hM.1.size) (hG.out w6 E6.out).1 (by
    rw [hk1]
    rintro b (h | h | e)
    · have := hX6.out.ge
      have h2 : b = gr := h
      omega
    · have := hX6.out.run.gt_ge
      have h2 : b = gt := h
      omega
    · have := own_ge' hX6.out.run.lg e
      omega)
  have hgr1 : k1.gr = gr := by rw [hk1]
  have hgr2 : k2.gr = gr1 := by rw [hk2]
  have hcan : Hid (∀ (R : Rs) s, R.S.length = F.steps.length → canC k2.Pf R s = canC k1.Pf R s) := fun R s hR => by rw [hk1, hk2]; exact canC_two hY.wrd hX6.out.wrd hR s
  have hfl : Hid (k1.F = F) := by show _ = _; rw [hk1]
  have hBk : Hid (Bk w k1 k2 0 w7) := ⟨lv, lv1, R, hD, by have := hlog.out; omega, hne.out⟩
  rw [← hgr1, ← hgr2]
  clear hp hq2 hD hk1 hk2 hwV hX6 hY hM hN3 hq hbk hne hlog K6 hb7 E7 E6 E3 hG hgr1 hgr2 ok hB'
  go_wp2
  go_loopw [11, 12, 13] (fun j _ _ wr => ∃ c : Nat, c ≤ L1.length ∧ c ≤ 30 ∧ j = .int .i64 c ∧ Hid (Bk w k1 k2 c wr)) (fun j _ _ _ => ((30 : Int) - intOf j).toNat)
  case atStart => exact ⟨0, Nat.zero_le _, Nat.zero_le _, rfl, hBk⟩
  case round =>
    clear hBk hW7
    obtain ⟨c, hcl, hc30, rfl, hK⟩ := hrel
    obtain ⟨lv1, lv2, R, hD0, hlg, hne⟩ := hK.out
    have hD := hide' hD0
    clear hD0 hK
    by_cases hgo : c < L1.length ∧ c < 30
    · obtain ⟨hlt, h30⟩ := hgo
      obtain ⟨q, hx⟩ : ∃ x, L1[c]? = some x := ⟨_, List.getElem?_eq_getElem hlt⟩
      obtain ⟨g, f, rfl, d0, d1, d2, d3, d4, d5⟩ := hL'.out wr hD.out.bl c q hx
      have hcl2 : Hid (∀ V, Below w.heap.size w V → V.cell? ⟨g, f + c * 6 + 2, none⟩ = some (.int .i64 q.step) ∧ V.cell? ⟨g, f + c * 6 + 3, none⟩ = some (.int .i64 q.user) ∧ V.cell? ⟨g, f + c * 6 + 5, none⟩ = some (.bool q.stuck)) := fun V hV => by
        obtain ⟨_, _, e, _, _, h2, h3, _, h5⟩ := hL'.out V hV c q hx
        cases e
        exact ⟨h2, h3, h5⟩
      have hcq1 := hcm.1
      have hS1 : R.S.length = F.steps.length := by rw [← hfl.out]; exact hD.out.p.len
      have hcn := hide' (hcan.out R q.step hS1)
      clear hL' hcm hx hfl hcan hS1
      by_cases k1' : q.op = 1
      · as_aux_lemma =>
        rw [k1'] at d1
        have KA : Hid (∀ V, Below wr.heap.size wr V → Calls Tryz.prog 34 #[.pointer (some ⟨k1.gr, 0, none⟩), .int .i64 q.step, .int .i64 q.user, .int .i64 5] V fun e W' => e = .returned (.int .i64 (canC k1.Pf R q.step)) ∧ ∃ lv', Dp w k1 k2 lv' lv2 (clmR k1.Pf R q.step q.user 5) R W') := fun V hV => (hD.out.over hV).claim (by omega) q.step q.user 5
        have KB : Hid (∀ lv' V, Dp w k1 k2 lv' lv2 (clmR k1.Pf R q.step q.user 5) R V → Calls Tryz.prog 34 #[.pointer (some ⟨k2.gr, 0, none⟩), .int .i64 q.step, .int .i64 q.user, .int .i64 5] V fun e W' => e = .returned (.int .i64 (canC k1.Pf R q.step)) ∧ Bk w k1 k2 (c + 1) W') := fun lv' V h => by
          rw [← hcn.out]
          refine (h.swap.claim (by omega) q.step q.user 5).mono ?_
          rintro e W' ⟨rfl, lv2', h2⟩
          have e1 : clmR k2.Pf R q.step q.user 5 = clmR k1.Pf R q.step q.user 5 := by unfold clmR; rw [hcn.out]
          rw [e1] at h2
          refine ⟨rfl, lv', lv2', _, h2.swap, by have := clmR_log k1.Pf R q.step q.user 5; omega, fun e => ?_⟩
          unfold clmR at e
          split at e
          · simp [hapC] at e
          · exact hne e
        have hbr := hide' hD.out.bl
        clear hD hcn hlg hne
        generalize canC k1.Pf R q.step = zc at *
        generalize q.on = a0 at *
        generalize q.step = a1 at *
        generalize q.user = a2 at *
        generalize q.tick = a3 at *
        generalize q.stuck = a4 at *
        go_upto_region 14 with fail
        have hd : Hid (Below wr.heap.size wr wr.drew) := (Below.refl _ wr).drew
        go_region_held3 (fun V => V.cell? ⟨g, f + c * 6 + 2, none⟩ = some (.int .i64 a1) ∧ V.cell? ⟨g, f + c * 6 + 3, none⟩ = some (.int .i64 a2) ∧ V.cell? ⟨g, f + c * 6 + 5, none⟩ = some (.bool a4)) (first | (exact hcl2.out _ hD5.out.bl) | (exact hcl2.out _ (hbr.out.trans (hd.out.mono hbr.out.size)))) (first | (go_at_call 34; refine (KA.out _ hd.out).mono ?_; rintro e w8 ⟨rfl, lv', hD5a⟩; have hD5 := hide' hD5a; clear hD5a; (try dsimp only)))
        obtain ⟨d2', d3', d5'⟩ := hcl2.out _ hD5.out.bl
        have hd2 : Hid (Below w.heap.size w w8.drew) := hD5.out.bl.drew
        have hD6 := hide' (hD5.out.over (Below.refl _ w8).drew)
        go_upto_region 15 with fail
        go_region_held3 (fun V => V.cell? ⟨g, f + c * 6 + 2, none⟩ = some (.int .i64 a1) ∧ V.cell? ⟨g, f + c * 6 + 3, none⟩ = some (.int .i64 a2) ∧ V.cell? ⟨g, f + c * 6 + 5, none⟩ = some (.bool a4)) (first | (exact hcl2.out _ (hbB.out)) | (exact hcl2.out _ hd2.out)) (first | (go_at_call 34; refine (KB.out _ _ hD6.out).mono ?_; rintro e w9 ⟨rfl, hKa⟩; have hK9 := hide' hKa; have hbB : Hid (Below w.heap.size w w9) := (by obtain ⟨_, _, _, h, _⟩ := hKa; exact h.bl); clear hKa; (try dsimp only)))
        go_wp2
        exact ⟨⟨c + 1, by omega, by omega, by go_num, hK9⟩, by simp [intOf]; omega⟩
      have n1 : (q.op == 1) = false := by rw [beq_eq_false_iff_ne]; exact k1'
      by_cases k2' : q.op = 2
      · as_aux_lemma =>
        rw [k2'] at d1
        have KA : Hid (∀ V, Below wr.heap.size wr V → Calls Tryz.prog 35 #[.pointer (some ⟨k1.gr, 0, none⟩), .int .i64 q.step, .int .i64 q.user, .int .i64 6] V fun e W' => e = .returned (.int .i64 (canD R q.step q.user)) ∧ ∃ lv', Dp w k1 k2 lv' lv2 (donR R q.step q.user 6) R W') := fun V hV => (hD.out.over hV).done (by omega) q.step q.user 6
        have KB : Hid (∀ lv' V, Dp w k1 k2 lv' lv2 (donR R q.step q.user 6) R V → Calls Tryz.prog 35 #[.pointer (some ⟨k2.gr, 0, none⟩), .int .i64 q.step, .int .i64 q.user, .int .i64 6] V fun e W' => e = .returned (.int .i64 (canD R q.step q.user)) ∧ Bk w k1 k2 (c + 1) W') := fun lv' V h => by
          refine (h.swap.done (by omega) q.step q.user 6).mono ?_
          rintro e W' ⟨rfl, lv2', h2⟩
          refine ⟨rfl, lv', lv2', _, h2.swap, by have := donR_log R q.step q.user 6; omega, fun e => ?_⟩
          unfold donR hapD at e
          split at e
          · split at e <;> simp at e
          · exact hne e
        have hbr := hide' hD.out.bl
        clear hD hcn hlg hne
        generalize canD R q.step q.user = zc at *
        generalize q.on = a0 at *
        generalize q.step = a1 at *
        generalize q.user = a2 at *
        generalize q.tick = a3 at *
        generalize q.stuck = a4 at *
        go_upto_region 17 with fail
        have hd : Hid (Below wr.heap.size wr wr.drew) := (Below.refl _ wr).drew
        go_region_held3 (fun V => V.cell? ⟨g, f + c * 6 + 2, none⟩ = some (.int .i64 a1) ∧ V.cell? ⟨g, f + c * 6 + 3, none⟩ = some (.int .i64 a2) ∧ V.cell? ⟨g, f + c * 6 + 5, none⟩ = some (.bool a4)) (first | (exact hcl2.out _ hD5.out.bl) | (exact hcl2.out _ (hbr.out.trans (hd.out.mono hbr.out.size)))) (first | (go_at_call 35; refine (KA.out _ hd.out).mono ?_; rintro e w8 ⟨rfl, lv', hD5a⟩; have hD5 := hide' hD5a; clear hD5a; (try dsimp only)))
        obtain ⟨d2', d3', d5'⟩ := hcl2.out _ hD5.out.bl
        have hd2 : Hid (Below w.heap.size w w8.drew) := hD5.out.bl.drew
        have hD6 := hide' (hD5.out.over (Below.refl _ w8).drew)
        go_upto_region 18 with fail
        go_region_held3 (fun V => V.cell? ⟨g, f + c * 6 + 2, none⟩ = some (.int .i64 a1) ∧ V.cell? ⟨g, f + c * 6 + 3, none⟩ = some (.int .i64 a2) ∧ V.cell? ⟨g, f + c * 6 + 5, none⟩ = some (.bool a4)) (first | (exact hcl2.out _ (hbB.out)) | (exact hcl2.out _ hd2.out)) (first | (go_at_call 35; refine (KB.out _ _ hD6.out).mono ?_; rintro e w9 ⟨rfl, hKa⟩; have hK9 := hide' hKa; have hbB : Hid (Below w.heap.size w w9) := (by obtain ⟨_, _, _, h, _⟩ := hKa; exact h.bl); clear hKa; (try dsimp only)))
        go_wp2
        exact ⟨⟨c + 1, by omega, by omega, by go_num, hK9⟩, by simp [intOf]; omega⟩
      have n2 : (q.op == 2) = false := by rw [beq_eq_false_iff_ne]; exact k2'
      by_cases k4' : q.op = 4
      · as_aux_lemma =>
        rw [k4'] at d1
        have KA : Hid (∀ V, Below wr.heap.size wr V → Calls Tryz.prog 36 #[.pointer (some ⟨k1.gr, 0, none⟩), .bool q.stuck, .int .i64 7] V fun e W' => e = .returned (.bool (mrkB R q.stuck)) ∧ ∃ lv', Dp w k1 k2 lv' lv2 (mrkR R q.stuck 7) R W') := fun V hV => (hD.out.over hV).mark (by omega) q.stuck 7
        have KB : Hid (∀ lv' V, Dp w k1 k2 lv' lv2 (mrkR R q.stuck 7) R V → Calls Tryz.prog 36 #[.pointer (some ⟨k2.gr, 0, none⟩), .bool q.stuck, .int .i64 7] V fun e W' => e = .returned (.bool (mrkB R q.stuck)) ∧ Bk w k1 k2 (c + 1) W') := fun lv' V h => by
          refine (h.swap.mark (by omega) q.stuck 7).mono ?_
          rintro e W' ⟨rfl, lv2', h2⟩
          refine ⟨rfl, lv', lv2', _, h2.swap, by have := mrkR_log R q.stuck 7; omega, fun e => ?_⟩
          unfold mrkR at e
          split at e
          · simp [hapS] at e
          · exact hne e
        have hbr := hide' hD.out.bl
        clear hD hcn hlg hne
        generalize mrkB R q.stuck = zc at *
        generalize q.on = a0 at *
        generalize q.step = a1 at *
        generalize q.user = a2 at *
        generalize q.tick = a3 at *
        generalize q.stuck = a4 at *
        go_upto_region 20 with fail
        have hd : Hid (Below wr.heap.size wr wr.drew) := (Below.refl _ wr).drew
        go_region_held3 (fun V => V.cell? ⟨g, f + c * 6 + 2, none⟩ = some (.int .i64 a1) ∧ V.cell? ⟨g, f + c * 6 + 3, none⟩ = some (.int .i64 a2) ∧ V.cell? ⟨g, f + c * 6 + 5, none⟩ = some (.bool a4)) (first | (exact hcl2.out _ hbB.out) | (exact hcl2.out _ hD5.out.bl) | (exact hcl2.out _ (hbr.out.trans (hd.out.mono hbr.out.size)))) (first | (go_at_call 36; refine (KB.out _ _ hD5.out).mono ?_; rintro e w9 ⟨rfl, hKa⟩; have hK9 := hide' hKa; have hbB : Hid (Below w.heap.size w w9) := (by obtain ⟨_, _, _, h, _⟩ := hKa; exact h.bl); clear hKa; (try dsimp only)) | (go_at_call 36; refine (KA.out _ hd.out).mono ?_; rintro e w8 ⟨rfl, lv', hD5a⟩; have hD5 := hide' hD5a; clear hD5a; (try dsimp only)))
        have hzz : (zc != zc) = false := by simp
        go_wp2
        exact ⟨⟨c + 1, by omega, by omega, by go_num, hK9⟩, by simp [intOf]; omega⟩
      have n4 : (q.op == 4) = false := by rw [beq_eq_false_iff_ne]; exact k4'
      have hK9 : Hid (Bk w k1 k2 (c + 1) wr) := ⟨lv1, lv2, R, hD.out, by omega, hne⟩
      clear hD hcl2 hcn hlg hne
      generalize q.op = a9 at *
      go_wp2
      exact ⟨⟨c + 1, by omega, by omega, by go_num, hK9⟩, by simp [intOf]; omega⟩
    · as_aux_lemma =>
      have KL1 := hide' (fun V (z : Below wr.heap.size wr V) => logF (hD.out.over z).p.run hne (by omega))
      have KL2 := hide' (fun V (z : Below wr.heap.size wr V) => logF (hD.out.over z).q.run hne (by omega))
      have KE : Hid (∀ V a b B1 B2, V.ownsRow B1 76 4 a R.log.length (cellsEv R.log) → V.ownsRow B2 76 4 b R.log.length (cellsEv R.log) → Calls Tryz.prog 19 #[a, b] V fun e w' => e = .returned (.bool true) ∧ Below V.heap.size V w') := fun V a b B1 B2 h1 h2 => eventsF R.log B1 B2 a b V h1 h2 hne (by omega)
      have KS1 := hide' (fun V (z : Below wr.heap.size wr V) => statusF (hD.out.over z).p.run)
      have KS2 := hide' (fun V (z : Below wr.heap.size wr V) => statusF (hD.out.over z).q.run)
      have KF1 := hide' (fun V (z : Below wr.heap.size wr V) => fixedF (hD.out.over z).p.run (by have := hD.out.n64; omega))
      have KF2 := hide' (fun V (z : Below wr.heap.size wr V) => fixedF (hD.out.over z).q.run (by have := hD.out.n64; omega))
      have KI : Hid (∀ V a b B1 B2, V.ownsRow B1 3 1 a R.S.length (cellsI (usL R.S)) → V.ownsRow B2 3 1 b R.S.length (cellsI (usL R.S)) → Calls Tryz.prog 27 #[a, b] V fun e w' => e = .returned (.bool true) ∧ Below V.heap.size V w') := fun V a b B1 B2 h1 h2 => by
        have hn := hD.out.n64
        rw [← usLn] at h1 h2
        have := keepInts (usL R.S) (usL R.S) a b V (RowI.of_owns h1) (RowI.of_owns h2) (by rw [usLn]; omega) (by rw [usLn]; omega)
        simpa using this
      have hbr := hide' hD.out.bl
      have hcut : (c < L1.length ∧ ¬ c < 30) ∨ ¬ c < L1.length := by
        by_cases h : c < L1.length
        · exact .inl ⟨h, fun e => hgo ⟨h, e⟩⟩
        · exact .inr h
      clear hD hL' hcan hfl hgo hcm
      generalize R.stat = st at *
      generalize R.S.length = ns at *
      generalize R.log.length = nl at *
      rcases hcut with ⟨hlt, h30⟩ | hlt
      all_goals
        go_wp2_with fail
        refine (KL1.out wr (Below.refl _ _)).mono ?_
        rintro e w1 ⟨v1, rfl, ho1, hb1⟩
        have B1 := hide' hb1
        have KL2' := hide' (KL2.out w1 B1.out)
        have ho1' := hide' ho1
        obtain ⟨p1, q1, rfl⟩ := own_shp ho1
        clear KL1 KL2 hb1 ho1
        go_wp2_with fail
        refine KL2'.out.mono ?_
        rintro e w2 ⟨v2, rfl, ho2, hb2⟩
        have B2 := hide' (B1.out.trans (hb2.mono B1.out.size))
        have KE' := hide' (KE.out w2 _ v2 _ _ (own_same ho1'.out fun k hk _ => hb2.block k hk) ho2)
        obtain ⟨p2, q2, rfl⟩ := own_shp ho2
        clear KL2' KE hb2 ho2 ho1' B1
        go_wp2_with fail
        refine KE'.out.mono ?_
        rintro e w3 ⟨rfl, hb3⟩
        have B3 := hide' (B2.out.trans (hb3.mono B2.out.size))
        have K1 := hide' (KS1.out w3 B3.out)
        have K2 := hide' (KS2.out w3 B3.out)
        clear KE' hb3 B2 KS1 KS2
        go_wp2_with (first | (go_at_call 15; refine K1.out.mono ?_; rintro e w5 ⟨rfl, hw⟩; obtain rfl : w3 = w5 := hw.symm) | (go_at_call 15; refine K2.out.mono ?_; rintro e w5 ⟨rfl, hw⟩; obtain rfl : w3 = w5 := hw.symm))
        refine (KF1.out w3 B3.out).mono ?_
        rintro e w6 ⟨v6, rfl, ho6, hb6⟩
        have B6 := hide' (B3.out.trans (hb6.mono B3.out.size))
        have KF2' := hide' (KF2.out w6 B6.out)
        have ho6' := hide' ho6
        obtain ⟨p6, q6, rfl⟩ := own_shp ho6
        clear KF1 KF2 hb6 ho6 K1 K2 B3
        go_wp2_with fail
        refine KF2'.out.mono ?_
        rintro e w7 ⟨v7, rfl, ho7, hb7⟩
        have B7 := hide' (B6.out.trans (hb7.mono B6.out.size))
        have KI' := hide' (KI.out w7 _ v7 _ _ (own_same ho6'.out fun k hk _ => hb7.block k hk) ho7)
        obtain ⟨p7, q7, rfl⟩ := own_shp ho7
        clear KF2' KI hb7 ho7 ho6' B6
        go_wp2_with fail
        refine KI'.out.mono ?_
        rintro e w8 ⟨rfl, hb8⟩
        have hF := hide' (hbr.out.trans ((B7.out.trans (hb8.mono B7.out.size)).mono hbr.out.size))
        clear KI' hb8 B7 hbr
        go_wp2
        go_ret
        exact ⟨rfl, hF.out⟩
end Go.Proofs.YtahfobbiaimoiaaGreatDoor
