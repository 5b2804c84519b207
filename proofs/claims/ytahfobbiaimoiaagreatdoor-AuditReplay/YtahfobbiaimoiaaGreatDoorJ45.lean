/- AuditReplay: the law's walk. -/
import Derived.Test.YtahfobbiaimoiaaGreatDoorJ43
import Derived.Test.YtahfobbiaimoiaaGreatDoorJ44
import Derived.Deep.CutBlock
namespace Go.Proofs.YtahfobbiaimoiaaGreatDoor
open Go.RowKit
set_option maxRecDepth 100000 in
set_option maxHeartbeats 8000000 in
theorem auditReplay_walk (F0 : Fw) (v : Value) (L0 : List Ev) (lv0 : Value) (w : World) (hv : flV w v F0) (hN : FlN F0) (hl : EvQ w lv0 L0) (_ : EvW L0) (ht : O.Tab w) :
    Calls Tryz.prog 3 #[v, lv0] w fun e w' => e = .returned (.bool true) ∧ Below w.heap.size w w' := by
  have KT0 : Hid (∀ W, Below w.heap.size w W → Calls Tryz.prog 9 #[v] W (CopR W (cutFw F0))) := fun W hW => twin7F F0 v W (hv.below hW (Nat.le_refl _))
  have KT1 : Hid (∀ W x, flV W x (cutFw F0) → Calls Tryz.prog 9 #[x] W (CopR W (cutFw F0))) := fun W x hx => by
    have := twin7F (cutFw F0) x W hx
    rwa [cut_idem] at this
  have KF0 : Hid (∀ W, Below w.heap.size w W → Calls Tryz.prog 10 #[lv0] W fun e w' => ∃ v', e = .returned v' ∧ w'.ownsRow W.heap.size 76 4 v' (L0.take 300).length (cellsEv (L0.take 300)) ∧ Below W.heap.size W w') := fun W hW => fewE L0 lv0 W (hl.over hW)
  have KF1 : Hid (∀ W x, EvQ W x (L0.take 300) → Calls Tryz.prog 10 #[x] W fun e w' => ∃ v', e = .returned v' ∧ w'.ownsRow W.heap.size 76 4 v' (L0.take 300).length (cellsEv (L0.take 300)) ∧ Below W.heap.size W w') := fun W x hx => by
    have := fewE (L0.take 300) x W hx
    rwa [List.take_take, Nat.min_self] at this
  have hLn : Hid ((L0.take 300).length ≤ 300) := by show _ ≤ _; rw [List.length_take]; omega
  have hB := flb_cut hN
  have hB' := hide' hB
  have KW : Hid (∀ W, Below w.heap.size w W → Calls Tryz.prog 13 #[] W fun e w' => e = .returned (.bool true) ∧ Below W.heap.size W w') := fun W hW => wakes23 W (ht.over hW)
  have T : Hid (∀ W, Below w.heap.size w W → O.Tab W) := fun W hW => ht.over hW
  have KR : Hid (∀ W x y, Below w.heap.size w W → flV W x (cutFw F0) → EvQ W y (L0.take 300) → Calls Tryz.prog 11 #[x, y] W (RpP (cutFw F0) (L0.take 300) W)) := fun W x y hW hx hy => replayF _ _ x y W hx hB'.out hy (Nat.le_trans hLn.out (by omega)) (T.out W hW)
  generalize cutFw F0 = F at *
  generalize L0.take 300 = L at *
  obtain ⟨sv0, rv0, rfl, hs, hr⟩ := hv
  obtain ⟨oa, cap, rfl⟩ := hs.shape
  obtain ⟨ob, cb, rfl⟩ := hr.shape
  obtain ⟨ol, cl, rfl, _, _⟩ := hl
  clear hs hr hB hN ht
  have B0 : Hid (Below w.heap.size w (w.alloc (.cells #[.string F0.name, .slice oa F0.steps.length cap, .slice ob F0.rules.length cb] 25))) := (Below.refl _ w).alloc (Nat.le_refl _) _
  have X0 := hide' (heap_alloc_new w (.cells #[.string F0.name, .slice oa F0.steps.length cap, .slice ob F0.rules.length cb] 25))
  obtain ⟨x0, x1, x2⟩ := bx3 X0.out
  go_enter Tryz.func3, Tryz.ntmps3
  go_wp2_with fail
  clear x0 x1 x2
  generalize w.alloc (.cells #[.string F0.name, .slice oa F0.steps.length cap, .slice ob F0.rules.length cb] 25) = W0 at *
  -- g := Twin(f)
  refine (KT0.out _ B0.out).mono ?_
  intro e w1 hC1
  obtain ⟨o1, c1, o2, c2, P1, P2, rfl, hF1, hb1⟩ := CopR.open hC1
  have B2 := hide' ((B0.out.trans (hb1.mono B0.out.size)).alloc (Nat.le_trans B0.out.size hb1.size) (.cells #[.string F.name, .slice o1 F.steps.length c1, .slice o2 F.rules.length c2] 25))
  have hF2 := hide' (hF1.over ((Below.refl _ w1).alloc (Nat.le_refl _) (.cells #[.string F.name, .slice o1 F.steps.length c1, .slice o2 F.rules.length c2] 25)))
  have D2 := hide' (heap_alloc_new w1 (.cells #[.string F.name, .slice o1 F.steps.length c1, .slice o2 F.rules.length c2] 25))
  clear KT0 hC1 hb1 hF1 B0 X0
  go_wp2_with fail
  generalize hbg : w1.heap.size = bf at *
  generalize w1.alloc (.cells #[.string F.name, .slice o1 F.steps.length c1, .slice o2 F.rules.length c2] 25) = W2 at *
  clear hbg
  -- the flow's box, at all worlds behind
  have hG : Hid (∀ V, Below W2.heap.size W2 V → Below w.heap.size w V ∧ flV V (.agg #[.string F.name, .slice o1 F.steps.length c1, .slice o2 F.rules.length c2]) F ∧ V.cell? ⟨bf, 0, none⟩ = some (.string F.name) ∧ V.cell? ⟨bf, 1, none⟩ = some (.slice o1 F.steps.length c1) ∧ V.cell? ⟨bf, 2, none⟩ = some (.slice o2 F.rules.length c2)) := fun V hV => ⟨B2.out.trans (hV.mono B2.out.size), (hF2.out.over hV).fl, bx3 ((hV.block bf (Array.getElem?_eq_some_iff.1 D2.out).1).trans D2.out)⟩
  clear D2 hF2
  -- l := few(log)
  refine (KF0.out _ B2.out).mono ?_
  rintro e w3 ⟨v3, rfl, ho3, hb3⟩
  have E3 := hide' hb3
  obtain ⟨o3, c3, rfl⟩ := own_shp ho3
  have hL : Hid (∀ V, Below w3.heap.size w3 V → V.ownsRow 0 76 4 (.slice o3 L.length c3) L.length (cellsEv L)) := fun V hV => own_down (own_same ho3 fun k hk _ => hV.block k hk) (Nat.zero_le _)
  obtain ⟨_, _, x0, x1, x2⟩ := hG.out w3 E3.out
  clear KF0 ho3 hb3 B2
  go_wp2_with fail
  refine (KT1.out _ _ (hG.out w3 E3.out).2.1).mono ?_
  intro e w4 hC4
  obtain ⟨o5, c5, o6, c6, P5, P6, rfl, hF4, hb4⟩ := CopR.open hC4
  have E4 := hide' (E3.out.trans (hb4.mono E3.out.size))
  have F4 := hide' hb4
  have hx4 := hide' (fun V (hV : Below w4.heap.size w4 V) => (hF4.over hV).fl)
  clear KT1 hC4 hF4 hb4 x0 x1 x2
  go_wp2_with fail
  refine (KF1.out _ _ (EvQ.of_owns (hL.out w4 F4.out))).mono ?_
  rintro e w5 ⟨v5, rfl, ho5, hb5⟩
  have E5 := hide' (E4.out.trans (hb5.mono E4.out.size))
  have F5 := hide' (F4.out.trans (hb5.mono F4.out.size))
  have K5 := hide' (KR.out w5 _ v5 (hG.out _ E5.out).1 (hx4.out _ hb5) (EvQ.of_owns ho5))
  obtain ⟨ow, cw, rfl⟩ := own_shp ho5
  clear KF1 ho5 hb5 hx4 KR E4 F4
  go_wp2_with fail
  refine K5.out.mono ?_
  intro e w6 hR6
  obtain ⟨pa, z, rfl, hb6, KD⟩ := replayB hR6
  have E6 := hide' (E5.out.trans (hb6.mono E5.out.size))
  have F6 := hide' (F5.out.trans (hb6.mono F5.out.size))
  obtain ⟨_, hf6, x0, x1, x2⟩ := hG.out w6 E6.out
  have KD' := hide' (KD _ _ w6 (Below.refl _ _) hf6 hB'.out (EvQ.of_owns (hL.out w6 F6.out)) hLn.out)
  clear K5 hR6 hb6 KD hf6 E5 F5 E3
  go_wp2_with fail
  refine KD'.out.mono ?_
  rintro e w7 ⟨xa, rfl, hb7, hBo⟩
  have E7 := hide' (E6.out.trans (hb7.mono E6.out.size))
  have F7 := hide' (F6.out.trans (hb7.mono F6.out.size))
  have K8 := hide' (KW.out w7 (hG.out _ E7.out).1)
  clear KD' KW hb7 E6 F6 x0 x1 x2
  rcases hBo with ⟨rfl, rfl⟩ | ⟨gr, k, ev, lv, R, gt, sv, rv, go, ct, gp, gs, V0, P1, P2, rfl, rfl, hBo⟩
  · go_wp2_with fail
    refine K8.out.mono ?_
    rintro e w8 ⟨rfl, hb8⟩
    have hF := hide' ((hG.out _ E7.out).1.trans (hb8.mono (hG.out _ E7.out).1.size))
    clear K8 hb8 hG hL E7 F7
    go_wp2
    go_ret
    exact ⟨rfl, hF.out⟩
  have Bo7 := hide' hBo
  clear hBo
  go_wp2_with fail
  refine K8.out.mono ?_
  rintro e w8 ⟨rfl, hb8⟩
  have E8 := hide' (E7.out.trans (hb8.mono E7.out.size))
  have F8 := hide' (F7.out.trans (hb8.mono F7.out.size))
  have Bo8 := hide' (Bo7.out.over hb8)
  clear K8 hb8 E7 F7 Bo7
  have KS : Hid (∀ V, Below w8.heap.size w8 V → ∀ i : Int, Calls Tryz.prog 14 #[.pointer (some ⟨gr, 0, none⟩), .int .i64 i] V fun e w' => e = .returned (.tuple #[staT R i, .bool (hasS R i)]) ∧ Below V.heap.size V w') := fun V z i => stateF (Bo8.out.over z).x.run i
  have hSt : Hid (∀ V, Below w8.heap.size w8 V → V.cell? ⟨k.gd, 4, none⟩ = some (.slice (some ⟨k.hd, 0, none⟩) R.S.length k.ct1) ∧ ∀ i s, R.S[i]? = some s → V.cell? ⟨k.hd, i * 4, none⟩ = some (.int .i64 s.st) ∧ V.cell? ⟨k.hd, i * 4 + 1, none⟩ = some (.int .i64 s.us) ∧ V.cell? ⟨k.hd, i * 4 + 2, none⟩ = some (.int .i64 s.ca) ∧ V.cell? ⟨k.hd, i * 4 + 3, none⟩ = some (.int .i64 s.da)) := fun V hV => ⟨(Bo8.out.over hV).sts.1, (Bo8.out.over hV).sts.2.2⟩
  have hcap := Bo8.out.sts.2.1
  have hSs : Hid (∀ (c : Nat) s, R.S[c]? = some s → staT R (c : Int) = .agg #[.int .i64 s.st, .int .i64 s.us, .int .i64 s.ca, .int .i64 s.da] ∧ hasS R (c : Int) = true) := fun c s hs => by
    have hc := (List.getElem?_eq_some_iff.1 hs).1
    have hh : hasS R (c : Int) = true := by unfold hasS; simp; exact hc
    have h1 : sAt R (c : Int) = s := by unfold sAt; rw [Int.toNat_natCast, hs]; rfl
    exact ⟨by unfold staT; rw [if_pos hh, h1]; rfl, hh⟩
  have KT1 := hide' (fun V (z : Below w8.heap.size w8 V) => statusF (Bo8.out.over z).x.run)
  have KT2 := hide' (fun V (z : Below w8.heap.size w8 V) => (Bo8.out.over z).statusD)
  have KR1 := hide' (fun V (z : Below w8.heap.size w8 V) => (Bo8.out.over z).x.readyC (T.out V (hG.out V (E8.out.trans (z.mono E8.out.size))).1))
  have KR2 := hide' (fun V (z : Below w8.heap.size w8 V) => (Bo8.out.over z).readyD)
  have KG1 : Hid (∀ V, Below w8.heap.size w8 V → Calls Tryz.prog 20 #[.pointer (some ⟨gr, 0, none⟩)] V fun e w' => ∃ v', e = .returned v' ∧ w'.ownsRow V.heap.size 76 4 v' L.length (cellsEv L) ∧ Below V.heap.size V w') := fun V z => by
    have := logF (Bo8.out.over z).x.run Bo8.out.ne (by rw [Bo8.out.lg]; have := hLn.out; omega)
    rwa [Bo8.out.lg] at this
  have KE : Hid (∀ V a B1, Below w8.heap.size w8 V → V.ownsRow B1 76 4 a L.length (cellsEv L) → Calls Tryz.prog 19 #[a, .slice o3 L.length c3] V fun e w' => e = .returned (.bool true) ∧ Below V.heap.size V w') := fun V a B1 z h1 => eventsF L B1 0 a _ V h1 (hL.out V (F8.out.trans (z.mono F8.out.size))) (by rw [← Bo8.out.lg]; exact Bo8.out.ne) (by have := hLn.out; omega)
  have KW1 : Hid (∀ V, Below w8.heap.size w8 V → Calls Tryz.prog 22 #[.pointer (some ⟨gr, 0, none⟩)] V (CopR V F)) := fun V z => flowF (Bo8.out.over z).x.run (fun V' z' => ((Bo8.out.over z).x.over z').fl) hB'.out
  have KW2 : Hid (∀ V a, Below w8.heap.size w8 V → flV V a F → Calls Tryz.prog 21 #[a, .agg #[.string F.name, .slice o1 F.steps.length c1, .slice o2 F.rules.length c2]] V fun e w' => e = .returned (.bool true) ∧ Below V.heap.size V w') := fun V a z ha => keepFlowF F a _ V ha (hG.out V (E8.out.trans (z.mono E8.out.size))).2.1 hB'.out.sl (fun s hs => by have := (hB'.out.st s hs).1; omega) hB'.out.rl (fun r hr => by have := hB'.out.ru r hr; omega)
  have hS : Hid (∀ V, Below w8.heap.size w8 V → V.cell? ⟨bf, 0, none⟩ = some (.string F.name) ∧ V.cell? ⟨bf, 1, none⟩ = some (.slice o1 F.steps.length c1) ∧ V.cell? ⟨bf, 2, none⟩ = some (.slice o2 F.rules.length c2)) := fun V z => (hG.out V (E8.out.trans (z.mono E8.out.size))).2.2
  have hW8 := hide' (hG.out w8 E8.out).1
  have hn0 : Hid (R.S.length ≤ 1000) := by show _ ≤ _; rw [Bo8.out.d.len]; have := Bo8.out.ord.n64; omega
  clear hG hL T hB' E8 F8 Bo8 hLn
  generalize rdyR R.S.length k.Pf R = rd at *
  generalize R.stat = st at *
  generalize F.name = nm at *
  generalize F.steps.length = nst at *
  generalize F.rules.length = nru at *
  generalize L.length = nl at *
  have hn1 := hn0.out
  go_wp2
  go_loopw [11, 12, 13] (fun j _ _ wr => ∃ c : Nat, c ≤ R.S.length ∧ j = .int .i64 c ∧ Hid (Below w8.heap.size w8 wr)) (fun j _ _ _ => ((R.S.length : Int) - intOf j).toNat)
  case atStart => exact ⟨0, Nat.zero_le _, rfl, Below.refl _ _⟩
  case round =>
    obtain ⟨c, hc, rfl, hB⟩ := hrel
    obtain ⟨c4, hst⟩ := hSt.out wr hB.out
    by_cases hlt : c < R.S.length
    · as_aux_lemma =>
      obtain ⟨s, hx⟩ : ∃ x, R.S[c]? = some x := ⟨_, List.getElem?_eq_getElem hlt⟩
      obtain ⟨e1, e2⟩ := hSs.out c s hx
      have K1 := hide' (KS.out wr hB.out (c : Int))
      rw [e1, e2] at K1
      have hS2 := hide' (fun V (z : Below w8.heap.size w8 V) => And.intro (hSt.out V z).1 ((hSt.out V z).2 c s hx))
      clear KS hSt hSs KT1 KT2 KR1 KR2 KG1 KE KW1 KW2 hS e1 e2 hx hst hW8
      generalize s.st = a at *
      generalize s.us = b at *
      generalize s.ca = d at *
      generalize s.da = f at *
      go_wp2_with fail
      refine K1.out.mono ?_
      rintro e w9 ⟨rfl, hb9⟩
      have B9 := hide' ((hB.out.trans (hb9.mono hB.out.size)).alloc (Nat.le_trans hB.out.size hb9.size) (.cells #[.int .i64 a, .int .i64 b, .int .i64 d, .int .i64 f] 42))
      have X1 := hide' (heap_alloc_new w9 (.cells #[.int .i64 a, .int .i64 b, .int .i64 d, .int .i64 f] 42))
      clear hb9 K1 hB c4
      go_upto_region 13 with fail
      generalize hx : w9.heap.size = gx at *
      generalize hW1 : w9.alloc (.cells #[.int .i64 a, .int .i64 b, .int .i64 d, .int .i64 f] 42) = W1 at *
      clear hx hW1
      obtain ⟨x0, x1, x2, x3⟩ := bx4 X1.out
      obtain ⟨c4, y0, y1, y2, y3⟩ := hS2.out W1 B9.out
      have he : ∀ W : World, (Op.equalIn 10000 42 (.agg #[.int .i64 a, .int .i64 b, .int .i64 d, .int .i64 f]) (.agg #[.int .i64 a, .int .i64 b, .int .i64 d, .int .i64 f])).run Tryz.prog W = .ok true W := fun W => st_eqA _ _ _ _ W
      clear X1 hS2
      go_wp2
      go_quiet (fail)
      go_wp2
      exact ⟨⟨c + 1, by omega, by go_num, below_drewR B9.out _⟩, by simp [intOf]; omega⟩
    · obtain rfl : c = R.S.length := by omega
      clear KS hSt hSs hst
      go_wp2_with fail
      have hd : Hid (Below w8.heap.size w8 wr.drew) := hB.out.drew
      go_region_held3 (fun V => V.cell? ⟨bf, 0, none⟩ = some (.string nm) ∧ V.cell? ⟨bf, 1, none⟩ = some (.slice o1 nst c1) ∧ V.cell? ⟨bf, 2, none⟩ = some (.slice o2 nru c2)) (first | (exact hS.out _ B16.out) | (exact hS.out _ B15.out) | (exact hS.out _ B14.out) | (exact hS.out _ B13.out) | (exact hS.out _ B12.out) | (exact hS.out _ B11.out) | (exact hS.out _ hd.out)) (first | (go_at_call 21; refine (KW2.out _ _ B15.out hfl.out).mono ?_; rintro e w16 ⟨rfl, hb⟩; have B16 := hide' (B15.out.trans (hb.mono B15.out.size)); clear hb) | (go_at_call 22; refine (KW1.out _ B14.out).mono ?_; intro e w15 hC; obtain ⟨p1, q1, p2, q2, P1, P2, rfl, hF, hb⟩ := CopR.open hC; have hfl := hide' hF.fl; have B15 := hide' (B14.out.trans (hb.mono B14.out.size)); clear hb hC hF) | (go_at_call 19; refine (KE.out _ _ _ B13.out hO13.out).mono ?_; rintro e w14 ⟨rfl, hb⟩; have B14 := hide' (B13.out.trans (hb.mono B13.out.size)); clear hb) | (go_at_call 20; refine (KG1.out _ B12.out).mono ?_; rintro e w13 ⟨v13, rfl, ho, hb⟩; obtain ⟨o13, c13, rfl⟩ := own_shp ho; have hO13 := hide' ho; have B13 := hide' (B12.out.trans (hb.mono B12.out.size)); clear hb ho) | (go_at_call 18; refine (KR2.out _ B12.out).mono ?_; rintro e w5 ⟨rfl, hw⟩; obtain rfl : w12 = w5 := hw.symm) | (go_at_call 17; refine (KR1.out _ hd.out).mono ?_; rintro e w12 ⟨rfl, hb⟩; have B12 := hide' (hd.out.trans (hb.mono hd.out.size)); clear hb) | (go_at_call 16; refine (KT2.out _ hd.out).mono ?_; rintro e w5 ⟨rfl, hw⟩; obtain rfl : wr.drew = w5 := hw.symm) | (go_at_call 15; refine (KT1.out _ hd.out).mono ?_; rintro e w5 ⟨rfl, hw⟩; obtain rfl : wr.drew = w5 := hw.symm))
      have hF := hide' (hW8.out.trans (B16.out.mono hW8.out.size))
      go_wp2
      go_ret
      exact ⟨rfl, hF.out⟩
end Go.Proofs.YtahfobbiaimoiaaGreatDoor
