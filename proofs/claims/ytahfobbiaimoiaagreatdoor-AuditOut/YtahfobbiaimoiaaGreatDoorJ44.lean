/- AuditOut: the law's walk. -/
import Derived.Test.YtahfobbiaimoiaaGreatDoorJ41
import Derived.Test.YtahfobbiaimoiaaGreatDoorJ42
import Derived.Test.YtahfobbiaimoiaaGreatDoorJ43
import Derived.Deep.CutBlock
namespace Go.Proofs.YtahfobbiaimoiaaGreatDoor
open Go.RowKit
set_option maxRecDepth 100000 in
set_option maxHeartbeats 8000000 in
theorem auditOut_walk (F0 : Fw) (v : Value) (L0 : List Oq) (ov : Value) (z : Int) (w : World) (hv : flV w v F0) (hN : FlN F0) (ho : RowQ w ov L0) (ht : O.Tab w) :
    Calls Tryz.prog 6 #[v, ov, .int .i64 z] w fun e w' => e = .returned (.bool true) ∧ Below w.heap.size w w' := by
  have KT0 : Hid (∀ W, Below w.heap.size w W → Calls Tryz.prog 9 #[v] W (CopR W (cutFw F0))) := fun W hW => twin7F F0 v W (hv.below hW (Nat.le_refl _))
  have KT1 : Hid (∀ W x, flV W x (cutFw F0) → Calls Tryz.prog 9 #[x] W (CopR W (cutFw F0))) := fun W x hx => by
    have := twin7F (cutFw F0) x W hx
    rwa [cut_idem] at this
  have hB' := hide' (flb_cut hN)
  have KW : Hid (∀ W, Below w.heap.size w W → Calls Tryz.prog 13 #[] W fun e w' => e = .returned (.bool true) ∧ Below W.heap.size W w') := fun W hW => wakes23 W (ht.over hW)
  have KP : Hid (∀ W x, Below w.heap.size w W → flV W x (cutFw F0) → Calls Tryz.prog 33 #[x, ov] W (PyP (cutFw F0) L0 W)) := fun W x hW hx => playedF _ L0 x ov W hx (cut_idem F0) hB'.out (rowQ_over ho hW) (ht.over hW)
  have KR : Hid (∀ W x y L, Below w.heap.size w W → flV W x (cutFw F0) → EvQ W y L → L.length ≤ 1000 → Calls Tryz.prog 11 #[x, y] W (RpP (cutFw F0) L W)) := fun W x y L hW hx hy hl => replayF _ _ x y W hx hB'.out hy hl (ht.over hW)
  generalize cutFw F0 = F at *
  obtain ⟨sv0, rv0, rfl, hs, hr⟩ := hv
  obtain ⟨oa, cap, rfl⟩ := hs.shape
  obtain ⟨ob, cb, rfl⟩ := hr.shape
  obtain ⟨oo, co, rfl, _, _⟩ := ho
  clear hs hr hN ht
  have B0 : Hid (Below w.heap.size w (w.alloc (.cells #[.string F0.name, .slice oa F0.steps.length cap, .slice ob F0.rules.length cb] 25))) := (Below.refl _ w).alloc (Nat.le_refl _) _
  obtain ⟨x0, x1, x2⟩ := bx3 (heap_alloc_new w (.cells #[.string F0.name, .slice oa F0.steps.length cap, .slice ob F0.rules.length cb] 25))
  go_enter Tryz.func6, Tryz.ntmps6
  go_wp2_with fail
  clear x0 x1 x2
  generalize w.alloc (.cells #[.string F0.name, .slice oa F0.steps.length cap, .slice ob F0.rules.length cb] 25) = W0 at *
  refine (KT0.out _ B0.out).mono ?_
  intro e w1 hC1
  obtain ⟨o1, c1, o2, c2, P1, P2, rfl, hF1, hb1⟩ := CopR.open hC1
  have B2 := hide' ((B0.out.trans (hb1.mono B0.out.size)).alloc (Nat.le_trans B0.out.size hb1.size) (.cells #[.string F.name, .slice o1 F.steps.length c1, .slice o2 F.rules.length c2] 25))
  have hF2 := hide' (hF1.over ((Below.refl _ w1).alloc (Nat.le_refl _) (.cells #[.string F.name, .slice o1 F.steps.length c1, .slice o2 F.rules.length c2] 25)))
  have D2 := hide' (heap_alloc_new w1 (.cells #[.string F.name, .slice o1 F.steps.length c1, .slice o2 F.rules.length c2] 25))
  obtain ⟨x0, x1, x2⟩ := bx3 D2.out
  clear KT0 hC1 hb1 hF1 B0
  go_wp2_with fail
  clear x0 x1 x2
  generalize hbg : w1.heap.size = bf at *
  generalize w1.alloc (.cells #[.string F.name, .slice o1 F.steps.length c1, .slice o2 F.rules.length c2] 25) = W2 at *
  clear hbg
  have hG : Hid (∀ V, Below W2.heap.size W2 V → Below w.heap.size w V ∧ flV V (.agg #[.string F.name, .slice o1 F.steps.length c1, .slice o2 F.rules.length c2]) F ∧ V.cell? ⟨bf, 0, none⟩ = some (.string F.name) ∧ V.cell? ⟨bf, 1, none⟩ = some (.slice o1 F.steps.length c1) ∧ V.cell? ⟨bf, 2, none⟩ = some (.slice o2 F.rules.length c2)) := fun V hV => ⟨B2.out.trans (hV.mono B2.out.size), (hF2.out.over hV).fl, bx3 ((hV.block bf (Array.getElem?_eq_some_iff.1 D2.out).1).trans D2.out)⟩
  have K2 := hide' (KP.out W2 _ B2.out hF2.out.fl)
  clear D2 hF2 KP
  -- p := played(g, ops)
  refine K2.out.mono ?_
  intro e w3 hP3
  obtain ⟨pa, rfl, hb3, hP⟩ := hP3
  have E3 := hide' hb3
  have K3 := hide' (KW.out w3 (hG.out _ hb3).1)
  clear K2 KW
  rcases hP with ⟨rfl, h0⟩ | ⟨ok, V0, gr, gt, sv, rv, go, gp, gs, ct, Pf, Sf, P3, P4, lv, wN, rfl, hN, hX⟩
  · go_wp2_with fail
    refine K3.out.mono ?_
    rintro e w4 ⟨rfl, hb4⟩
    have hF := hide' ((hG.out _ (E3.out.trans (hb4.mono E3.out.size))).1)
    clear K3 hb4 hG E3 KT1 KR hb3 h0
    go_wp2
    go_ret
    exact ⟨rfl, hF.out⟩
  have hX3 := hide' hX
  have hN3 := hide' hN
  clear hb3 hX hN
  go_wp2_with fail
  refine K3.out.mono ?_
  rintro e w4 ⟨rfl, hb4⟩
  have E4 := hide' (E3.out.trans (hb4.mono E3.out.size))
  have hX4 := hide' (hX3.out.over hb4)
  have hGV : Hid (∀ V, Below V0.heap.size V0 V → Below W2.heap.size W2 V) := fun V hV => by
    have h1 := hN3.out.1.trans (hN3.out.2.1.mono hN3.out.1.size)
    exact h1.trans (hV.mono h1.size)
  have hok0 := plyL_ok true Pf (L0.take 200) (newR_ok F.steps.length ok.ne 0)
  have hcn0 := plyL_cn true Pf (L0.take 200) (newR_cn F.steps.length 0) (newR_ok F.steps.length ok.ne 0)
  have hlg0 : (plyL true Pf (newR F.steps.length 0) (L0.take 200)).log.length ≤ 500 := by
    have := plyL_log true Pf (L0.take 200) (newR F.steps.length 0)
    rw [show (newR F.steps.length 0).log.length = 1 from rfl, List.length_take] at this
    omega
  have hn12 : F.steps.length ≤ 12 := ok.le
  have hckF : Hid (chkF F = 0) := chkF_ok ok
  have hne := ok.ne
  generalize plyL true Pf (newR F.steps.length 0) (L0.take 200) = R0 at *
  have hpd0 : Hid (paid R0 ≤ 600) := by
    have a := lefA_le R0.S
    have b := lefB_le R0.S
    rw [hok0.len] at a b
    show R0.log.length + 2 * (lefA R0.S + lefB R0.S) ≤ 600
    omega
  have hGd0 := hide' (Gd.start hok0 hcn0 hn12)
  have hO := hide' hX4.out.wrd
  obtain ⟨X, hXd⟩ : ∃ X : Rs → World → Prop, X = fun R W => ∃ lv, RnX V0 F gr gt sv rv go gp gs ct Pf Sf P3 P4 lv R W := ⟨_, rfl⟩
  have hX0 : Hid (X R0 w4) := by show X R0 w4; rw [hXd]; exact ⟨lv, hX4.out⟩
  have XO : Hid (∀ R W V, X R W → Below W.heap.size W V → X R V) := fun R W V h hb => by rw [hXd] at h ⊢; obtain ⟨lv, h⟩ := h; exact ⟨lv, h.over hb⟩
  have hGX : Hid (∀ R W, X R W → Below w.heap.size w W ∧ flV W (.agg #[.string F.name, .slice o1 F.steps.length c1, .slice o2 F.rules.length c2]) F ∧ W.cell? ⟨bf, 0, none⟩ = some (.string F.name) ∧ W.cell? ⟨bf, 1, none⟩ = some (.slice o1 F.steps.length c1) ∧ W.cell? ⟨bf, 2, none⟩ = some (.slice o2 F.rules.length c2)) := fun R W h => by rw [hXd] at h; obtain ⟨lv, h⟩ := h; exact hG.out W (hGV.out W h.bl)
  have KSt : Hid (∀ R W, X R W → Calls Tryz.prog 15 #[.pointer (some ⟨gr, 0, none⟩)] W fun e w' => e = .returned (.int .i64 R.stat) ∧ w' = W) := fun R W h => by rw [hXd] at h; obtain ⟨lv, h⟩ := h; exact statusF h.run
  have KSa : Hid (∀ R W (i : Int), X R W → Calls Tryz.prog 14 #[.pointer (some ⟨gr, 0, none⟩), .int .i64 i] W fun e w' => e = .returned (.tuple #[staT R i, .bool (hasS R i)]) ∧ X R w') := fun R W i h => by
    have h0 := h
    rw [hXd] at h
    obtain ⟨lv, h⟩ := h
    exact (stateF h.run i).mono fun e w' ⟨h1, h2⟩ => ⟨h1, XO.out R W w' h0 h2⟩
  have KDo : Hid (∀ R W (i u : Int), X R W → R.log.length ≤ 100000 → Calls Tryz.prog 35 #[.pointer (some ⟨gr, 0, none⟩), .int .i64 i, .int .i64 u, .int .i64 9] W fun e w' => e = .returned (.int .i64 (canD R i u)) ∧ X (donR R i u 9) w') := fun R W i u h hl => by
    rw [hXd] at h ⊢
    obtain ⟨lv, h⟩ := h
    exact h.doneC hl i u 9
  have KCl : Hid (∀ R W (i u : Int), X R W → R.log.length ≤ 100000 → Calls Tryz.prog 34 #[.pointer (some ⟨gr, 0, none⟩), .int .i64 i, .int .i64 u, .int .i64 9] W fun e w' => e = .returned (.int .i64 (canC Pf R i)) ∧ X (clmR Pf R i u 9) w') := fun R W i u h hl => by
    rw [hXd] at h ⊢
    obtain ⟨lv, h⟩ := h
    exact h.claimC hl i u 9
  have KLg : Hid (∀ R W, X R W → R.log ≠ [] → R.log.length ≤ 100000 → Calls Tryz.prog 20 #[.pointer (some ⟨gr, 0, none⟩)] W fun e w' => ∃ v', e = .returned v' ∧ w'.ownsRow W.heap.size 76 4 v' R.log.length (cellsEv R.log) ∧ Below W.heap.size W w') := fun R W h h1 h2 => by
    rw [hXd] at h
    obtain ⟨lv, h⟩ := h
    exact logF h.run h1 h2
  obtain ⟨_, _, x0, x1, x2⟩ := hGX.out R0 w4 hX0.out
  clear hXd hX4 hGV hG hN3 E3 E4 K3 hb4 hX3 hok0 hcn0 hlg0 ok hB'
  generalize hnn : F.steps.length = n at *
  have hnn' := hide' hnn
  clear hnn
  go_upto_block 0 with fail
  clear x0 x1 x2
  go_cut [10] (fun _ wx => Hid (∃ R, X R wx ∧ Cn R ∧ RsOk n R ∧ paid R ≤ 600 ∧ endd R = true))
  case first =>
    as_aux_lemma =>
    clear KT1 KR KLg hGX hckF
    go_wp2_with fail
    go_loopw [10] (fun j wr => ∃ (k : Nat) (R : Rs), k ≤ 24 ∧ j = .int .i64 k ∧ Hid (Gd n R k) ∧ Hid (paid R ≤ 600) ∧ Hid (X R wr)) (fun j _ => ((24 : Int) - intOf j).toNat)
    case atStart => exact ⟨0, R0, by omega, rfl, hGd0, hpd0, hX0⟩
    case round =>
      clear hGd0 hpd0 hX0
      obtain ⟨k, R, hk, rfl, hg, hp, hX⟩ := hrel
      have K1 := hide' (KSt.out R wr hX.out)
      by_cases hk24 : k = 24
      · have hE : Hid (∃ R, X R wr ∧ Cn R ∧ RsOk n R ∧ paid R ≤ 600 ∧ endd R = true) := ⟨R, hX.out, hg.out.cn, hg.out.ok, hp.out, hg.out.out (.inl hk24)⟩
        subst hk24
        clear K1 hX hg hp XO KSt KSa KDo KCl hO
        go_wp2
        go_meet
        exact hE
      have hk2 : (k : Int) < 24 := by omega
      by_cases h3 : R.stat = 3
      · have hE : Hid (∃ R, X R wr ∧ Cn R ∧ RsOk n R ∧ paid R ≤ 600 ∧ endd R = true) := ⟨R, hX.out, hg.out.cn, hg.out.ok, hp.out, by unfold endd; rw [h3]; rfl⟩
        rw [h3] at K1
        clear hX hg hp XO KSt KSa KDo KCl hO
        go_wp2_with (go_at_call 15; refine K1.out.mono ?_; rintro e w5 ⟨rfl, hw⟩; obtain rfl : wr = w5 := hw.symm)
        go_meet
        exact hE
      by_cases h4 : R.stat = 4
      · have hE : Hid (∃ R, X R wr ∧ Cn R ∧ RsOk n R ∧ paid R ≤ 600 ∧ endd R = true) := ⟨R, hX.out, hg.out.cn, hg.out.ok, hp.out, by unfold endd; rw [h4]; rfl⟩
        rw [h4] at K1
        clear hX hg hp XO KSt KSa KDo KCl hO
        go_wp2_with (go_at_call 15; refine K1.out.mono ?_; rintro e w5 ⟨rfl, hw⟩; obtain rfl : wr = w5 := hw.symm)
        go_meet
        exact hE
      have hen : endd R = false := by unfold endd; simp [h3, h4]
      have hG1 := hide' (hg.out.next hO.out hen (k : Int))
      have hP1 : Hid (paid (rdO Pf (k : Int) R n) ≤ 600) := Nat.le_trans (rdO_paid Pf (k : Int) hg.out.ok n (Nat.le_refl _)) hp.out
      have hRc : Hid (∀ c, c ≤ n → RsOk n (rdO Pf (k : Int) R c) ∧ (rdO Pf (k : Int) R c).log.length ≤ 100000) := fun c hc => ⟨rdO_ok Pf _ hg.out.ok c, by
        have h1 := rdO_paid Pf (k : Int) hg.out.ok c hc
        have h2 := hp.out
        unfold paid at h1 h2
        omega⟩
      have h3' : (R.stat == 3) = false := by rw [beq_eq_false_iff_ne]; exact h3
      have h4' : (R.stat == 4) = false := by rw [beq_eq_false_iff_ne]; exact h4
      have h3b : (R.stat != 3) = true := by simp [h3]
      have h4b : (R.stat != 4) = true := by simp [h4]
      clear hg hp KSt hO
      generalize R.stat = st at *
      go_wp2_with (go_at_call 15; refine K1.out.mono ?_; rintro e w5 ⟨rfl, hw⟩; obtain rfl : wr = w5 := hw.symm)
      go_loopw [11, 12, 13] (fun j _ _ wx => ∃ c : Nat, c ≤ n ∧ j = .int .i64 c ∧ Hid (X (rdO Pf (k : Int) R c) wx)) (fun j _ _ _ => ((n : Int) - intOf j).toNat)
      case atStart => exact ⟨0, Nat.zero_le _, rfl, hX⟩
      case round =>
        clear hX K1
        obtain ⟨c, hc, rfl, hX⟩ := hrel
        by_cases hlt : c < n
        · as_aux_lemma =>
          obtain ⟨hok, hlg⟩ := hRc.out c hc
          have hNx := hide' (rdO_next Pf (k : Int) R c)
          generalize rdO Pf (k : Int) R c = R1 at *
          obtain ⟨s, hs⟩ : ∃ s, R1.S[c]? = some s := ⟨_, List.getElem?_eq_getElem (by rw [hok.len]; exact hlt)⟩
          have hh : hasS R1 (c : Int) = true := by unfold hasS; simp [hok.len]; exact hlt
          have h1 : sAt R1 (c : Int) = s := sAt_nat hs
          have K2 := hide' (KSa.out R1 wr (c : Int) hX.out)
          rw [show staT R1 (c : Int) = .agg #[.int .i64 s.st, .int .i64 s.us, .int .i64 s.ca, .int .i64 s.da] by unfold staT; rw [if_pos hh, h1]; rfl, hh] at K2
          have hD : Hid (∀ W, X R1 W → s.st = 1 → Calls Tryz.prog 35 #[.pointer (some ⟨gr, 0, none⟩), .int .i64 c, .int .i64 s.us, .int .i64 9] W fun e w' => e = .returned (.int .i64 (canD R1 (c : Int) s.us)) ∧ X (rdO Pf (k : Int) R (c + 1)) w') := fun W hW hst => by
            have := KDo.out R1 W (c : Int) s.us hW hlg
            rw [hNx.out, show stO Pf (k : Int) R1 c = donR R1 (c : Int) s.us 9 by unfold stO; rw [h1, if_pos hst]]
            exact this
          have hC : Hid (∀ W, X R1 W → ¬ s.st = 1 → Calls Tryz.prog 34 #[.pointer (some ⟨gr, 0, none⟩), .int .i64 c, .int .i64 k, .int .i64 9] W fun e w' => e = .returned (.int .i64 (canC Pf R1 (c : Int))) ∧ X (rdO Pf (k : Int) R (c + 1)) w') := fun W hW hst => by
            have := KCl.out R1 W (c : Int) (k : Int) hW hlg
            rw [hNx.out, show stO Pf (k : Int) R1 c = clmR Pf R1 (c : Int) (k : Int) 9 by unfold stO; rw [h1, if_neg hst]]
            exact this
          clear KSa KDo KCl hok hlg hNx hs hh h1 hRc hX hG1 hP1
          generalize s.st = a at *
          generalize s.us = b at *
          generalize s.ca = d at *
          generalize s.da = f at *
          go_wp2_with fail
          refine K2.out.mono ?_
          rintro e w6 ⟨rfl, hX6⟩
          have X7 := hide' (XO.out _ _ _ hX6 ((Below.refl _ w6).alloc (Nat.le_refl _) (.cells #[.int .i64 a, .int .i64 b, .int .i64 d, .int .i64 f] 42)))
          obtain ⟨y0, y1, y2, y3⟩ := bx4 (heap_alloc_new w6 (.cells #[.int .i64 a, .int .i64 b, .int .i64 d, .int .i64 f] 42))
          clear K2 XO hX6
          by_cases ha : a = 1
          · have K3 := hide' (hD.out _ X7.out ha)
            subst ha
            clear hD hC X7
            go_wp2_with (go_at_call 35; refine K3.out.mono ?_; rintro e w8 ⟨rfl, hX8⟩; have X8 := hide' hX8; clear hX8)
            exact ⟨⟨c + 1, by omega, by go_num, X8⟩, by simp [intOf]; omega⟩
          · have K3 := hide' (hC.out _ X7.out ha)
            have ha' : (a == 1) = false := by rw [beq_eq_false_iff_ne]; exact ha
            clear hD hC X7
            go_wp2_with (go_at_call 34; refine K3.out.mono ?_; rintro e w8 ⟨rfl, hX8⟩; have X8 := hide' hX8; clear hX8)
            exact ⟨⟨c + 1, by omega, by go_num, X8⟩, by simp [intOf]; omega⟩
        · obtain rfl : c = n := by omega
          clear hRc KSa KDo KCl XO
          go_wp2
          exact ⟨⟨k + 1, _, by omega, by go_num, hG1, hP1, hX⟩, by simp [intOf]; omega⟩
  case rest =>
    as_aux_lemma =>
    obtain ⟨R, hXc, hcn, hok, hpd, hen⟩ := hcut.out
    have hX := hide' hXc
    have K1 := hide' (KSt.out R wc hXc)
    have hF := hide' (hGX.out R wc hXc).1
    by_cases h4 : R.stat = 4
    · rw [h4] at K1
      clear hX hXc hcn hok hpd KSt KSa KDo KCl KLg XO hGX KT1 KR hO hGd0 hpd0 hX0 hcut
      go_wp2_with (go_at_call 15; refine K1.out.mono ?_; rintro e w5 ⟨rfl, hw⟩; obtain rfl : wc = w5 := hw.symm)
      go_ret
      exact ⟨rfl, hF.out⟩
    have h3 : R.stat = 3 := by unfold endd at hen; simp [h4] at hen; exact hen
    have hl0 : R.log ≠ [] := fun e => by have := hcn.one; rw [e] at this; cases this
    have hlg : R.log.length ≤ 600 := by unfold paid at hpd; omega
    have hln : R.log.length ≠ 0 := fun e => hl0 (List.eq_nil_of_length_eq_zero e)
    have K2 := hide' (KLg.out R wc hXc hl0 (by omega))
    rw [h3] at K1
    obtain ⟨k, hk1, hkl⟩ := turnK z hln (by omega)
    obtain ⟨x, hx⟩ : ∃ x, R.log[k]? = some x := ⟨_, List.getElem?_eq_getElem hkl⟩
    have hDB : Hid (x.kind ≠ 5 → x.kind ≠ 6 → ∀ R', RsOk n R' → Cn R' → R'.log ≠ R.log.take k ++ R.log.drop (k + 1)) := fun h5 h6 R' h1 h2 => drop_bad hok hcn h3 hx h5 h6 h1 h2
    have hk1' := hide' hk1
    have hln' : ¬ (R.log.length : Int) = 0 := by omega
    have hln2 : ((R.log.length : Int) == 0) = false := by rw [beq_eq_false_iff_ne]; exact hln'
    clear hk1 hXc hcn hok hpd KSt KSa KDo KCl KLg hO hGd0 hpd0 hX0 hcut hl0 h4 h3
    go_upto_region 22 with (first | (go_at_call 20; refine K2.out.mono ?_; rintro e w6 ⟨v6, rfl, ho6, hb6⟩; obtain ⟨g, cp, rfl, _, _⟩ := ho6.form (by omega); have hX6 := hide' (XO.out _ _ _ hX.out hb6); have hF6 := hide' (hGX.out _ _ hX6.out).1; have hE6 := EvQ.of_owns ho6; obtain ⟨a0, a1, a2, a3⟩ := evAt ho6 hkl hx; have hE6' := hide' hE6; clear ho6 hb6 hE6) | (go_at_call 15; refine K1.out.mono ?_; rintro e w5 ⟨rfl, hw⟩; obtain rfl : wc = w5 := hw.symm))
    rw [hk1'.out]
    clear K1 K2 hX hk1'
    have hkl' : (k : Int) < (R.log.length : Int) := by omega
    generalize R.log = L at *
    by_cases h5 : x.kind = 5
    · rw [h5] at a1
      clear hDB hX6 hE6' KR KT1 hGX
      go_wp2
      go_ret
      exact ⟨rfl, hF6.out⟩
    by_cases h6 : x.kind = 6
    · rw [h6] at a1
      clear hDB hX6 hE6' KR KT1 hGX
      go_wp2
      go_ret
      exact ⟨rfl, hF6.out⟩
    have hDB' := hide' (hDB.out h5 h6)
    obtain ⟨sa, hsa, hga⟩ := ev_head hE6'.out hkl
    obtain ⟨ad, cb', hsb, hgb⟩ := ev_rest hE6'.out (k := k + 1) hkl
    have hs3 := fun V => (run_sliceAt_slice V _ _ _ _ _ elemE).symm.trans (hsa V)
    have hs4 := fun V => (run_sliceAt_slice V _ _ _ _ _ elemE).symm.trans (hsb V)
    rw [show ((k + 1 : Nat) : Int) = (k : Int) + 1 by omega] at hs4
    have hwr : IntKind.i64.wrap ((k : Int) + 1) = (k : Int) + 1 := by rw [IntKind.wrap_i64]; omega
    have hga' : Hid (∀ V, Below w6.heap.size w6 V → EvQ V sa (L.take k)) := fun V hV => hga.over hV
    have hgb' : Hid (∀ V, Below w6.heap.size w6 V → EvQ V (.slice (some ad) (L.drop (k + 1)).length cb') (L.drop (k + 1))) := fun V hV => hgb.over hV
    have hl1 : (L.take k).length + (L.drop (k + 1)).length ≤ 600 := by rw [List.length_take, List.length_drop]; omega
    generalize L.take k = M1 at *
    generalize L.drop (k + 1) = M2 at *
    have hS : Hid (∀ V, Below w6.heap.size w6 V → V.cell? ⟨bf, 0, none⟩ = some (.string F.name) ∧ V.cell? ⟨bf, 1, none⟩ = some (.slice o1 n c1) ∧ V.cell? ⟨bf, 2, none⟩ = some (.slice o2 F.rules.length c2)) := fun V hV => (hGX.out R V (XO.out _ _ _ hX6.out hV)).2.2
    have hSw : Hid (∀ V, Below w6.heap.size w6 V → Below w.heap.size w V) := fun V hV => (hGX.out R V (XO.out _ _ _ hX6.out hV)).1
    have KT : Hid (∀ V, Below w6.heap.size w6 V → Calls Tryz.prog 9 #[.agg #[.string F.name, .slice o1 n c1, .slice o2 F.rules.length c2]] V (CopR V F)) := fun V hV => KT1.out V _ (hGX.out R V (XO.out _ _ _ hX6.out hV)).2.1
    have KF : Hid (∀ V, Below w6.heap.size w6 V → Calls Tryz.prog 38 #[sa] V fun e w' => ∃ v', e = .returned v' ∧ w'.ownsRow V.heap.size 76 4 v' M1.length (cellsEv M1) ∧ Below V.heap.size V w') := fun V hV => few2F _ sa V (hga'.out V hV) (by omega)
    have hRP : Hid (∀ W e w', RpP F (M1 ++ M2) W e w' → e = .returned (.tuple #[.pointer none, .int .i64 3]) ∧ Below W.heap.size W w') := fun W e w' h => by
      obtain ⟨pa, z, rfl, hb, h⟩ := h
      rcases h with ⟨h0, _⟩ | ⟨ok, V1, gr1, gt1, sv1, rv1, go1, gp1, gs1, ct1, Pf1, Sf1, P7, P8, lv1, wM, _, _, h7⟩
      · exact absurd hckF.out h0
      rcases h7 with ⟨h8, _⟩ | ⟨_, rfl, rfl⟩
      · rw [hnn'.out] at h8
        exact absurd h8 (hDB'.out _ (rpR_ok Pf1 _ (newR_ok n hne _)) (rpR_cn Pf1 _ (newR_cn n _) (newR_ok n hne _)))
      · exact ⟨rfl, hb⟩
    clear hga hgb hsa hsb hDB hDB' hE6' hX6 KT1 XO hGX hF hF6 a0 a2 a3
    have h5' : (x.kind == 5) = false := by rw [beq_eq_false_iff_ne]; exact h5
    have h6' : (x.kind == 6) = false := by rw [beq_eq_false_iff_ne]; exact h6
    clear hx
    generalize x.kind = kd at *
    have hd : Hid (Below w6.heap.size w6 w6.drew) := (Below.refl _ w6).drew
    obtain ⟨x0, x1, x2⟩ := hS.out w6 (Below.refl _ _)
    go_upto_region 24 with fail
    clear x0 x1 x2 a1
    refine wp_region_held_drew (S := (fun V => V.cell? ⟨bf, 0, none⟩ = some (.string F.name) ∧ V.cell? ⟨bf, 1, none⟩ = some (.slice o1 n c1) ∧ V.cell? ⟨bf, 2, none⟩ = some (.slice o2 F.rules.length c2))) (by kernel_rfl) ?_ (fun hHeld => ?_)
    · exact hS.out _ hd.out
    refine wpAnyH_take (i := 0) (oi := { dst := some 110, op := Op.load 25 (Operand.tmp 7), type := 25, pos := "law.go:155", after := #[], guard := none }) (v := ?_) rfl (by kernel_rfl) (by kernel_rfl) (by kernel_rfl) (fun _ _ _ h => h) (Or.inl ⟨by rfl, ?_⟩) (by assumption) ?_
    rotate_left
    · intro w hSw; (try dsimp only at hSw); go_simp <;> with_reducible rfl
    simp only [Act.put, List.setIfInBounds_toArray, List.set_cons_zero, List.set_cons_succ]
    refine wpAnyH_take (i := 2) (oi := { dst := some 112, op := Op.move (Operand.tmp 14), type := 26, pos := "law.go:155", after := #[], guard := none }) (v := ?_) rfl (by kernel_rfl) (by kernel_rfl) (by kernel_rfl) (fun _ _ _ h => h) (Or.inl ⟨by rfl, ?_⟩) (by assumption) ?_
    rotate_left
    · intro w hSw; (try dsimp only at hSw); go_simp <;> with_reducible rfl
    simp only [Act.put, List.setIfInBounds_toArray, List.set_cons_zero, List.set_cons_succ]
    refine wpAnyH_take (i := 3) (oi := { dst := some 113, op := Op.move (Operand.tmp 15), type := 3, pos := "law.go:155", after := #[], guard := none }) (v := ?_) rfl (by kernel_rfl) (by kernel_rfl) (by kernel_rfl) (fun _ _ _ h => h) (Or.inl ⟨by rfl, ?_⟩) (by assumption) ?_
    rotate_left
    · intro w hSw; (try dsimp only at hSw); go_simp <;> with_reducible rfl
    simp only [Act.put, List.setIfInBounds_toArray, List.set_cons_zero, List.set_cons_succ]
    refine wpAnyH_take (i := 4) (oi := { dst := some 114, op := Op.slice 26 (Operand.tmp 112) none (some (Operand.tmp 113)) none, type := 26, pos := "law.go:155", after := #[{ on := 2, ground := Ground.data }, { on := 3, ground := Ground.data }], guard := none }) (v := ?_) rfl (by kernel_rfl) (by kernel_rfl) (by kernel_rfl) (fun _ _ _ h => h) (Or.inl ⟨by rfl, ?_⟩) (by assumption) ?_
    rotate_left
    · intro w hSw; (try dsimp only at hSw); go_simp <;> with_reducible rfl
    simp only [Act.put, List.setIfInBounds_toArray, List.set_cons_zero, List.set_cons_succ]
    refine wpAnyH_take (i := 6) (oi := { dst := some 116, op := Op.move (Operand.tmp 14), type := 26, pos := "law.go:155", after := #[], guard := none }) (v := ?_) rfl (by kernel_rfl) (by kernel_rfl) (by kernel_rfl) (fun _ _ _ h => h) (Or.inl ⟨by rfl, ?_⟩) (by assumption) ?_
    rotate_left
    · intro w hSw; (try dsimp only at hSw); go_simp <;> with_reducible rfl
    simp only [Act.put, List.setIfInBounds_toArray, List.set_cons_zero, List.set_cons_succ]
    refine wpAnyH_take (i := 7) (oi := { dst := some 117, op := Op.move (Operand.tmp 15), type := 3, pos := "law.go:155", after := #[], guard := none }) (v := ?_) rfl (by kernel_rfl) (by kernel_rfl) (by kernel_rfl) (fun _ _ _ h => h) (Or.inl ⟨by rfl, ?_⟩) (by assumption) ?_
    rotate_left
    · intro w hSw; (try dsimp only at hSw); go_simp <;> with_reducible rfl
    simp only [Act.put, List.setIfInBounds_toArray, List.set_cons_zero, List.set_cons_succ]
    refine wpAnyH_take (i := 8) (oi := { dst := some 118, op := Op.binOp BinOp.add 3 (Operand.tmp 117) (Operand.const (Value.int IntKind.i64 1)) 3, type := 3, pos := "law.go:155", after := #[{ on := 7, ground := Ground.data }], guard := none }) (v := ?_) rfl (by kernel_rfl) (by kernel_rfl) (by kernel_rfl) (fun _ _ _ h => h) (Or.inl ⟨by rfl, ?_⟩) (by assumption) ?_
    rotate_left
    · intro w hSw; (try dsimp only at hSw); go_simp <;> with_reducible rfl
    simp only [Act.put, List.setIfInBounds_toArray, List.set_cons_zero, List.set_cons_succ]
    refine wpAnyH_take (i := 9) (oi := { dst := some 119, op := Op.slice 26 (Operand.tmp 116) (some (Operand.tmp 118)) none none, type := 26, pos := "law.go:155", after := #[{ on := 6, ground := Ground.data }, { on := 8, ground := Ground.data }], guard := none }) (v := ?_) rfl (by kernel_rfl) (by kernel_rfl) (by kernel_rfl) (fun _ _ _ h => h) (Or.inl ⟨by rfl, ?_⟩) (by assumption) ?_
    rotate_left
    · intro w hSw; (try dsimp only at hSw); go_simp <;> with_reducible rfl
    simp only [Act.put, List.setIfInBounds_toArray, List.set_cons_zero, List.set_cons_succ]
    refine wpAnyH_ready (rs := [1]) (by kernel_rfl) (by simp) ?_
    refine AllReadyH.cons (o := { dst := some 111, op := Op.call { callee := Callee.value (Operand.func 9), args := #[Operand.tmp 110], argTypes := #[25] }, type := 25, pos := "law.go:155", after := #[{ on := 0, ground := Ground.data }], guard := none }) rfl (fun K hK => ?_) AllReadyH.nil
    go_simp
    refine (KT.out _ hd.out).mono ?_; intro e w8 hC; obtain ⟨p1, q1, p2, q2, P5, P6, rfl, hF5, hb⟩ := CopR.open hC; have hfl := hide' (fun V (hV : Below w8.heap.size w8 V) => (hF5.over hV).fl); have B8 := hide' (hd.out.trans (hb.mono hd.out.size)); clear hb hC hF5; (try dsimp only)
    refine hK.out _ _ ?_ (fun hHeld => ?_)
    · exact hS.out _ B8.out
    clear hK K
    try simp only [Act.put, List.setIfInBounds_toArray, List.set_cons_zero, List.set_cons_succ]
    refine wpAnyH_ready (rs := [5]) (by kernel_rfl) (by simp) ?_
    refine AllReadyH.cons (o := { dst := some 115, op := Op.call { callee := Callee.value (Operand.func 38), args := #[Operand.tmp 114], argTypes := #[26] }, type := 26, pos := "law.go:155", after := #[{ on := 4, ground := Ground.data }, { on := 1, ground := Ground.chain }], guard := none }) rfl (fun K hK => ?_) AllReadyH.nil
    go_simp
    refine (KF.out _ B8.out).mono ?_; rintro e w9 ⟨v9, rfl, ho, hb⟩; obtain ⟨o9, c9, rfl⟩ := own_shp ho; have ho9 := hide' ho; have hz9 := hb.size; have b9 := hide' hb; have B9 := hide' (B8.out.trans (hb.mono B8.out.size)); clear ho hb; (try dsimp only)
    refine hK.out _ _ ?_ (fun hHeld => ?_)
    · exact hS.out _ B9.out
    clear hK K
    try simp only [Act.put, List.setIfInBounds_toArray, List.set_cons_zero, List.set_cons_succ]
    refine wpAnyH_ready (rs := [10]) (by kernel_rfl) (by simp) ?_
    refine AllReadyH.cons (o := { dst := some 120, op := Op.call { callee := Callee.builtin Builtin.append, args := #[Operand.tmp 115, Operand.tmp 119], argTypes := #[26, 26] }, type := 26, pos := "law.go:155", after := #[{ on := 5, ground := Ground.data }, { on := 9, ground := Ground.data }, { on := 5, ground := Ground.chain }], guard := none }) rfl (fun K hK => ?_) AllReadyH.nil
    rw [if_pos (by rfl)]
    refine appEw (.tmp 115) (.tmp 119) rfl w8.heap.size w9 (.slice o9 M1.length c9) M1.length (cellsEv M1) ad cb' M2 (by rfl) (by rfl) ho9.out (hgb'.out _ B9.out) hz9 (by omega) ?_; intro oa10 c10 w10 hown hgr; rw [← cellsEv_app, ← List.length_append] at hown; rw [← List.length_append]; have hb := (Below.refl w8.heap.size w9).grown hgr hz9 (fun _ e => own_ge' ho9.out e); have B10 := hide' (B9.out.trans (hb.mono B8.out.size)); have b8 := hide' (b9.out.trans hb); have hev := hide' (EvQ.of_owns hown); have hlm : (M1 ++ M2).length ≤ 1000 := (by rw [List.length_append]; omega); generalize M1 ++ M2 = M3 at *; clear hown hgr hb; (try dsimp only)
    refine hK.out _ _ ?_ (fun hHeld => ?_)
    · exact hS.out _ B10.out
    clear hK K
    try simp only [Act.put, List.setIfInBounds_toArray, List.set_cons_zero, List.set_cons_succ]
    refine wpAnyH_ready (rs := [11]) (by kernel_rfl) (by simp) ?_
    refine AllReadyH.cons (o := { dst := some 121, op := Op.call { callee := Callee.value (Operand.func 11), args := #[Operand.tmp 111, Operand.tmp 120], argTypes := #[25, 26] }, type := 31, pos := "law.go:155", after := #[{ on := 1, ground := Ground.data }, { on := 10, ground := Ground.data }, { on := 10, ground := Ground.chain }], guard := none }) rfl (fun K hK => ?_) AllReadyH.nil
    go_simp
    refine (KR.out _ _ _ _ (hSw.out _ B10.out) (hfl.out _ b8.out) hev.out hlm).mono ?_; intro e w11 hR; obtain ⟨rfl, hb⟩ := hRP.out _ _ _ hR; have B11 := hide' (B10.out.trans (hb.mono B10.out.size)); clear hb hR; (try dsimp only)
    refine hK.out _ _ ?_ (fun hHeld => ?_)
    · exact hS.out _ B11.out
    clear hK K
    try simp only [Act.put, List.setIfInBounds_toArray, List.set_cons_zero, List.set_cons_succ]
    refine wpAnyH_take (i := 12) (oi := { dst := some 109, op := Op.move (Operand.tmp 121), type := 31, pos := "law.go:155", after := #[{ on := 11, ground := Ground.data }], guard := none }) (v := ?_) rfl (by kernel_rfl) (by kernel_rfl) (by kernel_rfl) (fun _ _ _ h => h) (Or.inl ⟨by rfl, ?_⟩) (by assumption) ?_
    rotate_left
    · intro w hSw; (try dsimp only at hSw); go_simp <;> with_reducible rfl
    simp only [Act.put, List.setIfInBounds_toArray, List.set_cons_zero, List.set_cons_succ]
    refine wpAnyH_take (i := 13) (oi := { dst := some 122, op := Op.extract (Operand.tmp 109) 0, type := 29, pos := "law.go:155", after := #[{ on := 12, ground := Ground.data }], guard := none }) (v := ?_) rfl (by kernel_rfl) (by kernel_rfl) (by kernel_rfl) (fun _ _ _ h => h) (Or.inl ⟨by rfl, ?_⟩) (by assumption) ?_
    rotate_left
    · intro w hSw; (try dsimp only at hSw); go_simp <;> with_reducible rfl
    simp only [Act.put, List.setIfInBounds_toArray, List.set_cons_zero, List.set_cons_succ]
    refine wpAnyH_take (i := 14) (oi := { dst := some 123, op := Op.extract (Operand.tmp 109) 1, type := 30, pos := "law.go:155", after := #[{ on := 12, ground := Ground.data }, { on := 15, ground := Ground.gcOnly Departure.lateStores }], guard := none }) (v := ?_) rfl (by kernel_rfl) (by kernel_rfl) (by kernel_rfl) (fun _ _ _ h => h) (Or.inl ⟨by rfl, ?_⟩) (by assumption) ?_
    rotate_left
    · intro w hSw; (try dsimp only at hSw); go_simp <;> with_reducible rfl
    simp only [Act.put, List.setIfInBounds_toArray, List.set_cons_zero, List.set_cons_succ]
    refine wpAnyH_take (i := 15) (oi := { dst := some 16, op := Op.assign (Operand.tmp 122), type := 29, pos := "law.go:155", after := #[{ on := 13, ground := Ground.data }, { on := 11, ground := Ground.chain }, { on := 0, ground := Ground.phase }, { on := 1, ground := Ground.phase }, { on := 2, ground := Ground.phase }, { on := 3, ground := Ground.phase }, { on := 4, ground := Ground.phase }, { on := 5, ground := Ground.phase }, { on := 6, ground := Ground.phase }, { on := 7, ground := Ground.phase }, { on := 8, ground := Ground.phase }, { on := 9, ground := Ground.phase }, { on := 10, ground := Ground.phase }, { on := 11, ground := Ground.phase }, { on := 12, ground := Ground.phase }, { on := 13, ground := Ground.phase }, { on := 14, ground := Ground.textOnly Departure.lateStores }], guard := none }) (v := ?_) rfl (by kernel_rfl) (by kernel_rfl) (by kernel_rfl) (fun _ _ _ h => h) (Or.inl ⟨by rfl, ?_⟩) (by assumption) ?_
    rotate_left
    · intro w hSw; (try dsimp only at hSw); go_simp <;> with_reducible rfl
    simp only [Act.put, List.setIfInBounds_toArray, List.set_cons_zero, List.set_cons_succ]
    refine wpAnyH_take (i := 16) (oi := { dst := some 17, op := Op.assign (Operand.tmp 123), type := 30, pos := "law.go:155", after := #[{ on := 14, ground := Ground.data }, { on := 15, ground := Ground.chain }, { on := 0, ground := Ground.phase }, { on := 1, ground := Ground.phase }, { on := 2, ground := Ground.phase }, { on := 3, ground := Ground.phase }, { on := 4, ground := Ground.phase }, { on := 5, ground := Ground.phase }, { on := 6, ground := Ground.phase }, { on := 7, ground := Ground.phase }, { on := 8, ground := Ground.phase }, { on := 9, ground := Ground.phase }, { on := 10, ground := Ground.phase }, { on := 11, ground := Ground.phase }, { on := 12, ground := Ground.phase }, { on := 13, ground := Ground.phase }, { on := 14, ground := Ground.phase }, { on := 15, ground := Ground.phase }], guard := none }) (v := ?_) rfl (by kernel_rfl) (by kernel_rfl) (by kernel_rfl) (fun _ _ _ h => h) (Or.inl ⟨by rfl, ?_⟩) (by assumption) ?_
    rotate_left
    · intro w hSw; (try dsimp only at hSw); go_simp <;> with_reducible rfl
    simp only [Act.put, List.setIfInBounds_toArray, List.set_cons_zero, List.set_cons_succ]
    refine wpAnyH_done (by kernel_rfl) ?_ _
    skip
    have hFn := hide' (hSw.out _ B11.out)
    go_wp2
    go_ret
    exact ⟨rfl, hFn.out⟩
end Go.Proofs.YtahfobbiaimoiaaGreatDoor
