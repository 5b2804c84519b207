/- GateWay, walked. -/
import Derived.Test.YtnfebegmgeanhaaDoorJ02
import Derived.Test.YtnfebegmgeanhaaDoorJ35
namespace Go.Proofs.YtnfebegmgeanhaaDoor.S
open Go.RowKit Go.Shelf
set_option maxRecDepth 100000 in
set_option maxHeartbeats 4000000 in
theorem gateWay_walk (P : Pb) (wv fv rv : Value) (TL : List Int) (tv : Value) (w : World) (h : PbV w P wv fv rv) (hT : RowI w tv TL) (hb : ∀ z ∈ P.who, z < 18446744073709551616) (ht : M.Tab w) :
    Calls Tryd.prog 3 #[pbV P wv fv rv, tv] w fun e w' => e = .returned (.bool true) ∧ Below w.heap.size w w' := by
  have hB0 : Hid (Below w.heap.size w (w.alloc (.cells #[.int .i64 P.users, wv, fv, rv] 26))) := (Below.refl _ w).alloc (Nat.le_refl _) _
  have K0 := hide' (cutC P wv fv rv _ (h.below hB0.out))
  have hk := hide' (cutP_ok hb)
  have ht' := hide' ht
  have hGw := ht.2
  have hT' := hide' hT
  obtain ⟨ot, ct, rfl, _⟩ := hT
  have hQb : Hid (∀ V (a b c : Value), PbV V (cutP P) a b c → Calls Tryd.prog 4 #[pbV (cutP P) a b c] V fun e w' => ∃ va vb vc, e = .returned (pbV (cutP P) va vb vc) ∧ Hid (PbV w' (cutP P) va vb vc) ∧ Hid (Below V.heap.size V w') ∧ Hid (∀ ad n c, va = .slice (some ad) n c → V.heap.size ≤ ad.block ∧ ad.block < w'.heap.size)) := fun V a b c hq => cutD P a b c V hq
  clear h ht hb
  unfold pbV at K0 hQb ⊢
  generalize cutP P = Q at *
  go_enter Tryd.func3, Tryd.ntmps3
  go_wp2_with fail
  refine K0.out.mono ?_
  rintro e w1 ⟨qw, qf, qr, rfl, hq1, hb1, ho1⟩
  have hB1 : Hid (Below w.heap.size w w1) := hB0.out.trans (hb1.out.mono hB0.out.size)
  obtain ⟨ow, cw, of, cf, or, cr, rfl, rfl, rfl⟩ := hq1.out.shape
  have hs0 := hB0.out.size
  have hB1' : Hid (Below w1.heap.size w1 (w1.alloc (.cells #[.int .i64 Q.users, .slice ow Q.who.length cw, .slice of Q.fixed.length cf, .slice or Q.rules.length cr] 26))) := (Below.refl _ w1).alloc (Nat.le_refl _) _
  have hP1 : Hid (PbB (w1.alloc (.cells #[.int .i64 Q.users, .slice ow Q.who.length cw, .slice of Q.fixed.length cf, .slice or Q.rules.length cr] 26)) w1.heap.size Q (.slice ow Q.who.length cw) (.slice of Q.fixed.length cf) (.slice or Q.rules.length cr)) := heap_new w1 _
  have KN := hide' (newG (w1.alloc (.cells #[.int .i64 Q.users, .slice ow Q.who.length cw, .slice of Q.fixed.length cf, .slice or Q.rules.length cr] 26)))
  clear hb1 hB0 K0
  go_wp2_with fail
  refine KN.out.mono ?_
  generalize (w1.alloc (.cells #[.int .i64 Q.users, .slice ow Q.who.length cw, .slice of Q.fixed.length cf, .slice or Q.rules.length cr] 26)) = W1 at *
  rintro e w2 ⟨gg, gm, gs, rfl, hA2, hne, hb2⟩
  have hz1 := hB1.out.size
  have hz1' : w1.heap.size < W1.heap.size := (Array.getElem?_eq_some_iff.1 hP1.out).1
  have hB2 : Hid (Below w.heap.size w W1) := hB1.out.trans (hB1'.out.mono hB1.out.size)
  have hW2 : Hid (Wg w Q (.slice ow Q.who.length cw) (.slice of Q.fixed.length cf) (.slice or Q.rules.length cr) w1.heap.size gs (.slice ot TL.length ct) TL w2) := ⟨hP1.out.below hb2.out, (hq1.out.below hB1'.out).below hb2.out, (hT'.out.below hB2.out (Nat.le_refl _)).below hb2.out (Nat.le_refl _), (ht'.out.over hB2.out).over hb2.out, hB2.out.trans (hb2.out.mono hB2.out.size), fun ad n c e => by have := (ho1.out ad n c e).2; have := hne.out; omega, by have := hne.out; omega⟩
  have hge : Hid (w.heap.size ≤ gs ∧ w.heap.size ≤ gm ∧ gg ≠ gs ∧ 1 ≤ gs) := by have := hne.out; exact ⟨by omega, by omega, by omega, by omega⟩
  have KW := hide' (wakesG w2 hW2.out.tab)
  generalize w1.heap.size = g at *
  clear KN hP1 hq1 ho1 hB1 hB1' hB2 hb2 hs0 ht' hT' hne hz1 hz1'
  go_wp2_with fail
  refine KW.out.mono ?_
  rintro e w3 ⟨rfl, hb3⟩
  have hW3 := hide' (hW2.out.over hb3)
  have hA3 := hide' (hA2.out.below hb3)
  have KC := hide' (hQb.out w3 _ _ _ hW3.out.pv)
  clear KW hW2 hA2 hb3
  have q := hW3.out.pb.all
  go_wp2_with fail
  refine KC.out.mono ?_
  rintro e w4 ⟨va, vb, vc, rfl, hq4, hb4, ho4⟩
  have hW4 := hide' (hW3.out.over hb4.out)
  have hA4 := hide' (hA3.out.below hb4.out)
  have KO : Hid (Calls Tryd.prog 7 #[.pointer (some ⟨gg, 0, none⟩), .int .i64 5, .agg #[.int .i64 Q.users, va, vb, vc]] w4 (OpP w4 Q 5 gg gm gs 0 0 0 0)) := openG Q va vb vc 5 gg gm gs 0 0 0 0 w4 hq4.out hk.out (by decide) hA4.out (by decide) hge.out.2.2.1 hge.out.2.2.2 hW4.out.tab (by decide) (by decide) (by decide)
  clear KC hW3 hA3 q ho4
  go_wp2_with fail
  refine KO.out.mono ?_
  rintro e w5 (⟨h, rfl, hb5⟩ | ⟨can, pl, wv5, fv5, rv5, a5, b5, c5, rfl, hE5, hg5, hF5⟩)
  · have hr : Hid (Below w.heap.size w w5) := hW4.out.be.trans (hb5.out.mono hW4.out.be.size)
    have hne : ((chkN Q : Int) != 0) = true := by rw [bne_iff_ne]; omega
    clear KO hW4 hA4 hb5 hQb
    go_wp2
    go_ret
    exact ⟨rfl, hr.out⟩
  have hW5 := hide' (hW4.out.fr hA4.out hF5.out hge.out.1 hge.out.2.1 (by have := hge.out; omega))
  have hl5 := hide' (hg5.out.le (by decide))
  clear KO hW4 hA4 hF5 hg5 hb4 hq4
  cases can with
  | false =>
    clear hQb
    go_wp2
    go_ret
    exact ⟨rfl, hW5.out.be⟩
  | true =>
    have KP : Hid (Calls Tryd.prog 8 #[.pointer (some ⟨gg, 0, none⟩), .int .i64 5] w5 (PlG w5 Q 5 gg gm gs a5 b5 c5 (0 + 1) wv5 fv5 rv5)) := planG Q wv5 fv5 rv5 pl 5 gg gm gs a5 b5 c5 _ w5 (by decide) hE5.out (by decide) hge.out.2.2.1 hge.out.2.2.2 hW5.out.tab (by have := hl5.out; omega) (by have := hl5.out; omega) (by have := hl5.out; omega)
    go_wp2_with fail
    refine KP.out.mono ?_
    rintro e w6 ⟨v, l, pl6, a6, b6, c6, rfl, hls, ho6, hE6, hg6, hF6⟩
    obtain ⟨ov, cv, rfl⟩ := own_shp ho6.out
    have hlw := (holP_of hls.out.1).2.1
    have hlf := (hol_len hls.out.1).1
    have hl12 := (hol_len hls.out.1).2
    have hbn : ((l.length : Int) != (Q.who.length : Int)) = false := by rw [hlw]; simp
    have hW6 := hide' (hW5.out.fr hE5.out.at' hF6.out hge.out.1 hge.out.2.1 (by have := hge.out; omega))
    have hl6 : Hid (a6 ≤ 4000000000000 ∧ b6 ≤ 4000000000000 ∧ c6 ≤ 4000000000000) := by have h1 := hl5.out; have h2 := hg6.out.le (by decide); exact ⟨by omega, by omega, by omega⟩
    have hR6 : Hid (RowI w6 (.slice ov l.length cv) l) := RowI.of_owns ho6.out
    have hvg : Hid (∀ ad n c, Value.slice ov l.length cv = .slice (some ad) n c → w.heap.size ≤ ad.block) := fun ad n c e => by have := own_ge' ho6.out (g := ad.block) (by rw [e]; rfl); have := hW5.out.be.size; omega
    have hlw' := hide' hlw
    have hlf' := hide' hlf
    have hl12' := hide' hl12
    clear KP hE5 hW5 hl5 hF6 hg6 ho6 hlw hlf hl12
    have q := hW6.out.pb.all
    go_upto_block 0 with fail
    go_cut [11, 12] from 58 to 72 (fun d _ wx => d = .int .i64 ((cntF Q.fixed : Nat) : Int) ∧ Hid (wx = w6))
    case first => as_aux_lemma =>
      go_wp2
      go_loopw [11, 12] (fun d k wr => ∃ i : Nat, i ≤ Q.fixed.length ∧ k = .int .i64 (i : Int) ∧ d = .int .i64 ((cntF (Q.fixed.take i) : Nat) : Int) ∧ Hid (wr = w6)) (fun _ k _ => ((Q.fixed.length : Int) - intOf k).toNat)
      case atStart => exact ⟨0, Nat.zero_le _, rfl, rfl, rfl⟩
      case round =>
        obtain ⟨i, hi, rfl, rfl, hwr⟩ := hrel
        have hwr' := hwr.out
        subst hwr'
        clear hwr
        have hc12 : cntF (Q.fixed.take i) ≤ 12 := by have := cntF_le (Q.fixed.take i); have := hlf'.out; have := hl12'.out; rw [List.length_take] at *; omega
        have hi12 : i ≤ 12 := by have := hlf'.out; have := hl12'.out; omega
        by_cases hlt : i < Q.fixed.length
        · obtain ⟨x, e1, _, _⟩ := fixed_val hls.out.1 (i := i) (by have := hlf'.out; omega)
          have ht := cntF_take e1
          obtain ⟨gf, o, rfl, cx⟩ : ∃ gf o, of = some ⟨gf, o, none⟩ ∧ wr.cell? ⟨gf, o + i, none⟩ = some (.int .i64 x) := by
            obtain ⟨of2, cf2, e, _, hc⟩ := hW6.out.pv.fixed
            injection e with e' _ _
            obtain ⟨g1, o1, e2, e3⟩ := hc i x e1
            exact ⟨g1, o1, e'.trans e2, e3⟩
          have hlt' : (i : Int) < (Q.fixed.length : Int) := by omega
          have hi0 : ¬ (i : Int) < 0 := by omega
          generalize cntF (Q.fixed.take i) = c at *
          clear hQb hW6 hE6 hls hR6 hvg hge hl6 e1
          by_cases hx0 : 0 ≤ x
          · rw [if_pos hx0] at ht
            have ht' := hide' ht
            clear ht
            go_wp2
            exact ⟨⟨i + 1, by omega, by go_num, by rw [ht'.out]; go_num, True.intro⟩, by simp [intOf]; omega⟩
          · rw [if_neg hx0, Nat.add_zero] at ht
            have ht' := hide' ht
            clear ht
            go_wp2
            exact ⟨⟨i + 1, by omega, by go_num, by simp [ht'.out], True.intro⟩, by simp [intOf]; omega⟩
        · obtain rfl : i = Q.fixed.length := by omega
          rw [List.take_length]
          have hlt' : ¬ (Q.fixed.length : Int) < (Q.fixed.length : Int) := by omega
          clear hQb hW6 hE6 hls hR6 hvg hge hl6
          go_wp2
          go_meet
          exact ⟨rfl, rfl⟩
    case rest =>
    obtain ⟨rfl, hwx⟩ := hcut
    have hwx' := hwx.out
    subst hwx'
    clear hwx
    have infoB : (Tryd.prog.info? 4).map (fun i => (i.zero, i.size, i.bytes)) = some (some (.bool false), 1, 1) := by kernel_rfl
    obtain ⟨i0, hi, hz0, hz1, hz2⟩ := info_parts infoB
    clear infoB
    have hl12 := hl12'.out
    go_upto_block 2 with (at_make; refine wpList_make_full _ rfl _ _ 36 rfl wc.heap.size 4 i0 (.bool false) 1 Tryd.underlying36 hi hz0 hz1 .i64 .i64 _ _ l.length rfl rfl rfl rfl (by rw [hz2]; omega) (by unfold maxLen; omega) (by simp) ?_; intro w7 hrow hgrow; have hB7 : Below wc.heap.size wc w7 := (Below.refl _ wc).grown hgrow (Nat.le_refl _) (fun j ej => by cases ej))
    have hT0 : RwT w7 wc.heap.size wc.heap.size (List.replicate l.length false) := by
      have h := hrow
      rw [show (Value.bool false).cells = #[.bool false] from rfl, toList_madeCells_one, Nat.mul_one] at h
      unfold RwT cellsT
      rw [List.map_replicate, List.length_replicate]
      exact h
    have hl0 : Hid (Wl w Q (.slice ow Q.who.length cw) (.slice of Q.fixed.length cf) (.slice or Q.rules.length cr) g gs (.slice ot TL.length ct) TL gg gm Q (.slice ov l.length cv) l wc.heap.size wc.heap.size (List.replicate l.length false) 2 w7) := by
      have h1 := hl6.out
      have h2 := hge.out
      have h3 := hE6.out.at'.lt
      exact ⟨hW6.out.over hB7, ⟨wv5, fv5, rv5, pl6, a6, b6, c6, _, hE6.out.below hB7, by omega, by omega, by omega, by omega⟩, hR6.out.below hB7 (Nat.le_refl _), hT0, ⟨h3.2.2, h3.2.1⟩, ⟨hW6.out.be.size, hGw, h2.1, h2.2.1, h2.2.2.1⟩⟩
    have hy0 : Hid (WyI Q Q l (List.replicate l.length false) (cntF Q.fixed) 0) := WyI.start hls.out.1
    clear hrow hgrow hB7 hi hz0 hz1 hz2 hl12 hT0 hE6 hW6 hR6 hl6 q
    go_cut [11, 14, 15, 16, 17] from 76 to 141 (fun d _ _ _ _ wx => d = .int .i64 (l.length : Int) ∧ ∃ P T, P.fixed = l ∧ Hid (Wl w Q (.slice ow Q.who.length cw) (.slice of Q.fixed.length cf) (.slice or Q.rules.length cr) g gs (.slice ot TL.length ct) TL gg gm P (.slice ov l.length cv) l wc.heap.size wc.heap.size T 300 wx))
    case first => as_aux_lemma =>
      go_wp2
      go_loopw [11, 14, 15, 16, 17] (fun d k _ _ _ wr => ∃ (kk dd : Nat) (P : Pb) (T : List Bool), kk ≤ 200 ∧ k = .int .i64 (kk : Int) ∧ d = .int .i64 (dd : Int) ∧ Hid (WyI Q P l T dd kk) ∧ Hid (Wl w Q (.slice ow Q.who.length cw) (.slice of Q.fixed.length cf) (.slice or Q.rules.length cr) g gs (.slice ot TL.length ct) TL gg gm P (.slice ov l.length cv) l wc.heap.size wc.heap.size T (kk + 2) wr)) (fun _ k _ _ _ _ => ((200 : Int) - intOf k).toNat)
      case atStart => exact ⟨0, cntF Q.fixed, Q, _, by omega, rfl, rfl, hy0, hl0⟩
      case round =>
        obtain ⟨kk, dd, P, T, hkk, rfl, rfl, hWy, hWl⟩ := hrel
        clear hl0 hy0
        by_cases hend : 200 ≤ kk ∨ l.length ≤ dd
        · obtain ⟨hd, hPf⟩ := hWy.out.full hend
          have hl9 := hide' (hWl.out.up (show kk + 2 ≤ 300 by omega))
          have hd' : ¬ (dd : Int) < (l.length : Int) := by omega
          have hd2 := hide' hd
          clear hQb hls hvg hge hWy hWl hd
          by_cases h2 : kk < 200
          · have h2' : (kk : Int) < 200 := by omega
            go_wp2
            go_meet
            exact ⟨by rw [hd2.out], P, T, hPf, hl9⟩
          · have h2' : ¬ (kk : Int) < 200 := by omega
            go_wp2
            go_meet
            exact ⟨by rw [hd2.out], P, T, hPf, hl9⟩
        · have h200 : (kk : Int) < 200 := by omega
          have hdl : (dd : Int) < (l.length : Int) := by omega
          have hn1 : 1 ≤ l.length := by omega
          have hn64 : l.length ≤ 64 := by have := hl12'.out; omega
          have hnz : ¬ (l.length : Int) = 0 := by omega
          by_cases htn : kk < TL.length ∧ kk < 100
          · have ht1 : (kk : Int) < (TL.length : Int) := by omega
            have ht2 : (kk : Int) < 100 := by omega
            have hk0 : ¬ (kk : Int) < 0 := by omega
            obtain ⟨x, hx⟩ : ∃ x, TL[kk]? = some x := ⟨_, List.getElem?_eq_getElem htn.1⟩
            obtain ⟨gt, o, rfl, cx⟩ : ∃ gt o, ot = some ⟨gt, o, none⟩ ∧ wr.cell? ⟨gt, o + kk, none⟩ = some (.int .i64 x) := by
              obtain ⟨ot2, ct2, e, _, hc⟩ := hWl.out.wg.tn
              injection e with e' _ _
              obtain ⟨g1, o1, e2, e3⟩ := hc kk x hx
              exact ⟨g1, o1, e'.trans e2, e3⟩
            obtain ⟨j, hj1, hj⟩ := turnW_u x hn1 hn64
            have hj1' := hide' hj1
            have hjk' : Hid (100 ≤ kk → j = kk % l.length) := fun q => by omega
            clear hj1 hx
            clear hQb
            go_upto_region 25 with fail
            rw [hj1'.out]
            have hj0 : ¬ (j : Int) < 0 := by omega
            have hjn : (j : Int) < (l.length : Int) := by omega
            have hjf : (j : Int) < (Q.fixed.length : Int) := by have := hlf'.out; omega
            obtain ⟨y, ey, ey2, _⟩ := fixed_val hls.out.1 (i := j) hj
            obtain ⟨u, eu⟩ : ∃ u, T[j]? = some u := ⟨_, List.getElem?_eq_getElem (by rw [hWy.out.tl]; exact hj)⟩
            have cT := hWl.out.tr.at eu
            have hsk : Hid ((T.getD j false || decide (0 ≤ Q.fixed.getD j 0)) = (u || decide (0 ≤ y))) := by show _ = _; rw [ey2, List.getD_eq_getElem?_getD, eu]; rfl
            obtain ⟨gf, o2, rfl, cy⟩ : ∃ gf o, of = some ⟨gf, o, none⟩ ∧ wr.cell? ⟨gf, o + j, none⟩ = some (.int .i64 y) := by
              obtain ⟨of2, cf2, e, _, hc⟩ := hWl.out.wg.pv.fixed
              injection e with e' _ _
              obtain ⟨g1, o1, e2, e3⟩ := hc j y ey
              exact ⟨g1, o1, e'.trans e2, e3⟩
            have q := hWl.out.wg.pb.all
            have hm2 := hide' (hWl.out.up (show kk + 2 ≤ kk + 1 + 2 by omega))
            cases u with
            | true =>
              have hs := hide' (hWy.out.skip hj hjk'.out hsk.out)
              clear hWy hWl hsk eu ey hls hvg hge
              go_wp2
              exact ⟨⟨kk + 1, dd, P, T, by omega, by go_num, rfl, hs, hm2⟩, by simp [intOf]; omega⟩
            | false =>
              by_cases hy : 0 ≤ y
              · have hs := hide' (hWy.out.skip hj hjk'.out (by rw [hsk.out, decide_eq_true hy]; rfl))
                clear hWy hWl hsk eu ey hls hvg hge
                go_wp2
                exact ⟨⟨kk + 1, dd, P, T, by omega, by go_num, rfl, hs, hm2⟩, by simp [intOf]; omega⟩
              · obtain ⟨x2, hx2, hx64⟩ := plan_nat hWy.out.hol hj
                have hop := hWy.out.open hj (by rw [hsk.out, decide_eq_false hy]; rfl)
                have hs := hide' (hWy.out.tick hj hjk'.out hx2 hop)
                have KT := hide' (hWl.out.go (by omega) hWy.out.hol hx2 hop)
                obtain ⟨gl, o3, rfl, cl⟩ : ∃ gl o, ov = some ⟨gl, o, none⟩ ∧ wr.cell? ⟨gl, o + j, none⟩ = some (.int .i64 (x2 : Int)) := by
                  obtain ⟨ov2, cv2, e, _, hc⟩ := hWl.out.rl
                  injection e with e' _ _
                  obtain ⟨g1, o1, e2, e3⟩ := hc j _ hx2
                  exact ⟨g1, o1, e'.trans e2, e3⟩
                clear hWy hWl hsk ey hls hvg hge hop hm2 hx2
                go_wp2_with fail
                refine KT.out.mono ?_
                rintro e w8 ⟨rfl, hl8⟩
                have cT8 := hl8.out.tr.at eu
                have fT8 := hl8.out.tr.frz j
                have hl9 := hide' ((hl8.out.set j true).up (show kk + 2 + 1 ≤ kk + 1 + 2 by omega))
                have hjT : (j : Int) < (T.length : Int) := by have := (List.getElem?_eq_some_iff.1 eu).1; omega
                have hTl : Hid (dd ≤ 12) := by have := hl12'.out; show _ ≤ _; omega
                have hTl' := hTl.out
                clear KT hl8 eu cT cy cl q
                go_wp2
                exact ⟨⟨kk + 1, dd + 1, _, _, by omega, by go_num, by go_num, hs, hl9⟩, by simp [intOf]; omega⟩
          · obtain ⟨j, hje⟩ : ∃ j, j = kk % l.length := ⟨_, rfl⟩
            have hj : j < l.length := by rw [hje]; exact Nat.mod_lt _ (by omega)
            have hj1 := turnW_k kk hn1 hn64
            rw [← hje, show ((kk : Int)).tmod (l.length : Int) = (kk : Int) % (l.length : Int) from Int.tmod_eq_emod_of_nonneg (by omega)] at hj1
            have hj1' := hide' hj1
            clear hj1
            have hjk' : Hid (100 ≤ kk → j = kk % l.length) := fun _ => hje
            clear hje
            by_cases ht1 : (kk : Int) < (TL.length : Int)
            · have ht2 : ¬ (kk : Int) < 100 := by omega
              clear hQb
              go_upto_region 25 with fail
              rw [hj1'.out]
              have hj0 : ¬ (j : Int) < 0 := by omega
              have hjn : (j : Int) < (l.length : Int) := by omega
              have hjf : (j : Int) < (Q.fixed.length : Int) := by have := hlf'.out; omega
              obtain ⟨y, ey, ey2, _⟩ := fixed_val hls.out.1 (i := j) hj
              obtain ⟨u, eu⟩ : ∃ u, T[j]? = some u := ⟨_, List.getElem?_eq_getElem (by rw [hWy.out.tl]; exact hj)⟩
              have cT := hWl.out.tr.at eu
              have hsk : Hid ((T.getD j false || decide (0 ≤ Q.fixed.getD j 0)) = (u || decide (0 ≤ y))) := by show _ = _; rw [ey2, List.getD_eq_getElem?_getD, eu]; rfl
              obtain ⟨gf, o2, rfl, cy⟩ : ∃ gf o, of = some ⟨gf, o, none⟩ ∧ wr.cell? ⟨gf, o + j, none⟩ = some (.int .i64 y) := by
                obtain ⟨of2, cf2, e, _, hc⟩ := hWl.out.wg.pv.fixed
                injection e with e' _ _
                obtain ⟨g1, o1, e2, e3⟩ := hc j y ey
                exact ⟨g1, o1, e'.trans e2, e3⟩
              have q := hWl.out.wg.pb.all
              have hm2 := hide' (hWl.out.up (show kk + 2 ≤ kk + 1 + 2 by omega))
              cases u with
              | true =>
                have hs := hide' (hWy.out.skip hj hjk'.out hsk.out)
                clear hWy hWl hsk eu ey hls hvg hge
                go_wp2
                exact ⟨⟨kk + 1, dd, P, T, by omega, by go_num, rfl, hs, hm2⟩, by simp [intOf]; omega⟩
              | false =>
                by_cases hy : 0 ≤ y
                · have hs := hide' (hWy.out.skip hj hjk'.out (by rw [hsk.out, decide_eq_true hy]; rfl))
                  clear hWy hWl hsk eu ey hls hvg hge
                  go_wp2
                  exact ⟨⟨kk + 1, dd, P, T, by omega, by go_num, rfl, hs, hm2⟩, by simp [intOf]; omega⟩
                · obtain ⟨x2, hx2, hx64⟩ := plan_nat hWy.out.hol hj
                  have hop := hWy.out.open hj (by rw [hsk.out, decide_eq_false hy]; rfl)
                  have hs := hide' (hWy.out.tick hj hjk'.out hx2 hop)
                  have KT := hide' (hWl.out.go (by omega) hWy.out.hol hx2 hop)
                  obtain ⟨gl, o3, rfl, cl⟩ : ∃ gl o, ov = some ⟨gl, o, none⟩ ∧ wr.cell? ⟨gl, o + j, none⟩ = some (.int .i64 (x2 : Int)) := by
                    obtain ⟨ov2, cv2, e, _, hc⟩ := hWl.out.rl
                    injection e with e' _ _
                    obtain ⟨g1, o1, e2, e3⟩ := hc j _ hx2
                    exact ⟨g1, o1, e'.trans e2, e3⟩
                  clear hWy hWl hsk ey hls hvg hge hop hm2 hx2
                  go_wp2_with fail
                  refine KT.out.mono ?_
                  rintro e w8 ⟨rfl, hl8⟩
                  have cT8 := hl8.out.tr.at eu
                  have fT8 := hl8.out.tr.frz j
                  have hl9 := hide' ((hl8.out.set j true).up (show kk + 2 + 1 ≤ kk + 1 + 2 by omega))
                  have hjT : (j : Int) < (T.length : Int) := by have := (List.getElem?_eq_some_iff.1 eu).1; omega
                  have hTl : Hid (dd ≤ 12) := by have := hl12'.out; show _ ≤ _; omega
                  have hTl' := hTl.out
                  clear KT hl8 eu cT cy cl q
                  go_wp2
                  exact ⟨⟨kk + 1, dd + 1, _, _, by omega, by go_num, by go_num, hs, hl9⟩, by simp [intOf]; omega⟩
            · skip
              clear hQb
              go_upto_region 25 with fail
              rw [hj1'.out]
              have hj0 : ¬ (j : Int) < 0 := by omega
              have hjn : (j : Int) < (l.length : Int) := by omega
              have hjf : (j : Int) < (Q.fixed.length : Int) := by have := hlf'.out; omega
              obtain ⟨y, ey, ey2, _⟩ := fixed_val hls.out.1 (i := j) hj
              obtain ⟨u, eu⟩ : ∃ u, T[j]? = some u := ⟨_, List.getElem?_eq_getElem (by rw [hWy.out.tl]; exact hj)⟩
              have cT := hWl.out.tr.at eu
              have hsk : Hid ((T.getD j false || decide (0 ≤ Q.fixed.getD j 0)) = (u || decide (0 ≤ y))) := by show _ = _; rw [ey2, List.getD_eq_getElem?_getD, eu]; rfl
              obtain ⟨gf, o2, rfl, cy⟩ : ∃ gf o, of = some ⟨gf, o, none⟩ ∧ wr.cell? ⟨gf, o + j, none⟩ = some (.int .i64 y) := by
                obtain ⟨of2, cf2, e, _, hc⟩ := hWl.out.wg.pv.fixed
                injection e with e' _ _
                obtain ⟨g1, o1, e2, e3⟩ := hc j y ey
                exact ⟨g1, o1, e'.trans e2, e3⟩
              have q := hWl.out.wg.pb.all
              have hm2 := hide' (hWl.out.up (show kk + 2 ≤ kk + 1 + 2 by omega))
              cases u with
              | true =>
                have hs := hide' (hWy.out.skip hj hjk'.out hsk.out)
                clear hWy hWl hsk eu ey hls hvg hge
                go_wp2
                exact ⟨⟨kk + 1, dd, P, T, by omega, by go_num, rfl, hs, hm2⟩, by simp [intOf]; omega⟩
              | false =>
                by_cases hy : 0 ≤ y
                · have hs := hide' (hWy.out.skip hj hjk'.out (by rw [hsk.out, decide_eq_true hy]; rfl))
                  clear hWy hWl hsk eu ey hls hvg hge
                  go_wp2
                  exact ⟨⟨kk + 1, dd, P, T, by omega, by go_num, rfl, hs, hm2⟩, by simp [intOf]; omega⟩
                · obtain ⟨x2, hx2, hx64⟩ := plan_nat hWy.out.hol hj
                  have hop := hWy.out.open hj (by rw [hsk.out, decide_eq_false hy]; rfl)
                  have hs := hide' (hWy.out.tick hj hjk'.out hx2 hop)
                  have KT := hide' (hWl.out.go (by omega) hWy.out.hol hx2 hop)
                  obtain ⟨gl, o3, rfl, cl⟩ : ∃ gl o, ov = some ⟨gl, o, none⟩ ∧ wr.cell? ⟨gl, o + j, none⟩ = some (.int .i64 (x2 : Int)) := by
                    obtain ⟨ov2, cv2, e, _, hc⟩ := hWl.out.rl
                    injection e with e' _ _
                    obtain ⟨g1, o1, e2, e3⟩ := hc j _ hx2
                    exact ⟨g1, o1, e'.trans e2, e3⟩
                  clear hWy hWl hsk ey hls hvg hge hop hm2 hx2
                  go_wp2_with fail
                  refine KT.out.mono ?_
                  rintro e w8 ⟨rfl, hl8⟩
                  have cT8 := hl8.out.tr.at eu
                  have fT8 := hl8.out.tr.frz j
                  have hl9 := hide' ((hl8.out.set j true).up (show kk + 2 + 1 ≤ kk + 1 + 2 by omega))
                  have hjT : (j : Int) < (T.length : Int) := by have := (List.getElem?_eq_some_iff.1 eu).1; omega
                  have hTl : Hid (dd ≤ 12) := by have := hl12'.out; show _ ≤ _; omega
                  have hTl' := hTl.out
                  clear KT hl8 eu cT cy cl q
                  go_wp2
                  exact ⟨⟨kk + 1, dd + 1, _, _, by omega, by go_num, by go_num, hs, hl9⟩, by simp [intOf]; omega⟩
    case rest =>
    obtain ⟨rfl, P9, T9, hP9, hl9⟩ := hcut
    obtain ⟨wv9, fv9, rv9, pl9, a9, b9, c9, n9, hE9, _⟩ := hl9.out.ge
    have KR := hide' (problemG P9 wv9 fv9 rv9 pl9 true 5 gg gm gs a9 b9 c9 n9 wc (by decide) hE9)
    have hll := hl12'.out
    clear hl0 hy0 hE9
    go_wp2_with fail
    refine KR.out.mono ?_
    rintro e w10 ⟨x1, x2, x3, E, rfl, _, r1, r2, r3, hb10⟩
    have r2' := r2.out
    rw [hP9] at r2'
    obtain ⟨p1, t1, rfl⟩ := own_shp r1.out
    obtain ⟨p2, t2, rfl⟩ := own_shp r2'
    obtain ⟨p3, t3, rfl⟩ := own_shp r3.out.row
    have hR10 : Hid (RowI w10 (.slice p2 l.length t2) l) := RowI.of_owns r2'
    have hl10 := hide' (hl9.out.below hb10.out)
    have hB11 : Hid (Below w10.heap.size w10 (w10.alloc (.cells #[.int .i64 P9.users, .slice p1 P9.who.length t1, .slice p2 l.length t2, .slice p3 E.length t3] 26))) := (Below.refl _ w10).alloc (Nat.le_refl _) _
    have hX11 : Hid ((w10.alloc (.cells #[.int .i64 P9.users, .slice p1 P9.who.length t1, .slice p2 l.length t2, .slice p3 E.length t3] 26)).heap[w10.heap.size]? = some (.cells #[.int .i64 P9.users, .slice p1 P9.who.length t1, .slice p2 l.length t2, .slice p3 E.length t3] 26 (0, 0))) := heap_new w10 _
    unfold pbV
    clear KR hb10 hl9 r1 r2 r2' r3
    go_upto_region 32 with fail
    generalize (w10.alloc (.cells #[.int .i64 P9.users, .slice p1 P9.who.length t1, .slice p2 l.length t2, .slice p3 E.length t3] 26)) = W11 at *
    have k2 : W11.cell? ⟨w10.heap.size, 2, none⟩ = some (.slice p2 l.length t2) := by simp [World.cell?, hX11.out]
    have hl11 := hide' (hl10.out.below hB11.out)
    have KI : Hid (Calls Tryd.prog 11 #[.slice p2 l.length t2, .slice ov l.length cv] W11 fun e w' => e = .returned (.bool true) ∧ Below W11.heap.size W11 w') := (keepInts l l (.slice p2 l.length t2) (.slice ov l.length cv) W11 (hR10.out.below hB11.out (Nat.le_refl _)) hl11.out.rl (by omega) (by omega)).mono fun e w' h => ⟨by rw [h.1]; simp, h.2⟩
    go_wp2_with fail
    refine KI.out.mono ?_
    rintro e w12 ⟨rfl, hb12⟩
    have hl12w := hide' (hl11.out.below hb12)
    have KC := hide' (hQb.out w12 _ _ _ hl12w.out.wg.pv)
    have q := hl12w.out.wg.pb.all
    clear KI k2 hl10 hl11 hB11 hX11 hR10 hb12
    go_wp2_with fail
    refine KC.out.mono ?_
    rintro e w13 ⟨va13, vb13, vc13, rfl, hq13, hb13, _⟩
    have hl13 := hide' (hl12w.out.below hb13.out)
    have KH := hide' (holdsPF Q va13 vb13 vc13 l (.slice ov l.length cv) w13 hq13.out hl13.out.rl (by omega) hk.out.w hk.out.f hk.out.r hk.out.s hk.out.b)
    rw [hls.out.1] at KH
    unfold pbV at KH
    clear KC q hb13
    go_wp2_with fail
    refine KH.out.mono ?_
    rintro e w14 ⟨rfl, hb14⟩
    have hr : Hid (Below w.heap.size w w14) := (hl13.out.below hb14).wg.be
    clear KH hl13 hb14 hl12w hQb hls
    go_wp2
    go_ret
    exact ⟨rfl, hr.out⟩
end Go.Proofs.YtnfebegmgeanhaaDoor.S
