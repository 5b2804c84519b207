/- RunOwn: the law's walk. -/
import Derived.Test.YtlipdccfhnnleaaGreatDoorJ28
import Derived.Test.YtlipdccfhnnleaaGreatDoorJ46
import Derived.Deep.CutRange
import Derived.Deep.CutBlock
namespace Go.Proofs.YtlipdccfhnnleaaGreatDoor
open Go.RowKit
set_option maxRecDepth 100000 in
set_option maxHeartbeats 8000000 in
theorem runOwn_walk (F0 : Fw) (v : Value) (L : List Oq) (ov : Value) (w : World) (hv : flV w v F0) (hN : FlN F0) (hL : RowQ w ov L) (ht : O.Tab w) :
    Calls Tryz.prog 5 #[v, ov] w fun e w' => e = .returned (.bool true) ∧ Below w.heap.size w w' := by
  have KT0 : Hid (∀ W, Below w.heap.size w W → Calls Tryz.prog 6 #[v] W (CopR W (cutFw F0))) := fun W hW => twin7F F0 v W (hv.below hW (Nat.le_refl _))
  have hB := flb_cut hN
  have hB' := hide' hB
  have KN : Hid (∀ W x, flV W x (cutFw F0) → Below w.heap.size w W → Calls Tryz.prog 7 #[x, .int .i64 0] W (NewP (cutFw F0) 0 W)) := fun W x hx hW => newRF _ x 0 W hx hB (ht.over hW)
  have KD : Hid (∀ W x, flV W x (cutFw F0) → Calls Tryz.prog 8 #[x, .int .i64 0] W (NewZ (cutFw F0) 0 W)) := fun W x hx => newD _ x 0 W hx hB
  have KF : Hid (∀ W x y, flV W x (cutFw F0) → flV W y (cutFw F0) → Calls Tryz.prog 17 #[x, y] W fun e w' => e = .returned (.bool true) ∧ Below W.heap.size W w') := fun W x y hx hy => keepFlowF _ x y W hx hy hB.sl (fun s hs => by have := (hB.st s hs).1; omega) hB.rl (fun r hr => by have := hB.ru r hr; omega)
  have KW : Hid (∀ W, Below w.heap.size w W → Calls Tryz.prog 9 #[] W fun e w' => e = .returned (.bool true) ∧ Below W.heap.size W w') := fun W hW => wakes17 W (ht.over hW)
  have T : Hid (∀ W, Below w.heap.size w W → O.Tab W) := fun W hW => ht.over hW
  generalize cutFw F0 = F at *
  obtain ⟨sv0, rv0, rfl, hs, hr⟩ := hv
  obtain ⟨oa, cap, rfl⟩ := hs.shape
  obtain ⟨ob, cb, rfl⟩ := hr.shape
  obtain ⟨oq, cq, rfl, hcq, hLc⟩ := hL
  have hLc' := hide' hLc
  clear hs hr hB hN ht hLc
  have B0 : Hid (Below w.heap.size w (w.alloc (.cells #[.string F0.name, .slice oa F0.steps.length cap, .slice ob F0.rules.length cb] 25))) := (Below.refl _ w).alloc (Nat.le_refl _) _
  have X0 := hide' (heap_alloc_new w (.cells #[.string F0.name, .slice oa F0.steps.length cap, .slice ob F0.rules.length cb] 25))
  go_enter Tryz.func5, Tryz.ntmps5
  go_wp2_with fail
  generalize w.alloc (.cells #[.string F0.name, .slice oa F0.steps.length cap, .slice ob F0.rules.length cb] 25) = W0 at *
  refine (KT0.out _ B0.out).mono ?_
  intro e w1 hC1
  obtain ⟨o1, c1, o2, c2, P1, P2, rfl, hF1, hb1⟩ := CopR.open hC1
  have B2 := hide' ((B0.out.trans (hb1.mono B0.out.size)).alloc (Nat.le_trans B0.out.size hb1.size) (.cells #[.string F.name, .slice o1 F.steps.length c1, .slice o2 F.rules.length c2] 25))
  have E2 := hide' (hb1.alloc hb1.size (.cells #[.string F.name, .slice o1 F.steps.length c1, .slice o2 F.rules.length c2] 25))
  have hF2 := hide' (hF1.over ((Below.refl _ w1).alloc (Nat.le_refl _) (.cells #[.string F.name, .slice o1 F.steps.length c1, .slice o2 F.rules.length c2] 25)))
  have D2 := hide' (heap_alloc_new w1 (.cells #[.string F.name, .slice o1 F.steps.length c1, .slice o2 F.rules.length c2] 25))
  obtain ⟨x0, x1, x2⟩ := bx3 ((E2.out.block _ (Array.getElem?_eq_some_iff.1 X0.out).1).trans X0.out)
  clear hC1 hb1 hF1 B0 E2 X0
  go_wp2_with fail
  generalize hbg : w1.heap.size = bg at *
  generalize w1.alloc (.cells #[.string F.name, .slice o1 F.steps.length c1, .slice o2 F.rules.length c2] 25) = W2 at *
  clear hbg x0 x1 x2
  refine (KT0.out _ B2.out).mono ?_
  intro e w3 hC3
  obtain ⟨o3, c3, o4, c4, P3, P4, rfl, hF3, hb3⟩ := CopR.open hC3
  have B4 := hide' ((B2.out.trans (hb3.mono B2.out.size)).alloc (Nat.le_trans B2.out.size hb3.size) (.cells #[.string F.name, .slice o3 F.steps.length c3, .slice o4 F.rules.length c4] 25))
  have E4 := hide' (hb3.alloc hb3.size (.cells #[.string F.name, .slice o3 F.steps.length c3, .slice o4 F.rules.length c4] 25))
  have hG4 := hide' (hF2.out.over E4.out)
  have D4 := hide' ((E4.out.block bg (Array.getElem?_eq_some_iff.1 D2.out).1).trans D2.out)
  have hH4 := hide' (hF3.over ((Below.refl _ w3).alloc (Nat.le_refl _) (.cells #[.string F.name, .slice o3 F.steps.length c3, .slice o4 F.rules.length c4] 25)))
  have H4 := hide' (heap_alloc_new w3 (.cells #[.string F.name, .slice o3 F.steps.length c3, .slice o4 F.rules.length c4] 25))
  have hw3 : Hid (W2.heap.size ≤ w3.heap.size) := hb3.size
  have hbg : Hid (bg < W2.heap.size) := (Array.getElem?_eq_some_iff.1 D2.out).1
  have hWd : Hid (w.heap.size ≤ W2.heap.size) := B2.out.size
  have hE4 := hide' E4.out
  have hF3' := hide' hF3
  clear KT0 hC3 hb3 hF3 B2 E4
  go_wp2_with fail
  have hL1 : Hid (∀ g, (Value.slice o3 F.steps.length c3).ownBlock = some g → g < w3.heap.size) := fun g e => own_lt' hF3'.out.t1.row e
  have hL4 : Hid (∀ g, (Value.slice o4 F.rules.length c4).ownBlock = some g → g < w3.heap.size) := fun g e => own_lt' hF3'.out.t2.row e
  have hL2 : Hid (∀ p ∈ P3, ∀ g, p.2.ownBlock = some g → g < w3.heap.size) := fun p hp g e => own_lt' (hF3'.out.t1.inner p hp) e
  have hL3 : Hid (∀ p ∈ P4, ∀ g, p.2.ownBlock = some g → g < w3.heap.size) := fun p hp g e => own_lt' (hF3'.out.t2.inner p hp) e
  clear hF3'
  generalize hbh : w3.heap.size = bh at *
  generalize w3.alloc (.cells #[.string F.name, .slice o3 F.steps.length c3, .slice o4 F.rules.length c4] 25) = W4 at *
  have hbh4 : Hid (bh < W4.heap.size) := (Array.getElem?_eq_some_iff.1 H4.out).1
  clear hbh
  have KK := hide' (KN.out W4 _ hH4.out.fl B4.out)
  clear KN
  refine KK.out.mono ?_
  intro e w5 hN5
  obtain ⟨pa, rfl, hb5, hNA⟩ := hN5.one
  have hA5 := hide' hNA
  have Z5 := hide' hb5
  have B5 := hide' (B4.out.trans (hb5.mono B4.out.size))
  have hG5 := hide' (hG4.out.over hb5)
  have hH5 := hide' (hH4.out.over hb5)
  have D5 := hide' ((hb5.block bg (Array.getElem?_eq_some_iff.1 D4.out).1).trans D4.out)
  have H5 := hide' ((hb5.block bh (Array.getElem?_eq_some_iff.1 H4.out).1).trans H4.out)
  have K5 := hide' (KF.out w5 _ _ hH5.out.fl hG5.out.fl)
  obtain ⟨x0, x1, x2⟩ := bx3 D5.out
  obtain ⟨y0, y1, y2⟩ := bx3 H5.out
  clear KK hN5 hNA hb5 hG4 D4 H4 hH4 KF hG5
  go_wp2_with fail
  clear x0 x1 x2 y0 y1 y2
  refine K5.out.mono ?_
  rintro e w6 ⟨rfl, hb6⟩
  have B6 := hide' (B5.out.trans (hb6.mono B5.out.size))
  have Z6 := hide' hb6
  have K6 := hide' (KW.out w6 B6.out)
  clear K5 KW hb6
  go_wp2_with fail
  refine K6.out.mono ?_
  rintro e w7 ⟨rfl, hb7⟩
  have B7 := hide' (B6.out.trans (hb7.mono B6.out.size))
  have X57 := hide' (Z6.out.trans (hb7.mono Z6.out.size))
  have hz4 : Hid (W4.heap.size ≤ w5.heap.size) := Z5.out.size
  clear K6 hb7 Z6 B6
  cases pa with
  | none =>
    have hne : ¬ chkF F = 0 := by
      rcases hA5.out with ⟨_, h⟩ | ⟨_, _, _, _, _, _, _, _, _, _, _, _, _, _, _, h, _⟩
      · exact h
      · cases h
    generalize chkF F = z at *
    clear hA5 Z5 B5 hH5 D5 H5 hw3 hbg hWd hbh4 hE4 hL1 hL2 hL3 hL4 hF2 T KD hLc' hB' hz4 X57 B4
    go_wp2
    go_ret
    exact ⟨by simp [hne], B7.out⟩
  | some ga =>
    have hA7 := hide' (hA5.out.over X57.out)
    have hH7 := hide' (hH5.out.over X57.out)
    have H7 := hide' ((X57.out.block bh (Array.getElem?_eq_some_iff.1 H5.out).1).trans H5.out)
    have Y7 : Hid (Below W2.heap.size W2 w7) := hE4.out.trans ((Z5.out.trans (X57.out.mono hz4.out)).mono hE4.out.size)
    have hzw : Hid (W4.heap.size ≤ w7.heap.size) := Nat.le_trans hz4.out X57.out.size
    have hsl := hB'.out.sl
    have hrl := hB'.out.rl
    clear hA5 Z5 B5 hH5 D5 H5 hE4 hz4 X57 B4
    generalize chkF F = ze at *
    go_upto_block 0 with fail
    go_cut [] from 43 to 73 (fun wx => Hid (Wy w7 W2.heap.size bh (.slice o3 F.steps.length c3) (.slice o4 F.rules.length c4) P3.length P4.length wx))
    case first => as_aux_lemma =>
      have hC : Hid (∀ c, c < F.steps.length → _) := fun c hc => wipeS hH7.out H7.out hL1.out hL2.out hB'.out hc
      have hN : Hid (∀ W, Wy w7 W2.heap.size bh (.slice o3 F.steps.length c3) (.slice o4 F.rules.length c4) P3.length P4.length W → W.cell? ⟨bh, 1, none⟩ = some (.slice o3 F.steps.length c3)) := fun W hW => by simp [World.cell?, (hW.zf.blk bh (Array.getElem?_eq_some_iff.1 H7.out).1 (fun e => Nat.lt_irrefl _ e.2)).trans H7.out]
      have hst : Hid (Wy w7 W2.heap.size bh (.slice o3 F.steps.length c3) (.slice o4 F.rules.length c4) P3.length P4.length w7) := Wy.refl _ _ _ _ _ _ _
      clear hH7 H7 hL1 hL2 hL3 hL4 hB' T KD hLc' hA7 Y7 B7 hF2 hw3 hbg hWd hbh4 D2 hzw hrl hcq
      generalize Wy w7 W2.heap.size bh (.slice o3 F.steps.length c3) (.slice o4 F.rules.length c4) P3.length P4.length = Y at *
      generalize F.steps.length = n at *
      go_wp2
      go_loopw [9] (fun j wr => ∃ c : Nat, c ≤ n ∧ j = .int .i64 c ∧ Hid (Y wr)) (fun j _ => ((n : Int) - intOf j).toNat)
      case atStart => exact ⟨0, Nat.zero_le _, rfl, hst⟩
      case round =>
        clear hst
        obtain ⟨c, hcl, rfl, hY⟩ := hrel
        have x1 := hN.out _ hY.out
        by_cases hlt : c < n
        · obtain ⟨g, oi, m, ci, rfl, hm, hK⟩ := hC.out c hlt
          have hK' := hide' hK
          obtain ⟨_, d2, _⟩ := hK _ hY.out
          clear hC hN hK
          go_wp2
          go_loopw [10] (fun j wr => ∃ k : Nat, k ≤ m ∧ j = .int .i64 k ∧ Hid (Y wr)) (fun j _ => ((m : Int) - intOf j).toNat)
          case atStart => exact ⟨0, Nat.zero_le _, rfl, hY⟩
          case round =>
            clear hY d2 x1
            obtain ⟨k, hkl, rfl, hY⟩ := hrel
            obtain ⟨x1, d2, ⟨⟨u0, d0⟩, f0, hset⟩, hin⟩ := hK'.out _ hY.out
            have hset' := hide' hset
            by_cases hk : k < m
            · obtain ⟨gi, rfl, ⟨u1, d1⟩, f1, hs1⟩ := hin k hk
              have hs1' := hide' (hs1 (.int .i64 0))
              clear hK' hset hset' hin hs1 d0 f0
              go_wp2
              exact ⟨⟨k + 1, by omega, by go_num, hs1'⟩, by simp [intOf]; omega⟩
            · obtain rfl : k = m := by omega
              clear hK' hset hin
              go_wp2
              exact ⟨⟨c + 1, by omega, by go_num, hide' (hset'.out _)⟩, by simp [intOf]; omega⟩
        · clear hC hN
          go_wp2
          go_meet
          exact hY
    case rest =>
    have hY0 := hide' hcut.out
    clear hcut
    go_upto_block 4 with fail
    go_cut [] from 74 to 104 (fun wx => Hid (Wy w7 W2.heap.size bh (.slice o3 F.steps.length c3) (.slice o4 F.rules.length c4) P3.length P4.length wx))
    case first => as_aux_lemma =>
      have hC : Hid (∀ c, c < F.rules.length → _) := fun c hc => wipeR hH7.out H7.out hL4.out hL3.out hB'.out hc
      have hN : Hid (∀ W, Wy w7 W2.heap.size bh (.slice o3 F.steps.length c3) (.slice o4 F.rules.length c4) P3.length P4.length W → W.cell? ⟨bh, 2, none⟩ = some (.slice o4 F.rules.length c4)) := fun W hW => by simp [World.cell?, (hW.zf.blk bh (Array.getElem?_eq_some_iff.1 H7.out).1 (fun e => Nat.lt_irrefl _ e.2)).trans H7.out]
      have hst := hY0
      clear hY0
      clear hH7 H7 hL1 hL2 hL3 hL4 hB' T KD hLc' hA7 Y7 B7 hF2 hw3 hbg hWd hbh4 D2 hzw hsl hcq
      generalize Wy w7 W2.heap.size bh (.slice o3 F.steps.length c3) (.slice o4 F.rules.length c4) P3.length P4.length = Y at *
      generalize F.rules.length = n at *
      go_wp2
      go_loopw [11] (fun j wr => ∃ c : Nat, c ≤ n ∧ j = .int .i64 c ∧ Hid (Y wr)) (fun j _ => ((n : Int) - intOf j).toNat)
      case atStart => exact ⟨0, Nat.zero_le _, rfl, hst⟩
      case round =>
        clear hst
        obtain ⟨c, hcl, rfl, hY⟩ := hrel
        have x1 := hN.out _ hY.out
        by_cases hlt : c < n
        · obtain ⟨g, oi, m, ci, rfl, hm, hK⟩ := hC.out c hlt
          have hK' := hide' hK
          obtain ⟨_, d2, ⟨⟨u0, d0⟩, f0, hset⟩, _⟩ := hK _ hY.out
          have hY1 := hide' (hset (.int .i64 9))
          obtain ⟨x1', d2', _⟩ := hK _ hY1.out
          clear hC hN hK hY hset
          go_wp2
          clear d2 d0 f0 x1
          generalize wr.setCell ⟨g, c * 3, none⟩ (.int .i64 9) = wr at *
          go_loopw [12] (fun j wr => ∃ k : Nat, k ≤ m ∧ j = .int .i64 k ∧ Hid (Y wr)) (fun j _ => ((m : Int) - intOf j).toNat)
          case atStart => exact ⟨0, Nat.zero_le _, rfl, hY1⟩
          case round =>
            clear hY1 d2' x1'
            obtain ⟨k, hkl, rfl, hY⟩ := hrel
            obtain ⟨x1, d2, ⟨⟨u0, d0⟩, f0, hset⟩, hin⟩ := hK'.out _ hY.out
            clear hset d0 f0
            by_cases hk : k < m
            · obtain ⟨gi, rfl, ⟨u1, d1⟩, f1, hs1⟩ := hin k hk
              have hs1' := hide' (hs1 (.int .i64 0))
              clear hK' hin hs1
              go_wp2
              exact ⟨⟨k + 1, by omega, by go_num, hs1'⟩, by simp [intOf]; omega⟩
            · obtain rfl : k = m := by omega
              clear hK' hin
              go_wp2
              exact ⟨⟨c + 1, by omega, by go_num, hY⟩, by simp [intOf]; omega⟩
        · clear hC hN
          go_wp2
          go_meet
          exact hY
    case rest =>
    have hY := hcut.out
    have Hb : ∀ B, B ≤ w7.heap.size → B ≤ W2.heap.size → Below B w7 wc := fun B h1 h2 => hY.zf.toBelow h1 fun b e => Nat.le_trans h2 e.1
    have hz24 : W2.heap.size ≤ w7.heap.size := Y7.out.size
    have B8 := hide' (B7.out.trans (Hb _ B7.out.size hWd.out))
    have Y8 := hide' (Y7.out.trans (Hb _ hz24 (Nat.le_refl _)))
    have hG8 := hide' (hF2.out.over Y8.out)
    have D8 := hide' ((Y8.out.block bg hbg.out).trans D2.out)
    have hA8 := hide' (hA7.out.keptZ hY.zf.size fun b h1 h2 => hY.zf.blk b h2 fun e => by have := hbh4.out; have := e.2; omega)
    have hw4 : Hid (w.heap.size ≤ W4.heap.size) := Nat.le_trans hWd.out (Nat.le_trans hw3.out (Nat.le_of_lt hbh4.out))
    have K8 := hide' (KD.out wc _ hG8.out.fl)
    obtain ⟨x0, x1, x2⟩ := bx3 D8.out
    clear hY Hb hz24 B7 Y7 Y8 hF2 D2 hA7 hH7 H7 hL1 hL2 hL3 hL4 hw3 hbh4 hWd hbg KD hY0 hcut D8 hG8 hzw hsl hrl
    go_wp2_with fail
    clear x0 x1 x2
    refine K8.out.mono ?_
    intro e w9 hN9
    obtain ⟨xa, rfl, hb9, hNX⟩ := hN9.one
    obtain ⟨k, lv, ev, n, R, rfl, rfl, hkF, tag, hP⟩ := Ow.start hA8.out hNX hb9 (B8.out.trans (hb9.mono B8.out.size)) hw4.out B8.out.size
    have hBk : Hid (FlB k.F) := by rw [hkF]; exact hB'.out
    have hP0 : Hid (∃ lv ev R tag, Ow w k lv ev n R 0 w9.heap.size tag (w9.alloc (.cells #[.slice none 0 0, .slice none 0 0, .slice none 0 0, .slice none 0 0, .slice none 0 0, .slice none 0 0, .slice none 0 0, .slice none 0 0, .slice none 0 0, .slice none 0 0, .slice none 0 0, .slice none 0 0, .int .i64 0] 58))) := ⟨lv, ev, R, tag, hP⟩
    clear K8 hN9 hNX hb9 hA8 hw4 B8 hkF hP hB'
    generalize chkF F = zf at *
    go_upto_block 8 with fail
    generalize w9.alloc (.cells #[.slice none 0 0, .slice none 0 0, .slice none 0 0, .slice none 0 0, .slice none 0 0, .slice none 0 0, .slice none 0 0, .slice none 0 0, .slice none 0 0, .slice none 0 0, .slice none 0 0, .slice none 0 0, .int .i64 0] 58) = w10 at *
    generalize w9.heap.size = b at *
    go_cut [] from 112 to 189 (fun wx => Hid (∃ lv ev R tag, Ow w k lv ev n R 200 b tag wx))
    case first => as_aux_lemma =>
      go_wp2
      go_loopw [16] (fun j wr => ∃ c : Nat, c ≤ L.length ∧ c ≤ 200 ∧ j = .int .i64 c ∧ Hid (∃ lv ev R tag, Ow w k lv ev n R c b tag wr)) (fun j _ => ((200 : Int) - intOf j).toNat)
      case atStart => exact ⟨0, Nat.zero_le _, Nat.zero_le _, rfl, hP0⟩
      case round =>
        clear hP0
        obtain ⟨c, hcl, hc200, rfl, hPh⟩ := hrel
        by_cases hgo : c < L.length ∧ c < 200
        · obtain ⟨hlt, h200⟩ := hgo
          obtain ⟨lv0, ev0, R0, tag, hP⟩ := hPh.out
          obtain ⟨q, hx⟩ : ∃ x, L[c]? = some x := ⟨_, List.getElem?_eq_getElem hlt⟩
          obtain ⟨g, f, rfl, e0, e1, e2, e3, e4, e5⟩ := hLc'.out c q hx
          have hbw := hide' hP.bl
          have d0 := (hbw.out.cell (p := ⟨g, f + c * 6, none⟩) (cell_lt e0)).trans e0
          have d1 := (hbw.out.cell (p := ⟨g, f + c * 6 + 1, none⟩) (cell_lt e1)).trans e1
          have d2 := (hbw.out.cell (p := ⟨g, f + c * 6 + 2, none⟩) (cell_lt e2)).trans e2
          have d3 := (hbw.out.cell (p := ⟨g, f + c * 6 + 3, none⟩) (cell_lt e3)).trans e3
          have d4 := (hbw.out.cell (p := ⟨g, f + c * 6 + 4, none⟩) (cell_lt e4)).trans e4
          have d5 := (hbw.out.cell (p := ⟨g, f + c * 6 + 5, none⟩) (cell_lt e5)).trans e5
          have hcq1 := hcq.1
          have KK := hide' (hP.play (by omega) (T.out wr hbw.out) q)
          clear hx e0 e1 e2 e3 e4 e5 hLc' T hbw hcq hP hPh
          generalize plyR true k.Pf R0 q = R at *
          generalize q.on = a0 at *
          generalize q.op = a1 at *
          generalize q.step = a2 at *
          generalize q.user = a3 at *
          generalize q.tick = a4 at *
          generalize q.stuck = a5 at *
          go_wp2_with fail
          refine KK.out.mono ?_
          rintro e w1 ⟨rfl, lv, ev, hP⟩
          have hP1 := hide' hP
          clear KK d0 d1 d2 d3 d4 d5 hP lv0 ev0 R0
          by_cases h20 : c < 20
          · have K2 := hide' (fixedF hP1.out.sd.p.run (by have := hP1.out.sd.n64; omega))
            go_wp2_with fail
            refine K2.out.mono ?_
            rintro e w2 ⟨v2, rfl, hO2, hb2⟩
            have K3 : Hid (Calls Tryz.prog 18 #[.pointer (some ⟨b, 0, none⟩), v2] w2 fun e w' => e = .returned (.tuple #[]) ∧ ∃ tag', Ow w k lv ev n R (c + 1) b tag' w') := by
              have hl2 : (usL R.S).length = R.S.length := usL_len _
              refine ((hP1.out.over hb2).ints (v := v2) (l := usL R.S) (by rw [hl2]; exact own_down hO2 (Nat.zero_le _)) (by have := hP1.out.sd.n64; omega) (fun g hg => ?_)).mono fun e w' ⟨h1, t, h2, _⟩ => ⟨h1, t, h2⟩
              have h := own_ge' hO2 hg
              exact ⟨hP1.out.bk.fresh g h, fun hf => by have := hP1.out.sd.lt g hf; omega, by have := hP1.out.bl.size; omega⟩
            obtain ⟨o2, c2, rfl⟩ := own_shp hO2
            clear K2 hO2 hb2 hP1
            go_wp2_with fail
            refine K3.out.mono ?_
            rintro e w3 ⟨rfl, tag3, hP3⟩
            have K4 := hide' (logF hP3.sd.p.run hP3.ne (by have := hP3.lg; omega))
            have hm : R.log.length ≤ 1000 := by have := hP3.lg; omega
            have hP3' := hide' hP3
            clear K3 hP3
            go_wp2_with fail
            refine K4.out.mono ?_
            rintro e w4 ⟨v4, rfl, hO4, hb4⟩
            obtain ⟨o4, c4, rfl⟩ := own_shp hO4
            have hst : Hid (Shp w4 w4 ∧ Ow w k lv ev n R (c + 1) b tag3 w4) := ⟨Shp.refl _, hP3'.out.over hb4⟩
            have hL : Hid (∀ W, Shp w4 W ∧ Ow w k lv ev n R (c + 1) b tag3 W → ∀ j, j < R.log.length → ∃ g, o4 = some ⟨g, 0, none⟩ ∧ (∃ u0 u1 u2 u3, W.cell? ⟨g, j * 4, none⟩ = some u0 ∧ W.cell? ⟨g, j * 4 + 1, none⟩ = some u1 ∧ W.cell? ⟨g, j * 4 + 2, none⟩ = some u2 ∧ W.cell? ⟨g, j * 4 + 3, none⟩ = some u3) ∧ (W.frozen? ⟨g, j * 4, none⟩ = false ∧ W.frozen? ⟨g, j * 4 + 1, none⟩ = false ∧ W.frozen? ⟨g, j * 4 + 2, none⟩ = false ∧ W.frozen? ⟨g, j * 4 + 3, none⟩ = false) ∧ ∀ u0 u1 u2 u3, Shp w4 ((((W.setCell ⟨g, j * 4, none⟩ u0).setCell ⟨g, j * 4 + 1, none⟩ u1).setCell ⟨g, j * 4 + 2, none⟩ u2).setCell ⟨g, j * 4 + 3, none⟩ u3) ∧ Ow w k lv ev n R (c + 1) b tag3 ((((W.setCell ⟨g, j * 4, none⟩ u0).setCell ⟨g, j * 4 + 1, none⟩ u1).setCell ⟨g, j * 4 + 2, none⟩ u2).setCell ⟨g, j * 4 + 3, none⟩ u3)) := fun W hW j hj => by
              obtain ⟨g, e1, hg, h1, h2, h3, h4, h5⟩ := logAt hW.1 hO4 hj
              refine ⟨g, e1, h1, ⟨h2, h3, h4, h5⟩, fun u0 u1 u2 u3 => ⟨(((hW.1.set _ _ _).set _ _ _).set _ _ _).set _ _ _, hW.2.zf (f := fun y => y = g) (((((Zf.refl (fun y => y = g) W).set rfl _ _).set rfl _ _).set rfl _ _).set rfl _ _) (fun y _ e => ?_) (fun y e => ?_)⟩⟩
              · rw [show y = g from e]
                exact ⟨hP3'.out.bk.fresh g hg, fun hf => by have := hP3'.out.sd.lt g hf; omega⟩
              · rw [show y = g from e]
                have := hP3'.out.bl.size
                omega
            clear K4 hO4 hb4 hP3'
            go_wp2
            go_loopw [18] (fun j wr => ∃ i : Nat, i ≤ R.log.length ∧ j = .int .i64 i ∧ Hid (Shp w4 wr ∧ Ow w k lv ev n R (c + 1) b tag3 wr)) (fun j _ => ((R.log.length : Int) - intOf j).toNat)
            case atStart => exact ⟨0, Nat.zero_le _, rfl, hst⟩
            case round =>
              clear hst
              obtain ⟨i, hil, rfl, hW⟩ := hrel
              by_cases hi : i < R.log.length
              · obtain ⟨g, rfl, ⟨u0, u1, u2, u3, b0, b1, b2, b3⟩, ⟨f0, f1, f2, f3⟩, hset⟩ := hL.out _ hW.out i hi
                have hset' := hide' (hset (.int .i64 0) (.int .i64 99) (.int .i64 0) (.int .i64 0))
                clear hL hset hBk
                generalize R.log.length = m at *
                go_wp2
                exact ⟨⟨i + 1, by omega, by go_num, hset'⟩, by simp [intOf]; omega⟩
              · have hP5 := hide' hW.out.2
                obtain hil : i = R.log.length := by omega
                subst hil
                clear hL hW hi
                have K6 := hide' (flowDF hP5.out.sd.p.run (fun V z => (hP5.out.sd.over z).p.fl) hBk.out)
                go_wp2_with fail
                refine K6.out.mono ?_
                rintro e w6 ⟨s1, s2, P1, P2, rfl, m1, m2, t1, t2, hb6, hd⟩
                have hY : Hid (∃ tag, Yw w k lv ev n R (c + 1) b wr.heap.size k.F.name s1 s2 P1.length P2.length (rowsOf P1 P2) w6.heap.size 0 tag (w6.alloc (.cells #[.string k.F.name, s1, s2] 25))) := ⟨tag3, Yw.start hP5.out t1 t2 hb6 hd m1 m2 hBk.out⟩
                have hn1 : P1.length ≤ 1000 := by rw [← List.length_map (f := Prod.fst), m1]; exact hBk.out.sl
                have hn2 : P2.length ≤ 1000 := by rw [← List.length_map (f := Prod.fst), m2]; exact hBk.out.rl
                obtain ⟨o6, c6, rfl⟩ := own_shp t1.row
                obtain ⟨o7, c7, rfl⟩ := own_shp t2.row
                clear K6 m1 m2 t1 t2 hb6 hd hP5 hBk hm
                generalize wr.heap.size = m0 at *
                generalize k.F.name = nm at *
                generalize rowsOf P1 P2 = I at *
                generalize P1.length = n1 at *
                generalize P2.length = n2 at *
                go_upto_block 12 with fail
                generalize w6.heap.size = xb at *
                have hAt1 : Hid (∀ W i, (Yx w k lv ev n R (c + 1) b m0 nm (.slice o6 n1 c6) (.slice o7 n2 c7) n1 n2 I xb i W) → i < n1 → ∃ g oq m cq, o6 = some ⟨g, 0, none⟩ ∧ W.cell? ⟨xb, 1, none⟩ = some (.slice o6 n1 c6) ∧ W.cell? ⟨g, i * 3 + 2, none⟩ = some (.slice oq m cq) ∧ Hid (Calls Tryz.prog 18 #[.pointer (some ⟨b, 0, none⟩), .slice oq m cq] W fun e w' => e = .returned (.tuple #[]) ∧ Yx w k lv ev n R (c + 1) b m0 nm (.slice o6 n1 c6) (.slice o7 n2 c7) n1 n2 I xb (i + 1) w')) := fun W i h0 hi => by
                  obtain ⟨t, h⟩ := h0
                  obtain ⟨q, hq⟩ : ∃ q, I[i]? = some q := ⟨_, List.getElem?_eq_getElem (by have := h.xw.len; omega)⟩
                  obtain ⟨g, cap, e, a1, _⟩ := h.at1 hi hq
                  obtain ⟨oq, cq, eq⟩ := own_shp (h.xw.inr i q hq (Nat.le_refl _)).1
                  have hk := h.ints hq
                  rw [eq] at a1 hk
                  exact ⟨g, oq, _, cq, by injection e, (bx3 h.bx.2.2).2.1, a1, hk⟩
                have hSt1 : Hid (∀ W i j, (Yx w k lv ev n R (c + 1) b m0 nm (.slice o6 n1 c6) (.slice o7 n2 c7) n1 n2 I xb i W) → j < n1 → ∃ g, o6 = some ⟨g, 0, none⟩ ∧ W.cell? ⟨xb, 1, none⟩ = some (.slice o6 n1 c6) ∧ (∃ u, W.cell? ⟨g, j * 3, none⟩ = some u) ∧ W.frozen? ⟨g, j * 3, none⟩ = false ∧ ∀ u, Hid (Yx w k lv ev n R (c + 1) b m0 nm (.slice o6 n1 c6) (.slice o7 n2 c7) n1 n2 I xb i (W.setCell ⟨g, j * 3, none⟩ u))) := fun W i j h0 hj => by
                  obtain ⟨t, h⟩ := h0
                  obtain ⟨q, hq⟩ : ∃ q, I[j]? = some q := ⟨_, List.getElem?_eq_getElem (by have := h.xw.len; omega)⟩
                  obtain ⟨g, cap, e, _, a2, a3, a4⟩ := h.at1 hj hq
                  exact ⟨g, by injection e, (bx3 h.bx.2.2).2.1, a2, a3, fun u => ⟨t, a4 u⟩⟩
                have hAt2 : Hid (∀ W i, (Yx w k lv ev n R (c + 1) b m0 nm (.slice o6 n1 c6) (.slice o7 n2 c7) n1 n2 I xb (n1 + i) W) → i < n2 → ∃ g oq m cq, o7 = some ⟨g, 0, none⟩ ∧ W.cell? ⟨xb, 2, none⟩ = some (.slice o7 n2 c7) ∧ W.cell? ⟨g, i * 3 + 2, none⟩ = some (.slice oq m cq) ∧ Hid (Calls Tryz.prog 18 #[.pointer (some ⟨b, 0, none⟩), .slice oq m cq] W fun e w' => e = .returned (.tuple #[]) ∧ Yx w k lv ev n R (c + 1) b m0 nm (.slice o6 n1 c6) (.slice o7 n2 c7) n1 n2 I xb (n1 + i + 1) w')) := fun W i h0 hi => by
                  obtain ⟨t, h⟩ := h0
                  obtain ⟨q, hq⟩ : ∃ q, I[n1 + i]? = some q := ⟨_, List.getElem?_eq_getElem (by have := h.xw.len; omega)⟩
                  obtain ⟨g, cap, e, a1, _⟩ := h.at2 hi hq
                  obtain ⟨oq, cq, eq⟩ := own_shp (h.xw.inr (n1 + i) q hq (Nat.le_refl _)).1
                  have hk := h.ints hq
                  rw [eq] at a1 hk
                  exact ⟨g, oq, _, cq, by injection e, (bx3 h.bx.2.2).2.2, a1, hk⟩
                have hSt2 : Hid (∀ W i j, (Yx w k lv ev n R (c + 1) b m0 nm (.slice o6 n1 c6) (.slice o7 n2 c7) n1 n2 I xb i W) → j < n2 → ∃ g, o7 = some ⟨g, 0, none⟩ ∧ W.cell? ⟨xb, 2, none⟩ = some (.slice o7 n2 c7) ∧ (∃ u, W.cell? ⟨g, j * 3 + 1, none⟩ = some u) ∧ W.frozen? ⟨g, j * 3 + 1, none⟩ = false ∧ ∀ u, Hid (Yx w k lv ev n R (c + 1) b m0 nm (.slice o6 n1 c6) (.slice o7 n2 c7) n1 n2 I xb i (W.setCell ⟨g, j * 3 + 1, none⟩ u))) := fun W i j h0 hj => by
                  obtain ⟨t, h⟩ := h0
                  obtain ⟨q, hq⟩ : ∃ q, I[n1 + j]? = some q := ⟨_, List.getElem?_eq_getElem (by have := h.xw.len; omega)⟩
                  obtain ⟨g, cap, e, _, a2, a3, a4⟩ := h.at2 hj hq
                  exact ⟨g, by injection e, (bx3 h.bx.2.2).2.2, a2, a3, fun u => ⟨t, a4 u⟩⟩
                have hBx : Hid (∀ W i, (Yx w k lv ev n R (c + 1) b m0 nm (.slice o6 n1 c6) (.slice o7 n2 c7) n1 n2 I xb i W) → W.cell? ⟨xb, 1, none⟩ = some (.slice o6 n1 c6) ∧ W.cell? ⟨xb, 2, none⟩ = some (.slice o7 n2 c7)) := fun W i h0 => by
                  obtain ⟨t, h⟩ := h0
                  exact (bx3 h.bx.2.2).2
                have hOut : Hid (∀ W i, (Yx w k lv ev n R (c + 1) b m0 nm (.slice o6 n1 c6) (.slice o7 n2 c7) n1 n2 I xb i W) → Hid (∃ lv ev R tag, Ow w k lv ev n R (c + 1) b tag W)) := fun W i h0 => by
                  obtain ⟨t, h⟩ := h0
                  exact ⟨lv, ev, R, t, h.ow⟩
                have hY0 : Hid (Yx w k lv ev n R (c + 1) b m0 nm (.slice o6 n1 c6) (.slice o7 n2 c7) n1 n2 I xb 0 _) := hY
                clear hY
                generalize Yx w k lv ev n R (c + 1) b m0 nm (.slice o6 n1 c6) (.slice o7 n2 c7) n1 n2 I xb = YY at *
                generalize w6.alloc (.cells #[.string nm, .slice o6 n1 c6, .slice o7 n2 c7] 25) = w7 at *
                go_wp2
                go_loopw [20] (fun j wr => ∃ i : Nat, i ≤ n1 ∧ j = .int .i64 i ∧ Hid (YY i wr)) (fun j _ => ((n1 : Int) - intOf j).toNat)
                case atStart => exact ⟨0, Nat.zero_le _, rfl, hY0⟩
                case round =>
                  clear hY0
                  obtain ⟨i, hil, rfl, hY⟩ := hrel
                  obtain ⟨x1, x2⟩ := hBx.out _ _ hY.out
                  by_cases hi : i < n1
                  · obtain ⟨g, oq, m, cq, rfl, _, a1, KI⟩ := hAt1.out _ i hY.out hi
                    clear hAt1 hAt2 hSt2 hOut x2 hY
                    go_wp2_with fail
                    refine KI.out.mono ?_
                    rintro e w8 ⟨rfl, h8⟩
                    obtain ⟨g', e', y1, ⟨u, d0⟩, f0, hs⟩ := hSt1.out _ _ i h8 hi
                    obtain rfl : g = g' := by injection e' with e'; injection e'
                    clear KI a1 x1 h8 hSt1 hBx e'
                    go_wp2
                    exact ⟨⟨i + 1, by omega, by go_num, hs _⟩, by simp [intOf]; omega⟩
                  · obtain rfl : i = n1 := by omega
                    clear hAt1 hSt1 hil hi
                    go_upto_block 14 with fail
                    clear x1 x2
                    go_wp2
                    go_loopw [21] (fun j wr => ∃ d : Nat, d ≤ n2 ∧ j = .int .i64 d ∧ Hid (YY (i + d) wr)) (fun j _ => ((n2 : Int) - intOf j).toNat)
                    case atStart => exact ⟨0, Nat.zero_le _, rfl, hY⟩
                    case round =>
                      clear hY
                      obtain ⟨d, hdl, rfl, hY⟩ := hrel
                      obtain ⟨x1, x2⟩ := hBx.out _ _ hY.out
                      by_cases hd : d < n2
                      · obtain ⟨g, oq, m, cq, rfl, _, a1, KI⟩ := hAt2.out _ d hY.out hd
                        clear hAt2 hOut x1 hY
                        go_wp2_with fail
                        refine KI.out.mono ?_
                        rintro e w8 ⟨rfl, h8⟩
                        obtain ⟨g', e', y2, ⟨u, d0⟩, f0, hs⟩ := hSt2.out _ _ d h8 hd
                        obtain rfl : g = g' := by injection e' with e'; injection e'
                        clear KI a1 x2 h8 hSt2 hBx e'
                        go_wp2
                        exact ⟨⟨d + 1, by omega, by go_num, hs _⟩, by simp [intOf]; omega⟩
                      · have hF := hOut.out _ _ hY.out
                        clear hAt2 hSt2 hBx hOut
                        go_wp2
                        exact ⟨⟨c + 1, by omega, by omega, by go_num, hF⟩, by simp [intOf]; omega⟩
          · have hF : Hid (∃ lv ev R tag, Ow w k lv ev n R (c + 1) b tag w1) := ⟨lv, ev, R, tag, hP1.out⟩
            clear hP1
            go_wp2
            exact ⟨⟨c + 1, by omega, by omega, by go_num, hF⟩, by simp [intOf]; omega⟩
        · have hP2 : Hid (∃ lv ev R tag, Ow w k lv ev n R 200 b tag wr) := by
            obtain ⟨lv, ev, R, tag, hP⟩ := hPh.out
            exact ⟨lv, ev, R, tag, hP.more hc200⟩
          clear hPh hLc' T hcq
          by_cases hlt : c < L.length
          · have h200 : ¬ c < 200 := fun h => hgo ⟨hlt, h⟩
            clear hgo
            go_wp2
            go_meet
            exact hP2
          · clear hgo
            go_wp2
            go_meet
            exact hP2
    case rest =>
    obtain ⟨lv, ev, R, tag, hP⟩ := hcut.out
    have KC := hide' (hP.close (by omega) hBk.out fun V hV => T.out V hV)
    clear hP hcut T hBk hP0 hLc' hcq
    go_wp2_with fail
    refine KC.out.mono ?_
    rintro e w11 ⟨rfl, hb11, hK⟩
    have KW2 := hide' hK
    clear KC hK
    go_wp2_with fail
    refine KW2.out.mono ?_
    rintro e w12 ⟨rfl, hb12⟩
    have hF := hide' (hb11.trans (hb12.mono hb11.size))
    clear KW2 hb11 hb12
    go_wp2
    go_ret
    exact ⟨rfl, hF.out⟩
end Go.Proofs.YtlipdccfhnnleaaGreatDoor
