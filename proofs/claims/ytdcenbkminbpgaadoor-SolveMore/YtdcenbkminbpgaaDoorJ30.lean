/- SolveMore, walked. -/
import Derived.Test.YtdcenbkminbpgaaDoorJ24
import Derived.Test.YtdcenbkminbpgaaDoorJ29
namespace Go.Proofs.YtdcenbkminbpgaaDoor.S
open Go.RowKit Go.Shelf
/-- What stands between the calls: SvS with what it wants. -/
structure Ms (w : World) (Q : Pb) (qw qf qr : Value) (g gs a b c : Nat) (V : World) : Prop where
  s : SvS w Q qw qf qr g gs a b c V
  hgs : w.heap.size ≤ gs
  hne : ∀ ad n c, qw = .slice (some ad) n c → ad.block ≠ gs
  hgp : g ≠ gs
  hG : 1 ≤ gs
section
variable {w : World} {Q : Pb} {qw qf qr : Value} {g gs a b c a' b' c' : Nat} {V V' : World}
theorem Ms.over (h : Ms w Q qw qf qr g gs a b c V) (hb : Below V.heap.size V V') : Ms w Q qw qf qr g gs a b c V' := ⟨h.s.over hb, h.hgs, h.hne, h.hgp, h.hG⟩
theorem Ms.fr (h : Ms w Q qw qf qr g gs a b c V) (hf : M.Fr2 V V' gs gs) (hg : GgAt V' gs a' b' c') : Ms w Q qw qf qr g gs a' b' c' V' := ⟨h.s.fr hf hg h.hgs h.hne h.hgp h.hG, h.hgs, h.hne, h.hgp, h.hG⟩
end
/-- Besides, two problems in boxes of their own. -/
structure Mz (w : World) (Q : Pb) (qw qf qr : Value) (g gs : Nat) (X : Pb) (gx : Nat) (x1 x2 x3 : Value) (Y : Pb) (gy : Nat) (y1 y2 y3 : Value) (a b c : Nat) (V : World) : Prop where
  m : Ms w Q qw qf qr g gs a b c V
  px : PbV V X x1 x2 x3
  bx : QAt V gx X.users x1 x2 x3
  py : PbV V Y y1 y2 y3
  bY : QAt V gy Y.users y1 y2 y3
  nx : ∀ ad n c, x1 = .slice (some ad) n c → ad.block ≠ gs
  ny : ∀ ad n c, y1 = .slice (some ad) n c → ad.block ≠ gs
  gxs : gx ≠ gs
  gys : gy ≠ gs
section
variable {w : World} {Q : Pb} {qw qf qr : Value} {g gs : Nat} {X Y : Pb} {gx gy : Nat} {x1 x2 x3 y1 y2 y3 : Value} {a b c a' b' c' : Nat} {V V' : World}
theorem Mz.fr (h : Mz w Q qw qf qr g gs X gx x1 x2 x3 Y gy y1 y2 y3 a b c V) (hf : M.Fr2 V V' gs gs) (hg : GgAt V' gs a' b' c') : Mz w Q qw qf qr g gs X gx x1 x2 x3 Y gy y1 y2 y3 a' b' c' V' :=
  ⟨h.m.fr hf hg, pbV_frame h.px h.m.s.gg h.nx hf, h.bx.of (hf.block _ h.bx.lt h.gxs h.gxs), pbV_frame h.py h.m.s.gg h.ny hf, h.bY.of (hf.block _ h.bY.lt h.gys h.gys), h.nx, h.ny, h.gxs, h.gys⟩
end
set_option maxRecDepth 100000 in
set_option maxHeartbeats 16000000 in
theorem solveMore_walk (P : Pb) (wv fv rv : Value) (ML : List Nat) (mv : Value) (k : Int) (w : World) (h : PbV w P wv fv rv) (hm : RowW w mv ML) (hmw : ∀ z ∈ ML, z < 18446744073709551616) (hb : ∀ z ∈ P.who, z < 18446744073709551616) (ht : M.Tab w) :
    Calls Tryd.prog 3 #[pbV P wv fv rv, mv, .int .i64 k] w fun e w' => e = .returned (.bool true) ∧ Below w.heap.size w w' := by
  have hB0 : Hid (Below w.heap.size w (w.alloc (.cells #[.int .i64 P.users, wv, fv, rv] 26))) := (Below.refl _ w).alloc (Nat.le_refl _) _
  have K0 := hide' (cutC P wv fv rv _ (h.below hB0.out))
  have hk := hide' (cutP_ok hb)
  have ht' := hide' ht
  have hGw := ht.2
  have hm' := hide' hm
  have hmw' := hide' hmw
  have hQb : Hid (∀ V (a b c : Value), PbV V (cutP P) a b c → Calls Tryd.prog 7 #[pbV (cutP P) a b c] V fun e w' => ∃ va vb vc, e = .returned (pbV (cutP P) va vb vc) ∧ Hid (PbV w' (cutP P) va vb vc) ∧ Hid (Below V.heap.size V w') ∧ Hid (∀ ad n c, va = .slice (some ad) n c → V.heap.size ≤ ad.block ∧ ad.block < w'.heap.size)) := fun V a b c hq => cutD P a b c V hq
  have hQg := hide' (cutG P)
  have hQl : Hid ((cutP P).who.length ≤ 20 ∧ (cutP P).rules.length ≤ 40) := ⟨by show (P.who.take 20).length ≤ 20; rw [List.length_take]; omega, by show ((P.rules.take 40).map cutR).length ≤ 40; rw [List.length_map, List.length_take]; omega⟩
  obtain ⟨om, cm, rfl, hmc, _⟩ := hm
  clear h ht hb hmw
  unfold pbV at K0 hQb hQg ⊢
  generalize cutP P = Q at *
  go_enter Tryd.func3, Tryd.ntmps3
  go_wp2_with fail
  refine K0.out.mono ?_
  rintro e w1 ⟨qw, qf, qr, rfl, hq1, hb1, ho1⟩
  have hB1 : Hid (Below w.heap.size w w1) := hB0.out.trans (hb1.out.mono hB0.out.size)
  obtain ⟨ow, cw, of, cf, or, cr, rfl, rfl, rfl⟩ := hq1.out.shape
  have hs0 := hB0.out.size
  clear hb1 hB0 K0
  go_wp2_with fail
  refine (newF _).mono ?_
  rintro e w3 ⟨rfl, hg3, hb3⟩
  have hS := hide' (SvS.start hB1.out hq1.out ht'.out hg3.out hb3.out)
  have hz : (w1.alloc (.cells #[.int .i64 Q.users, .slice ow Q.who.length cw, .slice of Q.fixed.length cf, .slice or Q.rules.length cr] 26)).heap.size = w1.heap.size + 1 := by simp
  have hSm : Hid (Ms w Q (.slice ow Q.who.length cw) (.slice of Q.fixed.length cf) (.slice or Q.rules.length cr) w1.heap.size (w1.alloc (.cells #[.int .i64 Q.users, .slice ow Q.who.length cw, .slice of Q.fixed.length cf, .slice or Q.rules.length cr] 26)).heap.size 0 0 0 w3) := ⟨hS.out, (by have := hB1.out.size; omega), (fun ad n c e => by have := (ho1.out ad n c e).2; omega), (by omega), (by have := hB1.out.size; omega)⟩
  clear hg3 hb3 hq1 ho1 hs0 hz hB1 ht' hS
  generalize (w1.alloc (.cells #[.int .i64 Q.users, .slice ow Q.who.length cw, .slice of Q.fixed.length cf, .slice or Q.rules.length cr] 26)).heap.size = gs at *
  generalize w1.heap.size = g at *
  clear w1
  have K1 : Hid (∀ V a b c, Ms w Q (.slice ow Q.who.length cw) (.slice of Q.fixed.length cf) (.slice or Q.rules.length cr) g gs a b c V → Calls Tryd.prog 7 #[.agg #[.int .i64 Q.users, .slice ow Q.who.length cw, .slice of Q.fixed.length cf, .slice or Q.rules.length cr]] V fun e w' => ∃ va vb vc, e = .returned (.agg #[.int .i64 Q.users, va, vb, vc]) ∧ Hid (PbV w' Q va vb vc) ∧ Hid (Below V.heap.size V w') ∧ Hid (∀ ad n c, va = .slice (some ad) n c → ad.block ≠ gs)) := fun V a b c hV => (hQb.out V _ _ _ hV.s.pv).mono fun e w' ⟨va, vb, vc, h1, h2, h3, h4⟩ => ⟨va, vb, vc, h1, h2, h3, fun ad n c e => by have := (h4.out ad n c e).1; have := hV.s.gg.lt; omega⟩
  have K2 : Hid (∀ V va vb vc, PbV V Q va vb vc → Calls Tryd.prog 10 #[.agg #[.int .i64 Q.users, va, vb, vc]] V fun e w' => e = .returned (.int .i64 (chkN Q : Int)) ∧ Below V.heap.size V w') := fun V va vb vc hV => checkPF Q va vb vc V hV hk.out.w hk.out.f hk.out.r hk.out.s hk.out.b
  have K3 : Hid (∀ V a b c X x1 x2 x3, Ms w Q (.slice ow Q.who.length cw) (.slice of Q.fixed.length cf) (.slice or Q.rules.length cr) g gs a b c V → PbV V X x1 x2 x3 → Pok X → a ≤ 2305843009213693952 → b ≤ 2305843009213693952 → c ≤ 2305843009213693952 → Calls Tryd.prog 11 #[.pointer (some ⟨gs, 0, none⟩), .agg #[.int .i64 X.users, x1, x2, x3]] V (CaP V X gs a b c)) := fun V a b c X x1 x2 x3 hV hX hok ha hb hc => canF X x1 x2 x3 gs a b c V hX hok hV.s.gg hV.hG hV.s.tab ha hb hc
  unfold CaP at K3
  have K8 : Hid (∀ V a b c X x1 x2 x3, Ms w Q (.slice ow Q.who.length cw) (.slice of Q.fixed.length cf) (.slice or Q.rules.length cr) g gs a b c V → PbV V X x1 x2 x3 → Pok X → (∀ ad n c, x1 = .slice (some ad) n c → ad.block ≠ gs) → a ≤ 1152921504606846976 → b ≤ 1152921504606846976 → c ≤ 1152921504606846976 → Calls Tryd.prog 12 #[.pointer (some ⟨gs, 0, none⟩), .agg #[.int .i64 X.users, x1, x2, x3]] V (LeP V X gs a b c)) := fun V a b c X x1 x2 x3 hV hX hok hn ha hb hc => leastPF X x1 x2 x3 gs a b c V hX hok hV.s.gg hV.hG hV.s.tab hn ha hb hc
  have K9 : Hid (∀ V a b c, Ms w Q (.slice ow Q.who.length cw) (.slice of Q.fixed.length cf) (.slice or Q.rules.length cr) g gs a b c V → Calls Tryd.prog 7 #[.agg #[.int .i64 Q.users, .slice ow Q.who.length cw, .slice of Q.fixed.length cf, .slice or Q.rules.length cr]] V fun e w' => ∃ oa ca ob cb oc cc E, e = .returned (.agg #[.int .i64 Q.users, .slice oa Q.who.length ca, .slice ob Q.fixed.length cb, .slice oc Q.rules.length cc]) ∧ Hid (w'.ownsRow V.heap.size 34 1 (.slice oa Q.who.length ca) Q.who.length (cellsW Q.who) ∧ w'.ownsRow V.heap.size 3 1 (.slice ob Q.fixed.length cb) Q.fixed.length (cellsI Q.fixed) ∧ TwS V.heap.size w' (.slice oc Q.rules.length cc) E ∧ E.map Prod.fst = Q.rules) ∧ Hid (Below V.heap.size V w')) := fun V a b c hV => hQg.out _ _ _ V hV.s.pv
  have K7 := hide' (wakesF w3 hSm.out.s.tab)
  clear hQb hQg
  go_wp2_with fail
  refine K7.out.mono ?_
  rintro e w4 ⟨rfl, hb4⟩
  have hS4 := hide' (hSm.out.over hb4)
  clear hb4 hSm K7
  have q := hS4.out.s.pb.all
  go_wp2_with fail
  refine (K1.out _ _ _ _ hS4.out).mono ?_
  rintro e w5 ⟨va, vb, vc, rfl, hq5, hb5, _⟩
  have hS5 := hide' (hS4.out.over hb5.out)
  clear q hS4 hb5
  go_wp2_with fail
  refine (K2.out _ _ _ _ hq5.out).mono ?_
  rintro e w6 ⟨rfl, hb6⟩
  have hS6 := hide' (hS5.out.over hb6)
  clear hS5 hb6 hq5 K2
  have q := hS6.out.s.pb.all
  by_cases hC : chkN Q = 0
  case neg =>
    as_aux_lemma =>
    have hne : (((chkN Q : Nat) : Int) != 0) = true := by rw [bne_iff_ne]; omega
    have hcan : canB Q = false := by
      cases e : canB Q with
      | false => rfl
      | true => obtain ⟨L, hL⟩ := (canB_iff _).1 e; exact absurd (holP_of hL).1 hC
    clear hC
    generalize ((chkN Q : Nat) : Int) = cc at *
    go_wp2_with fail
    refine (K1.out _ _ _ _ hS6.out).mono ?_
    rintro e w7 ⟨va, vb, vc, rfl, hq7, hb7, _⟩
    have hS7 := hide' (hS6.out.over hb7.out)
    clear q hS6 hb7
    go_wp2_with fail
    refine (K3.out _ _ _ _ Q _ _ _ hS7.out hq7.out hk.out (by decide) (by decide) (by decide)).mono ?_
    rintro e w8 ⟨rfl, a8, b8, c8, hg8, _, hf8⟩
    have hS8 := hide' (hS7.out.fr hf8.out hg8.out)
    rw [hcan]
    go_wp2
    go_ret
    exact ⟨rfl, hS8.out.s.be⟩
  have hne : (((chkN Q : Nat) : Int) != 0) = false := by rw [hC]; rfl
  have hC' := hide' hC
  clear hC
  generalize ((chkN Q : Nat) : Int) = cc at *
  go_wp2_with fail
  refine (K1.out _ _ _ _ hS6.out).mono ?_
  rintro e w7 ⟨va, vb, vc, rfl, hq7, hb7, _⟩
  have hS7 := hide' (hS6.out.over hb7.out)
  clear q hS6 hb7
  go_wp2_with fail
  refine (K3.out _ _ _ _ Q _ _ _ hS7.out hq7.out hk.out (by decide) (by decide) (by decide)).mono ?_
  rintro e w8 ⟨rfl, a8, b8, c8, hg8, hgc8, hf8⟩
  have hS8 := hide' (hS7.out.fr hf8.out hg8.out)
  have hle8 := hide' (hgc8.out.le (by decide))
  obtain ⟨cb, hcb⟩ : ∃ q, q = canB Q := ⟨_, rfl⟩
  rw [← hcb]
  have hcb' := hide' hcb
  clear hS7 hq7 hg8 hgc8 hf8 hcb
  have q := hS8.out.s.pb.all
  go_wp2_with fail
  refine (K9.out _ _ _ _ hS8.out).mono ?_
  rintro e w9 ⟨oa, ca, ob, cb2, oc, cc2, E, rfl, hO9, hb9⟩
  have hCp : Hid (Cp w8.heap.size (wdP Q ML 0) w9.heap.size (.slice oa Q.who.length ca) (.slice ob Q.fixed.length cb2) (.slice oc Q.rules.length cc2) E (w9.alloc (.cells #[.int .i64 Q.users, .slice oa Q.who.length ca, .slice ob Q.fixed.length cb2, .slice oc Q.rules.length cc2] 26))) := Cp.new (X := wdP Q ML 0) hO9.out.1 hO9.out.2.1 hO9.out.2.2.1 hO9.out.2.2.2 hb9.out.size
  have hbx : Hid (Below w8.heap.size w8 (w9.alloc (.cells #[.int .i64 Q.users, .slice oa Q.who.length ca, .slice ob Q.fixed.length cb2, .slice oc Q.rules.length cc2] 26))) := hb9.out.alloc hb9.out.size _
  clear q hO9 hb9
  go_upto_block 0 with fail
  generalize w9.heap.size = gx at *
  generalize w9.alloc (.cells #[.int .i64 Q.users, .slice oa Q.who.length ca, .slice ob Q.fixed.length cb2, .slice oc Q.rules.length cc2] 26) = w10 at *
  clear w9
  go_cut [11, 12] from 44 to 81 (fun _ _ wx => ∃ j, Hid (Cp w8.heap.size (wdP Q ML j) gx (.slice oa Q.who.length ca) (.slice ob Q.fixed.length cb2) (.slice oc Q.rules.length cc2) E wx) ∧ Hid (Below w8.heap.size w8 wx))
  case first =>
    as_aux_lemma =>
    clear K1 K3 K8 K9 hle8 hcb'
    go_wp2
    go_loopw [11, 12] (fun p _ wr => ∃ j : Nat, j ≤ Q.who.length ∧ j ≤ ML.length ∧ p = .int .i64 (j : Int) ∧ Hid (Cp w8.heap.size (wdP Q ML j) gx (.slice oa Q.who.length ca) (.slice ob Q.fixed.length cb2) (.slice oc Q.rules.length cc2) E wr) ∧ Hid (Below w8.heap.size w8 wr)) (fun p _ _ => ((Q.who.length : Int) - intOf p).toNat)
    case atStart => exact ⟨0, Nat.zero_le _, Nat.zero_le _, rfl, hCp, hbx⟩
    case round =>
      clear hCp hbx
      obtain ⟨j, hj1, hj2, rfl, hX, hB⟩ := hrel
      have p1 := hX.out.bx.c1
      have hql : Q.who.length ≤ 20 := hQl.out.1
      by_cases hl1 : j < Q.who.length
      · have hl1' : (j : Int) < (Q.who.length : Int) := by omega
        by_cases hl2 : j < ML.length
        · have hl2' : (j : Int) < (ML.length : Int) := by omega
          obtain ⟨z, hz⟩ : ∃ z, ML[j]? = some z := ⟨_, List.getElem?_eq_getElem hl2⟩
          obtain ⟨gm, o, e1, hzc⟩ : ∃ gm o, om = some ⟨gm, o, none⟩ ∧ wr.cell? ⟨gm, o + j, none⟩ = some (.int .u64 (z : Int)) := by
            obtain ⟨om2, cm2, e, _, hc⟩ := hm'.out.below (hS8.out.s.be.trans (hB.out.mono hS8.out.s.be.size)) (Nat.le_refl _)
            obtain ⟨gm, o, e2, e3⟩ := hc j z hz
            cases e
            exact ⟨gm, o, e2, e3⟩
          subst e1
          have hzl : z < 18446744073709551616 := hmw'.out z (List.mem_of_getElem? hz)
          obtain ⟨x, hx⟩ : ∃ x, Q.who[j]? = some x := ⟨_, List.getElem?_eq_getElem hl1⟩
          have hxl : x < 18446744073709551616 := hk.out.b x (List.mem_of_getElem? hx)
          obtain ⟨g12, g0, g64, g32, gF, gW, gR⟩ := chkN_zero hC'.out
          obtain ⟨U, hU⟩ := Int.eq_ofNat_of_zero_le g0
          have p0 : wr.cell? ⟨g, 0, none⟩ = some (.int .i64 (U : Int)) := by rw [← hU]; exact (hS8.out.over (by exact hB.out)).s.pb.c0
          have hUl : U ≤ 64 := by omega
          clear g12 g0 g64 g32 gF gW gR
          obtain ⟨gw, e1⟩ : ∃ gw, oa = some ⟨gw, 0, none⟩ := by
            rcases hX.out.r1.2 with ⟨e, e'⟩ | ⟨gw, cap, cur, e, _⟩
            · have : (wdP Q ML j).who.length = Q.who.length := wdW_len _ _ _ _
              omega
            · injection e with e2
              exact ⟨gw, e2⟩
          subst e1
          have hwl : (wdP Q ML j).who.length = Q.who.length := wdW_len _ _ _ _
          have hwj : (wdP Q ML j).who[j]? = some x := by
            show (wdW _ _ _ _)[j]? = _
            rw [wdW_at _ _ _ _ _ hl1, if_neg (by omega), hx]
          have hXr := hX.out.r1
          rw [hwl] at hXr
          have px : wr.cell? ⟨gw, j, none⟩ = some (.int .u64 (x : Int)) := by
            rw [hXr.cellAt j (by omega)]; unfold cellsW; rw [List.getElem?_map, hwj]; rfl
          have fx := hXr.frozenAt j
          obtain ⟨m, hmE⟩ : ∃ m, m = z &&& mskW Q.users := ⟨_, rfl⟩
          have hml : m < 18446744073709551616 := by rw [hmE]; exact Nat.lt_of_le_of_lt Nat.and_le_left hzl
          obtain ⟨y, hyE⟩ : ∃ y, y = x ||| m := ⟨_, rfl⟩
          have eo : bits .or .u64 (x : Int) (m : Int) = (y : Int) := by rw [hyE]; exact u64_or_nat x m hxl hml
          have hfin : Hid (∀ V, V = wr.drew.setCell ⟨gw, j, none⟩ (.int .u64 (y : Int)) → Cp w8.heap.size (wdP Q ML (j + 1)) gx (.slice (some ⟨gw, 0, none⟩) Q.who.length ca) (.slice ob Q.fixed.length cb2) (.slice oc Q.rules.length cc2) E V ∧ Below w8.heap.size w8 V) := fun V hV => by
            subst hV
            have hX1 := hX.out.over (Below.refl _ wr).drew
            rw [← hwl] at hX1
            have k := hX1.setW j y
            refine ⟨?_, hB.out.drew.setCell (p := ⟨gw, j, none⟩) k.2 _⟩
            have k1 := k.1
            rw [hwl] at k1
            have e : wdP Q ML (j + 1) = ⟨(wdP Q ML j).users, (wdP Q ML j).who.set j y, (wdP Q ML j).fixed, (wdP Q ML j).rules⟩ := by
              show (⟨Q.users, (wdW (mskW Q.users) Q.who ML j).set j (Q.who.getD j 0 ||| (ML.getD j 0 &&& mskW Q.users)), Q.fixed, Q.rules⟩ : Pb) = ⟨Q.users, (wdW (mskW Q.users) Q.who ML j).set j y, Q.fixed, Q.rules⟩
              rw [hyE, hmE, List.getD_eq_getElem?_getD, List.getD_eq_getElem?_getD, hx, hz]
              rfl
            rw [e]
            exact k1
          have hmE' := hide' hmE
          have hU' := hide' hU
          clear hX hXr hwj hwl hyE hmE hx hz hxl hB hU
          by_cases hU64 : U < 64
          · as_aux_lemma =>
            have hU64' : (U : Int) < 64 := by omega
            have ea : bits .and .u64 (z : Int) (IntKind.u64.wrap (IntKind.u64.wrap ((2 : Int) ^ U) - 1)) = (m : Int) := by
              have hq : 2 ^ U < 18446744073709551616 := Nat.lt_of_lt_of_le (Nat.pow_lt_pow_right (by decide) hU64) (Nat.le_refl (2 ^ 64))
              have hp : 0 < 2 ^ U := Nat.pow_pos (by decide)
              have e : IntKind.u64.wrap (IntKind.u64.wrap ((2 : Int) ^ U) - 1) = ((2 ^ U - 1 : Nat) : Int) := by
                rw [IntKind.wrap_u64, IntKind.wrap_u64, show ((2 : Int) ^ U) = ((2 ^ U : Nat) : Int) by push_cast; rfl]
                omega
              rw [e, u64_and_nat z (2 ^ U - 1) hzl (by omega), hmE'.out, hU'.out]
              unfold mskW
              rw [if_pos (by omega), Int.toNat_natCast]
            go_upto_region 15 with fail
            go_region
            all_goals
              go_wp2
              exact ⟨⟨j + 1, by omega, by omega, by go_num, (hfin.out _ (by first | rfl | assumption)).1, (hfin.out _ (by first | rfl | assumption)).2⟩, by simp [intOf]; omega⟩
          · as_aux_lemma =>
            have hU64' : ¬ (U : Int) < 64 := by omega
            obtain rfl : m = z := by
              rw [hmE'.out, hU'.out]
              unfold mskW
              rw [if_neg (by omega)]
              have := Nat.and_two_pow_sub_one_eq_mod z 64
              rw [show (2 : Nat) ^ 64 - 1 = 18446744073709551615 by decide] at this
              rw [this]
              exact Nat.mod_eq_of_lt hzl
            go_upto_region 15 with fail
            go_region
            all_goals
              go_wp2
              exact ⟨⟨j + 1, by omega, by omega, by go_num, (hfin.out _ (by first | rfl | assumption)).1, (hfin.out _ (by first | rfl | assumption)).2⟩, by simp [intOf]; omega⟩
        · have hl2' : ¬ (j : Int) < (ML.length : Int) := by omega
          go_wp2
          go_meet
          exact ⟨j, hX, hB⟩
      · have hl1' : ¬ (j : Int) < (Q.who.length : Int) := by omega
        go_wp2
        go_meet
        exact ⟨j, hX, hB⟩
  case rest =>
  clear hCp hbx
  obtain ⟨jx, hX, hB⟩ := hcut
  have hS9 := hide' (hS8.out.over hB.out)
  have hpX := hide' hX.out.pv
  have hqX := hide' hX.out.bx
  have hXok := hide' (wdP_ok hk.out hC'.out hmw'.out jx)
  have hXcan : Hid (cb = true → canB (wdP Q ML jx) = true) := fun e => wdP_can hC'.out hmw'.out jx (by rw [← hcb'.out]; exact e)
  have hnX : Hid (∀ ad n c, Value.slice oa Q.who.length ca = .slice (some ad) n c → ad.block ≠ gs) := fun ad n c e => by have := own_ge' hX.out.r1 (g := ad.block) (by rw [e]; rfl); have := hS8.out.s.gg.lt; omega
  have hgX : Hid (gx ≠ gs) := by have := hX.out.ge; have := hS8.out.s.gg.lt; show _ ≠ _; omega
  have hLs : Hid (∀ kk, Pok (lsR Q kk) ∧ (cb = true → canB (lsR Q kk) = true)) := fun kk => ⟨lsR_ok hk.out kk, fun e => lsR_can hC'.out kk (by rw [← hcb'.out]; exact e)⟩
  have hLs0 : Hid (Pok Q ∧ (cb = true → canB Q = true)) := ⟨hk.out, fun e => by rw [← hcb'.out]; exact e⟩
  have hXu : Hid ((wdP Q ML jx).users = Q.users) := rfl
  generalize wdP Q ML jx = X at *
  clear hX hB hS8 hm' hmw'
  have q := hS9.out.s.pb.all
  go_wp2_with fail
  refine (K9.out _ _ _ _ hS9.out).mono ?_
  rintro e w11 ⟨o1, c1, o2, c2, o3, c3, Ey, rfl, hO11, hb11⟩
  have hY : Hid (Cp wc.heap.size Q w11.heap.size (.slice o1 Q.who.length c1) (.slice o2 Q.fixed.length c2) (.slice o3 Q.rules.length c3) Ey (w11.alloc (.cells #[.int .i64 Q.users, .slice o1 Q.who.length c1, .slice o2 Q.fixed.length c2, .slice o3 Q.rules.length c3] 26))) := Cp.new (X := Q) hO11.out.1 hO11.out.2.1 hO11.out.2.2.1 hO11.out.2.2.2 hb11.out.size
  have hBy : Hid (Below wc.heap.size wc (w11.alloc (.cells #[.int .i64 Q.users, .slice o1 Q.who.length c1, .slice o2 Q.fixed.length c2, .slice o3 Q.rules.length c3] 26))) := hb11.out.alloc hb11.out.size _
  have hql2 : Q.rules.length ≤ 40 := hQl.out.2
  clear q hO11 hb11
  go_upto_region 17 with fail
  generalize w11.heap.size = gy at *
  generalize w11.alloc (.cells #[.int .i64 Q.users, .slice o1 Q.who.length c1, .slice o2 Q.fixed.length c2, .slice o3 Q.rules.length c3] 26) = w12 at *
  clear w11
  have y3 := hY.out.bx.c3
  go_upto_if 86 with fail
  go_cut [14] from 86 to 110 (fun _ wx => ∃ Y y1 y2 y3 E', Hid (Cp wc.heap.size Y gy y1 y2 y3 E' wx) ∧ Hid (Below wc.heap.size wc wx) ∧ Hid (Pok Y ∧ (cb = true → canB Y = true)))
  case first =>
    as_aux_lemma =>
    clear K1 K3 K8 K9 hle8 hcb' hXok hXcan hnX hgX hpX hqX hXu hS9
    by_cases hr0 : 0 < Q.rules.length
    · have hr0' : (0 : Int) < (Q.rules.length : Int) := by omega
      have hr1 : ¬ (Q.rules.length : Int) = 0 := by omega
      obtain ⟨g3, e1⟩ : ∃ g3, o3 = some ⟨g3, 0, none⟩ := by
        rcases hY.out.r3.row.2 with ⟨e, e'⟩ | ⟨g3, cap, cur, e, _⟩
        · injection e with e2 e3; omega
        · injection e with e2; exact ⟨g3, e2⟩
      subst e1
      have hc3 : Q.rules.length ≤ c3 := by
        rcases hY.out.r3.row.2 with ⟨e, e'⟩ | ⟨g3', cap, cur, e, _, _, h1, _⟩
        · cases e
        · injection e with e2 e3 e4; omega
      obtain ⟨t, hte⟩ : ∃ t, t = k.tmod (Q.rules.length : Int) := ⟨_, rfl⟩
      have ht1 : t < (Q.rules.length : Int) := by rw [hte]; exact Int.tmod_lt_of_pos k (by omega)
      have ht2 : -(Q.rules.length : Int) < t := by
        rw [hte]; exact Int.lt_tmod_of_pos k (by omega)
      have hte' : k.tmod (Q.rules.length : Int) = t := hte.symm
      clear hte
      go_upto_if 93 with fail
      go_cut [14] from 86 to 99 (fun av wx => ∃ kk : Nat, kk < Q.rules.length ∧ av = .int .i64 (kk : Int) ∧ wx = w12)
      case first =>
        as_aux_lemma =>
        by_cases hneg : t < 0
        · have e : t + (Q.rules.length : Int) = (((t + (Q.rules.length : Int)).toNat : Nat) : Int) := by omega
          have hlt : (t + (Q.rules.length : Int)).toNat < Q.rules.length := by omega
          generalize (t + (Q.rules.length : Int)).toNat = kk at *
          go_wp2
          go_meet
          exact ⟨kk, hlt, (by rw [← e]), (by first | trivial | rfl)⟩
        · obtain ⟨kk, rfl⟩ := Int.eq_ofNat_of_zero_le (show 0 ≤ t by omega)
          go_wp2
          go_meet
          exact ⟨kk, by omega, rfl, (by first | trivial | rfl)⟩
      case rest =>
        obtain ⟨kk, hkk, hav, hww⟩ := hcut
        subst hav hww
        have hs1 : ∀ W : World, (Instr.sliceAt 24 (.slice (some ⟨g3, 0, none⟩) Q.rules.length c3) none (some (.int .i64 (kk : Int))) none).run Tryd.prog W = .ok (.slice (some ⟨g3, 0, none⟩) kk c3) W := fun W => sliceH3 g3 kk _ c3 hkk hc3 W
        have hs2 : ∀ W : World, (Instr.sliceAt 24 (.slice (some ⟨g3, 0, none⟩) Q.rules.length c3) (some (.int .i64 ((kk : Int) + 1))) none none).run Tryd.prog W = .ok (.slice (some (adr3 g3 c3 kk)) (Q.rules.length - (kk + 1)) (c3 - (kk + 1))) W := fun W => sliceL3 g3 kk _ c3 hkk W
        have hwk : IntKind.i64.wrap ((kk : Int) + 1) = (kk : Int) + 1 := by rw [IntKind.wrap_i64]; omega
        go_upto_region 21 with fail
        have hYd := hide' (hY.out.over (Below.refl _ _).drew)
        have hByd := hide' (hBy.out.drew)
        have y3d := hYd.out.bx.c3
        clear hY hBy y3 hte' hLs0
        refine wp_region_held_drew (S := (fun _ => True)) (by kernel_rfl) ?_ (fun hHeld => ?_)
        · trivial
        refine wpAnyH_take (i := 0) (oi := { dst := some 99, op := Op.fieldAddr 26 (Operand.tmp 13) 3, type := 0, pos := "law.go:167", after := #[], guard := none }) (v := ?_) rfl (by kernel_rfl) (by kernel_rfl) (by kernel_rfl) (fun _ _ _ h => h) (Or.inl ⟨by rfl, ?_⟩) (by assumption) ?_
        rotate_left
        · intro w hSw; (try dsimp only at hSw); go_simp <;> with_reducible rfl
        simp only [Act.put, List.setIfInBounds_toArray, List.set_cons_zero, List.set_cons_succ]
        refine wpAnyH_take (i := 2) (oi := { dst := some 101, op := Op.move (Operand.tmp 14), type := 3, pos := "law.go:167", after := #[], guard := none }) (v := ?_) rfl (by kernel_rfl) (by kernel_rfl) (by kernel_rfl) (fun _ _ _ h => h) (Or.inl ⟨by rfl, ?_⟩) (by assumption) ?_
        rotate_left
        · intro w hSw; (try dsimp only at hSw); go_simp <;> with_reducible rfl
        simp only [Act.put, List.setIfInBounds_toArray, List.set_cons_zero, List.set_cons_succ]
        refine wpAnyH_take (i := 4) (oi := { dst := some 103, op := Op.fieldAddr 26 (Operand.tmp 13) 3, type := 0, pos := "law.go:167", after := #[], guard := none }) (v := ?_) rfl (by kernel_rfl) (by kernel_rfl) (by kernel_rfl) (fun _ _ _ h => h) (Or.inl ⟨by rfl, ?_⟩) (by assumption) ?_
        rotate_left
        · intro w hSw; (try dsimp only at hSw); go_simp <;> with_reducible rfl
        simp only [Act.put, List.setIfInBounds_toArray, List.set_cons_zero, List.set_cons_succ]
        refine wpAnyH_take (i := 6) (oi := { dst := some 105, op := Op.move (Operand.tmp 14), type := 3, pos := "law.go:167", after := #[], guard := none }) (v := ?_) rfl (by kernel_rfl) (by kernel_rfl) (by kernel_rfl) (fun _ _ _ h => h) (Or.inl ⟨by rfl, ?_⟩) (by assumption) ?_
        rotate_left
        · intro w hSw; (try dsimp only at hSw); go_simp <;> with_reducible rfl
        simp only [Act.put, List.setIfInBounds_toArray, List.set_cons_zero, List.set_cons_succ]
        refine wpAnyH_take (i := 7) (oi := { dst := some 106, op := Op.binOp BinOp.add 3 (Operand.tmp 105) (Operand.const (Value.int IntKind.i64 1)) 3, type := 3, pos := "law.go:167", after := #[{ on := 6, ground := Ground.data }], guard := none }) (v := ?_) rfl (by kernel_rfl) (by kernel_rfl) (by kernel_rfl) (fun _ _ _ h => h) (Or.inl ⟨by rfl, ?_⟩) (by assumption) ?_
        rotate_left
        · intro w hSw; (try dsimp only at hSw); go_simp <;> with_reducible rfl
        simp only [Act.put, List.setIfInBounds_toArray, List.set_cons_zero, List.set_cons_succ]
        refine wpAnyH_ready (rs := [1, 5]) (by kernel_rfl) (by simp) ?_
        refine AllReadyH.cons (o := { dst := some 100, op := Op.load 24 (Operand.tmp 99), type := 24, pos := "law.go:167", after := #[{ on := 0, ground := Ground.data }], guard := none }) rfl (fun K hK => ?_) ?_
        · skip
          go_simp
          refine hK.out _ _ ?_ (fun hHeld => ?_)
          · trivial
          clear hK K
          try simp only [Act.put, List.setIfInBounds_toArray, List.set_cons_zero, List.set_cons_succ]
          refine wpAnyH_take (i := 3) (oi := { dst := some 102, op := Op.slice 24 (Operand.tmp 100) none (some (Operand.tmp 101)) none, type := 24, pos := "law.go:167", after := #[{ on := 1, ground := Ground.data }, { on := 2, ground := Ground.data }], guard := none }) (v := ?_) rfl (by kernel_rfl) (by kernel_rfl) (by kernel_rfl) (fun _ _ _ h => h) (Or.inl ⟨by rfl, ?_⟩) (by assumption) ?_
          rotate_left
          · intro w hSw; (try dsimp only at hSw); go_simp <;> with_reducible rfl
          simp only [Act.put, List.setIfInBounds_toArray, List.set_cons_zero, List.set_cons_succ]
          refine wpAnyH_ready (rs := [5]) (by kernel_rfl) (by simp) ?_
          refine AllReadyH.cons (o := { dst := some 104, op := Op.load 24 (Operand.tmp 103), type := 24, pos := "law.go:167", after := #[{ on := 4, ground := Ground.data }], guard := none }) rfl (fun K hK => ?_) AllReadyH.nil
          go_simp
          refine hK.out _ _ ?_ (fun hHeld => ?_)
          · trivial
          clear hK K
          try simp only [Act.put, List.setIfInBounds_toArray, List.set_cons_zero, List.set_cons_succ]
          refine wpAnyH_take (i := 8) (oi := { dst := some 107, op := Op.slice 24 (Operand.tmp 104) (some (Operand.tmp 106)) none none, type := 24, pos := "law.go:167", after := #[{ on := 5, ground := Ground.data }, { on := 7, ground := Ground.data }], guard := none }) (v := ?_) rfl (by kernel_rfl) (by kernel_rfl) (by kernel_rfl) (fun _ _ _ h => h) (Or.inl ⟨by rfl, ?_⟩) (by assumption) ?_
          rotate_left
          · intro w hSw; (try dsimp only at hSw); go_simp <;> with_reducible rfl
          simp only [Act.put, List.setIfInBounds_toArray, List.set_cons_zero, List.set_cons_succ]
          refine wpAnyH_ready (rs := [9]) (by kernel_rfl) (by simp) ?_
          refine AllReadyH.cons (o := { dst := some 108, op := Op.call { callee := Callee.builtin Builtin.append, args := #[Operand.tmp 102, Operand.tmp 107], argTypes := #[24, 24] }, type := 24, pos := "law.go:167", after := #[{ on := 3, ground := Ground.data }, { on := 8, ground := Ground.data }], guard := none }) rfl (fun K hK => ?_) AllReadyH.nil
          rw [if_pos (by rfl)]
          refine app_less _ _ _ _ Q gy _ _ Ey g3 Q.rules.length c3 kk hkk rfl (by omega) rfl rfl rfl hYd.out (by have := hByd.out.size; exact this) ?_; intro o5 n5 c5 v5 hq5 hY5 hb5; have f5 := hq5.out.frz 3; have y5 := hq5.out.c3; (try dsimp only)
          refine hK.out _ _ ?_ (fun hHeld => ?_)
          · trivial
          clear hK K
          try simp only [Act.put, List.setIfInBounds_toArray, List.set_cons_zero, List.set_cons_succ]
          refine wpAnyH_take (i := 10) (oi := { dst := some 109, op := Op.fieldAddr 26 (Operand.tmp 13) 3, type := 0, pos := "law.go:167", after := #[{ on := 0, ground := Ground.phase }, { on := 1, ground := Ground.phase }, { on := 2, ground := Ground.phase }, { on := 3, ground := Ground.phase }, { on := 4, ground := Ground.phase }, { on := 5, ground := Ground.phase }, { on := 6, ground := Ground.phase }, { on := 7, ground := Ground.phase }, { on := 8, ground := Ground.phase }, { on := 9, ground := Ground.phase }], guard := none }) (v := ?_) rfl (by kernel_rfl) (by kernel_rfl) (by kernel_rfl) (fun _ _ _ h => h) (Or.inl ⟨by rfl, ?_⟩) (by assumption) ?_
          rotate_left
          · intro w hSw; (try dsimp only at hSw); go_simp <;> with_reducible rfl
          simp only [Act.put, List.setIfInBounds_toArray, List.set_cons_zero, List.set_cons_succ]
          refine wpAnyH_ready (rs := [11]) (by kernel_rfl) (by simp) ?_
          refine AllReadyH.cons (o := { dst := none, op := Op.store 24 (Operand.tmp 109) (Operand.tmp 108), type := 0, pos := "law.go:167", after := #[{ on := 10, ground := Ground.data }, { on := 9, ground := Ground.data }, { on := 9, ground := Ground.chain }, { on := 0, ground := Ground.phase }, { on := 1, ground := Ground.phase }, { on := 2, ground := Ground.phase }, { on := 3, ground := Ground.phase }, { on := 4, ground := Ground.phase }, { on := 5, ground := Ground.phase }, { on := 6, ground := Ground.phase }, { on := 7, ground := Ground.phase }, { on := 8, ground := Ground.phase }, { on := 9, ground := Ground.phase }], guard := none }) rfl (fun K hK => ?_) AllReadyH.nil
          go_simp
          refine hK.out _ _ ?_ (fun hHeld => ?_)
          · trivial
          clear hK K
          try simp only [Act.put, List.setIfInBounds_toArray, List.set_cons_zero, List.set_cons_succ]
          refine wpAnyH_done (by kernel_rfl) ?_ _
          skip
          go_wp2
          go_meet
          exact ⟨lsR Q kk, _, _, _, _, hY5, hByd.out.trans hb5.out, hLs.out kk⟩
        refine AllReadyH.cons (o := { dst := some 104, op := Op.load 24 (Operand.tmp 103), type := 24, pos := "law.go:167", after := #[{ on := 4, ground := Ground.data }], guard := none }) rfl (fun K hK => ?_) AllReadyH.nil
        go_simp
        refine hK.out _ _ ?_ (fun hHeld => ?_)
        · trivial
        clear hK K
        try simp only [Act.put, List.setIfInBounds_toArray, List.set_cons_zero, List.set_cons_succ]
        refine wpAnyH_take (i := 8) (oi := { dst := some 107, op := Op.slice 24 (Operand.tmp 104) (some (Operand.tmp 106)) none none, type := 24, pos := "law.go:167", after := #[{ on := 5, ground := Ground.data }, { on := 7, ground := Ground.data }], guard := none }) (v := ?_) rfl (by kernel_rfl) (by kernel_rfl) (by kernel_rfl) (fun _ _ _ h => h) (Or.inl ⟨by rfl, ?_⟩) (by assumption) ?_
        rotate_left
        · intro w hSw; (try dsimp only at hSw); go_simp <;> with_reducible rfl
        simp only [Act.put, List.setIfInBounds_toArray, List.set_cons_zero, List.set_cons_succ]
        refine wpAnyH_ready (rs := [1]) (by kernel_rfl) (by simp) ?_
        refine AllReadyH.cons (o := { dst := some 100, op := Op.load 24 (Operand.tmp 99), type := 24, pos := "law.go:167", after := #[{ on := 0, ground := Ground.data }], guard := none }) rfl (fun K hK => ?_) AllReadyH.nil
        go_simp
        refine hK.out _ _ ?_ (fun hHeld => ?_)
        · trivial
        clear hK K
        try simp only [Act.put, List.setIfInBounds_toArray, List.set_cons_zero, List.set_cons_succ]
        refine wpAnyH_take (i := 3) (oi := { dst := some 102, op := Op.slice 24 (Operand.tmp 100) none (some (Operand.tmp 101)) none, type := 24, pos := "law.go:167", after := #[{ on := 1, ground := Ground.data }, { on := 2, ground := Ground.data }], guard := none }) (v := ?_) rfl (by kernel_rfl) (by kernel_rfl) (by kernel_rfl) (fun _ _ _ h => h) (Or.inl ⟨by rfl, ?_⟩) (by assumption) ?_
        rotate_left
        · intro w hSw; (try dsimp only at hSw); go_simp <;> with_reducible rfl
        simp only [Act.put, List.setIfInBounds_toArray, List.set_cons_zero, List.set_cons_succ]
        refine wpAnyH_ready (rs := [9]) (by kernel_rfl) (by simp) ?_
        refine AllReadyH.cons (o := { dst := some 108, op := Op.call { callee := Callee.builtin Builtin.append, args := #[Operand.tmp 102, Operand.tmp 107], argTypes := #[24, 24] }, type := 24, pos := "law.go:167", after := #[{ on := 3, ground := Ground.data }, { on := 8, ground := Ground.data }], guard := none }) rfl (fun K hK => ?_) AllReadyH.nil
        rw [if_pos (by rfl)]
        refine app_less _ _ _ _ Q gy _ _ Ey g3 Q.rules.length c3 kk hkk rfl (by omega) rfl rfl rfl hYd.out (by have := hByd.out.size; exact this) ?_; intro o5 n5 c5 v5 hq5 hY5 hb5; have f5 := hq5.out.frz 3; have y5 := hq5.out.c3; (try dsimp only)
        refine hK.out _ _ ?_ (fun hHeld => ?_)
        · trivial
        clear hK K
        try simp only [Act.put, List.setIfInBounds_toArray, List.set_cons_zero, List.set_cons_succ]
        refine wpAnyH_take (i := 10) (oi := { dst := some 109, op := Op.fieldAddr 26 (Operand.tmp 13) 3, type := 0, pos := "law.go:167", after := #[{ on := 0, ground := Ground.phase }, { on := 1, ground := Ground.phase }, { on := 2, ground := Ground.phase }, { on := 3, ground := Ground.phase }, { on := 4, ground := Ground.phase }, { on := 5, ground := Ground.phase }, { on := 6, ground := Ground.phase }, { on := 7, ground := Ground.phase }, { on := 8, ground := Ground.phase }, { on := 9, ground := Ground.phase }], guard := none }) (v := ?_) rfl (by kernel_rfl) (by kernel_rfl) (by kernel_rfl) (fun _ _ _ h => h) (Or.inl ⟨by rfl, ?_⟩) (by assumption) ?_
        rotate_left
        · intro w hSw; (try dsimp only at hSw); go_simp <;> with_reducible rfl
        simp only [Act.put, List.setIfInBounds_toArray, List.set_cons_zero, List.set_cons_succ]
        refine wpAnyH_ready (rs := [11]) (by kernel_rfl) (by simp) ?_
        refine AllReadyH.cons (o := { dst := none, op := Op.store 24 (Operand.tmp 109) (Operand.tmp 108), type := 0, pos := "law.go:167", after := #[{ on := 10, ground := Ground.data }, { on := 9, ground := Ground.data }, { on := 9, ground := Ground.chain }, { on := 0, ground := Ground.phase }, { on := 1, ground := Ground.phase }, { on := 2, ground := Ground.phase }, { on := 3, ground := Ground.phase }, { on := 4, ground := Ground.phase }, { on := 5, ground := Ground.phase }, { on := 6, ground := Ground.phase }, { on := 7, ground := Ground.phase }, { on := 8, ground := Ground.phase }, { on := 9, ground := Ground.phase }], guard := none }) rfl (fun K hK => ?_) AllReadyH.nil
        go_simp
        refine hK.out _ _ ?_ (fun hHeld => ?_)
        · trivial
        clear hK K
        try simp only [Act.put, List.setIfInBounds_toArray, List.set_cons_zero, List.set_cons_succ]
        refine wpAnyH_done (by kernel_rfl) ?_ _
        skip
        go_wp2
        go_meet
        exact ⟨lsR Q kk, _, _, _, _, hY5, hByd.out.trans hb5.out, hLs.out kk⟩
    · have hr0' : ¬ (0 : Int) < (Q.rules.length : Int) := by omega
      go_wp2
      go_meet
      exact ⟨Q, _, _, _, _, hY, hBy, hLs0⟩
  case rest =>
  obtain ⟨Y, y1, y2, y3, Ez, hYc, hBc, hYf⟩ := hcut
  have hZ : Hid (Mz w Q (.slice ow Q.who.length cw) (.slice of Q.fixed.length cf) (.slice or Q.rules.length cr) g gs X gx (.slice oa Q.who.length ca) (.slice ob Q.fixed.length cb2) (.slice oc Q.rules.length cc2) Y gy y1 y2 y3 a8 b8 c8 wc) := ⟨hS9.out.over hBc.out, hpX.out.below hBc.out, hqX.out.of (hBc.out.block _ hqX.out.lt), hYc.out.pv, hYc.out.bx, hnX.out, (fun ad n c e => by have := own_ge' hYc.out.r1 (g := ad.block) (by rw [e]; rfl); have := hS9.out.s.gg.lt; omega), hgX.out, (by have := hYc.out.ge; have := hS9.out.s.gg.lt; omega)⟩
  clear hYc hBc hY hBy hS9 hpX hqX hnX hgX hLs hLs0 hC' K9
  cases cb
  case false =>
    as_aux_lemma =>
    have hls0 : canB Q = false := hcb'.out.symm
    have hS10 := hide' hZ.out.m
    clear hZ hXcan hYf hXok
    have q := hS10.out.s.pb.all
    go_wp2_with fail
    refine (K1.out _ _ _ _ hS10.out).mono ?_
    rintro e w13 ⟨va, vb, vc, rfl, hq13, hb13, hn13⟩
    have hS13 := hide' (hS10.out.over hb13.out)
    clear q hS10 hb13
    have hle := hle8.out
    have KL := hide' (K8.out _ a8 b8 c8 Q _ _ _ hS13.out hq13.out hk.out hn13.out (by omega) (by omega) (by omega))
    unfold LeP at KL
    clear hle
    go_wp2_with fail
    refine KL.out.mono ?_
    rintro e w14 ⟨⟨a14, b14, c14, hg14, _⟩, hf14, ⟨rfl, hls⟩ | ⟨v, l, rfl, hls, hown⟩⟩
    · have hS14 := hide' (hS13.out.fr hf14.out hg14.out)
      clear hS13 hq13 hn13 hf14 hg14 KL K1 K3 K8 hls
      go_wp2
      go_ret
      exact ⟨rfl, hS14.out.s.be⟩
    · have := (canB_iff Q).2 ⟨l, hls.out.1⟩
      rw [hls0] at this
      cases this
  case true =>
    as_aux_lemma =>
    have hcq : canB Q = true := hcb'.out.symm
    have hXc := hXcan.out rfl
    have hYc := hYf.out.2 rfl
    have hle := hle8.out
    have x0 := hZ.out.bx.c0
    have x1 := hZ.out.bx.c1
    have x2 := hZ.out.bx.c2
    have x3 := hZ.out.bx.c3
    have KX := hide' (K3.out _ a8 b8 c8 X _ _ _ hZ.out.m hZ.out.px hXok.out (by omega) (by omega) (by omega))
    rw [hXc] at KX
    clear hle
    go_wp2_with fail
    refine KX.out.mono ?_
    rintro e w13 ⟨rfl, a13, b13, c13, hg13, hgc13, hf13⟩
    have hZ13 := hide' (hZ.out.fr hf13.out hg13.out)
    have hle13 := hide' (hgc13.out.le (by decide))
    clear x0 x1 x2 x3 KX hZ hf13 hg13 hgc13
    have x0 := hZ13.out.bY.c0
    have x1 := hZ13.out.bY.c1
    have x2 := hZ13.out.bY.c2
    have x3 := hZ13.out.bY.c3
    have hle := hle8.out
    have hle1 := hle13.out
    have KY := hide' (K3.out _ a13 b13 c13 Y _ _ _ hZ13.out.m hZ13.out.py hYf.out.1 (by omega) (by omega) (by omega))
    rw [hYc] at KY
    clear hle hle1
    go_wp2_with fail
    refine KY.out.mono ?_
    rintro e w14 ⟨rfl, a14, b14, c14, hg14, hgc14, hf14⟩
    have hS14 := hide' ((hZ13.out.fr hf14.out hg14.out).m)
    have hle14 := hide' (hgc14.out.le (by decide))
    clear x0 x1 x2 x3 KY hZ13 hf14 hg14 hgc14 hXc hYc hXcan hYf hXok
    have q := hS14.out.s.pb.all
    go_wp2_with fail
    refine (K1.out _ _ _ _ hS14.out).mono ?_
    rintro e w15 ⟨va, vb, vc, rfl, hq15, hb15, hn15⟩
    have hS15 := hide' (hS14.out.over hb15.out)
    clear q hS14 hb15
    have hle := hle8.out
    have hle1 := hle13.out
    have hle2 := hle14.out
    have hbd : Hid (a14 ≤ 1000000000000000 ∧ b14 ≤ 1000000000000000 ∧ c14 ≤ 1000000000000000) := by show _ ∧ _ ∧ _; omega
    clear hle hle1 hle2 hle8 hle13 hle14
    have KL := hide' (K8.out _ a14 b14 c14 Q _ _ _ hS15.out hq15.out hk.out hn15.out (by have := hbd.out; omega) (by have := hbd.out; omega) (by have := hbd.out; omega))
    unfold LeP at KL
    go_wp2_with fail
    refine KL.out.mono ?_
    rintro e w16 ⟨⟨a16, b16, c16, hg16, hgc16⟩, hf16, ⟨rfl, hls⟩ | ⟨v, l, rfl, hls, hown⟩⟩
    · exfalso
      obtain ⟨L, hL⟩ := (canB_iff Q).1 hcq
      have := hls.out L
      rw [hL] at this
      cases this
    · have hS16 := hide' (hS15.out.fr hf16.out hg16.out)
      have hle16 := hide' (hgc16.out.le (by decide))
      have hr16 := hide' (RowI.of_owns hown.out)
      have hl := hide' hls.out.1
      have hll : Hid (l.length ≤ 20) := by have := (holP_of hl.out).2.1; have := hQl.out.1; show l.length ≤ 20; omega
      clear hS15 hq15 hn15 hf16 hg16 hgc16 KL hls hown
      have q := hS16.out.s.pb.all
      go_wp2_with fail
      refine (K1.out _ _ _ _ hS16.out).mono ?_
      rintro e w17 ⟨fa, fb, fc, rfl, hq17, hb17, hn17⟩
      obtain ⟨o4, c4, o5, c5, o6, c6, rfl, rfl, rfl⟩ := hq17.out.shape
      have hS17 := hide' (hS16.out.over hb17.out)
      have hr17 := hide' (hr16.out.below hb17.out (Nat.le_refl _))
      have hbb : Hid (Below w17.heap.size w17 (w17.alloc (.cells #[.int .i64 Q.users, (.slice o4 Q.who.length c4), (.slice o5 Q.fixed.length c5), (.slice o6 Q.rules.length c6)] 26))) := (Below.refl _ w17).alloc (Nat.le_refl _) _
      have hqb : Hid (QAt (w17.alloc (.cells #[.int .i64 Q.users, (.slice o4 Q.who.length c4), (.slice o5 Q.fixed.length c5), (.slice o6 Q.rules.length c6)] 26)) w17.heap.size Q.users (.slice o4 Q.who.length c4) (.slice o5 Q.fixed.length c5) (.slice o6 Q.rules.length c6)) := QAt.block (heap_new w17 _)
      have hzb : Hid ((w17.alloc (.cells #[.int .i64 Q.users, (.slice o4 Q.who.length c4), (.slice o5 Q.fixed.length c5), (.slice o6 Q.rules.length c6)] 26)).heap.size = w17.heap.size + 1) := World.size_alloc _ _
      clear q hS16 hr16 hb17
      have KR := hide' (rowS l v (w17.alloc (.cells #[.int .i64 Q.users, (.slice o4 Q.who.length c4), (.slice o5 Q.fixed.length c5), (.slice o6 Q.rules.length c6)] 26)) (hr17.out.below hbb.out (Nat.le_refl _)))
      go_wp2_with fail
      refine KR.out.mono ?_
      rintro e w18 ⟨v', rfl, hown, hb18⟩
      rw [List.take_of_length_le (by have := hll.out; omega)] at hown
      obtain ⟨o7, c7, rfl⟩ := own_shp hown
      have hq18 := hide' (hqb.out.of (hb18.block _ hqb.out.lt))
      have f2 := hq18.out.frz 2
      have d2 := hq18.out.c2
      have hq19 := hide' (hq18.out.s2 (.slice o7 l.length c7))
      have hgl : Hid (gs < w17.heap.size) := hS17.out.s.gg.lt
      have hB19 : Hid (Below w17.heap.size w17 (w18.setCell ⟨w17.heap.size, 2, none⟩ (.slice o7 l.length c7))) := (hbb.out.trans (hb18.mono hbb.out.size)).setCell (p := ⟨w17.heap.size, 2, none⟩) (Nat.le_refl _) _
      have hS19 := hide' (hS17.out.over hB19.out)
      have hP19 : Hid (PbV (w18.setCell ⟨w17.heap.size, 2, none⟩ (.slice o7 l.length c7)) (fxL Q l) (.slice o4 Q.who.length c4) (.slice o7 l.length c7) (.slice o6 Q.rules.length c6)) := ⟨(hq17.out.below hB19.out).who, RowI.of_owns (own_set hown (by have := hzb.out; omega) (.slice o7 l.length c7)), (hq17.out.below hB19.out).rules⟩
      have hr19 := hide' (hr17.out.below hB19.out (Nat.le_refl _))
      have hXo := hide' (fxL_ok hk.out hl.out)
      have hle := hle16.out
      have KM := hide' (K8.out _ a16 b16 c16 (fxL Q l) (.slice o4 Q.who.length c4) (.slice o7 l.length c7) (.slice o6 Q.rules.length c6) hS19.out hP19.out hXo.out hn17.out (by have := hbd.out; omega) (by have := hbd.out; omega) (by have := hbd.out; omega))
      have hU : (fxL Q l).users = Q.users := rfl
      rw [hU] at KM
      unfold LeP at KM
      have x0 := hq19.out.c0
      have x1 := hq19.out.c1
      have x2 := hq19.out.c2
      have x3 := hq19.out.c3
      have hlo : Hid (∀ L, holP (fxL Q l) L = true → L = l) := fun L hL => fxL_one hl.out hL
      have hlh := hide' (fxL_holds hl.out)
      clear hle hq18 hq17 hr17 hbb hqb hzb hS17 KR hb18 hown hP19 hXo hB19 hn17
      generalize fxL Q l = Z at *
      go_wp2_with fail
      refine KM.out.mono ?_
      rintro e w20 ⟨⟨a20, b20, c20, hg20, _⟩, hf20, ⟨rfl, hls⟩ | ⟨v2, l2, rfl, hls, hown2⟩⟩
      · exfalso
        have := hls.out l
        rw [hlh.out] at this
        cases this
      · have hS20 := hide' (hS19.out.fr hf20.out hg20.out)
        have e2 := hlo.out l2 hls.out.1
        subst e2
        have hr20 := hide' (rowI_frame hr19.out hS19.out.s.gg fun k hk e => hf20.out.block k hk e e)
        have KI := hide' (K.keepInts l2 l2 v2 v w20 (RowI.of_owns hown2.out) hr20.out (by have := hll.out; omega) (by have := hll.out; omega))
        rw [decide_eq_true rfl] at KI
        clear x0 x1 x2 x3 KM hS19 hr19 hf20 hg20 hls hown2 hlo hlh K1 K3 K8
        go_wp2_with fail
        refine KI.out.mono ?_
        rintro e w21 ⟨rfl, hb21⟩
        have hS21 := hide' (hS20.out.over hb21)
        go_wp2
        go_ret
        exact ⟨rfl, hS21.out.s.be⟩
end Go.Proofs.YtdcenbkminbpgaaDoor.S
