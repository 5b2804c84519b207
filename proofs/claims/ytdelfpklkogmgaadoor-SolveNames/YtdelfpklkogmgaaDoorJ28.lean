/- SolveNames, walked. -/
import Derived.Test.YtdelfpklkogmgaaDoorJ26
import Derived.Deep.QuietTactic
import Derived.BigQuiet
import Derived.Deep.CutRange
import Derived.Deep.CutBlock
import Derived.Deep.RegionHeld3
import Derived.Laws.MakeOwn
namespace Go.Proofs.YtdelfpklkogmgaaDoor.S
open Go.RowKit Go.Shelf
attribute [local irreducible] wpQuiet
theorem turn_u (a : Int) {n : Nat} (h1 : 1 ≤ n) (hl : n ≤ 64) : ∃ k : Nat, (wrap64 (a.tmod (n : Int) + (n : Int))).tmod (n : Int) = (k : Int) ∧ k < n := by
  have h2 := Int.tmod_lt_of_pos a (show (0 : Int) < (n : Int) by omega)
  have h3 := Int.lt_tmod_of_pos a (show (0 : Int) < (n : Int) by omega)
  generalize a.tmod (n : Int) = x at *
  rw [show wrap64 (x + (n : Int)) = x + (n : Int) by unfold wrap64; omega, Int.tmod_eq_emod_of_nonneg (by omega)]
  have h4 := Int.emod_nonneg (x + (n : Int)) (show (n : Int) ≠ 0 by omega)
  have h5 := Int.emod_lt_of_pos (x + (n : Int)) (show (0 : Int) < (n : Int) by omega)
  exact ⟨((x + (n : Int)) % (n : Int)).toNat, by omega, by omega⟩
/-- What stands at the end: the problem, the solver, the problem renumbered. -/
structure Fn (w : World) (Q : Pb) (qw qf qr : Value) (g gs : Nat) (X : Pb) (gx : Nat) (x1 x2 x3 : Value) (a b c : Nat) (V : World) : Prop where
  sv : SvS w Q qw qf qr g gs a b c V
  px : PbV V X x1 x2 x3
  bx : QAt V gx X.users x1 x2 x3
  nx : ∀ ad n c, x1 = .slice (some ad) n c → ad.block ≠ gs
  gxs : gx ≠ gs
  hgs : w.heap.size ≤ gs
  hne : ∀ ad n c, qw = .slice (some ad) n c → ad.block ≠ gs
  hgp : g ≠ gs
  hG : 1 ≤ gs
section
variable {w : World} {Q : Pb} {qw qf qr : Value} {g gs : Nat} {X : Pb} {gx : Nat} {x1 x2 x3 : Value} {a b c a' b' c' : Nat} {V V' : World}
theorem Fn.over (h : Fn w Q qw qf qr g gs X gx x1 x2 x3 a b c V) (hb : Below V.heap.size V V') : Fn w Q qw qf qr g gs X gx x1 x2 x3 a b c V' := { h with sv := h.sv.over hb, px := h.px.below hb, bx := h.bx.of (hb.block _ h.bx.lt) }
theorem Fn.fr (h : Fn w Q qw qf qr g gs X gx x1 x2 x3 a b c V) (hf : M.Fr2 V V' gs gs) (hg : GgAt V' gs a' b' c') : Fn w Q qw qf qr g gs X gx x1 x2 x3 a' b' c' V' := { h with sv := h.sv.fr hf hg h.hgs h.hne h.hgp h.hG, px := pbV_frame h.px h.sv.gg h.nx hf, bx := h.bx.of (hf.block _ h.bx.lt h.gxs h.gxs) }
end
theorem drwN (w : World) (n : Nat) : Below w.heap.size w (w.drewN n) := ⟨rfl, rfl, rfl, Nat.le_refl _, fun _ _ => rfl⟩
set_option maxRecDepth 100000 in
set_option maxHeartbeats 16000000 in
theorem solveNames_walk (P : Pb) (wv fv rv : Value) (TL : List Int) (tv : Value) (w : World) (h : PbV w P wv fv rv) (hT : RowI w tv TL) (hb : ∀ z ∈ P.who, z < 18446744073709551616) (ht : M.Tab w) :
    Calls Tryd.prog 3 #[pbV P wv fv rv, tv] w fun e w' => e = .returned (.bool true) ∧ Below w.heap.size w w' := by
  have hQg := hide' (cutGH P)
  have hT' := hide' hT
  obtain ⟨ot, ct, rfl, hct, _⟩ := hT
  have hB0 : Hid (Below w.heap.size w (w.alloc (.cells #[.int .i64 P.users, wv, fv, rv] 26))) := (Below.refl _ w).alloc (Nat.le_refl _) _
  have K0 := hide' (cutC P wv fv rv _ (h.below hB0.out))
  have hk := hide' (cutP_ok hb)
  have ht' := hide' ht
  have hGw := ht.2
  have hQb : Hid (∀ V (a b c : Value), PbV V (cutP P) a b c → Calls Tryd.prog 4 #[pbV (cutP P) a b c] V fun e w' => ∃ va vb vc, e = .returned (pbV (cutP P) va vb vc) ∧ Hid (PbV w' (cutP P) va vb vc) ∧ Hid (Below V.heap.size V w') ∧ Hid (∀ ad n c, va = .slice (some ad) n c → V.heap.size ≤ ad.block ∧ ad.block < w'.heap.size)) := fun V a b c hq => cutD P a b c V hq
  have hQl : Hid ((cutP P).who.length ≤ 20) := by show (P.who.take 20).length ≤ 20; rw [List.length_take]; omega
  clear h ht hb
  unfold pbV at K0 hQb hQg ⊢
  generalize cutP P = Q at *
  go_enter Tryd.func3, Tryd.ntmps3
  go_wp2_with fail
  refine K0.out.mono ?_
  rintro e w1 ⟨qw, qf, qr, rfl, hq1, hb1, ho1⟩
  have hB1 : Hid (Below w.heap.size w w1) := hB0.out.trans (hb1.out.mono hB0.out.size)
  obtain ⟨ow, cw, of, cf, or, cr, rfl, rfl, rfl⟩ := hq1.out.shape
  have hs0 := hB0.out.size
  clear hb1 hB0 K0
  go_wp2_with fail
  refine (newF _).mono ?_
  rintro e w3 ⟨rfl, hg3, hb3⟩
  have hS := hide' (SvS.start hB1.out hq1.out ht'.out hg3.out hb3.out)
  have hz : (w1.alloc (.cells #[.int .i64 Q.users, .slice ow Q.who.length cw, .slice of Q.fixed.length cf, .slice or Q.rules.length cr] 26)).heap.size = w1.heap.size + 1 := by simp
  have hne : Hid (∀ ad n c, Value.slice ow Q.who.length cw = .slice (some ad) n c → ad.block ≠ (w1.alloc (.cells #[.int .i64 Q.users, .slice ow Q.who.length cw, .slice of Q.fixed.length cf, .slice or Q.rules.length cr] 26)).heap.size) := fun ad n c e => by have := (ho1.out ad n c e).2; omega
  have hgp : Hid (w1.heap.size ≠ (w1.alloc (.cells #[.int .i64 Q.users, .slice ow Q.who.length cw, .slice of Q.fixed.length cf, .slice or Q.rules.length cr] 26)).heap.size) := by show _ ≠ _; omega
  have hgs : Hid (w.heap.size ≤ (w1.alloc (.cells #[.int .i64 Q.users, .slice ow Q.who.length cw, .slice of Q.fixed.length cf, .slice or Q.rules.length cr] 26)).heap.size) := by have := hB1.out.size; show _ ≤ _; omega
  clear hg3 hb3 hq1 ho1 hs0 hz hB1 ht'
  generalize (w1.alloc (.cells #[.int .i64 Q.users, .slice ow Q.who.length cw, .slice of Q.fixed.length cf, .slice or Q.rules.length cr] 26)).heap.size = gs at *
  generalize w1.heap.size = g at *
  have hG : Hid (1 ≤ gs) := Nat.le_trans hGw hgs.out
  have K1 : Hid (∀ V a b c, SvS w Q (.slice ow Q.who.length cw) (.slice of Q.fixed.length cf) (.slice or Q.rules.length cr) g gs a b c V → Calls Tryd.prog 4 #[.agg #[.int .i64 Q.users, .slice ow Q.who.length cw, .slice of Q.fixed.length cf, .slice or Q.rules.length cr]] V fun e w' => ∃ va vb vc, e = .returned (.agg #[.int .i64 Q.users, va, vb, vc]) ∧ Hid (PbV w' Q va vb vc) ∧ Hid (Below V.heap.size V w') ∧ Hid (∀ ad n c, va = .slice (some ad) n c → V.heap.size ≤ ad.block ∧ ad.block < w'.heap.size)) := fun V a b c hV => hQb.out V _ _ _ hV.pv
  have K7 : Hid (∀ V, SvS w Q (.slice ow Q.who.length cw) (.slice of Q.fixed.length cf) (.slice or Q.rules.length cr) g gs 0 0 0 V → Calls Tryd.prog 6 #[] V fun e w' => e = .returned (.bool true) ∧ Below V.heap.size V w') := fun V hV => wakesF V hV.tab
  have K2 : Hid (∀ V va vb vc, PbV V Q va vb vc → Calls Tryd.prog 7 #[.agg #[.int .i64 Q.users, va, vb, vc]] V fun e w' => e = .returned (.int .i64 (chkN Q : Int)) ∧ Below V.heap.size V w') := fun V va vb vc hV => checkPF Q va vb vc V hV hk.out.w hk.out.f hk.out.r hk.out.s hk.out.b
  clear hQb
  go_wp2_with fail
  refine (K7.out _ hS.out).mono ?_
  rintro e w4 ⟨rfl, hb4⟩
  have hS4 := hide' (hS.out.over hb4)
  clear hb4 hS K7
  have q := hS4.out.pb.all
  go_wp2_with fail
  refine (K1.out _ _ _ _ hS4.out).mono ?_
  rintro e w5 ⟨va, vb, vc, rfl, hq5, hb5, ho5⟩
  have hS5 := hide' (hS4.out.over hb5.out)
  have KC := hide' (K2.out _ _ _ _ hq5.out)
  obtain ⟨x1, y1, x2, y2, x3, y3, rfl, rfl, rfl⟩ := hq5.out.shape
  clear q hb5 ho5 hS4 hq5
  go_wp2_with fail
  refine KC.out.mono ?_
  rintro e w6 ⟨rfl, hb6⟩
  have hS6 := hide' (hS5.out.over hb6)
  clear KC hS5 hb6 K2
  by_cases hC : chkN Q = 0
  case neg =>
    have hne : ¬ ((chkN Q : Nat) : Int) = 0 := by omega
    have hne' : (((chkN Q : Nat) : Int) != 0) = true := by rw [bne_iff_ne]; exact hne
    have hF := hide' hS6.out.be
    clear hS6 K1 hQg hk hC
    generalize ((chkN Q : Nat) : Int) = z at *
    go_wp2
    go_ret
    exact ⟨rfl, hF.out⟩
  have hC' := hide' hC
  obtain ⟨g12, g0, g64, _, gF, _, _⟩ := chkN_zero hC
  have hfl : Hid (Q.fixed.length = Q.who.length) := (fixB_of gF g64).1
  have hfx : Hid (∀ x ∈ Q.fixed, x = -1 ∨ (0 ≤ x ∧ x < Q.users)) := fun x hx => by
    unfold fixB at gF
    rw [Bool.and_eq_true, List.all_eq_true] at gF
    have := gF.1 x hx
    unfold isU at this
    simpa using this
  obtain ⟨U, hU⟩ : ∃ U : Nat, Q.users = (U : Int) := ⟨Q.users.toNat, by omega⟩
  have hU' := hide' hU
  have hU64 : U ≤ 64 := by omega
  have q6 := hS6.out.pb.all
  rw [hU] at q6
  rw [hC]
  clear g0 g64 gF hC
  by_cases hU1 : U < 1
  · have hU1' : (U : Int) < 1 := by omega
    have hF := hide' hS6.out.be
    clear hS6 K1 hQg hk hC' hU
    go_wp2
    go_ret
    exact ⟨rfl, hF.out⟩
  have hU1' : ¬ (U : Int) < 1 := by omega
  have hUn : 1 ≤ U := by omega
  obtain ⟨i0, hi, hz0, hz1, hz2⟩ := info_parts info3
  have hqc : Hid (∀ V, Below w6.heap.size w6 V → V.cell? ⟨g, 0, none⟩ = some (.int .i64 (U : Int)) ∧ V.cell? ⟨g, 1, none⟩ = some (.slice ow Q.who.length cw) ∧ V.cell? ⟨g, 2, none⟩ = some (.slice of Q.fixed.length cf) ∧ V.cell? ⟨g, 3, none⟩ = some (.slice or Q.rules.length cr)) := fun V hV => by
    have := (hS6.out.over hV).pb.all
    rw [hU'.out] at this
    exact this
  clear hU
  obtain ⟨gz, hgz⟩ : ∃ x, x = w6.heap.size := ⟨_, rfl⟩
  go_upto_block 0 with (at_make; refine wpList_make_full _ rfl _ _ 23 rfl w6.heap.size 3 i0 (.int .i64 0) 1 Tryd.underlying23 hi hz0 hz1 .i64 .i64 _ _ U rfl rfl rfl rfl (by rw [hz2]; omega) (by unfold maxLen; omega) (by simp) ?_; intro w7 hrow hgrow; have hB7 : Below w6.heap.size w6 w7 := (Below.refl _ w6).grown hgrow (Nat.le_refl _) (fun j ej => by cases ej))
  have hN0 : Hid (Nm w6 gz U (twI U 0) w7) := by
    refine ⟨?_, hB7⟩
    have h := hrow
    rw [show (Value.int .i64 0).cells = #[.int .i64 0] from rfl, toList_madeCells_one, Nat.mul_one] at h
    rw [twI_zero, hgz]
    exact h
  rw [← hgz]
  clear hrow hgrow hB7 hgz q6 hi hz0 hz1 hz2
  go_cut [8] from 36 to 45 (fun _ wx => Hid (Nm w6 gz U (List.range U) wx))
  case first => as_aux_lemma =>
    go_wp2
    go_loopw [8] (fun k wr => ∃ i : Nat, i ≤ U ∧ k = .int .i64 (i : Int) ∧ Hid (Nm w6 gz U (twI U i) wr)) (fun k _ => ((U : Int) - intOf k).toNat)
    case atStart => exact ⟨0, Nat.zero_le _, rfl, hN0⟩
    case round =>
      clear hN0
      obtain ⟨i, hiU, rfl, hN⟩ := hrel
      obtain ⟨q0, _⟩ := hqc.out wr hN.out.be
      by_cases hlt : i < U
      · have c0 := hN.out.at (twI_at hlt)
        have f0 := hN.out.frz i
        have hN2 : Hid (Nm w6 gz U (twI U (i + 1)) (wr.setCell ⟨gz, i, none⟩ (.int .i64 (i : Int)))) := by rw [← twI_set hlt]; exact hN.out.set i i
        clear hN hqc hS6 K1 hQg
        go_wp2
        exact ⟨⟨i + 1, by omega, by go_num, hN2⟩, by simp [intOf]; omega⟩
      · obtain rfl : i = U := by omega
        rw [twI_all] at hN
        clear hqc hS6 K1 hQg
        go_wp2
        go_meet
        exact hN
  case rest =>
  clear hN0
  have hN0 := hcut
  clear hcut
  go_upto_block 2 with fail
  go_cut [9, 10, 11] from 46 to 97 (fun _ _ _ wx => ∃ tw, Hid (ToOk tw U) ∧ Hid (Nm w6 gz U tw wx))
  case first => as_aux_lemma =>
    go_wp2
    go_loopw [9, 10, 11] (fun k _ _ wr => ∃ (kk : Nat) (tw : List Nat), kk ≤ 201 ∧ kk ≤ TL.length + 1 ∧ k = .int .i64 (kk : Int) ∧ Hid (ToOk tw U) ∧ Hid (Nm w6 gz U tw wr)) (fun k _ _ _ => ((202 : Int) - intOf k).toNat)
    case atStart => exact ⟨0, List.range U, Nat.zero_le _, Nat.zero_le _, rfl, range_ok U, hN0⟩
    case round =>
      clear hN0
      obtain ⟨kk, tw, hk1, hk2, rfl, hOk, hN⟩ := hrel
      by_cases hlt : kk + 1 < TL.length
      · have hlt' : (kk : Int) + 1 < (TL.length : Int) := by omega
        by_cases hl2 : kk < 200
        · have hl2' : (kk : Int) < 200 := by omega
          obtain ⟨q0, _⟩ := hqc.out wr hN.out.be
          obtain ⟨x, hx⟩ : ∃ x, TL[kk]? = some x := ⟨_, List.getElem?_eq_getElem (by omega)⟩
          obtain ⟨y, hy⟩ : ∃ y, TL[kk + 1]? = some y := ⟨_, List.getElem?_eq_getElem hlt⟩
          obtain ⟨gt, o, rfl, cx, cy⟩ : ∃ gt o, ot = some ⟨gt, o, none⟩ ∧ wr.cell? ⟨gt, o + kk, none⟩ = some (.int .i64 x) ∧ wr.cell? ⟨gt, o + (kk + 1), none⟩ = some (.int .i64 y) := by
            obtain ⟨ot2, ct2, e, _, hc⟩ := hT'.out.below (hS6.out.be.trans (hN.out.be.mono hS6.out.be.size)) (Nat.le_refl _)
            injection e with e1 _ _
            obtain ⟨g1, o1, e2, e3⟩ := hc kk x hx
            obtain ⟨g2, o2, e4, e5⟩ := hc (kk + 1) y hy
            rw [e2] at e4
            cases e4
            exact ⟨g1, o1, e1.trans e2, e3, e5⟩
          obtain ⟨a, ha1, ha2⟩ := turn_u x hUn hU64
          obtain ⟨b, hb1, hb2⟩ := turn_u y hUn hU64
          have ha1' := hide' ha1
          have hb1' := hide' hb1
          have hct1 := hct.1
          have hUz : ¬ (U : Int) = 0 := by omega
          clear ha1 hb1 hx hy hqc hS6 K1 hQg hT'
          go_upto_region 15 with fail
          go_quiet (fail)
          obtain ⟨n1, hn1⟩ : ∃ n, n = nq := ⟨_, rfl⟩
          rw [← hn1]
          clear hn1
          go_upto_region 16 with fail
          go_quiet (fail)
          go_upto_region 17 with fail
          rw [ha1'.out, hb1'.out]
          obtain ⟨W1, hW1⟩ : ∃ W, W = (wr.drewN n1).drewN nq := ⟨_, rfl⟩
          have hN1 : Hid (Nm w6 gz U tw W1) := by rw [hW1]; exact (hN.out.over (drwN _ _)).over (drwN _ _)
          rw [← hW1]
          clear hW1 cx cy q0 ha1' hb1' hN
          have hlen := hN1.out.len
          obtain ⟨xa, hxa⟩ : ∃ x, tw[a]? = some x := ⟨_, List.getElem?_eq_getElem (by omega)⟩
          obtain ⟨xb, hxb⟩ : ∃ x, tw[b]? = some x := ⟨_, List.getElem?_eq_getElem (by omega)⟩
          have hOk2 := swap_ok hOk.out ha2 hb2
          rw [show tw.getD b 0 = xb by simp [hxb], show tw.getD a 0 = xa by simp [hxa]] at hOk2
          have hOk2' := hide' hOk2
          have c1 := hN1.out.at hxa
          have c2 := hN1.out.at hxb
          have f1 := hN1.out.frz a
          have hN2 := hN1.out.set a xb
          obtain ⟨xc, hxc⟩ : ∃ x, (tw.set a xb)[b]? = some x := ⟨_, List.getElem?_eq_getElem (by rw [List.length_set]; omega)⟩
          have c3 := hN2.at hxc
          have f3 := hN1.out.frz b
          have hN3 := hide' ((hN2.set b xa).over (Below.refl _ _).drew)
          clear hN2 hxa hxb hxc hOk hOk2 hN1 hlen
          go_region
          all_goals
            go_wp2
            exact ⟨⟨kk + 2, _, by omega, by omega, by go_num, hOk2', hN3⟩, by simp [intOf]; omega⟩
        · have hl2' : ¬ (kk : Int) < 200 := by omega
          clear hqc hS6 K1 hQg hT'
          go_wp2
          go_meet
          exact ⟨tw, hOk, hN⟩
      · have hlt' : ¬ (kk : Int) + 1 < (TL.length : Int) := by omega
        clear hqc hS6 K1 hQg hT'
        go_wp2
        go_meet
        exact ⟨tw, hOk, hN⟩
  case rest =>
  clear hN0
  obtain ⟨tw, hOk, hN⟩ := hcut
  obtain ⟨Wn, rfl⟩ : ∃ W, W = wc := ⟨_, rfl⟩
  have hSn := hide' (hS6.out.over hN.out.be)
  have hlw := hN.out.len
  have qn := hqc.out Wn hN.out.be
  have KG := hide' (hQg.out _ _ _ Wn hSn.out.pv)
  rw [hU'.out] at KG
  clear hQg
  go_wp2_with fail
  refine KG.out.mono ?_
  rintro e w9 ⟨oa, ca, ob, cb, oc, cc, E, rfl, hown, hDj, hb9⟩
  obtain ⟨h1, h2, h3, h4⟩ := hown.out
  have hCp0 : Hid (Cp Wn.heap.size (mxP Q tw 0) w9.heap.size (.slice oa Q.who.length ca) (.slice ob Q.fixed.length cb) (.slice oc Q.rules.length cc) E (w9.alloc (.cells #[.int .i64 (U : Int), .slice oa Q.who.length ca, .slice ob Q.fixed.length cb, .slice oc Q.rules.length cc] 26))) := by
    have := Cp.new (X := Q) h1 h2 h3 h4 hb9.out.size
    rw [hU'.out] at this
    rw [mxP_zero]
    exact this
  have hBn0 : Hid (Below Wn.heap.size Wn (w9.alloc (.cells #[.int .i64 (U : Int), .slice oa Q.who.length ca, .slice ob Q.fixed.length cb, .slice oc Q.rules.length cc] 26))) := hb9.out.alloc hb9.out.size _
  have hq : Hid (∀ V, Below Wn.heap.size Wn V → V.cell? ⟨g, 0, none⟩ = some (.int .i64 (U : Int)) ∧ V.cell? ⟨g, 1, none⟩ = some (.slice ow Q.who.length cw) ∧ V.cell? ⟨g, 2, none⟩ = some (.slice of Q.fixed.length cf) ∧ V.cell? ⟨g, 3, none⟩ = some (.slice or Q.rules.length cr)) := fun V hV => hqc.out V (hN.out.be.trans (hV.mono hN.out.be.size))
  have hqw : Hid (∀ (V : World) (i z : Nat), Below Wn.heap.size Wn V → Q.who[i]? = some z → ∃ g1 o1, ow = some ⟨g1, o1, none⟩ ∧ V.cell? ⟨g1, o1 + i, none⟩ = some (.int .u64 (z : Int))) := fun V i z hV hz => by
    obtain ⟨oa1, ca1, e, _, hc⟩ := (hSn.out.pv.below hV).who
    injection e with e1 _ _
    obtain ⟨g1, o1, e2, e3⟩ := hc i z hz
    exact ⟨g1, o1, e1.trans e2, e3⟩
  have hqf : Hid (∀ (V : World) (i : Nat) (x : Int), Below Wn.heap.size Wn V → Q.fixed[i]? = some x → ∃ g1 o1, of = some ⟨g1, o1, none⟩ ∧ V.cell? ⟨g1, o1 + i, none⟩ = some (.int .i64 x)) := fun V i x hV hx => by
    obtain ⟨oa1, ca1, e, _, hc⟩ := (hSn.out.pv.below hV).fixed
    injection e with e1 _ _
    obtain ⟨g1, o1, e2, e3⟩ := hc i x hx
    exact ⟨g1, o1, e1.trans e2, e3⟩
  clear qn KG h1 h2 h3 h4 hown hb9 hqc
  go_upto_block 4 with fail
  obtain ⟨W10, hW10⟩ : ∃ W, W = w9.alloc (.cells #[.int .i64 (U : Int), .slice oa Q.who.length ca, .slice ob Q.fixed.length cb, .slice oc Q.rules.length cc] 26) := ⟨_, rfl⟩
  rw [← hW10] at hCp0 hBn0 ⊢
  clear hW10
  generalize w9.heap.size = gx at *
  go_cut [13, 14] from 100 to 158 (fun _ _ wx => Hid (Cp Wn.heap.size (renP Q tw) gx (.slice oa Q.who.length ca) (.slice ob Q.fixed.length cb) (.slice oc Q.rules.length cc) E wx) ∧ Hid (Below Wn.heap.size Wn wx))
  case first => as_aux_lemma =>
    go_wp2
    go_loopw [13, 14] (fun k _ wr => ∃ i : Nat, i ≤ Q.who.length ∧ k = .int .i64 (i : Int) ∧ Hid (Cp Wn.heap.size (mxP Q tw i) gx (.slice oa Q.who.length ca) (.slice ob Q.fixed.length cb) (.slice oc Q.rules.length cc) E wr) ∧ Hid (Below Wn.heap.size Wn wr)) (fun k _ _ => ((Q.who.length : Int) - intOf k).toNat)
    case atStart => exact ⟨0, Nat.zero_le _, rfl, hCp0, hBn0⟩
    case round =>
      clear hCp0 hBn0
      obtain ⟨i, hin, rfl, hX, hB⟩ := hrel
      obtain ⟨_, q1, q2, _⟩ := hq.out wr hB.out
      by_cases hlt : i < Q.who.length
      · have hlt' : (i : Int) < (Q.who.length : Int) := by omega
        obtain ⟨z, hz⟩ : ∃ z, Q.who[i]? = some z := ⟨_, List.getElem?_eq_getElem hlt⟩
        obtain ⟨x, hx⟩ : ∃ x, Q.fixed[i]? = some x := ⟨_, List.getElem?_eq_getElem (by rw [hfl.out]; exact hlt)⟩
        have hzl : z < 18446744073709551616 := hk.out.b z (List.mem_of_getElem? hz)
        have hxr := hfx.out x (List.mem_of_getElem? hx)
        have hwl : (mxP Q tw i).who.length = Q.who.length := mxL_len _ _ _
        have hfl2 : (mxP Q tw i).fixed.length = Q.fixed.length := mxL_len _ _ _
        obtain ⟨gw, e1⟩ : ∃ gw, oa = some ⟨gw, 0, none⟩ := by
          rcases hX.out.r1.2 with ⟨e, e'⟩ | ⟨gw, cap, cur, e, _⟩
          · omega
          · injection e with e2
            exact ⟨gw, e2⟩
        subst e1
        obtain ⟨gf, e1⟩ : ∃ gf, ob = some ⟨gf, 0, none⟩ := by
          rcases hX.out.r2.2 with ⟨e, e'⟩ | ⟨gw, cap, cur, e, _⟩
          · have := hfl.out; omega
          · injection e with e2
            exact ⟨gw, e2⟩
        subst e1
        obtain ⟨g1, o1, rfl, _⟩ := hqw.out wr i z hB.out hz
        obtain ⟨g2, o2, rfl, _⟩ := hqf.out wr i x hB.out hx
        have y1 := hX.out.bx.c1
        have hcw := hX.out.r1
        rw [hwl] at hcw
        have px : wr.cell? ⟨gw, i, none⟩ = some (.int .u64 (z : Int)) := by
          rw [hcw.cellAt i (by omega)]; unfold cellsW; rw [List.getElem?_map, show (mxP Q tw i).who[i]? = some z from mxL_at hz]; rfl
        have fx := hcw.frozenAt i
        have hX0 : Hid (Cp Wn.heap.size (mxU Q tw i z 0) gx (.slice (some ⟨gw, 0, none⟩) Q.who.length ca) (.slice (some ⟨gf, 0, none⟩) Q.fixed.length cb) (.slice oc Q.rules.length cc) E (wr.setCell ⟨gw, i, none⟩ (.int .u64 0)) ∧ Below Wn.heap.size Wn (wr.setCell ⟨gw, i, none⟩ (.int .u64 0))) := by
          have hX1 := hX.out
          rw [← hwl] at hX1
          have k := hX1.setW i 0
          rw [hwl] at k
          exact ⟨k.1, hB.out.setCell (p := ⟨gw, i, none⟩) k.2 _⟩
        have hz' := hide' hz
        have hx' := hide' hx
        clear hX hB hcw hz hx hwl hfl2
        go_upto_block 6 with fail
        obtain ⟨W1, hW1⟩ : ∃ W, W = wr.setCell ⟨gw, i, none⟩ (.int .u64 0) := ⟨_, rfl⟩
        rw [← hW1] at hX0 ⊢
        clear hW1 px fx y1 q1 q2
        go_cut [14] from 111 to 140 (fun _ wx => Hid (Cp Wn.heap.size (mxU Q tw i z U) gx (.slice (some ⟨gw, 0, none⟩) Q.who.length ca) (.slice (some ⟨gf, 0, none⟩) Q.fixed.length cb) (.slice oc Q.rules.length cc) E wx) ∧ Hid (Below Wn.heap.size Wn wx))
        case first => as_aux_lemma =>
          go_wp2
          go_loopw [14] (fun k wr => ∃ u : Nat, u ≤ U ∧ k = .int .i64 (u : Int) ∧ Hid (Cp Wn.heap.size (mxU Q tw i z u) gx (.slice (some ⟨gw, 0, none⟩) Q.who.length ca) (.slice (some ⟨gf, 0, none⟩) Q.fixed.length cb) (.slice oc Q.rules.length cc) E wr) ∧ Hid (Below Wn.heap.size Wn wr)) (fun k _ => ((U : Int) - intOf k).toNat)
          case atStart => exact ⟨0, Nat.zero_le _, rfl, hX0.out.1, hX0.out.2⟩
          case round =>
            clear hX0
            obtain ⟨u, huU, rfl, hX, hB⟩ := hrel
            obtain ⟨q0, q1, _, _⟩ := hq.out wr hB.out
            by_cases hu : u < U
            · obtain ⟨g1', o1', e, cz⟩ := hqw.out wr i z hB.out hz'.out
              cases e
              obtain ⟨tt, htu⟩ : ∃ t, tw[u]? = some t := ⟨_, List.getElem?_eq_getElem (by omega)⟩
              have htl : tt < U := hOk.out.lt tt (List.mem_of_getElem? htu)
              have ctt := (hN.out.over hB.out).at htu
              have y1 := hX.out.bx.c1
              have hwl := mxU_wlen Q tw i z u
              have hcw := hX.out.r1
              rw [hwl] at hcw
              have px : wr.cell? ⟨gw, i, none⟩ = some (.int .u64 ((renK tw z u : Nat) : Int)) := by
                rw [hcw.cellAt i (by omega)]; unfold cellsW; rw [List.getElem?_map, mxU_at hlt u]; rfl
              have fx := hcw.frozenAt i
              cases hb : z.testBit u with
              | true =>
                have hsh := M.shr_bitT hzl hb
                have hyl := renK_lt hOk.out hU64 z huU
                have hs2 := shl_wrapN (k := tt) (by omega)
                have hpw : (2 ^ tt : Nat) < 18446744073709551616 := Nat.lt_of_lt_of_le (Nat.pow_lt_pow_right (by decide) (show tt < 64 by omega)) (by decide)
                have hor := u64_or_nat (renK tw z u) (2 ^ tt) hyl hpw
                have hfin : Hid (Cp Wn.heap.size (mxU Q tw i z (u + 1)) gx (.slice (some ⟨gw, 0, none⟩) Q.who.length ca) (.slice (some ⟨gf, 0, none⟩) Q.fixed.length cb) (.slice oc Q.rules.length cc) E (wr.setCell ⟨gw, i, none⟩ (.int .u64 ((renK tw z u ||| 2 ^ tt : Nat) : Int))).drew ∧ Below Wn.heap.size Wn (wr.setCell ⟨gw, i, none⟩ (.int .u64 ((renK tw z u ||| 2 ^ tt : Nat) : Int))).drew) := by
                  have hX1 := hX.out
                  rw [← hwl] at hX1
                  have k := hX1.setW i (renK tw z u ||| 2 ^ tt)
                  rw [hwl] at k
                  rw [mxU_yes Q hb htu]
                  exact ⟨k.1.over (Below.refl _ _).drew, (hB.out.setCell (p := ⟨gw, i, none⟩) k.2 _).drew⟩
                clear hX hB hcw hb htu hwl hq hqw hqf hSn K1 hN hOk hyl hpw hz' hx'
                generalize renK tw z u ||| 2 ^ tt = yn at *
                generalize renK tw z u = y at *
                generalize 2 ^ tt = pt at *
                go_upto_region 27 with fail
                go_region
                all_goals
                  go_wp2
                  exact ⟨⟨u + 1, by omega, by go_num, hfin.out.1, hfin.out.2⟩, by simp [intOf]; omega⟩
              | false =>
                have hsh := M.shr_bitF hzl hb
                rw [← mxU_no Q hb] at hX
                clear hcw hb htu hwl hq hqw hqf hSn K1 hN hOk hz' hx' px
                go_wp2
                exact ⟨⟨u + 1, by omega, by go_num, hX, hB⟩, by simp [intOf]; omega⟩
            · obtain rfl : u = U := by omega
              clear hq hqw hqf hSn K1 hN hOk hz' hx'
              go_wp2
              go_meet
              exact ⟨hX, hB⟩
        case rest =>
        obtain ⟨hX, hB⟩ := hcut
        clear hX0
        obtain ⟨_, _, q2, _⟩ := hq.out wc hB.out
        obtain ⟨g2', o2', e, cf2⟩ := hqf.out wc i x hB.out hx'.out
        cases e
        have hUn2 : Hid (U = Q.users.toNat) := by show _ = _; rw [hU'.out]; rfl
        by_cases hx0 : 0 ≤ x
        · obtain ⟨xn, rfl⟩ : ∃ xn : Nat, x = (xn : Int) := ⟨x.toNat, by omega⟩
          have hxU : xn < U := by have := hU'.out; omega
          obtain ⟨tt, htu⟩ : ∃ t, tw[xn]? = some t := ⟨_, List.getElem?_eq_getElem (by omega)⟩
          have ctt := (hN.out.over hB.out).at htu
          have y2 := hX.out.bx.c2
          have hfl3 := mxU_flen Q tw i z U
          have hcf := hX.out.r2
          rw [hfl3] at hcf
          have hiF : i < Q.fixed.length := by rw [hfl.out]; exact hlt
          have px : wc.cell? ⟨gf, i, none⟩ = some (.int .i64 (xn : Int)) := by
            rw [hcf.cellAt i (by omega)]; unfold cellsI; rw [List.getElem?_map, show (mxU Q tw i z U).fixed[i]? = some (xn : Int) from mxL_at hx'.out]; rfl
          have fx := hcf.frozenAt i
          have hfin : Hid (Cp Wn.heap.size (mxP Q tw (i + 1)) gx (.slice (some ⟨gw, 0, none⟩) Q.who.length ca) (.slice (some ⟨gf, 0, none⟩) Q.fixed.length cb) (.slice oc Q.rules.length cc) E (wc.setCell ⟨gf, i, none⟩ (.int .i64 (tt : Int))).drew ∧ Below Wn.heap.size Wn (wc.setCell ⟨gf, i, none⟩ (.int .i64 (tt : Int))).drew) := by
            have hX1 := hX.out
            have hD1 := hDj.out
            rw [← hfl3] at hX1 hD1
            have k := hX1.setF hD1 i (tt : Int)
            rw [hfl3] at k
            rw [mxU_fix hz'.out hx'.out, ← hUn2.out, show renF tw (xn : Int) = (tt : Int) by unfold renF; rw [if_pos (by omega), Int.toNat_natCast, List.getD_eq_getElem?_getD, htu]; rfl]
            exact ⟨k.1.over (Below.refl _ _).drew, (hB.out.setCell (p := ⟨gf, i, none⟩) k.2 _).drew⟩
          have hiF' : (i : Int) < (Q.fixed.length : Int) := by omega
          have hfl3' := hfl.out
          clear hX hB hcf htu hfl3 hq hqw hqf hSn K1 hN hOk hz' hx' hDj hfl3'
          go_upto_region 29 with fail
          go_region
          all_goals
            go_wp2
            exact ⟨⟨i + 1, by omega, by go_num, hfin.out.1, hfin.out.2⟩, by simp [intOf]; omega⟩
        · have hiF : i < Q.fixed.length := by rw [hfl.out]; exact hlt
          rw [hUn2.out, ← mxU_free hz'.out hx'.out hx0] at hX
          clear hq hqw hqf hSn K1 hN hOk hz' hx' hDj hUn2
          go_wp2
          exact ⟨⟨i + 1, by omega, by go_num, hX, hB⟩, by simp [intOf]; omega⟩
      · obtain rfl : i = Q.who.length := by omega
        rw [mxP_all tw hfl.out] at hX
        clear hq hqw hqf hSn K1
        go_wp2
        go_meet
        exact ⟨hX, hB⟩
  case rest =>
  obtain ⟨hX, hB⟩ := hcut
  clear hCp0 hBn0
  have hgl : Hid (gs < Wn.heap.size) := hSn.out.gg.lt
  have hFn : Hid (Fn w Q (.slice ow Q.who.length cw) (.slice of Q.fixed.length cf) (.slice or Q.rules.length cr) g gs (renP Q tw) gx (.slice oa Q.who.length ca) (.slice ob Q.fixed.length cb) (.slice oc Q.rules.length cc) 0 0 0 wc) := ⟨hSn.out.over hB.out, hX.out.pv, hX.out.bx, (fun ad n c e => by
    have h1 := (hX.out.r1.lt ad.block (by rw [e]; rfl)).1
    have h2 := hgl.out
    omega), by have h1 := hX.out.ge; have h2 := hgl.out; omega, hgs.out, hne.out, hgp.out, hG.out⟩
  have hXok := hide' (renP_ok hk.out (by have := hU'.out; omega) (by rw [hU'.out]; exact hOk.out))
  have hcr := hide' (can_ren hC'.out (show ToOk tw Q.users.toNat by rw [hU'.out]; exact hOk.out))
  have hu1 : Hid ((renP Q tw).users = (U : Int)) := hU'.out
  have KA : Hid (∀ V, Fn w Q (.slice ow Q.who.length cw) (.slice of Q.fixed.length cf) (.slice or Q.rules.length cr) g gs (renP Q tw) gx (.slice oa Q.who.length ca) (.slice ob Q.fixed.length cb) (.slice oc Q.rules.length cc) 0 0 0 V → Calls Tryd.prog 8 #[.pointer (some ⟨gs, 0, none⟩), .agg #[.int .i64 (U : Int), .slice oa Q.who.length ca, .slice ob Q.fixed.length cb, .slice oc Q.rules.length cc]] V fun e w' => e = .returned (.bool (canB Q)) ∧ ∃ a' b' c', Hid (Fn w Q (.slice ow Q.who.length cw) (.slice of Q.fixed.length cf) (.slice or Q.rules.length cr) g gs (renP Q tw) gx (.slice oa Q.who.length ca) (.slice ob Q.fixed.length cb) (.slice oc Q.rules.length cc) a' b' c' w') ∧ a' ≤ 200000000000000 ∧ b' ≤ 200000000000000 ∧ c' ≤ 200000000000000) := fun V hV => by
    have := canF (renP Q tw) (.slice oa Q.who.length ca) (.slice ob Q.fixed.length cb) (.slice oc Q.rules.length cc) gs 0 0 0 V hV.px hXok.out hV.sv.gg hG.out hV.sv.tab (by decide) (by decide) (by decide)
    unfold pbV at this
    rw [hu1.out] at this
    refine this.mono ?_
    rintro e w' ⟨rfl, a', b', c', hg, hgc, hf⟩
    have hle := hgc.out.le (by decide)
    exact ⟨by rw [hcr.out], a', b', c', hV.fr hf.out hg.out, by omega, by omega, by omega⟩
  have KCu : Hid (∀ V a b c, Fn w Q (.slice ow Q.who.length cw) (.slice of Q.fixed.length cf) (.slice or Q.rules.length cr) g gs (renP Q tw) gx (.slice oa Q.who.length ca) (.slice ob Q.fixed.length cb) (.slice oc Q.rules.length cc) a b c V → Calls Tryd.prog 4 #[.agg #[.int .i64 (U : Int), .slice ow Q.who.length cw, .slice of Q.fixed.length cf, .slice or Q.rules.length cr]] V fun e w' => ∃ x1 n1 y1 x2 n2 y2 x3 n3 y3, e = .returned (.agg #[.int .i64 (U : Int), .slice x1 n1 y1, .slice x2 n2 y2, .slice x3 n3 y3]) ∧ Hid (PbV w' Q (.slice x1 n1 y1) (.slice x2 n2 y2) (.slice x3 n3 y3)) ∧ Hid (Below V.heap.size V w')) := fun V a b c hV => by
    have := K1.out V a b c hV.sv
    rw [hU'.out] at this
    refine this.mono ?_
    rintro e w' ⟨va, vb, vc, rfl, hp, hb, _⟩
    obtain ⟨x1, y1, x2, y2, x3, y3, rfl, rfl, rfl⟩ := hp.out.shape
    exact ⟨x1, _, y1, x2, _, y2, x3, _, y3, rfl, hp, hb⟩
  have KB : Hid (∀ V a b c x1 n1 y1 x2 n2 y2 x3 n3 y3, Fn w Q (.slice ow Q.who.length cw) (.slice of Q.fixed.length cf) (.slice or Q.rules.length cr) g gs (renP Q tw) gx (.slice oa Q.who.length ca) (.slice ob Q.fixed.length cb) (.slice oc Q.rules.length cc) a b c V → a ≤ 200000000000000 → b ≤ 200000000000000 → c ≤ 200000000000000 → PbV V Q (.slice x1 n1 y1) (.slice x2 n2 y2) (.slice x3 n3 y3) → Calls Tryd.prog 8 #[.pointer (some ⟨gs, 0, none⟩), .agg #[.int .i64 (U : Int), .slice x1 n1 y1, .slice x2 n2 y2, .slice x3 n3 y3]] V fun e w' => e = .returned (.bool (canB Q)) ∧ ∃ a' b' c', Hid (Fn w Q (.slice ow Q.who.length cw) (.slice of Q.fixed.length cf) (.slice or Q.rules.length cr) g gs (renP Q tw) gx (.slice oa Q.who.length ca) (.slice ob Q.fixed.length cb) (.slice oc Q.rules.length cc) a' b' c' w')) := fun V a b c x1 n1 y1 x2 n2 y2 x3 n3 y3 hV h1 h2 h3 hp => by
    have := canF Q (.slice x1 n1 y1) (.slice x2 n2 y2) (.slice x3 n3 y3) gs a b c V hp hk.out hV.sv.gg hG.out hV.sv.tab (by omega) (by omega) (by omega)
    unfold pbV at this
    rw [hU'.out] at this
    refine this.mono ?_
    rintro e w' ⟨rfl, a', b', c', hg, _, hf⟩
    exact ⟨rfl, a', b', c', hV.fr hf.out hg.out⟩
  have hcl : Hid (∀ V a b c, Fn w Q (.slice ow Q.who.length cw) (.slice of Q.fixed.length cf) (.slice or Q.rules.length cr) g gs (renP Q tw) gx (.slice oa Q.who.length ca) (.slice ob Q.fixed.length cb) (.slice oc Q.rules.length cc) a b c V → (V.cell? ⟨g, 0, none⟩ = some (.int .i64 (U : Int)) ∧ V.cell? ⟨g, 1, none⟩ = some (.slice ow Q.who.length cw) ∧ V.cell? ⟨g, 2, none⟩ = some (.slice of Q.fixed.length cf) ∧ V.cell? ⟨g, 3, none⟩ = some (.slice or Q.rules.length cr)) ∧ (V.cell? ⟨gx, 0, none⟩ = some (.int .i64 (U : Int)) ∧ V.cell? ⟨gx, 1, none⟩ = some (.slice oa Q.who.length ca) ∧ V.cell? ⟨gx, 2, none⟩ = some (.slice ob Q.fixed.length cb) ∧ V.cell? ⟨gx, 3, none⟩ = some (.slice oc Q.rules.length cc))) := fun V a b c hV => by
    have h1 := hV.sv.pb.all
    rw [hU'.out] at h1
    have h2 := hV.bx.c0
    rw [hu1.out] at h2
    exact ⟨h1, h2, hV.bx.c1, hV.bx.c2, hV.bx.c3⟩
  have hFd := hide' (hFn.out.over (Below.refl _ wc).drew)
  have hS0 := hide' (hcl.out _ _ _ _ hFd.out)
  clear hX hB hN hOk hcr hXok hDj hSn K1 hq hqw hqf hFn hC' hk hne hgp hgs hG
  generalize canB Q = cq at *
  go_upto_region 30 with fail
  go_region_held3 (fun V => (V.cell? ⟨g, 0, none⟩ = some (.int .i64 (U : Int)) ∧ V.cell? ⟨g, 1, none⟩ = some (.slice ow Q.who.length cw) ∧ V.cell? ⟨g, 2, none⟩ = some (.slice of Q.fixed.length cf) ∧ V.cell? ⟨g, 3, none⟩ = some (.slice or Q.rules.length cr)) ∧ (V.cell? ⟨gx, 0, none⟩ = some (.int .i64 (U : Int)) ∧ V.cell? ⟨gx, 1, none⟩ = some (.slice oa Q.who.length ca) ∧ V.cell? ⟨gx, 2, none⟩ = some (.slice ob Q.fixed.length cb) ∧ V.cell? ⟨gx, 3, none⟩ = some (.slice oc Q.rules.length cc))) (first | (exact hS0.out) | (exact hcl.out _ _ _ _ hF3.out) | (exact hcl.out _ _ _ _ (hF1.out.over hb2.out)) | (exact hcl.out _ _ _ _ hF1.out)) (first | (go_at_call 8; refine (KB.out _ _ _ _ _ _ _ _ _ _ _ _ _ (hF1.out.over hb2.out) hl1 hl2 hl3 hp2.out).mono ?_; rintro e w13 ⟨rfl, a3, b3, c3, hF3⟩) | (go_at_call 4; refine (KCu.out _ _ _ _ hF1.out).mono ?_; rintro e w12 ⟨x1, n1, y1, x2, n2, y2, x3, n3, y3, rfl, hp2, hb2⟩) | (go_at_call 8; refine (KA.out _ hFd.out).mono ?_; rintro e w11 ⟨rfl, a1, b1, c1, hF1, hl1, hl2, hl3⟩))
  have hF := hide' hF3.out.sv.be
  clear hF3 hF1 KA KB KCu hcl hS0 hFd
  cases cq
  all_goals
    go_wp2
    go_ret
    exact ⟨rfl, hF.out⟩
end Go.Proofs.YtdelfpklkogmgaaDoor.S
