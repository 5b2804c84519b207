/- CoreWithout, walked. -/
import Derived.Test.YtdlfjbhabflinaaGreatDoorJ32
import Derived.Test.YtdlfjbhabflinaaGreatDoorJ33
import Derived.Test.YtdlfjbhabflinaaGreatDoorJ35
import Derived.Test.YtdlfjbhabflinaaGreatDoorJ36
namespace Go.Proofs.YtdlfjbhabflinaaGreatDoor.S
open Go.RowKit Go.Shelf
/-- What stands between the calls: the problem that was cut, its box; and another one. -/
structure Cv (w : World) (Q : Pb) (qw qf qr : Value) (g : Nat) (V : World) : Prop where
  pb : PbB V g Q qw qf qr
  pv : PbV V Q qw qf qr
  be : Below w.heap.size w V
theorem Cv.over {w : World} {Q : Pb} {qw qf qr : Value} {g : Nat} {V V' : World} (h : Cv w Q qw qf qr g V) (hb : Below V.heap.size V V') : Cv w Q qw qf qr g V' := ⟨h.pb.below hb, h.pv.below hb, h.be.trans (hb.mono h.be.size)⟩
structure Cw (w : World) (Q : Pb) (qw qf qr : Value) (g : Nat) (X : Pb) (gx : Nat) (x1 x2 x3 : Value) (V : World) : Prop where
  v : Cv w Q qw qf qr g V
  px : PbV V X x1 x2 x3
  bx : QAt V gx X.users x1 x2 x3
theorem Cw.over {w : World} {Q : Pb} {qw qf qr : Value} {g : Nat} {X : Pb} {gx : Nat} {x1 x2 x3 : Value} {V V' : World} (h : Cw w Q qw qf qr g X gx x1 x2 x3 V) (hb : Below V.heap.size V V') : Cw w Q qw qf qr g X gx x1 x2 x3 V' := ⟨h.v.over hb, h.px.below hb, h.bx.of (hb.block _ h.bx.lt)⟩
theorem wtP_ok {Q : Pb} (hk : Pok Q) (R S : List Int) : Pok (wtP Q R S) := by
  unfold wtP
  split
  · rename_i h
    have hC : chkN Q = 0 := by
      unfold wtN at h
      by_cases e : chkN Q = 0
      · exact e
      · rw [if_neg e] at h; exact h
    exact spP_ok hk (chkN_zero hC).2.2.1 _ _
  · exact ⟨by decide, by decide, by decide, (fun r hr => by cases hr), (fun z hz => by cases hz)⟩
set_option maxRecDepth 100000 in
set_option maxHeartbeats 8000000 in
theorem coreWithout_walk (P : Pb) (wv fv rv : Value) (R S : List Int) (vr vs : Value) (w : World) (h : PbV w P wv fv rv) (hR : RowI w vr R) (hS : RowI w vs S) (hb : ∀ z ∈ P.who, z < 18446744073709551616) (ht : M.Tab w) :
    Calls Tryz.prog 4 #[pbV P wv fv rv, vr, vs] w fun e w' => e = .returned (.bool true) ∧ Below w.heap.size w w' := by
  have hB0 : Hid (Below w.heap.size w (w.alloc (.cells #[.int .i64 P.users, wv, fv, rv] 26))) := (Below.refl _ w).alloc (Nat.le_refl _) _
  have K0 := hide' (cutC P wv fv rv _ (h.below hB0.out))
  have hk := hide' (cutP_ok hb)
  have ht' := hide' ht
  have hQb : Hid (∀ V (a b c : Value), PbV V (cutP P) a b c → Calls Tryz.prog 9 #[pbV (cutP P) a b c] V fun e w' => ∃ va vb vc, e = .returned (pbV (cutP P) va vb vc) ∧ Hid (PbV w' (cutP P) va vb vc) ∧ Hid (Below V.heap.size V w') ∧ Hid (∀ ad n c, va = .slice (some ad) n c → V.heap.size ≤ ad.block ∧ ad.block < w'.heap.size)) := fun V a b c hq => cutD P a b c V hq
  have KRr : Hid (∀ V, Below w.heap.size w V → Calls Tryz.prog 15 #[vr] V fun e w' => ∃ o n c, e = .returned (.slice o n c) ∧ Hid (RowI w' (.slice o n c) (R.take 30)) ∧ Hid (Below V.heap.size V w')) := fun V hV => (rowSC R vr V (hR.below hV (Nat.le_refl _))).mono fun e w' ⟨v', h1, h2, h3⟩ => by
    obtain ⟨o, c, rfl⟩ := own_shp h2
    exact ⟨o, _, c, h1, RowI.of_owns h2, h3⟩
  have KRs : Hid (∀ V, Below w.heap.size w V → Calls Tryz.prog 15 #[vs] V fun e w' => ∃ o n c, e = .returned (.slice o n c) ∧ Hid (RowI w' (.slice o n c) (S.take 30)) ∧ Hid (Below V.heap.size V w')) := fun V hV => (rowSC S vs V (hS.below hV (Nat.le_refl _))).mono fun e w' ⟨v', h1, h2, h3⟩ => by
    obtain ⟨o, c, rfl⟩ := own_shp h2
    exact ⟨o, _, c, h1, RowI.of_owns h2, h3⟩
  have hlR : (R.take 30).length ≤ 1000 := by rw [List.length_take]; omega
  have hlS : (S.take 30).length ≤ 1000 := by rw [List.length_take]; omega
  have KWo : Hid (∀ V va vb vc v1 v2, PbV V (cutP P) va vb vc → RowI V v1 (R.take 30) → RowI V v2 (S.take 30) → Calls Tryz.prog 14 #[pbV (cutP P) va vb vc, v1, v2] V (WtP V (wtP (cutP P) (R.take 30) (S.take 30)) (wtN (cutP P) (R.take 30) (S.take 30)))) := fun V va vb vc v1 v2 h1 h2 h3 => withoutF _ va vb vc v1 v2 _ _ V h1 hk.out h2 h3 hlR hlS
  have KDo : Hid (∀ V va vb vc v1 v2, PbV V (cutP P) va vb vc → RowI V v1 (R.take 30) → RowI V v2 (S.take 30) → Calls Tryz.prog 16 #[pbV (cutP P) va vb vc, v1, v2] V (WtP V (wtP (cutP P) (R.take 30) (S.take 30)) (wtN (cutP P) (R.take 30) (S.take 30)))) := fun V va vb vc v1 v2 h1 h2 h3 => withoutD _ va vb vc v1 v2 _ _ V h1 hk.out h2 h3 hlR hlS
  have hXok := hide' (wtP_ok hk.out (R.take 30) (S.take 30))
  obtain ⟨oR, cR, rfl, _, _⟩ := hR
  obtain ⟨oS, cS, rfl, _, _⟩ := hS
  clear h ht hb hlR hlS hk
  unfold pbV at K0 hQb KWo KDo ⊢
  unfold WtP at KWo KDo
  generalize cutP P = Q at *
  generalize wtP Q (R.take 30) (S.take 30) = X at *
  generalize wtN Q (R.take 30) (S.take 30) = N at *
  generalize R.take 30 = R1 at *
  generalize S.take 30 = S1 at *
  go_enter Tryz.func4, Tryz.ntmps4
  go_wp2_with fail
  refine K0.out.mono ?_
  rintro e w1 ⟨qw, qf, qr, rfl, hq1, hb1, ho1⟩
  have hB1 : Hid (Below w.heap.size w w1) := hB0.out.trans (hb1.out.mono hB0.out.size)
  obtain ⟨ow, cw, of, cf, or, cr, rfl, rfl, rfl⟩ := hq1.out.shape
  have hVA : Hid (Cv w Q (.slice ow Q.who.length cw) (.slice of Q.fixed.length cf) (.slice or Q.rules.length cr) w1.heap.size (w1.alloc (.cells #[.int .i64 Q.users, .slice ow Q.who.length cw, .slice of Q.fixed.length cf, .slice or Q.rules.length cr] 26))) := ⟨heap_new w1 _, hq1.out.below ((Below.refl _ w1).alloc (Nat.le_refl _) _), hB1.out.alloc hB1.out.size _⟩
  clear hb1 hB0 K0 hq1 ho1 hB1
  have KC := hide' (hQb.out _ _ _ _ hVA.out.pv)
  go_wp2_with fail
  refine KC.out.mono ?_
  rintro e w2 ⟨va, vb, vc, rfl, hq2, hb2, ho2⟩
  have hV2 := hide' (hVA.out.over hb2.out)
  clear hVA hb2 KC hQb ho2
  generalize w1.heap.size = g at *
  clear w1
  go_wp2_with fail
  refine (KRr.out _ hV2.out.be).mono ?_
  rintro e w3 ⟨o3, n3, c3, rfl, hr3, hb3⟩
  have hV3 := hide' (hV2.out.over hb3.out)
  have hq3 := hide' (hq2.out.below hb3.out)
  clear hV2 hq2 hb3
  go_wp2_with fail
  refine (KRs.out _ hV3.out.be).mono ?_
  rintro e w4 ⟨o4, n4, c4, rfl, hr4, hb4⟩
  have hV4 := hide' (hV3.out.over hb4.out)
  have hq4 := hide' (hq3.out.below hb4.out)
  have hr34 := hide' (hr3.out.below hb4.out (Nat.le_refl _))
  clear hV3 hq3 hb4 hr3
  have KW := hide' (KWo.out w4 va vb vc _ _ hq4.out hr34.out hr4.out)
  go_wp2_with fail
  refine KW.out.mono ?_
  rintro e w5 ⟨x1o, x1n, x1c, x2o, x2n, x2c, x3o, x3n, x3c, rfl, hX5, hb5, hn5, hk5⟩
  have hV5 := hide' (hV4.out.over hb5.out)
  have hbn : Hid (Below w5.heap.size w5 (w5.alloc (.cells #[.int .i64 X.users, .slice x1o x1n x1c, .slice x2o x2n x2c, .slice x3o x3n x3c] 26))) := (Below.refl _ w5).alloc (Nat.le_refl _) _
  have hS6 : Hid (Cw w Q (.slice ow Q.who.length cw) (.slice of Q.fixed.length cf) (.slice or Q.rules.length cr) g X w5.heap.size (.slice x1o x1n x1c) (.slice x2o x2n x2c) (.slice x3o x3n x3c) (w5.alloc (.cells #[.int .i64 X.users, .slice x1o x1n x1c, .slice x2o x2n x2c, .slice x3o x3n x3c] 26))) := ⟨hV5.out.over hbn.out, hX5.out.below hbn.out, QAt.block (heap_new w5 _)⟩
  clear hV4 hq4 hr34 hr4 KW KWo hX5 hb5 hV5 hbn hn5 hk5
  go_upto_region 3 with fail
  generalize w5.heap.size = gx at *
  generalize w5.alloc (.cells #[.int .i64 X.users, .slice x1o x1n x1c, .slice x2o x2n x2c, .slice x3o x3n x3c] 26) = w6 at *
  clear w5
  go_cut [10, 11] from 24 to 33 (fun pv nv wx => nv = .int .i64 (N : Int) ∧ ∃ gy y1o y1n y1c y2o y2n y2c y3o y3n y3c, pv = .pointer (some ⟨gy, 0, none⟩) ∧ Hid (Cw w Q (.slice ow Q.who.length cw) (.slice of Q.fixed.length cf) (.slice or Q.rules.length cr) g X gx (.slice x1o x1n x1c) (.slice x2o x2n x2c) (.slice x3o x3n x3c) wx) ∧ Hid (PbV wx X (.slice y1o y1n y1c) (.slice y2o y2n y2c) (.slice y3o y3n y3c)) ∧ Hid (QAt wx gy X.users (.slice y1o y1n y1c) (.slice y2o y2n y2c) (.slice y3o y3n y3c)))
  case first =>
    as_aux_lemma =>
    have hSd := hide' (hS6.out.over (Below.refl _ w6).drew)
    have hBd : Hid (Below w6.drew.heap.size w6.drew w6.drew) := Below.refl _ _
    have hSS : Hid (∀ V, Cw w Q (.slice ow Q.who.length cw) (.slice of Q.fixed.length cf) (.slice or Q.rules.length cr) g X gx (.slice x1o x1n x1c) (.slice x2o x2n x2c) (.slice x3o x3n x3c) V → V.cell? ⟨g, 0, none⟩ = some (.int .i64 Q.users) ∧ V.cell? ⟨g, 1, none⟩ = some (.slice ow Q.who.length cw) ∧ V.cell? ⟨g, 2, none⟩ = some (.slice of Q.fixed.length cf) ∧ V.cell? ⟨g, 3, none⟩ = some (.slice or Q.rules.length cr)) := fun V hV => ⟨hV.v.pb.c0, hV.v.pb.c1, hV.v.pb.c2, hV.v.pb.c3⟩
    clear hS6
    refine wp_region_held_drew (S := (fun V => V.cell? ⟨g, 0, none⟩ = some (.int .i64 Q.users) ∧ V.cell? ⟨g, 1, none⟩ = some (.slice ow Q.who.length cw) ∧ V.cell? ⟨g, 2, none⟩ = some (.slice of Q.fixed.length cf) ∧ V.cell? ⟨g, 3, none⟩ = some (.slice or Q.rules.length cr))) (by kernel_rfl) ?_ (fun hHeld => ?_)
    · exact hSS.out _ hSd.out
    refine wpAnyH_take (i := 0) (oi := { dst := some 25, op := Op.load 26 (Operand.tmp 7), type := 26, pos := "law.go:45", after := #[], guard := none }) (v := ?_) rfl (by kernel_rfl) (by kernel_rfl) (by kernel_rfl) (fun _ _ _ h => h) (Or.inl ⟨by rfl, ?_⟩) (by assumption) ?_
    rotate_left
    · intro w hSw; (try dsimp only at hSw); go_simp <;> with_reducible rfl
    simp only [Act.put, List.setIfInBounds_toArray, List.set_cons_zero, List.set_cons_succ]
    refine wpAnyH_take (i := 1) (oi := { dst := some 26, op := Op.move (Operand.tmp 1), type := 23, pos := "law.go:45", after := #[], guard := none }) (v := ?_) rfl (by kernel_rfl) (by kernel_rfl) (by kernel_rfl) (fun _ _ _ h => h) (Or.inl ⟨by rfl, ?_⟩) (by assumption) ?_
    rotate_left
    · intro w hSw; (try dsimp only at hSw); go_simp <;> with_reducible rfl
    simp only [Act.put, List.setIfInBounds_toArray, List.set_cons_zero, List.set_cons_succ]
    refine wpAnyH_take (i := 3) (oi := { dst := some 28, op := Op.move (Operand.tmp 2), type := 23, pos := "law.go:45", after := #[], guard := none }) (v := ?_) rfl (by kernel_rfl) (by kernel_rfl) (by kernel_rfl) (fun _ _ _ h => h) (Or.inl ⟨by rfl, ?_⟩) (by assumption) ?_
    rotate_left
    · intro w hSw; (try dsimp only at hSw); go_simp <;> with_reducible rfl
    simp only [Act.put, List.setIfInBounds_toArray, List.set_cons_zero, List.set_cons_succ]
    refine wpAnyH_ready (rs := [2, 9]) (by kernel_rfl) (by simp) ?_
    refine AllReadyH.cons (o := { dst := some 27, op := Op.call { callee := Callee.value (Operand.func 15), args := #[Operand.tmp 26], argTypes := #[23] }, type := 23, pos := "law.go:45", after := #[{ on := 1, ground := Ground.data }], guard := none }) rfl (fun K hK => ?_) ?_
    · skip
      go_simp
      go_at_call 15; refine (KRr.out _ hSd.out.v.be).mono ?_; rintro e v2 ⟨o2, n2, c2, rfl, hr2_2, hb2⟩; have hB2 := hide' (hBd.out.trans (hb2.out.mono hBd.out.size)); have hS2 := hide' (hSd.out.over hB2.out); (try dsimp only)
      refine hK.out _ _ ?_ (fun hHeld => ?_)
      · exact hSS.out _ hS2.out
      clear hK K
      try simp only [Act.put, List.setIfInBounds_toArray, List.set_cons_zero, List.set_cons_succ]
      refine wpAnyH_ready (rs := [4, 9]) (by kernel_rfl) (by simp) ?_
      refine AllReadyH.cons (o := { dst := some 29, op := Op.call { callee := Callee.value (Operand.func 15), args := #[Operand.tmp 28], argTypes := #[23] }, type := 23, pos := "law.go:45", after := #[{ on := 3, ground := Ground.data }, { on := 2, ground := Ground.chain }], guard := none }) rfl (fun K hK => ?_) ?_
      · skip
        go_simp
        go_at_call 15; refine (KRs.out _ hS2.out.v.be).mono ?_; rintro e v4 ⟨o4', n4', c4', rfl, hr4_4, hb4⟩; have hB4 := hide' (hB2.out.trans (hb4.out.mono hB2.out.size)); have hS4 := hide' (hSd.out.over hB4.out); have hr2_4 := hide' (hr2_2.out.below hb4.out (Nat.le_refl _)); (try dsimp only)
        refine hK.out _ _ ?_ (fun hHeld => ?_)
        · exact hSS.out _ hS4.out
        clear hK K
        try simp only [Act.put, List.setIfInBounds_toArray, List.set_cons_zero, List.set_cons_succ]
        refine wpAnyH_ready (rs := [5, 9]) (by kernel_rfl) (by simp) ?_
        refine AllReadyH.cons (o := { dst := some 30, op := Op.call { callee := Callee.value (Operand.func 16), args := #[Operand.tmp 25, Operand.tmp 27, Operand.tmp 29], argTypes := #[26, 23, 23] }, type := 37, pos := "law.go:45", after := #[{ on := 0, ground := Ground.data }, { on := 2, ground := Ground.data }, { on := 4, ground := Ground.data }, { on := 4, ground := Ground.chain }], guard := none }) rfl (fun K hK => ?_) ?_
        · skip
          go_simp
          go_at_call 16; refine (KDo.out _ _ _ _ _ _ hS4.out.v.pv hr2_4.out hr4_4.out).mono ?_; rintro e v5 ⟨y1o, y1n, y1c, y2o, y2n, y2c, y3o, y3n, y3c, rfl, hY5, hb5, _, hkY⟩; have hB5 := hide' (hB4.out.trans (hb5.out.mono hB4.out.size)); have hS5 := hide' (hSd.out.over hB5.out); have hr2_5 := hide' (hr2_4.out.below hb5.out (Nat.le_refl _)); have hr4_5 := hide' (hr4_4.out.below hb5.out (Nat.le_refl _)); (try dsimp only)
          refine hK.out _ _ ?_ (fun hHeld => ?_)
          · exact hSS.out _ hS5.out
          clear hK K
          try simp only [Act.put, List.setIfInBounds_toArray, List.set_cons_zero, List.set_cons_succ]
          refine wpAnyH_take (i := 6) (oi := { dst := some 24, op := Op.move (Operand.tmp 30), type := 37, pos := "law.go:45", after := #[{ on := 5, ground := Ground.data }], guard := none }) (v := ?_) rfl (by kernel_rfl) (by kernel_rfl) (by kernel_rfl) (fun _ _ _ h => h) (Or.inl ⟨by rfl, ?_⟩) (by assumption) ?_
          rotate_left
          · intro w hSw; (try dsimp only at hSw); go_simp <;> with_reducible rfl
          simp only [Act.put, List.setIfInBounds_toArray, List.set_cons_zero, List.set_cons_succ]
          refine wpAnyH_take (i := 7) (oi := { dst := some 31, op := Op.extract (Operand.tmp 24) 0, type := 26, pos := "law.go:45", after := #[{ on := 6, ground := Ground.data }], guard := none }) (v := ?_) rfl (by kernel_rfl) (by kernel_rfl) (by kernel_rfl) (fun _ _ _ h => h) (Or.inl ⟨by rfl, ?_⟩) (by assumption) ?_
          rotate_left
          · intro w hSw; (try dsimp only at hSw); go_simp <;> with_reducible rfl
          simp only [Act.put, List.setIfInBounds_toArray, List.set_cons_zero, List.set_cons_succ]
          refine wpAnyH_take (i := 8) (oi := { dst := some 32, op := Op.extract (Operand.tmp 24) 1, type := 3, pos := "law.go:45", after := #[{ on := 6, ground := Ground.data }, { on := 10, ground := Ground.gcOnly Departure.lateStores }], guard := none }) (v := ?_) rfl (by kernel_rfl) (by kernel_rfl) (by kernel_rfl) (fun _ _ _ h => h) (Or.inl ⟨by rfl, ?_⟩) (by assumption) ?_
          rotate_left
          · intro w hSw; (try dsimp only at hSw); go_simp <;> with_reducible rfl
          simp only [Act.put, List.setIfInBounds_toArray, List.set_cons_zero, List.set_cons_succ]
          refine wpAnyH_ready (rs := [9]) (by kernel_rfl) (by simp) ?_
          refine AllReadyH.cons (o := { dst := some 10, op := Op.alloc 26, type := 0, pos := "law.go:45", after := #[], guard := none }) rfl (fun K hK => ?_) AllReadyH.nil
          go_simp
          refine hK.out _ _ ?_ (fun hHeld => ?_)
          · exact hSS.out _ (hSd.out.over (hB5.out.trans (((Below.refl _ v5).alloc (Nat.le_refl _) (.cells #[.int .i64 0, .slice none 0 0, .slice none 0 0, .slice none 0 0] 26)).mono hB5.out.size)))
          clear hK K
          try simp only [Act.put, List.setIfInBounds_toArray, List.set_cons_zero, List.set_cons_succ]
          refine wpAnyH_ready (rs := [10]) (by kernel_rfl) (by simp) ?_
          refine AllReadyH.cons (o := { dst := none, op := Op.store 26 (Operand.tmp 10) (Operand.tmp 31), type := 0, pos := "law.go:45", after := #[{ on := 9, ground := Ground.data }, { on := 7, ground := Ground.data }, { on := 5, ground := Ground.chain }, { on := 0, ground := Ground.phase }, { on := 1, ground := Ground.phase }, { on := 2, ground := Ground.phase }, { on := 3, ground := Ground.phase }, { on := 4, ground := Ground.phase }, { on := 5, ground := Ground.phase }, { on := 6, ground := Ground.phase }, { on := 7, ground := Ground.phase }, { on := 8, ground := Ground.textOnly Departure.lateStores }, { on := 9, ground := Ground.phase }], guard := none }) rfl (fun K hK => ?_) AllReadyH.nil
          go_simp
          refine hK.out _ _ ?_ (fun hHeld => ?_)
          · exact hSS.out _ (hSd.out.over (hB5.out.trans (((Below.refl _ v5).alloc (Nat.le_refl _) (.cells #[.int .i64 X.users, .slice y1o y1n y1c, .slice y2o y2n y2c, .slice y3o y3n y3c] 26)).mono hB5.out.size)))
          clear hK K
          try simp only [Act.put, List.setIfInBounds_toArray, List.set_cons_zero, List.set_cons_succ]
          refine wpAnyH_take (i := 11) (oi := { dst := some 11, op := Op.assign (Operand.tmp 32), type := 3, pos := "law.go:45", after := #[{ on := 8, ground := Ground.data }, { on := 10, ground := Ground.chain }, { on := 0, ground := Ground.phase }, { on := 1, ground := Ground.phase }, { on := 2, ground := Ground.phase }, { on := 3, ground := Ground.phase }, { on := 4, ground := Ground.phase }, { on := 5, ground := Ground.phase }, { on := 6, ground := Ground.phase }, { on := 7, ground := Ground.phase }, { on := 8, ground := Ground.phase }, { on := 9, ground := Ground.phase }, { on := 10, ground := Ground.phase }], guard := none }) (v := ?_) rfl (by kernel_rfl) (by kernel_rfl) (by kernel_rfl) (fun _ _ _ h => h) (Or.inl ⟨by rfl, ?_⟩) (by assumption) ?_
          rotate_left
          · intro w hSw; (try dsimp only at hSw); go_simp <;> with_reducible rfl
          simp only [Act.put, List.setIfInBounds_toArray, List.set_cons_zero, List.set_cons_succ]
          refine wpAnyH_done (by kernel_rfl) ?_ _
          skip
          have hLst := hide' (hSd.out.over (hB5.out.trans (((Below.refl _ v5).alloc (Nat.le_refl _) (.cells #[.int .i64 X.users, .slice y1o y1n y1c, .slice y2o y2n y2c, .slice y3o y3n y3c] 26)).mono hB5.out.size)))
          have hPl := hide' (hY5.out.below ((Below.refl _ v5).alloc (Nat.le_refl _) (.cells #[.int .i64 X.users, .slice y1o y1n y1c, .slice y2o y2n y2c, .slice y3o y3n y3c] 26)))
          have hQl : Hid (QAt (v5.alloc (.cells #[.int .i64 X.users, .slice y1o y1n y1c, .slice y2o y2n y2c, .slice y3o y3n y3c] 26)) v5.heap.size X.users (.slice y1o y1n y1c) (.slice y2o y2n y2c) (.slice y3o y3n y3c)) := QAt.block (heap_new v5 _)
          go_wp2
          go_meet
          exact ⟨rfl, _, y1o, y1n, y1c, y2o, y2n, y2c, y3o, y3n, y3c, rfl, hLst, hPl, hQl⟩
        refine AllReadyH.cons (o := { dst := some 10, op := Op.alloc 26, type := 0, pos := "law.go:45", after := #[], guard := none }) rfl (fun K hK => ?_) AllReadyH.nil
        go_simp
        have hz_9 : Hid (QAt (v4.alloc (.cells #[.int .i64 0, .slice none 0 0, .slice none 0 0, .slice none 0 0] 26)) v4.heap.size 0 (.slice none 0 0) (.slice none 0 0) (.slice none 0 0)) := QAt.block (heap_new v4 _); have hB9 := hide' (hB4.out.trans (((Below.refl _ v4).alloc (Nat.le_refl _) (.cells #[.int .i64 0, .slice none 0 0, .slice none 0 0, .slice none 0 0] 26)).mono hB4.out.size)); have hS9 := hide' (hSd.out.over hB9.out); have hr2_9 := hide' (hr2_4.out.below ((Below.refl _ v4).alloc (Nat.le_refl _) (.cells #[.int .i64 0, .slice none 0 0, .slice none 0 0, .slice none 0 0] 26)) (Nat.le_refl _)); have hr4_9 := hide' (hr4_4.out.below ((Below.refl _ v4).alloc (Nat.le_refl _) (.cells #[.int .i64 0, .slice none 0 0, .slice none 0 0, .slice none 0 0] 26)) (Nat.le_refl _)); (try dsimp only)
        refine hK.out _ _ ?_ (fun hHeld => ?_)
        · exact hSS.out _ hS9.out
        clear hK K
        try simp only [Act.put, List.setIfInBounds_toArray, List.set_cons_zero, List.set_cons_succ]
        refine wpAnyH_ready (rs := [5]) (by kernel_rfl) (by simp) ?_
        refine AllReadyH.cons (o := { dst := some 30, op := Op.call { callee := Callee.value (Operand.func 16), args := #[Operand.tmp 25, Operand.tmp 27, Operand.tmp 29], argTypes := #[26, 23, 23] }, type := 37, pos := "law.go:45", after := #[{ on := 0, ground := Ground.data }, { on := 2, ground := Ground.data }, { on := 4, ground := Ground.data }, { on := 4, ground := Ground.chain }], guard := none }) rfl (fun K hK => ?_) AllReadyH.nil
        go_simp
        go_at_call 16; refine (KDo.out _ _ _ _ _ _ hS9.out.v.pv hr2_9.out hr4_9.out).mono ?_; rintro e v5 ⟨y1o, y1n, y1c, y2o, y2n, y2c, y3o, y3n, y3c, rfl, hY5, hb5, _, hkY⟩; have hzl := hz_9.out.lt; have hB5 := hide' (hB9.out.trans (hb5.out.mono hB9.out.size)); have hS5 := hide' (hSd.out.over hB5.out); have hr2_5 := hide' (hr2_9.out.below hb5.out (Nat.le_refl _)); have hr4_5 := hide' (hr4_9.out.below hb5.out (Nat.le_refl _)); have hz_5 := hide' (hz_9.out.of (hb5.out.block _ hz_9.out.lt)); have f0 := hz_5.out.frz 0; have y0 := hz_5.out.c0; have f1 := (hz_5.out.s0C X.users).frz 1; have y1 := (hz_5.out.s0C X.users).c1; have f2 := ((hz_5.out.s0C X.users).s1 (.slice y1o y1n y1c)).frz 2; have y2 := ((hz_5.out.s0C X.users).s1 (.slice y1o y1n y1c)).c2; have f3 := (((hz_5.out.s0C X.users).s1 (.slice y1o y1n y1c)).s2 (.slice y2o y2n y2c)).frz 3; have y3 := (((hz_5.out.s0C X.users).s1 (.slice y1o y1n y1c)).s2 (.slice y2o y2n y2c)).c3; (try dsimp only)
        refine hK.out _ _ ?_ (fun hHeld => ?_)
        · exact hSS.out _ hS5.out
        clear hK K
        try simp only [Act.put, List.setIfInBounds_toArray, List.set_cons_zero, List.set_cons_succ]
        refine wpAnyH_take (i := 6) (oi := { dst := some 24, op := Op.move (Operand.tmp 30), type := 37, pos := "law.go:45", after := #[{ on := 5, ground := Ground.data }], guard := none }) (v := ?_) rfl (by kernel_rfl) (by kernel_rfl) (by kernel_rfl) (fun _ _ _ h => h) (Or.inl ⟨by rfl, ?_⟩) (by assumption) ?_
        rotate_left
        · intro w hSw; (try dsimp only at hSw); go_simp <;> with_reducible rfl
        simp only [Act.put, List.setIfInBounds_toArray, List.set_cons_zero, List.set_cons_succ]
        refine wpAnyH_take (i := 7) (oi := { dst := some 31, op := Op.extract (Operand.tmp 24) 0, type := 26, pos := "law.go:45", after := #[{ on := 6, ground := Ground.data }], guard := none }) (v := ?_) rfl (by kernel_rfl) (by kernel_rfl) (by kernel_rfl) (fun _ _ _ h => h) (Or.inl ⟨by rfl, ?_⟩) (by assumption) ?_
        rotate_left
        · intro w hSw; (try dsimp only at hSw); go_simp <;> with_reducible rfl
        simp only [Act.put, List.setIfInBounds_toArray, List.set_cons_zero, List.set_cons_succ]
        refine wpAnyH_take (i := 8) (oi := { dst := some 32, op := Op.extract (Operand.tmp 24) 1, type := 3, pos := "law.go:45", after := #[{ on := 6, ground := Ground.data }, { on := 10, ground := Ground.gcOnly Departure.lateStores }], guard := none }) (v := ?_) rfl (by kernel_rfl) (by kernel_rfl) (by kernel_rfl) (fun _ _ _ h => h) (Or.inl ⟨by rfl, ?_⟩) (by assumption) ?_
        rotate_left
        · intro w hSw; (try dsimp only at hSw); go_simp <;> with_reducible rfl
        simp only [Act.put, List.setIfInBounds_toArray, List.set_cons_zero, List.set_cons_succ]
        refine wpAnyH_ready (rs := [10]) (by kernel_rfl) (by simp) ?_
        refine AllReadyH.cons (o := { dst := none, op := Op.store 26 (Operand.tmp 10) (Operand.tmp 31), type := 0, pos := "law.go:45", after := #[{ on := 9, ground := Ground.data }, { on := 7, ground := Ground.data }, { on := 5, ground := Ground.chain }, { on := 0, ground := Ground.phase }, { on := 1, ground := Ground.phase }, { on := 2, ground := Ground.phase }, { on := 3, ground := Ground.phase }, { on := 4, ground := Ground.phase }, { on := 5, ground := Ground.phase }, { on := 6, ground := Ground.phase }, { on := 7, ground := Ground.phase }, { on := 8, ground := Ground.textOnly Departure.lateStores }, { on := 9, ground := Ground.phase }], guard := none }) rfl (fun K hK => ?_) AllReadyH.nil
        go_simp
        refine hK.out _ _ ?_ (fun hHeld => ?_)
        · have hgy : w6.drew.heap.size ≤ v4.heap.size := hB4.out.size; exact hSS.out _ (hSd.out.over ((((hB5.out.setCell (p := ⟨v4.heap.size, 0, none⟩) hgy (.int .i64 X.users)).setCell (p := ⟨v4.heap.size, 1, none⟩) hgy (.slice y1o y1n y1c)).setCell (p := ⟨v4.heap.size, 2, none⟩) hgy (.slice y2o y2n y2c)).setCell (p := ⟨v4.heap.size, 3, none⟩) hgy (.slice y3o y3n y3c)))
        clear hK K
        try simp only [Act.put, List.setIfInBounds_toArray, List.set_cons_zero, List.set_cons_succ]
        refine wpAnyH_take (i := 11) (oi := { dst := some 11, op := Op.assign (Operand.tmp 32), type := 3, pos := "law.go:45", after := #[{ on := 8, ground := Ground.data }, { on := 10, ground := Ground.chain }, { on := 0, ground := Ground.phase }, { on := 1, ground := Ground.phase }, { on := 2, ground := Ground.phase }, { on := 3, ground := Ground.phase }, { on := 4, ground := Ground.phase }, { on := 5, ground := Ground.phase }, { on := 6, ground := Ground.phase }, { on := 7, ground := Ground.phase }, { on := 8, ground := Ground.phase }, { on := 9, ground := Ground.phase }, { on := 10, ground := Ground.phase }], guard := none }) (v := ?_) rfl (by kernel_rfl) (by kernel_rfl) (by kernel_rfl) (fun _ _ _ h => h) (Or.inl ⟨by rfl, ?_⟩) (by assumption) ?_
        rotate_left
        · intro w hSw; (try dsimp only at hSw); go_simp <;> with_reducible rfl
        simp only [Act.put, List.setIfInBounds_toArray, List.set_cons_zero, List.set_cons_succ]
        refine wpAnyH_done (by kernel_rfl) ?_ _
        skip
        have hgy : w6.drew.heap.size ≤ v4.heap.size := hB4.out.size
        have hLst := hide' (hSd.out.over ((((hB5.out.setCell (p := ⟨v4.heap.size, 0, none⟩) hgy (.int .i64 X.users)).setCell (p := ⟨v4.heap.size, 1, none⟩) hgy (.slice y1o y1n y1c)).setCell (p := ⟨v4.heap.size, 2, none⟩) hgy (.slice y2o y2n y2c)).setCell (p := ⟨v4.heap.size, 3, none⟩) hgy (.slice y3o y3n y3c)))
        have hPl := hide' (hkY.out ((((v5.setCell ⟨v4.heap.size, 0, none⟩ (.int .i64 X.users)).setCell ⟨v4.heap.size, 1, none⟩ (.slice y1o y1n y1c)).setCell ⟨v4.heap.size, 2, none⟩ (.slice y2o y2n y2c)).setCell ⟨v4.heap.size, 3, none⟩ (.slice y3o y3n y3c)) (fun k h1 _ => by rw [Below.heap_setCell _ _ _ _ (by show k ≠ v4.heap.size; omega), Below.heap_setCell _ _ _ _ (by show k ≠ v4.heap.size; omega), Below.heap_setCell _ _ _ _ (by show k ≠ v4.heap.size; omega), Below.heap_setCell _ _ _ _ (by show k ≠ v4.heap.size; omega)]))
        have hQl := hide' ((((hz_5.out.s0C X.users).s1 (.slice y1o y1n y1c)).s2 (.slice y2o y2n y2c)).s3 (.slice y3o y3n y3c))
        go_wp2
        go_meet
        exact ⟨rfl, _, y1o, y1n, y1c, y2o, y2n, y2c, y3o, y3n, y3c, rfl, hLst, hPl, hQl⟩
      refine AllReadyH.cons (o := { dst := some 10, op := Op.alloc 26, type := 0, pos := "law.go:45", after := #[], guard := none }) rfl (fun K hK => ?_) AllReadyH.nil
      go_simp
      have hz_9 : Hid (QAt (v2.alloc (.cells #[.int .i64 0, .slice none 0 0, .slice none 0 0, .slice none 0 0] 26)) v2.heap.size 0 (.slice none 0 0) (.slice none 0 0) (.slice none 0 0)) := QAt.block (heap_new v2 _); have hB9 := hide' (hB2.out.trans (((Below.refl _ v2).alloc (Nat.le_refl _) (.cells #[.int .i64 0, .slice none 0 0, .slice none 0 0, .slice none 0 0] 26)).mono hB2.out.size)); have hS9 := hide' (hSd.out.over hB9.out); have hr2_9 := hide' (hr2_2.out.below ((Below.refl _ v2).alloc (Nat.le_refl _) (.cells #[.int .i64 0, .slice none 0 0, .slice none 0 0, .slice none 0 0] 26)) (Nat.le_refl _)); (try dsimp only)
      refine hK.out _ _ ?_ (fun hHeld => ?_)
      · exact hSS.out _ hS9.out
      clear hK K
      try simp only [Act.put, List.setIfInBounds_toArray, List.set_cons_zero, List.set_cons_succ]
      refine wpAnyH_ready (rs := [4]) (by kernel_rfl) (by simp) ?_
      refine AllReadyH.cons (o := { dst := some 29, op := Op.call { callee := Callee.value (Operand.func 15), args := #[Operand.tmp 28], argTypes := #[23] }, type := 23, pos := "law.go:45", after := #[{ on := 3, ground := Ground.data }, { on := 2, ground := Ground.chain }], guard := none }) rfl (fun K hK => ?_) AllReadyH.nil
      go_simp
      go_at_call 15; refine (KRs.out _ hS9.out.v.be).mono ?_; rintro e v4 ⟨o4', n4', c4', rfl, hr4_4, hb4⟩; have hB4 := hide' (hB9.out.trans (hb4.out.mono hB9.out.size)); have hS4 := hide' (hSd.out.over hB4.out); have hr2_4 := hide' (hr2_9.out.below hb4.out (Nat.le_refl _)); have hz_4 := hide' (hz_9.out.of (hb4.out.block _ hz_9.out.lt)); (try dsimp only)
      refine hK.out _ _ ?_ (fun hHeld => ?_)
      · exact hSS.out _ hS4.out
      clear hK K
      try simp only [Act.put, List.setIfInBounds_toArray, List.set_cons_zero, List.set_cons_succ]
      refine wpAnyH_ready (rs := [5]) (by kernel_rfl) (by simp) ?_
      refine AllReadyH.cons (o := { dst := some 30, op := Op.call { callee := Callee.value (Operand.func 16), args := #[Operand.tmp 25, Operand.tmp 27, Operand.tmp 29], argTypes := #[26, 23, 23] }, type := 37, pos := "law.go:45", after := #[{ on := 0, ground := Ground.data }, { on := 2, ground := Ground.data }, { on := 4, ground := Ground.data }, { on := 4, ground := Ground.chain }], guard := none }) rfl (fun K hK => ?_) AllReadyH.nil
      go_simp
      go_at_call 16; refine (KDo.out _ _ _ _ _ _ hS4.out.v.pv hr2_4.out hr4_4.out).mono ?_; rintro e v5 ⟨y1o, y1n, y1c, y2o, y2n, y2c, y3o, y3n, y3c, rfl, hY5, hb5, _, hkY⟩; have hzl := hz_4.out.lt; have hB5 := hide' (hB4.out.trans (hb5.out.mono hB4.out.size)); have hS5 := hide' (hSd.out.over hB5.out); have hr2_5 := hide' (hr2_4.out.below hb5.out (Nat.le_refl _)); have hr4_5 := hide' (hr4_4.out.below hb5.out (Nat.le_refl _)); have hz_5 := hide' (hz_4.out.of (hb5.out.block _ hz_4.out.lt)); have f0 := hz_5.out.frz 0; have y0 := hz_5.out.c0; have f1 := (hz_5.out.s0C X.users).frz 1; have y1 := (hz_5.out.s0C X.users).c1; have f2 := ((hz_5.out.s0C X.users).s1 (.slice y1o y1n y1c)).frz 2; have y2 := ((hz_5.out.s0C X.users).s1 (.slice y1o y1n y1c)).c2; have f3 := (((hz_5.out.s0C X.users).s1 (.slice y1o y1n y1c)).s2 (.slice y2o y2n y2c)).frz 3; have y3 := (((hz_5.out.s0C X.users).s1 (.slice y1o y1n y1c)).s2 (.slice y2o y2n y2c)).c3; (try dsimp only)
      refine hK.out _ _ ?_ (fun hHeld => ?_)
      · exact hSS.out _ hS5.out
      clear hK K
      try simp only [Act.put, List.setIfInBounds_toArray, List.set_cons_zero, List.set_cons_succ]
      refine wpAnyH_take (i := 6) (oi := { dst := some 24, op := Op.move (Operand.tmp 30), type := 37, pos := "law.go:45", after := #[{ on := 5, ground := Ground.data }], guard := none }) (v := ?_) rfl (by kernel_rfl) (by kernel_rfl) (by kernel_rfl) (fun _ _ _ h => h) (Or.inl ⟨by rfl, ?_⟩) (by assumption) ?_
      rotate_left
      · intro w hSw; (try dsimp only at hSw); go_simp <;> with_reducible rfl
      simp only [Act.put, List.setIfInBounds_toArray, List.set_cons_zero, List.set_cons_succ]
      refine wpAnyH_take (i := 7) (oi := { dst := some 31, op := Op.extract (Operand.tmp 24) 0, type := 26, pos := "law.go:45", after := #[{ on := 6, ground := Ground.data }], guard := none }) (v := ?_) rfl (by kernel_rfl) (by kernel_rfl) (by kernel_rfl) (fun _ _ _ h => h) (Or.inl ⟨by rfl, ?_⟩) (by assumption) ?_
      rotate_left
      · intro w hSw; (try dsimp only at hSw); go_simp <;> with_reducible rfl
      simp only [Act.put, List.setIfInBounds_toArray, List.set_cons_zero, List.set_cons_succ]
      refine wpAnyH_take (i := 8) (oi := { dst := some 32, op := Op.extract (Operand.tmp 24) 1, type := 3, pos := "law.go:45", after := #[{ on := 6, ground := Ground.data }, { on := 10, ground := Ground.gcOnly Departure.lateStores }], guard := none }) (v := ?_) rfl (by kernel_rfl) (by kernel_rfl) (by kernel_rfl) (fun _ _ _ h => h) (Or.inl ⟨by rfl, ?_⟩) (by assumption) ?_
      rotate_left
      · intro w hSw; (try dsimp only at hSw); go_simp <;> with_reducible rfl
      simp only [Act.put, List.setIfInBounds_toArray, List.set_cons_zero, List.set_cons_succ]
      refine wpAnyH_ready (rs := [10]) (by kernel_rfl) (by simp) ?_
      refine AllReadyH.cons (o := { dst := none, op := Op.store 26 (Operand.tmp 10) (Operand.tmp 31), type := 0, pos := "law.go:45", after := #[{ on := 9, ground := Ground.data }, { on := 7, ground := Ground.data }, { on := 5, ground := Ground.chain }, { on := 0, ground := Ground.phase }, { on := 1, ground := Ground.phase }, { on := 2, ground := Ground.phase }, { on := 3, ground := Ground.phase }, { on := 4, ground := Ground.phase }, { on := 5, ground := Ground.phase }, { on := 6, ground := Ground.phase }, { on := 7, ground := Ground.phase }, { on := 8, ground := Ground.textOnly Departure.lateStores }, { on := 9, ground := Ground.phase }], guard := none }) rfl (fun K hK => ?_) AllReadyH.nil
      go_simp
      refine hK.out _ _ ?_ (fun hHeld => ?_)
      · have hgy : w6.drew.heap.size ≤ v2.heap.size := hB2.out.size; exact hSS.out _ (hSd.out.over ((((hB5.out.setCell (p := ⟨v2.heap.size, 0, none⟩) hgy (.int .i64 X.users)).setCell (p := ⟨v2.heap.size, 1, none⟩) hgy (.slice y1o y1n y1c)).setCell (p := ⟨v2.heap.size, 2, none⟩) hgy (.slice y2o y2n y2c)).setCell (p := ⟨v2.heap.size, 3, none⟩) hgy (.slice y3o y3n y3c)))
      clear hK K
      try simp only [Act.put, List.setIfInBounds_toArray, List.set_cons_zero, List.set_cons_succ]
      refine wpAnyH_take (i := 11) (oi := { dst := some 11, op := Op.assign (Operand.tmp 32), type := 3, pos := "law.go:45", after := #[{ on := 8, ground := Ground.data }, { on := 10, ground := Ground.chain }, { on := 0, ground := Ground.phase }, { on := 1, ground := Ground.phase }, { on := 2, ground := Ground.phase }, { on := 3, ground := Ground.phase }, { on := 4, ground := Ground.phase }, { on := 5, ground := Ground.phase }, { on := 6, ground := Ground.phase }, { on := 7, ground := Ground.phase }, { on := 8, ground := Ground.phase }, { on := 9, ground := Ground.phase }, { on := 10, ground := Ground.phase }], guard := none }) (v := ?_) rfl (by kernel_rfl) (by kernel_rfl) (by kernel_rfl) (fun _ _ _ h => h) (Or.inl ⟨by rfl, ?_⟩) (by assumption) ?_
      rotate_left
      · intro w hSw; (try dsimp only at hSw); go_simp <;> with_reducible rfl
      simp only [Act.put, List.setIfInBounds_toArray, List.set_cons_zero, List.set_cons_succ]
      refine wpAnyH_done (by kernel_rfl) ?_ _
      skip
      have hgy : w6.drew.heap.size ≤ v2.heap.size := hB2.out.size
      have hLst := hide' (hSd.out.over ((((hB5.out.setCell (p := ⟨v2.heap.size, 0, none⟩) hgy (.int .i64 X.users)).setCell (p := ⟨v2.heap.size, 1, none⟩) hgy (.slice y1o y1n y1c)).setCell (p := ⟨v2.heap.size, 2, none⟩) hgy (.slice y2o y2n y2c)).setCell (p := ⟨v2.heap.size, 3, none⟩) hgy (.slice y3o y3n y3c)))
      have hPl := hide' (hkY.out ((((v5.setCell ⟨v2.heap.size, 0, none⟩ (.int .i64 X.users)).setCell ⟨v2.heap.size, 1, none⟩ (.slice y1o y1n y1c)).setCell ⟨v2.heap.size, 2, none⟩ (.slice y2o y2n y2c)).setCell ⟨v2.heap.size, 3, none⟩ (.slice y3o y3n y3c)) (fun k h1 _ => by rw [Below.heap_setCell _ _ _ _ (by show k ≠ v2.heap.size; omega), Below.heap_setCell _ _ _ _ (by show k ≠ v2.heap.size; omega), Below.heap_setCell _ _ _ _ (by show k ≠ v2.heap.size; omega), Below.heap_setCell _ _ _ _ (by show k ≠ v2.heap.size; omega)]))
      have hQl := hide' ((((hz_5.out.s0C X.users).s1 (.slice y1o y1n y1c)).s2 (.slice y2o y2n y2c)).s3 (.slice y3o y3n y3c))
      go_wp2
      go_meet
      exact ⟨rfl, _, y1o, y1n, y1c, y2o, y2n, y2c, y3o, y3n, y3c, rfl, hLst, hPl, hQl⟩
    refine AllReadyH.cons (o := { dst := some 10, op := Op.alloc 26, type := 0, pos := "law.go:45", after := #[], guard := none }) rfl (fun K hK => ?_) AllReadyH.nil
    go_simp
    have hz_9 : Hid (QAt (w6.drew.alloc (.cells #[.int .i64 0, .slice none 0 0, .slice none 0 0, .slice none 0 0] 26)) w6.heap.size 0 (.slice none 0 0) (.slice none 0 0) (.slice none 0 0)) := QAt.block (heap_new w6.drew _); have hB9 := hide' (hBd.out.trans (((Below.refl _ w6.drew).alloc (Nat.le_refl _) (.cells #[.int .i64 0, .slice none 0 0, .slice none 0 0, .slice none 0 0] 26)).mono hBd.out.size)); have hS9 := hide' (hSd.out.over hB9.out); (try dsimp only)
    refine hK.out _ _ ?_ (fun hHeld => ?_)
    · exact hSS.out _ hS9.out
    clear hK K
    try simp only [Act.put, List.setIfInBounds_toArray, List.set_cons_zero, List.set_cons_succ]
    refine wpAnyH_ready (rs := [2]) (by kernel_rfl) (by simp) ?_
    refine AllReadyH.cons (o := { dst := some 27, op := Op.call { callee := Callee.value (Operand.func 15), args := #[Operand.tmp 26], argTypes := #[23] }, type := 23, pos := "law.go:45", after := #[{ on := 1, ground := Ground.data }], guard := none }) rfl (fun K hK => ?_) AllReadyH.nil
    go_simp
    go_at_call 15; refine (KRr.out _ hS9.out.v.be).mono ?_; rintro e v2 ⟨o2, n2, c2, rfl, hr2_2, hb2⟩; have hB2 := hide' (hB9.out.trans (hb2.out.mono hB9.out.size)); have hS2 := hide' (hSd.out.over hB2.out); have hz_2 := hide' (hz_9.out.of (hb2.out.block _ hz_9.out.lt)); (try dsimp only)
    refine hK.out _ _ ?_ (fun hHeld => ?_)
    · exact hSS.out _ hS2.out
    clear hK K
    try simp only [Act.put, List.setIfInBounds_toArray, List.set_cons_zero, List.set_cons_succ]
    refine wpAnyH_ready (rs := [4]) (by kernel_rfl) (by simp) ?_
    refine AllReadyH.cons (o := { dst := some 29, op := Op.call { callee := Callee.value (Operand.func 15), args := #[Operand.tmp 28], argTypes := #[23] }, type := 23, pos := "law.go:45", after := #[{ on := 3, ground := Ground.data }, { on := 2, ground := Ground.chain }], guard := none }) rfl (fun K hK => ?_) AllReadyH.nil
    go_simp
    go_at_call 15; refine (KRs.out _ hS2.out.v.be).mono ?_; rintro e v4 ⟨o4', n4', c4', rfl, hr4_4, hb4⟩; have hB4 := hide' (hB2.out.trans (hb4.out.mono hB2.out.size)); have hS4 := hide' (hSd.out.over hB4.out); have hr2_4 := hide' (hr2_2.out.below hb4.out (Nat.le_refl _)); have hz_4 := hide' (hz_2.out.of (hb4.out.block _ hz_2.out.lt)); (try dsimp only)
    refine hK.out _ _ ?_ (fun hHeld => ?_)
    · exact hSS.out _ hS4.out
    clear hK K
    try simp only [Act.put, List.setIfInBounds_toArray, List.set_cons_zero, List.set_cons_succ]
    refine wpAnyH_ready (rs := [5]) (by kernel_rfl) (by simp) ?_
    refine AllReadyH.cons (o := { dst := some 30, op := Op.call { callee := Callee.value (Operand.func 16), args := #[Operand.tmp 25, Operand.tmp 27, Operand.tmp 29], argTypes := #[26, 23, 23] }, type := 37, pos := "law.go:45", after := #[{ on := 0, ground := Ground.data }, { on := 2, ground := Ground.data }, { on := 4, ground := Ground.data }, { on := 4, ground := Ground.chain }], guard := none }) rfl (fun K hK => ?_) AllReadyH.nil
    go_simp
    go_at_call 16; refine (KDo.out _ _ _ _ _ _ hS4.out.v.pv hr2_4.out hr4_4.out).mono ?_; rintro e v5 ⟨y1o, y1n, y1c, y2o, y2n, y2c, y3o, y3n, y3c, rfl, hY5, hb5, _, hkY⟩; have hzl := hz_4.out.lt; have hB5 := hide' (hB4.out.trans (hb5.out.mono hB4.out.size)); have hS5 := hide' (hSd.out.over hB5.out); have hr2_5 := hide' (hr2_4.out.below hb5.out (Nat.le_refl _)); have hr4_5 := hide' (hr4_4.out.below hb5.out (Nat.le_refl _)); have hz_5 := hide' (hz_4.out.of (hb5.out.block _ hz_4.out.lt)); have f0 := hz_5.out.frz 0; have y0 := hz_5.out.c0; have f1 := (hz_5.out.s0C X.users).frz 1; have y1 := (hz_5.out.s0C X.users).c1; have f2 := ((hz_5.out.s0C X.users).s1 (.slice y1o y1n y1c)).frz 2; have y2 := ((hz_5.out.s0C X.users).s1 (.slice y1o y1n y1c)).c2; have f3 := (((hz_5.out.s0C X.users).s1 (.slice y1o y1n y1c)).s2 (.slice y2o y2n y2c)).frz 3; have y3 := (((hz_5.out.s0C X.users).s1 (.slice y1o y1n y1c)).s2 (.slice y2o y2n y2c)).c3; (try dsimp only)
    refine hK.out _ _ ?_ (fun hHeld => ?_)
    · exact hSS.out _ hS5.out
    clear hK K
    try simp only [Act.put, List.setIfInBounds_toArray, List.set_cons_zero, List.set_cons_succ]
    refine wpAnyH_take (i := 6) (oi := { dst := some 24, op := Op.move (Operand.tmp 30), type := 37, pos := "law.go:45", after := #[{ on := 5, ground := Ground.data }], guard := none }) (v := ?_) rfl (by kernel_rfl) (by kernel_rfl) (by kernel_rfl) (fun _ _ _ h => h) (Or.inl ⟨by rfl, ?_⟩) (by assumption) ?_
    rotate_left
    · intro w hSw; (try dsimp only at hSw); go_simp <;> with_reducible rfl
    simp only [Act.put, List.setIfInBounds_toArray, List.set_cons_zero, List.set_cons_succ]
    refine wpAnyH_take (i := 7) (oi := { dst := some 31, op := Op.extract (Operand.tmp 24) 0, type := 26, pos := "law.go:45", after := #[{ on := 6, ground := Ground.data }], guard := none }) (v := ?_) rfl (by kernel_rfl) (by kernel_rfl) (by kernel_rfl) (fun _ _ _ h => h) (Or.inl ⟨by rfl, ?_⟩) (by assumption) ?_
    rotate_left
    · intro w hSw; (try dsimp only at hSw); go_simp <;> with_reducible rfl
    simp only [Act.put, List.setIfInBounds_toArray, List.set_cons_zero, List.set_cons_succ]
    refine wpAnyH_take (i := 8) (oi := { dst := some 32, op := Op.extract (Operand.tmp 24) 1, type := 3, pos := "law.go:45", after := #[{ on := 6, ground := Ground.data }, { on := 10, ground := Ground.gcOnly Departure.lateStores }], guard := none }) (v := ?_) rfl (by kernel_rfl) (by kernel_rfl) (by kernel_rfl) (fun _ _ _ h => h) (Or.inl ⟨by rfl, ?_⟩) (by assumption) ?_
    rotate_left
    · intro w hSw; (try dsimp only at hSw); go_simp <;> with_reducible rfl
    simp only [Act.put, List.setIfInBounds_toArray, List.set_cons_zero, List.set_cons_succ]
    refine wpAnyH_ready (rs := [10]) (by kernel_rfl) (by simp) ?_
    refine AllReadyH.cons (o := { dst := none, op := Op.store 26 (Operand.tmp 10) (Operand.tmp 31), type := 0, pos := "law.go:45", after := #[{ on := 9, ground := Ground.data }, { on := 7, ground := Ground.data }, { on := 5, ground := Ground.chain }, { on := 0, ground := Ground.phase }, { on := 1, ground := Ground.phase }, { on := 2, ground := Ground.phase }, { on := 3, ground := Ground.phase }, { on := 4, ground := Ground.phase }, { on := 5, ground := Ground.phase }, { on := 6, ground := Ground.phase }, { on := 7, ground := Ground.phase }, { on := 8, ground := Ground.textOnly Departure.lateStores }, { on := 9, ground := Ground.phase }], guard := none }) rfl (fun K hK => ?_) AllReadyH.nil
    go_simp
    refine hK.out _ _ ?_ (fun hHeld => ?_)
    · have hgy : w6.drew.heap.size ≤ w6.heap.size := hBd.out.size; exact hSS.out _ (hSd.out.over ((((hB5.out.setCell (p := ⟨w6.heap.size, 0, none⟩) hgy (.int .i64 X.users)).setCell (p := ⟨w6.heap.size, 1, none⟩) hgy (.slice y1o y1n y1c)).setCell (p := ⟨w6.heap.size, 2, none⟩) hgy (.slice y2o y2n y2c)).setCell (p := ⟨w6.heap.size, 3, none⟩) hgy (.slice y3o y3n y3c)))
    clear hK K
    try simp only [Act.put, List.setIfInBounds_toArray, List.set_cons_zero, List.set_cons_succ]
    refine wpAnyH_take (i := 11) (oi := { dst := some 11, op := Op.assign (Operand.tmp 32), type := 3, pos := "law.go:45", after := #[{ on := 8, ground := Ground.data }, { on := 10, ground := Ground.chain }, { on := 0, ground := Ground.phase }, { on := 1, ground := Ground.phase }, { on := 2, ground := Ground.phase }, { on := 3, ground := Ground.phase }, { on := 4, ground := Ground.phase }, { on := 5, ground := Ground.phase }, { on := 6, ground := Ground.phase }, { on := 7, ground := Ground.phase }, { on := 8, ground := Ground.phase }, { on := 9, ground := Ground.phase }, { on := 10, ground := Ground.phase }], guard := none }) (v := ?_) rfl (by kernel_rfl) (by kernel_rfl) (by kernel_rfl) (fun _ _ _ h => h) (Or.inl ⟨by rfl, ?_⟩) (by assumption) ?_
    rotate_left
    · intro w hSw; (try dsimp only at hSw); go_simp <;> with_reducible rfl
    simp only [Act.put, List.setIfInBounds_toArray, List.set_cons_zero, List.set_cons_succ]
    refine wpAnyH_done (by kernel_rfl) ?_ _
    skip
    have hgy : w6.drew.heap.size ≤ w6.heap.size := hBd.out.size
    have hLst := hide' (hSd.out.over ((((hB5.out.setCell (p := ⟨w6.heap.size, 0, none⟩) hgy (.int .i64 X.users)).setCell (p := ⟨w6.heap.size, 1, none⟩) hgy (.slice y1o y1n y1c)).setCell (p := ⟨w6.heap.size, 2, none⟩) hgy (.slice y2o y2n y2c)).setCell (p := ⟨w6.heap.size, 3, none⟩) hgy (.slice y3o y3n y3c)))
    have hPl := hide' (hkY.out ((((v5.setCell ⟨w6.heap.size, 0, none⟩ (.int .i64 X.users)).setCell ⟨w6.heap.size, 1, none⟩ (.slice y1o y1n y1c)).setCell ⟨w6.heap.size, 2, none⟩ (.slice y2o y2n y2c)).setCell ⟨w6.heap.size, 3, none⟩ (.slice y3o y3n y3c)) (fun k h1 _ => by rw [Below.heap_setCell _ _ _ _ (by show k ≠ w6.heap.size; omega), Below.heap_setCell _ _ _ _ (by show k ≠ w6.heap.size; omega), Below.heap_setCell _ _ _ _ (by show k ≠ w6.heap.size; omega), Below.heap_setCell _ _ _ _ (by show k ≠ w6.heap.size; omega)]))
    have hQl := hide' ((((hz_5.out.s0C X.users).s1 (.slice y1o y1n y1c)).s2 (.slice y2o y2n y2c)).s3 (.slice y3o y3n y3c))
    go_wp2
    go_meet
    exact ⟨rfl, _, y1o, y1n, y1c, y2o, y2n, y2c, y3o, y3n, y3c, rfl, hLst, hPl, hQl⟩
  case rest =>
    obtain ⟨rfl, gy, y1o, y1n, y1c, y2o, y2n, y2c, y3o, y3n, y3c, rfl, hW, hY, hQy⟩ := hcut
    have hee : ((N : Int) == (N : Int)) = true := by simp
    have p0 := hW.out.bx.c0
    have p1 := hW.out.bx.c1
    have p2 := hW.out.bx.c2
    have p3 := hW.out.bx.c3
    have r0 := hQy.out.c0
    have r1 := hQy.out.c1
    have r2 := hQy.out.c2
    have r3 := hQy.out.c3
    have KS := hide' (sameF X _ _ _ _ _ _ wc hW.out.px hY.out hXok.out)
    have hV := hide' hW.out.v.be
    clear KRr KRs KDo hY hQy hS6 hW
    go_wp2_with fail
    refine KS.out.mono ?_
    rintro e w9 ⟨rfl, hb9⟩
    have hB9 := hide' (hV.out.trans (hb9.mono hV.out.size))
    have KK := hide' (wakesCF w9 (ht'.out.over hB9.out))
    clear p0 p1 p2 p3 r0 r1 r2 r3 KS hb9 hV
    go_wp2_with fail
    refine KK.out.mono ?_
    rintro e w10 ⟨rfl, hb10⟩
    have hB10 := hide' (hB9.out.trans (hb10.mono hB9.out.size))
    go_wp2
    go_ret
    exact ⟨rfl, hB10.out⟩
end Go.Proofs.YtdlfjbhabflinaaGreatDoor.S
