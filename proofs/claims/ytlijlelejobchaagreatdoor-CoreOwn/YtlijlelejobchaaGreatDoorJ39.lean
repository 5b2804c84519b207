/- CoreOwn, walked. -/
import Derived.Test.YtlijlelejobchaaGreatDoorJ38
import Derived.Deep.CutBlock
import Derived.Deep.CutRange
namespace Go.Proofs.YtlijlelejobchaaGreatDoor.S
open Go.RowKit Go.Shelf
attribute [local irreducible] wpQuiet
set_option maxRecDepth 100000 in
set_option maxHeartbeats 8000000 in
theorem coreOwn_walk (P0 : Pb) (wv fv rv vr vs : Value) (Lr Ls : List Int) (w : World) (h : PbV w P0 wv fv rv) (hb : ∀ z ∈ P0.who, z < 18446744073709551616) (ht : M.Tab w) (hr : RowI w vr Lr) (hs : RowI w vs Ls) :
    Calls Tryz.prog 4 #[pbV P0 wv fv rv, vr, vs] w fun e w' => e = .returned (.bool true) ∧ Below w.heap.size w w' := by
  have hB0 : Hid (Below w.heap.size w (w.alloc (.cells #[.int .i64 P0.users, wv, fv, rv] 26))) := (Below.refl _ w).alloc (Nat.le_refl _) _
  have K0 := hide' (cutC P0 wv fv rv _ (h.below hB0.out))
  have hk := hide' (cutP_ok hb)
  have ht' := hide' ht
  have hr' := hide' hr
  have hs' := hide' hs
  have hQl : Hid ((cutP P0).who.length ≤ 20 ∧ (cutP P0).rules.length ≤ 40) := by
    refine ⟨?_, ?_⟩
    · show (P0.who.take 20).length ≤ 20; rw [List.length_take]; omega
    · show ((P0.rules.take 40).map cutR).length ≤ 40; rw [List.length_map, List.length_take]; omega
  clear h ht hb hr hs
  unfold pbV at K0 ⊢
  generalize cutP P0 = Q at *
  go_enter Tryz.func4, Tryz.ntmps4
  go_wp2_with fail
  refine K0.out.mono ?_
  rintro e w1 ⟨qw, qf, qr, rfl, hq1, hb1, ho1⟩
  have hB1 : Hid (Below w.heap.size w w1) := hB0.out.trans (hb1.out.mono hB0.out.size)
  obtain ⟨ow, cw, of, cf, or, cr, rfl, rfl, rfl⟩ := hq1.out.shape
  clear hb1 hB0 K0 ho1
  have hbA : Hid (Below w1.heap.size w1 (w1.alloc (.cells #[.int .i64 Q.users, .slice ow Q.who.length cw, .slice of Q.fixed.length cf, .slice or Q.rules.length cr] 26))) := (Below.refl _ w1).alloc (Nat.le_refl _) _
  have hBV : Hid (Below w.heap.size w (w1.alloc (.cells #[.int .i64 Q.users, .slice ow Q.who.length cw, .slice of Q.fixed.length cf, .slice or Q.rules.length cr] 26))) := hB1.out.trans (hbA.out.mono hB1.out.size)
  have hSc : Hid (Sc (w1.alloc (.cells #[.int .i64 Q.users, .slice ow Q.who.length cw, .slice of Q.fixed.length cf, .slice or Q.rules.length cr] 26)) Q (.slice ow Q.who.length cw) (.slice of Q.fixed.length cf) (.slice or Q.rules.length cr) w1.heap.size vr vs Lr Ls) := ⟨heap_new w1 _, hq1.out.below hbA.out, ht'.out.over hBV.out, hr'.out.below hBV.out (Nat.le_refl _), hs'.out.below hBV.out (Nat.le_refl _)⟩
  have hz : Hid ((w1.alloc (.cells #[.int .i64 Q.users, .slice ow Q.who.length cw, .slice of Q.fixed.length cf, .slice or Q.rules.length cr] 26)).heap.size = w1.heap.size + 1) := by show _ = _; simp
  have hZ0 := hide' (Z2.start2 (w1.alloc (.cells #[.int .i64 Q.users, .slice ow Q.who.length cw, .slice of Q.fixed.length cf, .slice or Q.rules.length cr] 26)) (Rc (w1.alloc (.cells #[.int .i64 Q.users, .slice ow Q.who.length cw, .slice of Q.fixed.length cf, .slice or Q.rules.length cr] 26))) (fun _ _ => rfl) Rc.cl)
  clear hq1 hbA ht' hr' hs' hB1
  rw [hz.out] at hZ0
  clear hz
  go_upto_block 0 with fail
  generalize ((w1.alloc (.cells #[.int .i64 Q.users, .slice ow Q.who.length cw, .slice of Q.fixed.length cf, .slice or Q.rules.length cr] 26)).alloc (.cells #[.slice none 0 0, .slice none 0 0, .slice none 0 0, .slice none 0 0] 40)).alloc (.cells #[.slice none 0 0, .slice none 0 0, .slice none 0 0, .slice none 0 0, .slice none 0 0, .slice none 0 0, .slice none 0 0, .slice none 0 0, .slice none 0 0, .slice none 0 0, .slice none 0 0, .slice none 0 0, .int .i64 0] 36) = w5 at *
  generalize w1.alloc (.cells #[.int .i64 Q.users, .slice ow Q.who.length cw, .slice of Q.fixed.length cf, .slice or Q.rules.length cr] 26) = V0 at *
  generalize hB : w1.heap.size + 1 + 1 = B at *
  generalize hp : w1.heap.size + 1 = p at *
  generalize w1.heap.size = g at *
  clear hp hB w1
  go_wp2
  go_loopw [11, 12, 13, 14, 15, 16, 17, 18, 19, 10] (fun _ _ _ _ _ _ _ _ _ kv wr => ∃ j : Nat, j ≤ 2 ∧ kv = .int .i64 (j : Int) ∧ Hid (Z2 V0 (Rc V0) B p (200 * j) (.slice none 0 0) (.slice none 0 0) (.slice none 0 0) [] [] [] [] [] (fun _ => False) wr)) (fun _ _ _ _ _ _ _ _ _ kv _ => ((2 : Int) - intOf kv).toNat)
  case atStart => exact ⟨0, by omega, rfl, hZ0⟩
  case round =>
    clear hZ0
    obtain ⟨j, hj, rfl, hZ⟩ := hrel
    by_cases hlt : j < 2
    · have hlt' : (j : Int) < 2 := by omega
      go_upto_region 7 with fail
      go_cut [11] from 30 to 40 (fun xv wx => ∃ (gx gw cw2 gf cf2 : Nat), xv = .pointer (some ⟨gx, 0, none⟩) ∧ Hid (Zx V0 (Rc V0) B p (200 * j + 2) (.slice (some ⟨gw, 0, none⟩) Q.who.length cw2) (.slice (some ⟨gf, 0, none⟩) Q.fixed.length cf2) (.slice none 0 0) Q.who Q.fixed [] [] [] gx Q.users (.slice (some ⟨gw, 0, none⟩) Q.who.length cw2) (.slice (some ⟨gf, 0, none⟩) Q.fixed.length cf2) (.slice none 0 0) wx))
      case first =>
        as_aux_lemma =>
        have hQc : Hid (∀ (mm : Nat) (xw xf xr : Value) (Lw : List Nat) (Lf : List Int) (PP : List (Rl × Value)) (E H : List (Value × List Int)) (F : Nat → Prop) (V : World), Z2 V0 (Rc V0) B p mm xw xf xr Lw Lf PP E H F V → V.cell? ⟨g, 0, none⟩ = some (.int .i64 Q.users) ∧ V.cell? ⟨g, 1, none⟩ = some (.slice ow Q.who.length cw) ∧ V.cell? ⟨g, 2, none⟩ = some (.slice of Q.fixed.length cf) ∧ V.cell? ⟨g, 3, none⟩ = some (.slice or Q.rules.length cr)) := fun mm xw xf xr Lw Lf PP E H F V hz => (hSc.out.at hz).1.all
        have hZd := hide' (hZ.out.below (Below.refl _ wr).drew)
        refine wp_region_held_drew (S := (fun V => V.cell? ⟨g, 0, none⟩ = some (.int .i64 Q.users) ∧ V.cell? ⟨g, 1, none⟩ = some (.slice ow Q.who.length cw) ∧ V.cell? ⟨g, 2, none⟩ = some (.slice of Q.fixed.length cf) ∧ V.cell? ⟨g, 3, none⟩ = some (.slice or Q.rules.length cr))) (by kernel_rfl) ?_ (fun hHeld => ?_)
        · exact hQc.out _ _ _ _ _ _ _ _ _ _ _ hZd.out
        refine wpAnyH_take (i := 0) (oi := { dst := some 30, op := Op.fieldAddr 26 (Operand.tmp 7) 0, type := 0, pos := "law.go:102", after := #[], guard := none }) (v := ?_) rfl (by kernel_rfl) (by kernel_rfl) (by kernel_rfl) (fun _ _ _ h => h) (Or.inl ⟨by rfl, ?_⟩) (by assumption) ?_
        rotate_left
        · intro w hSw; (try dsimp only at hSw); go_simp <;> with_reducible rfl
        simp only [Act.put, List.setIfInBounds_toArray, List.set_cons_zero, List.set_cons_succ]
        refine wpAnyH_take (i := 1) (oi := { dst := some 31, op := Op.load 3 (Operand.tmp 30), type := 3, pos := "law.go:102", after := #[{ on := 0, ground := Ground.data }], guard := none }) (v := ?_) rfl (by kernel_rfl) (by kernel_rfl) (by kernel_rfl) (fun _ _ _ h => h) (Or.inl ⟨by rfl, ?_⟩) (by assumption) ?_
        rotate_left
        · intro w hSw; (try dsimp only at hSw); go_simp <;> with_reducible rfl
        simp only [Act.put, List.setIfInBounds_toArray, List.set_cons_zero, List.set_cons_succ]
        refine wpAnyH_take (i := 2) (oi := { dst := some 32, op := Op.move (Operand.tmp 8), type := 37, pos := "law.go:102", after := #[], guard := none }) (v := ?_) rfl (by kernel_rfl) (by kernel_rfl) (by kernel_rfl) (fun _ _ _ h => h) (Or.inl ⟨by rfl, ?_⟩) (by assumption) ?_
        rotate_left
        · intro w hSw; (try dsimp only at hSw); go_simp <;> with_reducible rfl
        simp only [Act.put, List.setIfInBounds_toArray, List.set_cons_zero, List.set_cons_succ]
        refine wpAnyH_take (i := 3) (oi := { dst := some 33, op := Op.fieldAddr 26 (Operand.tmp 7) 1, type := 0, pos := "law.go:102", after := #[], guard := none }) (v := ?_) rfl (by kernel_rfl) (by kernel_rfl) (by kernel_rfl) (fun _ _ _ h => h) (Or.inl ⟨by rfl, ?_⟩) (by assumption) ?_
        rotate_left
        · intro w hSw; (try dsimp only at hSw); go_simp <;> with_reducible rfl
        simp only [Act.put, List.setIfInBounds_toArray, List.set_cons_zero, List.set_cons_succ]
        refine wpAnyH_take (i := 4) (oi := { dst := some 34, op := Op.load 22 (Operand.tmp 33), type := 22, pos := "law.go:102", after := #[{ on := 3, ground := Ground.data }], guard := none }) (v := ?_) rfl (by kernel_rfl) (by kernel_rfl) (by kernel_rfl) (fun _ _ _ h => h) (Or.inl ⟨by rfl, ?_⟩) (by assumption) ?_
        rotate_left
        · intro w hSw; (try dsimp only at hSw); go_simp <;> with_reducible rfl
        simp only [Act.put, List.setIfInBounds_toArray, List.set_cons_zero, List.set_cons_succ]
        refine wpAnyH_take (i := 6) (oi := { dst := some 36, op := Op.move (Operand.tmp 8), type := 37, pos := "law.go:102", after := #[], guard := none }) (v := ?_) rfl (by kernel_rfl) (by kernel_rfl) (by kernel_rfl) (fun _ _ _ h => h) (Or.inl ⟨by rfl, ?_⟩) (by assumption) ?_
        rotate_left
        · intro w hSw; (try dsimp only at hSw); go_simp <;> with_reducible rfl
        simp only [Act.put, List.setIfInBounds_toArray, List.set_cons_zero, List.set_cons_succ]
        refine wpAnyH_take (i := 7) (oi := { dst := some 37, op := Op.fieldAddr 26 (Operand.tmp 7) 2, type := 0, pos := "law.go:102", after := #[], guard := none }) (v := ?_) rfl (by kernel_rfl) (by kernel_rfl) (by kernel_rfl) (fun _ _ _ h => h) (Or.inl ⟨by rfl, ?_⟩) (by assumption) ?_
        rotate_left
        · intro w hSw; (try dsimp only at hSw); go_simp <;> with_reducible rfl
        simp only [Act.put, List.setIfInBounds_toArray, List.set_cons_zero, List.set_cons_succ]
        refine wpAnyH_take (i := 8) (oi := { dst := some 38, op := Op.load 23 (Operand.tmp 37), type := 23, pos := "law.go:102", after := #[{ on := 7, ground := Ground.data }], guard := none }) (v := ?_) rfl (by kernel_rfl) (by kernel_rfl) (by kernel_rfl) (fun _ _ _ h => h) (Or.inl ⟨by rfl, ?_⟩) (by assumption) ?_
        rotate_left
        · intro w hSw; (try dsimp only at hSw); go_simp <;> with_reducible rfl
        simp only [Act.put, List.setIfInBounds_toArray, List.set_cons_zero, List.set_cons_succ]
        refine wpAnyH_ready (rs := [5, 11]) (by kernel_rfl) (by simp) ?_
        refine AllReadyH.cons (o := { dst := some 35, op := Op.call { callee := Callee.value (Operand.func 8), args := #[Operand.tmp 32, Operand.tmp 34], argTypes := #[37, 22] }, type := 22, pos := "law.go:102", after := #[{ on := 2, ground := Ground.data }, { on := 4, ground := Ground.data }], guard := none }) rfl (fun K hK => ?_) ?_
        · skip
          go_simp
          go_at_call 8; refine (z2Rows hZd.out (by omega) _ Q.who (hSc.out.at hZd.out).2.1.who (by have := hk.out.w; omega)).mono ?_; rintro e v5 ⟨g5, c5, rfl, hZ5, _⟩; (try dsimp only)
          refine hK.out _ _ ?_ (fun hHeld => ?_)
          · exact hQc.out _ _ _ _ _ _ _ _ _ _ _ hZ5.out
          clear hK K
          try simp only [Act.put, List.setIfInBounds_toArray, List.set_cons_zero, List.set_cons_succ]
          refine wpAnyH_ready (rs := [9, 11]) (by kernel_rfl) (by simp) ?_
          refine AllReadyH.cons (o := { dst := some 39, op := Op.call { callee := Callee.value (Operand.func 9), args := #[Operand.tmp 36, Operand.tmp 38], argTypes := #[37, 23] }, type := 23, pos := "law.go:102", after := #[{ on := 6, ground := Ground.data }, { on := 8, ground := Ground.data }, { on := 5, ground := Ground.chain }], guard := none }) rfl (fun K hK => ?_) ?_
          · skip
            go_simp
            go_at_call 9; refine (z2Ints hZ5.out (by omega) _ Q.fixed (hSc.out.at hZ5.out).2.1.fixed (by have := hk.out.f; omega)).mono ?_; rintro e v9 ⟨g9, c9, rfl, hZ9a, _⟩; have hZ9 := hide' hZ9a.out.setF; have hX12 := hide' (Zx.start hZ9.out Q.users (.slice (some ⟨g5, 0, none⟩) Q.who.length c5) (.slice (some ⟨g9, 0, none⟩) Q.fixed.length c9) (.slice none 0 0)); clear hZ9a; (try dsimp only)
            refine hK.out _ _ ?_ (fun hHeld => ?_)
            · exact hQc.out _ _ _ _ _ _ _ _ _ _ _ hZ9.out
            clear hK K
            try simp only [Act.put, List.setIfInBounds_toArray, List.set_cons_zero, List.set_cons_succ]
            refine wpAnyH_take (i := 10) (oi := { dst := some 40, op := Op.build 26 #[(0, Operand.tmp 31), (1, Operand.tmp 35), (2, Operand.tmp 39)], type := 26, pos := "law.go:102", after := #[{ on := 1, ground := Ground.data }, { on := 5, ground := Ground.data }, { on := 9, ground := Ground.data }], guard := none }) (v := ?_) rfl (by kernel_rfl) (by kernel_rfl) (by kernel_rfl) (fun _ _ _ h => h) (Or.inl ⟨by rfl, ?_⟩) (by assumption) ?_
            rotate_left
            · intro w hSw; (try dsimp only at hSw); go_simp <;> with_reducible rfl
            simp only [Act.put, List.setIfInBounds_toArray, List.set_cons_zero, List.set_cons_succ]
            refine wpAnyH_ready (rs := [11]) (by kernel_rfl) (by simp) ?_
            refine AllReadyH.cons (o := { dst := some 11, op := Op.alloc 26, type := 0, pos := "law.go:102", after := #[], guard := none }) rfl (fun K hK => ?_) AllReadyH.nil
            go_simp
            have hX11 := hide' (Zx.start hZ9.out 0 (.slice none 0 0) (.slice none 0 0) (.slice none 0 0)); (try dsimp only)
            refine hK.out _ _ ?_ (fun hHeld => ?_)
            · exact hQc.out _ _ _ _ _ _ _ _ _ _ _ hX11.out.z
            clear hK K
            try simp only [Act.put, List.setIfInBounds_toArray, List.set_cons_zero, List.set_cons_succ]
            refine wpAnyH_ready (rs := [12]) (by kernel_rfl) (by simp) ?_
            refine AllReadyH.cons (o := { dst := none, op := Op.store 26 (Operand.tmp 11) (Operand.tmp 40), type := 0, pos := "law.go:102", after := #[{ on := 11, ground := Ground.data }, { on := 10, ground := Ground.data }, { on := 9, ground := Ground.chain }, { on := 0, ground := Ground.phase }, { on := 1, ground := Ground.phase }, { on := 2, ground := Ground.phase }, { on := 3, ground := Ground.phase }, { on := 4, ground := Ground.phase }, { on := 5, ground := Ground.phase }, { on := 6, ground := Ground.phase }, { on := 7, ground := Ground.phase }, { on := 8, ground := Ground.phase }, { on := 9, ground := Ground.phase }, { on := 10, ground := Ground.phase }, { on := 11, ground := Ground.phase }], guard := none }) rfl (fun K hK => ?_) AllReadyH.nil
            go_simp
            refine hK.out _ _ ?_ (fun hHeld => ?_)
            · exact hQc.out _ _ _ _ _ _ _ _ _ _ _ hX12.out.z
            clear hK K
            try simp only [Act.put, List.setIfInBounds_toArray, List.set_cons_zero, List.set_cons_succ]
            refine wpAnyH_done (by kernel_rfl) ?_ _
            skip
            go_wp2
            go_meet
            exact ⟨_, _, _, _, _, rfl, hX12⟩
          refine AllReadyH.cons (o := { dst := some 11, op := Op.alloc 26, type := 0, pos := "law.go:102", after := #[], guard := none }) rfl (fun K hK => ?_) AllReadyH.nil
          go_simp
          have hX11 := hide' (Zx.start hZ5.out 0 (.slice none 0 0) (.slice none 0 0) (.slice none 0 0)); (try dsimp only)
          refine hK.out _ _ ?_ (fun hHeld => ?_)
          · exact hQc.out _ _ _ _ _ _ _ _ _ _ _ hX11.out.z
          clear hK K
          try simp only [Act.put, List.setIfInBounds_toArray, List.set_cons_zero, List.set_cons_succ]
          refine wpAnyH_ready (rs := [9]) (by kernel_rfl) (by simp) ?_
          refine AllReadyH.cons (o := { dst := some 39, op := Op.call { callee := Callee.value (Operand.func 9), args := #[Operand.tmp 36, Operand.tmp 38], argTypes := #[37, 23] }, type := 23, pos := "law.go:102", after := #[{ on := 6, ground := Ground.data }, { on := 8, ground := Ground.data }, { on := 5, ground := Ground.chain }], guard := none }) rfl (fun K hK => ?_) AllReadyH.nil
          go_simp
          go_at_call 9; refine (zxInts hX11.out (by omega) _ Q.fixed (hSc.out.at hX11.out.z).2.1.fixed (by have := hk.out.f; omega)).mono ?_; rintro e v9 ⟨g9, c9, rfl, hX9a⟩; have hX9 := hide' hX9a.out.setF; have f0 := hX9.out.q.frz 0; have y0 := hX9.out.q.c0; have f1 := (hX9.out.q.s0C Q.users).frz 1; have y1 := (hX9.out.q.s0C Q.users).c1; have f2 := ((hX9.out.q.s0C Q.users).s1 (.slice (some ⟨g5, 0, none⟩) Q.who.length c5)).frz 2; have y2 := ((hX9.out.q.s0C Q.users).s1 (.slice (some ⟨g5, 0, none⟩) Q.who.length c5)).c2; have f3 := (((hX9.out.q.s0C Q.users).s1 (.slice (some ⟨g5, 0, none⟩) Q.who.length c5)).s2 (.slice (some ⟨g9, 0, none⟩) Q.fixed.length c9)).frz 3; have y3 := (((hX9.out.q.s0C Q.users).s1 (.slice (some ⟨g5, 0, none⟩) Q.who.length c5)).s2 (.slice (some ⟨g9, 0, none⟩) Q.fixed.length c9)).c3; have hX12 := hide' (hX9.out.put4 Q.users (.slice (some ⟨g5, 0, none⟩) Q.who.length c5) (.slice (some ⟨g9, 0, none⟩) Q.fixed.length c9) (.slice none 0 0)); clear hX9a; (try dsimp only)
          refine hK.out _ _ ?_ (fun hHeld => ?_)
          · exact hQc.out _ _ _ _ _ _ _ _ _ _ _ hX9.out.z
          clear hK K
          try simp only [Act.put, List.setIfInBounds_toArray, List.set_cons_zero, List.set_cons_succ]
          refine wpAnyH_take (i := 10) (oi := { dst := some 40, op := Op.build 26 #[(0, Operand.tmp 31), (1, Operand.tmp 35), (2, Operand.tmp 39)], type := 26, pos := "law.go:102", after := #[{ on := 1, ground := Ground.data }, { on := 5, ground := Ground.data }, { on := 9, ground := Ground.data }], guard := none }) (v := ?_) rfl (by kernel_rfl) (by kernel_rfl) (by kernel_rfl) (fun _ _ _ h => h) (Or.inl ⟨by rfl, ?_⟩) (by assumption) ?_
          rotate_left
          · intro w hSw; (try dsimp only at hSw); go_simp <;> with_reducible rfl
          simp only [Act.put, List.setIfInBounds_toArray, List.set_cons_zero, List.set_cons_succ]
          refine wpAnyH_ready (rs := [12]) (by kernel_rfl) (by simp) ?_
          refine AllReadyH.cons (o := { dst := none, op := Op.store 26 (Operand.tmp 11) (Operand.tmp 40), type := 0, pos := "law.go:102", after := #[{ on := 11, ground := Ground.data }, { on := 10, ground := Ground.data }, { on := 9, ground := Ground.chain }, { on := 0, ground := Ground.phase }, { on := 1, ground := Ground.phase }, { on := 2, ground := Ground.phase }, { on := 3, ground := Ground.phase }, { on := 4, ground := Ground.phase }, { on := 5, ground := Ground.phase }, { on := 6, ground := Ground.phase }, { on := 7, ground := Ground.phase }, { on := 8, ground := Ground.phase }, { on := 9, ground := Ground.phase }, { on := 10, ground := Ground.phase }, { on := 11, ground := Ground.phase }], guard := none }) rfl (fun K hK => ?_) AllReadyH.nil
          go_simp
          refine hK.out _ _ ?_ (fun hHeld => ?_)
          · exact hQc.out _ _ _ _ _ _ _ _ _ _ _ hX12.out.z
          clear hK K
          try simp only [Act.put, List.setIfInBounds_toArray, List.set_cons_zero, List.set_cons_succ]
          refine wpAnyH_done (by kernel_rfl) ?_ _
          skip
          go_wp2
          go_meet
          exact ⟨_, _, _, _, _, rfl, hX12⟩
        refine AllReadyH.cons (o := { dst := some 11, op := Op.alloc 26, type := 0, pos := "law.go:102", after := #[], guard := none }) rfl (fun K hK => ?_) AllReadyH.nil
        go_simp
        have hX11 := hide' (Zx.start hZd.out 0 (.slice none 0 0) (.slice none 0 0) (.slice none 0 0)); rw [show wr.drew.heap.size = wr.heap.size from rfl] at hX11; (try dsimp only)
        refine hK.out _ _ ?_ (fun hHeld => ?_)
        · exact hQc.out _ _ _ _ _ _ _ _ _ _ _ hX11.out.z
        clear hK K
        try simp only [Act.put, List.setIfInBounds_toArray, List.set_cons_zero, List.set_cons_succ]
        refine wpAnyH_ready (rs := [5]) (by kernel_rfl) (by simp) ?_
        refine AllReadyH.cons (o := { dst := some 35, op := Op.call { callee := Callee.value (Operand.func 8), args := #[Operand.tmp 32, Operand.tmp 34], argTypes := #[37, 22] }, type := 22, pos := "law.go:102", after := #[{ on := 2, ground := Ground.data }, { on := 4, ground := Ground.data }], guard := none }) rfl (fun K hK => ?_) AllReadyH.nil
        go_simp
        go_at_call 8; refine (zxRows hX11.out (by omega) _ Q.who (hSc.out.at hX11.out.z).2.1.who (by have := hk.out.w; omega)).mono ?_; rintro e v5 ⟨g5, c5, rfl, hX5⟩; (try dsimp only)
        refine hK.out _ _ ?_ (fun hHeld => ?_)
        · exact hQc.out _ _ _ _ _ _ _ _ _ _ _ hX5.out.z
        clear hK K
        try simp only [Act.put, List.setIfInBounds_toArray, List.set_cons_zero, List.set_cons_succ]
        refine wpAnyH_ready (rs := [9]) (by kernel_rfl) (by simp) ?_
        refine AllReadyH.cons (o := { dst := some 39, op := Op.call { callee := Callee.value (Operand.func 9), args := #[Operand.tmp 36, Operand.tmp 38], argTypes := #[37, 23] }, type := 23, pos := "law.go:102", after := #[{ on := 6, ground := Ground.data }, { on := 8, ground := Ground.data }, { on := 5, ground := Ground.chain }], guard := none }) rfl (fun K hK => ?_) AllReadyH.nil
        go_simp
        go_at_call 9; refine (zxInts hX5.out (by omega) _ Q.fixed (hSc.out.at hX5.out.z).2.1.fixed (by have := hk.out.f; omega)).mono ?_; rintro e v9 ⟨g9, c9, rfl, hX9a⟩; have hX9 := hide' hX9a.out.setF; have f0 := hX9.out.q.frz 0; have y0 := hX9.out.q.c0; have f1 := (hX9.out.q.s0C Q.users).frz 1; have y1 := (hX9.out.q.s0C Q.users).c1; have f2 := ((hX9.out.q.s0C Q.users).s1 (.slice (some ⟨g5, 0, none⟩) Q.who.length c5)).frz 2; have y2 := ((hX9.out.q.s0C Q.users).s1 (.slice (some ⟨g5, 0, none⟩) Q.who.length c5)).c2; have f3 := (((hX9.out.q.s0C Q.users).s1 (.slice (some ⟨g5, 0, none⟩) Q.who.length c5)).s2 (.slice (some ⟨g9, 0, none⟩) Q.fixed.length c9)).frz 3; have y3 := (((hX9.out.q.s0C Q.users).s1 (.slice (some ⟨g5, 0, none⟩) Q.who.length c5)).s2 (.slice (some ⟨g9, 0, none⟩) Q.fixed.length c9)).c3; have hX12 := hide' (hX9.out.put4 Q.users (.slice (some ⟨g5, 0, none⟩) Q.who.length c5) (.slice (some ⟨g9, 0, none⟩) Q.fixed.length c9) (.slice none 0 0)); clear hX9a; (try dsimp only)
        refine hK.out _ _ ?_ (fun hHeld => ?_)
        · exact hQc.out _ _ _ _ _ _ _ _ _ _ _ hX9.out.z
        clear hK K
        try simp only [Act.put, List.setIfInBounds_toArray, List.set_cons_zero, List.set_cons_succ]
        refine wpAnyH_take (i := 10) (oi := { dst := some 40, op := Op.build 26 #[(0, Operand.tmp 31), (1, Operand.tmp 35), (2, Operand.tmp 39)], type := 26, pos := "law.go:102", after := #[{ on := 1, ground := Ground.data }, { on := 5, ground := Ground.data }, { on := 9, ground := Ground.data }], guard := none }) (v := ?_) rfl (by kernel_rfl) (by kernel_rfl) (by kernel_rfl) (fun _ _ _ h => h) (Or.inl ⟨by rfl, ?_⟩) (by assumption) ?_
        rotate_left
        · intro w hSw; (try dsimp only at hSw); go_simp <;> with_reducible rfl
        simp only [Act.put, List.setIfInBounds_toArray, List.set_cons_zero, List.set_cons_succ]
        refine wpAnyH_ready (rs := [12]) (by kernel_rfl) (by simp) ?_
        refine AllReadyH.cons (o := { dst := none, op := Op.store 26 (Operand.tmp 11) (Operand.tmp 40), type := 0, pos := "law.go:102", after := #[{ on := 11, ground := Ground.data }, { on := 10, ground := Ground.data }, { on := 9, ground := Ground.chain }, { on := 0, ground := Ground.phase }, { on := 1, ground := Ground.phase }, { on := 2, ground := Ground.phase }, { on := 3, ground := Ground.phase }, { on := 4, ground := Ground.phase }, { on := 5, ground := Ground.phase }, { on := 6, ground := Ground.phase }, { on := 7, ground := Ground.phase }, { on := 8, ground := Ground.phase }, { on := 9, ground := Ground.phase }, { on := 10, ground := Ground.phase }, { on := 11, ground := Ground.phase }], guard := none }) rfl (fun K hK => ?_) AllReadyH.nil
        go_simp
        refine hK.out _ _ ?_ (fun hHeld => ?_)
        · exact hQc.out _ _ _ _ _ _ _ _ _ _ _ hX12.out.z
        clear hK K
        try simp only [Act.put, List.setIfInBounds_toArray, List.set_cons_zero, List.set_cons_succ]
        refine wpAnyH_done (by kernel_rfl) ?_ _
        skip
        go_wp2
        go_meet
        exact ⟨_, _, _, _, _, rfl, hX12⟩
      case rest =>
        clear hZ
        obtain ⟨gx, gw, cw2, gf, cf2, rfl, hX⟩ := hcut
        have hrl : Q.rules.length ≤ 40 := hQl.out.2
        go_upto_block 2 with fail
        go_cut [12] from 41 to 73 (fun _ wx => ∃ (o3 : Option Addr) (n3 c3 : Nat) (PP : List (Rl × Value)), Hid (PP.map Prod.fst = Q.rules) ∧ Hid (Zx V0 (Rc V0) B p (200 * j + 2 + Q.rules.length) (.slice (some ⟨gw, 0, none⟩) Q.who.length cw2) (.slice (some ⟨gf, 0, none⟩) Q.fixed.length cf2) (.slice o3 n3 c3) Q.who Q.fixed PP [] [] gx Q.users (.slice (some ⟨gw, 0, none⟩) Q.who.length cw2) (.slice (some ⟨gf, 0, none⟩) Q.fixed.length cf2) (.slice o3 n3 c3) wx))
        case first =>
          as_aux_lemma =>
          have hqc : Hid (∀ (mm : Nat) (xw xf xr : Value) (Lw : List Nat) (Lf : List Int) (PP : List (Rl × Value)) (E H : List (Value × List Int)) (F : Nat → Prop) (V : World), Z2 V0 (Rc V0) B p mm xw xf xr Lw Lf PP E H F V → V.cell? ⟨g, 3, none⟩ = some (.slice or Q.rules.length cr)) := fun mm xw xf xr Lw Lf PP E H F V hz => (hSc.out.at hz).1.all.2.2.2
          go_wp2
          go_loopw [12] (fun kv wr => ∃ (i : Nat) (o3 : Option Addr) (n3 c3 : Nat) (PP : List (Rl × Value)), i ≤ Q.rules.length ∧ kv = .int .i64 (i : Int) ∧ Hid (PP.map Prod.fst = Q.rules.take i) ∧ Hid (Zx V0 (Rc V0) B p (200 * j + 2 + i) (.slice (some ⟨gw, 0, none⟩) Q.who.length cw2) (.slice (some ⟨gf, 0, none⟩) Q.fixed.length cf2) (.slice o3 n3 c3) Q.who Q.fixed PP [] [] gx Q.users (.slice (some ⟨gw, 0, none⟩) Q.who.length cw2) (.slice (some ⟨gf, 0, none⟩) Q.fixed.length cf2) (.slice o3 n3 c3) wr)) (fun kv _ => ((Q.rules.length : Int) - intOf kv).toNat)
          case atStart => exact ⟨0, none, 0, 0, [], Nat.zero_le _, rfl, rfl, hX⟩
          case round =>
            clear hX
            obtain ⟨i, o3, n3, c3, PP, hi, rfl, hPP, hX⟩ := hrel
            have q3 := hqc.out _ _ _ _ _ _ _ _ _ _ _ hX.out.z
            by_cases hlt2 : i < Q.rules.length
            · have hlt2' : (i : Int) < (Q.rules.length : Int) := by omega
              have hi0 : ¬ (i : Int) < 0 := by omega
              obtain ⟨r, hr⟩ : ∃ r, Q.rules[i]? = some r := ⟨_, List.getElem?_eq_getElem hlt2⟩
              obtain ⟨g3, o4, sv, rfl, hru⟩ := hSc.out.rule (bb := B) (p := p) hr
              have hSx : Hid (∀ (mm : Nat) (xw xf xr : Value) (Lw : List Nat) (Lf : List Int) (PP : List (Rl × Value)) (E H : List (Value × List Int)) (F : Nat → Prop) (V : World), Z2 V0 (Rc V0) B p mm xw xf xr Lw Lf PP E H F V → V.cell? ⟨g, 3, none⟩ = some (.slice (some ⟨g3, o4, none⟩) Q.rules.length cr) ∧ V.cell? ⟨g3, o4 + i * 3, none⟩ = some (.int .i64 r.kind) ∧ V.cell? ⟨g3, o4 + i * 3 + 1, none⟩ = some (.int .i64 r.k) ∧ V.cell? ⟨g3, o4 + i * 3 + 2, none⟩ = some sv) := fun mm xw xf xr Lw Lf PP E H F V hz => ⟨hqc.out _ _ _ _ _ _ _ _ _ _ _ hz, (hru _ _ _ _ _ _ _ _ _ _ _ hz).1, (hru _ _ _ _ _ _ _ _ _ _ _ hz).2.1, (hru _ _ _ _ _ _ _ _ _ _ _ hz).2.2.1⟩
              have hXd := hide' (hX.out.below (Below.refl _ wr).drew)
              have hsv := hide' (hru _ _ _ _ _ _ _ _ _ _ _ hXd.out.z).2.2.2
              have hsl : r.steps.length ≤ 1000 := hk.out.s r (List.mem_of_getElem? hr)
              have hPl : Hid (PP.length ≤ 1000000) := by
                have := congrArg List.length hPP.out
                rw [List.length_map, List.length_take] at this
                show _ ≤ _
                omega
              have hm : Hid (∀ v : Value, (PP ++ [(r, v)]).map Prod.fst = Q.rules.take (i + 1)) := fun v => by
                rw [List.map_append, hPP.out, List.take_add_one, hr]; rfl
              have c3a := hXd.out.q.c3
              clear hX hru hqc hPP hr
              go_upto_region 11 with fail
              clear q3
              refine wp_region_held_drew (S := (fun V => V.cell? ⟨g, 3, none⟩ = some (.slice (some ⟨g3, o4, none⟩) Q.rules.length cr) ∧ V.cell? ⟨g3, o4 + i * 3, none⟩ = some (.int .i64 r.kind) ∧ V.cell? ⟨g3, o4 + i * 3 + 1, none⟩ = some (.int .i64 r.k) ∧ V.cell? ⟨g3, o4 + i * 3 + 2, none⟩ = some sv)) (by kernel_rfl) ?_ (fun hHeld => ?_)
              · exact hSx.out _ _ _ _ _ _ _ _ _ _ _ hXd.out.z
              refine wpAnyH_take (i := 0) (oi := { dst := some 48, op := Op.fieldAddr 26 (Operand.tmp 11) 3, type := 0, pos := "law.go:104", after := #[], guard := none }) (v := ?_) rfl (by kernel_rfl) (by kernel_rfl) (by kernel_rfl) (fun _ _ _ h => h) (Or.inl ⟨by rfl, ?_⟩) (by assumption) ?_
              rotate_left
              · intro w hSw; (try dsimp only at hSw); go_simp <;> with_reducible rfl
              simp only [Act.put, List.setIfInBounds_toArray, List.set_cons_zero, List.set_cons_succ]
              refine wpAnyH_take (i := 2) (oi := { dst := some 50, op := Op.fieldAddr 26 (Operand.tmp 7) 3, type := 0, pos := "law.go:104", after := #[], guard := none }) (v := ?_) rfl (by kernel_rfl) (by kernel_rfl) (by kernel_rfl) (fun _ _ _ h => h) (Or.inl ⟨by rfl, ?_⟩) (by assumption) ?_
              rotate_left
              · intro w hSw; (try dsimp only at hSw); go_simp <;> with_reducible rfl
              simp only [Act.put, List.setIfInBounds_toArray, List.set_cons_zero, List.set_cons_succ]
              refine wpAnyH_take (i := 3) (oi := { dst := some 51, op := Op.load 24 (Operand.tmp 50), type := 24, pos := "law.go:104", after := #[{ on := 2, ground := Ground.data }], guard := none }) (v := ?_) rfl (by kernel_rfl) (by kernel_rfl) (by kernel_rfl) (fun _ _ _ h => h) (Or.inl ⟨by rfl, ?_⟩) (by assumption) ?_
              rotate_left
              · intro w hSw; (try dsimp only at hSw); go_simp <;> with_reducible rfl
              simp only [Act.put, List.setIfInBounds_toArray, List.set_cons_zero, List.set_cons_succ]
              refine wpAnyH_take (i := 4) (oi := { dst := some 52, op := Op.move (Operand.tmp 12), type := 3, pos := "law.go:104", after := #[], guard := none }) (v := ?_) rfl (by kernel_rfl) (by kernel_rfl) (by kernel_rfl) (fun _ _ _ h => h) (Or.inl ⟨by rfl, ?_⟩) (by assumption) ?_
              rotate_left
              · intro w hSw; (try dsimp only at hSw); go_simp <;> with_reducible rfl
              simp only [Act.put, List.setIfInBounds_toArray, List.set_cons_zero, List.set_cons_succ]
              refine wpAnyH_take (i := 5) (oi := { dst := some 53, op := Op.indexAddr 24 (Operand.tmp 51) (Operand.tmp 52), type := 0, pos := "law.go:104", after := #[{ on := 3, ground := Ground.data }, { on := 4, ground := Ground.data }], guard := none }) (v := ?_) rfl (by kernel_rfl) (by kernel_rfl) (by kernel_rfl) (fun _ _ _ h => h) (Or.inl ⟨by rfl, ?_⟩) (by assumption) ?_
              rotate_left
              · intro w hSw; (try dsimp only at hSw); go_simp <;> with_reducible rfl
              simp only [Act.put, List.setIfInBounds_toArray, List.set_cons_zero, List.set_cons_succ]
              refine wpAnyH_take (i := 6) (oi := { dst := some 54, op := Op.fieldAddr 44 (Operand.tmp 53) 0, type := 0, pos := "law.go:104", after := #[{ on := 5, ground := Ground.data }], guard := none }) (v := ?_) rfl (by kernel_rfl) (by kernel_rfl) (by kernel_rfl) (fun _ _ _ h => h) (Or.inl ⟨by rfl, ?_⟩) (by assumption) ?_
              rotate_left
              · intro w hSw; (try dsimp only at hSw); go_simp <;> with_reducible rfl
              simp only [Act.put, List.setIfInBounds_toArray, List.set_cons_zero, List.set_cons_succ]
              refine wpAnyH_take (i := 7) (oi := { dst := some 55, op := Op.load 3 (Operand.tmp 54), type := 3, pos := "law.go:104", after := #[{ on := 6, ground := Ground.data }], guard := none }) (v := ?_) rfl (by kernel_rfl) (by kernel_rfl) (by kernel_rfl) (fun _ _ _ h => h) (Or.inl ⟨by rfl, ?_⟩) (by assumption) ?_
              rotate_left
              · intro w hSw; (try dsimp only at hSw); go_simp <;> with_reducible rfl
              simp only [Act.put, List.setIfInBounds_toArray, List.set_cons_zero, List.set_cons_succ]
              refine wpAnyH_take (i := 8) (oi := { dst := some 56, op := Op.fieldAddr 26 (Operand.tmp 7) 3, type := 0, pos := "law.go:104", after := #[], guard := none }) (v := ?_) rfl (by kernel_rfl) (by kernel_rfl) (by kernel_rfl) (fun _ _ _ h => h) (Or.inl ⟨by rfl, ?_⟩) (by assumption) ?_
              rotate_left
              · intro w hSw; (try dsimp only at hSw); go_simp <;> with_reducible rfl
              simp only [Act.put, List.setIfInBounds_toArray, List.set_cons_zero, List.set_cons_succ]
              refine wpAnyH_take (i := 9) (oi := { dst := some 57, op := Op.load 24 (Operand.tmp 56), type := 24, pos := "law.go:104", after := #[{ on := 8, ground := Ground.data }], guard := none }) (v := ?_) rfl (by kernel_rfl) (by kernel_rfl) (by kernel_rfl) (fun _ _ _ h => h) (Or.inl ⟨by rfl, ?_⟩) (by assumption) ?_
              rotate_left
              · intro w hSw; (try dsimp only at hSw); go_simp <;> with_reducible rfl
              simp only [Act.put, List.setIfInBounds_toArray, List.set_cons_zero, List.set_cons_succ]
              refine wpAnyH_take (i := 10) (oi := { dst := some 58, op := Op.move (Operand.tmp 12), type := 3, pos := "law.go:104", after := #[], guard := none }) (v := ?_) rfl (by kernel_rfl) (by kernel_rfl) (by kernel_rfl) (fun _ _ _ h => h) (Or.inl ⟨by rfl, ?_⟩) (by assumption) ?_
              rotate_left
              · intro w hSw; (try dsimp only at hSw); go_simp <;> with_reducible rfl
              simp only [Act.put, List.setIfInBounds_toArray, List.set_cons_zero, List.set_cons_succ]
              refine wpAnyH_take (i := 11) (oi := { dst := some 59, op := Op.indexAddr 24 (Operand.tmp 57) (Operand.tmp 58), type := 0, pos := "law.go:104", after := #[{ on := 9, ground := Ground.data }, { on := 10, ground := Ground.data }], guard := none }) (v := ?_) rfl (by kernel_rfl) (by kernel_rfl) (by kernel_rfl) (fun _ _ _ h => h) (Or.inl ⟨by rfl, ?_⟩) (by assumption) ?_
              rotate_left
              · intro w hSw; (try dsimp only at hSw); go_simp <;> with_reducible rfl
              simp only [Act.put, List.setIfInBounds_toArray, List.set_cons_zero, List.set_cons_succ]
              refine wpAnyH_take (i := 12) (oi := { dst := some 60, op := Op.fieldAddr 44 (Operand.tmp 59) 1, type := 0, pos := "law.go:104", after := #[{ on := 11, ground := Ground.data }], guard := none }) (v := ?_) rfl (by kernel_rfl) (by kernel_rfl) (by kernel_rfl) (fun _ _ _ h => h) (Or.inl ⟨by rfl, ?_⟩) (by assumption) ?_
              rotate_left
              · intro w hSw; (try dsimp only at hSw); go_simp <;> with_reducible rfl
              simp only [Act.put, List.setIfInBounds_toArray, List.set_cons_zero, List.set_cons_succ]
              refine wpAnyH_take (i := 13) (oi := { dst := some 61, op := Op.load 3 (Operand.tmp 60), type := 3, pos := "law.go:104", after := #[{ on := 12, ground := Ground.data }], guard := none }) (v := ?_) rfl (by kernel_rfl) (by kernel_rfl) (by kernel_rfl) (fun _ _ _ h => h) (Or.inl ⟨by rfl, ?_⟩) (by assumption) ?_
              rotate_left
              · intro w hSw; (try dsimp only at hSw); go_simp <;> with_reducible rfl
              simp only [Act.put, List.setIfInBounds_toArray, List.set_cons_zero, List.set_cons_succ]
              refine wpAnyH_take (i := 14) (oi := { dst := some 62, op := Op.move (Operand.tmp 8), type := 37, pos := "law.go:104", after := #[], guard := none }) (v := ?_) rfl (by kernel_rfl) (by kernel_rfl) (by kernel_rfl) (fun _ _ _ h => h) (Or.inl ⟨by rfl, ?_⟩) (by assumption) ?_
              rotate_left
              · intro w hSw; (try dsimp only at hSw); go_simp <;> with_reducible rfl
              simp only [Act.put, List.setIfInBounds_toArray, List.set_cons_zero, List.set_cons_succ]
              refine wpAnyH_take (i := 15) (oi := { dst := some 63, op := Op.fieldAddr 26 (Operand.tmp 7) 3, type := 0, pos := "law.go:104", after := #[], guard := none }) (v := ?_) rfl (by kernel_rfl) (by kernel_rfl) (by kernel_rfl) (fun _ _ _ h => h) (Or.inl ⟨by rfl, ?_⟩) (by assumption) ?_
              rotate_left
              · intro w hSw; (try dsimp only at hSw); go_simp <;> with_reducible rfl
              simp only [Act.put, List.setIfInBounds_toArray, List.set_cons_zero, List.set_cons_succ]
              refine wpAnyH_take (i := 16) (oi := { dst := some 64, op := Op.load 24 (Operand.tmp 63), type := 24, pos := "law.go:104", after := #[{ on := 15, ground := Ground.data }], guard := none }) (v := ?_) rfl (by kernel_rfl) (by kernel_rfl) (by kernel_rfl) (fun _ _ _ h => h) (Or.inl ⟨by rfl, ?_⟩) (by assumption) ?_
              rotate_left
              · intro w hSw; (try dsimp only at hSw); go_simp <;> with_reducible rfl
              simp only [Act.put, List.setIfInBounds_toArray, List.set_cons_zero, List.set_cons_succ]
              refine wpAnyH_take (i := 17) (oi := { dst := some 65, op := Op.move (Operand.tmp 12), type := 3, pos := "law.go:104", after := #[], guard := none }) (v := ?_) rfl (by kernel_rfl) (by kernel_rfl) (by kernel_rfl) (fun _ _ _ h => h) (Or.inl ⟨by rfl, ?_⟩) (by assumption) ?_
              rotate_left
              · intro w hSw; (try dsimp only at hSw); go_simp <;> with_reducible rfl
              simp only [Act.put, List.setIfInBounds_toArray, List.set_cons_zero, List.set_cons_succ]
              refine wpAnyH_take (i := 18) (oi := { dst := some 66, op := Op.indexAddr 24 (Operand.tmp 64) (Operand.tmp 65), type := 0, pos := "law.go:104", after := #[{ on := 16, ground := Ground.data }, { on := 17, ground := Ground.data }], guard := none }) (v := ?_) rfl (by kernel_rfl) (by kernel_rfl) (by kernel_rfl) (fun _ _ _ h => h) (Or.inl ⟨by rfl, ?_⟩) (by assumption) ?_
              rotate_left
              · intro w hSw; (try dsimp only at hSw); go_simp <;> with_reducible rfl
              simp only [Act.put, List.setIfInBounds_toArray, List.set_cons_zero, List.set_cons_succ]
              refine wpAnyH_take (i := 19) (oi := { dst := some 67, op := Op.fieldAddr 44 (Operand.tmp 66) 2, type := 0, pos := "law.go:104", after := #[{ on := 18, ground := Ground.data }], guard := none }) (v := ?_) rfl (by kernel_rfl) (by kernel_rfl) (by kernel_rfl) (fun _ _ _ h => h) (Or.inl ⟨by rfl, ?_⟩) (by assumption) ?_
              rotate_left
              · intro w hSw; (try dsimp only at hSw); go_simp <;> with_reducible rfl
              simp only [Act.put, List.setIfInBounds_toArray, List.set_cons_zero, List.set_cons_succ]
              refine wpAnyH_take (i := 20) (oi := { dst := some 68, op := Op.load 23 (Operand.tmp 67), type := 23, pos := "law.go:104", after := #[{ on := 19, ground := Ground.data }], guard := none }) (v := ?_) rfl (by kernel_rfl) (by kernel_rfl) (by kernel_rfl) (fun _ _ _ h => h) (Or.inl ⟨by rfl, ?_⟩) (by assumption) ?_
              rotate_left
              · intro w hSw; (try dsimp only at hSw); go_simp <;> with_reducible rfl
              simp only [Act.put, List.setIfInBounds_toArray, List.set_cons_zero, List.set_cons_succ]
              refine wpAnyH_ready (rs := [1, 21]) (by kernel_rfl) (by simp) ?_
              refine AllReadyH.cons (o := { dst := some 49, op := Op.load 24 (Operand.tmp 48), type := 24, pos := "law.go:104", after := #[{ on := 0, ground := Ground.data }], guard := none }) rfl (fun K hK => ?_) ?_
              · skip
                go_simp
                refine hK.out _ _ ?_ (fun hHeld => ?_)
                · exact hSx.out _ _ _ _ _ _ _ _ _ _ _ hXd.out.z
                clear hK K
                try simp only [Act.put, List.setIfInBounds_toArray, List.set_cons_zero, List.set_cons_succ]
                refine wpAnyH_ready (rs := [21]) (by kernel_rfl) (by simp) ?_
                refine AllReadyH.cons (o := { dst := some 69, op := Op.call { callee := Callee.value (Operand.func 9), args := #[Operand.tmp 62, Operand.tmp 68], argTypes := #[37, 23] }, type := 23, pos := "law.go:104", after := #[{ on := 14, ground := Ground.data }, { on := 20, ground := Ground.data }], guard := none }) rfl (fun K hK => ?_) AllReadyH.nil
                go_simp
                go_at_call 9; refine (zxInts hXd.out (by omega) _ r.steps hsv.out hsl).mono ?_; rintro e v21 ⟨g7, c7, rfl, hX21⟩; have c3b := hX21.out.q.c3; have hX21a := hide' (hX21.out.below ((Below.refl _ v21).alloc (Nat.le_refl _) (.cells #[.int .i64 r.kind, .int .i64 r.k, .slice (some ⟨g7, 0, none⟩) r.steps.length c7] 44))); have c3c := hX21a.out.q.c3; (try dsimp only)
                refine hK.out _ _ ?_ (fun hHeld => ?_)
                · exact hSx.out _ _ _ _ _ _ _ _ _ _ _ hX21.out.z
                clear hK K
                try simp only [Act.put, List.setIfInBounds_toArray, List.set_cons_zero, List.set_cons_succ]
                refine wpAnyH_take (i := 22) (oi := { dst := some 70, op := Op.build 44 #[(0, Operand.tmp 55), (1, Operand.tmp 61), (2, Operand.tmp 69)], type := 44, pos := "law.go:104", after := #[{ on := 7, ground := Ground.data }, { on := 13, ground := Ground.data }, { on := 21, ground := Ground.data }], guard := none }) (v := ?_) rfl (by kernel_rfl) (by kernel_rfl) (by kernel_rfl) (fun _ _ _ h => h) (Or.inl ⟨by rfl, ?_⟩) (by assumption) ?_
                rotate_left
                · intro w hSw; (try dsimp only at hSw); go_simp <;> with_reducible rfl
                simp only [Act.put, List.setIfInBounds_toArray, List.set_cons_zero, List.set_cons_succ]
                refine wpAnyH_ready (rs := [23]) (by kernel_rfl) (by simp) ?_
                refine AllReadyH.cons (o := { dst := some 71, op := Op.buildSlice 24 1 #[(0, Operand.tmp 70)], type := 24, pos := "law.go:104", after := #[{ on := 22, ground := Ground.data }], guard := none }) rfl (fun K hK => ?_) AllReadyH.nil
                go_simp
                refine hK.out _ _ ?_ (fun hHeld => ?_)
                · exact hSx.out _ _ _ _ _ _ _ _ _ _ _ hX21a.out.z
                clear hK K
                try simp only [Act.put, List.setIfInBounds_toArray, List.set_cons_zero, List.set_cons_succ]
                refine wpAnyH_ready (rs := [24]) (by kernel_rfl) (by simp) ?_
                refine AllReadyH.cons (o := { dst := some 72, op := Op.call { callee := Callee.builtin Builtin.append, args := #[Operand.tmp 49, Operand.tmp 71], argTypes := #[24, 24] }, type := 24, pos := "law.go:104", after := #[{ on := 1, ground := Ground.data }, { on := 23, ground := Ground.data }, { on := 21, ground := Ground.chain }], guard := none }) rfl (fun K hK => ?_) AllReadyH.nil
                rw [if_pos (by rfl)]
                refine zxApp (.tmp 49) (.tmp 71) r (.slice (some ⟨g7, 0, none⟩) r.steps.length c7) rfl rfl rfl hX21.out rfl hPl.out ?_; intro g9 c9 v24 hX24; have f24 := hX24.out.q.frz 3; have y24 := hX24.out.q.c3; have hX26 := hide' (hX24.out.store (hX24.out.q.s3 (.slice (some ⟨g9, 0, none⟩) (PP.length + 1) c9))); (try dsimp only)
                refine hK.out _ _ ?_ (fun hHeld => ?_)
                · exact hSx.out _ _ _ _ _ _ _ _ _ _ _ hX24.out.z
                clear hK K
                try simp only [Act.put, List.setIfInBounds_toArray, List.set_cons_zero, List.set_cons_succ]
                refine wpAnyH_take (i := 25) (oi := { dst := some 73, op := Op.fieldAddr 26 (Operand.tmp 11) 3, type := 0, pos := "law.go:104", after := #[{ on := 0, ground := Ground.phase }, { on := 1, ground := Ground.phase }, { on := 2, ground := Ground.phase }, { on := 3, ground := Ground.phase }, { on := 4, ground := Ground.phase }, { on := 5, ground := Ground.phase }, { on := 6, ground := Ground.phase }, { on := 7, ground := Ground.phase }, { on := 8, ground := Ground.phase }, { on := 9, ground := Ground.phase }, { on := 10, ground := Ground.phase }, { on := 11, ground := Ground.phase }, { on := 12, ground := Ground.phase }, { on := 13, ground := Ground.phase }, { on := 14, ground := Ground.phase }, { on := 15, ground := Ground.phase }, { on := 16, ground := Ground.phase }, { on := 17, ground := Ground.phase }, { on := 18, ground := Ground.phase }, { on := 19, ground := Ground.phase }, { on := 20, ground := Ground.phase }, { on := 21, ground := Ground.phase }, { on := 22, ground := Ground.phase }, { on := 23, ground := Ground.phase }, { on := 24, ground := Ground.phase }], guard := none }) (v := ?_) rfl (by kernel_rfl) (by kernel_rfl) (by kernel_rfl) (fun _ _ _ h => h) (Or.inl ⟨by rfl, ?_⟩) (by assumption) ?_
                rotate_left
                · intro w hSw; (try dsimp only at hSw); go_simp <;> with_reducible rfl
                simp only [Act.put, List.setIfInBounds_toArray, List.set_cons_zero, List.set_cons_succ]
                refine wpAnyH_ready (rs := [26]) (by kernel_rfl) (by simp) ?_
                refine AllReadyH.cons (o := { dst := none, op := Op.store 24 (Operand.tmp 73) (Operand.tmp 72), type := 0, pos := "law.go:104", after := #[{ on := 25, ground := Ground.data }, { on := 24, ground := Ground.data }, { on := 24, ground := Ground.chain }, { on := 0, ground := Ground.phase }, { on := 1, ground := Ground.phase }, { on := 2, ground := Ground.phase }, { on := 3, ground := Ground.phase }, { on := 4, ground := Ground.phase }, { on := 5, ground := Ground.phase }, { on := 6, ground := Ground.phase }, { on := 7, ground := Ground.phase }, { on := 8, ground := Ground.phase }, { on := 9, ground := Ground.phase }, { on := 10, ground := Ground.phase }, { on := 11, ground := Ground.phase }, { on := 12, ground := Ground.phase }, { on := 13, ground := Ground.phase }, { on := 14, ground := Ground.phase }, { on := 15, ground := Ground.phase }, { on := 16, ground := Ground.phase }, { on := 17, ground := Ground.phase }, { on := 18, ground := Ground.phase }, { on := 19, ground := Ground.phase }, { on := 20, ground := Ground.phase }, { on := 21, ground := Ground.phase }, { on := 22, ground := Ground.phase }, { on := 23, ground := Ground.phase }, { on := 24, ground := Ground.phase }], guard := none }) rfl (fun K hK => ?_) AllReadyH.nil
                go_simp
                refine hK.out _ _ ?_ (fun hHeld => ?_)
                · exact hSx.out _ _ _ _ _ _ _ _ _ _ _ hX26.out.z
                clear hK K
                try simp only [Act.put, List.setIfInBounds_toArray, List.set_cons_zero, List.set_cons_succ]
                refine wpAnyH_done (by kernel_rfl) ?_ _
                skip
                have hmv := hide' (hm.out (.slice (some ⟨g7, 0, none⟩) r.steps.length c7))
                clear hm f24 y24
                go_wp2
                exact ⟨⟨i + 1, _, _, _, _, by omega, by go_num, hmv, hX26⟩, by simp [intOf]; omega⟩
              refine AllReadyH.cons (o := { dst := some 69, op := Op.call { callee := Callee.value (Operand.func 9), args := #[Operand.tmp 62, Operand.tmp 68], argTypes := #[37, 23] }, type := 23, pos := "law.go:104", after := #[{ on := 14, ground := Ground.data }, { on := 20, ground := Ground.data }], guard := none }) rfl (fun K hK => ?_) AllReadyH.nil
              go_simp
              go_at_call 9; refine (zxInts hXd.out (by omega) _ r.steps hsv.out hsl).mono ?_; rintro e v21 ⟨g7, c7, rfl, hX21⟩; have c3b := hX21.out.q.c3; have hX21a := hide' (hX21.out.below ((Below.refl _ v21).alloc (Nat.le_refl _) (.cells #[.int .i64 r.kind, .int .i64 r.k, .slice (some ⟨g7, 0, none⟩) r.steps.length c7] 44))); have c3c := hX21a.out.q.c3; (try dsimp only)
              refine hK.out _ _ ?_ (fun hHeld => ?_)
              · exact hSx.out _ _ _ _ _ _ _ _ _ _ _ hX21.out.z
              clear hK K
              try simp only [Act.put, List.setIfInBounds_toArray, List.set_cons_zero, List.set_cons_succ]
              refine wpAnyH_take (i := 22) (oi := { dst := some 70, op := Op.build 44 #[(0, Operand.tmp 55), (1, Operand.tmp 61), (2, Operand.tmp 69)], type := 44, pos := "law.go:104", after := #[{ on := 7, ground := Ground.data }, { on := 13, ground := Ground.data }, { on := 21, ground := Ground.data }], guard := none }) (v := ?_) rfl (by kernel_rfl) (by kernel_rfl) (by kernel_rfl) (fun _ _ _ h => h) (Or.inl ⟨by rfl, ?_⟩) (by assumption) ?_
              rotate_left
              · intro w hSw; (try dsimp only at hSw); go_simp <;> with_reducible rfl
              simp only [Act.put, List.setIfInBounds_toArray, List.set_cons_zero, List.set_cons_succ]
              refine wpAnyH_ready (rs := [1, 23]) (by kernel_rfl) (by simp) ?_
              refine AllReadyH.cons (o := { dst := some 49, op := Op.load 24 (Operand.tmp 48), type := 24, pos := "law.go:104", after := #[{ on := 0, ground := Ground.data }], guard := none }) rfl (fun K hK => ?_) ?_
              · skip
                go_simp
                refine hK.out _ _ ?_ (fun hHeld => ?_)
                · exact hSx.out _ _ _ _ _ _ _ _ _ _ _ hX21.out.z
                clear hK K
                try simp only [Act.put, List.setIfInBounds_toArray, List.set_cons_zero, List.set_cons_succ]
                refine wpAnyH_ready (rs := [23]) (by kernel_rfl) (by simp) ?_
                refine AllReadyH.cons (o := { dst := some 71, op := Op.buildSlice 24 1 #[(0, Operand.tmp 70)], type := 24, pos := "law.go:104", after := #[{ on := 22, ground := Ground.data }], guard := none }) rfl (fun K hK => ?_) AllReadyH.nil
                go_simp
                refine hK.out _ _ ?_ (fun hHeld => ?_)
                · exact hSx.out _ _ _ _ _ _ _ _ _ _ _ hX21a.out.z
                clear hK K
                try simp only [Act.put, List.setIfInBounds_toArray, List.set_cons_zero, List.set_cons_succ]
                refine wpAnyH_ready (rs := [24]) (by kernel_rfl) (by simp) ?_
                refine AllReadyH.cons (o := { dst := some 72, op := Op.call { callee := Callee.builtin Builtin.append, args := #[Operand.tmp 49, Operand.tmp 71], argTypes := #[24, 24] }, type := 24, pos := "law.go:104", after := #[{ on := 1, ground := Ground.data }, { on := 23, ground := Ground.data }, { on := 21, ground := Ground.chain }], guard := none }) rfl (fun K hK => ?_) AllReadyH.nil
                rw [if_pos (by rfl)]
                refine zxApp (.tmp 49) (.tmp 71) r (.slice (some ⟨g7, 0, none⟩) r.steps.length c7) rfl rfl rfl hX21.out rfl hPl.out ?_; intro g9 c9 v24 hX24; have f24 := hX24.out.q.frz 3; have y24 := hX24.out.q.c3; have hX26 := hide' (hX24.out.store (hX24.out.q.s3 (.slice (some ⟨g9, 0, none⟩) (PP.length + 1) c9))); (try dsimp only)
                refine hK.out _ _ ?_ (fun hHeld => ?_)
                · exact hSx.out _ _ _ _ _ _ _ _ _ _ _ hX24.out.z
                clear hK K
                try simp only [Act.put, List.setIfInBounds_toArray, List.set_cons_zero, List.set_cons_succ]
                refine wpAnyH_take (i := 25) (oi := { dst := some 73, op := Op.fieldAddr 26 (Operand.tmp 11) 3, type := 0, pos := "law.go:104", after := #[{ on := 0, ground := Ground.phase }, { on := 1, ground := Ground.phase }, { on := 2, ground := Ground.phase }, { on := 3, ground := Ground.phase }, { on := 4, ground := Ground.phase }, { on := 5, ground := Ground.phase }, { on := 6, ground := Ground.phase }, { on := 7, ground := Ground.phase }, { on := 8, ground := Ground.phase }, { on := 9, ground := Ground.phase }, { on := 10, ground := Ground.phase }, { on := 11, ground := Ground.phase }, { on := 12, ground := Ground.phase }, { on := 13, ground := Ground.phase }, { on := 14, ground := Ground.phase }, { on := 15, ground := Ground.phase }, { on := 16, ground := Ground.phase }, { on := 17, ground := Ground.phase }, { on := 18, ground := Ground.phase }, { on := 19, ground := Ground.phase }, { on := 20, ground := Ground.phase }, { on := 21, ground := Ground.phase }, { on := 22, ground := Ground.phase }, { on := 23, ground := Ground.phase }, { on := 24, ground := Ground.phase }], guard := none }) (v := ?_) rfl (by kernel_rfl) (by kernel_rfl) (by kernel_rfl) (fun _ _ _ h => h) (Or.inl ⟨by rfl, ?_⟩) (by assumption) ?_
                rotate_left
                · intro w hSw; (try dsimp only at hSw); go_simp <;> with_reducible rfl
                simp only [Act.put, List.setIfInBounds_toArray, List.set_cons_zero, List.set_cons_succ]
                refine wpAnyH_ready (rs := [26]) (by kernel_rfl) (by simp) ?_
                refine AllReadyH.cons (o := { dst := none, op := Op.store 24 (Operand.tmp 73) (Operand.tmp 72), type := 0, pos := "law.go:104", after := #[{ on := 25, ground := Ground.data }, { on := 24, ground := Ground.data }, { on := 24, ground := Ground.chain }, { on := 0, ground := Ground.phase }, { on := 1, ground := Ground.phase }, { on := 2, ground := Ground.phase }, { on := 3, ground := Ground.phase }, { on := 4, ground := Ground.phase }, { on := 5, ground := Ground.phase }, { on := 6, ground := Ground.phase }, { on := 7, ground := Ground.phase }, { on := 8, ground := Ground.phase }, { on := 9, ground := Ground.phase }, { on := 10, ground := Ground.phase }, { on := 11, ground := Ground.phase }, { on := 12, ground := Ground.phase }, { on := 13, ground := Ground.phase }, { on := 14, ground := Ground.phase }, { on := 15, ground := Ground.phase }, { on := 16, ground := Ground.phase }, { on := 17, ground := Ground.phase }, { on := 18, ground := Ground.phase }, { on := 19, ground := Ground.phase }, { on := 20, ground := Ground.phase }, { on := 21, ground := Ground.phase }, { on := 22, ground := Ground.phase }, { on := 23, ground := Ground.phase }, { on := 24, ground := Ground.phase }], guard := none }) rfl (fun K hK => ?_) AllReadyH.nil
                go_simp
                refine hK.out _ _ ?_ (fun hHeld => ?_)
                · exact hSx.out _ _ _ _ _ _ _ _ _ _ _ hX26.out.z
                clear hK K
                try simp only [Act.put, List.setIfInBounds_toArray, List.set_cons_zero, List.set_cons_succ]
                refine wpAnyH_done (by kernel_rfl) ?_ _
                skip
                have hmv := hide' (hm.out (.slice (some ⟨g7, 0, none⟩) r.steps.length c7))
                clear hm f24 y24
                go_wp2
                exact ⟨⟨i + 1, _, _, _, _, by omega, by go_num, hmv, hX26⟩, by simp [intOf]; omega⟩
              refine AllReadyH.cons (o := { dst := some 71, op := Op.buildSlice 24 1 #[(0, Operand.tmp 70)], type := 24, pos := "law.go:104", after := #[{ on := 22, ground := Ground.data }], guard := none }) rfl (fun K hK => ?_) AllReadyH.nil
              go_simp
              refine hK.out _ _ ?_ (fun hHeld => ?_)
              · exact hSx.out _ _ _ _ _ _ _ _ _ _ _ hX21a.out.z
              clear hK K
              try simp only [Act.put, List.setIfInBounds_toArray, List.set_cons_zero, List.set_cons_succ]
              refine wpAnyH_ready (rs := [1]) (by kernel_rfl) (by simp) ?_
              refine AllReadyH.cons (o := { dst := some 49, op := Op.load 24 (Operand.tmp 48), type := 24, pos := "law.go:104", after := #[{ on := 0, ground := Ground.data }], guard := none }) rfl (fun K hK => ?_) AllReadyH.nil
              go_simp
              refine hK.out _ _ ?_ (fun hHeld => ?_)
              · exact hSx.out _ _ _ _ _ _ _ _ _ _ _ hX21a.out.z
              clear hK K
              try simp only [Act.put, List.setIfInBounds_toArray, List.set_cons_zero, List.set_cons_succ]
              refine wpAnyH_ready (rs := [24]) (by kernel_rfl) (by simp) ?_
              refine AllReadyH.cons (o := { dst := some 72, op := Op.call { callee := Callee.builtin Builtin.append, args := #[Operand.tmp 49, Operand.tmp 71], argTypes := #[24, 24] }, type := 24, pos := "law.go:104", after := #[{ on := 1, ground := Ground.data }, { on := 23, ground := Ground.data }, { on := 21, ground := Ground.chain }], guard := none }) rfl (fun K hK => ?_) AllReadyH.nil
              rw [if_pos (by rfl)]
              refine zxApp (.tmp 49) (.tmp 71) r (.slice (some ⟨g7, 0, none⟩) r.steps.length c7) rfl rfl rfl hX21.out rfl hPl.out ?_; intro g9 c9 v24 hX24; have f24 := hX24.out.q.frz 3; have y24 := hX24.out.q.c3; have hX26 := hide' (hX24.out.store (hX24.out.q.s3 (.slice (some ⟨g9, 0, none⟩) (PP.length + 1) c9))); (try dsimp only)
              refine hK.out _ _ ?_ (fun hHeld => ?_)
              · exact hSx.out _ _ _ _ _ _ _ _ _ _ _ hX24.out.z
              clear hK K
              try simp only [Act.put, List.setIfInBounds_toArray, List.set_cons_zero, List.set_cons_succ]
              refine wpAnyH_take (i := 25) (oi := { dst := some 73, op := Op.fieldAddr 26 (Operand.tmp 11) 3, type := 0, pos := "law.go:104", after := #[{ on := 0, ground := Ground.phase }, { on := 1, ground := Ground.phase }, { on := 2, ground := Ground.phase }, { on := 3, ground := Ground.phase }, { on := 4, ground := Ground.phase }, { on := 5, ground := Ground.phase }, { on := 6, ground := Ground.phase }, { on := 7, ground := Ground.phase }, { on := 8, ground := Ground.phase }, { on := 9, ground := Ground.phase }, { on := 10, ground := Ground.phase }, { on := 11, ground := Ground.phase }, { on := 12, ground := Ground.phase }, { on := 13, ground := Ground.phase }, { on := 14, ground := Ground.phase }, { on := 15, ground := Ground.phase }, { on := 16, ground := Ground.phase }, { on := 17, ground := Ground.phase }, { on := 18, ground := Ground.phase }, { on := 19, ground := Ground.phase }, { on := 20, ground := Ground.phase }, { on := 21, ground := Ground.phase }, { on := 22, ground := Ground.phase }, { on := 23, ground := Ground.phase }, { on := 24, ground := Ground.phase }], guard := none }) (v := ?_) rfl (by kernel_rfl) (by kernel_rfl) (by kernel_rfl) (fun _ _ _ h => h) (Or.inl ⟨by rfl, ?_⟩) (by assumption) ?_
              rotate_left
              · intro w hSw; (try dsimp only at hSw); go_simp <;> with_reducible rfl
              simp only [Act.put, List.setIfInBounds_toArray, List.set_cons_zero, List.set_cons_succ]
              refine wpAnyH_ready (rs := [26]) (by kernel_rfl) (by simp) ?_
              refine AllReadyH.cons (o := { dst := none, op := Op.store 24 (Operand.tmp 73) (Operand.tmp 72), type := 0, pos := "law.go:104", after := #[{ on := 25, ground := Ground.data }, { on := 24, ground := Ground.data }, { on := 24, ground := Ground.chain }, { on := 0, ground := Ground.phase }, { on := 1, ground := Ground.phase }, { on := 2, ground := Ground.phase }, { on := 3, ground := Ground.phase }, { on := 4, ground := Ground.phase }, { on := 5, ground := Ground.phase }, { on := 6, ground := Ground.phase }, { on := 7, ground := Ground.phase }, { on := 8, ground := Ground.phase }, { on := 9, ground := Ground.phase }, { on := 10, ground := Ground.phase }, { on := 11, ground := Ground.phase }, { on := 12, ground := Ground.phase }, { on := 13, ground := Ground.phase }, { on := 14, ground := Ground.phase }, { on := 15, ground := Ground.phase }, { on := 16, ground := Ground.phase }, { on := 17, ground := Ground.phase }, { on := 18, ground := Ground.phase }, { on := 19, ground := Ground.phase }, { on := 20, ground := Ground.phase }, { on := 21, ground := Ground.phase }, { on := 22, ground := Ground.phase }, { on := 23, ground := Ground.phase }, { on := 24, ground := Ground.phase }], guard := none }) rfl (fun K hK => ?_) AllReadyH.nil
              go_simp
              refine hK.out _ _ ?_ (fun hHeld => ?_)
              · exact hSx.out _ _ _ _ _ _ _ _ _ _ _ hX26.out.z
              clear hK K
              try simp only [Act.put, List.setIfInBounds_toArray, List.set_cons_zero, List.set_cons_succ]
              refine wpAnyH_done (by kernel_rfl) ?_ _
              skip
              have hmv := hide' (hm.out (.slice (some ⟨g7, 0, none⟩) r.steps.length c7))
              clear hm f24 y24
              go_wp2
              exact ⟨⟨i + 1, _, _, _, _, by omega, by go_num, hmv, hX26⟩, by simp [intOf]; omega⟩
            · obtain rfl : i = Q.rules.length := by omega
              rw [List.take_length] at hPP
              clear hqc
              go_wp2
              go_meet
              exact ⟨o3, n3, c3, PP, hPP, hX⟩
        case rest =>
          clear hX
          obtain ⟨o3, n3, c3, PP, hPP, hX⟩ := hcut
          have hX0 := hide' (hX.out.more (show 200 * j + 2 + Q.rules.length ≤ 200 * j + 50 by omega))
          have hcC : Hid (∀ (mm : Nat) (xw xf xr : Value) (Lw : List Nat) (Lf : List Int) (PP : List (Rl × Value)) (E H : List (Value × List Int)) (F : Nat → Prop) (V : World), Z2 V0 (Rc V0) B p mm xw xf xr Lw Lf PP E H F V → V.cell? ⟨g, 3, none⟩ = some (.slice or Q.rules.length cr)) := fun mm xw xf xr Lw Lf PP E H F V hz => (hSc.out.at hz).1.all.2.2.2
          clear hX hQl
          generalize hwv : Value.slice (some ⟨gw, 0, none⟩) Q.who.length cw2 = vw at *
          generalize hfv : Value.slice (some ⟨gf, 0, none⟩) Q.fixed.length cf2 = vf at *
          generalize hrv : Value.slice o3 n3 c3 = vz at *
          have KL := hide' (xWhy hSc.out hX0.out hPP.out hk.out)
          have y0 := hX0.out.q.c0
          have y1 := hX0.out.q.c1
          have y2 := hX0.out.q.c2
          have y3 := hX0.out.q.c3
          clear hX0
          unfold pbV at KL
          go_wp2_with fail
          refine KL.out.mono ?_
          rintro e w1 ⟨v1, v2, l1, l2, ok1, rfl, hZ1, hQ1, hO1, hd1, hl1⟩
          have KB := hide' (xBook1 hZ1.out hQ1.out hO1.out.1 hO1.out.2 hd1.out hl1.out.1)
          clear KL y0 y1 y2 y3 hZ1 hQ1 hO1 hd1
          go_wp2_with fail
          refine KB.out.mono ?_
          rintro e w2 ⟨rfl, hZ2, hQ2, hO2⟩
          have KB2 := hide' (xBook2 hZ2.out hQ2.out hO2.out hl1.out.2)
          clear KB hZ2 hQ2 hO2 hl1
          go_wp2_with fail
          refine KB2.out.mono ?_
          rintro e w3 ⟨rfl, hX3⟩
          clear KB2
          go_upto_region 15 with fail
          go_cut [16, 17] from 86 to 98 (fun yv _ wx => ∃ (gy : Nat) (oa : Option Addr) (ca : Nat) (ob : Option Addr) (cb : Nat) (oc : Option Addr) (cc : Nat), yv = .pointer (some ⟨gy, 0, none⟩) ∧ Hid (Yz V0 (Rc V0) B p (200 * j + 50 + 1 + 1) vw vf vz Q.who Q.fixed PP gx gy Q.users vw vf vz (wtP Q (Lr.take 30) (Ls.take 30)) 0 (.slice oa (wtP Q (Lr.take 30) (Ls.take 30)).who.length ca) (.slice ob (wtP Q (Lr.take 30) (Ls.take 30)).fixed.length cb) (.slice oc (wtP Q (Lr.take 30) (Ls.take 30)).rules.length cc) wx))
          case first =>
            as_aux_lemma =>
            have hY0 := hide' (hX3.out.below (Below.refl _ w3).drew).y
            clear hX3
            have hcw := coZ (hS := hSc.out) (hk := hk.out) (hPP := hPP.out) (M := 200 * j + 50) (vw := vw) (vf := vf) (vz := vz) (B := B) (p := p) (gx := gx) (by omega)
            clear hSc hPP hk
            generalize 200 * j + 50 = M at *
            generalize wtP Q (Lr.take 30) (Ls.take 30) = X at *
            generalize Lr.take 30 = L1 at *
            generalize Ls.take 30 = L2 at *
            obtain ⟨Z, KLr, KLs, KI1, KI2, KWo, KBx, hQc, hYc, hst⟩ := hcw
            have hZ0 := hide' (hst.out _ hY0.out)
            clear hY0 hst
            refine wp_region_held_drew (S := (fun V => V.cell? ⟨gx, 0, none⟩ = some (.int .i64 Q.users) ∧ V.cell? ⟨gx, 1, none⟩ = some vw ∧ V.cell? ⟨gx, 2, none⟩ = some vf ∧ V.cell? ⟨gx, 3, none⟩ = some vz)) (by kernel_rfl) ?_ (fun hHeld => ?_)
            · exact hQc.out _ _ _ hZ0.out
            refine wpAnyH_take (i := 0) (oi := { dst := some 87, op := Op.load 26 (Operand.tmp 11), type := 26, pos := "law.go:109", after := #[], guard := none }) (v := ?_) rfl (by kernel_rfl) (by kernel_rfl) (by kernel_rfl) (fun _ _ _ h => h) (Or.inl ⟨by rfl, ?_⟩) (by assumption) ?_
            rotate_left
            · intro w hSw; (try dsimp only at hSw); go_simp <;> with_reducible rfl
            simp only [Act.put, List.setIfInBounds_toArray, List.set_cons_zero, List.set_cons_succ]
            refine wpAnyH_take (i := 1) (oi := { dst := some 88, op := Op.move (Operand.tmp 8), type := 37, pos := "law.go:109", after := #[], guard := none }) (v := ?_) rfl (by kernel_rfl) (by kernel_rfl) (by kernel_rfl) (fun _ _ _ h => h) (Or.inl ⟨by rfl, ?_⟩) (by assumption) ?_
            rotate_left
            · intro w hSw; (try dsimp only at hSw); go_simp <;> with_reducible rfl
            simp only [Act.put, List.setIfInBounds_toArray, List.set_cons_zero, List.set_cons_succ]
            refine wpAnyH_take (i := 2) (oi := { dst := some 89, op := Op.move (Operand.tmp 1), type := 23, pos := "law.go:109", after := #[], guard := none }) (v := ?_) rfl (by kernel_rfl) (by kernel_rfl) (by kernel_rfl) (fun _ _ _ h => h) (Or.inl ⟨by rfl, ?_⟩) (by assumption) ?_
            rotate_left
            · intro w hSw; (try dsimp only at hSw); go_simp <;> with_reducible rfl
            simp only [Act.put, List.setIfInBounds_toArray, List.set_cons_zero, List.set_cons_succ]
            refine wpAnyH_take (i := 5) (oi := { dst := some 92, op := Op.move (Operand.tmp 8), type := 37, pos := "law.go:109", after := #[], guard := none }) (v := ?_) rfl (by kernel_rfl) (by kernel_rfl) (by kernel_rfl) (fun _ _ _ h => h) (Or.inl ⟨by rfl, ?_⟩) (by assumption) ?_
            rotate_left
            · intro w hSw; (try dsimp only at hSw); go_simp <;> with_reducible rfl
            simp only [Act.put, List.setIfInBounds_toArray, List.set_cons_zero, List.set_cons_succ]
            refine wpAnyH_take (i := 6) (oi := { dst := some 93, op := Op.move (Operand.tmp 2), type := 23, pos := "law.go:109", after := #[], guard := none }) (v := ?_) rfl (by kernel_rfl) (by kernel_rfl) (by kernel_rfl) (fun _ _ _ h => h) (Or.inl ⟨by rfl, ?_⟩) (by assumption) ?_
            rotate_left
            · intro w hSw; (try dsimp only at hSw); go_simp <;> with_reducible rfl
            simp only [Act.put, List.setIfInBounds_toArray, List.set_cons_zero, List.set_cons_succ]
            refine wpAnyH_ready (rs := [3, 13]) (by kernel_rfl) (by simp) ?_
            refine AllReadyH.cons (o := { dst := some 90, op := Op.call { callee := Callee.value (Operand.func 22), args := #[Operand.tmp 89], argTypes := #[23] }, type := 23, pos := "law.go:109", after := #[{ on := 2, ground := Ground.data }], guard := none }) rfl (fun K hK => ?_) ?_
            · skip
              go_simp
              go_at_call 22; refine (KLr.out _ _ _ hZ0.out).mono ?_; rintro e v3 ⟨r3, rfl, hr3, hZ3⟩; (try dsimp only)
              refine hK.out _ _ ?_ (fun hHeld => ?_)
              · exact hQc.out _ _ _ hZ3.out
              clear hK K
              try simp only [Act.put, List.setIfInBounds_toArray, List.set_cons_zero, List.set_cons_succ]
              refine wpAnyH_ready (rs := [4, 13]) (by kernel_rfl) (by simp) ?_
              refine AllReadyH.cons (o := { dst := some 91, op := Op.call { callee := Callee.value (Operand.func 9), args := #[Operand.tmp 88, Operand.tmp 90], argTypes := #[37, 23] }, type := 23, pos := "law.go:109", after := #[{ on := 1, ground := Ground.data }, { on := 3, ground := Ground.data }, { on := 3, ground := Ground.chain }], guard := none }) rfl (fun K hK => ?_) ?_
              · skip
                go_simp
                go_at_call 9; refine (KI1.out _ _ _ hZ3.out hr3.out).mono ?_; rintro e v4 ⟨g4, c4, rfl, hZ4⟩; (try dsimp only)
                refine hK.out _ _ ?_ (fun hHeld => ?_)
                · exact hQc.out _ _ _ hZ4.out
                clear hK K
                try simp only [Act.put, List.setIfInBounds_toArray, List.set_cons_zero, List.set_cons_succ]
                refine wpAnyH_ready (rs := [7, 13]) (by kernel_rfl) (by simp) ?_
                refine AllReadyH.cons (o := { dst := some 94, op := Op.call { callee := Callee.value (Operand.func 22), args := #[Operand.tmp 93], argTypes := #[23] }, type := 23, pos := "law.go:109", after := #[{ on := 6, ground := Ground.data }, { on := 4, ground := Ground.chain }], guard := none }) rfl (fun K hK => ?_) ?_
                · skip
                  go_simp
                  go_at_call 22; refine (KLs.out _ _ _ hZ4.out).mono ?_; rintro e v7 ⟨r7, rfl, hr7, hZ7⟩; (try dsimp only)
                  refine hK.out _ _ ?_ (fun hHeld => ?_)
                  · exact hQc.out _ _ _ hZ7.out
                  clear hK K
                  try simp only [Act.put, List.setIfInBounds_toArray, List.set_cons_zero, List.set_cons_succ]
                  refine wpAnyH_ready (rs := [8, 13]) (by kernel_rfl) (by simp) ?_
                  refine AllReadyH.cons (o := { dst := some 95, op := Op.call { callee := Callee.value (Operand.func 9), args := #[Operand.tmp 92, Operand.tmp 94], argTypes := #[37, 23] }, type := 23, pos := "law.go:109", after := #[{ on := 5, ground := Ground.data }, { on := 7, ground := Ground.data }, { on := 7, ground := Ground.chain }], guard := none }) rfl (fun K hK => ?_) ?_
                  · skip
                    go_simp
                    go_at_call 9; refine (KI2.out _ _ _ _ hZ7.out hr7.out).mono ?_; rintro e v8 ⟨g8, c8, rfl, hZ8⟩; (try dsimp only)
                    refine hK.out _ _ ?_ (fun hHeld => ?_)
                    · exact hQc.out _ _ _ hZ8.out
                    clear hK K
                    try simp only [Act.put, List.setIfInBounds_toArray, List.set_cons_zero, List.set_cons_succ]
                    refine wpAnyH_ready (rs := [9, 13]) (by kernel_rfl) (by simp) ?_
                    refine AllReadyH.cons (o := { dst := some 96, op := Op.call { callee := Callee.value (Operand.func 21), args := #[Operand.tmp 87, Operand.tmp 91, Operand.tmp 95], argTypes := #[26, 23, 23] }, type := 53, pos := "law.go:109", after := #[{ on := 0, ground := Ground.data }, { on := 4, ground := Ground.data }, { on := 8, ground := Ground.data }, { on := 8, ground := Ground.chain }], guard := none }) rfl (fun K hK => ?_) ?_
                    · skip
                      go_simp
                      go_at_call 21; refine (KWo.out _ _ _ _ hZ8.out).mono ?_; rintro e v9 ⟨oa, ca, ob, cb, oc, cc, nn, rfl, hx9, hy9, hYz9⟩; have hYz := hYz9; have hx14 := hide' (hYc.out _ _ _ _ _ _ hYz9.out); have hx13 := hide' (hx9.out.of (((Below.refl _ v9).alloc (Nat.le_refl _) (.cells #[.int .i64 0, .slice none 0 0, .slice none 0 0, .slice none 0 0] 26)).block gx hx9.out.lt)); clear hYz9 hy9; (try dsimp only)
                      refine hK.out _ _ ?_ (fun hHeld => ?_)
                      · exact ⟨hx9.out.c0, hx9.out.c1, hx9.out.c2, hx9.out.c3⟩
                      clear hK K
                      try simp only [Act.put, List.setIfInBounds_toArray, List.set_cons_zero, List.set_cons_succ]
                      refine wpAnyH_take (i := 10) (oi := { dst := some 86, op := Op.move (Operand.tmp 96), type := 53, pos := "law.go:109", after := #[{ on := 9, ground := Ground.data }], guard := none }) (v := ?_) rfl (by kernel_rfl) (by kernel_rfl) (by kernel_rfl) (fun _ _ _ h => h) (Or.inl ⟨by rfl, ?_⟩) (by assumption) ?_
                      rotate_left
                      · intro w hSw; (try dsimp only at hSw); go_simp <;> with_reducible rfl
                      simp only [Act.put, List.setIfInBounds_toArray, List.set_cons_zero, List.set_cons_succ]
                      refine wpAnyH_take (i := 11) (oi := { dst := some 97, op := Op.extract (Operand.tmp 86) 0, type := 26, pos := "law.go:109", after := #[{ on := 10, ground := Ground.data }], guard := none }) (v := ?_) rfl (by kernel_rfl) (by kernel_rfl) (by kernel_rfl) (fun _ _ _ h => h) (Or.inl ⟨by rfl, ?_⟩) (by assumption) ?_
                      rotate_left
                      · intro w hSw; (try dsimp only at hSw); go_simp <;> with_reducible rfl
                      simp only [Act.put, List.setIfInBounds_toArray, List.set_cons_zero, List.set_cons_succ]
                      refine wpAnyH_take (i := 12) (oi := { dst := some 98, op := Op.extract (Operand.tmp 86) 1, type := 49, pos := "law.go:109", after := #[{ on := 10, ground := Ground.data }, { on := 14, ground := Ground.gcOnly Departure.lateStores }], guard := none }) (v := ?_) rfl (by kernel_rfl) (by kernel_rfl) (by kernel_rfl) (fun _ _ _ h => h) (Or.inl ⟨by rfl, ?_⟩) (by assumption) ?_
                      rotate_left
                      · intro w hSw; (try dsimp only at hSw); go_simp <;> with_reducible rfl
                      simp only [Act.put, List.setIfInBounds_toArray, List.set_cons_zero, List.set_cons_succ]
                      refine wpAnyH_ready (rs := [13]) (by kernel_rfl) (by simp) ?_
                      refine AllReadyH.cons (o := { dst := some 16, op := Op.alloc 26, type := 0, pos := "law.go:109", after := #[], guard := none }) rfl (fun K hK => ?_) AllReadyH.nil
                      go_simp
                      skip
                      refine hK.out _ _ ?_ (fun hHeld => ?_)
                      · exact ⟨hx13.out.c0, hx13.out.c1, hx13.out.c2, hx13.out.c3⟩
                      clear hK K
                      try simp only [Act.put, List.setIfInBounds_toArray, List.set_cons_zero, List.set_cons_succ]
                      refine wpAnyH_ready (rs := [14]) (by kernel_rfl) (by simp) ?_
                      refine AllReadyH.cons (o := { dst := none, op := Op.store 26 (Operand.tmp 16) (Operand.tmp 97), type := 0, pos := "law.go:109", after := #[{ on := 13, ground := Ground.data }, { on := 11, ground := Ground.data }, { on := 9, ground := Ground.chain }, { on := 0, ground := Ground.phase }, { on := 1, ground := Ground.phase }, { on := 2, ground := Ground.phase }, { on := 3, ground := Ground.phase }, { on := 4, ground := Ground.phase }, { on := 5, ground := Ground.phase }, { on := 6, ground := Ground.phase }, { on := 7, ground := Ground.phase }, { on := 8, ground := Ground.phase }, { on := 9, ground := Ground.phase }, { on := 10, ground := Ground.phase }, { on := 11, ground := Ground.phase }, { on := 12, ground := Ground.textOnly Departure.lateStores }, { on := 13, ground := Ground.phase }], guard := none }) rfl (fun K hK => ?_) AllReadyH.nil
                      go_simp
                      refine hK.out _ _ ?_ (fun hHeld => ?_)
                      · exact hx14.out
                      clear hK K
                      try simp only [Act.put, List.setIfInBounds_toArray, List.set_cons_zero, List.set_cons_succ]
                      refine wpAnyH_take (i := 15) (oi := { dst := some 17, op := Op.assign (Operand.tmp 98), type := 49, pos := "law.go:109", after := #[{ on := 12, ground := Ground.data }, { on := 14, ground := Ground.chain }, { on := 0, ground := Ground.phase }, { on := 1, ground := Ground.phase }, { on := 2, ground := Ground.phase }, { on := 3, ground := Ground.phase }, { on := 4, ground := Ground.phase }, { on := 5, ground := Ground.phase }, { on := 6, ground := Ground.phase }, { on := 7, ground := Ground.phase }, { on := 8, ground := Ground.phase }, { on := 9, ground := Ground.phase }, { on := 10, ground := Ground.phase }, { on := 11, ground := Ground.phase }, { on := 12, ground := Ground.phase }, { on := 13, ground := Ground.phase }, { on := 14, ground := Ground.phase }], guard := none }) (v := ?_) rfl (by kernel_rfl) (by kernel_rfl) (by kernel_rfl) (fun _ _ _ h => h) (Or.inl ⟨by rfl, ?_⟩) (by assumption) ?_
                      rotate_left
                      · intro w hSw; (try dsimp only at hSw); go_simp <;> with_reducible rfl
                      simp only [Act.put, List.setIfInBounds_toArray, List.set_cons_zero, List.set_cons_succ]
                      refine wpAnyH_done (by kernel_rfl) ?_ _
                      skip
                      go_wp2
                      go_meet
                      exact ⟨_, oa, ca, ob, cb, oc, cc, rfl, hYz⟩
                    refine AllReadyH.cons (o := { dst := some 16, op := Op.alloc 26, type := 0, pos := "law.go:109", after := #[], guard := none }) rfl (fun K hK => ?_) AllReadyH.nil
                    go_simp
                    have hZ13 := hide' (KBx.out _ _ hZ8.out); (try dsimp only)
                    refine hK.out _ _ ?_ (fun hHeld => ?_)
                    · exact hQc.out _ _ _ hZ13.out
                    clear hK K
                    try simp only [Act.put, List.setIfInBounds_toArray, List.set_cons_zero, List.set_cons_succ]
                    refine wpAnyH_ready (rs := [9]) (by kernel_rfl) (by simp) ?_
                    refine AllReadyH.cons (o := { dst := some 96, op := Op.call { callee := Callee.value (Operand.func 21), args := #[Operand.tmp 87, Operand.tmp 91, Operand.tmp 95], argTypes := #[26, 23, 23] }, type := 53, pos := "law.go:109", after := #[{ on := 0, ground := Ground.data }, { on := 4, ground := Ground.data }, { on := 8, ground := Ground.data }, { on := 8, ground := Ground.chain }], guard := none }) rfl (fun K hK => ?_) AllReadyH.nil
                    go_simp
                    go_at_call 21; refine (KWo.out _ _ _ _ hZ13.out).mono ?_; rintro e v9 ⟨oa, ca, ob, cb, oc, cc, nn, rfl, hx9, hy9, hYz9⟩; obtain ⟨hq, hYz⟩ := hy9.out _ rfl; have f0 := hq.out.frz 0; have t0 := hq.out.c0; have f1 := (hq.out.s0C X.users).frz 1; have t1 := (hq.out.s0C X.users).c1; have f2 := ((hq.out.s0C X.users).s1 (.slice oa X.who.length ca)).frz 2; have t2 := ((hq.out.s0C X.users).s1 (.slice oa X.who.length ca)).c2; have f3 := (((hq.out.s0C X.users).s1 (.slice oa X.who.length ca)).s2 (.slice ob X.fixed.length cb)).frz 3; have t3 := (((hq.out.s0C X.users).s1 (.slice oa X.who.length ca)).s2 (.slice ob X.fixed.length cb)).c3; have hx14 := hide' (hYc.out _ _ _ _ _ _ hYz.out); clear hq hYz9 hy9; (try dsimp only)
                    refine hK.out _ _ ?_ (fun hHeld => ?_)
                    · exact ⟨hx9.out.c0, hx9.out.c1, hx9.out.c2, hx9.out.c3⟩
                    clear hK K
                    try simp only [Act.put, List.setIfInBounds_toArray, List.set_cons_zero, List.set_cons_succ]
                    refine wpAnyH_take (i := 10) (oi := { dst := some 86, op := Op.move (Operand.tmp 96), type := 53, pos := "law.go:109", after := #[{ on := 9, ground := Ground.data }], guard := none }) (v := ?_) rfl (by kernel_rfl) (by kernel_rfl) (by kernel_rfl) (fun _ _ _ h => h) (Or.inl ⟨by rfl, ?_⟩) (by assumption) ?_
                    rotate_left
                    · intro w hSw; (try dsimp only at hSw); go_simp <;> with_reducible rfl
                    simp only [Act.put, List.setIfInBounds_toArray, List.set_cons_zero, List.set_cons_succ]
                    refine wpAnyH_take (i := 11) (oi := { dst := some 97, op := Op.extract (Operand.tmp 86) 0, type := 26, pos := "law.go:109", after := #[{ on := 10, ground := Ground.data }], guard := none }) (v := ?_) rfl (by kernel_rfl) (by kernel_rfl) (by kernel_rfl) (fun _ _ _ h => h) (Or.inl ⟨by rfl, ?_⟩) (by assumption) ?_
                    rotate_left
                    · intro w hSw; (try dsimp only at hSw); go_simp <;> with_reducible rfl
                    simp only [Act.put, List.setIfInBounds_toArray, List.set_cons_zero, List.set_cons_succ]
                    refine wpAnyH_take (i := 12) (oi := { dst := some 98, op := Op.extract (Operand.tmp 86) 1, type := 49, pos := "law.go:109", after := #[{ on := 10, ground := Ground.data }, { on := 14, ground := Ground.gcOnly Departure.lateStores }], guard := none }) (v := ?_) rfl (by kernel_rfl) (by kernel_rfl) (by kernel_rfl) (fun _ _ _ h => h) (Or.inl ⟨by rfl, ?_⟩) (by assumption) ?_
                    rotate_left
                    · intro w hSw; (try dsimp only at hSw); go_simp <;> with_reducible rfl
                    simp only [Act.put, List.setIfInBounds_toArray, List.set_cons_zero, List.set_cons_succ]
                    refine wpAnyH_ready (rs := [14]) (by kernel_rfl) (by simp) ?_
                    refine AllReadyH.cons (o := { dst := none, op := Op.store 26 (Operand.tmp 16) (Operand.tmp 97), type := 0, pos := "law.go:109", after := #[{ on := 13, ground := Ground.data }, { on := 11, ground := Ground.data }, { on := 9, ground := Ground.chain }, { on := 0, ground := Ground.phase }, { on := 1, ground := Ground.phase }, { on := 2, ground := Ground.phase }, { on := 3, ground := Ground.phase }, { on := 4, ground := Ground.phase }, { on := 5, ground := Ground.phase }, { on := 6, ground := Ground.phase }, { on := 7, ground := Ground.phase }, { on := 8, ground := Ground.phase }, { on := 9, ground := Ground.phase }, { on := 10, ground := Ground.phase }, { on := 11, ground := Ground.phase }, { on := 12, ground := Ground.textOnly Departure.lateStores }, { on := 13, ground := Ground.phase }], guard := none }) rfl (fun K hK => ?_) AllReadyH.nil
                    go_simp
                    refine hK.out _ _ ?_ (fun hHeld => ?_)
                    · exact hx14.out
                    clear hK K
                    try simp only [Act.put, List.setIfInBounds_toArray, List.set_cons_zero, List.set_cons_succ]
                    refine wpAnyH_take (i := 15) (oi := { dst := some 17, op := Op.assign (Operand.tmp 98), type := 49, pos := "law.go:109", after := #[{ on := 12, ground := Ground.data }, { on := 14, ground := Ground.chain }, { on := 0, ground := Ground.phase }, { on := 1, ground := Ground.phase }, { on := 2, ground := Ground.phase }, { on := 3, ground := Ground.phase }, { on := 4, ground := Ground.phase }, { on := 5, ground := Ground.phase }, { on := 6, ground := Ground.phase }, { on := 7, ground := Ground.phase }, { on := 8, ground := Ground.phase }, { on := 9, ground := Ground.phase }, { on := 10, ground := Ground.phase }, { on := 11, ground := Ground.phase }, { on := 12, ground := Ground.phase }, { on := 13, ground := Ground.phase }, { on := 14, ground := Ground.phase }], guard := none }) (v := ?_) rfl (by kernel_rfl) (by kernel_rfl) (by kernel_rfl) (fun _ _ _ h => h) (Or.inl ⟨by rfl, ?_⟩) (by assumption) ?_
                    rotate_left
                    · intro w hSw; (try dsimp only at hSw); go_simp <;> with_reducible rfl
                    simp only [Act.put, List.setIfInBounds_toArray, List.set_cons_zero, List.set_cons_succ]
                    refine wpAnyH_done (by kernel_rfl) ?_ _
                    skip
                    go_wp2
                    go_meet
                    exact ⟨_, oa, ca, ob, cb, oc, cc, rfl, hYz⟩
                  refine AllReadyH.cons (o := { dst := some 16, op := Op.alloc 26, type := 0, pos := "law.go:109", after := #[], guard := none }) rfl (fun K hK => ?_) AllReadyH.nil
                  go_simp
                  have hZ13 := hide' (KBx.out _ _ hZ7.out); have hr7b := hide' (hr7.out.below ((Below.refl _ v7).alloc (Nat.le_refl _) (.cells #[.int .i64 0, .slice none 0 0, .slice none 0 0, .slice none 0 0] 26)) (Nat.le_refl _)); (try dsimp only)
                  refine hK.out _ _ ?_ (fun hHeld => ?_)
                  · exact hQc.out _ _ _ hZ13.out
                  clear hK K
                  try simp only [Act.put, List.setIfInBounds_toArray, List.set_cons_zero, List.set_cons_succ]
                  refine wpAnyH_ready (rs := [8]) (by kernel_rfl) (by simp) ?_
                  refine AllReadyH.cons (o := { dst := some 95, op := Op.call { callee := Callee.value (Operand.func 9), args := #[Operand.tmp 92, Operand.tmp 94], argTypes := #[37, 23] }, type := 23, pos := "law.go:109", after := #[{ on := 5, ground := Ground.data }, { on := 7, ground := Ground.data }, { on := 7, ground := Ground.chain }], guard := none }) rfl (fun K hK => ?_) AllReadyH.nil
                  go_simp
                  go_at_call 9; refine (KI2.out _ _ _ _ hZ13.out hr7b.out).mono ?_; rintro e v8 ⟨g8, c8, rfl, hZ8⟩; (try dsimp only)
                  refine hK.out _ _ ?_ (fun hHeld => ?_)
                  · exact hQc.out _ _ _ hZ8.out
                  clear hK K
                  try simp only [Act.put, List.setIfInBounds_toArray, List.set_cons_zero, List.set_cons_succ]
                  refine wpAnyH_ready (rs := [9]) (by kernel_rfl) (by simp) ?_
                  refine AllReadyH.cons (o := { dst := some 96, op := Op.call { callee := Callee.value (Operand.func 21), args := #[Operand.tmp 87, Operand.tmp 91, Operand.tmp 95], argTypes := #[26, 23, 23] }, type := 53, pos := "law.go:109", after := #[{ on := 0, ground := Ground.data }, { on := 4, ground := Ground.data }, { on := 8, ground := Ground.data }, { on := 8, ground := Ground.chain }], guard := none }) rfl (fun K hK => ?_) AllReadyH.nil
                  go_simp
                  go_at_call 21; refine (KWo.out _ _ _ _ hZ8.out).mono ?_; rintro e v9 ⟨oa, ca, ob, cb, oc, cc, nn, rfl, hx9, hy9, hYz9⟩; obtain ⟨hq, hYz⟩ := hy9.out _ rfl; have f0 := hq.out.frz 0; have t0 := hq.out.c0; have f1 := (hq.out.s0C X.users).frz 1; have t1 := (hq.out.s0C X.users).c1; have f2 := ((hq.out.s0C X.users).s1 (.slice oa X.who.length ca)).frz 2; have t2 := ((hq.out.s0C X.users).s1 (.slice oa X.who.length ca)).c2; have f3 := (((hq.out.s0C X.users).s1 (.slice oa X.who.length ca)).s2 (.slice ob X.fixed.length cb)).frz 3; have t3 := (((hq.out.s0C X.users).s1 (.slice oa X.who.length ca)).s2 (.slice ob X.fixed.length cb)).c3; have hx14 := hide' (hYc.out _ _ _ _ _ _ hYz.out); clear hq hYz9 hy9; (try dsimp only)
                  refine hK.out _ _ ?_ (fun hHeld => ?_)
                  · exact ⟨hx9.out.c0, hx9.out.c1, hx9.out.c2, hx9.out.c3⟩
                  clear hK K
                  try simp only [Act.put, List.setIfInBounds_toArray, List.set_cons_zero, List.set_cons_succ]
                  refine wpAnyH_take (i := 10) (oi := { dst := some 86, op := Op.move (Operand.tmp 96), type := 53, pos := "law.go:109", after := #[{ on := 9, ground := Ground.data }], guard := none }) (v := ?_) rfl (by kernel_rfl) (by kernel_rfl) (by kernel_rfl) (fun _ _ _ h => h) (Or.inl ⟨by rfl, ?_⟩) (by assumption) ?_
                  rotate_left
                  · intro w hSw; (try dsimp only at hSw); go_simp <;> with_reducible rfl
                  simp only [Act.put, List.setIfInBounds_toArray, List.set_cons_zero, List.set_cons_succ]
                  refine wpAnyH_take (i := 11) (oi := { dst := some 97, op := Op.extract (Operand.tmp 86) 0, type := 26, pos := "law.go:109", after := #[{ on := 10, ground := Ground.data }], guard := none }) (v := ?_) rfl (by kernel_rfl) (by kernel_rfl) (by kernel_rfl) (fun _ _ _ h => h) (Or.inl ⟨by rfl, ?_⟩) (by assumption) ?_
                  rotate_left
                  · intro w hSw; (try dsimp only at hSw); go_simp <;> with_reducible rfl
                  simp only [Act.put, List.setIfInBounds_toArray, List.set_cons_zero, List.set_cons_succ]
                  refine wpAnyH_take (i := 12) (oi := { dst := some 98, op := Op.extract (Operand.tmp 86) 1, type := 49, pos := "law.go:109", after := #[{ on := 10, ground := Ground.data }, { on := 14, ground := Ground.gcOnly Departure.lateStores }], guard := none }) (v := ?_) rfl (by kernel_rfl) (by kernel_rfl) (by kernel_rfl) (fun _ _ _ h => h) (Or.inl ⟨by rfl, ?_⟩) (by assumption) ?_
                  rotate_left
                  · intro w hSw; (try dsimp only at hSw); go_simp <;> with_reducible rfl
                  simp only [Act.put, List.setIfInBounds_toArray, List.set_cons_zero, List.set_cons_succ]
                  refine wpAnyH_ready (rs := [14]) (by kernel_rfl) (by simp) ?_
                  refine AllReadyH.cons (o := { dst := none, op := Op.store 26 (Operand.tmp 16) (Operand.tmp 97), type := 0, pos := "law.go:109", after := #[{ on := 13, ground := Ground.data }, { on := 11, ground := Ground.data }, { on := 9, ground := Ground.chain }, { on := 0, ground := Ground.phase }, { on := 1, ground := Ground.phase }, { on := 2, ground := Ground.phase }, { on := 3, ground := Ground.phase }, { on := 4, ground := Ground.phase }, { on := 5, ground := Ground.phase }, { on := 6, ground := Ground.phase }, { on := 7, ground := Ground.phase }, { on := 8, ground := Ground.phase }, { on := 9, ground := Ground.phase }, { on := 10, ground := Ground.phase }, { on := 11, ground := Ground.phase }, { on := 12, ground := Ground.textOnly Departure.lateStores }, { on := 13, ground := Ground.phase }], guard := none }) rfl (fun K hK => ?_) AllReadyH.nil
                  go_simp
                  refine hK.out _ _ ?_ (fun hHeld => ?_)
                  · exact hx14.out
                  clear hK K
                  try simp only [Act.put, List.setIfInBounds_toArray, List.set_cons_zero, List.set_cons_succ]
                  refine wpAnyH_take (i := 15) (oi := { dst := some 17, op := Op.assign (Operand.tmp 98), type := 49, pos := "law.go:109", after := #[{ on := 12, ground := Ground.data }, { on := 14, ground := Ground.chain }, { on := 0, ground := Ground.phase }, { on := 1, ground := Ground.phase }, { on := 2, ground := Ground.phase }, { on := 3, ground := Ground.phase }, { on := 4, ground := Ground.phase }, { on := 5, ground := Ground.phase }, { on := 6, ground := Ground.phase }, { on := 7, ground := Ground.phase }, { on := 8, ground := Ground.phase }, { on := 9, ground := Ground.phase }, { on := 10, ground := Ground.phase }, { on := 11, ground := Ground.phase }, { on := 12, ground := Ground.phase }, { on := 13, ground := Ground.phase }, { on := 14, ground := Ground.phase }], guard := none }) (v := ?_) rfl (by kernel_rfl) (by kernel_rfl) (by kernel_rfl) (fun _ _ _ h => h) (Or.inl ⟨by rfl, ?_⟩) (by assumption) ?_
                  rotate_left
                  · intro w hSw; (try dsimp only at hSw); go_simp <;> with_reducible rfl
                  simp only [Act.put, List.setIfInBounds_toArray, List.set_cons_zero, List.set_cons_succ]
                  refine wpAnyH_done (by kernel_rfl) ?_ _
                  skip
                  go_wp2
                  go_meet
                  exact ⟨_, oa, ca, ob, cb, oc, cc, rfl, hYz⟩
                refine AllReadyH.cons (o := { dst := some 16, op := Op.alloc 26, type := 0, pos := "law.go:109", after := #[], guard := none }) rfl (fun K hK => ?_) AllReadyH.nil
                go_simp
                have hZ13 := hide' (KBx.out _ _ hZ4.out); (try dsimp only)
                refine hK.out _ _ ?_ (fun hHeld => ?_)
                · exact hQc.out _ _ _ hZ13.out
                clear hK K
                try simp only [Act.put, List.setIfInBounds_toArray, List.set_cons_zero, List.set_cons_succ]
                refine wpAnyH_ready (rs := [7]) (by kernel_rfl) (by simp) ?_
                refine AllReadyH.cons (o := { dst := some 94, op := Op.call { callee := Callee.value (Operand.func 22), args := #[Operand.tmp 93], argTypes := #[23] }, type := 23, pos := "law.go:109", after := #[{ on := 6, ground := Ground.data }, { on := 4, ground := Ground.chain }], guard := none }) rfl (fun K hK => ?_) AllReadyH.nil
                go_simp
                go_at_call 22; refine (KLs.out _ _ _ hZ13.out).mono ?_; rintro e v7 ⟨r7, rfl, hr7, hZ7⟩; (try dsimp only)
                refine hK.out _ _ ?_ (fun hHeld => ?_)
                · exact hQc.out _ _ _ hZ7.out
                clear hK K
                try simp only [Act.put, List.setIfInBounds_toArray, List.set_cons_zero, List.set_cons_succ]
                refine wpAnyH_ready (rs := [8]) (by kernel_rfl) (by simp) ?_
                refine AllReadyH.cons (o := { dst := some 95, op := Op.call { callee := Callee.value (Operand.func 9), args := #[Operand.tmp 92, Operand.tmp 94], argTypes := #[37, 23] }, type := 23, pos := "law.go:109", after := #[{ on := 5, ground := Ground.data }, { on := 7, ground := Ground.data }, { on := 7, ground := Ground.chain }], guard := none }) rfl (fun K hK => ?_) AllReadyH.nil
                go_simp
                go_at_call 9; refine (KI2.out _ _ _ _ hZ7.out hr7.out).mono ?_; rintro e v8 ⟨g8, c8, rfl, hZ8⟩; (try dsimp only)
                refine hK.out _ _ ?_ (fun hHeld => ?_)
                · exact hQc.out _ _ _ hZ8.out
                clear hK K
                try simp only [Act.put, List.setIfInBounds_toArray, List.set_cons_zero, List.set_cons_succ]
                refine wpAnyH_ready (rs := [9]) (by kernel_rfl) (by simp) ?_
                refine AllReadyH.cons (o := { dst := some 96, op := Op.call { callee := Callee.value (Operand.func 21), args := #[Operand.tmp 87, Operand.tmp 91, Operand.tmp 95], argTypes := #[26, 23, 23] }, type := 53, pos := "law.go:109", after := #[{ on := 0, ground := Ground.data }, { on := 4, ground := Ground.data }, { on := 8, ground := Ground.data }, { on := 8, ground := Ground.chain }], guard := none }) rfl (fun K hK => ?_) AllReadyH.nil
                go_simp
                go_at_call 21; refine (KWo.out _ _ _ _ hZ8.out).mono ?_; rintro e v9 ⟨oa, ca, ob, cb, oc, cc, nn, rfl, hx9, hy9, hYz9⟩; obtain ⟨hq, hYz⟩ := hy9.out _ rfl; have f0 := hq.out.frz 0; have t0 := hq.out.c0; have f1 := (hq.out.s0C X.users).frz 1; have t1 := (hq.out.s0C X.users).c1; have f2 := ((hq.out.s0C X.users).s1 (.slice oa X.who.length ca)).frz 2; have t2 := ((hq.out.s0C X.users).s1 (.slice oa X.who.length ca)).c2; have f3 := (((hq.out.s0C X.users).s1 (.slice oa X.who.length ca)).s2 (.slice ob X.fixed.length cb)).frz 3; have t3 := (((hq.out.s0C X.users).s1 (.slice oa X.who.length ca)).s2 (.slice ob X.fixed.length cb)).c3; have hx14 := hide' (hYc.out _ _ _ _ _ _ hYz.out); clear hq hYz9 hy9; (try dsimp only)
                refine hK.out _ _ ?_ (fun hHeld => ?_)
                · exact ⟨hx9.out.c0, hx9.out.c1, hx9.out.c2, hx9.out.c3⟩
                clear hK K
                try simp only [Act.put, List.setIfInBounds_toArray, List.set_cons_zero, List.set_cons_succ]
                refine wpAnyH_take (i := 10) (oi := { dst := some 86, op := Op.move (Operand.tmp 96), type := 53, pos := "law.go:109", after := #[{ on := 9, ground := Ground.data }], guard := none }) (v := ?_) rfl (by kernel_rfl) (by kernel_rfl) (by kernel_rfl) (fun _ _ _ h => h) (Or.inl ⟨by rfl, ?_⟩) (by assumption) ?_
                rotate_left
                · intro w hSw; (try dsimp only at hSw); go_simp <;> with_reducible rfl
                simp only [Act.put, List.setIfInBounds_toArray, List.set_cons_zero, List.set_cons_succ]
                refine wpAnyH_take (i := 11) (oi := { dst := some 97, op := Op.extract (Operand.tmp 86) 0, type := 26, pos := "law.go:109", after := #[{ on := 10, ground := Ground.data }], guard := none }) (v := ?_) rfl (by kernel_rfl) (by kernel_rfl) (by kernel_rfl) (fun _ _ _ h => h) (Or.inl ⟨by rfl, ?_⟩) (by assumption) ?_
                rotate_left
                · intro w hSw; (try dsimp only at hSw); go_simp <;> with_reducible rfl
                simp only [Act.put, List.setIfInBounds_toArray, List.set_cons_zero, List.set_cons_succ]
                refine wpAnyH_take (i := 12) (oi := { dst := some 98, op := Op.extract (Operand.tmp 86) 1, type := 49, pos := "law.go:109", after := #[{ on := 10, ground := Ground.data }, { on := 14, ground := Ground.gcOnly Departure.lateStores }], guard := none }) (v := ?_) rfl (by kernel_rfl) (by kernel_rfl) (by kernel_rfl) (fun _ _ _ h => h) (Or.inl ⟨by rfl, ?_⟩) (by assumption) ?_
                rotate_left
                · intro w hSw; (try dsimp only at hSw); go_simp <;> with_reducible rfl
                simp only [Act.put, List.setIfInBounds_toArray, List.set_cons_zero, List.set_cons_succ]
                refine wpAnyH_ready (rs := [14]) (by kernel_rfl) (by simp) ?_
                refine AllReadyH.cons (o := { dst := none, op := Op.store 26 (Operand.tmp 16) (Operand.tmp 97), type := 0, pos := "law.go:109", after := #[{ on := 13, ground := Ground.data }, { on := 11, ground := Ground.data }, { on := 9, ground := Ground.chain }, { on := 0, ground := Ground.phase }, { on := 1, ground := Ground.phase }, { on := 2, ground := Ground.phase }, { on := 3, ground := Ground.phase }, { on := 4, ground := Ground.phase }, { on := 5, ground := Ground.phase }, { on := 6, ground := Ground.phase }, { on := 7, ground := Ground.phase }, { on := 8, ground := Ground.phase }, { on := 9, ground := Ground.phase }, { on := 10, ground := Ground.phase }, { on := 11, ground := Ground.phase }, { on := 12, ground := Ground.textOnly Departure.lateStores }, { on := 13, ground := Ground.phase }], guard := none }) rfl (fun K hK => ?_) AllReadyH.nil
                go_simp
                refine hK.out _ _ ?_ (fun hHeld => ?_)
                · exact hx14.out
                clear hK K
                try simp only [Act.put, List.setIfInBounds_toArray, List.set_cons_zero, List.set_cons_succ]
                refine wpAnyH_take (i := 15) (oi := { dst := some 17, op := Op.assign (Operand.tmp 98), type := 49, pos := "law.go:109", after := #[{ on := 12, ground := Ground.data }, { on := 14, ground := Ground.chain }, { on := 0, ground := Ground.phase }, { on := 1, ground := Ground.phase }, { on := 2, ground := Ground.phase }, { on := 3, ground := Ground.phase }, { on := 4, ground := Ground.phase }, { on := 5, ground := Ground.phase }, { on := 6, ground := Ground.phase }, { on := 7, ground := Ground.phase }, { on := 8, ground := Ground.phase }, { on := 9, ground := Ground.phase }, { on := 10, ground := Ground.phase }, { on := 11, ground := Ground.phase }, { on := 12, ground := Ground.phase }, { on := 13, ground := Ground.phase }, { on := 14, ground := Ground.phase }], guard := none }) (v := ?_) rfl (by kernel_rfl) (by kernel_rfl) (by kernel_rfl) (fun _ _ _ h => h) (Or.inl ⟨by rfl, ?_⟩) (by assumption) ?_
                rotate_left
                · intro w hSw; (try dsimp only at hSw); go_simp <;> with_reducible rfl
                simp only [Act.put, List.setIfInBounds_toArray, List.set_cons_zero, List.set_cons_succ]
                refine wpAnyH_done (by kernel_rfl) ?_ _
                skip
                go_wp2
                go_meet
                exact ⟨_, oa, ca, ob, cb, oc, cc, rfl, hYz⟩
              refine AllReadyH.cons (o := { dst := some 16, op := Op.alloc 26, type := 0, pos := "law.go:109", after := #[], guard := none }) rfl (fun K hK => ?_) AllReadyH.nil
              go_simp
              have hZ13 := hide' (KBx.out _ _ hZ3.out); have hr3b := hide' (hr3.out.below ((Below.refl _ v3).alloc (Nat.le_refl _) (.cells #[.int .i64 0, .slice none 0 0, .slice none 0 0, .slice none 0 0] 26)) (Nat.le_refl _)); (try dsimp only)
              refine hK.out _ _ ?_ (fun hHeld => ?_)
              · exact hQc.out _ _ _ hZ13.out
              clear hK K
              try simp only [Act.put, List.setIfInBounds_toArray, List.set_cons_zero, List.set_cons_succ]
              refine wpAnyH_ready (rs := [4]) (by kernel_rfl) (by simp) ?_
              refine AllReadyH.cons (o := { dst := some 91, op := Op.call { callee := Callee.value (Operand.func 9), args := #[Operand.tmp 88, Operand.tmp 90], argTypes := #[37, 23] }, type := 23, pos := "law.go:109", after := #[{ on := 1, ground := Ground.data }, { on := 3, ground := Ground.data }, { on := 3, ground := Ground.chain }], guard := none }) rfl (fun K hK => ?_) AllReadyH.nil
              go_simp
              go_at_call 9; refine (KI1.out _ _ _ hZ13.out hr3b.out).mono ?_; rintro e v4 ⟨g4, c4, rfl, hZ4⟩; (try dsimp only)
              refine hK.out _ _ ?_ (fun hHeld => ?_)
              · exact hQc.out _ _ _ hZ4.out
              clear hK K
              try simp only [Act.put, List.setIfInBounds_toArray, List.set_cons_zero, List.set_cons_succ]
              refine wpAnyH_ready (rs := [7]) (by kernel_rfl) (by simp) ?_
              refine AllReadyH.cons (o := { dst := some 94, op := Op.call { callee := Callee.value (Operand.func 22), args := #[Operand.tmp 93], argTypes := #[23] }, type := 23, pos := "law.go:109", after := #[{ on := 6, ground := Ground.data }, { on := 4, ground := Ground.chain }], guard := none }) rfl (fun K hK => ?_) AllReadyH.nil
              go_simp
              go_at_call 22; refine (KLs.out _ _ _ hZ4.out).mono ?_; rintro e v7 ⟨r7, rfl, hr7, hZ7⟩; (try dsimp only)
              refine hK.out _ _ ?_ (fun hHeld => ?_)
              · exact hQc.out _ _ _ hZ7.out
              clear hK K
              try simp only [Act.put, List.setIfInBounds_toArray, List.set_cons_zero, List.set_cons_succ]
              refine wpAnyH_ready (rs := [8]) (by kernel_rfl) (by simp) ?_
              refine AllReadyH.cons (o := { dst := some 95, op := Op.call { callee := Callee.value (Operand.func 9), args := #[Operand.tmp 92, Operand.tmp 94], argTypes := #[37, 23] }, type := 23, pos := "law.go:109", after := #[{ on := 5, ground := Ground.data }, { on := 7, ground := Ground.data }, { on := 7, ground := Ground.chain }], guard := none }) rfl (fun K hK => ?_) AllReadyH.nil
              go_simp
              go_at_call 9; refine (KI2.out _ _ _ _ hZ7.out hr7.out).mono ?_; rintro e v8 ⟨g8, c8, rfl, hZ8⟩; (try dsimp only)
              refine hK.out _ _ ?_ (fun hHeld => ?_)
              · exact hQc.out _ _ _ hZ8.out
              clear hK K
              try simp only [Act.put, List.setIfInBounds_toArray, List.set_cons_zero, List.set_cons_succ]
              refine wpAnyH_ready (rs := [9]) (by kernel_rfl) (by simp) ?_
              refine AllReadyH.cons (o := { dst := some 96, op := Op.call { callee := Callee.value (Operand.func 21), args := #[Operand.tmp 87, Operand.tmp 91, Operand.tmp 95], argTypes := #[26, 23, 23] }, type := 53, pos := "law.go:109", after := #[{ on := 0, ground := Ground.data }, { on := 4, ground := Ground.data }, { on := 8, ground := Ground.data }, { on := 8, ground := Ground.chain }], guard := none }) rfl (fun K hK => ?_) AllReadyH.nil
              go_simp
              go_at_call 21; refine (KWo.out _ _ _ _ hZ8.out).mono ?_; rintro e v9 ⟨oa, ca, ob, cb, oc, cc, nn, rfl, hx9, hy9, hYz9⟩; obtain ⟨hq, hYz⟩ := hy9.out _ rfl; have f0 := hq.out.frz 0; have t0 := hq.out.c0; have f1 := (hq.out.s0C X.users).frz 1; have t1 := (hq.out.s0C X.users).c1; have f2 := ((hq.out.s0C X.users).s1 (.slice oa X.who.length ca)).frz 2; have t2 := ((hq.out.s0C X.users).s1 (.slice oa X.who.length ca)).c2; have f3 := (((hq.out.s0C X.users).s1 (.slice oa X.who.length ca)).s2 (.slice ob X.fixed.length cb)).frz 3; have t3 := (((hq.out.s0C X.users).s1 (.slice oa X.who.length ca)).s2 (.slice ob X.fixed.length cb)).c3; have hx14 := hide' (hYc.out _ _ _ _ _ _ hYz.out); clear hq hYz9 hy9; (try dsimp only)
              refine hK.out _ _ ?_ (fun hHeld => ?_)
              · exact ⟨hx9.out.c0, hx9.out.c1, hx9.out.c2, hx9.out.c3⟩
              clear hK K
              try simp only [Act.put, List.setIfInBounds_toArray, List.set_cons_zero, List.set_cons_succ]
              refine wpAnyH_take (i := 10) (oi := { dst := some 86, op := Op.move (Operand.tmp 96), type := 53, pos := "law.go:109", after := #[{ on := 9, ground := Ground.data }], guard := none }) (v := ?_) rfl (by kernel_rfl) (by kernel_rfl) (by kernel_rfl) (fun _ _ _ h => h) (Or.inl ⟨by rfl, ?_⟩) (by assumption) ?_
              rotate_left
              · intro w hSw; (try dsimp only at hSw); go_simp <;> with_reducible rfl
              simp only [Act.put, List.setIfInBounds_toArray, List.set_cons_zero, List.set_cons_succ]
              refine wpAnyH_take (i := 11) (oi := { dst := some 97, op := Op.extract (Operand.tmp 86) 0, type := 26, pos := "law.go:109", after := #[{ on := 10, ground := Ground.data }], guard := none }) (v := ?_) rfl (by kernel_rfl) (by kernel_rfl) (by kernel_rfl) (fun _ _ _ h => h) (Or.inl ⟨by rfl, ?_⟩) (by assumption) ?_
              rotate_left
              · intro w hSw; (try dsimp only at hSw); go_simp <;> with_reducible rfl
              simp only [Act.put, List.setIfInBounds_toArray, List.set_cons_zero, List.set_cons_succ]
              refine wpAnyH_take (i := 12) (oi := { dst := some 98, op := Op.extract (Operand.tmp 86) 1, type := 49, pos := "law.go:109", after := #[{ on := 10, ground := Ground.data }, { on := 14, ground := Ground.gcOnly Departure.lateStores }], guard := none }) (v := ?_) rfl (by kernel_rfl) (by kernel_rfl) (by kernel_rfl) (fun _ _ _ h => h) (Or.inl ⟨by rfl, ?_⟩) (by assumption) ?_
              rotate_left
              · intro w hSw; (try dsimp only at hSw); go_simp <;> with_reducible rfl
              simp only [Act.put, List.setIfInBounds_toArray, List.set_cons_zero, List.set_cons_succ]
              refine wpAnyH_ready (rs := [14]) (by kernel_rfl) (by simp) ?_
              refine AllReadyH.cons (o := { dst := none, op := Op.store 26 (Operand.tmp 16) (Operand.tmp 97), type := 0, pos := "law.go:109", after := #[{ on := 13, ground := Ground.data }, { on := 11, ground := Ground.data }, { on := 9, ground := Ground.chain }, { on := 0, ground := Ground.phase }, { on := 1, ground := Ground.phase }, { on := 2, ground := Ground.phase }, { on := 3, ground := Ground.phase }, { on := 4, ground := Ground.phase }, { on := 5, ground := Ground.phase }, { on := 6, ground := Ground.phase }, { on := 7, ground := Ground.phase }, { on := 8, ground := Ground.phase }, { on := 9, ground := Ground.phase }, { on := 10, ground := Ground.phase }, { on := 11, ground := Ground.phase }, { on := 12, ground := Ground.textOnly Departure.lateStores }, { on := 13, ground := Ground.phase }], guard := none }) rfl (fun K hK => ?_) AllReadyH.nil
              go_simp
              refine hK.out _ _ ?_ (fun hHeld => ?_)
              · exact hx14.out
              clear hK K
              try simp only [Act.put, List.setIfInBounds_toArray, List.set_cons_zero, List.set_cons_succ]
              refine wpAnyH_take (i := 15) (oi := { dst := some 17, op := Op.assign (Operand.tmp 98), type := 49, pos := "law.go:109", after := #[{ on := 12, ground := Ground.data }, { on := 14, ground := Ground.chain }, { on := 0, ground := Ground.phase }, { on := 1, ground := Ground.phase }, { on := 2, ground := Ground.phase }, { on := 3, ground := Ground.phase }, { on := 4, ground := Ground.phase }, { on := 5, ground := Ground.phase }, { on := 6, ground := Ground.phase }, { on := 7, ground := Ground.phase }, { on := 8, ground := Ground.phase }, { on := 9, ground := Ground.phase }, { on := 10, ground := Ground.phase }, { on := 11, ground := Ground.phase }, { on := 12, ground := Ground.phase }, { on := 13, ground := Ground.phase }, { on := 14, ground := Ground.phase }], guard := none }) (v := ?_) rfl (by kernel_rfl) (by kernel_rfl) (by kernel_rfl) (fun _ _ _ h => h) (Or.inl ⟨by rfl, ?_⟩) (by assumption) ?_
              rotate_left
              · intro w hSw; (try dsimp only at hSw); go_simp <;> with_reducible rfl
              simp only [Act.put, List.setIfInBounds_toArray, List.set_cons_zero, List.set_cons_succ]
              refine wpAnyH_done (by kernel_rfl) ?_ _
              skip
              go_wp2
              go_meet
              exact ⟨_, oa, ca, ob, cb, oc, cc, rfl, hYz⟩
            refine AllReadyH.cons (o := { dst := some 16, op := Op.alloc 26, type := 0, pos := "law.go:109", after := #[], guard := none }) rfl (fun K hK => ?_) AllReadyH.nil
            go_simp
            have hZ13 := hide' (KBx.out _ _ hZ0.out); rw [show w3.drew.heap.size = w3.heap.size from rfl] at hZ13; (try dsimp only)
            refine hK.out _ _ ?_ (fun hHeld => ?_)
            · exact hQc.out _ _ _ hZ13.out
            clear hK K
            try simp only [Act.put, List.setIfInBounds_toArray, List.set_cons_zero, List.set_cons_succ]
            refine wpAnyH_ready (rs := [3]) (by kernel_rfl) (by simp) ?_
            refine AllReadyH.cons (o := { dst := some 90, op := Op.call { callee := Callee.value (Operand.func 22), args := #[Operand.tmp 89], argTypes := #[23] }, type := 23, pos := "law.go:109", after := #[{ on := 2, ground := Ground.data }], guard := none }) rfl (fun K hK => ?_) AllReadyH.nil
            go_simp
            go_at_call 22; refine (KLr.out _ _ _ hZ13.out).mono ?_; rintro e v3 ⟨r3, rfl, hr3, hZ3⟩; (try dsimp only)
            refine hK.out _ _ ?_ (fun hHeld => ?_)
            · exact hQc.out _ _ _ hZ3.out
            clear hK K
            try simp only [Act.put, List.setIfInBounds_toArray, List.set_cons_zero, List.set_cons_succ]
            refine wpAnyH_ready (rs := [4]) (by kernel_rfl) (by simp) ?_
            refine AllReadyH.cons (o := { dst := some 91, op := Op.call { callee := Callee.value (Operand.func 9), args := #[Operand.tmp 88, Operand.tmp 90], argTypes := #[37, 23] }, type := 23, pos := "law.go:109", after := #[{ on := 1, ground := Ground.data }, { on := 3, ground := Ground.data }, { on := 3, ground := Ground.chain }], guard := none }) rfl (fun K hK => ?_) AllReadyH.nil
            go_simp
            go_at_call 9; refine (KI1.out _ _ _ hZ3.out hr3.out).mono ?_; rintro e v4 ⟨g4, c4, rfl, hZ4⟩; (try dsimp only)
            refine hK.out _ _ ?_ (fun hHeld => ?_)
            · exact hQc.out _ _ _ hZ4.out
            clear hK K
            try simp only [Act.put, List.setIfInBounds_toArray, List.set_cons_zero, List.set_cons_succ]
            refine wpAnyH_ready (rs := [7]) (by kernel_rfl) (by simp) ?_
            refine AllReadyH.cons (o := { dst := some 94, op := Op.call { callee := Callee.value (Operand.func 22), args := #[Operand.tmp 93], argTypes := #[23] }, type := 23, pos := "law.go:109", after := #[{ on := 6, ground := Ground.data }, { on := 4, ground := Ground.chain }], guard := none }) rfl (fun K hK => ?_) AllReadyH.nil
            go_simp
            go_at_call 22; refine (KLs.out _ _ _ hZ4.out).mono ?_; rintro e v7 ⟨r7, rfl, hr7, hZ7⟩; (try dsimp only)
            refine hK.out _ _ ?_ (fun hHeld => ?_)
            · exact hQc.out _ _ _ hZ7.out
            clear hK K
            try simp only [Act.put, List.setIfInBounds_toArray, List.set_cons_zero, List.set_cons_succ]
            refine wpAnyH_ready (rs := [8]) (by kernel_rfl) (by simp) ?_
            refine AllReadyH.cons (o := { dst := some 95, op := Op.call { callee := Callee.value (Operand.func 9), args := #[Operand.tmp 92, Operand.tmp 94], argTypes := #[37, 23] }, type := 23, pos := "law.go:109", after := #[{ on := 5, ground := Ground.data }, { on := 7, ground := Ground.data }, { on := 7, ground := Ground.chain }], guard := none }) rfl (fun K hK => ?_) AllReadyH.nil
            go_simp
            go_at_call 9; refine (KI2.out _ _ _ _ hZ7.out hr7.out).mono ?_; rintro e v8 ⟨g8, c8, rfl, hZ8⟩; (try dsimp only)
            refine hK.out _ _ ?_ (fun hHeld => ?_)
            · exact hQc.out _ _ _ hZ8.out
            clear hK K
            try simp only [Act.put, List.setIfInBounds_toArray, List.set_cons_zero, List.set_cons_succ]
            refine wpAnyH_ready (rs := [9]) (by kernel_rfl) (by simp) ?_
            refine AllReadyH.cons (o := { dst := some 96, op := Op.call { callee := Callee.value (Operand.func 21), args := #[Operand.tmp 87, Operand.tmp 91, Operand.tmp 95], argTypes := #[26, 23, 23] }, type := 53, pos := "law.go:109", after := #[{ on := 0, ground := Ground.data }, { on := 4, ground := Ground.data }, { on := 8, ground := Ground.data }, { on := 8, ground := Ground.chain }], guard := none }) rfl (fun K hK => ?_) AllReadyH.nil
            go_simp
            go_at_call 21; refine (KWo.out _ _ _ _ hZ8.out).mono ?_; rintro e v9 ⟨oa, ca, ob, cb, oc, cc, nn, rfl, hx9, hy9, hYz9⟩; obtain ⟨hq, hYz⟩ := hy9.out _ rfl; have f0 := hq.out.frz 0; have t0 := hq.out.c0; have f1 := (hq.out.s0C X.users).frz 1; have t1 := (hq.out.s0C X.users).c1; have f2 := ((hq.out.s0C X.users).s1 (.slice oa X.who.length ca)).frz 2; have t2 := ((hq.out.s0C X.users).s1 (.slice oa X.who.length ca)).c2; have f3 := (((hq.out.s0C X.users).s1 (.slice oa X.who.length ca)).s2 (.slice ob X.fixed.length cb)).frz 3; have t3 := (((hq.out.s0C X.users).s1 (.slice oa X.who.length ca)).s2 (.slice ob X.fixed.length cb)).c3; have hx14 := hide' (hYc.out _ _ _ _ _ _ hYz.out); clear hq hYz9 hy9; (try dsimp only)
            refine hK.out _ _ ?_ (fun hHeld => ?_)
            · exact ⟨hx9.out.c0, hx9.out.c1, hx9.out.c2, hx9.out.c3⟩
            clear hK K
            try simp only [Act.put, List.setIfInBounds_toArray, List.set_cons_zero, List.set_cons_succ]
            refine wpAnyH_take (i := 10) (oi := { dst := some 86, op := Op.move (Operand.tmp 96), type := 53, pos := "law.go:109", after := #[{ on := 9, ground := Ground.data }], guard := none }) (v := ?_) rfl (by kernel_rfl) (by kernel_rfl) (by kernel_rfl) (fun _ _ _ h => h) (Or.inl ⟨by rfl, ?_⟩) (by assumption) ?_
            rotate_left
            · intro w hSw; (try dsimp only at hSw); go_simp <;> with_reducible rfl
            simp only [Act.put, List.setIfInBounds_toArray, List.set_cons_zero, List.set_cons_succ]
            refine wpAnyH_take (i := 11) (oi := { dst := some 97, op := Op.extract (Operand.tmp 86) 0, type := 26, pos := "law.go:109", after := #[{ on := 10, ground := Ground.data }], guard := none }) (v := ?_) rfl (by kernel_rfl) (by kernel_rfl) (by kernel_rfl) (fun _ _ _ h => h) (Or.inl ⟨by rfl, ?_⟩) (by assumption) ?_
            rotate_left
            · intro w hSw; (try dsimp only at hSw); go_simp <;> with_reducible rfl
            simp only [Act.put, List.setIfInBounds_toArray, List.set_cons_zero, List.set_cons_succ]
            refine wpAnyH_take (i := 12) (oi := { dst := some 98, op := Op.extract (Operand.tmp 86) 1, type := 49, pos := "law.go:109", after := #[{ on := 10, ground := Ground.data }, { on := 14, ground := Ground.gcOnly Departure.lateStores }], guard := none }) (v := ?_) rfl (by kernel_rfl) (by kernel_rfl) (by kernel_rfl) (fun _ _ _ h => h) (Or.inl ⟨by rfl, ?_⟩) (by assumption) ?_
            rotate_left
            · intro w hSw; (try dsimp only at hSw); go_simp <;> with_reducible rfl
            simp only [Act.put, List.setIfInBounds_toArray, List.set_cons_zero, List.set_cons_succ]
            refine wpAnyH_ready (rs := [14]) (by kernel_rfl) (by simp) ?_
            refine AllReadyH.cons (o := { dst := none, op := Op.store 26 (Operand.tmp 16) (Operand.tmp 97), type := 0, pos := "law.go:109", after := #[{ on := 13, ground := Ground.data }, { on := 11, ground := Ground.data }, { on := 9, ground := Ground.chain }, { on := 0, ground := Ground.phase }, { on := 1, ground := Ground.phase }, { on := 2, ground := Ground.phase }, { on := 3, ground := Ground.phase }, { on := 4, ground := Ground.phase }, { on := 5, ground := Ground.phase }, { on := 6, ground := Ground.phase }, { on := 7, ground := Ground.phase }, { on := 8, ground := Ground.phase }, { on := 9, ground := Ground.phase }, { on := 10, ground := Ground.phase }, { on := 11, ground := Ground.phase }, { on := 12, ground := Ground.textOnly Departure.lateStores }, { on := 13, ground := Ground.phase }], guard := none }) rfl (fun K hK => ?_) AllReadyH.nil
            go_simp
            refine hK.out _ _ ?_ (fun hHeld => ?_)
            · exact hx14.out
            clear hK K
            try simp only [Act.put, List.setIfInBounds_toArray, List.set_cons_zero, List.set_cons_succ]
            refine wpAnyH_take (i := 15) (oi := { dst := some 17, op := Op.assign (Operand.tmp 98), type := 49, pos := "law.go:109", after := #[{ on := 12, ground := Ground.data }, { on := 14, ground := Ground.chain }, { on := 0, ground := Ground.phase }, { on := 1, ground := Ground.phase }, { on := 2, ground := Ground.phase }, { on := 3, ground := Ground.phase }, { on := 4, ground := Ground.phase }, { on := 5, ground := Ground.phase }, { on := 6, ground := Ground.phase }, { on := 7, ground := Ground.phase }, { on := 8, ground := Ground.phase }, { on := 9, ground := Ground.phase }, { on := 10, ground := Ground.phase }, { on := 11, ground := Ground.phase }, { on := 12, ground := Ground.phase }, { on := 13, ground := Ground.phase }, { on := 14, ground := Ground.phase }], guard := none }) (v := ?_) rfl (by kernel_rfl) (by kernel_rfl) (by kernel_rfl) (fun _ _ _ h => h) (Or.inl ⟨by rfl, ?_⟩) (by assumption) ?_
            rotate_left
            · intro w hSw; (try dsimp only at hSw); go_simp <;> with_reducible rfl
            simp only [Act.put, List.setIfInBounds_toArray, List.set_cons_zero, List.set_cons_succ]
            refine wpAnyH_done (by kernel_rfl) ?_ _
            skip
            go_wp2
            go_meet
            exact ⟨_, oa, ca, ob, cb, oc, cc, rfl, hYz⟩
          case rest =>
            clear hX3
            obtain ⟨gy, oa, ca, ob, cb, oc, cc, rfl, hY⟩ := hcut
            have hYok := hide' (spR_ok hk.out (Lr.take 30) (Ls.take 30))
            generalize wtP Q (Lr.take 30) (Ls.take 30) = Y at *
            obtain ⟨B2, E, hE, hDv, KY⟩ := yStart 77 hY.out hYok.out.1
            have KY := hide' KY
            have hDv := hide' hDv
            have hEl : Hid (E.length ≤ 1000 ∧ (∀ q ∈ E, q.1.steps.length ≤ 1000) ∧ Y.who.length ≤ 1000) := ⟨by have := hYok.out.2.2.1; rw [← hE, List.length_map] at this; exact this, fun q hq => hYok.out.2.2.2 q.1 (by rw [← hE]; exact List.mem_map_of_mem hq), hYok.out.2.1⟩
            have z2 := hY.out.qy.c2
            have hEr : E.length = Y.rules.length := by rw [← hE, List.length_map]
            clear hYok hE hY
            generalize Y.rules.length = nr at *
            subst hEr
            go_wp2_with fail
            refine KY.out.mono ?_
            rintro e w10 ⟨rfl, hK, hx8, hy8⟩
            clear KY z2
            generalize Y.fixed = Yf at *
            generalize Y.who = Yw at *
            generalize Y.users = Yu at *
            clear Y
            have hE1 : E.length ≤ 1000 := hEl.out.1
            have hY1 : Yw.length ≤ 1000 := hEl.out.2.2
            go_wp2
            go_loopw [18] (fun kv wr => ∃ (k : Nat) (xs : List Value), k ≤ Yw.length ∧ kv = .int .i64 (k : Int) ∧ Hid (Yk 77 V0 (Rc V0) B p (200 * j + 50 + 1 + 1) vw vf vz Q.who Q.fixed PP gx gy B2 Yw.length (.slice oa Yw.length ca) (.slice oc E.length cc) xs E 0 wr) ∧ Hid (QAt wr gx Q.users vw vf vz) ∧ Hid (QAt wr gy Yu (.slice oa Yw.length ca) (.slice ob Yf.length cb) (.slice oc E.length cc))) (fun kv _ => ((Yw.length : Int) - intOf kv).toNat)
            case atStart => exact ⟨0, _, Nat.zero_le _, rfl, hK, hx8, hy8⟩
            case round =>
              clear hK hx8 hy8
              obtain ⟨k, xs, hk2, rfl, hK, hx, hy⟩ := hrel
              have z3 := hy.out.c1
              by_cases hlt4 : k < Yw.length
              · have hlt4' : (k : Int) < (Yw.length : Int) := by omega
                have hk0 : ¬ (k : Int) < 0 := by omega
                obtain ⟨gz, c4, xo, e4, z4, z5⟩ := wCell hK.out hlt4
                injection e4 with e4 _ e5
                subst e4 e5
                have hN := hide' (yWord (k := k) (x := .int .u64 3) hK.out hx.out hy.out)
                clear hK hx hy
                go_wp2
                exact ⟨⟨k + 1, _, by omega, by go_num, hN.out.1, hN.out.2.1, hN.out.2.2⟩, by simp [intOf]; omega⟩
              · obtain rfl : k = Yw.length := by omega
                go_wp2
                go_loopw [19] (fun kv wr => ∃ i : Nat, i ≤ E.length ∧ kv = .int .i64 (i : Int) ∧ Hid (Yk 77 V0 (Rc V0) B p (200 * j + 50 + 1 + 1) vw vf vz Q.who Q.fixed PP gx gy B2 Yw.length (.slice oa Yw.length ca) (.slice oc E.length cc) xs E i wr) ∧ Hid (QAt wr gx Q.users vw vf vz) ∧ Hid (QAt wr gy Yu (.slice oa Yw.length ca) (.slice ob Yf.length cb) (.slice oc E.length cc))) (fun kv _ => ((E.length : Int) - intOf kv).toNat)
                case atStart => exact ⟨0, Nat.zero_le _, rfl, hK, hx, hy⟩
                case round =>
                  clear hK hx hy z3
                  obtain ⟨i, hi, rfl, hK, hx, hy⟩ := hrel
                  have z3 := hy.out.c3
                  by_cases hlt3 : i < E.length
                  · have hlt3' : (i : Int) < (E.length : Int) := by omega
                    have hi0 : ¬ (i : Int) < 0 := by omega
                    obtain ⟨q, hq⟩ : ∃ q, E[i]? = some q := ⟨_, List.getElem?_eq_getElem hlt3⟩
                    obtain ⟨gc, c4, e4, z4⟩ := yCell hK.out hq
                    injection e4 with e4 _ e5
                    subst e4 e5
                    have KB := hide' (yBook hK.out hx.out hy.out hDv.out hq (by have := hEl.out.2.1 q (List.mem_of_getElem? hq); omega))
                    have hq' := hide' hq
                    clear hK hx hy hDv hEl hq
                    go_wp2_with fail
                    refine KB.out.mono ?_
                    rintro e w11 ⟨rfl, hZ9, hr9⟩
                    obtain ⟨r1, r2, r3, r4, r5⟩ := hr9.out
                    have z5 := r5.c3
                    obtain ⟨z6, z7⟩ := yFrz r2 hq'.out
                    have hN := hide' (yKind hZ9.out r1 r2 r3 r4 r5 hq'.out)
                    clear KB z3 z4 hZ9 hr9 r1 r2 r3 r4 r5 hq'
                    go_wp2
                    exact ⟨⟨i + 1, by omega, by go_num, hN.out.1, hN.out.2.1, hN.out.2.2⟩, by simp [intOf]; omega⟩
                  · obtain rfl : i = E.length := by omega
                    have hX9 := hide' (hK.out.x hx.out)
                    have KR := hide' (xKeepC hSc.out hX9.out hPP.out hk.out)
                    have y3 := hX9.out.q.c3
                    have z9 := hcC.out _ _ _ _ _ _ _ _ _ _ _ hX9.out.z
                    clear hK hx hy hX9
                    go_wp2_with fail
                    refine KR.out.mono ?_
                    rintro e w12 ⟨rfl, hX10⟩
                    have hfin := hide' (hX10.out.z.nil.more (show 200 * j + 50 + 1 + 1 ≤ 200 * (j + 1) by omega))
                    clear KR y3 z3 z9 hX10 hcC
                    go_wp2
                    exact ⟨⟨j + 1, by omega, by go_num, hfin⟩, by simp [intOf]; omega⟩
    · obtain rfl : j = 2 := by omega
      have KB := hide' (z2Back hZ.out (by omega))
      have KC : Hid (∀ V (tB : Nat → Nat), K.Book V B tB → Calls Tryz.prog 19 #[.pointer (some ⟨B, 0, none⟩)] V fun e w' => e = .returned (.bool true) ∧ K.Sm (· ≠ 0) tB V w') := fun V tB hk => K.bookClose B tB V hk
      have hT := hide' hSc.out.tab
      clear hZ hSc hk
      go_wp2_with fail
      refine KB.out.mono ?_
      rintro e w6 ⟨rfl, h6⟩
      obtain ⟨hR6, ⟨e1, e2, e3, e4⟩, tB, hBk, hlow⟩ := h6.out
      have KC6 := hide' (KC.out w6 tB hBk)
      have hlow' := hide' hlow
      have hen : Hid (w6.os = V0.os ∧ w6.tape = V0.tape ∧ w6.output = V0.output ∧ V0.heap.size ≤ w6.heap.size) := ⟨e1, e2, e3, e4⟩
      have hR6' := hide' hR6
      clear KB KC h6 hR6 e1 e2 e3 e4 hBk hlow
      go_wp2_with fail
      refine KC6.out.mono ?_
      rintro e w7 ⟨rfl, hs7⟩
      have hfin := hide' (Rc.fin hBV.out hR6'.out hen.out hlow'.out hs7)
      have KW := hide' (wakesCF w7 (hT.out.over hfin.out.1))
      clear KC6 hs7
      go_wp2_with fail
      refine KW.out.mono ?_
      rintro e w8 ⟨rfl, hb8⟩
      have hend : Hid (Below w.heap.size w w8) := hfin.out.2.trans (hb8.mono hfin.out.2.size)
      clear KW hfin hb8
      go_wp2
      go_ret
      exact ⟨rfl, hend.out⟩
end Go.Proofs.YtlijlelejobchaaGreatDoor.S
