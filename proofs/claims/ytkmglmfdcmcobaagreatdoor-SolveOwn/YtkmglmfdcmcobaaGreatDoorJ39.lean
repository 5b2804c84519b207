/- SolveOwn, walked. -/
import Derived.Test.YtkmglmfdcmcobaaGreatDoorJ38
import Derived.Deep.CutBlock
import Derived.Deep.CutRange
namespace Go.Proofs.YtkmglmfdcmcobaaGreatDoor.S
open Go.RowKit Go.Shelf
attribute [local irreducible] wpQuiet
set_option maxRecDepth 100000 in
set_option maxHeartbeats 8000000 in
theorem solveOwn_walk (P0 : Pb) (wv fv rv : Value) (s x : Int) (w : World) (h : PbV w P0 wv fv rv) (hb : ∀ z ∈ P0.who, z < 18446744073709551616) (ht : M.Tab w) :
    Calls Tryz.prog 3 #[pbV P0 wv fv rv, .int .i64 s, .int .i64 x] w fun e w' => e = .returned (.bool true) ∧ Below w.heap.size w w' := by
  have hB0 : Hid (Below w.heap.size w (w.alloc (.cells #[.int .i64 P0.users, wv, fv, rv] 26))) := (Below.refl _ w).alloc (Nat.le_refl _) _
  have K0 := hide' (cutC P0 wv fv rv _ (h.below hB0.out))
  have hk := hide' (cutP_ok hb)
  have ht' := hide' ht
  have hGw := ht.2
  have hQl : Hid ((cutP P0).who.length ≤ 20 ∧ (cutP P0).rules.length ≤ 40) := by
    refine ⟨?_, ?_⟩
    · show (P0.who.take 20).length ≤ 20; rw [List.length_take]; omega
    · show ((P0.rules.take 40).map cutR).length ≤ 40; rw [List.length_map, List.length_take]; omega
  clear h ht hb
  unfold pbV at K0 ⊢
  generalize cutP P0 = Q at *
  go_enter Tryz.func3, Tryz.ntmps3
  go_wp2_with fail
  refine K0.out.mono ?_
  rintro e w1 ⟨qw, qf, qr, rfl, hq1, hb1, ho1⟩
  have hB1 : Hid (Below w.heap.size w w1) := hB0.out.trans (hb1.out.mono hB0.out.size)
  obtain ⟨ow, cw, of, cf, or, cr, rfl, rfl, rfl⟩ := hq1.out.shape
  clear hb1 hB0 K0
  go_wp2_with fail
  refine (newF _).mono ?_
  rintro e w3 ⟨rfl, hg3, hb3⟩
  have hbA : Hid (Below w1.heap.size w1 (w1.alloc (.cells #[.int .i64 Q.users, .slice ow Q.who.length cw, .slice of Q.fixed.length cf, .slice or Q.rules.length cr] 26))) := (Below.refl _ w1).alloc (Nat.le_refl _) _
  have hpA : Hid (PbB (w1.alloc (.cells #[.int .i64 Q.users, .slice ow Q.who.length cw, .slice of Q.fixed.length cf, .slice or Q.rules.length cr] 26)) w1.heap.size Q (.slice ow Q.who.length cw) (.slice of Q.fixed.length cf) (.slice or Q.rules.length cr)) := heap_new w1 _
  have hz : Hid ((w1.alloc (.cells #[.int .i64 Q.users, .slice ow Q.who.length cw, .slice of Q.fixed.length cf, .slice or Q.rules.length cr] 26)).heap.size = w1.heap.size + 1) := by show _ = _; simp
  have hBA := hide' (hB1.out.trans (hbA.out.mono hB1.out.size))
  have hB3 := hide' (hBA.out.trans (hb3.out.mono hBA.out.size))
  have hS3 : Hid (Sb w3 Q (.slice ow Q.who.length cw) (.slice of Q.fixed.length cf) (.slice or Q.rules.length cr) w1.heap.size (w1.alloc (.cells #[.int .i64 Q.users, .slice ow Q.who.length cw, .slice of Q.fixed.length cf, .slice or Q.rules.length cr] 26)).heap.size) := ⟨hpA.out.below hb3.out, (hq1.out.below hbA.out).below hb3.out, ht'.out.over hB3.out, hg3.out, fun ad n c e => by have := (ho1.out ad n c e).2; have := hz.out; omega, by have := hz.out; omega, Nat.le_trans hGw hBA.out.size⟩
  have hgsw : Hid (w.heap.size ≤ (w1.alloc (.cells #[.int .i64 Q.users, .slice ow Q.who.length cw, .slice of Q.fixed.length cf, .slice or Q.rules.length cr] 26)).heap.size) := hBA.out.size
  clear hq1 ho1 hbA hpA hz hBA hg3 hb3 hB1
  generalize (w1.alloc (.cells #[.int .i64 Q.users, .slice ow Q.who.length cw, .slice of Q.fixed.length cf, .slice or Q.rules.length cr] 26)).heap.size = gs at *
  generalize w1.heap.size = g at *
  clear w1
  have K7 := hide' (wakesF w3 hS3.out.tab)
  go_wp2_with fail
  refine K7.out.mono ?_
  rintro e V0 ⟨rfl, hb4⟩
  have hSb : Hid (Sb V0 Q (.slice ow Q.who.length cw) (.slice of Q.fixed.length cf) (.slice or Q.rules.length cr) g gs) := ⟨hS3.out.pb.below hb4, hS3.out.pv.below hb4, hS3.out.tab.over hb4, hS3.out.gg.below hb4, hS3.out.hne, hS3.out.hgp, hS3.out.hG⟩
  have hBV : Hid (Below w.heap.size w V0) := hB3.out.trans (hb4.mono hB3.out.size)
  have hZ0 := hide' (Z2.start V0 (Rs V0 gs 0 0 0) ⟨fun _ _ _ => rfl, hSb.out.gg⟩ (Rs.cl hSb.out.gl))
  clear K7 hS3 hB3 hb4 ht' hGw
  go_upto_block 0 with fail
  generalize (V0.alloc (.cells #[.slice none 0 0, .slice none 0 0, .slice none 0 0, .slice none 0 0, .slice none 0 0, .slice none 0 0, .slice none 0 0, .slice none 0 0, .slice none 0 0, .slice none 0 0, .slice none 0 0, .slice none 0 0, .int .i64 0] 36)).alloc (.cells #[.slice none 0 0, .slice none 0 0, .slice none 0 0, .slice none 0 0] 40) = w5 at *
  generalize hp : V0.heap.size + 1 = p at *
  generalize hB : V0.heap.size = B at *
  have hBle : Hid (Below w.heap.size w V0 ∧ V0.heap.size = B) := ⟨hBV.out, hB⟩
  clear hBV hp hB
  have hl0 : Hid ((0 : Nat) ≤ 8000000000000 * 0 ∧ (0 : Nat) ≤ 8000000000000 * 0 ∧ (0 : Nat) ≤ 8000000000000 * 0) := ⟨by omega, by omega, by omega⟩
  go_wp2
  go_loopw [11, 12, 13, 14, 15, 16, 17, 18, 19] (fun kv _ _ _ _ _ _ _ _ wr => ∃ j a b c : Nat, j ≤ 2 ∧ kv = .int .i64 (j : Int) ∧ Hid (Z2 V0 (Rs V0 gs a b c) B p (200 * j) (.slice none 0 0) (.slice none 0 0) (.slice none 0 0) [] [] [] [] [] (fun _ => False) wr) ∧ Hid (a ≤ 8000000000000 * j ∧ b ≤ 8000000000000 * j ∧ c ≤ 8000000000000 * j)) (fun kv _ _ _ _ _ _ _ _ _ => ((2 : Int) - intOf kv).toNat)
  case atStart => exact ⟨0, 0, 0, 0, by omega, rfl, hZ0, hl0⟩
  case round =>
    clear hZ0 hl0
    obtain ⟨j, a0, b0, c0, hj, rfl, hZ, hle⟩ := hrel
    by_cases hlt : j < 2
    · have hlt' : (j : Int) < 2 := by omega
      go_upto_region 10 with fail
      go_cut [12] from 37 to 47 (fun xv wx => ∃ (gx gw cw2 gf cf2 : Nat), xv = .pointer (some ⟨gx, 0, none⟩) ∧ Hid (Zx V0 (Rs V0 gs a0 b0 c0) B p (200 * j + 2) (.slice (some ⟨gw, 0, none⟩) Q.who.length cw2) (.slice (some ⟨gf, 0, none⟩) Q.fixed.length cf2) (.slice none 0 0) Q.who Q.fixed [] [] [] gx Q.users (.slice (some ⟨gw, 0, none⟩) Q.who.length cw2) (.slice (some ⟨gf, 0, none⟩) Q.fixed.length cf2) (.slice none 0 0) wx))
      case first =>
        as_aux_lemma =>
        have hQc : Hid (∀ (mm : Nat) (xw xf xr : Value) (Lw : List Nat) (Lf : List Int) (PP : List (Rl × Value)) (E H : List (Value × List Int)) (F : Nat → Prop) (V : World), Z2 V0 (Rs V0 gs a0 b0 c0) B p mm xw xf xr Lw Lf PP E H F V → V.cell? ⟨g, 0, none⟩ = some (.int .i64 Q.users) ∧ V.cell? ⟨g, 1, none⟩ = some (.slice ow Q.who.length cw) ∧ V.cell? ⟨g, 2, none⟩ = some (.slice of Q.fixed.length cf) ∧ V.cell? ⟨g, 3, none⟩ = some (.slice or Q.rules.length cr)) := fun mm xw xf xr Lw Lf PP E H F V hz => (hSb.out.at hz).1.all
        have hZd := hide' (hZ.out.below (Below.refl _ wr).drew)
        refine wp_region_held_drew (S := (fun V => V.cell? ⟨g, 0, none⟩ = some (.int .i64 Q.users) ∧ V.cell? ⟨g, 1, none⟩ = some (.slice ow Q.who.length cw) ∧ V.cell? ⟨g, 2, none⟩ = some (.slice of Q.fixed.length cf) ∧ V.cell? ⟨g, 3, none⟩ = some (.slice or Q.rules.length cr))) (by kernel_rfl) ?_ (fun hHeld => ?_)
        · exact hQc.out _ _ _ _ _ _ _ _ _ _ _ hZd.out
        refine wpAnyH_take (i := 0) (oi := { dst := some 37, op := Op.fieldAddr 26 (Operand.tmp 7) 0, type := 0, pos := "law.go:290", after := #[], guard := none }) (v := ?_) rfl (by kernel_rfl) (by kernel_rfl) (by kernel_rfl) (fun _ _ _ h => h) (Or.inl ⟨by rfl, ?_⟩) (by assumption) ?_
        rotate_left
        · intro w hSw; (try dsimp only at hSw); go_simp <;> with_reducible rfl
        simp only [Act.put, List.setIfInBounds_toArray, List.set_cons_zero, List.set_cons_succ]
        refine wpAnyH_take (i := 1) (oi := { dst := some 38, op := Op.load 3 (Operand.tmp 37), type := 3, pos := "law.go:290", after := #[{ on := 0, ground := Ground.data }], guard := none }) (v := ?_) rfl (by kernel_rfl) (by kernel_rfl) (by kernel_rfl) (fun _ _ _ h => h) (Or.inl ⟨by rfl, ?_⟩) (by assumption) ?_
        rotate_left
        · intro w hSw; (try dsimp only at hSw); go_simp <;> with_reducible rfl
        simp only [Act.put, List.setIfInBounds_toArray, List.set_cons_zero, List.set_cons_succ]
        refine wpAnyH_take (i := 2) (oi := { dst := some 39, op := Op.move (Operand.tmp 10), type := 37, pos := "law.go:290", after := #[], guard := none }) (v := ?_) rfl (by kernel_rfl) (by kernel_rfl) (by kernel_rfl) (fun _ _ _ h => h) (Or.inl ⟨by rfl, ?_⟩) (by assumption) ?_
        rotate_left
        · intro w hSw; (try dsimp only at hSw); go_simp <;> with_reducible rfl
        simp only [Act.put, List.setIfInBounds_toArray, List.set_cons_zero, List.set_cons_succ]
        refine wpAnyH_take (i := 3) (oi := { dst := some 40, op := Op.fieldAddr 26 (Operand.tmp 7) 1, type := 0, pos := "law.go:290", after := #[], guard := none }) (v := ?_) rfl (by kernel_rfl) (by kernel_rfl) (by kernel_rfl) (fun _ _ _ h => h) (Or.inl ⟨by rfl, ?_⟩) (by assumption) ?_
        rotate_left
        · intro w hSw; (try dsimp only at hSw); go_simp <;> with_reducible rfl
        simp only [Act.put, List.setIfInBounds_toArray, List.set_cons_zero, List.set_cons_succ]
        refine wpAnyH_take (i := 4) (oi := { dst := some 41, op := Op.load 22 (Operand.tmp 40), type := 22, pos := "law.go:290", after := #[{ on := 3, ground := Ground.data }], guard := none }) (v := ?_) rfl (by kernel_rfl) (by kernel_rfl) (by kernel_rfl) (fun _ _ _ h => h) (Or.inl ⟨by rfl, ?_⟩) (by assumption) ?_
        rotate_left
        · intro w hSw; (try dsimp only at hSw); go_simp <;> with_reducible rfl
        simp only [Act.put, List.setIfInBounds_toArray, List.set_cons_zero, List.set_cons_succ]
        refine wpAnyH_take (i := 6) (oi := { dst := some 43, op := Op.move (Operand.tmp 10), type := 37, pos := "law.go:290", after := #[], guard := none }) (v := ?_) rfl (by kernel_rfl) (by kernel_rfl) (by kernel_rfl) (fun _ _ _ h => h) (Or.inl ⟨by rfl, ?_⟩) (by assumption) ?_
        rotate_left
        · intro w hSw; (try dsimp only at hSw); go_simp <;> with_reducible rfl
        simp only [Act.put, List.setIfInBounds_toArray, List.set_cons_zero, List.set_cons_succ]
        refine wpAnyH_take (i := 7) (oi := { dst := some 44, op := Op.fieldAddr 26 (Operand.tmp 7) 2, type := 0, pos := "law.go:290", after := #[], guard := none }) (v := ?_) rfl (by kernel_rfl) (by kernel_rfl) (by kernel_rfl) (fun _ _ _ h => h) (Or.inl ⟨by rfl, ?_⟩) (by assumption) ?_
        rotate_left
        · intro w hSw; (try dsimp only at hSw); go_simp <;> with_reducible rfl
        simp only [Act.put, List.setIfInBounds_toArray, List.set_cons_zero, List.set_cons_succ]
        refine wpAnyH_take (i := 8) (oi := { dst := some 45, op := Op.load 23 (Operand.tmp 44), type := 23, pos := "law.go:290", after := #[{ on := 7, ground := Ground.data }], guard := none }) (v := ?_) rfl (by kernel_rfl) (by kernel_rfl) (by kernel_rfl) (fun _ _ _ h => h) (Or.inl ⟨by rfl, ?_⟩) (by assumption) ?_
        rotate_left
        · intro w hSw; (try dsimp only at hSw); go_simp <;> with_reducible rfl
        simp only [Act.put, List.setIfInBounds_toArray, List.set_cons_zero, List.set_cons_succ]
        refine wpAnyH_ready (rs := [5, 11]) (by kernel_rfl) (by simp) ?_
        refine AllReadyH.cons (o := { dst := some 42, op := Op.call { callee := Callee.value (Operand.func 8), args := #[Operand.tmp 39, Operand.tmp 41], argTypes := #[37, 22] }, type := 22, pos := "law.go:290", after := #[{ on := 2, ground := Ground.data }, { on := 4, ground := Ground.data }], guard := none }) rfl (fun K hK => ?_) ?_
        · skip
          go_simp
          go_at_call 8; refine (z2Rows hZd.out (by omega) _ Q.who (hSb.out.at hZd.out).2.1.who (by have := hk.out.w; omega)).mono ?_; rintro e v5 ⟨g5, c5, rfl, hZ5, _⟩; (try dsimp only)
          refine hK.out _ _ ?_ (fun hHeld => ?_)
          · exact hQc.out _ _ _ _ _ _ _ _ _ _ _ hZ5.out
          clear hK K
          try simp only [Act.put, List.setIfInBounds_toArray, List.set_cons_zero, List.set_cons_succ]
          refine wpAnyH_ready (rs := [9, 11]) (by kernel_rfl) (by simp) ?_
          refine AllReadyH.cons (o := { dst := some 46, op := Op.call { callee := Callee.value (Operand.func 9), args := #[Operand.tmp 43, Operand.tmp 45], argTypes := #[37, 23] }, type := 23, pos := "law.go:290", after := #[{ on := 6, ground := Ground.data }, { on := 8, ground := Ground.data }, { on := 5, ground := Ground.chain }], guard := none }) rfl (fun K hK => ?_) ?_
          · skip
            go_simp
            go_at_call 9; refine (z2Ints hZ5.out (by omega) _ Q.fixed (hSb.out.at hZ5.out).2.1.fixed (by have := hk.out.f; omega)).mono ?_; rintro e v9 ⟨g9, c9, rfl, hZ9a, _⟩; have hZ9 := hide' hZ9a.out.setF; have hX12 := hide' (Zx.start hZ9.out Q.users (.slice (some ⟨g5, 0, none⟩) Q.who.length c5) (.slice (some ⟨g9, 0, none⟩) Q.fixed.length c9) (.slice none 0 0)); clear hZ9a; (try dsimp only)
            refine hK.out _ _ ?_ (fun hHeld => ?_)
            · exact hQc.out _ _ _ _ _ _ _ _ _ _ _ hZ9.out
            clear hK K
            try simp only [Act.put, List.setIfInBounds_toArray, List.set_cons_zero, List.set_cons_succ]
            refine wpAnyH_take (i := 10) (oi := { dst := some 47, op := Op.build 26 #[(0, Operand.tmp 38), (1, Operand.tmp 42), (2, Operand.tmp 46)], type := 26, pos := "law.go:290", after := #[{ on := 1, ground := Ground.data }, { on := 5, ground := Ground.data }, { on := 9, ground := Ground.data }], guard := none }) (v := ?_) rfl (by kernel_rfl) (by kernel_rfl) (by kernel_rfl) (fun _ _ _ h => h) (Or.inl ⟨by rfl, ?_⟩) (by assumption) ?_
            rotate_left
            · intro w hSw; (try dsimp only at hSw); go_simp <;> with_reducible rfl
            simp only [Act.put, List.setIfInBounds_toArray, List.set_cons_zero, List.set_cons_succ]
            refine wpAnyH_ready (rs := [11]) (by kernel_rfl) (by simp) ?_
            refine AllReadyH.cons (o := { dst := some 12, op := Op.alloc 26, type := 0, pos := "law.go:290", after := #[], guard := none }) rfl (fun K hK => ?_) AllReadyH.nil
            go_simp
            have hX11 := hide' (Zx.start hZ9.out 0 (.slice none 0 0) (.slice none 0 0) (.slice none 0 0)); (try dsimp only)
            refine hK.out _ _ ?_ (fun hHeld => ?_)
            · exact hQc.out _ _ _ _ _ _ _ _ _ _ _ hX11.out.z
            clear hK K
            try simp only [Act.put, List.setIfInBounds_toArray, List.set_cons_zero, List.set_cons_succ]
            refine wpAnyH_ready (rs := [12]) (by kernel_rfl) (by simp) ?_
            refine AllReadyH.cons (o := { dst := none, op := Op.store 26 (Operand.tmp 12) (Operand.tmp 47), type := 0, pos := "law.go:290", after := #[{ on := 11, ground := Ground.data }, { on := 10, ground := Ground.data }, { on := 9, ground := Ground.chain }, { on := 0, ground := Ground.phase }, { on := 1, ground := Ground.phase }, { on := 2, ground := Ground.phase }, { on := 3, ground := Ground.phase }, { on := 4, ground := Ground.phase }, { on := 5, ground := Ground.phase }, { on := 6, ground := Ground.phase }, { on := 7, ground := Ground.phase }, { on := 8, ground := Ground.phase }, { on := 9, ground := Ground.phase }, { on := 10, ground := Ground.phase }, { on := 11, ground := Ground.phase }], guard := none }) rfl (fun K hK => ?_) AllReadyH.nil
            go_simp
            refine hK.out _ _ ?_ (fun hHeld => ?_)
            · exact hQc.out _ _ _ _ _ _ _ _ _ _ _ hX12.out.z
            clear hK K
            try simp only [Act.put, List.setIfInBounds_toArray, List.set_cons_zero, List.set_cons_succ]
            refine wpAnyH_done (by kernel_rfl) ?_ _
            skip
            go_wp2
            go_meet
            exact ⟨_, _, _, _, _, rfl, hX12⟩
          refine AllReadyH.cons (o := { dst := some 12, op := Op.alloc 26, type := 0, pos := "law.go:290", after := #[], guard := none }) rfl (fun K hK => ?_) AllReadyH.nil
          go_simp
          have hX11 := hide' (Zx.start hZ5.out 0 (.slice none 0 0) (.slice none 0 0) (.slice none 0 0)); (try dsimp only)
          refine hK.out _ _ ?_ (fun hHeld => ?_)
          · exact hQc.out _ _ _ _ _ _ _ _ _ _ _ hX11.out.z
          clear hK K
          try simp only [Act.put, List.setIfInBounds_toArray, List.set_cons_zero, List.set_cons_succ]
          refine wpAnyH_ready (rs := [9]) (by kernel_rfl) (by simp) ?_
          refine AllReadyH.cons (o := { dst := some 46, op := Op.call { callee := Callee.value (Operand.func 9), args := #[Operand.tmp 43, Operand.tmp 45], argTypes := #[37, 23] }, type := 23, pos := "law.go:290", after := #[{ on := 6, ground := Ground.data }, { on := 8, ground := Ground.data }, { on := 5, ground := Ground.chain }], guard := none }) rfl (fun K hK => ?_) AllReadyH.nil
          go_simp
          go_at_call 9; refine (zxInts hX11.out (by omega) _ Q.fixed (hSb.out.at hX11.out.z).2.1.fixed (by have := hk.out.f; omega)).mono ?_; rintro e v9 ⟨g9, c9, rfl, hX9a⟩; have hX9 := hide' hX9a.out.setF; have f0 := hX9.out.q.frz 0; have y0 := hX9.out.q.c0; have f1 := (hX9.out.q.s0C Q.users).frz 1; have y1 := (hX9.out.q.s0C Q.users).c1; have f2 := ((hX9.out.q.s0C Q.users).s1 (.slice (some ⟨g5, 0, none⟩) Q.who.length c5)).frz 2; have y2 := ((hX9.out.q.s0C Q.users).s1 (.slice (some ⟨g5, 0, none⟩) Q.who.length c5)).c2; have f3 := (((hX9.out.q.s0C Q.users).s1 (.slice (some ⟨g5, 0, none⟩) Q.who.length c5)).s2 (.slice (some ⟨g9, 0, none⟩) Q.fixed.length c9)).frz 3; have y3 := (((hX9.out.q.s0C Q.users).s1 (.slice (some ⟨g5, 0, none⟩) Q.who.length c5)).s2 (.slice (some ⟨g9, 0, none⟩) Q.fixed.length c9)).c3; have hX12 := hide' (hX9.out.put4 Q.users (.slice (some ⟨g5, 0, none⟩) Q.who.length c5) (.slice (some ⟨g9, 0, none⟩) Q.fixed.length c9) (.slice none 0 0)); clear hX9a; (try dsimp only)
          refine hK.out _ _ ?_ (fun hHeld => ?_)
          · exact hQc.out _ _ _ _ _ _ _ _ _ _ _ hX9.out.z
          clear hK K
          try simp only [Act.put, List.setIfInBounds_toArray, List.set_cons_zero, List.set_cons_succ]
          refine wpAnyH_take (i := 10) (oi := { dst := some 47, op := Op.build 26 #[(0, Operand.tmp 38), (1, Operand.tmp 42), (2, Operand.tmp 46)], type := 26, pos := "law.go:290", after := #[{ on := 1, ground := Ground.data }, { on := 5, ground := Ground.data }, { on := 9, ground := Ground.data }], guard := none }) (v := ?_) rfl (by kernel_rfl) (by kernel_rfl) (by kernel_rfl) (fun _ _ _ h => h) (Or.inl ⟨by rfl, ?_⟩) (by assumption) ?_
          rotate_left
          · intro w hSw; (try dsimp only at hSw); go_simp <;> with_reducible rfl
          simp only [Act.put, List.setIfInBounds_toArray, List.set_cons_zero, List.set_cons_succ]
          refine wpAnyH_ready (rs := [12]) (by kernel_rfl) (by simp) ?_
          refine AllReadyH.cons (o := { dst := none, op := Op.store 26 (Operand.tmp 12) (Operand.tmp 47), type := 0, pos := "law.go:290", after := #[{ on := 11, ground := Ground.data }, { on := 10, ground := Ground.data }, { on := 9, ground := Ground.chain }, { on := 0, ground := Ground.phase }, { on := 1, ground := Ground.phase }, { on := 2, ground := Ground.phase }, { on := 3, ground := Ground.phase }, { on := 4, ground := Ground.phase }, { on := 5, ground := Ground.phase }, { on := 6, ground := Ground.phase }, { on := 7, ground := Ground.phase }, { on := 8, ground := Ground.phase }, { on := 9, ground := Ground.phase }, { on := 10, ground := Ground.phase }, { on := 11, ground := Ground.phase }], guard := none }) rfl (fun K hK => ?_) AllReadyH.nil
          go_simp
          refine hK.out _ _ ?_ (fun hHeld => ?_)
          · exact hQc.out _ _ _ _ _ _ _ _ _ _ _ hX12.out.z
          clear hK K
          try simp only [Act.put, List.setIfInBounds_toArray, List.set_cons_zero, List.set_cons_succ]
          refine wpAnyH_done (by kernel_rfl) ?_ _
          skip
          go_wp2
          go_meet
          exact ⟨_, _, _, _, _, rfl, hX12⟩
        refine AllReadyH.cons (o := { dst := some 12, op := Op.alloc 26, type := 0, pos := "law.go:290", after := #[], guard := none }) rfl (fun K hK => ?_) AllReadyH.nil
        go_simp
        have hX11 := hide' (Zx.start hZd.out 0 (.slice none 0 0) (.slice none 0 0) (.slice none 0 0)); rw [show wr.drew.heap.size = wr.heap.size from rfl] at hX11; (try dsimp only)
        refine hK.out _ _ ?_ (fun hHeld => ?_)
        · exact hQc.out _ _ _ _ _ _ _ _ _ _ _ hX11.out.z
        clear hK K
        try simp only [Act.put, List.setIfInBounds_toArray, List.set_cons_zero, List.set_cons_succ]
        refine wpAnyH_ready (rs := [5]) (by kernel_rfl) (by simp) ?_
        refine AllReadyH.cons (o := { dst := some 42, op := Op.call { callee := Callee.value (Operand.func 8), args := #[Operand.tmp 39, Operand.tmp 41], argTypes := #[37, 22] }, type := 22, pos := "law.go:290", after := #[{ on := 2, ground := Ground.data }, { on := 4, ground := Ground.data }], guard := none }) rfl (fun K hK => ?_) AllReadyH.nil
        go_simp
        go_at_call 8; refine (zxRows hX11.out (by omega) _ Q.who (hSb.out.at hX11.out.z).2.1.who (by have := hk.out.w; omega)).mono ?_; rintro e v5 ⟨g5, c5, rfl, hX5⟩; (try dsimp only)
        refine hK.out _ _ ?_ (fun hHeld => ?_)
        · exact hQc.out _ _ _ _ _ _ _ _ _ _ _ hX5.out.z
        clear hK K
        try simp only [Act.put, List.setIfInBounds_toArray, List.set_cons_zero, List.set_cons_succ]
        refine wpAnyH_ready (rs := [9]) (by kernel_rfl) (by simp) ?_
        refine AllReadyH.cons (o := { dst := some 46, op := Op.call { callee := Callee.value (Operand.func 9), args := #[Operand.tmp 43, Operand.tmp 45], argTypes := #[37, 23] }, type := 23, pos := "law.go:290", after := #[{ on := 6, ground := Ground.data }, { on := 8, ground := Ground.data }, { on := 5, ground := Ground.chain }], guard := none }) rfl (fun K hK => ?_) AllReadyH.nil
        go_simp
        go_at_call 9; refine (zxInts hX5.out (by omega) _ Q.fixed (hSb.out.at hX5.out.z).2.1.fixed (by have := hk.out.f; omega)).mono ?_; rintro e v9 ⟨g9, c9, rfl, hX9a⟩; have hX9 := hide' hX9a.out.setF; have f0 := hX9.out.q.frz 0; have y0 := hX9.out.q.c0; have f1 := (hX9.out.q.s0C Q.users).frz 1; have y1 := (hX9.out.q.s0C Q.users).c1; have f2 := ((hX9.out.q.s0C Q.users).s1 (.slice (some ⟨g5, 0, none⟩) Q.who.length c5)).frz 2; have y2 := ((hX9.out.q.s0C Q.users).s1 (.slice (some ⟨g5, 0, none⟩) Q.who.length c5)).c2; have f3 := (((hX9.out.q.s0C Q.users).s1 (.slice (some ⟨g5, 0, none⟩) Q.who.length c5)).s2 (.slice (some ⟨g9, 0, none⟩) Q.fixed.length c9)).frz 3; have y3 := (((hX9.out.q.s0C Q.users).s1 (.slice (some ⟨g5, 0, none⟩) Q.who.length c5)).s2 (.slice (some ⟨g9, 0, none⟩) Q.fixed.length c9)).c3; have hX12 := hide' (hX9.out.put4 Q.users (.slice (some ⟨g5, 0, none⟩) Q.who.length c5) (.slice (some ⟨g9, 0, none⟩) Q.fixed.length c9) (.slice none 0 0)); clear hX9a; (try dsimp only)
        refine hK.out _ _ ?_ (fun hHeld => ?_)
        · exact hQc.out _ _ _ _ _ _ _ _ _ _ _ hX9.out.z
        clear hK K
        try simp only [Act.put, List.setIfInBounds_toArray, List.set_cons_zero, List.set_cons_succ]
        refine wpAnyH_take (i := 10) (oi := { dst := some 47, op := Op.build 26 #[(0, Operand.tmp 38), (1, Operand.tmp 42), (2, Operand.tmp 46)], type := 26, pos := "law.go:290", after := #[{ on := 1, ground := Ground.data }, { on := 5, ground := Ground.data }, { on := 9, ground := Ground.data }], guard := none }) (v := ?_) rfl (by kernel_rfl) (by kernel_rfl) (by kernel_rfl) (fun _ _ _ h => h) (Or.inl ⟨by rfl, ?_⟩) (by assumption) ?_
        rotate_left
        · intro w hSw; (try dsimp only at hSw); go_simp <;> with_reducible rfl
        simp only [Act.put, List.setIfInBounds_toArray, List.set_cons_zero, List.set_cons_succ]
        refine wpAnyH_ready (rs := [12]) (by kernel_rfl) (by simp) ?_
        refine AllReadyH.cons (o := { dst := none, op := Op.store 26 (Operand.tmp 12) (Operand.tmp 47), type := 0, pos := "law.go:290", after := #[{ on := 11, ground := Ground.data }, { on := 10, ground := Ground.data }, { on := 9, ground := Ground.chain }, { on := 0, ground := Ground.phase }, { on := 1, ground := Ground.phase }, { on := 2, ground := Ground.phase }, { on := 3, ground := Ground.phase }, { on := 4, ground := Ground.phase }, { on := 5, ground := Ground.phase }, { on := 6, ground := Ground.phase }, { on := 7, ground := Ground.phase }, { on := 8, ground := Ground.phase }, { on := 9, ground := Ground.phase }, { on := 10, ground := Ground.phase }, { on := 11, ground := Ground.phase }], guard := none }) rfl (fun K hK => ?_) AllReadyH.nil
        go_simp
        refine hK.out _ _ ?_ (fun hHeld => ?_)
        · exact hQc.out _ _ _ _ _ _ _ _ _ _ _ hX12.out.z
        clear hK K
        try simp only [Act.put, List.setIfInBounds_toArray, List.set_cons_zero, List.set_cons_succ]
        refine wpAnyH_done (by kernel_rfl) ?_ _
        skip
        go_wp2
        go_meet
        exact ⟨_, _, _, _, _, rfl, hX12⟩
      case rest =>
        clear hZ
        obtain ⟨gx, gw, cw2, gf, cf2, rfl, hX⟩ := hcut
        have hrl : Q.rules.length ≤ 40 := hQl.out.2
        go_upto_block 2 with fail
        go_cut [13] from 48 to 80 (fun _ wx => ∃ (o3 : Option Addr) (n3 c3 : Nat) (PP : List (Rl × Value)), Hid (PP.map Prod.fst = Q.rules) ∧ Hid (Zx V0 (Rs V0 gs a0 b0 c0) B p (200 * j + 2 + Q.rules.length) (.slice (some ⟨gw, 0, none⟩) Q.who.length cw2) (.slice (some ⟨gf, 0, none⟩) Q.fixed.length cf2) (.slice o3 n3 c3) Q.who Q.fixed PP [] [] gx Q.users (.slice (some ⟨gw, 0, none⟩) Q.who.length cw2) (.slice (some ⟨gf, 0, none⟩) Q.fixed.length cf2) (.slice o3 n3 c3) wx))
        case first =>
          as_aux_lemma =>
          have hqc : Hid (∀ (mm : Nat) (xw xf xr : Value) (Lw : List Nat) (Lf : List Int) (PP : List (Rl × Value)) (E H : List (Value × List Int)) (F : Nat → Prop) (V : World), Z2 V0 (Rs V0 gs a0 b0 c0) B p mm xw xf xr Lw Lf PP E H F V → V.cell? ⟨g, 3, none⟩ = some (.slice or Q.rules.length cr)) := fun mm xw xf xr Lw Lf PP E H F V hz => (hSb.out.at hz).1.all.2.2.2
          go_wp2
          go_loopw [13] (fun kv wr => ∃ (i : Nat) (o3 : Option Addr) (n3 c3 : Nat) (PP : List (Rl × Value)), i ≤ Q.rules.length ∧ kv = .int .i64 (i : Int) ∧ Hid (PP.map Prod.fst = Q.rules.take i) ∧ Hid (Zx V0 (Rs V0 gs a0 b0 c0) B p (200 * j + 2 + i) (.slice (some ⟨gw, 0, none⟩) Q.who.length cw2) (.slice (some ⟨gf, 0, none⟩) Q.fixed.length cf2) (.slice o3 n3 c3) Q.who Q.fixed PP [] [] gx Q.users (.slice (some ⟨gw, 0, none⟩) Q.who.length cw2) (.slice (some ⟨gf, 0, none⟩) Q.fixed.length cf2) (.slice o3 n3 c3) wr)) (fun kv _ => ((Q.rules.length : Int) - intOf kv).toNat)
          case atStart => exact ⟨0, none, 0, 0, [], Nat.zero_le _, rfl, rfl, hX⟩
          case round =>
            clear hX
            obtain ⟨i, o3, n3, c3, PP, hi, rfl, hPP, hX⟩ := hrel
            have q3 := hqc.out _ _ _ _ _ _ _ _ _ _ _ hX.out.z
            by_cases hlt2 : i < Q.rules.length
            · have hlt2' : (i : Int) < (Q.rules.length : Int) := by omega
              have hi0 : ¬ (i : Int) < 0 := by omega
              obtain ⟨r, hr⟩ : ∃ r, Q.rules[i]? = some r := ⟨_, List.getElem?_eq_getElem hlt2⟩
              obtain ⟨g3, o4, sv, rfl, hru⟩ := hSb.out.rule (bb := B) (p := p) hr
              have hSx : Hid (∀ (mm : Nat) (xw xf xr : Value) (Lw : List Nat) (Lf : List Int) (PP : List (Rl × Value)) (E H : List (Value × List Int)) (F : Nat → Prop) (V : World), Z2 V0 (Rs V0 gs a0 b0 c0) B p mm xw xf xr Lw Lf PP E H F V → V.cell? ⟨g, 3, none⟩ = some (.slice (some ⟨g3, o4, none⟩) Q.rules.length cr) ∧ V.cell? ⟨g3, o4 + i * 3, none⟩ = some (.int .i64 r.kind) ∧ V.cell? ⟨g3, o4 + i * 3 + 1, none⟩ = some (.int .i64 r.k) ∧ V.cell? ⟨g3, o4 + i * 3 + 2, none⟩ = some sv) := fun mm xw xf xr Lw Lf PP E H F V hz => ⟨hqc.out _ _ _ _ _ _ _ _ _ _ _ hz, (hru _ _ _ _ _ _ _ _ _ _ _ _ _ _ hz).1, (hru _ _ _ _ _ _ _ _ _ _ _ _ _ _ hz).2.1, (hru _ _ _ _ _ _ _ _ _ _ _ _ _ _ hz).2.2.1⟩
              have hXd := hide' (hX.out.below (Below.refl _ wr).drew)
              have hsv := hide' (hru _ _ _ _ _ _ _ _ _ _ _ _ _ _ hXd.out.z).2.2.2
              have hsl : r.steps.length ≤ 1000 := hk.out.s r (List.mem_of_getElem? hr)
              have hPl : Hid (PP.length ≤ 1000000) := by
                have := congrArg List.length hPP.out
                rw [List.length_map, List.length_take] at this
                show _ ≤ _
                omega
              have hm : Hid (∀ v : Value, (PP ++ [(r, v)]).map Prod.fst = Q.rules.take (i + 1)) := fun v => by
                rw [List.map_append, hPP.out, List.take_add_one, hr]; rfl
              have c3a := hXd.out.q.c3
              clear hX hru hqc hPP hr
              go_upto_region 14 with fail
              clear q3
              refine wp_region_held_drew (S := (fun V => V.cell? ⟨g, 3, none⟩ = some (.slice (some ⟨g3, o4, none⟩) Q.rules.length cr) ∧ V.cell? ⟨g3, o4 + i * 3, none⟩ = some (.int .i64 r.kind) ∧ V.cell? ⟨g3, o4 + i * 3 + 1, none⟩ = some (.int .i64 r.k) ∧ V.cell? ⟨g3, o4 + i * 3 + 2, none⟩ = some sv)) (by kernel_rfl) ?_ (fun hHeld => ?_)
              · exact hSx.out _ _ _ _ _ _ _ _ _ _ _ hXd.out.z
              refine wpAnyH_take (i := 0) (oi := { dst := some 55, op := Op.fieldAddr 26 (Operand.tmp 12) 3, type := 0, pos := "law.go:292", after := #[], guard := none }) (v := ?_) rfl (by kernel_rfl) (by kernel_rfl) (by kernel_rfl) (fun _ _ _ h => h) (Or.inl ⟨by rfl, ?_⟩) (by assumption) ?_
              rotate_left
              · intro w hSw; (try dsimp only at hSw); go_simp <;> with_reducible rfl
              simp only [Act.put, List.setIfInBounds_toArray, List.set_cons_zero, List.set_cons_succ]
              refine wpAnyH_take (i := 2) (oi := { dst := some 57, op := Op.fieldAddr 26 (Operand.tmp 7) 3, type := 0, pos := "law.go:292", after := #[], guard := none }) (v := ?_) rfl (by kernel_rfl) (by kernel_rfl) (by kernel_rfl) (fun _ _ _ h => h) (Or.inl ⟨by rfl, ?_⟩) (by assumption) ?_
              rotate_left
              · intro w hSw; (try dsimp only at hSw); go_simp <;> with_reducible rfl
              simp only [Act.put, List.setIfInBounds_toArray, List.set_cons_zero, List.set_cons_succ]
              refine wpAnyH_take (i := 3) (oi := { dst := some 58, op := Op.load 24 (Operand.tmp 57), type := 24, pos := "law.go:292", after := #[{ on := 2, ground := Ground.data }], guard := none }) (v := ?_) rfl (by kernel_rfl) (by kernel_rfl) (by kernel_rfl) (fun _ _ _ h => h) (Or.inl ⟨by rfl, ?_⟩) (by assumption) ?_
              rotate_left
              · intro w hSw; (try dsimp only at hSw); go_simp <;> with_reducible rfl
              simp only [Act.put, List.setIfInBounds_toArray, List.set_cons_zero, List.set_cons_succ]
              refine wpAnyH_take (i := 4) (oi := { dst := some 59, op := Op.move (Operand.tmp 13), type := 3, pos := "law.go:292", after := #[], guard := none }) (v := ?_) rfl (by kernel_rfl) (by kernel_rfl) (by kernel_rfl) (fun _ _ _ h => h) (Or.inl ⟨by rfl, ?_⟩) (by assumption) ?_
              rotate_left
              · intro w hSw; (try dsimp only at hSw); go_simp <;> with_reducible rfl
              simp only [Act.put, List.setIfInBounds_toArray, List.set_cons_zero, List.set_cons_succ]
              refine wpAnyH_take (i := 5) (oi := { dst := some 60, op := Op.indexAddr 24 (Operand.tmp 58) (Operand.tmp 59), type := 0, pos := "law.go:292", after := #[{ on := 3, ground := Ground.data }, { on := 4, ground := Ground.data }], guard := none }) (v := ?_) rfl (by kernel_rfl) (by kernel_rfl) (by kernel_rfl) (fun _ _ _ h => h) (Or.inl ⟨by rfl, ?_⟩) (by assumption) ?_
              rotate_left
              · intro w hSw; (try dsimp only at hSw); go_simp <;> with_reducible rfl
              simp only [Act.put, List.setIfInBounds_toArray, List.set_cons_zero, List.set_cons_succ]
              refine wpAnyH_take (i := 6) (oi := { dst := some 61, op := Op.fieldAddr 44 (Operand.tmp 60) 0, type := 0, pos := "law.go:292", after := #[{ on := 5, ground := Ground.data }], guard := none }) (v := ?_) rfl (by kernel_rfl) (by kernel_rfl) (by kernel_rfl) (fun _ _ _ h => h) (Or.inl ⟨by rfl, ?_⟩) (by assumption) ?_
              rotate_left
              · intro w hSw; (try dsimp only at hSw); go_simp <;> with_reducible rfl
              simp only [Act.put, List.setIfInBounds_toArray, List.set_cons_zero, List.set_cons_succ]
              refine wpAnyH_take (i := 7) (oi := { dst := some 62, op := Op.load 3 (Operand.tmp 61), type := 3, pos := "law.go:292", after := #[{ on := 6, ground := Ground.data }], guard := none }) (v := ?_) rfl (by kernel_rfl) (by kernel_rfl) (by kernel_rfl) (fun _ _ _ h => h) (Or.inl ⟨by rfl, ?_⟩) (by assumption) ?_
              rotate_left
              · intro w hSw; (try dsimp only at hSw); go_simp <;> with_reducible rfl
              simp only [Act.put, List.setIfInBounds_toArray, List.set_cons_zero, List.set_cons_succ]
              refine wpAnyH_take (i := 8) (oi := { dst := some 63, op := Op.fieldAddr 26 (Operand.tmp 7) 3, type := 0, pos := "law.go:292", after := #[], guard := none }) (v := ?_) rfl (by kernel_rfl) (by kernel_rfl) (by kernel_rfl) (fun _ _ _ h => h) (Or.inl ⟨by rfl, ?_⟩) (by assumption) ?_
              rotate_left
              · intro w hSw; (try dsimp only at hSw); go_simp <;> with_reducible rfl
              simp only [Act.put, List.setIfInBounds_toArray, List.set_cons_zero, List.set_cons_succ]
              refine wpAnyH_take (i := 9) (oi := { dst := some 64, op := Op.load 24 (Operand.tmp 63), type := 24, pos := "law.go:292", after := #[{ on := 8, ground := Ground.data }], guard := none }) (v := ?_) rfl (by kernel_rfl) (by kernel_rfl) (by kernel_rfl) (fun _ _ _ h => h) (Or.inl ⟨by rfl, ?_⟩) (by assumption) ?_
              rotate_left
              · intro w hSw; (try dsimp only at hSw); go_simp <;> with_reducible rfl
              simp only [Act.put, List.setIfInBounds_toArray, List.set_cons_zero, List.set_cons_succ]
              refine wpAnyH_take (i := 10) (oi := { dst := some 65, op := Op.move (Operand.tmp 13), type := 3, pos := "law.go:292", after := #[], guard := none }) (v := ?_) rfl (by kernel_rfl) (by kernel_rfl) (by kernel_rfl) (fun _ _ _ h => h) (Or.inl ⟨by rfl, ?_⟩) (by assumption) ?_
              rotate_left
              · intro w hSw; (try dsimp only at hSw); go_simp <;> with_reducible rfl
              simp only [Act.put, List.setIfInBounds_toArray, List.set_cons_zero, List.set_cons_succ]
              refine wpAnyH_take (i := 11) (oi := { dst := some 66, op := Op.indexAddr 24 (Operand.tmp 64) (Operand.tmp 65), type := 0, pos := "law.go:292", after := #[{ on := 9, ground := Ground.data }, { on := 10, ground := Ground.data }], guard := none }) (v := ?_) rfl (by kernel_rfl) (by kernel_rfl) (by kernel_rfl) (fun _ _ _ h => h) (Or.inl ⟨by rfl, ?_⟩) (by assumption) ?_
              rotate_left
              · intro w hSw; (try dsimp only at hSw); go_simp <;> with_reducible rfl
              simp only [Act.put, List.setIfInBounds_toArray, List.set_cons_zero, List.set_cons_succ]
              refine wpAnyH_take (i := 12) (oi := { dst := some 67, op := Op.fieldAddr 44 (Operand.tmp 66) 1, type := 0, pos := "law.go:292", after := #[{ on := 11, ground := Ground.data }], guard := none }) (v := ?_) rfl (by kernel_rfl) (by kernel_rfl) (by kernel_rfl) (fun _ _ _ h => h) (Or.inl ⟨by rfl, ?_⟩) (by assumption) ?_
              rotate_left
              · intro w hSw; (try dsimp only at hSw); go_simp <;> with_reducible rfl
              simp only [Act.put, List.setIfInBounds_toArray, List.set_cons_zero, List.set_cons_succ]
              refine wpAnyH_take (i := 13) (oi := { dst := some 68, op := Op.load 3 (Operand.tmp 67), type := 3, pos := "law.go:292", after := #[{ on := 12, ground := Ground.data }], guard := none }) (v := ?_) rfl (by kernel_rfl) (by kernel_rfl) (by kernel_rfl) (fun _ _ _ h => h) (Or.inl ⟨by rfl, ?_⟩) (by assumption) ?_
              rotate_left
              · intro w hSw; (try dsimp only at hSw); go_simp <;> with_reducible rfl
              simp only [Act.put, List.setIfInBounds_toArray, List.set_cons_zero, List.set_cons_succ]
              refine wpAnyH_take (i := 14) (oi := { dst := some 69, op := Op.move (Operand.tmp 10), type := 37, pos := "law.go:292", after := #[], guard := none }) (v := ?_) rfl (by kernel_rfl) (by kernel_rfl) (by kernel_rfl) (fun _ _ _ h => h) (Or.inl ⟨by rfl, ?_⟩) (by assumption) ?_
              rotate_left
              · intro w hSw; (try dsimp only at hSw); go_simp <;> with_reducible rfl
              simp only [Act.put, List.setIfInBounds_toArray, List.set_cons_zero, List.set_cons_succ]
              refine wpAnyH_take (i := 15) (oi := { dst := some 70, op := Op.fieldAddr 26 (Operand.tmp 7) 3, type := 0, pos := "law.go:292", after := #[], guard := none }) (v := ?_) rfl (by kernel_rfl) (by kernel_rfl) (by kernel_rfl) (fun _ _ _ h => h) (Or.inl ⟨by rfl, ?_⟩) (by assumption) ?_
              rotate_left
              · intro w hSw; (try dsimp only at hSw); go_simp <;> with_reducible rfl
              simp only [Act.put, List.setIfInBounds_toArray, List.set_cons_zero, List.set_cons_succ]
              refine wpAnyH_take (i := 16) (oi := { dst := some 71, op := Op.load 24 (Operand.tmp 70), type := 24, pos := "law.go:292", after := #[{ on := 15, ground := Ground.data }], guard := none }) (v := ?_) rfl (by kernel_rfl) (by kernel_rfl) (by kernel_rfl) (fun _ _ _ h => h) (Or.inl ⟨by rfl, ?_⟩) (by assumption) ?_
              rotate_left
              · intro w hSw; (try dsimp only at hSw); go_simp <;> with_reducible rfl
              simp only [Act.put, List.setIfInBounds_toArray, List.set_cons_zero, List.set_cons_succ]
              refine wpAnyH_take (i := 17) (oi := { dst := some 72, op := Op.move (Operand.tmp 13), type := 3, pos := "law.go:292", after := #[], guard := none }) (v := ?_) rfl (by kernel_rfl) (by kernel_rfl) (by kernel_rfl) (fun _ _ _ h => h) (Or.inl ⟨by rfl, ?_⟩) (by assumption) ?_
              rotate_left
              · intro w hSw; (try dsimp only at hSw); go_simp <;> with_reducible rfl
              simp only [Act.put, List.setIfInBounds_toArray, List.set_cons_zero, List.set_cons_succ]
              refine wpAnyH_take (i := 18) (oi := { dst := some 73, op := Op.indexAddr 24 (Operand.tmp 71) (Operand.tmp 72), type := 0, pos := "law.go:292", after := #[{ on := 16, ground := Ground.data }, { on := 17, ground := Ground.data }], guard := none }) (v := ?_) rfl (by kernel_rfl) (by kernel_rfl) (by kernel_rfl) (fun _ _ _ h => h) (Or.inl ⟨by rfl, ?_⟩) (by assumption) ?_
              rotate_left
              · intro w hSw; (try dsimp only at hSw); go_simp <;> with_reducible rfl
              simp only [Act.put, List.setIfInBounds_toArray, List.set_cons_zero, List.set_cons_succ]
              refine wpAnyH_take (i := 19) (oi := { dst := some 74, op := Op.fieldAddr 44 (Operand.tmp 73) 2, type := 0, pos := "law.go:292", after := #[{ on := 18, ground := Ground.data }], guard := none }) (v := ?_) rfl (by kernel_rfl) (by kernel_rfl) (by kernel_rfl) (fun _ _ _ h => h) (Or.inl ⟨by rfl, ?_⟩) (by assumption) ?_
              rotate_left
              · intro w hSw; (try dsimp only at hSw); go_simp <;> with_reducible rfl
              simp only [Act.put, List.setIfInBounds_toArray, List.set_cons_zero, List.set_cons_succ]
              refine wpAnyH_take (i := 20) (oi := { dst := some 75, op := Op.load 23 (Operand.tmp 74), type := 23, pos := "law.go:292", after := #[{ on := 19, ground := Ground.data }], guard := none }) (v := ?_) rfl (by kernel_rfl) (by kernel_rfl) (by kernel_rfl) (fun _ _ _ h => h) (Or.inl ⟨by rfl, ?_⟩) (by assumption) ?_
              rotate_left
              · intro w hSw; (try dsimp only at hSw); go_simp <;> with_reducible rfl
              simp only [Act.put, List.setIfInBounds_toArray, List.set_cons_zero, List.set_cons_succ]
              refine wpAnyH_ready (rs := [1, 21]) (by kernel_rfl) (by simp) ?_
              refine AllReadyH.cons (o := { dst := some 56, op := Op.load 24 (Operand.tmp 55), type := 24, pos := "law.go:292", after := #[{ on := 0, ground := Ground.data }], guard := none }) rfl (fun K hK => ?_) ?_
              · skip
                go_simp
                refine hK.out _ _ ?_ (fun hHeld => ?_)
                · exact hSx.out _ _ _ _ _ _ _ _ _ _ _ hXd.out.z
                clear hK K
                try simp only [Act.put, List.setIfInBounds_toArray, List.set_cons_zero, List.set_cons_succ]
                refine wpAnyH_ready (rs := [21]) (by kernel_rfl) (by simp) ?_
                refine AllReadyH.cons (o := { dst := some 76, op := Op.call { callee := Callee.value (Operand.func 9), args := #[Operand.tmp 69, Operand.tmp 75], argTypes := #[37, 23] }, type := 23, pos := "law.go:292", after := #[{ on := 14, ground := Ground.data }, { on := 20, ground := Ground.data }], guard := none }) rfl (fun K hK => ?_) AllReadyH.nil
                go_simp
                go_at_call 9; refine (zxInts hXd.out (by omega) _ r.steps hsv.out hsl).mono ?_; rintro e v21 ⟨g7, c7, rfl, hX21⟩; have c3b := hX21.out.q.c3; have hX21a := hide' (hX21.out.below ((Below.refl _ v21).alloc (Nat.le_refl _) (.cells #[.int .i64 r.kind, .int .i64 r.k, .slice (some ⟨g7, 0, none⟩) r.steps.length c7] 44))); have c3c := hX21a.out.q.c3; (try dsimp only)
                refine hK.out _ _ ?_ (fun hHeld => ?_)
                · exact hSx.out _ _ _ _ _ _ _ _ _ _ _ hX21.out.z
                clear hK K
                try simp only [Act.put, List.setIfInBounds_toArray, List.set_cons_zero, List.set_cons_succ]
                refine wpAnyH_take (i := 22) (oi := { dst := some 77, op := Op.build 44 #[(0, Operand.tmp 62), (1, Operand.tmp 68), (2, Operand.tmp 76)], type := 44, pos := "law.go:292", after := #[{ on := 7, ground := Ground.data }, { on := 13, ground := Ground.data }, { on := 21, ground := Ground.data }], guard := none }) (v := ?_) rfl (by kernel_rfl) (by kernel_rfl) (by kernel_rfl) (fun _ _ _ h => h) (Or.inl ⟨by rfl, ?_⟩) (by assumption) ?_
                rotate_left
                · intro w hSw; (try dsimp only at hSw); go_simp <;> with_reducible rfl
                simp only [Act.put, List.setIfInBounds_toArray, List.set_cons_zero, List.set_cons_succ]
                refine wpAnyH_ready (rs := [23]) (by kernel_rfl) (by simp) ?_
                refine AllReadyH.cons (o := { dst := some 78, op := Op.buildSlice 24 1 #[(0, Operand.tmp 77)], type := 24, pos := "law.go:292", after := #[{ on := 22, ground := Ground.data }], guard := none }) rfl (fun K hK => ?_) AllReadyH.nil
                go_simp
                refine hK.out _ _ ?_ (fun hHeld => ?_)
                · exact hSx.out _ _ _ _ _ _ _ _ _ _ _ hX21a.out.z
                clear hK K
                try simp only [Act.put, List.setIfInBounds_toArray, List.set_cons_zero, List.set_cons_succ]
                refine wpAnyH_ready (rs := [24]) (by kernel_rfl) (by simp) ?_
                refine AllReadyH.cons (o := { dst := some 79, op := Op.call { callee := Callee.builtin Builtin.append, args := #[Operand.tmp 56, Operand.tmp 78], argTypes := #[24, 24] }, type := 24, pos := "law.go:292", after := #[{ on := 1, ground := Ground.data }, { on := 23, ground := Ground.data }, { on := 21, ground := Ground.chain }], guard := none }) rfl (fun K hK => ?_) AllReadyH.nil
                rw [if_pos (by rfl)]
                refine zxApp (.tmp 56) (.tmp 78) r (.slice (some ⟨g7, 0, none⟩) r.steps.length c7) rfl rfl rfl hX21.out rfl hPl.out ?_; intro g9 c9 v24 hX24; have f24 := hX24.out.q.frz 3; have y24 := hX24.out.q.c3; have hX26 := hide' (hX24.out.store (hX24.out.q.s3 (.slice (some ⟨g9, 0, none⟩) (PP.length + 1) c9))); (try dsimp only)
                refine hK.out _ _ ?_ (fun hHeld => ?_)
                · exact hSx.out _ _ _ _ _ _ _ _ _ _ _ hX24.out.z
                clear hK K
                try simp only [Act.put, List.setIfInBounds_toArray, List.set_cons_zero, List.set_cons_succ]
                refine wpAnyH_take (i := 25) (oi := { dst := some 80, op := Op.fieldAddr 26 (Operand.tmp 12) 3, type := 0, pos := "law.go:292", after := #[{ on := 0, ground := Ground.phase }, { on := 1, ground := Ground.phase }, { on := 2, ground := Ground.phase }, { on := 3, ground := Ground.phase }, { on := 4, ground := Ground.phase }, { on := 5, ground := Ground.phase }, { on := 6, ground := Ground.phase }, { on := 7, ground := Ground.phase }, { on := 8, ground := Ground.phase }, { on := 9, ground := Ground.phase }, { on := 10, ground := Ground.phase }, { on := 11, ground := Ground.phase }, { on := 12, ground := Ground.phase }, { on := 13, ground := Ground.phase }, { on := 14, ground := Ground.phase }, { on := 15, ground := Ground.phase }, { on := 16, ground := Ground.phase }, { on := 17, ground := Ground.phase }, { on := 18, ground := Ground.phase }, { on := 19, ground := Ground.phase }, { on := 20, ground := Ground.phase }, { on := 21, ground := Ground.phase }, { on := 22, ground := Ground.phase }, { on := 23, ground := Ground.phase }, { on := 24, ground := Ground.phase }], guard := none }) (v := ?_) rfl (by kernel_rfl) (by kernel_rfl) (by kernel_rfl) (fun _ _ _ h => h) (Or.inl ⟨by rfl, ?_⟩) (by assumption) ?_
                rotate_left
                · intro w hSw; (try dsimp only at hSw); go_simp <;> with_reducible rfl
                simp only [Act.put, List.setIfInBounds_toArray, List.set_cons_zero, List.set_cons_succ]
                refine wpAnyH_ready (rs := [26]) (by kernel_rfl) (by simp) ?_
                refine AllReadyH.cons (o := { dst := none, op := Op.store 24 (Operand.tmp 80) (Operand.tmp 79), type := 0, pos := "law.go:292", after := #[{ on := 25, ground := Ground.data }, { on := 24, ground := Ground.data }, { on := 24, ground := Ground.chain }, { on := 0, ground := Ground.phase }, { on := 1, ground := Ground.phase }, { on := 2, ground := Ground.phase }, { on := 3, ground := Ground.phase }, { on := 4, ground := Ground.phase }, { on := 5, ground := Ground.phase }, { on := 6, ground := Ground.phase }, { on := 7, ground := Ground.phase }, { on := 8, ground := Ground.phase }, { on := 9, ground := Ground.phase }, { on := 10, ground := Ground.phase }, { on := 11, ground := Ground.phase }, { on := 12, ground := Ground.phase }, { on := 13, ground := Ground.phase }, { on := 14, ground := Ground.phase }, { on := 15, ground := Ground.phase }, { on := 16, ground := Ground.phase }, { on := 17, ground := Ground.phase }, { on := 18, ground := Ground.phase }, { on := 19, ground := Ground.phase }, { on := 20, ground := Ground.phase }, { on := 21, ground := Ground.phase }, { on := 22, ground := Ground.phase }, { on := 23, ground := Ground.phase }, { on := 24, ground := Ground.phase }], guard := none }) rfl (fun K hK => ?_) AllReadyH.nil
                go_simp
                refine hK.out _ _ ?_ (fun hHeld => ?_)
                · exact hSx.out _ _ _ _ _ _ _ _ _ _ _ hX26.out.z
                clear hK K
                try simp only [Act.put, List.setIfInBounds_toArray, List.set_cons_zero, List.set_cons_succ]
                refine wpAnyH_done (by kernel_rfl) ?_ _
                skip
                have hmv := hide' (hm.out (.slice (some ⟨g7, 0, none⟩) r.steps.length c7))
                clear hm f24 y24
                go_wp2
                exact ⟨⟨i + 1, _, _, _, _, by omega, by go_num, hmv, hX26⟩, by simp [intOf]; omega⟩
              refine AllReadyH.cons (o := { dst := some 76, op := Op.call { callee := Callee.value (Operand.func 9), args := #[Operand.tmp 69, Operand.tmp 75], argTypes := #[37, 23] }, type := 23, pos := "law.go:292", after := #[{ on := 14, ground := Ground.data }, { on := 20, ground := Ground.data }], guard := none }) rfl (fun K hK => ?_) AllReadyH.nil
              go_simp
              go_at_call 9; refine (zxInts hXd.out (by omega) _ r.steps hsv.out hsl).mono ?_; rintro e v21 ⟨g7, c7, rfl, hX21⟩; have c3b := hX21.out.q.c3; have hX21a := hide' (hX21.out.below ((Below.refl _ v21).alloc (Nat.le_refl _) (.cells #[.int .i64 r.kind, .int .i64 r.k, .slice (some ⟨g7, 0, none⟩) r.steps.length c7] 44))); have c3c := hX21a.out.q.c3; (try dsimp only)
              refine hK.out _ _ ?_ (fun hHeld => ?_)
              · exact hSx.out _ _ _ _ _ _ _ _ _ _ _ hX21.out.z
              clear hK K
              try simp only [Act.put, List.setIfInBounds_toArray, List.set_cons_zero, List.set_cons_succ]
              refine wpAnyH_take (i := 22) (oi := { dst := some 77, op := Op.build 44 #[(0, Operand.tmp 62), (1, Operand.tmp 68), (2, Operand.tmp 76)], type := 44, pos := "law.go:292", after := #[{ on := 7, ground := Ground.data }, { on := 13, ground := Ground.data }, { on := 21, ground := Ground.data }], guard := none }) (v := ?_) rfl (by kernel_rfl) (by kernel_rfl) (by kernel_rfl) (fun _ _ _ h => h) (Or.inl ⟨by rfl, ?_⟩) (by assumption) ?_
              rotate_left
              · intro w hSw; (try dsimp only at hSw); go_simp <;> with_reducible rfl
              simp only [Act.put, List.setIfInBounds_toArray, List.set_cons_zero, List.set_cons_succ]
              refine wpAnyH_ready (rs := [1, 23]) (by kernel_rfl) (by simp) ?_
              refine AllReadyH.cons (o := { dst := some 56, op := Op.load 24 (Operand.tmp 55), type := 24, pos := "law.go:292", after := #[{ on := 0, ground := Ground.data }], guard := none }) rfl (fun K hK => ?_) ?_
              · skip
                go_simp
                refine hK.out _ _ ?_ (fun hHeld => ?_)
                · exact hSx.out _ _ _ _ _ _ _ _ _ _ _ hX21.out.z
                clear hK K
                try simp only [Act.put, List.setIfInBounds_toArray, List.set_cons_zero, List.set_cons_succ]
                refine wpAnyH_ready (rs := [23]) (by kernel_rfl) (by simp) ?_
                refine AllReadyH.cons (o := { dst := some 78, op := Op.buildSlice 24 1 #[(0, Operand.tmp 77)], type := 24, pos := "law.go:292", after := #[{ on := 22, ground := Ground.data }], guard := none }) rfl (fun K hK => ?_) AllReadyH.nil
                go_simp
                refine hK.out _ _ ?_ (fun hHeld => ?_)
                · exact hSx.out _ _ _ _ _ _ _ _ _ _ _ hX21a.out.z
                clear hK K
                try simp only [Act.put, List.setIfInBounds_toArray, List.set_cons_zero, List.set_cons_succ]
                refine wpAnyH_ready (rs := [24]) (by kernel_rfl) (by simp) ?_
                refine AllReadyH.cons (o := { dst := some 79, op := Op.call { callee := Callee.builtin Builtin.append, args := #[Operand.tmp 56, Operand.tmp 78], argTypes := #[24, 24] }, type := 24, pos := "law.go:292", after := #[{ on := 1, ground := Ground.data }, { on := 23, ground := Ground.data }, { on := 21, ground := Ground.chain }], guard := none }) rfl (fun K hK => ?_) AllReadyH.nil
                rw [if_pos (by rfl)]
                refine zxApp (.tmp 56) (.tmp 78) r (.slice (some ⟨g7, 0, none⟩) r.steps.length c7) rfl rfl rfl hX21.out rfl hPl.out ?_; intro g9 c9 v24 hX24; have f24 := hX24.out.q.frz 3; have y24 := hX24.out.q.c3; have hX26 := hide' (hX24.out.store (hX24.out.q.s3 (.slice (some ⟨g9, 0, none⟩) (PP.length + 1) c9))); (try dsimp only)
                refine hK.out _ _ ?_ (fun hHeld => ?_)
                · exact hSx.out _ _ _ _ _ _ _ _ _ _ _ hX24.out.z
                clear hK K
                try simp only [Act.put, List.setIfInBounds_toArray, List.set_cons_zero, List.set_cons_succ]
                refine wpAnyH_take (i := 25) (oi := { dst := some 80, op := Op.fieldAddr 26 (Operand.tmp 12) 3, type := 0, pos := "law.go:292", after := #[{ on := 0, ground := Ground.phase }, { on := 1, ground := Ground.phase }, { on := 2, ground := Ground.phase }, { on := 3, ground := Ground.phase }, { on := 4, ground := Ground.phase }, { on := 5, ground := Ground.phase }, { on := 6, ground := Ground.phase }, { on := 7, ground := Ground.phase }, { on := 8, ground := Ground.phase }, { on := 9, ground := Ground.phase }, { on := 10, ground := Ground.phase }, { on := 11, ground := Ground.phase }, { on := 12, ground := Ground.phase }, { on := 13, ground := Ground.phase }, { on := 14, ground := Ground.phase }, { on := 15, ground := Ground.phase }, { on := 16, ground := Ground.phase }, { on := 17, ground := Ground.phase }, { on := 18, ground := Ground.phase }, { on := 19, ground := Ground.phase }, { on := 20, ground := Ground.phase }, { on := 21, ground := Ground.phase }, { on := 22, ground := Ground.phase }, { on := 23, ground := Ground.phase }, { on := 24, ground := Ground.phase }], guard := none }) (v := ?_) rfl (by kernel_rfl) (by kernel_rfl) (by kernel_rfl) (fun _ _ _ h => h) (Or.inl ⟨by rfl, ?_⟩) (by assumption) ?_
                rotate_left
                · intro w hSw; (try dsimp only at hSw); go_simp <;> with_reducible rfl
                simp only [Act.put, List.setIfInBounds_toArray, List.set_cons_zero, List.set_cons_succ]
                refine wpAnyH_ready (rs := [26]) (by kernel_rfl) (by simp) ?_
                refine AllReadyH.cons (o := { dst := none, op := Op.store 24 (Operand.tmp 80) (Operand.tmp 79), type := 0, pos := "law.go:292", after := #[{ on := 25, ground := Ground.data }, { on := 24, ground := Ground.data }, { on := 24, ground := Ground.chain }, { on := 0, ground := Ground.phase }, { on := 1, ground := Ground.phase }, { on := 2, ground := Ground.phase }, { on := 3, ground := Ground.phase }, { on := 4, ground := Ground.phase }, { on := 5, ground := Ground.phase }, { on := 6, ground := Ground.phase }, { on := 7, ground := Ground.phase }, { on := 8, ground := Ground.phase }, { on := 9, ground := Ground.phase }, { on := 10, ground := Ground.phase }, { on := 11, ground := Ground.phase }, { on := 12, ground := Ground.phase }, { on := 13, ground := Ground.phase }, { on := 14, ground := Ground.phase }, { on := 15, ground := Ground.phase }, { on := 16, ground := Ground.phase }, { on := 17, ground := Ground.phase }, { on := 18, ground := Ground.phase }, { on := 19, ground := Ground.phase }, { on := 20, ground := Ground.phase }, { on := 21, ground := Ground.phase }, { on := 22, ground := Ground.phase }, { on := 23, ground := Ground.phase }, { on := 24, ground := Ground.phase }], guard := none }) rfl (fun K hK => ?_) AllReadyH.nil
                go_simp
                refine hK.out _ _ ?_ (fun hHeld => ?_)
                · exact hSx.out _ _ _ _ _ _ _ _ _ _ _ hX26.out.z
                clear hK K
                try simp only [Act.put, List.setIfInBounds_toArray, List.set_cons_zero, List.set_cons_succ]
                refine wpAnyH_done (by kernel_rfl) ?_ _
                skip
                have hmv := hide' (hm.out (.slice (some ⟨g7, 0, none⟩) r.steps.length c7))
                clear hm f24 y24
                go_wp2
                exact ⟨⟨i + 1, _, _, _, _, by omega, by go_num, hmv, hX26⟩, by simp [intOf]; omega⟩
              refine AllReadyH.cons (o := { dst := some 78, op := Op.buildSlice 24 1 #[(0, Operand.tmp 77)], type := 24, pos := "law.go:292", after := #[{ on := 22, ground := Ground.data }], guard := none }) rfl (fun K hK => ?_) AllReadyH.nil
              go_simp
              refine hK.out _ _ ?_ (fun hHeld => ?_)
              · exact hSx.out _ _ _ _ _ _ _ _ _ _ _ hX21a.out.z
              clear hK K
              try simp only [Act.put, List.setIfInBounds_toArray, List.set_cons_zero, List.set_cons_succ]
              refine wpAnyH_ready (rs := [1]) (by kernel_rfl) (by simp) ?_
              refine AllReadyH.cons (o := { dst := some 56, op := Op.load 24 (Operand.tmp 55), type := 24, pos := "law.go:292", after := #[{ on := 0, ground := Ground.data }], guard := none }) rfl (fun K hK => ?_) AllReadyH.nil
              go_simp
              refine hK.out _ _ ?_ (fun hHeld => ?_)
              · exact hSx.out _ _ _ _ _ _ _ _ _ _ _ hX21a.out.z
              clear hK K
              try simp only [Act.put, List.setIfInBounds_toArray, List.set_cons_zero, List.set_cons_succ]
              refine wpAnyH_ready (rs := [24]) (by kernel_rfl) (by simp) ?_
              refine AllReadyH.cons (o := { dst := some 79, op := Op.call { callee := Callee.builtin Builtin.append, args := #[Operand.tmp 56, Operand.tmp 78], argTypes := #[24, 24] }, type := 24, pos := "law.go:292", after := #[{ on := 1, ground := Ground.data }, { on := 23, ground := Ground.data }, { on := 21, ground := Ground.chain }], guard := none }) rfl (fun K hK => ?_) AllReadyH.nil
              rw [if_pos (by rfl)]
              refine zxApp (.tmp 56) (.tmp 78) r (.slice (some ⟨g7, 0, none⟩) r.steps.length c7) rfl rfl rfl hX21.out rfl hPl.out ?_; intro g9 c9 v24 hX24; have f24 := hX24.out.q.frz 3; have y24 := hX24.out.q.c3; have hX26 := hide' (hX24.out.store (hX24.out.q.s3 (.slice (some ⟨g9, 0, none⟩) (PP.length + 1) c9))); (try dsimp only)
              refine hK.out _ _ ?_ (fun hHeld => ?_)
              · exact hSx.out _ _ _ _ _ _ _ _ _ _ _ hX24.out.z
              clear hK K
              try simp only [Act.put, List.setIfInBounds_toArray, List.set_cons_zero, List.set_cons_succ]
              refine wpAnyH_take (i := 25) (oi := { dst := some 80, op := Op.fieldAddr 26 (Operand.tmp 12) 3, type := 0, pos := "law.go:292", after := #[{ on := 0, ground := Ground.phase }, { on := 1, ground := Ground.phase }, { on := 2, ground := Ground.phase }, { on := 3, ground := Ground.phase }, { on := 4, ground := Ground.phase }, { on := 5, ground := Ground.phase }, { on := 6, ground := Ground.phase }, { on := 7, ground := Ground.phase }, { on := 8, ground := Ground.phase }, { on := 9, ground := Ground.phase }, { on := 10, ground := Ground.phase }, { on := 11, ground := Ground.phase }, { on := 12, ground := Ground.phase }, { on := 13, ground := Ground.phase }, { on := 14, ground := Ground.phase }, { on := 15, ground := Ground.phase }, { on := 16, ground := Ground.phase }, { on := 17, ground := Ground.phase }, { on := 18, ground := Ground.phase }, { on := 19, ground := Ground.phase }, { on := 20, ground := Ground.phase }, { on := 21, ground := Ground.phase }, { on := 22, ground := Ground.phase }, { on := 23, ground := Ground.phase }, { on := 24, ground := Ground.phase }], guard := none }) (v := ?_) rfl (by kernel_rfl) (by kernel_rfl) (by kernel_rfl) (fun _ _ _ h => h) (Or.inl ⟨by rfl, ?_⟩) (by assumption) ?_
              rotate_left
              · intro w hSw; (try dsimp only at hSw); go_simp <;> with_reducible rfl
              simp only [Act.put, List.setIfInBounds_toArray, List.set_cons_zero, List.set_cons_succ]
              refine wpAnyH_ready (rs := [26]) (by kernel_rfl) (by simp) ?_
              refine AllReadyH.cons (o := { dst := none, op := Op.store 24 (Operand.tmp 80) (Operand.tmp 79), type := 0, pos := "law.go:292", after := #[{ on := 25, ground := Ground.data }, { on := 24, ground := Ground.data }, { on := 24, ground := Ground.chain }, { on := 0, ground := Ground.phase }, { on := 1, ground := Ground.phase }, { on := 2, ground := Ground.phase }, { on := 3, ground := Ground.phase }, { on := 4, ground := Ground.phase }, { on := 5, ground := Ground.phase }, { on := 6, ground := Ground.phase }, { on := 7, ground := Ground.phase }, { on := 8, ground := Ground.phase }, { on := 9, ground := Ground.phase }, { on := 10, ground := Ground.phase }, { on := 11, ground := Ground.phase }, { on := 12, ground := Ground.phase }, { on := 13, ground := Ground.phase }, { on := 14, ground := Ground.phase }, { on := 15, ground := Ground.phase }, { on := 16, ground := Ground.phase }, { on := 17, ground := Ground.phase }, { on := 18, ground := Ground.phase }, { on := 19, ground := Ground.phase }, { on := 20, ground := Ground.phase }, { on := 21, ground := Ground.phase }, { on := 22, ground := Ground.phase }, { on := 23, ground := Ground.phase }, { on := 24, ground := Ground.phase }], guard := none }) rfl (fun K hK => ?_) AllReadyH.nil
              go_simp
              refine hK.out _ _ ?_ (fun hHeld => ?_)
              · exact hSx.out _ _ _ _ _ _ _ _ _ _ _ hX26.out.z
              clear hK K
              try simp only [Act.put, List.setIfInBounds_toArray, List.set_cons_zero, List.set_cons_succ]
              refine wpAnyH_done (by kernel_rfl) ?_ _
              skip
              have hmv := hide' (hm.out (.slice (some ⟨g7, 0, none⟩) r.steps.length c7))
              clear hm f24 y24
              go_wp2
              exact ⟨⟨i + 1, _, _, _, _, by omega, by go_num, hmv, hX26⟩, by simp [intOf]; omega⟩
            · obtain rfl : i = Q.rules.length := by omega
              rw [List.take_length] at hPP
              clear hqc
              go_wp2
              go_meet
              exact ⟨o3, n3, c3, PP, hPP, hX⟩
        case rest =>
          clear hX
          obtain ⟨o3, n3, c3, PP, hPP, hX⟩ := hcut
          have hX0 := hide' (hX.out.more (show 200 * j + 2 + Q.rules.length ≤ 200 * j + 50 by omega))
          have hl0 : Hid (a0 ≤ 16000000000000 ∧ b0 ≤ 16000000000000 ∧ c0 ≤ 16000000000000) := ⟨by have := hle.out.1; omega, by have := hle.out.2.1; omega, by have := hle.out.2.2; omega⟩
          have hcC : Hid (∀ (a b c mm : Nat) (xw xf xr : Value) (Lw : List Nat) (Lf : List Int) (PP : List (Rl × Value)) (E H : List (Value × List Int)) (F : Nat → Prop) (V : World), Z2 V0 (Rs V0 gs a b c) B p mm xw xf xr Lw Lf PP E H F V → V.cell? ⟨g, 3, none⟩ = some (.slice or Q.rules.length cr)) := fun a b c mm xw xf xr Lw Lf PP E H F V hz => (hSb.out.at hz).1.all.2.2.2
          clear hX hQl
          generalize hwv : Value.slice (some ⟨gw, 0, none⟩) Q.who.length cw2 = vw at *
          generalize hfv : Value.slice (some ⟨gf, 0, none⟩) Q.fixed.length cf2 = vf at *
          generalize hrv : Value.slice o3 n3 c3 = vr at *
          have KL := hide' (xLeast hSb.out hX0.out hPP.out hk.out (by have := hl0.out; omega))
          have y0 := hX0.out.q.c0
          have y1 := hX0.out.q.c1
          have y2 := hX0.out.q.c2
          have y3 := hX0.out.q.c3
          clear hX0
          unfold pbV at KL
          go_wp2_with fail
          refine KL.out.mono ?_
          rintro e w1 ⟨a1, b1, c1, v1, l, ok1, rfl, hLq, hl1, hZ1, hQ1, hO1⟩
          have KB := hide' (xBook hZ1.out hQ1.out hO1.out hLq.out.len)
          clear KL y0 y1 y2 y3 hZ1 hQ1 hO1
          go_wp2_with fail
          refine KB.out.mono ?_
          rintro e w2 ⟨rfl, hX2⟩
          have KC := hide' (xCan hSb.out hX2.out hPP.out hk.out (by have := hl0.out; have := hl1.out; omega))
          have y0 := hX2.out.q.c0
          have y1 := hX2.out.q.c1
          have y2 := hX2.out.q.c2
          have y3 := hX2.out.q.c3
          unfold pbV at KC
          clear KB hX2
          go_wp2_with fail
          refine KC.out.mono ?_
          rintro e w3 ⟨a2, b2, c2, ok2, rfl, hl2, hX3⟩
          have hle2 : Hid (a2 ≤ 8000000000000 * (j + 1) ∧ b2 ≤ 8000000000000 * (j + 1) ∧ c2 ≤ 8000000000000 * (j + 1)) := by
            have h1 := hle.out; have h2 := hl1.out; have h3 := hl2.out
            refine ⟨?_, ?_, ?_⟩ <;> omega
          have KK := hide' (xCheck hX3.out hPP.out hk.out)
          clear KC y0 y1 y2 y3 hle hl0 hl1 hl2
          have y0 := hX3.out.q.c0
          have y1 := hX3.out.q.c1
          have y2 := hX3.out.q.c2
          have y3 := hX3.out.q.c3
          unfold pbV at KK
          clear hX3
          go_wp2_with fail
          refine KK.out.mono ?_
          rintro e w4 ⟨nc, rfl, hX4⟩
          clear KK y0 y1 y2 y3
          go_upto_region 19 with fail
          have hX4d := hide' (hX4.out.below (Below.refl _ w4).drew)
          clear hX4
          refine wp_region_held_drew (S := (fun V => V.cell? ⟨gx, 0, none⟩ = some (.int .i64 Q.users) ∧ V.cell? ⟨gx, 1, none⟩ = some vw ∧ V.cell? ⟨gx, 2, none⟩ = some vf ∧ V.cell? ⟨gx, 3, none⟩ = some vr)) (by kernel_rfl) ?_ (fun hHeld => ?_)
          · exact ⟨hX4d.out.q.c0, hX4d.out.q.c1, hX4d.out.q.c2, hX4d.out.q.c3⟩
          refine wpAnyH_take (i := 0) (oi := { dst := some 95, op := Op.load 26 (Operand.tmp 12), type := 26, pos := "law.go:298", after := #[], guard := none }) (v := ?_) rfl (by kernel_rfl) (by kernel_rfl) (by kernel_rfl) (fun _ _ _ h => h) (Or.inl ⟨by rfl, ?_⟩) (by assumption) ?_
          rotate_left
          · intro w hSw; (try dsimp only at hSw); go_simp <;> with_reducible rfl
          simp only [Act.put, List.setIfInBounds_toArray, List.set_cons_zero, List.set_cons_succ]
          refine wpAnyH_take (i := 1) (oi := { dst := some 96, op := Op.move (Operand.tmp 10), type := 37, pos := "law.go:298", after := #[], guard := none }) (v := ?_) rfl (by kernel_rfl) (by kernel_rfl) (by kernel_rfl) (fun _ _ _ h => h) (Or.inl ⟨by rfl, ?_⟩) (by assumption) ?_
          rotate_left
          · intro w hSw; (try dsimp only at hSw); go_simp <;> with_reducible rfl
          simp only [Act.put, List.setIfInBounds_toArray, List.set_cons_zero, List.set_cons_succ]
          refine wpAnyH_take (i := 2) (oi := { dst := some 97, op := Op.move (Operand.tmp 14), type := 23, pos := "law.go:298", after := #[], guard := none }) (v := ?_) rfl (by kernel_rfl) (by kernel_rfl) (by kernel_rfl) (fun _ _ _ h => h) (Or.inl ⟨by rfl, ?_⟩) (by assumption) ?_
          rotate_left
          · intro w hSw; (try dsimp only at hSw); go_simp <;> with_reducible rfl
          simp only [Act.put, List.setIfInBounds_toArray, List.set_cons_zero, List.set_cons_succ]
          refine wpAnyH_ready (rs := [3]) (by kernel_rfl) (by simp) ?_
          refine AllReadyH.cons (o := { dst := some 98, op := Op.call { callee := Callee.value (Operand.func 9), args := #[Operand.tmp 96, Operand.tmp 97], argTypes := #[37, 23] }, type := 23, pos := "law.go:298", after := #[{ on := 1, ground := Ground.data }, { on := 2, ground := Ground.data }], guard := none }) rfl (fun K hK => ?_) AllReadyH.nil
          go_simp
          go_at_call 9; refine (zxInts hX4d.out (by omega) v1 l (hX4d.out.z.held List.mem_cons_self) hLq.out.len).mono ?_; rintro e v19 ⟨g19, c19, rfl, hX19⟩; (try dsimp only)
          refine hK.out _ _ ?_ (fun hHeld => ?_)
          · exact ⟨hX19.out.q.c0, hX19.out.q.c1, hX19.out.q.c2, hX19.out.q.c3⟩
          clear hK K
          try simp only [Act.put, List.setIfInBounds_toArray, List.set_cons_zero, List.set_cons_succ]
          refine wpAnyH_ready (rs := [4]) (by kernel_rfl) (by simp) ?_
          refine AllReadyH.cons (o := { dst := some 99, op := Op.call { callee := Callee.value (Operand.func 14), args := #[Operand.tmp 95, Operand.tmp 98], argTypes := #[26, 23] }, type := 4, pos := "law.go:298", after := #[{ on := 0, ground := Ground.data }, { on := 3, ground := Ground.data }, { on := 3, ground := Ground.chain }], guard := none }) rfl (fun K hK => ?_) AllReadyH.nil
          go_simp
          go_at_call 14; refine (xHolds hX19.out hPP.out hk.out hLq.out).mono ?_; rintro e v20 ⟨ok20, rfl, hX20⟩; (try dsimp only)
          refine hK.out _ _ ?_ (fun hHeld => ?_)
          · exact ⟨hX20.out.q.c0, hX20.out.q.c1, hX20.out.q.c2, hX20.out.q.c3⟩
          clear hK K
          try simp only [Act.put, List.setIfInBounds_toArray, List.set_cons_zero, List.set_cons_succ]
          refine wpAnyH_done (by kernel_rfl) ?_ _
          skip
          clear hX4d hX19
          have hi20 := hX20.out.z.held List.mem_cons_self
          have KI := hide' (zxInts hX20.out (by omega) v1 l hi20 hLq.out.len)
          clear hX20 hi20
          go_wp2_with fail
          refine KI.out.mono ?_
          rintro e w5 ⟨g5, c5, rfl, hX5⟩
          have KI2 := hide' (zxInts hX5.out (by omega) v1 l (hX5.out.z.held List.mem_cons_self) hLq.out.len)
          clear KI hX5
          go_wp2_with fail
          refine KI2.out.mono ?_
          rintro e w6 ⟨g6, c6, rfl, hX6⟩
          have KF := hide' (xBefore hX6.out hLq.out)
          clear KI2 hX6
          go_wp2_with fail
          refine KF.out.mono ?_
          rintro e w7 ⟨ok7, rfl, hX7⟩
          clear KF hLq
          have KX := hide' (xFix (s := s) (x := x) hX7.out hPP.out hk.out)
          have y0 := hX7.out.q.c0
          have y1 := hX7.out.q.c1
          have y2 := hX7.out.q.c2
          have y3 := hX7.out.q.c3
          unfold pbV at KX
          clear hX7
          go_wp2_with fail
          refine KX.out.mono ?_
          rintro e w8 ⟨va, vb, vc, ⟨oa, ca, ob, cb, oc, cc, rfl, rfl, rfl⟩, rfl, _, hY⟩
          clear KX y0 y1 y2 y3
          have hYok := hide' (fxP_ok (s := s) (x := x) hk.out)
          go_upto_if 115 with fail
          generalize w8.alloc (.cells #[.int .i64 (fxP Q s x).users, .slice oa (fxP Q s x).who.length ca, .slice ob (fxP Q s x).fixed.length cb, .slice oc (fxP Q s x).rules.length cc] 26) = w9 at *
          generalize w8.heap.size = gy at *
          generalize fxN Q s x = nn at *
          generalize fxP Q s x = Y at *
          go_cut [18, 19] from 116 to 150 (fun _ _ wx => Hid (Zx V0 (Rs V0 gs a2 b2 c2) B p (200 * j + 50 + 1 + 1 + 1) vw vf vr Q.who Q.fixed PP [] [] gx Q.users vw vf vr wx))
          case first =>
            as_aux_lemma =>
            by_cases hnn : nn = 0
            · subst hnn
              obtain ⟨B2, E, hE, hDv, KY⟩ := yStart hY.out hYok.out.1
              have KY := hide' KY
              have hDv := hide' hDv
              have hEl : Hid (E.length ≤ 1000 ∧ (∀ q ∈ E, q.1.steps.length ≤ 1000) ∧ Y.who.length ≤ 1000) := ⟨by have := hYok.out.2.2.1; rw [← hE, List.length_map] at this; exact this, fun q hq => hYok.out.2.2.2 q.1 (by rw [← hE]; exact List.mem_map_of_mem hq), hYok.out.2.1⟩
              have z2 := hY.out.qy.c2
              have hEr : E.length = Y.rules.length := by rw [← hE, List.length_map]
              clear hYok hE hY
              generalize Y.rules.length = nr at *
              subst hEr
              go_wp2_with fail
              refine KY.out.mono ?_
              rintro e w10 ⟨rfl, hK, hx8, hy8⟩
              clear KY z2
              generalize Y.fixed = Yf at *
              generalize Y.who = Yw at *
              generalize Y.users = Yu at *
              clear Y
              go_wp2
              go_loopw [18] (fun kv wr => ∃ i : Nat, i ≤ E.length ∧ kv = .int .i64 (i : Int) ∧ Hid (Yk V0 (Rs V0 gs a2 b2 c2) B p (200 * j + 50 + 1 + 1 + 1) vw vf vr Q.who Q.fixed PP gx gy B2 Yw.length (.slice oa Yw.length ca) (.slice oc E.length cc) (cellsW Yw) E i wr) ∧ Hid (QAt wr gx Q.users vw vf vr) ∧ Hid (QAt wr gy Yu (.slice oa Yw.length ca) (.slice ob Yf.length cb) (.slice oc E.length cc))) (fun kv _ => ((E.length : Int) - intOf kv).toNat)
              case atStart => exact ⟨0, Nat.zero_le _, rfl, hK, hx8, hy8⟩
              case round =>
                have hE1 : E.length ≤ 1000 := hEl.out.1
                have hY1 : Yw.length ≤ 1000 := hEl.out.2.2
                clear hK hx8 hy8
                obtain ⟨i, hi, rfl, hK, hx, hy⟩ := hrel
                have z3 := hy.out.c3
                by_cases hlt3 : i < E.length
                · have hlt3' : (i : Int) < (E.length : Int) := by omega
                  have hi0 : ¬ (i : Int) < 0 := by omega
                  obtain ⟨q, hq⟩ : ∃ q, E[i]? = some q := ⟨_, List.getElem?_eq_getElem hlt3⟩
                  obtain ⟨gc, c4, e4, z4⟩ := yCell hK.out hq
                  injection e4 with e4 _ e5
                  subst e4 e5
                  have KB := hide' (yBook hK.out hx.out hy.out hDv.out hq (by have := hEl.out.2.1 q (List.mem_of_getElem? hq); omega))
                  have hq' := hide' hq
                  clear hK hx hy hDv hEl hq
                  go_wp2_with fail
                  refine KB.out.mono ?_
                  rintro e w11 ⟨rfl, hZ9, hr9⟩
                  obtain ⟨r1, r2, r3, r4, r5⟩ := hr9.out
                  have z5 := r5.c3
                  obtain ⟨z6, z7⟩ := yFrz r2 hq'.out
                  have hN := hide' (yKind hZ9.out r1 r2 r3 r4 r5 hq'.out)
                  clear KB z3 z4 hZ9 hr9 r1 r2 r3 r4 r5 hq'
                  go_wp2
                  exact ⟨⟨i + 1, by omega, by go_num, hN.out.1, hN.out.2.1, hN.out.2.2⟩, by simp [intOf]; omega⟩
                · obtain rfl : i = E.length := by omega
                  go_wp2
                  go_loopw [19] (fun kv wr => ∃ (k : Nat) (xs : List Value), k ≤ Yw.length ∧ kv = .int .i64 (k : Int) ∧ Hid (Yk V0 (Rs V0 gs a2 b2 c2) B p (200 * j + 50 + 1 + 1 + 1) vw vf vr Q.who Q.fixed PP gx gy B2 Yw.length (.slice oa Yw.length ca) (.slice oc E.length cc) xs E E.length wr) ∧ Hid (QAt wr gx Q.users vw vf vr) ∧ Hid (QAt wr gy Yu (.slice oa Yw.length ca) (.slice ob Yf.length cb) (.slice oc E.length cc))) (fun kv _ => ((Yw.length : Int) - intOf kv).toNat)
                  case atStart => exact ⟨0, _, Nat.zero_le _, rfl, hK, hx, hy⟩
                  case round =>
                    clear hK hx hy z3
                    obtain ⟨k, xs, hk2, rfl, hK, hx, hy⟩ := hrel
                    have z3 := hy.out.c1
                    by_cases hlt4 : k < Yw.length
                    · have hlt4' : (k : Int) < (Yw.length : Int) := by omega
                      have hk0 : ¬ (k : Int) < 0 := by omega
                      obtain ⟨gz, c4, xo, e4, z4, z5⟩ := wCell hK.out hlt4
                      injection e4 with e4 _ e5
                      subst e4 e5
                      have hN := hide' (yWord (k := k) (x := .int .u64 0) hK.out hx.out hy.out)
                      clear hK hx hy
                      go_wp2
                      exact ⟨⟨k + 1, _, by omega, by go_num, hN.out.1, hN.out.2.1, hN.out.2.2⟩, by simp [intOf]; omega⟩
                    · obtain rfl : k = Yw.length := by omega
                      have hx9 := hide' (hK.out.x hx.out)
                      clear hK hx hy
                      go_wp2
                      go_meet
                      exact hx9
            · have hnn' : ¬ (nn : Int) = 0 := by omega
              have hx9 := hide' hY.out.x
              clear hY
              go_wp2
              go_meet
              exact hx9
          case rest =>
            clear hY hYok
            have hX9 := hcut
            have KR := hide' (xKeep hSb.out hX9.out hPP.out hk.out)
            have y3 := hX9.out.q.c3
            have z3 := hcC.out _ _ _ _ _ _ _ _ _ _ _ _ _ _ hX9.out.z
            clear hcut hX9
            go_wp2_with fail
            refine KR.out.mono ?_
            rintro e w12 ⟨rfl, hX10⟩
            have hfin := hide' (hX10.out.z.nil.more (show 200 * j + 50 + 1 + 1 + 1 ≤ 200 * (j + 1) by omega))
            clear KR y3 z3 hX10 hcC
            go_wp2
            exact ⟨⟨j + 1, a2, b2, c2, by omega, by go_num, hfin, hle2⟩, by simp [intOf]; omega⟩
    · obtain rfl : j = 2 := by omega
      have KB := hide' (z2Back hZ.out (by omega))
      have KC : Hid (∀ V (tB : Nat → Nat), K.Book V B tB → Calls Tryz.prog 19 #[.pointer (some ⟨B, 0, none⟩)] V fun e w' => e = .returned (.bool true) ∧ K.Sm (· ≠ 0) tB V w') := fun V tB hk => K.bookClose B tB V hk
      clear hZ hle hSb hk
      go_wp2_with fail
      refine KB.out.mono ?_
      rintro e w6 ⟨rfl, h6⟩
      obtain ⟨hR6, ⟨e1, e2, e3, e4⟩, tB, hBk, hlow⟩ := h6.out
      have KC6 := hide' (KC.out w6 tB hBk)
      have hlow' := hide' hlow
      have hen : Hid (w6.os = V0.os ∧ w6.tape = V0.tape ∧ w6.output = V0.output ∧ V0.heap.size ≤ w6.heap.size) := ⟨e1, e2, e3, e4⟩
      have hR6' := hide' hR6
      clear KB KC h6 hR6 e1 e2 e3 e4 hBk hlow
      go_wp2_with fail
      refine KC6.out.mono ?_
      rintro e w7 ⟨rfl, hs7⟩
      have hfin : Hid (Below w.heap.size w w7) := Rs.fin hBle.out.1 hR6'.out hen.out hlow'.out hs7 hgsw.out
      clear KC6 hs7
      go_wp2
      go_ret
      exact ⟨rfl, hfin.out⟩
end Go.Proofs.YtkmglmfdcmcobaaGreatDoor.S
