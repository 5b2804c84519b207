/- HardyNeeded, walked. -/
import Derived.Test.YtmbdnhgmpmnhmaaDoorJ29
namespace Go.Proofs.YtmbdnhgmpmnhmaaDoor.S
open Go.RowKit Go.Shelf
set_option maxRecDepth 100000 in
set_option maxHeartbeats 4000000 in
theorem hardyNeeded_walk (P : Pb) (wv fv rv : Value) (w : World) (h : PbV w P wv fv rv) (hb : ∀ z ∈ P.who, z < 18446744073709551616) (ht : M.Tab w) :
    Calls Tryd.prog 4 #[pbV P wv fv rv] w fun e w' => e = .returned (.bool true) ∧ Below w.heap.size w w' := by
  have hB0 : Hid (Below w.heap.size w (w.alloc (.cells #[.int .i64 P.users, wv, fv, rv] 26))) := (Below.refl _ w).alloc (Nat.le_refl _) _
  have K0 := hide' (cutC P wv fv rv _ (h.below hB0.out))
  have hk := hide' (cutP_ok hb)
  have ht' := hide' ht
  have hGw := ht.2
  have hQb : Hid (∀ V (a b c : Value), PbV V (cutP P) a b c → Calls Tryd.prog 5 #[pbV (cutP P) a b c] V fun e w' => ∃ va vb vc, e = .returned (pbV (cutP P) va vb vc) ∧ Hid (PbV w' (cutP P) va vb vc) ∧ Hid (Below V.heap.size V w') ∧ Hid (∀ ad n c, va = .slice (some ad) n c → V.heap.size ≤ ad.block ∧ ad.block < w'.heap.size)) := fun V a b c hq => cutD P a b c V hq
  clear h ht hb
  unfold pbV at K0 hQb ⊢
  generalize cutP P = Q at *
  go_enter Tryd.func4, Tryd.ntmps4
  go_wp2_with fail
  refine K0.out.mono ?_
  rintro e w1 ⟨qw, qf, qr, rfl, hq1, hb1, ho1⟩
  have hB1 : Hid (Below w.heap.size w w1) := hB0.out.trans (hb1.out.mono hB0.out.size)
  obtain ⟨ow, cw, of, cf, or, cr, rfl, rfl, rfl⟩ := hq1.out.shape
  have hbA : Hid (Below w1.heap.size w1 (w1.alloc (.cells #[.int .i64 Q.users, .slice ow Q.who.length cw, .slice of Q.fixed.length cf, .slice or Q.rules.length cr] 26))) := (Below.refl _ w1).alloc (Nat.le_refl _) _
  have hpA : Hid (PbB (w1.alloc (.cells #[.int .i64 Q.users, .slice ow Q.who.length cw, .slice of Q.fixed.length cf, .slice or Q.rules.length cr] 26)) w1.heap.size Q (.slice ow Q.who.length cw) (.slice of Q.fixed.length cf) (.slice or Q.rules.length cr)) := heap_new w1 _
  have hqA := hide' (hq1.out.below hbA.out)
  have hBA := hide' (hB1.out.trans (hbA.out.mono hB1.out.size))
  have hoA : Hid (∀ ad n c, Value.slice ow Q.who.length cw = .slice (some ad) n c → ad.block < w1.heap.size) := fun ad n c e => (ho1.out ad n c e).2
  have hzA : Hid (w1.heap.size < (w1.alloc (.cells #[.int .i64 Q.users, .slice ow Q.who.length cw, .slice of Q.fixed.length cf, .slice or Q.rules.length cr] 26)).heap.size) := (Array.getElem?_eq_some_iff.1 hpA.out).1
  clear hb1 hB0 K0 hq1 ho1 hbA
  go_wp2_with fail
  generalize w1.alloc (.cells #[.int .i64 Q.users, .slice ow Q.who.length cw, .slice of Q.fixed.length cf, .slice or Q.rules.length cr] 26) = w3 at *
  refine (newF _).mono ?_
  rintro e w4 ⟨rfl, hg4, hb4⟩
  have hD4 : Hid (Hd w Q (.slice ow Q.who.length cw) (.slice of Q.fixed.length cf) (.slice or Q.rules.length cr) w1.heap.size w3.heap.size 0 0 0 w4) := ⟨⟨hpA.out.below hb4.out, hqA.out.below hb4.out, hg4.out, ht'.out.over (hBA.out.trans (hb4.out.mono hBA.out.size)), hBA.out.trans (hb4.out.mono hBA.out.size)⟩, hBA.out.size, (fun ad n c e => by have := hoA.out ad n c e; have := hzA.out; omega), (by have := hzA.out; omega), Nat.le_trans hGw hBA.out.size⟩
  clear hpA hqA hg4 hb4 hB1 hBA hzA hoA ht'
  generalize w3.heap.size = gs at *
  generalize w1.heap.size = g at *
  clear w3 w1
  have K1 : Hid (∀ V a b c, Hd w Q (.slice ow Q.who.length cw) (.slice of Q.fixed.length cf) (.slice or Q.rules.length cr) g gs a b c V → Calls Tryd.prog 5 #[.agg #[.int .i64 Q.users, .slice ow Q.who.length cw, .slice of Q.fixed.length cf, .slice or Q.rules.length cr]] V fun e w' => ∃ va vb vc, e = .returned (.agg #[.int .i64 Q.users, va, vb, vc]) ∧ Hid (PbV w' Q va vb vc) ∧ Hid (Below V.heap.size V w') ∧ Hid (∀ ad n c, va = .slice (some ad) n c → V.heap.size ≤ ad.block ∧ ad.block < w'.heap.size)) := fun V a b c hV => hQb.out V _ _ _ hV.s.pv
  have K3 : Hid (∀ V a b c X x1 x2 x3, Hd w Q (.slice ow Q.who.length cw) (.slice of Q.fixed.length cf) (.slice or Q.rules.length cr) g gs a b c V → PbV V X x1 x2 x3 → Pok X → a ≤ 2305843009213693952 → b ≤ 2305843009213693952 → c ≤ 2305843009213693952 → Calls Tryd.prog 11 #[.pointer (some ⟨gs, 0, none⟩), .agg #[.int .i64 X.users, x1, x2, x3]] V (CaP V X gs a b c)) := fun V a b c X x1 x2 x3 hV hX hok ha hb hc => canF X x1 x2 x3 gs a b c V hX hok hV.s.gg hV.hG hV.s.tab ha hb hc
  unfold CaP at K3
  have KN : Hid (∀ V va vb vc, M.Tab V → PbV V Q va vb vc → Calls Tryd.prog 10 #[.agg #[.int .i64 Q.users, va, vb, vc]] V fun e w' => e = .returned (.int .u64 ((nedP Q : Nat) : Int)) ∧ Below V.heap.size V w') := fun V va vb vc hT hq => neededF Q va vb vc V hq hk.out hT
  have KL : Hid (∀ V va vb vc (u : Nat), u < 64 → PbV V Q va vb vc → Calls Tryd.prog 13 #[.agg #[.int .i64 Q.users, va, vb, vc], .int .u64 ((2 ^ u : Nat) : Int)] V (WtP V (loP Q (2 ^ u)) (chkN Q))) := fun V va vb vc u hu hq => loseF Q va vb vc (2 ^ u) (Nat.pow_lt_pow_right (by decide) hu : 2 ^ u < 2 ^ 64) V hq hk.out
  unfold WtP at KL
  have hNe := hide' (neD_of hk.out)
  have K7 := hide' (wakesHF w4 hD4.out.s.tab)
  clear hQb
  go_wp2_with fail
  refine K7.out.mono ?_
  rintro e w5 ⟨rfl, hb5⟩
  have hD5 := hide' (hD4.out.over hb5)
  clear hb5 hD4 K7
  obtain ⟨q0, q1, q2, q3⟩ := hD5.out.cells
  go_wp2_with fail
  refine (K1.out _ _ _ _ hD5.out).mono ?_
  rintro e w6 ⟨va, vb, vc, rfl, hq6, hb6, _⟩
  have hD6 := hide' (hD5.out.over hb6.out)
  clear q0 q1 q2 q3 hD5 hb6
  go_wp2_with fail
  refine (K3.out _ _ _ _ Q _ _ _ hD6.out hq6.out hk.out (by decide) (by decide) (by decide)).mono ?_
  rintro e w7 ⟨rfl, a7, b7, c7, hg7, hgc7, hf7⟩
  have hD7 := hide' (hD6.out.fr hf7.out hg7.out)
  have hle7 := hide' (hgc7.out.le (by decide))
  clear hD6 hq6 hf7 hg7 hgc7
  obtain ⟨q0, q1, q2, q3⟩ := hD7.out.cells
  go_wp2_with fail
  refine (K1.out _ _ _ _ hD7.out).mono ?_
  rintro e w8 ⟨va, vb, vc, rfl, hq8, hb8, _⟩
  have hD8 := hide' (hD7.out.over hb8.out)
  clear q0 q1 q2 q3 hD7 hb8
  go_wp2_with fail
  refine (KN.out w8 _ _ _ hD8.out.s.tab hq8.out).mono ?_
  rintro e w9 ⟨rfl, hb9⟩
  have hD9 := hide' (hD8.out.over hb9)
  clear hD8 hq8 hb9 KN
  generalize nedP Q = nd at *
  generalize canB Q = cq at *
  have hl9 : Hid (a7 ≤ 10000000000000 + 2000000000000 * 0 ∧ b7 ≤ 10000000000000 + 2000000000000 * 0 ∧ c7 ≤ 10000000000000 + 2000000000000 * 0) := by have := hle7.out; show _ ∧ _ ∧ _; omega
  clear hle7
  go_wp2
  go_loopw [7, 8, 9] (fun p _ _ wr => ∃ u a b c : Nat, u ≤ 64 ∧ p = .int .i64 (u : Int) ∧ Hid (Hd w Q (.slice ow Q.who.length cw) (.slice of Q.fixed.length cf) (.slice or Q.rules.length cr) g gs a b c wr) ∧ Hid (a ≤ 10000000000000 + 2000000000000 * u ∧ b ≤ 10000000000000 + 2000000000000 * u ∧ c ≤ 10000000000000 + 2000000000000 * u)) (fun p _ _ _ => ((64 : Int) - intOf p).toNat)
  case atStart => exact ⟨0, _, _, _, Nat.zero_le _, rfl, hD9, hl9⟩
  case round =>
    clear hD9 hl9
    obtain ⟨u, a0, b0, c0, hu, rfl, hD, hle⟩ := hrel
    by_cases hlt : u < 64
    · as_aux_lemma =>
      have hlt' : (u : Int) < 64 := by omega
      have hu0 : ¬ (u : Int) < 0 := by omega
      have he : IntKind.u64.wrap ((2 : Int) ^ u) = ((2 ^ u : Nat) : Int) := by
        have : (2 : Nat) ^ u < 18446744073709551616 := Nat.lt_of_lt_of_le (Nat.pow_lt_pow_right (by decide) hlt) (Nat.le_refl (2 ^ 64))
        rw [IntKind.wrap_u64, show ((2 : Int) ^ u) = ((2 ^ u : Nat) : Int) by push_cast; rfl]
        generalize (2 : Nat) ^ u = q at *
        omega
      have KX := hide' (fun V va vb vc => KL.out V va vb vc u hlt)
      have hSS : Hid (∀ V a b c, Hd w Q (.slice ow Q.who.length cw) (.slice of Q.fixed.length cf) (.slice or Q.rules.length cr) g gs a b c V → V.cell? ⟨g, 0, none⟩ = some (.int .i64 Q.users) ∧ V.cell? ⟨g, 1, none⟩ = some (.slice ow Q.who.length cw) ∧ V.cell? ⟨g, 2, none⟩ = some (.slice of Q.fixed.length cf) ∧ V.cell? ⟨g, 3, none⟩ = some (.slice or Q.rules.length cr)) := fun V a b c hV => hV.cells
      have hX : Hid (cq = true → Pok (loP Q (2 ^ u)) ∧ canB (loP Q (2 ^ u)) = !nd.testBit u) := fun hc => by
        unfold loP
        rw [if_pos (hNe.out.chk hc), hNe.out.bit hc u hlt, Bool.not_not]
        exact ⟨lesP_ok hk.out _, rfl⟩
      have hbt := M.shr_bit nd u hNe.out.lt
      have hno : Hid (cq = false → nd.testBit u = false) := fun hc => by rw [hNe.out.no hc]; exact Nat.zero_testBit u
      have hch : Hid (cq = true → chkN Q = 0) := hNe.out.chk
      generalize nd.testBit u = bt at *
      generalize loP Q (2 ^ u) = X at *
      generalize chkN Q = cN at *
      generalize hpu : ((2 ^ u : Nat) : Int) = pu at *
      clear KL hNe hpu
      go_upto_region 10 with fail
      go_cut [8, 9] from 30 to 38 (fun xv ev wx => ev = .int .i64 (cN : Int) ∧ ∃ (gx : Nat) (x1 x2 x3 : Value), xv = .pointer (some ⟨gx, 0, none⟩) ∧ Hid (Hd w Q (.slice ow Q.who.length cw) (.slice of Q.fixed.length cf) (.slice or Q.rules.length cr) g gs a0 b0 c0 wx) ∧ Hid (PbV wx X x1 x2 x3) ∧ Hid (QAt wx gx X.users x1 x2 x3))
      case first =>
        as_aux_lemma =>
        have hSd := hide' (hD.out.over (Below.refl _ wr).drew)
        clear hD K3
        refine wp_region_held_drew (S := (fun V => V.cell? ⟨g, 0, none⟩ = some (.int .i64 Q.users) ∧ V.cell? ⟨g, 1, none⟩ = some (.slice ow Q.who.length cw) ∧ V.cell? ⟨g, 2, none⟩ = some (.slice of Q.fixed.length cf) ∧ V.cell? ⟨g, 3, none⟩ = some (.slice or Q.rules.length cr))) (by kernel_rfl) ?_ (fun hHeld => ?_)
        · exact hSS.out _ _ _ _ hSd.out
        refine wpAnyH_take (i := 0) (oi := { dst := some 31, op := Op.load 26 (Operand.tmp 3), type := 26, pos := "law.go:126", after := #[], guard := none }) (v := ?_) rfl (by kernel_rfl) (by kernel_rfl) (by kernel_rfl) (fun _ _ _ h => h) (Or.inl ⟨by rfl, ?_⟩) (by assumption) ?_
        rotate_left
        · intro w hSw; (try dsimp only at hSw); go_simp <;> with_reducible rfl
        simp only [Act.put, List.setIfInBounds_toArray, List.set_cons_zero, List.set_cons_succ]
        refine wpAnyH_take (i := 2) (oi := { dst := some 33, op := Op.move (Operand.tmp 7), type := 3, pos := "law.go:126", after := #[], guard := none }) (v := ?_) rfl (by kernel_rfl) (by kernel_rfl) (by kernel_rfl) (fun _ _ _ h => h) (Or.inl ⟨by rfl, ?_⟩) (by assumption) ?_
        rotate_left
        · intro w hSw; (try dsimp only at hSw); go_simp <;> with_reducible rfl
        simp only [Act.put, List.setIfInBounds_toArray, List.set_cons_zero, List.set_cons_succ]
        refine wpAnyH_take (i := 3) (oi := { dst := some 34, op := Op.binOp BinOp.shl 34 (Operand.const (Value.int IntKind.u64 1)) (Operand.tmp 33) 3, type := 34, pos := "law.go:126", after := #[{ on := 2, ground := Ground.data }], guard := none }) (v := ?_) rfl (by kernel_rfl) (by kernel_rfl) (by kernel_rfl) (fun _ _ _ h => h) (Or.inl ⟨by rfl, ?_⟩) (by assumption) ?_
        rotate_left
        · intro w hSw; (try dsimp only at hSw); go_simp <;> with_reducible rfl
        simp only [Act.put, List.setIfInBounds_toArray, List.set_cons_zero, List.set_cons_succ]
        refine wpAnyH_ready (rs := [1, 8]) (by kernel_rfl) (by simp) ?_
        refine AllReadyH.cons (o := { dst := some 32, op := Op.call { callee := Callee.value (Operand.func 5), args := #[Operand.tmp 31], argTypes := #[26] }, type := 26, pos := "law.go:126", after := #[{ on := 0, ground := Ground.data }], guard := none }) rfl (fun K hK => ?_) ?_
        · skip
          go_simp
          go_at_call 5; refine (K1.out _ _ _ _ hSd.out).mono ?_; rintro e v1 ⟨va, vb, vc, rfl, hq1, hb1, _⟩; have hS1 := hide' (hSd.out.over hb1.out); (try dsimp only)
          refine hK.out _ _ ?_ (fun hHeld => ?_)
          · exact hSS.out _ _ _ _ hS1.out
          clear hK K
          try simp only [Act.put, List.setIfInBounds_toArray, List.set_cons_zero, List.set_cons_succ]
          refine wpAnyH_ready (rs := [4, 8]) (by kernel_rfl) (by simp) ?_
          refine AllReadyH.cons (o := { dst := some 35, op := Op.call { callee := Callee.value (Operand.func 13), args := #[Operand.tmp 32, Operand.tmp 34], argTypes := #[26, 34] }, type := 39, pos := "law.go:126", after := #[{ on := 1, ground := Ground.data }, { on := 3, ground := Ground.data }, { on := 1, ground := Ground.chain }], guard := none }) rfl (fun K hK => ?_) ?_
          · skip
            go_simp
            go_at_call 13; refine (KX.out _ _ _ _ hq1.out).mono ?_; rintro e v4 ⟨x1o, x1n, x1c, x2o, x2n, x2c, x3o, x3n, x3c, rfl, hX4, hb4, _, hkX⟩; have hS4 := hide' (hS1.out.over hb4.out); (try dsimp only)
            refine hK.out _ _ ?_ (fun hHeld => ?_)
            · exact hSS.out _ _ _ _ hS4.out
            clear hK K
            try simp only [Act.put, List.setIfInBounds_toArray, List.set_cons_zero, List.set_cons_succ]
            refine wpAnyH_take (i := 5) (oi := { dst := some 30, op := Op.move (Operand.tmp 35), type := 39, pos := "law.go:126", after := #[{ on := 4, ground := Ground.data }], guard := none }) (v := ?_) rfl (by kernel_rfl) (by kernel_rfl) (by kernel_rfl) (fun _ _ _ h => h) (Or.inl ⟨by rfl, ?_⟩) (by assumption) ?_
            rotate_left
            · intro w hSw; (try dsimp only at hSw); go_simp <;> with_reducible rfl
            simp only [Act.put, List.setIfInBounds_toArray, List.set_cons_zero, List.set_cons_succ]
            refine wpAnyH_take (i := 6) (oi := { dst := some 36, op := Op.extract (Operand.tmp 30) 0, type := 26, pos := "law.go:126", after := #[{ on := 5, ground := Ground.data }], guard := none }) (v := ?_) rfl (by kernel_rfl) (by kernel_rfl) (by kernel_rfl) (fun _ _ _ h => h) (Or.inl ⟨by rfl, ?_⟩) (by assumption) ?_
            rotate_left
            · intro w hSw; (try dsimp only at hSw); go_simp <;> with_reducible rfl
            simp only [Act.put, List.setIfInBounds_toArray, List.set_cons_zero, List.set_cons_succ]
            refine wpAnyH_take (i := 7) (oi := { dst := some 37, op := Op.extract (Operand.tmp 30) 1, type := 31, pos := "law.go:126", after := #[{ on := 5, ground := Ground.data }, { on := 9, ground := Ground.gcOnly Departure.lateStores }], guard := none }) (v := ?_) rfl (by kernel_rfl) (by kernel_rfl) (by kernel_rfl) (fun _ _ _ h => h) (Or.inl ⟨by rfl, ?_⟩) (by assumption) ?_
            rotate_left
            · intro w hSw; (try dsimp only at hSw); go_simp <;> with_reducible rfl
            simp only [Act.put, List.setIfInBounds_toArray, List.set_cons_zero, List.set_cons_succ]
            refine wpAnyH_ready (rs := [8]) (by kernel_rfl) (by simp) ?_
            refine AllReadyH.cons (o := { dst := some 8, op := Op.alloc 26, type := 0, pos := "law.go:126", after := #[], guard := none }) rfl (fun K hK => ?_) AllReadyH.nil
            go_simp
            (try dsimp only)
            refine hK.out _ _ ?_ (fun hHeld => ?_)
            · exact hSS.out _ _ _ _ (hS4.out.over ((Below.refl _ v4).alloc (Nat.le_refl _) _))
            clear hK K
            try simp only [Act.put, List.setIfInBounds_toArray, List.set_cons_zero, List.set_cons_succ]
            refine wpAnyH_ready (rs := [9]) (by kernel_rfl) (by simp) ?_
            refine AllReadyH.cons (o := { dst := none, op := Op.store 26 (Operand.tmp 8) (Operand.tmp 36), type := 0, pos := "law.go:126", after := #[{ on := 8, ground := Ground.data }, { on := 6, ground := Ground.data }, { on := 4, ground := Ground.chain }, { on := 0, ground := Ground.phase }, { on := 1, ground := Ground.phase }, { on := 2, ground := Ground.phase }, { on := 3, ground := Ground.phase }, { on := 4, ground := Ground.phase }, { on := 5, ground := Ground.phase }, { on := 6, ground := Ground.phase }, { on := 7, ground := Ground.textOnly Departure.lateStores }, { on := 8, ground := Ground.phase }], guard := none }) rfl (fun K hK => ?_) AllReadyH.nil
            go_simp
            refine hK.out _ _ ?_ (fun hHeld => ?_)
            · exact hSS.out _ _ _ _ (hS4.out.over ((Below.refl _ v4).alloc (Nat.le_refl _) _))
            clear hK K
            try simp only [Act.put, List.setIfInBounds_toArray, List.set_cons_zero, List.set_cons_succ]
            refine wpAnyH_take (i := 10) (oi := { dst := some 9, op := Op.assign (Operand.tmp 37), type := 31, pos := "law.go:126", after := #[{ on := 7, ground := Ground.data }, { on := 9, ground := Ground.chain }, { on := 0, ground := Ground.phase }, { on := 1, ground := Ground.phase }, { on := 2, ground := Ground.phase }, { on := 3, ground := Ground.phase }, { on := 4, ground := Ground.phase }, { on := 5, ground := Ground.phase }, { on := 6, ground := Ground.phase }, { on := 7, ground := Ground.phase }, { on := 8, ground := Ground.phase }, { on := 9, ground := Ground.phase }], guard := none }) (v := ?_) rfl (by kernel_rfl) (by kernel_rfl) (by kernel_rfl) (fun _ _ _ h => h) (Or.inl ⟨by rfl, ?_⟩) (by assumption) ?_
            rotate_left
            · intro w hSw; (try dsimp only at hSw); go_simp <;> with_reducible rfl
            simp only [Act.put, List.setIfInBounds_toArray, List.set_cons_zero, List.set_cons_succ]
            refine wpAnyH_done (by kernel_rfl) ?_ _
            skip
            have hSz := hide' (hS4.out.over ((Below.refl _ v4).alloc (Nat.le_refl _) (.cells #[.int .i64 X.users, .slice x1o x1n x1c, .slice x2o x2n x2c, .slice x3o x3n x3c] 26)))
            have hPz := hide' (hX4.out.below ((Below.refl _ v4).alloc (Nat.le_refl _) (.cells #[.int .i64 X.users, .slice x1o x1n x1c, .slice x2o x2n x2c, .slice x3o x3n x3c] 26)))
            have hXz : Hid (QAt (v4.alloc (.cells #[.int .i64 X.users, .slice x1o x1n x1c, .slice x2o x2n x2c, .slice x3o x3n x3c] 26)) v4.heap.size X.users (.slice x1o x1n x1c) (.slice x2o x2n x2c) (.slice x3o x3n x3c)) := QAt.block (heap_new v4 _)
            clear hkX
            go_wp2
            go_meet
            exact ⟨(by first | trivial | rfl), _, _, _, _, rfl, hSz, hPz, hXz⟩
          refine AllReadyH.cons (o := { dst := some 8, op := Op.alloc 26, type := 0, pos := "law.go:126", after := #[], guard := none }) rfl (fun K hK => ?_) AllReadyH.nil
          go_simp
          have hS8 := hide' (hS1.out.over ((Below.refl _ v1).alloc (Nat.le_refl _) (.cells #[.int .i64 0, .slice none 0 0, .slice none 0 0, .slice none 0 0] 26))); have hXb8 : Hid (QAt (v1.alloc (.cells #[.int .i64 0, .slice none 0 0, .slice none 0 0, .slice none 0 0] 26)) v1.heap.size 0 (.slice none 0 0) (.slice none 0 0) (.slice none 0 0)) := QAt.block (heap_new v1 _); have hBx8 : Hid (Below v1.heap.size v1 (v1.alloc (.cells #[.int .i64 0, .slice none 0 0, .slice none 0 0, .slice none 0 0] 26))) := ((Below.refl _ v1).alloc (Nat.le_refl _) (.cells #[.int .i64 0, .slice none 0 0, .slice none 0 0, .slice none 0 0] 26)); have hV8 := hide' hS1.out; have hq8 := hide' (hq1.out.below ((Below.refl _ v1).alloc (Nat.le_refl _) (.cells #[.int .i64 0, .slice none 0 0, .slice none 0 0, .slice none 0 0] 26))); (try dsimp only)
          refine hK.out _ _ ?_ (fun hHeld => ?_)
          · exact hSS.out _ _ _ _ hS8.out
          clear hK K
          try simp only [Act.put, List.setIfInBounds_toArray, List.set_cons_zero, List.set_cons_succ]
          refine wpAnyH_ready (rs := [4]) (by kernel_rfl) (by simp) ?_
          refine AllReadyH.cons (o := { dst := some 35, op := Op.call { callee := Callee.value (Operand.func 13), args := #[Operand.tmp 32, Operand.tmp 34], argTypes := #[26, 34] }, type := 39, pos := "law.go:126", after := #[{ on := 1, ground := Ground.data }, { on := 3, ground := Ground.data }, { on := 1, ground := Ground.chain }], guard := none }) rfl (fun K hK => ?_) AllReadyH.nil
          go_simp
          go_at_call 13; refine (KX.out _ _ _ _ hq8.out).mono ?_; rintro e v4 ⟨x1o, x1n, x1c, x2o, x2n, x2c, x3o, x3n, x3c, rfl, hX4, hb4, _, hkX⟩; have hS4 := hide' (hS8.out.over hb4.out); have hXb4 := hide' (hXb8.out.of (hb4.out.block _ hXb8.out.lt)); have hBx4 := hide' (hBx8.out.trans (hb4.out.mono hBx8.out.size)); have hlX4 := hide' hXb8.out.lt; have f0 := hXb4.out.frz 0; have y0 := hXb4.out.c0; have f1 := (hXb4.out.s0C X.users).frz 1; have y1 := (hXb4.out.s0C X.users).c1; have f2 := ((hXb4.out.s0C X.users).s1 (.slice x1o x1n x1c)).frz 2; have y2 := ((hXb4.out.s0C X.users).s1 (.slice x1o x1n x1c)).c2; have f3 := (((hXb4.out.s0C X.users).s1 (.slice x1o x1n x1c)).s2 (.slice x2o x2n x2c)).frz 3; have y3 := (((hXb4.out.s0C X.users).s1 (.slice x1o x1n x1c)).s2 (.slice x2o x2n x2c)).c3; (try dsimp only)
          refine hK.out _ _ ?_ (fun hHeld => ?_)
          · exact hSS.out _ _ _ _ hS4.out
          clear hK K
          try simp only [Act.put, List.setIfInBounds_toArray, List.set_cons_zero, List.set_cons_succ]
          refine wpAnyH_take (i := 5) (oi := { dst := some 30, op := Op.move (Operand.tmp 35), type := 39, pos := "law.go:126", after := #[{ on := 4, ground := Ground.data }], guard := none }) (v := ?_) rfl (by kernel_rfl) (by kernel_rfl) (by kernel_rfl) (fun _ _ _ h => h) (Or.inl ⟨by rfl, ?_⟩) (by assumption) ?_
          rotate_left
          · intro w hSw; (try dsimp only at hSw); go_simp <;> with_reducible rfl
          simp only [Act.put, List.setIfInBounds_toArray, List.set_cons_zero, List.set_cons_succ]
          refine wpAnyH_take (i := 6) (oi := { dst := some 36, op := Op.extract (Operand.tmp 30) 0, type := 26, pos := "law.go:126", after := #[{ on := 5, ground := Ground.data }], guard := none }) (v := ?_) rfl (by kernel_rfl) (by kernel_rfl) (by kernel_rfl) (fun _ _ _ h => h) (Or.inl ⟨by rfl, ?_⟩) (by assumption) ?_
          rotate_left
          · intro w hSw; (try dsimp only at hSw); go_simp <;> with_reducible rfl
          simp only [Act.put, List.setIfInBounds_toArray, List.set_cons_zero, List.set_cons_succ]
          refine wpAnyH_take (i := 7) (oi := { dst := some 37, op := Op.extract (Operand.tmp 30) 1, type := 31, pos := "law.go:126", after := #[{ on := 5, ground := Ground.data }, { on := 9, ground := Ground.gcOnly Departure.lateStores }], guard := none }) (v := ?_) rfl (by kernel_rfl) (by kernel_rfl) (by kernel_rfl) (fun _ _ _ h => h) (Or.inl ⟨by rfl, ?_⟩) (by assumption) ?_
          rotate_left
          · intro w hSw; (try dsimp only at hSw); go_simp <;> with_reducible rfl
          simp only [Act.put, List.setIfInBounds_toArray, List.set_cons_zero, List.set_cons_succ]
          refine wpAnyH_ready (rs := [9]) (by kernel_rfl) (by simp) ?_
          refine AllReadyH.cons (o := { dst := none, op := Op.store 26 (Operand.tmp 8) (Operand.tmp 36), type := 0, pos := "law.go:126", after := #[{ on := 8, ground := Ground.data }, { on := 6, ground := Ground.data }, { on := 4, ground := Ground.chain }, { on := 0, ground := Ground.phase }, { on := 1, ground := Ground.phase }, { on := 2, ground := Ground.phase }, { on := 3, ground := Ground.phase }, { on := 4, ground := Ground.phase }, { on := 5, ground := Ground.phase }, { on := 6, ground := Ground.phase }, { on := 7, ground := Ground.textOnly Departure.lateStores }, { on := 8, ground := Ground.phase }], guard := none }) rfl (fun K hK => ?_) AllReadyH.nil
          go_simp
          refine hK.out _ _ ?_ (fun hHeld => ?_)
          · exact hSS.out _ _ _ _ (hV8.out.over ((((hBx4.out.setCell (p := ⟨_, 0, none⟩) (Nat.le_refl _) (.int .i64 X.users)).setCell (p := ⟨_, 1, none⟩) (Nat.le_refl _) (.slice x1o x1n x1c)).setCell (p := ⟨_, 2, none⟩) (Nat.le_refl _) (.slice x2o x2n x2c)).setCell (p := ⟨_, 3, none⟩) (Nat.le_refl _) (.slice x3o x3n x3c)))
          clear hK K
          try simp only [Act.put, List.setIfInBounds_toArray, List.set_cons_zero, List.set_cons_succ]
          refine wpAnyH_take (i := 10) (oi := { dst := some 9, op := Op.assign (Operand.tmp 37), type := 31, pos := "law.go:126", after := #[{ on := 7, ground := Ground.data }, { on := 9, ground := Ground.chain }, { on := 0, ground := Ground.phase }, { on := 1, ground := Ground.phase }, { on := 2, ground := Ground.phase }, { on := 3, ground := Ground.phase }, { on := 4, ground := Ground.phase }, { on := 5, ground := Ground.phase }, { on := 6, ground := Ground.phase }, { on := 7, ground := Ground.phase }, { on := 8, ground := Ground.phase }, { on := 9, ground := Ground.phase }], guard := none }) (v := ?_) rfl (by kernel_rfl) (by kernel_rfl) (by kernel_rfl) (fun _ _ _ h => h) (Or.inl ⟨by rfl, ?_⟩) (by assumption) ?_
          rotate_left
          · intro w hSw; (try dsimp only at hSw); go_simp <;> with_reducible rfl
          simp only [Act.put, List.setIfInBounds_toArray, List.set_cons_zero, List.set_cons_succ]
          refine wpAnyH_done (by kernel_rfl) ?_ _
          skip
          have hSz := hide' (hV8.out.over ((((hBx4.out.setCell (p := ⟨_, 0, none⟩) (Nat.le_refl _) (.int .i64 X.users)).setCell (p := ⟨_, 1, none⟩) (Nat.le_refl _) (.slice x1o x1n x1c)).setCell (p := ⟨_, 2, none⟩) (Nat.le_refl _) (.slice x2o x2n x2c)).setCell (p := ⟨_, 3, none⟩) (Nat.le_refl _) (.slice x3o x3n x3c)))
          have hXz := hide' ((((hXb4.out.s0C X.users).s1 (.slice x1o x1n x1c)).s2 (.slice x2o x2n x2c)).s3 (.slice x3o x3n x3c))
          have hPz := hide' (hkX.out ((((v4.setCell ⟨(v1).heap.size, 0, none⟩ (.int .i64 X.users)).setCell ⟨(v1).heap.size, 1, none⟩ (.slice x1o x1n x1c)).setCell ⟨(v1).heap.size, 2, none⟩ (.slice x2o x2n x2c)).setCell ⟨(v1).heap.size, 3, none⟩ (.slice x3o x3n x3c)) (fun k h1 _ => by have := hlX4.out; rw [Below.heap_setCell _ _ _ _ (by show k ≠ (v1).heap.size; omega), Below.heap_setCell _ _ _ _ (by show k ≠ (v1).heap.size; omega), Below.heap_setCell _ _ _ _ (by show k ≠ (v1).heap.size; omega), Below.heap_setCell _ _ _ _ (by show k ≠ (v1).heap.size; omega)]))
          clear hkX f0 y0 f1 y1 f2 y2 f3 y3
          go_wp2
          go_meet
          exact ⟨(by first | trivial | rfl), _, _, _, _, rfl, hSz, hPz, hXz⟩
        refine AllReadyH.cons (o := { dst := some 8, op := Op.alloc 26, type := 0, pos := "law.go:126", after := #[], guard := none }) rfl (fun K hK => ?_) AllReadyH.nil
        go_simp
        have hS8 := hide' (hSd.out.over ((Below.refl _ wr.drew).alloc (Nat.le_refl _) (.cells #[.int .i64 0, .slice none 0 0, .slice none 0 0, .slice none 0 0] 26))); have hXb8 : Hid (QAt (wr.drew.alloc (.cells #[.int .i64 0, .slice none 0 0, .slice none 0 0, .slice none 0 0] 26)) wr.heap.size 0 (.slice none 0 0) (.slice none 0 0) (.slice none 0 0)) := QAt.block (heap_new wr.drew _); have hBx8 : Hid (Below wr.drew.heap.size wr.drew (wr.drew.alloc (.cells #[.int .i64 0, .slice none 0 0, .slice none 0 0, .slice none 0 0] 26))) := ((Below.refl _ wr.drew).alloc (Nat.le_refl _) (.cells #[.int .i64 0, .slice none 0 0, .slice none 0 0, .slice none 0 0] 26)); have hV8 := hide' hSd.out; (try dsimp only)
        refine hK.out _ _ ?_ (fun hHeld => ?_)
        · exact hSS.out _ _ _ _ hS8.out
        clear hK K
        try simp only [Act.put, List.setIfInBounds_toArray, List.set_cons_zero, List.set_cons_succ]
        refine wpAnyH_ready (rs := [1]) (by kernel_rfl) (by simp) ?_
        refine AllReadyH.cons (o := { dst := some 32, op := Op.call { callee := Callee.value (Operand.func 5), args := #[Operand.tmp 31], argTypes := #[26] }, type := 26, pos := "law.go:126", after := #[{ on := 0, ground := Ground.data }], guard := none }) rfl (fun K hK => ?_) AllReadyH.nil
        go_simp
        go_at_call 5; refine (K1.out _ _ _ _ hS8.out).mono ?_; rintro e v1 ⟨va, vb, vc, rfl, hq1, hb1, _⟩; have hS1 := hide' (hS8.out.over hb1.out); have hXb1 := hide' (hXb8.out.of (hb1.out.block _ hXb8.out.lt)); have hBx1 := hide' (hBx8.out.trans (hb1.out.mono hBx8.out.size)); (try dsimp only)
        refine hK.out _ _ ?_ (fun hHeld => ?_)
        · exact hSS.out _ _ _ _ hS1.out
        clear hK K
        try simp only [Act.put, List.setIfInBounds_toArray, List.set_cons_zero, List.set_cons_succ]
        refine wpAnyH_ready (rs := [4]) (by kernel_rfl) (by simp) ?_
        refine AllReadyH.cons (o := { dst := some 35, op := Op.call { callee := Callee.value (Operand.func 13), args := #[Operand.tmp 32, Operand.tmp 34], argTypes := #[26, 34] }, type := 39, pos := "law.go:126", after := #[{ on := 1, ground := Ground.data }, { on := 3, ground := Ground.data }, { on := 1, ground := Ground.chain }], guard := none }) rfl (fun K hK => ?_) AllReadyH.nil
        go_simp
        go_at_call 13; refine (KX.out _ _ _ _ hq1.out).mono ?_; rintro e v4 ⟨x1o, x1n, x1c, x2o, x2n, x2c, x3o, x3n, x3c, rfl, hX4, hb4, _, hkX⟩; have hS4 := hide' (hS1.out.over hb4.out); have hXb4 := hide' (hXb1.out.of (hb4.out.block _ hXb1.out.lt)); have hBx4 := hide' (hBx1.out.trans (hb4.out.mono hBx1.out.size)); have hlX4 := hide' hXb1.out.lt; have f0 := hXb4.out.frz 0; have y0 := hXb4.out.c0; have f1 := (hXb4.out.s0C X.users).frz 1; have y1 := (hXb4.out.s0C X.users).c1; have f2 := ((hXb4.out.s0C X.users).s1 (.slice x1o x1n x1c)).frz 2; have y2 := ((hXb4.out.s0C X.users).s1 (.slice x1o x1n x1c)).c2; have f3 := (((hXb4.out.s0C X.users).s1 (.slice x1o x1n x1c)).s2 (.slice x2o x2n x2c)).frz 3; have y3 := (((hXb4.out.s0C X.users).s1 (.slice x1o x1n x1c)).s2 (.slice x2o x2n x2c)).c3; (try dsimp only)
        refine hK.out _ _ ?_ (fun hHeld => ?_)
        · exact hSS.out _ _ _ _ hS4.out
        clear hK K
        try simp only [Act.put, List.setIfInBounds_toArray, List.set_cons_zero, List.set_cons_succ]
        refine wpAnyH_take (i := 5) (oi := { dst := some 30, op := Op.move (Operand.tmp 35), type := 39, pos := "law.go:126", after := #[{ on := 4, ground := Ground.data }], guard := none }) (v := ?_) rfl (by kernel_rfl) (by kernel_rfl) (by kernel_rfl) (fun _ _ _ h => h) (Or.inl ⟨by rfl, ?_⟩) (by assumption) ?_
        rotate_left
        · intro w hSw; (try dsimp only at hSw); go_simp <;> with_reducible rfl
        simp only [Act.put, List.setIfInBounds_toArray, List.set_cons_zero, List.set_cons_succ]
        refine wpAnyH_take (i := 6) (oi := { dst := some 36, op := Op.extract (Operand.tmp 30) 0, type := 26, pos := "law.go:126", after := #[{ on := 5, ground := Ground.data }], guard := none }) (v := ?_) rfl (by kernel_rfl) (by kernel_rfl) (by kernel_rfl) (fun _ _ _ h => h) (Or.inl ⟨by rfl, ?_⟩) (by assumption) ?_
        rotate_left
        · intro w hSw; (try dsimp only at hSw); go_simp <;> with_reducible rfl
        simp only [Act.put, List.setIfInBounds_toArray, List.set_cons_zero, List.set_cons_succ]
        refine wpAnyH_take (i := 7) (oi := { dst := some 37, op := Op.extract (Operand.tmp 30) 1, type := 31, pos := "law.go:126", after := #[{ on := 5, ground := Ground.data }, { on := 9, ground := Ground.gcOnly Departure.lateStores }], guard := none }) (v := ?_) rfl (by kernel_rfl) (by kernel_rfl) (by kernel_rfl) (fun _ _ _ h => h) (Or.inl ⟨by rfl, ?_⟩) (by assumption) ?_
        rotate_left
        · intro w hSw; (try dsimp only at hSw); go_simp <;> with_reducible rfl
        simp only [Act.put, List.setIfInBounds_toArray, List.set_cons_zero, List.set_cons_succ]
        refine wpAnyH_ready (rs := [9]) (by kernel_rfl) (by simp) ?_
        refine AllReadyH.cons (o := { dst := none, op := Op.store 26 (Operand.tmp 8) (Operand.tmp 36), type := 0, pos := "law.go:126", after := #[{ on := 8, ground := Ground.data }, { on := 6, ground := Ground.data }, { on := 4, ground := Ground.chain }, { on := 0, ground := Ground.phase }, { on := 1, ground := Ground.phase }, { on := 2, ground := Ground.phase }, { on := 3, ground := Ground.phase }, { on := 4, ground := Ground.phase }, { on := 5, ground := Ground.phase }, { on := 6, ground := Ground.phase }, { on := 7, ground := Ground.textOnly Departure.lateStores }, { on := 8, ground := Ground.phase }], guard := none }) rfl (fun K hK => ?_) AllReadyH.nil
        go_simp
        refine hK.out _ _ ?_ (fun hHeld => ?_)
        · exact hSS.out _ _ _ _ (hV8.out.over ((((hBx4.out.setCell (p := ⟨_, 0, none⟩) (Nat.le_refl _) (.int .i64 X.users)).setCell (p := ⟨_, 1, none⟩) (Nat.le_refl _) (.slice x1o x1n x1c)).setCell (p := ⟨_, 2, none⟩) (Nat.le_refl _) (.slice x2o x2n x2c)).setCell (p := ⟨_, 3, none⟩) (Nat.le_refl _) (.slice x3o x3n x3c)))
        clear hK K
        try simp only [Act.put, List.setIfInBounds_toArray, List.set_cons_zero, List.set_cons_succ]
        refine wpAnyH_take (i := 10) (oi := { dst := some 9, op := Op.assign (Operand.tmp 37), type := 31, pos := "law.go:126", after := #[{ on := 7, ground := Ground.data }, { on := 9, ground := Ground.chain }, { on := 0, ground := Ground.phase }, { on := 1, ground := Ground.phase }, { on := 2, ground := Ground.phase }, { on := 3, ground := Ground.phase }, { on := 4, ground := Ground.phase }, { on := 5, ground := Ground.phase }, { on := 6, ground := Ground.phase }, { on := 7, ground := Ground.phase }, { on := 8, ground := Ground.phase }, { on := 9, ground := Ground.phase }], guard := none }) (v := ?_) rfl (by kernel_rfl) (by kernel_rfl) (by kernel_rfl) (fun _ _ _ h => h) (Or.inl ⟨by rfl, ?_⟩) (by assumption) ?_
        rotate_left
        · intro w hSw; (try dsimp only at hSw); go_simp <;> with_reducible rfl
        simp only [Act.put, List.setIfInBounds_toArray, List.set_cons_zero, List.set_cons_succ]
        refine wpAnyH_done (by kernel_rfl) ?_ _
        skip
        have hSz := hide' (hV8.out.over ((((hBx4.out.setCell (p := ⟨_, 0, none⟩) (Nat.le_refl _) (.int .i64 X.users)).setCell (p := ⟨_, 1, none⟩) (Nat.le_refl _) (.slice x1o x1n x1c)).setCell (p := ⟨_, 2, none⟩) (Nat.le_refl _) (.slice x2o x2n x2c)).setCell (p := ⟨_, 3, none⟩) (Nat.le_refl _) (.slice x3o x3n x3c)))
        have hXz := hide' ((((hXb4.out.s0C X.users).s1 (.slice x1o x1n x1c)).s2 (.slice x2o x2n x2c)).s3 (.slice x3o x3n x3c))
        have hPz := hide' (hkX.out ((((v4.setCell ⟨(wr).heap.size, 0, none⟩ (.int .i64 X.users)).setCell ⟨(wr).heap.size, 1, none⟩ (.slice x1o x1n x1c)).setCell ⟨(wr).heap.size, 2, none⟩ (.slice x2o x2n x2c)).setCell ⟨(wr).heap.size, 3, none⟩ (.slice x3o x3n x3c)) (fun k h1 _ => by have := hlX4.out; rw [Below.heap_setCell _ _ _ _ (by show k ≠ (wr).heap.size; omega), Below.heap_setCell _ _ _ _ (by show k ≠ (wr).heap.size; omega), Below.heap_setCell _ _ _ _ (by show k ≠ (wr).heap.size; omega), Below.heap_setCell _ _ _ _ (by show k ≠ (wr).heap.size; omega)]))
        clear hkX f0 y0 f1 y1 f2 y2 f3 y3
        go_wp2
        go_meet
        exact ⟨(by first | trivial | rfl), _, _, _, _, rfl, hSz, hPz, hXz⟩
      case rest =>
        clear hD
        obtain ⟨rfl, gx, x1, x2, x3, rfl, hD, hXV, hXQ⟩ := hcut
        have p0 := hXQ.out.c0
        have p1 := hXQ.out.c1
        have p2 := hXQ.out.c2
        have p3 := hXQ.out.c3
        clear KX hSS K1 he
        cases cq
        · have hb0 := hno.out rfl
          subst hb0
          have hbt0 : bits .and .u64 ((nd : Int) / 2 ^ u) 1 = 0 := hbt
          have hD1 := hide' (hD.out.over (Below.refl _ wc).drew)
          clear hX hno hch hbt hXV hXQ
          go_upto_region 11 with fail
          go_big_region
          all_goals go_wp2_with fail
          exact ⟨⟨u + 1, a0, b0, c0, by omega, by go_num, hD1, by have := hle.out; show _ ∧ _ ∧ _; omega⟩, by simp [intOf]; omega⟩
        · obtain ⟨hok, hcan⟩ := hX.out rfl
          have hc0 := hch.out rfl
          subst hc0
          have hle' := hle.out
          have hDd := hide' (hD.out.over (Below.refl _ wc).drew)
          have KCn := hide' (K3.out wc.drew a0 b0 c0 X _ _ _ hDd.out (hXV.out.below (Below.refl _ wc).drew) hok (by omega) (by omega) (by omega))
          rw [hcan] at KCn
          have hS : Hid (wc.drew.cell? ⟨gx, 0, none⟩ = some (.int .i64 X.users) ∧ wc.drew.cell? ⟨gx, 1, none⟩ = some x1 ∧ wc.drew.cell? ⟨gx, 2, none⟩ = some x2 ∧ wc.drew.cell? ⟨gx, 3, none⟩ = some x3) := ⟨p0, p1, p2, p3⟩
          have hQk : Hid (∀ V, M.Fr2 wc.drew V gs gs → V.cell? ⟨gx, 0, none⟩ = some (.int .i64 X.users) ∧ V.cell? ⟨gx, 1, none⟩ = some x1 ∧ V.cell? ⟨gx, 2, none⟩ = some x2 ∧ V.cell? ⟨gx, 3, none⟩ = some x3) := fun V hV => by
            have hne := q_ne_gs hXQ.out hD.out.s.gg
            have q := hXQ.out.of (hV.block gx hXQ.out.lt hne hne)
            exact ⟨q.c0, q.c1, q.c2, q.c3⟩
          have hbtI := hbt
          clear hX hno hch hbt hXV hXQ K3 hcan hok p0 p1 p2 p3 hle'
          cases bt
          all_goals
            first | (have hbt0 : bits .and .u64 ((nd : Int) / 2 ^ u) 1 = 0 := hbtI) | (have hbt1 : bits .and .u64 ((nd : Int) / 2 ^ u) 1 = 1 := hbtI)
            clear hbtI
            go_upto_region 11 with fail
            go_region_held3 (fun V => V.cell? ⟨gx, 0, none⟩ = some (.int .i64 X.users) ∧ V.cell? ⟨gx, 1, none⟩ = some x1 ∧ V.cell? ⟨gx, 2, none⟩ = some x2 ∧ V.cell? ⟨gx, 3, none⟩ = some x3) (first | (exact hS.out) | (exact hQk.out _ hf9.out)) (first | (go_at_call 11; refine KCn.out.mono ?_; rintro e w9 ⟨rfl, a9, b9, c9, hg9, hgc9, hf9⟩))
            have hD9 := hide' (hDd.out.fr hf9.out hg9.out)
            have hle9 := hide' (hgc9.out.le (by decide))
            clear hDd hf9 hg9 hgc9 hQk hS KCn
            go_wp2_with fail
            exact ⟨⟨u + 1, a9, b9, c9, by omega, by go_num, hD9, by have := hle.out; have := hle9.out; show _ ∧ _ ∧ _; omega⟩, by simp [intOf]; omega⟩
    · obtain rfl : u = 64 := by omega
      clear hlt
      go_wp2
      go_ret
      exact ⟨rfl, hD.out.s.be⟩
end Go.Proofs.YtmbdnhgmpmnhmaaDoor.S
