/- ImageOwn, walked. -/
import Derived.Test.YtgfnfbbiojnhaaaDoorImOS
import Derived.Deep.CutBlock
import Derived.Deep.CutRange
namespace Go.Proofs.YtgfnfbbiojnhaaaDoor
open Go.RowKit
set_option maxRecDepth 100000 in
set_option maxHeartbeats 4000000 in
theorem imageOwn_walk (C : Cl) (R : List Nat) (v : Value) (W : World) (_ : -9223372036854775808 ≤ C.n) (_ : C.n < 9223372036854775808) (hR : RowC W v R) (hb : ∀ z ∈ R, z < 256) (hl : R.length ≤ 140737488351232) (hT : Tb W) : Calls Tryd.prog 6 #[.agg (clC C), v] W fun e w' => e = .returned (.bool true) ∧ Below W.heap.size W w' := by
  have hB1 : Hid (Below W.heap.size W (W.alloc (.cells (clC C) 23))) := (Below.refl _ _).alloc (Nat.le_refl _) _
  have hg1 : Hid ((W.alloc (.cells (clC C) 23)).heap[W.heap.size]? = some (.cells (clC C) 23 (0, 0))) := heap_new _ _
  have hz1 : Hid ((W.alloc (.cells (clC C) 23)).heap.size = W.heap.size + 1) := size_alloc _ _
  have KW : Hid (∀ V, Below W.heap.size W V → Calls Tryd.prog 7 #[.agg (clC C)] V (WrP V C)) := fun V hV => writeF C V (hT.up hV (Nat.le_refl _))
  have hCl : Hid ((if wrE C = 0 then wrL C else []).length ≤ 1000000) := by
    unfold Hid
    split
    · rename_i h
      obtain ⟨_, _, ha, hb, hc, ht⟩ := wrE_zero h
      rw [wrL_len]
      omega
    · simp
  have KR : Hid (∀ V v, Below W.heap.size W V → RowC V v R → Calls Tryd.prog 10 #[v] V (RdP V R)) := fun V v hV h => readF R v V h hb (by omega) (hT.up hV (Nat.le_refl _))
  have KD : Hid (∀ V, Below W.heap.size W V → Calls Tryd.prog 11 #[v] V (RdP V R)) := fun V hV => readD R v V (hR.below hV (Nat.le_refl _)) hb (by omega)
  have K7 : Hid (∀ V, Below W.heap.size W V → Calls Tryd.prog 9 #[] V fun e w' => e = .returned (.bool true) ∧ Below V.heap.size V w') := fun V hV => wakesF V (hT.up hV (Nat.le_refl _))
  unfold WrP at KW
  unfold RdP at KR KD
  obtain ⟨oa, cap, rfl, q1, q2⟩ := hR
  have hR' : Hid (RowC W (.slice oa R.length cap) R) := ⟨oa, cap, rfl, q1, q2⟩
  obtain ⟨n, hn⟩ : ∃ n, R.length = n := ⟨_, rfl⟩
  rw [hn] at hR' KD ⊢
  have hn' := hide' hn
  have hRl : Hid (([] : List Nat).length + R.length ≤ 140737488355328) := by unfold Hid; simp; omega
  have hRl3 : Hid (R.length + ([1, 2, 3] : List Nat).length ≤ 140737488355328) := by unfold Hid; simp; omega
  rw [hn] at hl
  clear hb q1 q2 hn hT
  have hcC : ∃ op a b c nn t, clC C = #[.int .i64 op, .string a, .string b, .string c, .int .i64 nn, .string t] := ⟨_, _, _, _, _, _, rfl⟩
  obtain ⟨op, a, b, c, nn, t, hcC⟩ := hcC
  rw [hcC] at hB1 hg1 hz1 KW ⊢
  clear hcC
  generalize (if wrE C = 0 then wrL C else []) = L at *
  generalize wrE C = E at *
  have hdD : ∃ dop da db dc dn dt, clC (rdC R) = #[.int .i64 dop, .string da, .string db, .string dc, .int .i64 dn, .string dt] := ⟨_, _, _, _, _, _, rfl⟩
  obtain ⟨dop, da, db, dc, dn, dt, hdD⟩ := hdD
  rw [hdD] at KR KD
  clear hdD
  have heq : ∀ V : World, (Op.equalIn 10000 23 (.agg #[.int .i64 dop, .string da, .string db, .string dc, .int .i64 dn, .string dt]) (.agg #[.int .i64 dop, .string da, .string db, .string dc, .int .i64 dn, .string dt])).run Tryd.prog V = .ok true V := fun V => cl_eq dop dn da db dc dt V
  generalize rdE R = F at *
  obtain ⟨R3, hR3⟩ : ∃ R3, R ++ [1, 2, 3] = R3 := ⟨_, rfl⟩
  have hR3' := hide' hR3
  have hR3l : Hid (R3.length = n + 3) := by unfold Hid; rw [← hR3]; have := hn'.out; simp; omega
  have hhd : Hid (R3.take n = R) := by unfold Hid; rw [← hR3, ← hn'.out]; exact List.take_left
  clear hR3
  have hst := hide' (KB.BookO.start (W.alloc (.cells #[.int .i64 op, .string a, .string b, .string c, .int .i64 nn, .string t] 23)))
  rw [hz1.out] at hst
  have hBb : Hid (Below W.heap.size W ((W.alloc (.cells #[.int .i64 op, .string a, .string b, .string c, .int .i64 nn, .string t] 23)).alloc (.cells #[.slice none 0 0, .slice none 0 0, .slice none 0 0, .slice none 0 0, .slice none 0 0, .slice none 0 0, .slice none 0 0, .slice none 0 0, .slice none 0 0, .slice none 0 0, .slice none 0 0, .slice none 0 0, .int .i64 0] 43))) := hB1.out.alloc (by rw [hz1.out]; omega) _
  have hgb : Hid (((W.alloc (.cells #[.int .i64 op, .string a, .string b, .string c, .int .i64 nn, .string t] 23)).alloc (.cells #[.slice none 0 0, .slice none 0 0, .slice none 0 0, .slice none 0 0, .slice none 0 0, .slice none 0 0, .slice none 0 0, .slice none 0 0, .slice none 0 0, .slice none 0 0, .slice none 0 0, .slice none 0 0, .int .i64 0] 43)).heap[W.heap.size]? = some (.cells #[.int .i64 op, .string a, .string b, .string c, .int .i64 nn, .string t] 23 (0, 0))) := (((Below.refl _ (W.alloc (.cells #[.int .i64 op, .string a, .string b, .string c, .int .i64 nn, .string t] 23))).alloc (Nat.le_refl _) _).block _ (by rw [hz1.out]; omega)).trans hg1.out
  go_enter Tryd.func6, Tryd.ntmps6
  go_wp2
  generalize (W.alloc (.cells #[.int .i64 op, .string a, .string b, .string c, .int .i64 nn, .string t] 23)).alloc (.cells #[.slice none 0 0, .slice none 0 0, .slice none 0 0, .slice none 0 0, .slice none 0 0, .slice none 0 0, .slice none 0 0, .slice none 0 0, .slice none 0 0, .slice none 0 0, .slice none 0 0, .slice none 0 0, .int .i64 0] 43) = W0 at *
  -- whatever stands on the book leaves what was there ahead of it
  have hin : Hid (∀ V, KB.BookO W0 (W.heap.size + 1) V → Below W.heap.size W V ∧ V.heap[W.heap.size]? = some (.cells #[.int .i64 op, .string a, .string b, .string c, .int .i64 nn, .string t] 23 (0, 0))) := fun V h => ⟨hBb.out.trans (h.1.mono (by omega)), (h.1.block _ (by omega)).trans hgb.out⟩
  have hbe : Hid (∀ V, Below (W.heap.size + 1) W0 V → Below W.heap.size W V) := fun V h => hBb.out.trans (h.mono (by omega))
  clear hB1 hg1 hz1 hBb hgb
  go_loopw [6, 7, 8, 9, 10, 11, 12, 13, 14] (fun k _ _ _ _ _ _ _ _ wr => ∃ j : Nat, j ≤ 3 ∧ k = .int .i64 (j : Int) ∧ Hid (KB.BookO W0 (W.heap.size + 1) wr)) (fun k _ _ _ _ _ _ _ _ _ => (3 - intOf k).toNat)
  case atStart => exact ⟨0, by omega, rfl, hst⟩
  case round =>
    clear hst
    obtain ⟨j, hj, rfl, hK⟩ := hrel
    obtain ⟨hBr, hgr⟩ := hin.out _ hK.out
    have hBr' := hide' hBr
    obtain ⟨c0, c1, c2, c3, c4, c5⟩ := cells6 hgr
    clear hBr hgr
    by_cases hj3 : j < 3
    case neg => as_aux_lemma =>
      obtain rfl : j = 3 := by omega
      have KC := hide' (KB.ownClose hK.out)
      clear KW KR KD c0 c1 c2 c3 c4 c5
      go_wp2_with fail
      refine KC.out.mono ?_
      rintro e w2 ⟨rfl, hb2⟩
      have hB2 := hide' (hbe.out _ hb2)
      have K8 := hide' (K7.out _ hB2.out)
      clear KC K7 hbe hin hK hBr' hb2
      go_wp2_with (go_at_call 9; refine K8.out.mono ?_; rintro e w3 ⟨rfl, hb3⟩)
      go_ret
      exact ⟨rfl, hB2.out.trans (hb3.mono hB2.out.size)⟩
    have hj3' : (j : Int) < 3 := by omega
    go_wp2_with fail
    refine (KW.out wr hBr'.out).mono ?_
    rintro e w1 ⟨ox, nx, cx, rfl, hnx, hox, hbx⟩
    have KB1 := hide' (KB.ownBytes (W2 := w1) (v := .slice ox nx cx) (l := L.map fun z : Nat => (z : Int)) hK.out hbx.out (by rw [cells_kb]; exact hox.out) (by rw [List.length_map]; exact hCl.out))
    clear hnx hox hbx c0 c1 c2 c3 c4 c5 hBr' hK
    go_wp2_with fail
    refine KB1.out.mono ?_
    rintro e w2 ⟨rfl, hK2⟩
    have hK2' := hide' hK2
    obtain ⟨hB2, _⟩ := hin.out _ hK2
    have hB2' := hide' hB2
    clear KB1 hK2 hB2
    -- what is lent
    obtain ⟨hO2, hA2⟩ := emp w2
    have hr2 := hide' (hR'.out.below (hB2'.out.trans (hA2.out.mono hB2'.out.size)) (Nat.le_refl _))
    go_wp2_with (first | (at_builtin; refine app_bytesN rfl (.tmp 29) (.tmp 30) w2.heap.size _ w2.heap.size 0 0 [] oa n cap R R rfl rfl rfl rfl hO2.out hr2.out rfl hA2.out.size hRl.out ?_; intro g3 m3 c3 w3 hm3 ho3 hb3; have hs3 : Hid (w2.heap.size ≤ w3.heap.size) := Nat.le_trans hA2.out.size hb3.out.size; have ho3' := hide' (ho3.out.alloc (.cells #[.int .u8 1, .int .u8 2, .int .u8 3] 5)); have hs3' : Hid (w2.heap.size ≤ (w3.alloc (.cells #[.int .u8 1, .int .u8 2, .int .u8 3] 5)).heap.size) := (by unfold Hid; rw [size_alloc]; exact Nat.le_trans hs3.out (Nat.le_succ _))) | (at_builtin; refine app_bytesN rfl (.tmp 31) (.tmp 32) w2.heap.size _ g3 m3 c3 R (some ⟨w3.heap.size, 0, none⟩) 3 3 [1, 2, 3] R3 rfl rfl rfl hm3.out ho3'.out (row_new w3 [1, 2, 3]) hR3'.out hs3'.out hRl3.out ?_; intro g4 m4 c4 w4 hm4 ho4 hb4; have hc4 := cutHi (some ⟨g4, 0, none⟩) m4 c4 n (n : Int) rfl (Nat.le_trans (Nat.le_trans (Nat.le_add_right n 3) (Nat.le_of_eq (hR3l.out.symm.trans hm4.out.symm))) (ownN_row hm4.out ho4.out).len.2)))
    have hU4 : Hid (Below w2.heap.size w2 w4) := hA2.out.trans (hb3.out.trans (((Below.refl _ w3).alloc hs3.out _).trans hb4.out))
    have hB4 : Hid (Below W.heap.size W w4) := hB2'.out.trans (hU4.out.mono hB2'.out.size)
    have hr4 : Hid (RowC w4 (.slice (some ⟨g4, 0, none⟩) n c4) R) := by
      have k := (ownN_row hm4.out ho4.out).head n (by rw [hm4.out, hR3l.out]; omega)
      rw [hhd.out] at k
      exact k
    refine (KR.out w4 _ hB4.out hr4.out).mono ?_
    rintro e w5 ⟨rfl, hb5⟩
    have hU5 : Hid (Below w2.heap.size w2 w5) := hU4.out.trans (hb5.out.mono hU4.out.size)
    have ho5 := hide' (own_up ho4.out hb5.out)
    clear hO2 hA2 hr2 hm3 ho3 hb3 hs3 ho3' hs3' hb4 hc4 ho4 hr4 hB4 hU4 hb5
    go_upto_region 9 with fail
    have hd6 : Hid ((w5.alloc (.cells #[.int .i64 dop, .string da, .string db, .string dc, .int .i64 dn, .string dt] 23)).heap[w5.heap.size]? = some (.cells #[.int .i64 dop, .string da, .string db, .string dc, .int .i64 dn, .string dt] 23 (0, 0))) := heap_new _ _
    have hU6 : Hid (Below w2.heap.size w2 (w5.alloc (.cells #[.int .i64 dop, .string da, .string db, .string dc, .int .i64 dn, .string dt] 23))) := hU5.out.alloc hU5.out.size _
    have ho6 := hide' (ho5.out.alloc (.cells #[.int .i64 dop, .string da, .string db, .string dc, .int .i64 dn, .string dt] 23))
    have hne6 : Hid (g4 ≠ w5.heap.size) := by have := (own_b ho5.out).2; unfold Hid; omega
    generalize w5.alloc (.cells #[.int .i64 dop, .string da, .string db, .string dc, .int .i64 dn, .string dt] 23) = w6 at *
    generalize w5.heap.size = gd at *
    clear ho5 hU5
    have hgd : Hid (w2.heap.size ≤ g4) := (own_b ho6.out).1
    obtain ⟨sb, hsb⟩ : ∃ sb, strB R3 = sb := ⟨_, rfl⟩
    have hsb' := hide' hsb
    have hS6 : Hid (∀ V, Below w6.heap.size w6 V → (convert 24 9 (.slice (some ⟨g4, 0, none⟩) m4 c4)).run Tryd.prog V = .ok (.string sb) V) := fun V hV => by
      rw [← hsb'.out]
      exact conv_bytes (ownN_row hm4.out (own_up ho6.out hV))
    clear hsb
    go_cut [50] from 42 to 49 (fun tv wx => tv = .bool false ∧ Hid (Below w6.heap.size w6 wx))
    case first => as_aux_lemma =>
      have hE6 := hide' (emp w6).2.out
      have hT6 : Hid (Below w6.heap.size w6 (w6.alloc (.cells #[.int .u8 1, .int .u8 2, .int .u8 3] 5))) := (Below.refl _ _).alloc (Nat.le_refl _) _
      have hR6 : Hid (∀ V, Below w6.heap.size w6 V → RowC V (.slice oa n cap) R) := fun V hV => hR'.out.below (hB2'.out.trans ((hU6.out.trans (hV.mono hU6.out.size)).mono hB2'.out.size)) (Nat.le_refl _)
      clear KW KR KD K7 heq hin hbe hK2' ho6 hd6
      refine wp_region_held_drew (S := (fun V => (convert 24 9 (.slice (some ⟨g4, 0, none⟩) m4 c4)).run Tryd.prog V = .ok (.string sb) V)) (by kernel_rfl) ?_ (fun hHeld => ?_)
      · exact hS6.out _ (Below.refl _ _).drew
      refine wpAnyH_take (i := 0) (oi := { dst := some 42, op := Op.move (Operand.tmp 9), type := 24, pos := "law.go:61", after := #[], guard := none }) (v := ?_) rfl (by kernel_rfl) (by kernel_rfl) (by kernel_rfl) (fun _ _ _ h => h) (Or.inl ⟨by rfl, ?_⟩) (by assumption) ?_
      rotate_left
      · intro w hSw; (try dsimp only at hSw); go_simp <;> with_reducible rfl
      simp only [Act.put, List.setIfInBounds_toArray, List.set_cons_zero, List.set_cons_succ]
      refine wpAnyH_take (i := 1) (oi := { dst := some 43, op := Op.convert 24 9 (Operand.tmp 42), type := 9, pos := "law.go:61", after := #[{ on := 0, ground := Ground.data }], guard := none }) (v := ?_) rfl (by kernel_rfl) (by kernel_rfl) (by kernel_rfl) (fun _ _ _ h => h) (Or.inl ⟨by rfl, ?_⟩) (by assumption) ?_
      rotate_left
      · intro w hSw; (try dsimp only at hSw); go_simp <;> with_reducible rfl
      simp only [Act.put, List.setIfInBounds_toArray, List.set_cons_zero, List.set_cons_succ]
      refine wpAnyH_take (i := 3) (oi := { dst := some 45, op := Op.move (Operand.tmp 1), type := 24, pos := "law.go:61", after := #[], guard := none }) (v := ?_) rfl (by kernel_rfl) (by kernel_rfl) (by kernel_rfl) (fun _ _ _ h => h) (Or.inl ⟨by rfl, ?_⟩) (by assumption) ?_
      rotate_left
      · intro w hSw; (try dsimp only at hSw); go_simp <;> with_reducible rfl
      simp only [Act.put, List.setIfInBounds_toArray, List.set_cons_zero, List.set_cons_succ]
      refine wpAnyH_ready (rs := [2, 5]) (by kernel_rfl) (by simp) ?_
      refine AllReadyH.cons (o := { dst := some 44, op := Op.buildSlice 24 0 #[], type := 24, pos := "law.go:61", after := #[], guard := none }) rfl (fun K hK => ?_) ?_
      · skip
        go_simp
        refine hK.out _ _ ?_ (fun hHeld => ?_)
        · exact hS6.out _ hE6.out.drew
        clear hK K
        try simp only [Act.put, List.setIfInBounds_toArray, List.set_cons_zero, List.set_cons_succ]
        refine wpAnyH_ready (rs := [4, 5]) (by kernel_rfl) (by simp) ?_
        refine AllReadyH.cons (o := { dst := some 46, op := Op.call { callee := Callee.builtin Builtin.append, args := #[Operand.tmp 44, Operand.tmp 45], argTypes := #[24, 24] }, type := 24, pos := "law.go:61", after := #[{ on := 2, ground := Ground.data }, { on := 3, ground := Ground.data }], guard := none }) rfl (fun K hK => ?_) ?_
        · skip
          rw [if_pos (by rfl)]
          refine app_bytesW (.tmp 44) (.tmp 45) w6.heap.size w6.heap.size 0 0 [] oa n cap R R rfl rfl rfl rfl (owns_zero w6 _) (hR6.out _ hE6.out.drew) rfl hE6.out.drew.size hRl.out ?_; intro g8 n8 c8 w8 hn8 hx8 hb8 hf8; have hb68 : Hid (Below w6.heap.size w6 w8) := hE6.out.drew.trans hb8.out; have hT8 := hide' (row_new w8 [1, 2, 3]); have hx8' := hide' (World.ownsRow.alloc hx8.out (.cells #[.int .u8 1, .int .u8 2, .int .u8 3] 5)); have hs8 : Hid (w6.heap.size ≤ (w8.alloc (.cells #[.int .u8 1, .int .u8 2, .int .u8 3] 5)).heap.size) := (by have := hb68.out.size; unfold Hid; rw [size_alloc]; omega); (try dsimp only)
          refine hK.out _ _ ?_ (fun hHeld => ?_)
          · exact hS6.out _ hb68.out
          clear hK K
          try simp only [Act.put, List.setIfInBounds_toArray, List.set_cons_zero, List.set_cons_succ]
          refine wpAnyH_ready (rs := [5]) (by kernel_rfl) (by simp) ?_
          refine AllReadyH.cons (o := { dst := some 47, op := Op.buildSlice 24 3 #[(0, Operand.const (Value.int IntKind.u8 1)), (1, Operand.const (Value.int IntKind.u8 2)), (2, Operand.const (Value.int IntKind.u8 3))], type := 24, pos := "law.go:61", after := #[], guard := none }) rfl (fun K hK => ?_) AllReadyH.nil
          go_simp
          refine hK.out _ _ ?_ (fun hHeld => ?_)
          · exact hS6.out _ (hb68.out.alloc hb68.out.size _)
          clear hK K
          try simp only [Act.put, List.setIfInBounds_toArray, List.set_cons_zero, List.set_cons_succ]
          refine wpAnyH_ready (rs := [6]) (by kernel_rfl) (by simp) ?_
          refine AllReadyH.cons (o := { dst := some 48, op := Op.call { callee := Callee.builtin Builtin.append, args := #[Operand.tmp 46, Operand.tmp 47], argTypes := #[24, 24] }, type := 24, pos := "law.go:61", after := #[{ on := 4, ground := Ground.data }, { on := 5, ground := Ground.data }, { on := 4, ground := Ground.chain }], guard := none }) rfl (fun K hK => ?_) AllReadyH.nil
          rw [if_pos (by rfl)]
          refine app_bytesW (.tmp 46) (.tmp 47) w6.heap.size g8 n8 c8 R (some ⟨w8.heap.size, 0, none⟩) 3 3 [1, 2, 3] R3 rfl rfl rfl hn8.out hx8'.out hT8.out hR3'.out hs8.out hRl3.out ?_; intro g9 n9 c9 w9 hn9 hx9 hb9 hf9; have hb69 : Hid (Below w6.heap.size w6 w9) := (hb68.out.alloc hb68.out.size _).trans hb9.out; have hcv9 := conv_bytes (ownN_row hn9.out hx9.out); rw [hsb'.out] at hcv9; (try dsimp only)
          refine hK.out _ _ ?_ (fun hHeld => ?_)
          · exact hS6.out _ hb69.out
          clear hK K
          try simp only [Act.put, List.setIfInBounds_toArray, List.set_cons_zero, List.set_cons_succ]
          refine wpAnyH_ready (rs := [7]) (by kernel_rfl) (by simp) ?_
          refine AllReadyH.cons (o := { dst := some 49, op := Op.convert 24 9 (Operand.tmp 48), type := 9, pos := "law.go:61", after := #[{ on := 6, ground := Ground.data }], guard := none }) rfl (fun K hK => ?_) AllReadyH.nil
          go_simp
          refine hK.out _ _ ?_ (fun hHeld => ?_)
          · exact hS6.out _ hb69.out
          clear hK K
          try simp only [Act.put, List.setIfInBounds_toArray, List.set_cons_zero, List.set_cons_succ]
          refine wpAnyH_take (i := 8) (oi := { dst := some 50, op := Op.binOp BinOp.neq 9 (Operand.tmp 43) (Operand.tmp 49) 9, type := 4, pos := "law.go:61", after := #[{ on := 1, ground := Ground.data }, { on := 7, ground := Ground.data }], guard := none }) (v := ?_) rfl (by kernel_rfl) (by kernel_rfl) (by kernel_rfl) (fun _ _ _ h => h) (Or.inl ⟨by rfl, ?_⟩) (by assumption) ?_
          rotate_left
          · intro w hSw; (try dsimp only at hSw); go_simp <;> with_reducible rfl
          simp only [Act.put, List.setIfInBounds_toArray, List.set_cons_zero, List.set_cons_succ]
          refine wpAnyH_done (by kernel_rfl) ?_ _
          skip
          go_wp2_with fail
          go_meet
          exact ⟨rfl, hb69⟩
        refine AllReadyH.cons (o := { dst := some 47, op := Op.buildSlice 24 3 #[(0, Operand.const (Value.int IntKind.u8 1)), (1, Operand.const (Value.int IntKind.u8 2)), (2, Operand.const (Value.int IntKind.u8 3))], type := 24, pos := "law.go:61", after := #[], guard := none }) rfl (fun K hK => ?_) AllReadyH.nil
        go_simp
        refine hK.out _ _ ?_ (fun hHeld => ?_)
        · exact hS6.out _ (hE6.out.alloc hE6.out.size _).drew
        clear hK K
        try simp only [Act.put, List.setIfInBounds_toArray, List.set_cons_zero, List.set_cons_succ]
        refine wpAnyH_ready (rs := [4]) (by kernel_rfl) (by simp) ?_
        refine AllReadyH.cons (o := { dst := some 46, op := Op.call { callee := Callee.builtin Builtin.append, args := #[Operand.tmp 44, Operand.tmp 45], argTypes := #[24, 24] }, type := 24, pos := "law.go:61", after := #[{ on := 2, ground := Ground.data }, { on := 3, ground := Ground.data }], guard := none }) rfl (fun K hK => ?_) AllReadyH.nil
        rw [if_pos (by rfl)]
        refine app_bytesW (.tmp 44) (.tmp 45) w6.heap.size w6.heap.size 0 0 [] oa n cap R R rfl rfl rfl rfl (World.ownsRow.alloc (owns_zero w6 _) _) (hR6.out _ (hE6.out.alloc hE6.out.size _).drew) rfl (hE6.out.alloc hE6.out.size _).drew.size hRl.out ?_; intro g8 n8 c8 w8 hn8 hx8 hb8 hf8; have hb68 : Hid (Below w6.heap.size w6 w8) := (hE6.out.alloc hE6.out.size _).drew.trans hb8.out; have hT8 : Hid (RowC w8 (.slice (some ⟨w6.heap.size + 1, 0, none⟩) 3 3) [1, 2, 3]) := (by have h1 := row_new (w6.alloc (.cells #[] 5)) [1, 2, 3]; rw [size_alloc] at h1; exact rowC_same h1 (hf8.out (w6.heap.size + 1) (by show w6.heap.size + 1 < ((w6.alloc (.cells #[] 5)).alloc (.cells #[.int .u8 1, .int .u8 2, .int .u8 3] 5)).heap.size; rw [size_alloc, size_alloc]; omega) (by omega))); (try dsimp only)
        refine hK.out _ _ ?_ (fun hHeld => ?_)
        · exact hS6.out _ hb68.out
        clear hK K
        try simp only [Act.put, List.setIfInBounds_toArray, List.set_cons_zero, List.set_cons_succ]
        refine wpAnyH_ready (rs := [6]) (by kernel_rfl) (by simp) ?_
        refine AllReadyH.cons (o := { dst := some 48, op := Op.call { callee := Callee.builtin Builtin.append, args := #[Operand.tmp 46, Operand.tmp 47], argTypes := #[24, 24] }, type := 24, pos := "law.go:61", after := #[{ on := 4, ground := Ground.data }, { on := 5, ground := Ground.data }, { on := 4, ground := Ground.chain }], guard := none }) rfl (fun K hK => ?_) AllReadyH.nil
        rw [if_pos (by rfl)]
        refine app_bytesW (.tmp 46) (.tmp 47) w6.heap.size g8 n8 c8 R (some ⟨(w6.heap.size + 1), 0, none⟩) 3 3 [1, 2, 3] R3 rfl rfl rfl hn8.out hx8.out hT8.out hR3'.out hb68.out.size hRl3.out ?_; intro g9 n9 c9 w9 hn9 hx9 hb9 hf9; have hb69 : Hid (Below w6.heap.size w6 w9) := hb68.out.trans hb9.out; have hcv9 := conv_bytes (ownN_row hn9.out hx9.out); rw [hsb'.out] at hcv9; (try dsimp only)
        refine hK.out _ _ ?_ (fun hHeld => ?_)
        · exact hS6.out _ hb69.out
        clear hK K
        try simp only [Act.put, List.setIfInBounds_toArray, List.set_cons_zero, List.set_cons_succ]
        refine wpAnyH_ready (rs := [7]) (by kernel_rfl) (by simp) ?_
        refine AllReadyH.cons (o := { dst := some 49, op := Op.convert 24 9 (Operand.tmp 48), type := 9, pos := "law.go:61", after := #[{ on := 6, ground := Ground.data }], guard := none }) rfl (fun K hK => ?_) AllReadyH.nil
        go_simp
        refine hK.out _ _ ?_ (fun hHeld => ?_)
        · exact hS6.out _ hb69.out
        clear hK K
        try simp only [Act.put, List.setIfInBounds_toArray, List.set_cons_zero, List.set_cons_succ]
        refine wpAnyH_take (i := 8) (oi := { dst := some 50, op := Op.binOp BinOp.neq 9 (Operand.tmp 43) (Operand.tmp 49) 9, type := 4, pos := "law.go:61", after := #[{ on := 1, ground := Ground.data }, { on := 7, ground := Ground.data }], guard := none }) (v := ?_) rfl (by kernel_rfl) (by kernel_rfl) (by kernel_rfl) (fun _ _ _ h => h) (Or.inl ⟨by rfl, ?_⟩) (by assumption) ?_
        rotate_left
        · intro w hSw; (try dsimp only at hSw); go_simp <;> with_reducible rfl
        simp only [Act.put, List.setIfInBounds_toArray, List.set_cons_zero, List.set_cons_succ]
        refine wpAnyH_done (by kernel_rfl) ?_ _
        skip
        go_wp2_with fail
        go_meet
        exact ⟨rfl, hb69⟩
      refine AllReadyH.cons (o := { dst := some 47, op := Op.buildSlice 24 3 #[(0, Operand.const (Value.int IntKind.u8 1)), (1, Operand.const (Value.int IntKind.u8 2)), (2, Operand.const (Value.int IntKind.u8 3))], type := 24, pos := "law.go:61", after := #[], guard := none }) rfl (fun K hK => ?_) AllReadyH.nil
      go_simp
      refine hK.out _ _ ?_ (fun hHeld => ?_)
      · exact hS6.out _ hT6.out.drew
      clear hK K
      try simp only [Act.put, List.setIfInBounds_toArray, List.set_cons_zero, List.set_cons_succ]
      refine wpAnyH_ready (rs := [2]) (by kernel_rfl) (by simp) ?_
      refine AllReadyH.cons (o := { dst := some 44, op := Op.buildSlice 24 0 #[], type := 24, pos := "law.go:61", after := #[], guard := none }) rfl (fun K hK => ?_) AllReadyH.nil
      go_simp
      refine hK.out _ _ ?_ (fun hHeld => ?_)
      · exact hS6.out _ (hT6.out.alloc hT6.out.size _).drew
      clear hK K
      try simp only [Act.put, List.setIfInBounds_toArray, List.set_cons_zero, List.set_cons_succ]
      refine wpAnyH_ready (rs := [4]) (by kernel_rfl) (by simp) ?_
      refine AllReadyH.cons (o := { dst := some 46, op := Op.call { callee := Callee.builtin Builtin.append, args := #[Operand.tmp 44, Operand.tmp 45], argTypes := #[24, 24] }, type := 24, pos := "law.go:61", after := #[{ on := 2, ground := Ground.data }, { on := 3, ground := Ground.data }], guard := none }) rfl (fun K hK => ?_) AllReadyH.nil
      rw [if_pos (by rfl)]
      have hzC : Hid (((w6.alloc (.cells #[.int .u8 1, .int .u8 2, .int .u8 3] 5)).alloc (.cells #[] 5)).ownsRow w6.heap.size 5 1 (.slice (some ⟨w6.heap.size + 1, 0, none⟩) 0 0) 0 (cellsB [])) := (by have h1 := owns_zero (w6.alloc (.cells #[.int .u8 1, .int .u8 2, .int .u8 3] 5)) 5; rw [size_alloc] at h1; exact own_lowN h1 (Nat.le_succ _)); refine app_bytesW (.tmp 44) (.tmp 45) w6.heap.size (w6.heap.size + 1) 0 0 [] oa n cap R R rfl rfl rfl rfl hzC.out (hR6.out _ (hT6.out.alloc hT6.out.size _).drew) rfl (hT6.out.alloc hT6.out.size _).drew.size hRl.out ?_; intro g8 n8 c8 w8 hn8 hx8 hb8 hf8; have hb68 : Hid (Below w6.heap.size w6 w8) := (hT6.out.alloc hT6.out.size _).drew.trans hb8.out; have hT8 : Hid (RowC w8 (.slice (some ⟨w6.heap.size, 0, none⟩) 3 3) [1, 2, 3]) := (by have h1 := row_new w6 [1, 2, 3]; exact rowC_same h1 ((hf8.out w6.heap.size (by show w6.heap.size < ((w6.alloc (.cells #[.int .u8 1, .int .u8 2, .int .u8 3] 5)).alloc (.cells #[] 5)).heap.size; rw [size_alloc, size_alloc]; omega) (by omega)).trans (((Below.refl _ (w6.alloc (.cells #[.int .u8 1, .int .u8 2, .int .u8 3] 5))).alloc (Nat.le_refl _) _).block w6.heap.size (by rw [size_alloc]; omega)))); (try dsimp only)
      refine hK.out _ _ ?_ (fun hHeld => ?_)
      · exact hS6.out _ hb68.out
      clear hK K
      try simp only [Act.put, List.setIfInBounds_toArray, List.set_cons_zero, List.set_cons_succ]
      refine wpAnyH_ready (rs := [6]) (by kernel_rfl) (by simp) ?_
      refine AllReadyH.cons (o := { dst := some 48, op := Op.call { callee := Callee.builtin Builtin.append, args := #[Operand.tmp 46, Operand.tmp 47], argTypes := #[24, 24] }, type := 24, pos := "law.go:61", after := #[{ on := 4, ground := Ground.data }, { on := 5, ground := Ground.data }, { on := 4, ground := Ground.chain }], guard := none }) rfl (fun K hK => ?_) AllReadyH.nil
      rw [if_pos (by rfl)]
      refine app_bytesW (.tmp 46) (.tmp 47) w6.heap.size g8 n8 c8 R (some ⟨w6.heap.size, 0, none⟩) 3 3 [1, 2, 3] R3 rfl rfl rfl hn8.out hx8.out hT8.out hR3'.out hb68.out.size hRl3.out ?_; intro g9 n9 c9 w9 hn9 hx9 hb9 hf9; have hb69 : Hid (Below w6.heap.size w6 w9) := hb68.out.trans hb9.out; have hcv9 := conv_bytes (ownN_row hn9.out hx9.out); rw [hsb'.out] at hcv9; (try dsimp only)
      refine hK.out _ _ ?_ (fun hHeld => ?_)
      · exact hS6.out _ hb69.out
      clear hK K
      try simp only [Act.put, List.setIfInBounds_toArray, List.set_cons_zero, List.set_cons_succ]
      refine wpAnyH_ready (rs := [7]) (by kernel_rfl) (by simp) ?_
      refine AllReadyH.cons (o := { dst := some 49, op := Op.convert 24 9 (Operand.tmp 48), type := 9, pos := "law.go:61", after := #[{ on := 6, ground := Ground.data }], guard := none }) rfl (fun K hK => ?_) AllReadyH.nil
      go_simp
      refine hK.out _ _ ?_ (fun hHeld => ?_)
      · exact hS6.out _ hb69.out
      clear hK K
      try simp only [Act.put, List.setIfInBounds_toArray, List.set_cons_zero, List.set_cons_succ]
      refine wpAnyH_take (i := 8) (oi := { dst := some 50, op := Op.binOp BinOp.neq 9 (Operand.tmp 43) (Operand.tmp 49) 9, type := 4, pos := "law.go:61", after := #[{ on := 1, ground := Ground.data }, { on := 7, ground := Ground.data }], guard := none }) (v := ?_) rfl (by kernel_rfl) (by kernel_rfl) (by kernel_rfl) (fun _ _ _ h => h) (Or.inl ⟨by rfl, ?_⟩) (by assumption) ?_
      rotate_left
      · intro w hSw; (try dsimp only at hSw); go_simp <;> with_reducible rfl
      simp only [Act.put, List.setIfInBounds_toArray, List.set_cons_zero, List.set_cons_succ]
      refine wpAnyH_done (by kernel_rfl) ?_ _
      skip
      go_wp2_with fail
      go_meet
      exact ⟨rfl, hb69⟩
    case rest => as_aux_lemma =>
      obtain ⟨rfl, h9⟩ := hcut
      have hmb : m4 ≤ 140737488355328 := by rw [hm4.out, hR3l.out]; omega
      have ho9 := hide' (own_up ho6.out h9.out)
      have hd9 := hide' ((h9.out.block _ (blk_lt hd6.out)).trans hd6.out)
      have hU9 : Hid (Below w2.heap.size w2 wc) := hU6.out.trans (h9.out.mono hU6.out.size)
      clear h9 ho6 hd6 hU6 hS6 hsb' KW KR
      go_wp2
      go_loopw [12] (fun iv wy => ∃ (i : Nat) (M : List Nat), i ≤ m4 ∧ iv = .int .i64 (i : Int) ∧ Hid (wy.ownsRow w2.heap.size 5 1 (.slice (some ⟨g4, 0, none⟩) m4 c4) m4 (cellsB M)) ∧ Hid (wy.heap[gd]? = some (.cells #[.int .i64 dop, .string da, .string db, .string dc, .int .i64 dn, .string dt] 23 (0, 0))) ∧ Hid (Below w2.heap.size w2 wy)) (fun iv _ => ((m4 : Int) - intOf iv).toNat)
      case atStart => exact ⟨0, R3, by omega, rfl, ho9, hd9, hU9⟩
      case round =>
        clear ho9 hd9 hU9
        obtain ⟨i, M, hi, rfl, ho, hd, hU⟩ := hrel
        by_cases him : i < m4
        · have him' : (i : Int) < (m4 : Int) := by omega
          obtain ⟨⟨y, hy⟩, hf⟩ := own_cell ho.out him
          have hs := hide' (own_set ho.out i 120)
          rw [show (((120 : Nat) : Int)) = 120 from rfl] at hs
          have hd2 : Hid ((wr.setCell ⟨g4, i, none⟩ (.int .u8 120)).heap[gd]? = some (.cells #[.int .i64 dop, .string da, .string db, .string dc, .int .i64 dn, .string dt] 23 (0, 0))) := (Below.heap_setCell _ _ _ _ hne6.out.symm).trans hd.out
          have hU2 : Hid (Below w2.heap.size w2 (wr.setCell ⟨g4, i, none⟩ (.int .u8 120))) := hU.out.setCell (p := ⟨g4, i, none⟩) hgd.out _
          go_wp2
          exact ⟨⟨i + 1, M.set i 120, by omega, by go_num, hs, hd2, hU2⟩, by simp [intOf]; omega⟩
        · obtain rfl : i = m4 := by omega
          have hBy : Hid (Below W.heap.size W wr) := hB2'.out.trans (hU.out.mono hB2'.out.size)
          clear ho
          go_wp2_with fail
          refine (KD.out wr hBy.out).mono ?_
          rintro e w10 ⟨rfl, hb10⟩
          have hU10 : Hid (Below w2.heap.size w2 w10) := hU.out.trans (hb10.out.mono hU.out.size)
          have hd10 := (hb10.out.block _ (blk_lt hd.out)).trans hd.out
          have hU11 : Hid (Below w2.heap.size w2 (w10.alloc (.cells #[.int .i64 dop, .string da, .string db, .string dc, .int .i64 dn, .string dt] 23))) := hU10.out.alloc hU10.out.size _
          obtain ⟨e0, e1, e2, e3, e4, e5⟩ := cells6 ((((Below.refl _ w10).alloc (Nat.le_refl _) (.cells #[.int .i64 dop, .string da, .string db, .string dc, .int .i64 dn, .string dt] 23)).block _ (blk_lt hd10)).trans hd10)
          have hKn : Hid (KB.BookO W0 (W.heap.size + 1) (w10.alloc (.cells #[.int .i64 dop, .string da, .string db, .string dc, .int .i64 dn, .string dt] 23))) := hK2'.out.below hU11.out
          clear hd hU hb10 hd10 hU10 hU11 hBy KD K7 hin hbe hK2'
          go_wp2
          exact ⟨⟨j + 1, by omega, by go_num, hKn⟩, by simp [intOf]; omega⟩
end Go.Proofs.YtgfnfbbiojnhaaaDoor
