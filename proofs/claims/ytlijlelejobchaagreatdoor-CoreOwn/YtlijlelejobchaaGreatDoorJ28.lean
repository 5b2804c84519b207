/- Cut: a problem in new memory, cut. -/
import Derived.Test.YtlijlelejobchaaGreatDoorJ26
namespace Go.Proofs.YtlijlelejobchaaGreatDoor.S
open Go.RowKit Go.Shelf
def cutR (r : Rl) : Rl := { r with steps := r.steps.take 20 }
def cutP (P : Pb) : Pb := ⟨P.users, P.who.take 20, P.fixed.take 20, (P.rules.take 40).map cutR⟩
theorem take_end {α : Type} {L : List α} {j k : Nat} (hj : j ≤ k) (h : ¬ (j < L.length ∧ j < k)) (hl : j ≤ L.length) : L.take j = L.take k := by
  rcases Nat.lt_or_ge j k with h1 | h1
  · have h2 : j = L.length := by
      rcases Nat.lt_or_ge j L.length with q | q
      · exact absurd ⟨q, h1⟩ h
      · omega
    rw [List.take_of_length_le (by omega), List.take_of_length_le (by omega)]
  · rw [show j = k by omega]
theorem owns_lowT {B B' : Nat} {W : World} {v : Value} {E : List (Rl × Value)} (h : TwS B W v E) (hB : B' ≤ B) : TwS B' W v E := ⟨owns_lowS h.row hB, fun p hp => owns_lowS (h.inner p hp) hB⟩
theorem Rq.fin {w : World} {P : Pb} {wv fv rv : Value} {W : World} {ba bb bc va vb vc : Value} {L1 : List Nat} {L2 : List Int} {E : List (Rl × Value)} (h : Rq w P wv fv rv W ba bb bc va vb vc L1 L2 E) (oa : Option Addr) (na ca : Nat) (ob : Option Addr) (nb cb : Nat) (oc : Option Addr) (nc cc : Nat) :
    let W' := (((W.setCell ⟨w.heap.size + 1, 0, none⟩ (.int .i64 P.users)).setCell ⟨w.heap.size + 1, 1, none⟩ (.slice oa na ca)).setCell ⟨w.heap.size + 1, 2, none⟩ (.slice ob nb cb)).setCell ⟨w.heap.size + 1, 3, none⟩ (.slice oc nc cc)
    W'.ownsRow w.heap.size 55 1 va L1.length (cellsW L1) ∧ W'.ownsRow w.heap.size 3 1 vb L2.length (cellsI L2) ∧ TwS w.heap.size W' vc E ∧ Below w.heap.size w W' := by
  intro W'
  have ss : ∀ {V : World}, TwS (w.heap.size + 3) V vc E → ∀ (o : Nat) (u : Value), TwS (w.heap.size + 3) (V.setCell ⟨w.heap.size + 1, o, none⟩ u) vc E := fun h o u => ⟨own_set h.row (by omega) u, fun p hp => own_set (h.inner p hp) (by omega) u⟩
  refine ⟨owns_lowS (own_set (o := 3) (own_set (o := 2) (own_set (o := 1) (own_set (o := 0) h.r1 (by omega) _) (by omega) _) (by omega) _) (by omega) _) (by omega), owns_lowS (own_set (o := 3) (own_set (o := 2) (own_set (o := 1) (own_set (o := 0) h.r2 (by omega) _) (by omega) _) (by omega) _) (by omega) _) (by omega), owns_lowT (ss (ss (ss (ss h.r3 0 _) 1 _) 2 _) 3 _) (by omega), ?_⟩
  exact (((h.be.setCell (p := ⟨w.heap.size + 1, 0, none⟩) (Nat.le_succ _) _).setCell (p := ⟨w.heap.size + 1, 1, none⟩) (Nat.le_succ _) _).setCell (p := ⟨w.heap.size + 1, 2, none⟩) (Nat.le_succ _) _).setCell (p := ⟨w.heap.size + 1, 3, none⟩) (Nat.le_succ _) _
/-- What is cut is new memory. -/
def CuP (w : World) (P : Pb) (e : Ending) (w' : World) : Prop :=
  ∃ va vb vc E, e = .returned (.agg #[.int .i64 P.users, va, vb, vc]) ∧ Hid (w'.ownsRow w.heap.size 55 1 va (P.who.take 20).length (cellsW (P.who.take 20)) ∧ w'.ownsRow w.heap.size 3 1 vb (P.fixed.take 20).length (cellsI (P.fixed.take 20)) ∧ TwS w.heap.size w' vc E ∧ E.map Prod.fst = (P.rules.take 40).map cutR) ∧ Hid (Below w.heap.size w w')
set_option maxRecDepth 100000 in
set_option maxHeartbeats 8000000 in
theorem cutF (P : Pb) (wv fv rv : Value) (w : World) (h : PbV w P wv fv rv) :
    Calls Tryz.prog 5 #[pbV P wv fv rv] w (CuP w P) := by
  have hs := h.shape
  have h' := hide' h
  obtain ⟨ow, cw, of, cf, or, cr, rfl, rfl, rfl⟩ := hs
  unfold pbV
  have hst := hide' (Rq.start w P (.slice ow P.who.length cw) (.slice of P.fixed.length cf) (.slice or P.rules.length cr))
  clear h
  go_enter Tryz.func5, Tryz.ntmps5
  go_upto_block 0 with fail
  go_cut [4] from 13 to 33 (fun s wx => ∃ va, Hid (Rq w P (.slice ow P.who.length cw) (.slice of P.fixed.length cf) (.slice or P.rules.length cr) wx va (.slice none 0 0) (.slice none 0 0) va (.slice none 0 0) (.slice none 0 0) (P.who.take 20) [] []))
  case first =>
    as_aux_lemma =>
    go_wp2_with fail
    go_loopw [4] (fun p wr => ∃ (j : Nat) (va : Value), j ≤ P.who.length ∧ j ≤ 20 ∧ p = .int .i64 (j : Int) ∧ Hid (Rq w P (.slice ow P.who.length cw) (.slice of P.fixed.length cf) (.slice or P.rules.length cr) wr va (.slice none 0 0) (.slice none 0 0) va (.slice none 0 0) (.slice none 0 0) (P.who.take j) [] [])) (fun p _ => (20 - intOf p).toNat)
    case atStart => exact ⟨0, _, Nat.zero_le _, Nat.zero_le _, rfl, hst⟩
    case round =>
      clear hst
      obtain ⟨j, va, hj, hj20, rfl, hR⟩ := hrel
      have p1 := hR.out.pb.c1
      by_cases hlt : j < P.who.length ∧ j < 20
      · have hlt' : (j : Int) < (P.who.length : Int) := by omega
        have hl2 : (j : Int) < 20 := by omega
        obtain ⟨z, hz⟩ : ∃ z, P.who[j]? = some z := ⟨_, List.getElem?_eq_getElem hlt.1⟩
        obtain ⟨oa1, ca1, e1, _, hcw⟩ := h'.out.who
        cases e1
        obtain ⟨g1, o1, rfl, d1⟩ := hcw j z hz
        have hlen : (P.who.take j).length ≤ 1000 := by rw [List.length_take]; omega
        obtain ⟨oa, ca, rfl⟩ := own_shp hR.out.r1
        have hLa2 : Hid (P.who.take j ++ [z] = P.who.take (j + 1)) := by show _ = _; rw [List.take_add_one, hz]; rfl
        have c1' : Hid (∀ V, Below w.heap.size w V → V.cell? ⟨g1, o1 + j, none⟩ = some (.int .u64 (z : Int))) := fun V hV => M.cell_over d1 hV
        generalize hLa : P.who.take j = La at *
        have hRd := hide' (hR.out.over (Below.refl _ wr).drew)
        have hq1 := hRd.out.qb.c1
        have hq2 : ∀ o, (wr.alloc o).cell? ⟨w.heap.size + 1 + 1, 1, none⟩ = some (.slice oa La.length ca) := fun o => (hRd.out.over ((Below.refl _ wr.drew).alloc (Nat.le_refl _) o)).qb.c1
        have hj0 : ¬ (j : Int) < 0 := by omega
        clear hR h' hLa hz d1 hcw
        go_upto_region 5 with fail
        refine wp_region_held_drew (S := (fun V => V.cell? ⟨w.heap.size, 1, none⟩ = some (.slice (some ⟨g1, o1, none⟩) P.who.length cw) ∧ V.cell? ⟨g1, o1 + j, none⟩ = some (.int .u64 (z : Int)))) (by kernel_rfl) ?_ (fun hHeld => ?_)
        · exact ⟨hRd.out.pb.c1, c1'.out _ hRd.out.be⟩
        refine wpAnyH_take (i := 0) (oi := { dst := some 24, op := Op.fieldAddr 26 (Operand.tmp 3) 1, type := 0, pos := "law.go:16", after := #[], guard := none }) (v := ?_) rfl (by kernel_rfl) (by kernel_rfl) (by kernel_rfl) (fun _ _ _ h => h) (Or.inl ⟨by rfl, ?_⟩) (by assumption) ?_
        rotate_left
        · intro w hSw; (try dsimp only at hSw); go_simp <;> with_reducible rfl
        simp only [Act.put, List.setIfInBounds_toArray, List.set_cons_zero, List.set_cons_succ]
        refine wpAnyH_take (i := 2) (oi := { dst := some 26, op := Op.fieldAddr 26 (Operand.tmp 1) 1, type := 0, pos := "law.go:16", after := #[], guard := none }) (v := ?_) rfl (by kernel_rfl) (by kernel_rfl) (by kernel_rfl) (fun _ _ _ h => h) (Or.inl ⟨by rfl, ?_⟩) (by assumption) ?_
        rotate_left
        · intro w hSw; (try dsimp only at hSw); go_simp <;> with_reducible rfl
        simp only [Act.put, List.setIfInBounds_toArray, List.set_cons_zero, List.set_cons_succ]
        refine wpAnyH_take (i := 3) (oi := { dst := some 27, op := Op.load 22 (Operand.tmp 26), type := 22, pos := "law.go:16", after := #[{ on := 2, ground := Ground.data }], guard := none }) (v := ?_) rfl (by kernel_rfl) (by kernel_rfl) (by kernel_rfl) (fun _ _ _ h => h) (Or.inl ⟨by rfl, ?_⟩) (by assumption) ?_
        rotate_left
        · intro w hSw; (try dsimp only at hSw); go_simp <;> with_reducible rfl
        simp only [Act.put, List.setIfInBounds_toArray, List.set_cons_zero, List.set_cons_succ]
        refine wpAnyH_take (i := 4) (oi := { dst := some 28, op := Op.move (Operand.tmp 4), type := 3, pos := "law.go:16", after := #[], guard := none }) (v := ?_) rfl (by kernel_rfl) (by kernel_rfl) (by kernel_rfl) (fun _ _ _ h => h) (Or.inl ⟨by rfl, ?_⟩) (by assumption) ?_
        rotate_left
        · intro w hSw; (try dsimp only at hSw); go_simp <;> with_reducible rfl
        simp only [Act.put, List.setIfInBounds_toArray, List.set_cons_zero, List.set_cons_succ]
        refine wpAnyH_take (i := 5) (oi := { dst := some 29, op := Op.indexAddr 22 (Operand.tmp 27) (Operand.tmp 28), type := 0, pos := "law.go:16", after := #[{ on := 3, ground := Ground.data }, { on := 4, ground := Ground.data }], guard := none }) (v := ?_) rfl (by kernel_rfl) (by kernel_rfl) (by kernel_rfl) (fun _ _ _ h => h) (Or.inl ⟨by rfl, ?_⟩) (by assumption) ?_
        rotate_left
        · intro w hSw; (try dsimp only at hSw); go_simp <;> with_reducible rfl
        simp only [Act.put, List.setIfInBounds_toArray, List.set_cons_zero, List.set_cons_succ]
        refine wpAnyH_take (i := 6) (oi := { dst := some 30, op := Op.load 55 (Operand.tmp 29), type := 55, pos := "law.go:16", after := #[{ on := 5, ground := Ground.data }], guard := none }) (v := ?_) rfl (by kernel_rfl) (by kernel_rfl) (by kernel_rfl) (fun _ _ _ h => h) (Or.inl ⟨by rfl, ?_⟩) (by assumption) ?_
        rotate_left
        · intro w hSw; (try dsimp only at hSw); go_simp <;> with_reducible rfl
        simp only [Act.put, List.setIfInBounds_toArray, List.set_cons_zero, List.set_cons_succ]
        refine wpAnyH_ready (rs := [1, 7]) (by kernel_rfl) (by simp) ?_
        refine AllReadyH.cons (o := { dst := some 25, op := Op.load 22 (Operand.tmp 24), type := 22, pos := "law.go:16", after := #[{ on := 0, ground := Ground.data }], guard := none }) rfl (fun K hK => ?_) ?_
        · skip
          go_simp
          refine hK.out _ _ ?_ (fun hHeld => ?_)
          · exact ⟨hRd.out.pb.c1, c1'.out _ hRd.out.be⟩
          clear hK K
          try simp only [Act.put, List.setIfInBounds_toArray, List.set_cons_zero, List.set_cons_succ]
          refine wpAnyH_ready (rs := [7]) (by kernel_rfl) (by simp) ?_
          refine AllReadyH.cons (o := { dst := some 31, op := Op.buildSlice 22 1 #[(0, Operand.tmp 30)], type := 22, pos := "law.go:16", after := #[{ on := 6, ground := Ground.data }], guard := none }) rfl (fun K hK => ?_) AllReadyH.nil
          go_simp
          refine hK.out _ _ ?_ (fun hHeld => ?_)
          · exact ⟨(hRd.out.over ((Below.refl _ _).alloc (Nat.le_refl _) _)).pb.c1, c1'.out _ (hRd.out.over ((Below.refl _ _).alloc (Nat.le_refl _) _)).be⟩
          clear hK K
          try simp only [Act.put, List.setIfInBounds_toArray, List.set_cons_zero, List.set_cons_succ]
          refine wpAnyH_ready (rs := [8]) (by kernel_rfl) (by simp) ?_
          refine AllReadyH.cons (o := { dst := some 32, op := Op.call { callee := Callee.builtin Builtin.append, args := #[Operand.tmp 25, Operand.tmp 31], argTypes := #[22, 22] }, type := 22, pos := "law.go:16", after := #[{ on := 1, ground := Ground.data }, { on := 7, ground := Ground.data }], guard := none }) rfl (fun K hK => ?_) AllReadyH.nil
          rw [if_pos (by rfl)]
          refine Rq.wapp1 (.tmp 25) (.tmp 31) hRd.out z rfl rfl rfl (by omega) ?_; intro o5 n5 c5 w2 hRdx; have q2 := hRdx.qb.c1; have f2 := hRdx.qb.frz 1; (try dsimp only)
          refine hK.out _ _ ?_ (fun hHeld => ?_)
          · exact ⟨hRdx.pb.c1, c1'.out _ hRdx.be⟩
          clear hK K
          try simp only [Act.put, List.setIfInBounds_toArray, List.set_cons_zero, List.set_cons_succ]
          refine wpAnyH_take (i := 9) (oi := { dst := some 33, op := Op.fieldAddr 26 (Operand.tmp 3) 1, type := 0, pos := "law.go:16", after := #[{ on := 0, ground := Ground.phase }, { on := 1, ground := Ground.phase }, { on := 2, ground := Ground.phase }, { on := 3, ground := Ground.phase }, { on := 4, ground := Ground.phase }, { on := 5, ground := Ground.phase }, { on := 6, ground := Ground.phase }, { on := 7, ground := Ground.phase }, { on := 8, ground := Ground.phase }], guard := none }) (v := ?_) rfl (by kernel_rfl) (by kernel_rfl) (by kernel_rfl) (fun _ _ _ h => h) (Or.inl ⟨by rfl, ?_⟩) (by assumption) ?_
          rotate_left
          · intro w hSw; (try dsimp only at hSw); go_simp <;> with_reducible rfl
          simp only [Act.put, List.setIfInBounds_toArray, List.set_cons_zero, List.set_cons_succ]
          refine wpAnyH_ready (rs := [10]) (by kernel_rfl) (by simp) ?_
          refine AllReadyH.cons (o := { dst := none, op := Op.store 22 (Operand.tmp 33) (Operand.tmp 32), type := 0, pos := "law.go:16", after := #[{ on := 9, ground := Ground.data }, { on := 8, ground := Ground.data }, { on := 8, ground := Ground.chain }, { on := 0, ground := Ground.phase }, { on := 1, ground := Ground.phase }, { on := 2, ground := Ground.phase }, { on := 3, ground := Ground.phase }, { on := 4, ground := Ground.phase }, { on := 5, ground := Ground.phase }, { on := 6, ground := Ground.phase }, { on := 7, ground := Ground.phase }, { on := 8, ground := Ground.phase }], guard := none }) rfl (fun K hK => ?_) AllReadyH.nil
          go_simp
          refine hK.out _ _ ?_ (fun hHeld => ?_)
          · exact ⟨(hRdx.put (hRdx.qb.s1 (.slice o5 n5 c5))).pb.c1, c1'.out _ (hRdx.put (hRdx.qb.s1 (.slice o5 n5 c5))).be⟩
          clear hK K
          try simp only [Act.put, List.setIfInBounds_toArray, List.set_cons_zero, List.set_cons_succ]
          refine wpAnyH_done (by kernel_rfl) ?_ _
          skip
          have hR9 : Hid (Rq w P (.slice (some ⟨g1, o1, none⟩) P.who.length cw) (.slice of P.fixed.length cf) (.slice or P.rules.length cr) (w2.setCell ⟨w.heap.size + 1 + 1, 1, none⟩ (.slice o5 n5 c5)) (.slice o5 n5 c5) (.slice none 0 0) (.slice none 0 0) (.slice o5 n5 c5) (.slice none 0 0) (.slice none 0 0) (P.who.take (j + 1)) [] []) := by
            have h9 := hRdx.put (hRdx.qb.s1 (.slice o5 n5 c5))
            rw [hLa2.out] at h9
            exact h9
          clear hRdx hRd hLa2 q2 f2 hq1 hq2
          go_wp2
          exact ⟨⟨j + 1, _, by omega, by omega, by go_num, hR9⟩, by simp [intOf]; omega⟩
        refine AllReadyH.cons (o := { dst := some 31, op := Op.buildSlice 22 1 #[(0, Operand.tmp 30)], type := 22, pos := "law.go:16", after := #[{ on := 6, ground := Ground.data }], guard := none }) rfl (fun K hK => ?_) AllReadyH.nil
        go_simp
        refine hK.out _ _ ?_ (fun hHeld => ?_)
        · exact ⟨(hRd.out.over ((Below.refl _ _).alloc (Nat.le_refl _) _)).pb.c1, c1'.out _ (hRd.out.over ((Below.refl _ _).alloc (Nat.le_refl _) _)).be⟩
        clear hK K
        try simp only [Act.put, List.setIfInBounds_toArray, List.set_cons_zero, List.set_cons_succ]
        refine wpAnyH_ready (rs := [1]) (by kernel_rfl) (by simp) ?_
        refine AllReadyH.cons (o := { dst := some 25, op := Op.load 22 (Operand.tmp 24), type := 22, pos := "law.go:16", after := #[{ on := 0, ground := Ground.data }], guard := none }) rfl (fun K hK => ?_) AllReadyH.nil
        go_simp
        refine hK.out _ _ ?_ (fun hHeld => ?_)
        · exact ⟨(hRd.out.over ((Below.refl _ _).alloc (Nat.le_refl _) _)).pb.c1, c1'.out _ (hRd.out.over ((Below.refl _ _).alloc (Nat.le_refl _) _)).be⟩
        clear hK K
        try simp only [Act.put, List.setIfInBounds_toArray, List.set_cons_zero, List.set_cons_succ]
        refine wpAnyH_ready (rs := [8]) (by kernel_rfl) (by simp) ?_
        refine AllReadyH.cons (o := { dst := some 32, op := Op.call { callee := Callee.builtin Builtin.append, args := #[Operand.tmp 25, Operand.tmp 31], argTypes := #[22, 22] }, type := 22, pos := "law.go:16", after := #[{ on := 1, ground := Ground.data }, { on := 7, ground := Ground.data }], guard := none }) rfl (fun K hK => ?_) AllReadyH.nil
        rw [if_pos (by rfl)]
        refine Rq.wapp1 (.tmp 25) (.tmp 31) hRd.out z rfl rfl rfl (by omega) ?_; intro o5 n5 c5 w2 hRdx; have q2 := hRdx.qb.c1; have f2 := hRdx.qb.frz 1; (try dsimp only)
        refine hK.out _ _ ?_ (fun hHeld => ?_)
        · exact ⟨hRdx.pb.c1, c1'.out _ hRdx.be⟩
        clear hK K
        try simp only [Act.put, List.setIfInBounds_toArray, List.set_cons_zero, List.set_cons_succ]
        refine wpAnyH_take (i := 9) (oi := { dst := some 33, op := Op.fieldAddr 26 (Operand.tmp 3) 1, type := 0, pos := "law.go:16", after := #[{ on := 0, ground := Ground.phase }, { on := 1, ground := Ground.phase }, { on := 2, ground := Ground.phase }, { on := 3, ground := Ground.phase }, { on := 4, ground := Ground.phase }, { on := 5, ground := Ground.phase }, { on := 6, ground := Ground.phase }, { on := 7, ground := Ground.phase }, { on := 8, ground := Ground.phase }], guard := none }) (v := ?_) rfl (by kernel_rfl) (by kernel_rfl) (by kernel_rfl) (fun _ _ _ h => h) (Or.inl ⟨by rfl, ?_⟩) (by assumption) ?_
        rotate_left
        · intro w hSw; (try dsimp only at hSw); go_simp <;> with_reducible rfl
        simp only [Act.put, List.setIfInBounds_toArray, List.set_cons_zero, List.set_cons_succ]
        refine wpAnyH_ready (rs := [10]) (by kernel_rfl) (by simp) ?_
        refine AllReadyH.cons (o := { dst := none, op := Op.store 22 (Operand.tmp 33) (Operand.tmp 32), type := 0, pos := "law.go:16", after := #[{ on := 9, ground := Ground.data }, { on := 8, ground := Ground.data }, { on := 8, ground := Ground.chain }, { on := 0, ground := Ground.phase }, { on := 1, ground := Ground.phase }, { on := 2, ground := Ground.phase }, { on := 3, ground := Ground.phase }, { on := 4, ground := Ground.phase }, { on := 5, ground := Ground.phase }, { on := 6, ground := Ground.phase }, { on := 7, ground := Ground.phase }, { on := 8, ground := Ground.phase }], guard := none }) rfl (fun K hK => ?_) AllReadyH.nil
        go_simp
        refine hK.out _ _ ?_ (fun hHeld => ?_)
        · exact ⟨(hRdx.put (hRdx.qb.s1 (.slice o5 n5 c5))).pb.c1, c1'.out _ (hRdx.put (hRdx.qb.s1 (.slice o5 n5 c5))).be⟩
        clear hK K
        try simp only [Act.put, List.setIfInBounds_toArray, List.set_cons_zero, List.set_cons_succ]
        refine wpAnyH_done (by kernel_rfl) ?_ _
        skip
        have hR9 : Hid (Rq w P (.slice (some ⟨g1, o1, none⟩) P.who.length cw) (.slice of P.fixed.length cf) (.slice or P.rules.length cr) (w2.setCell ⟨w.heap.size + 1 + 1, 1, none⟩ (.slice o5 n5 c5)) (.slice o5 n5 c5) (.slice none 0 0) (.slice none 0 0) (.slice o5 n5 c5) (.slice none 0 0) (.slice none 0 0) (P.who.take (j + 1)) [] []) := by
          have h9 := hRdx.put (hRdx.qb.s1 (.slice o5 n5 c5))
          rw [hLa2.out] at h9
          exact h9
        clear hRdx hRd hLa2 q2 f2 hq1 hq2
        go_wp2
        exact ⟨⟨j + 1, _, by omega, by omega, by go_num, hR9⟩, by simp [intOf]; omega⟩
      · have hRe : Hid (Rq w P (.slice ow P.who.length cw) (.slice of P.fixed.length cf) (.slice or P.rules.length cr) wr va (.slice none 0 0) (.slice none 0 0) va (.slice none 0 0) (.slice none 0 0) (P.who.take 20) [] []) := by rw [← take_end hj20 hlt hj]; exact hR
        have hex : ¬ (j : Int) < (P.who.length : Int) ∨ ((j : Int) < (P.who.length : Int) ∧ ¬ (j : Int) < 20) := by omega
        clear hR hlt hj20 hj h'
        rcases hex with hex | ⟨hex, hex2⟩
        all_goals
          go_wp2
          go_meet
          exact ⟨va, hRe⟩
  case rest =>
  obtain ⟨va, hRe⟩ := hcut
  clear hst
  go_upto_block 2 with fail
  go_cut [5] from 34 to 54 (fun s wx => ∃ vb, Hid (Rq w P (.slice ow P.who.length cw) (.slice of P.fixed.length cf) (.slice or P.rules.length cr) wx va vb (.slice none 0 0) va vb (.slice none 0 0) (P.who.take 20) (P.fixed.take 20) []))
  case first =>
    as_aux_lemma =>
    go_wp2_with fail
    go_loopw [5] (fun p wr => ∃ (j : Nat) (vb : Value), j ≤ P.fixed.length ∧ j ≤ 20 ∧ p = .int .i64 (j : Int) ∧ Hid (Rq w P (.slice ow P.who.length cw) (.slice of P.fixed.length cf) (.slice or P.rules.length cr) wr va vb (.slice none 0 0) va vb (.slice none 0 0) (P.who.take 20) (P.fixed.take j) [])) (fun p _ => (20 - intOf p).toNat)
    case atStart => exact ⟨0, _, Nat.zero_le _, Nat.zero_le _, rfl, hRe⟩
    case round =>
      clear hRe
      obtain ⟨j2, vb, hj2, hj20, rfl, hR⟩ := hrel
      have p2 := hR.out.pb.c2
      by_cases hlt : j2 < P.fixed.length ∧ j2 < 20
      · have hlt' : (j2 : Int) < (P.fixed.length : Int) := by omega
        have hl2 : (j2 : Int) < 20 := by omega
        obtain ⟨y, hy⟩ : ∃ y, P.fixed[j2]? = some y := ⟨_, List.getElem?_eq_getElem hlt.1⟩
        obtain ⟨oa2, ca2, e2, _, hcf⟩ := h'.out.fixed
        cases e2
        obtain ⟨g2, o2, rfl, d2⟩ := hcf j2 y hy
        have hlen : (P.fixed.take j2).length ≤ 1000 := by rw [List.length_take]; omega
        obtain ⟨ob, cb, rfl⟩ := own_shp hR.out.r2
        have hLb2 : Hid (P.fixed.take j2 ++ [y] = P.fixed.take (j2 + 1)) := by show _ = _; rw [List.take_add_one, hy]; rfl
        have c2 : Hid (∀ V, Below w.heap.size w V → V.cell? ⟨g2, o2 + j2, none⟩ = some (.int .i64 y)) := fun V hV => M.cell_over d2 hV
        generalize hLb : P.fixed.take j2 = Lb at *
        have hRd := hide' (hR.out.over (Below.refl _ wr).drew)
        have hq1 := hRd.out.qb.c2
        have hq2 : ∀ o, (wr.alloc o).cell? ⟨w.heap.size + 1 + 1, 2, none⟩ = some (.slice ob Lb.length cb) := fun o => (hRd.out.over ((Below.refl _ wr.drew).alloc (Nat.le_refl _) o)).qb.c2
        have hj0 : ¬ (j2 : Int) < 0 := by omega
        clear hR h' hLb hy d2 hcf
        go_upto_region 9 with fail
        refine wp_region_held_drew (S := (fun V => V.cell? ⟨w.heap.size, 2, none⟩ = some (.slice (some ⟨g2, o2, none⟩) P.fixed.length cf) ∧ V.cell? ⟨g2, o2 + j2, none⟩ = some (.int .i64 y))) (by kernel_rfl) ?_ (fun hHeld => ?_)
        · exact ⟨hRd.out.pb.c2, c2.out _ hRd.out.be⟩
        refine wpAnyH_take (i := 0) (oi := { dst := some 45, op := Op.fieldAddr 26 (Operand.tmp 3) 2, type := 0, pos := "law.go:19", after := #[], guard := none }) (v := ?_) rfl (by kernel_rfl) (by kernel_rfl) (by kernel_rfl) (fun _ _ _ h => h) (Or.inl ⟨by rfl, ?_⟩) (by assumption) ?_
        rotate_left
        · intro w hSw; (try dsimp only at hSw); go_simp <;> with_reducible rfl
        simp only [Act.put, List.setIfInBounds_toArray, List.set_cons_zero, List.set_cons_succ]
        refine wpAnyH_take (i := 2) (oi := { dst := some 47, op := Op.fieldAddr 26 (Operand.tmp 1) 2, type := 0, pos := "law.go:19", after := #[], guard := none }) (v := ?_) rfl (by kernel_rfl) (by kernel_rfl) (by kernel_rfl) (fun _ _ _ h => h) (Or.inl ⟨by rfl, ?_⟩) (by assumption) ?_
        rotate_left
        · intro w hSw; (try dsimp only at hSw); go_simp <;> with_reducible rfl
        simp only [Act.put, List.setIfInBounds_toArray, List.set_cons_zero, List.set_cons_succ]
        refine wpAnyH_take (i := 3) (oi := { dst := some 48, op := Op.load 23 (Operand.tmp 47), type := 23, pos := "law.go:19", after := #[{ on := 2, ground := Ground.data }], guard := none }) (v := ?_) rfl (by kernel_rfl) (by kernel_rfl) (by kernel_rfl) (fun _ _ _ h => h) (Or.inl ⟨by rfl, ?_⟩) (by assumption) ?_
        rotate_left
        · intro w hSw; (try dsimp only at hSw); go_simp <;> with_reducible rfl
        simp only [Act.put, List.setIfInBounds_toArray, List.set_cons_zero, List.set_cons_succ]
        refine wpAnyH_take (i := 4) (oi := { dst := some 49, op := Op.move (Operand.tmp 5), type := 3, pos := "law.go:19", after := #[], guard := none }) (v := ?_) rfl (by kernel_rfl) (by kernel_rfl) (by kernel_rfl) (fun _ _ _ h => h) (Or.inl ⟨by rfl, ?_⟩) (by assumption) ?_
        rotate_left
        · intro w hSw; (try dsimp only at hSw); go_simp <;> with_reducible rfl
        simp only [Act.put, List.setIfInBounds_toArray, List.set_cons_zero, List.set_cons_succ]
        refine wpAnyH_take (i := 5) (oi := { dst := some 50, op := Op.indexAddr 23 (Operand.tmp 48) (Operand.tmp 49), type := 0, pos := "law.go:19", after := #[{ on := 3, ground := Ground.data }, { on := 4, ground := Ground.data }], guard := none }) (v := ?_) rfl (by kernel_rfl) (by kernel_rfl) (by kernel_rfl) (fun _ _ _ h => h) (Or.inl ⟨by rfl, ?_⟩) (by assumption) ?_
        rotate_left
        · intro w hSw; (try dsimp only at hSw); go_simp <;> with_reducible rfl
        simp only [Act.put, List.setIfInBounds_toArray, List.set_cons_zero, List.set_cons_succ]
        refine wpAnyH_take (i := 6) (oi := { dst := some 51, op := Op.load 3 (Operand.tmp 50), type := 3, pos := "law.go:19", after := #[{ on := 5, ground := Ground.data }], guard := none }) (v := ?_) rfl (by kernel_rfl) (by kernel_rfl) (by kernel_rfl) (fun _ _ _ h => h) (Or.inl ⟨by rfl, ?_⟩) (by assumption) ?_
        rotate_left
        · intro w hSw; (try dsimp only at hSw); go_simp <;> with_reducible rfl
        simp only [Act.put, List.setIfInBounds_toArray, List.set_cons_zero, List.set_cons_succ]
        refine wpAnyH_ready (rs := [1, 7]) (by kernel_rfl) (by simp) ?_
        refine AllReadyH.cons (o := { dst := some 46, op := Op.load 23 (Operand.tmp 45), type := 23, pos := "law.go:19", after := #[{ on := 0, ground := Ground.data }], guard := none }) rfl (fun K hK => ?_) ?_
        · skip
          go_simp
          refine hK.out _ _ ?_ (fun hHeld => ?_)
          · exact ⟨hRd.out.pb.c2, c2.out _ hRd.out.be⟩
          clear hK K
          try simp only [Act.put, List.setIfInBounds_toArray, List.set_cons_zero, List.set_cons_succ]
          refine wpAnyH_ready (rs := [7]) (by kernel_rfl) (by simp) ?_
          refine AllReadyH.cons (o := { dst := some 52, op := Op.buildSlice 23 1 #[(0, Operand.tmp 51)], type := 23, pos := "law.go:19", after := #[{ on := 6, ground := Ground.data }], guard := none }) rfl (fun K hK => ?_) AllReadyH.nil
          go_simp
          refine hK.out _ _ ?_ (fun hHeld => ?_)
          · exact ⟨(hRd.out.over ((Below.refl _ _).alloc (Nat.le_refl _) _)).pb.c2, c2.out _ (hRd.out.over ((Below.refl _ _).alloc (Nat.le_refl _) _)).be⟩
          clear hK K
          try simp only [Act.put, List.setIfInBounds_toArray, List.set_cons_zero, List.set_cons_succ]
          refine wpAnyH_ready (rs := [8]) (by kernel_rfl) (by simp) ?_
          refine AllReadyH.cons (o := { dst := some 53, op := Op.call { callee := Callee.builtin Builtin.append, args := #[Operand.tmp 46, Operand.tmp 52], argTypes := #[23, 23] }, type := 23, pos := "law.go:19", after := #[{ on := 1, ground := Ground.data }, { on := 7, ground := Ground.data }], guard := none }) rfl (fun K hK => ?_) AllReadyH.nil
          rw [if_pos (by rfl)]
          refine Rq.wapp2 (.tmp 46) (.tmp 52) hRd.out y rfl rfl rfl (by omega) ?_; intro o6 n6 c6 w4 hRdx; have q2 := hRdx.qb.c2; have f2 := hRdx.qb.frz 2; (try dsimp only)
          refine hK.out _ _ ?_ (fun hHeld => ?_)
          · exact ⟨hRdx.pb.c2, c2.out _ hRdx.be⟩
          clear hK K
          try simp only [Act.put, List.setIfInBounds_toArray, List.set_cons_zero, List.set_cons_succ]
          refine wpAnyH_take (i := 9) (oi := { dst := some 54, op := Op.fieldAddr 26 (Operand.tmp 3) 2, type := 0, pos := "law.go:19", after := #[{ on := 0, ground := Ground.phase }, { on := 1, ground := Ground.phase }, { on := 2, ground := Ground.phase }, { on := 3, ground := Ground.phase }, { on := 4, ground := Ground.phase }, { on := 5, ground := Ground.phase }, { on := 6, ground := Ground.phase }, { on := 7, ground := Ground.phase }, { on := 8, ground := Ground.phase }], guard := none }) (v := ?_) rfl (by kernel_rfl) (by kernel_rfl) (by kernel_rfl) (fun _ _ _ h => h) (Or.inl ⟨by rfl, ?_⟩) (by assumption) ?_
          rotate_left
          · intro w hSw; (try dsimp only at hSw); go_simp <;> with_reducible rfl
          simp only [Act.put, List.setIfInBounds_toArray, List.set_cons_zero, List.set_cons_succ]
          refine wpAnyH_ready (rs := [10]) (by kernel_rfl) (by simp) ?_
          refine AllReadyH.cons (o := { dst := none, op := Op.store 23 (Operand.tmp 54) (Operand.tmp 53), type := 0, pos := "law.go:19", after := #[{ on := 9, ground := Ground.data }, { on := 8, ground := Ground.data }, { on := 8, ground := Ground.chain }, { on := 0, ground := Ground.phase }, { on := 1, ground := Ground.phase }, { on := 2, ground := Ground.phase }, { on := 3, ground := Ground.phase }, { on := 4, ground := Ground.phase }, { on := 5, ground := Ground.phase }, { on := 6, ground := Ground.phase }, { on := 7, ground := Ground.phase }, { on := 8, ground := Ground.phase }], guard := none }) rfl (fun K hK => ?_) AllReadyH.nil
          go_simp
          refine hK.out _ _ ?_ (fun hHeld => ?_)
          · exact ⟨(hRdx.put (hRdx.qb.s2 (.slice o6 n6 c6))).pb.c2, c2.out _ (hRdx.put (hRdx.qb.s2 (.slice o6 n6 c6))).be⟩
          clear hK K
          try simp only [Act.put, List.setIfInBounds_toArray, List.set_cons_zero, List.set_cons_succ]
          refine wpAnyH_done (by kernel_rfl) ?_ _
          skip
          have hR9 : Hid (Rq w P (.slice ow P.who.length cw) (.slice (some ⟨g2, o2, none⟩) P.fixed.length cf) (.slice or P.rules.length cr) (w4.setCell ⟨w.heap.size + 1 + 1, 2, none⟩ (.slice o6 n6 c6)) va (.slice o6 n6 c6) (.slice none 0 0) va (.slice o6 n6 c6) (.slice none 0 0) (P.who.take 20) (P.fixed.take (j2 + 1)) []) := by
            have h9 := hRdx.put (hRdx.qb.s2 (.slice o6 n6 c6))
            rw [hLb2.out] at h9
            exact h9
          clear hRdx hRd hLb2 q2 f2 hq1 hq2
          go_wp2
          exact ⟨⟨j2 + 1, _, by omega, by omega, by go_num, hR9⟩, by simp [intOf]; omega⟩
        refine AllReadyH.cons (o := { dst := some 52, op := Op.buildSlice 23 1 #[(0, Operand.tmp 51)], type := 23, pos := "law.go:19", after := #[{ on := 6, ground := Ground.data }], guard := none }) rfl (fun K hK => ?_) AllReadyH.nil
        go_simp
        refine hK.out _ _ ?_ (fun hHeld => ?_)
        · exact ⟨(hRd.out.over ((Below.refl _ _).alloc (Nat.le_refl _) _)).pb.c2, c2.out _ (hRd.out.over ((Below.refl _ _).alloc (Nat.le_refl _) _)).be⟩
        clear hK K
        try simp only [Act.put, List.setIfInBounds_toArray, List.set_cons_zero, List.set_cons_succ]
        refine wpAnyH_ready (rs := [1]) (by kernel_rfl) (by simp) ?_
        refine AllReadyH.cons (o := { dst := some 46, op := Op.load 23 (Operand.tmp 45), type := 23, pos := "law.go:19", after := #[{ on := 0, ground := Ground.data }], guard := none }) rfl (fun K hK => ?_) AllReadyH.nil
        go_simp
        refine hK.out _ _ ?_ (fun hHeld => ?_)
        · exact ⟨(hRd.out.over ((Below.refl _ _).alloc (Nat.le_refl _) _)).pb.c2, c2.out _ (hRd.out.over ((Below.refl _ _).alloc (Nat.le_refl _) _)).be⟩
        clear hK K
        try simp only [Act.put, List.setIfInBounds_toArray, List.set_cons_zero, List.set_cons_succ]
        refine wpAnyH_ready (rs := [8]) (by kernel_rfl) (by simp) ?_
        refine AllReadyH.cons (o := { dst := some 53, op := Op.call { callee := Callee.builtin Builtin.append, args := #[Operand.tmp 46, Operand.tmp 52], argTypes := #[23, 23] }, type := 23, pos := "law.go:19", after := #[{ on := 1, ground := Ground.data }, { on := 7, ground := Ground.data }], guard := none }) rfl (fun K hK => ?_) AllReadyH.nil
        rw [if_pos (by rfl)]
        refine Rq.wapp2 (.tmp 46) (.tmp 52) hRd.out y rfl rfl rfl (by omega) ?_; intro o6 n6 c6 w4 hRdx; have q2 := hRdx.qb.c2; have f2 := hRdx.qb.frz 2; (try dsimp only)
        refine hK.out _ _ ?_ (fun hHeld => ?_)
        · exact ⟨hRdx.pb.c2, c2.out _ hRdx.be⟩
        clear hK K
        try simp only [Act.put, List.setIfInBounds_toArray, List.set_cons_zero, List.set_cons_succ]
        refine wpAnyH_take (i := 9) (oi := { dst := some 54, op := Op.fieldAddr 26 (Operand.tmp 3) 2, type := 0, pos := "law.go:19", after := #[{ on := 0, ground := Ground.phase }, { on := 1, ground := Ground.phase }, { on := 2, ground := Ground.phase }, { on := 3, ground := Ground.phase }, { on := 4, ground := Ground.phase }, { on := 5, ground := Ground.phase }, { on := 6, ground := Ground.phase }, { on := 7, ground := Ground.phase }, { on := 8, ground := Ground.phase }], guard := none }) (v := ?_) rfl (by kernel_rfl) (by kernel_rfl) (by kernel_rfl) (fun _ _ _ h => h) (Or.inl ⟨by rfl, ?_⟩) (by assumption) ?_
        rotate_left
        · intro w hSw; (try dsimp only at hSw); go_simp <;> with_reducible rfl
        simp only [Act.put, List.setIfInBounds_toArray, List.set_cons_zero, List.set_cons_succ]
        refine wpAnyH_ready (rs := [10]) (by kernel_rfl) (by simp) ?_
        refine AllReadyH.cons (o := { dst := none, op := Op.store 23 (Operand.tmp 54) (Operand.tmp 53), type := 0, pos := "law.go:19", after := #[{ on := 9, ground := Ground.data }, { on := 8, ground := Ground.data }, { on := 8, ground := Ground.chain }, { on := 0, ground := Ground.phase }, { on := 1, ground := Ground.phase }, { on := 2, ground := Ground.phase }, { on := 3, ground := Ground.phase }, { on := 4, ground := Ground.phase }, { on := 5, ground := Ground.phase }, { on := 6, ground := Ground.phase }, { on := 7, ground := Ground.phase }, { on := 8, ground := Ground.phase }], guard := none }) rfl (fun K hK => ?_) AllReadyH.nil
        go_simp
        refine hK.out _ _ ?_ (fun hHeld => ?_)
        · exact ⟨(hRdx.put (hRdx.qb.s2 (.slice o6 n6 c6))).pb.c2, c2.out _ (hRdx.put (hRdx.qb.s2 (.slice o6 n6 c6))).be⟩
        clear hK K
        try simp only [Act.put, List.setIfInBounds_toArray, List.set_cons_zero, List.set_cons_succ]
        refine wpAnyH_done (by kernel_rfl) ?_ _
        skip
        have hR9 : Hid (Rq w P (.slice ow P.who.length cw) (.slice (some ⟨g2, o2, none⟩) P.fixed.length cf) (.slice or P.rules.length cr) (w4.setCell ⟨w.heap.size + 1 + 1, 2, none⟩ (.slice o6 n6 c6)) va (.slice o6 n6 c6) (.slice none 0 0) va (.slice o6 n6 c6) (.slice none 0 0) (P.who.take 20) (P.fixed.take (j2 + 1)) []) := by
          have h9 := hRdx.put (hRdx.qb.s2 (.slice o6 n6 c6))
          rw [hLb2.out] at h9
          exact h9
        clear hRdx hRd hLb2 q2 f2 hq1 hq2
        go_wp2
        exact ⟨⟨j2 + 1, _, by omega, by omega, by go_num, hR9⟩, by simp [intOf]; omega⟩
      · have hRe : Hid (Rq w P (.slice ow P.who.length cw) (.slice of P.fixed.length cf) (.slice or P.rules.length cr) wr va vb (.slice none 0 0) va vb (.slice none 0 0) (P.who.take 20) (P.fixed.take 20) []) := by rw [← take_end hj20 hlt hj2]; exact hR
        have hex : ¬ (j2 : Int) < (P.fixed.length : Int) ∨ ((j2 : Int) < (P.fixed.length : Int) ∧ ¬ (j2 : Int) < 20) := by omega
        clear hR hlt hj20 hj2 h'
        rcases hex with hex | ⟨hex, hex2⟩
        all_goals
          go_wp2
          go_meet
          exact ⟨vb, hRe⟩
  case rest =>
  obtain ⟨vb, hRe0⟩ := hcut
  clear hRe
  have hRe := hRe0
  clear hRe0
  go_wp2
  go_loopw [6, 7, 8, 9] (fun p _ _ _ wr => ∃ (j : Nat) (E : List (Rl × Value)) (vc : Value), j ≤ P.rules.length ∧ j ≤ 40 ∧ p = .int .i64 (j : Int) ∧ Hid (E.map Prod.fst = (P.rules.take j).map cutR) ∧ Hid (Rq w P (.slice ow P.who.length cw) (.slice of P.fixed.length cf) (.slice or P.rules.length cr) wr va vb vc va vb vc (P.who.take 20) (P.fixed.take 20) E)) (fun p _ _ _ _ => (40 - intOf p).toNat)
  case atStart => exact ⟨0, [], _, Nat.zero_le _, Nat.zero_le _, rfl, rfl, hRe⟩
  case round =>
    clear hRe
    obtain ⟨j3, E, vc, hj3, hj40, rfl, hE, hR⟩ := hrel
    have p3 := hR.out.pb.c3
    by_cases hlt : j3 < P.rules.length ∧ j3 < 40
    · have hlt' : (j3 : Int) < (P.rules.length : Int) := by omega
      have hl2 : (j3 : Int) < 40 := by omega
      obtain ⟨r, hx⟩ : ∃ r, P.rules[j3]? = some r := ⟨_, List.getElem?_eq_getElem hlt.1⟩
      obtain ⟨oa3, ca3, e3, _, hcr⟩ := h'.out.rules
      cases e3
      obtain ⟨g, o, sv, rfl, d1, d2, d3, d4⟩ := hcr j3 r hx
      have e1 := M.cell_over d1 hR.out.be
      have e2 := M.cell_over d2 hR.out.be
      have e3 := M.cell_over d3 hR.out.be
      have hEl : E.length ≤ 1000 := by
        have := congrArg List.length hE.out
        rw [List.length_map, List.length_map, List.length_take] at this
        omega
      have hE2 : Hid (∀ v : Value, (E ++ [(cutR r, v)]).map Prod.fst = (P.rules.take (j3 + 1)).map cutR) := fun v => by rw [List.map_append, hE.out, List.take_add_one, hx]; simp
      have hbx : Hid (Below wr.heap.size wr (wr.alloc (.cells #[.int .i64 r.kind, .int .i64 r.k, sv] 44))) := (Below.refl _ wr).alloc (Nat.le_refl _) _
      have hnb : Hid ((wr.alloc (.cells #[.int .i64 r.kind, .int .i64 r.k, sv] 44)).heap[wr.heap.size]? = some (.cells #[.int .i64 r.kind, .int .i64 r.k, sv] 44 (0, 0))) := heap_new wr _
      have hRb := hide' (hR.out.over hbx.out)
      have hd4 := hide' (d4.below hRb.out.be (Nat.le_refl _))
      obtain ⟨osv, csv, rfl⟩ : ∃ a c, sv = .slice a r.steps.length c := by obtain ⟨a, c, e, _⟩ := d4; exact ⟨a, c, e⟩
      have hwz : w.heap.size + 3 ≤ wr.heap.size := hR.out.sz
      have hbz : wr.heap.size < (wr.alloc (.cells #[.int .i64 r.kind, .int .i64 r.k, .slice osv r.steps.length csv] 44)).heap.size := by simp
      have hbz' := hide' hbz
      clear d1 d2 d3 d4 hx hE hcr hR hbx hbz h'
      go_upto_block 6 with fail
      clear e1 e2 e3 p3
      generalize wr.alloc (.cells #[.int .i64 r.kind, .int .i64 r.k, .slice osv r.steps.length csv] 44) = Wb at *
      generalize wr.heap.size = wr0 at *
      go_cut [8, 9] from 71 to 89 (fun s _ wx => Hid (wx.ownsRow Wb.heap.size 3 1 s (r.steps.take 20).length (cellsI (r.steps.take 20))) ∧ Hid (Below Wb.heap.size Wb wx))
      case first =>
        as_aux_lemma =>
        go_wp2_with fail
        go_loopw [8, 9] (fun s p wi => ∃ (k : Nat), k ≤ r.steps.length ∧ k ≤ 20 ∧ p = .int .i64 (k : Int) ∧ Hid (wi.ownsRow Wb.heap.size 3 1 s (r.steps.take k).length (cellsI (r.steps.take k))) ∧ Hid (Below Wb.heap.size Wb wi)) (fun _ p _ => (20 - intOf p).toNat)
        case atStart => exact ⟨0, Nat.zero_le _, Nat.zero_le _, rfl, World.ownsRow_nil _ _ _ _, Below.refl _ _⟩
        case round =>
          obtain ⟨k, hk, hk20, rfl, hO, hB⟩ := hrel
          have hb6 : Hid (wr.heap[wr0]? = some (.cells #[.int .i64 r.kind, .int .i64 r.k, .slice osv r.steps.length csv] 44 (0, 0))) := (hB.out.block _ hbz'.out).trans hnb.out
          have k0 : wr.cell? ⟨wr0, 0, none⟩ = some (.int .i64 r.kind) := by have := hb6.out; simp [World.cell?, this]
          have k1 : wr.cell? ⟨wr0, 1, none⟩ = some (.int .i64 r.k) := by have := hb6.out; simp [World.cell?, this]
          have k2 : wr.cell? ⟨wr0, 2, none⟩ = some (.slice osv r.steps.length csv) := by have := hb6.out; simp [World.cell?, this]
          obtain ⟨os8, ns8, cs8, rfl⟩ : ∃ a b c, u8 = .slice a b c := by obtain ⟨a, c, e⟩ := own_shp hO.out; exact ⟨a, _, c, e⟩
          by_cases hlt2 : k < r.steps.length ∧ k < 20
          · have hlt3 : (k : Int) < (r.steps.length : Int) := by omega
            have hl4 : (k : Int) < 20 := by omega
            obtain ⟨z, hz⟩ : ∃ z, r.steps[k]? = some z := ⟨_, List.getElem?_eq_getElem hlt2.1⟩
            obtain ⟨oa8, ca8, e8, _, hcs⟩ := hd4.out
            injection e8 with e8a e8b e8c
            subst e8a
            subst e8c
            obtain ⟨g8, o8, rfl, d8⟩ := hcs k z hz
            have c8 := M.cell_over d8 hB.out
            have hlen : (r.steps.take k).length ≤ 1000 := by rw [List.length_take]; omega
            have hL2 : Hid (r.steps.take k ++ [z] = r.steps.take (k + 1)) := by show _ = _; rw [List.take_add_one, hz]; rfl
            have hBs := hB.out.size
            clear hz d8 hcs e8b hRb hE2 hb6 k0 k1
            generalize r.steps.take k = Ls at *
            go_wp2_with (at_builtin; refine app_intL rfl (.tmp 82) (.tmp 88) Wb.heap.size wr (.slice os8 ns8 cs8) Ls z rfl rfl rfl hO.out hBs (by omega) ?_; intro v2 w2 hO2 hb2; have hO3 := hide' hO2; have hB3 : Hid (Below Wb.heap.size Wb w2) := hB.out.trans hb2; clear hO2 hb2)
            rw [hL2.out] at hO3
            exact ⟨⟨k + 1, by omega, by omega, by go_num, hO3, hB3⟩, by simp [intOf]; omega⟩
          · have hOe : Hid (wr.ownsRow Wb.heap.size 3 1 (.slice os8 ns8 cs8) (r.steps.take 20).length (cellsI (r.steps.take 20))) := by rw [← take_end hk20 hlt2 hk]; exact hO
            have hex : ¬ (k : Int) < (r.steps.length : Int) ∨ ((k : Int) < (r.steps.length : Int) ∧ ¬ (k : Int) < 20) := by omega
            clear hO hlt2 hk20 hk hRb hnb hb6 hd4
            rcases hex with hex | ⟨hex, hex2⟩
            all_goals
              go_wp2
              go_meet
              exact ⟨hOe, hB⟩
      case rest =>
      obtain ⟨hOe, hB⟩ := hcut
      have hb6 : Hid (wc.heap[wr0]? = some (.cells #[.int .i64 r.kind, .int .i64 r.k, .slice osv r.steps.length csv] 44 (0, 0))) := (hB.out.block _ hbz'.out).trans hnb.out
      have k0 : wc.cell? ⟨wr0, 0, none⟩ = some (.int .i64 r.kind) := by have := hb6.out; simp [World.cell?, this]
      have k1 : wc.cell? ⟨wr0, 1, none⟩ = some (.int .i64 r.k) := by have := hb6.out; simp [World.cell?, this]
      obtain ⟨os8, ns8, cs8, hu8⟩ : ∃ a b c, u8 = .slice a b c := by obtain ⟨a, c, e⟩ := own_shp hOe.out; exact ⟨a, _, c, e⟩
      subst hu8
      have hRi := hide' (hRb.out.over hB.out)
      have hown : Hid (wc.ownsRow (w.heap.size + 3) 3 1 ((cutR r, .slice os8 ns8 cs8) : Rl × Value).2 ((cutR r, .slice os8 ns8 cs8) : Rl × Value).1.steps.length (cellsI ((cutR r, .slice os8 ns8 cs8) : Rl × Value).1.steps)) := owns_lowS hOe.out (by have := hbz'.out; omega)
      have l3 := hRi.out.qb.c3
      obtain ⟨ovc, nvc, cvc, rfl⟩ : ∃ a b c, vc = .slice a b c := by obtain ⟨a, c, e⟩ := own_shp hRi.out.r3.row; exact ⟨a, _, c, e⟩
      clear hOe hB hRb hnb hb6 hd4
      go_wp2_with (at_builtin; refine Rq.app3 rfl (.tmp 91) (.tmp 98) hRi.out (cutR r, .slice os8 ns8 cs8) rfl rfl rfl hown.out (by omega) ?_; intro o5 n5 c5 w2 hR2; have hf2 := hR2.qb.frz 3; have hc2 := hR2.qb.c3; have hR3 := hide' (hR2.put (hR2.qb.s3 (.slice o5 n5 c5))); clear hR2)
      exact ⟨⟨j3 + 1, _, _, by omega, by omega, by go_num, hE2.out _, hR3⟩, by simp [intOf]; omega⟩
    · have hex : ¬ (j3 : Int) < (P.rules.length : Int) ∨ ((j3 : Int) < (P.rules.length : Int) ∧ ¬ (j3 : Int) < 40) := by omega
      have hEe : Hid (E.map Prod.fst = (P.rules.take 40).map cutR) := by rw [← take_end hj40 hlt hj3]; exact hE
      obtain ⟨oa, ca, ea⟩ := own_shp hR.out.r1
      obtain ⟨ob, cb, eb⟩ := own_shp hR.out.r2
      obtain ⟨oc, cc, ec⟩ := own_shp hR.out.r3.row
      obtain ⟨na, hna⟩ : ∃ x, x = (P.who.take 20).length := ⟨_, rfl⟩
      obtain ⟨nb, hnb⟩ : ∃ x, x = (P.fixed.take 20).length := ⟨_, rfl⟩
      obtain ⟨nc, hnc⟩ : ∃ x, x = E.length := ⟨_, rfl⟩
      rw [← hna] at ea
      rw [← hnb] at eb
      rw [← hnc] at ec
      subst ea eb ec
      have q0 := hR.out.qb.c0
      have q1 := hR.out.qb.c1
      have q2 := hR.out.qb.c2
      have q3 := hR.out.qb.c3
      have z0 := hR.out.zb.frz 0
      have y0 := hR.out.zb.c0
      have z1 := World.rowIs.frozen (World.rowIs.set hR.out.zb 0 (.int .i64 P.users)) 1
      have y1 := World.rowIs.cell (World.rowIs.set hR.out.zb 0 (.int .i64 P.users)) (i := 1) (by decide)
      have z2 := World.rowIs.frozen (World.rowIs.set (World.rowIs.set hR.out.zb 0 (.int .i64 P.users)) 1 (.slice oa na ca)) 2
      have y2 := World.rowIs.cell (World.rowIs.set (World.rowIs.set hR.out.zb 0 (.int .i64 P.users)) 1 (.slice oa na ca)) (i := 2) (by decide)
      have z3 := World.rowIs.frozen (World.rowIs.set (World.rowIs.set (World.rowIs.set hR.out.zb 0 (.int .i64 P.users)) 1 (.slice oa na ca)) 2 (.slice ob nb cb)) 3
      have y3 := World.rowIs.cell (World.rowIs.set (World.rowIs.set (World.rowIs.set hR.out.zb 0 (.int .i64 P.users)) 1 (.slice oa na ca)) 2 (.slice ob nb cb)) (i := 3) (by decide)
      have hX := World.rowIs.set (World.rowIs.set (World.rowIs.set (World.rowIs.set hR.out.zb 0 (.int .i64 P.users)) 1 (.slice oa na ca)) 2 (.slice ob nb cb)) 3 (.slice oc nc cc)
      have x0 := World.rowIs.cell hX (i := 0) (by decide)
      have x1 := World.rowIs.cell hX (i := 1) (by decide)
      have x2 := World.rowIs.cell hX (i := 2) (by decide)
      have x3 := World.rowIs.cell hX (i := 3) (by decide)
      simp [qF] at y1 y2 y3 x0 x1 x2 x3
      have hfin := hide' (Rq.fin hR.out oa na ca ob nb cb oc nc cc)
      clear hX hR hE hna hnb hnc hlt hj40 hj3
      rcases hex with hex | ⟨hex, hex2⟩
      all_goals
        go_wp2
        refine bodyPost_ret (v := .agg #[.int .i64 P.users, .slice oa na ca, .slice ob nb cb, .slice oc nc cc]) (by simp [results, Tryz.results5, go_sem, x0, x1, x2, x3]) rfl ?_
        exact ⟨_, _, _, E, rfl, ⟨hfin.out.1, hfin.out.2.1, hfin.out.2.2.1, hEe.out⟩, hfin.out.2.2.2⟩
end Go.Proofs.YtlijlelejobchaaGreatDoor.S
