/- core.rest: its answer's rows are its own, no two in one block. -/
import Derived.Test.YtlijlelejobchaaGreatDoorJ33
import Derived.Test.YtlijlelejobchaaGreatDoorJ34
namespace Go.Proofs.YtlijlelejobchaaGreatDoor.S
open Go.RowKit Go.Shelf
def RvP (w : World) (X : Pb) (e : Ending) (w' : World) : Prop :=
  ∃ o1 n1 c1 o2 n2 c2 o3 n3 c3, e = .returned (.agg #[.int .i64 X.users, .slice o1 n1 c1, .slice o2 n2 c2, .slice o3 n3 c3]) ∧ Hid (PbV w' X (.slice o1 n1 c1) (.slice o2 n2 c2) (.slice o3 n3 c3)) ∧ Hid (Below w.heap.size w w') ∧ Hid (∀ ad n c, Value.slice o1 n1 c1 = .slice (some ad) n c → w.heap.size ≤ ad.block) ∧ Hid (FvO w w' X (.slice o1 n1 c1) (.slice o2 n2 c2) (.slice o3 n3 c3))
set_option maxRecDepth 100000 in
set_option maxHeartbeats 8000000 in
theorem restV (P : Pb) (wv fv rv : Value) (k1 k2 : Nat) (cs1 cs2 : Array Value) (fr fs : Nat → Bool) (w : World) (h : PbV w P wv fv rv) (hk : Pok P) (hU0 : 0 ≤ P.users) (hU : P.users ≤ 64) (hfl : P.fixed.length = P.who.length) (hc1 : Chs w k1 cs1 fr) (hc2 : Chs w k2 cs2 fs) :
    Calls Tryz.prog 47 #[pbV P wv fv rv, .func (.func k1) #[] cs1, .func (.func k2) #[] cs2] w (RvP w (spP P fr fs)) := by
  have hS3 := hide' (Fp.start h)
  have hc1' := hide' hc1
  have hc2' := hide' hc2
  have hs := h.shape
  have hk' := hide' hk
  have h' := hide' h.rules
  have hfl' := hide' hfl
  obtain ⟨ow, cw, of, cf, or, cr, rfl, rfl, rfl⟩ := hs
  unfold pbV
  have hsr : Hid (∀ r ∈ P.rules, r.steps.length ≤ 1000) := hk.s
  have hrl : P.rules.length ≤ 1000 := hk.r
  clear h hk hc1 hc2 hfl
  have KW : Hid (∀ V, PbV V P (.slice ow P.who.length cw) (.slice of P.fixed.length cf) (.slice or P.rules.length cr) → Calls Tryz.prog 37 #[.slice ow P.who.length cw] V fun e w' => ∃ o n c, e = .returned (.slice o n c) ∧ Hid (w'.ownsRow V.heap.size 55 1 (.slice o n c) P.who.length (cellsW P.who)) ∧ Hid (Below V.heap.size V w')) := fun V hV => (cloneW P.who _ V hV.who hk'.out.w).mono fun e w' ⟨v, e1, e2, e3⟩ => by
    obtain ⟨a, c, rfl⟩ := own_shp e2
    exact ⟨a, _, c, e1, e2, e3⟩
  have KI : Hid (∀ V, PbV V P (.slice ow P.who.length cw) (.slice of P.fixed.length cf) (.slice or P.rules.length cr) → Calls Tryz.prog 38 #[.slice of P.fixed.length cf] V fun e w' => ∃ o n c, e = .returned (.slice o n c) ∧ Hid (w'.ownsRow V.heap.size 3 1 (.slice o n c) P.fixed.length (cellsI P.fixed)) ∧ Hid (Below V.heap.size V w')) := fun V hV => (clone P.fixed _ V hV.fixed hk'.out.f).mono fun e w' ⟨v, e1, e2, e3⟩ => by
    obtain ⟨a, c, rfl⟩ := own_shp e2
    exact ⟨a, _, c, e1, e2, e3⟩
  go_enter Tryz.func47, Tryz.ntmps47
  go_upto_region 1 with fail
  generalize (w.alloc (.cells #[.int .i64 P.users, .slice ow P.who.length cw, .slice of P.fixed.length cf, .slice or P.rules.length cr] 26)).alloc (.cells #[.int .i64 0, .slice none 0 0, .slice none 0 0, .slice none 0 0] 26) = w3 at *
  go_cut [7] from 11 to 19 (fun qv wx => ∃ gq oa na ca ob nb cb, qv = .pointer (some ⟨gq, 0, none⟩) ∧ Hid (Fv w P (.slice ow P.who.length cw) (.slice of P.fixed.length cf) (.slice or P.rules.length cr) gq wx P.users (.slice oa na ca) (.slice ob nb cb) (.slice none 0 0) (.slice oa na ca) (.slice ob nb cb) (.slice none 0 0) P.who P.fixed []))
  case first =>
    as_aux_lemma =>
    have hP0 := hide' (hS3.out.over (Below.refl _ _).drew)
    clear hS3
    refine wp_region_held_drew (S := (fun V => V.cell? ⟨w.heap.size, 0, none⟩ = some (.int .i64 P.users) ∧ V.cell? ⟨w.heap.size, 1, none⟩ = some (.slice ow P.who.length cw) ∧ V.cell? ⟨w.heap.size, 2, none⟩ = some (.slice of P.fixed.length cf))) (by kernel_rfl) ?_ (fun hHeld => ?_)
    · exact hP0.out.cells
    refine wpAnyH_take (i := 0) (oi := { dst := some 11, op := Op.fieldAddr 26 (Operand.tmp 3) 0, type := 0, pos := "spare.go:33", after := #[], guard := none }) (v := ?_) rfl (by kernel_rfl) (by kernel_rfl) (by kernel_rfl) (fun _ _ _ h => h) (Or.inl ⟨by rfl, ?_⟩) (by assumption) ?_
    rotate_left
    · intro w hSw; (try dsimp only at hSw); go_simp <;> with_reducible rfl
    simp only [Act.put, List.setIfInBounds_toArray, List.set_cons_zero, List.set_cons_succ]
    refine wpAnyH_take (i := 1) (oi := { dst := some 12, op := Op.load 3 (Operand.tmp 11), type := 3, pos := "spare.go:33", after := #[{ on := 0, ground := Ground.data }], guard := none }) (v := ?_) rfl (by kernel_rfl) (by kernel_rfl) (by kernel_rfl) (fun _ _ _ h => h) (Or.inl ⟨by rfl, ?_⟩) (by assumption) ?_
    rotate_left
    · intro w hSw; (try dsimp only at hSw); go_simp <;> with_reducible rfl
    simp only [Act.put, List.setIfInBounds_toArray, List.set_cons_zero, List.set_cons_succ]
    refine wpAnyH_take (i := 2) (oi := { dst := some 13, op := Op.fieldAddr 26 (Operand.tmp 3) 1, type := 0, pos := "spare.go:33", after := #[], guard := none }) (v := ?_) rfl (by kernel_rfl) (by kernel_rfl) (by kernel_rfl) (fun _ _ _ h => h) (Or.inl ⟨by rfl, ?_⟩) (by assumption) ?_
    rotate_left
    · intro w hSw; (try dsimp only at hSw); go_simp <;> with_reducible rfl
    simp only [Act.put, List.setIfInBounds_toArray, List.set_cons_zero, List.set_cons_succ]
    refine wpAnyH_take (i := 3) (oi := { dst := some 14, op := Op.load 22 (Operand.tmp 13), type := 22, pos := "spare.go:33", after := #[{ on := 2, ground := Ground.data }], guard := none }) (v := ?_) rfl (by kernel_rfl) (by kernel_rfl) (by kernel_rfl) (fun _ _ _ h => h) (Or.inl ⟨by rfl, ?_⟩) (by assumption) ?_
    rotate_left
    · intro w hSw; (try dsimp only at hSw); go_simp <;> with_reducible rfl
    simp only [Act.put, List.setIfInBounds_toArray, List.set_cons_zero, List.set_cons_succ]
    refine wpAnyH_take (i := 5) (oi := { dst := some 16, op := Op.fieldAddr 26 (Operand.tmp 3) 2, type := 0, pos := "spare.go:33", after := #[], guard := none }) (v := ?_) rfl (by kernel_rfl) (by kernel_rfl) (by kernel_rfl) (fun _ _ _ h => h) (Or.inl ⟨by rfl, ?_⟩) (by assumption) ?_
    rotate_left
    · intro w hSw; (try dsimp only at hSw); go_simp <;> with_reducible rfl
    simp only [Act.put, List.setIfInBounds_toArray, List.set_cons_zero, List.set_cons_succ]
    refine wpAnyH_take (i := 6) (oi := { dst := some 17, op := Op.load 23 (Operand.tmp 16), type := 23, pos := "spare.go:33", after := #[{ on := 5, ground := Ground.data }], guard := none }) (v := ?_) rfl (by kernel_rfl) (by kernel_rfl) (by kernel_rfl) (fun _ _ _ h => h) (Or.inl ⟨by rfl, ?_⟩) (by assumption) ?_
    rotate_left
    · intro w hSw; (try dsimp only at hSw); go_simp <;> with_reducible rfl
    simp only [Act.put, List.setIfInBounds_toArray, List.set_cons_zero, List.set_cons_succ]
    refine wpAnyH_ready (rs := [4, 9]) (by kernel_rfl) (by simp) ?_
    refine AllReadyH.cons (o := { dst := some 15, op := Op.call { callee := Callee.value (Operand.func 37), args := #[Operand.tmp 14], argTypes := #[22] }, type := 22, pos := "spare.go:33", after := #[{ on := 3, ground := Ground.data }], guard := none }) rfl (fun K hK => ?_) ?_
    · skip
      go_simp
      refine (KW.out _ hP0.out.pv).mono ?_; rintro e w5 ⟨o5, n5, c5, rfl, hO5, hb5⟩; have hS5 := hide' (hP0.out.who hb5.out hO5.out); (try dsimp only)
      refine hK.out _ _ ?_ (fun hHeld => ?_)
      · exact hS5.out.cells
      clear hK K
      try simp only [Act.put, List.setIfInBounds_toArray, List.set_cons_zero, List.set_cons_succ]
      refine wpAnyH_ready (rs := [7, 9]) (by kernel_rfl) (by simp) ?_
      refine AllReadyH.cons (o := { dst := some 18, op := Op.call { callee := Callee.value (Operand.func 38), args := #[Operand.tmp 17], argTypes := #[23] }, type := 23, pos := "spare.go:33", after := #[{ on := 6, ground := Ground.data }, { on := 4, ground := Ground.chain }], guard := none }) rfl (fun K hK => ?_) ?_
      · skip
        go_simp
        refine (KI.out _ hS5.out.pv).mono ?_; rintro e w6 ⟨o6, n6, c6, rfl, hO6, hb6⟩; have hS6 := hide' (hS5.out.fix hb6.out hO6.out); (try dsimp only)
        refine hK.out _ _ ?_ (fun hHeld => ?_)
        · exact hS6.out.cells
        clear hK K
        try simp only [Act.put, List.setIfInBounds_toArray, List.set_cons_zero, List.set_cons_succ]
        refine wpAnyH_take (i := 8) (oi := { dst := some 19, op := Op.build 26 #[(0, Operand.tmp 12), (1, Operand.tmp 15), (2, Operand.tmp 18)], type := 26, pos := "spare.go:33", after := #[{ on := 1, ground := Ground.data }, { on := 4, ground := Ground.data }, { on := 7, ground := Ground.data }], guard := none }) (v := ?_) rfl (by kernel_rfl) (by kernel_rfl) (by kernel_rfl) (fun _ _ _ h => h) (Or.inl ⟨by rfl, ?_⟩) (by assumption) ?_
        rotate_left
        · intro w hSw; (try dsimp only at hSw); go_simp <;> with_reducible rfl
        simp only [Act.put, List.setIfInBounds_toArray, List.set_cons_zero, List.set_cons_succ]
        refine wpAnyH_ready (rs := [9]) (by kernel_rfl) (by simp) ?_
        refine AllReadyH.cons (o := { dst := some 7, op := Op.alloc 26, type := 0, pos := "spare.go:33", after := #[], guard := none }) rfl (fun K hK => ?_) AllReadyH.nil
        go_simp
        refine hK.out _ _ ?_ (fun hHeld => ?_)
        · exact (hS6.out.over ((Below.refl _ w6).alloc (Nat.le_refl _) _)).cells
        clear hK K
        try simp only [Act.put, List.setIfInBounds_toArray, List.set_cons_zero, List.set_cons_succ]
        refine wpAnyH_ready (rs := [10]) (by kernel_rfl) (by simp) ?_
        refine AllReadyH.cons (o := { dst := none, op := Op.store 26 (Operand.tmp 7) (Operand.tmp 19), type := 0, pos := "spare.go:33", after := #[{ on := 9, ground := Ground.data }, { on := 8, ground := Ground.data }, { on := 7, ground := Ground.chain }, { on := 0, ground := Ground.phase }, { on := 1, ground := Ground.phase }, { on := 2, ground := Ground.phase }, { on := 3, ground := Ground.phase }, { on := 4, ground := Ground.phase }, { on := 5, ground := Ground.phase }, { on := 6, ground := Ground.phase }, { on := 7, ground := Ground.phase }, { on := 8, ground := Ground.phase }, { on := 9, ground := Ground.phase }], guard := none }) rfl (fun K hK => ?_) AllReadyH.nil
        go_simp
        refine hK.out _ _ ?_ (fun hHeld => ?_)
        · exact (hS6.out.closeV P.users (.slice o5 n5 c5) (.slice o6 n6 c6)).cells
        clear hK K
        try simp only [Act.put, List.setIfInBounds_toArray, List.set_cons_zero, List.set_cons_succ]
        refine wpAnyH_done (by kernel_rfl) ?_ _
        skip
        have hQ := hide' (hS6.out.closeV P.users (.slice o5 n5 c5) (.slice o6 n6 c6))
        go_wp2
        go_meet
        exact ⟨_, o5, n5, c5, o6, n6, c6, rfl, hQ⟩
      refine AllReadyH.cons (o := { dst := some 7, op := Op.alloc 26, type := 0, pos := "spare.go:33", after := #[], guard := none }) rfl (fun K hK => ?_) AllReadyH.nil
      go_simp
      have hA := hide' (hS5.out.box); (try dsimp only)
      refine hK.out _ _ ?_ (fun hHeld => ?_)
      · exact hA.out.p.cells
      clear hK K
      try simp only [Act.put, List.setIfInBounds_toArray, List.set_cons_zero, List.set_cons_succ]
      refine wpAnyH_ready (rs := [7]) (by kernel_rfl) (by simp) ?_
      refine AllReadyH.cons (o := { dst := some 18, op := Op.call { callee := Callee.value (Operand.func 38), args := #[Operand.tmp 17], argTypes := #[23] }, type := 23, pos := "spare.go:33", after := #[{ on := 6, ground := Ground.data }, { on := 4, ground := Ground.chain }], guard := none }) rfl (fun K hK => ?_) AllReadyH.nil
      go_simp
      refine (KI.out _ hA.out.p.pv).mono ?_; rintro e w6 ⟨o6, n6, c6, rfl, hO6, hb6⟩; have hS6 := hide' (hA.out.fix hb6.out hO6.out); (try dsimp only); have f0 := hS6.out.qb.frz 0; have y0 := hS6.out.qb.c0; have f1 := (hS6.out.qb.s0C P.users).frz 1; have y1 := (hS6.out.qb.s0C P.users).c1; have f2 := ((hS6.out.qb.s0C P.users).s1 (.slice o5 n5 c5)).frz 2; have y2 := ((hS6.out.qb.s0C P.users).s1 (.slice o5 n5 c5)).c2; have f3 := (((hS6.out.qb.s0C P.users).s1 (.slice o5 n5 c5)).s2 (.slice o6 n6 c6)).frz 3; have y3 := (((hS6.out.qb.s0C P.users).s1 (.slice o5 n5 c5)).s2 (.slice o6 n6 c6)).c3
      refine hK.out _ _ ?_ (fun hHeld => ?_)
      · exact hS6.out.p.cells
      clear hK K
      try simp only [Act.put, List.setIfInBounds_toArray, List.set_cons_zero, List.set_cons_succ]
      refine wpAnyH_take (i := 8) (oi := { dst := some 19, op := Op.build 26 #[(0, Operand.tmp 12), (1, Operand.tmp 15), (2, Operand.tmp 18)], type := 26, pos := "spare.go:33", after := #[{ on := 1, ground := Ground.data }, { on := 4, ground := Ground.data }, { on := 7, ground := Ground.data }], guard := none }) (v := ?_) rfl (by kernel_rfl) (by kernel_rfl) (by kernel_rfl) (fun _ _ _ h => h) (Or.inl ⟨by rfl, ?_⟩) (by assumption) ?_
      rotate_left
      · intro w hSw; (try dsimp only at hSw); go_simp <;> with_reducible rfl
      simp only [Act.put, List.setIfInBounds_toArray, List.set_cons_zero, List.set_cons_succ]
      refine wpAnyH_ready (rs := [10]) (by kernel_rfl) (by simp) ?_
      refine AllReadyH.cons (o := { dst := none, op := Op.store 26 (Operand.tmp 7) (Operand.tmp 19), type := 0, pos := "spare.go:33", after := #[{ on := 9, ground := Ground.data }, { on := 8, ground := Ground.data }, { on := 7, ground := Ground.chain }, { on := 0, ground := Ground.phase }, { on := 1, ground := Ground.phase }, { on := 2, ground := Ground.phase }, { on := 3, ground := Ground.phase }, { on := 4, ground := Ground.phase }, { on := 5, ground := Ground.phase }, { on := 6, ground := Ground.phase }, { on := 7, ground := Ground.phase }, { on := 8, ground := Ground.phase }, { on := 9, ground := Ground.phase }], guard := none }) rfl (fun K hK => ?_) AllReadyH.nil
      go_simp
      refine hK.out _ _ ?_ (fun hHeld => ?_)
      · exact (hS6.out.closeV P.users (.slice o5 n5 c5) (.slice o6 n6 c6)).cells
      clear hK K
      try simp only [Act.put, List.setIfInBounds_toArray, List.set_cons_zero, List.set_cons_succ]
      refine wpAnyH_done (by kernel_rfl) ?_ _
      skip
      have hQ := hide' (hS6.out.closeV P.users (.slice o5 n5 c5) (.slice o6 n6 c6))
      go_wp2
      go_meet
      exact ⟨_, o5, n5, c5, o6, n6, c6, rfl, hQ⟩
    refine AllReadyH.cons (o := { dst := some 7, op := Op.alloc 26, type := 0, pos := "spare.go:33", after := #[], guard := none }) rfl (fun K hK => ?_) AllReadyH.nil
    go_simp
    have hA := hide' (hP0.out.box); rw [show w3.drew.heap.size = w3.heap.size from rfl] at hA; (try dsimp only)
    refine hK.out _ _ ?_ (fun hHeld => ?_)
    · exact hA.out.p.cells
    clear hK K
    try simp only [Act.put, List.setIfInBounds_toArray, List.set_cons_zero, List.set_cons_succ]
    refine wpAnyH_ready (rs := [4]) (by kernel_rfl) (by simp) ?_
    refine AllReadyH.cons (o := { dst := some 15, op := Op.call { callee := Callee.value (Operand.func 37), args := #[Operand.tmp 14], argTypes := #[22] }, type := 22, pos := "spare.go:33", after := #[{ on := 3, ground := Ground.data }], guard := none }) rfl (fun K hK => ?_) AllReadyH.nil
    go_simp
    refine (KW.out _ hA.out.p.pv).mono ?_; rintro e w5 ⟨o5, n5, c5, rfl, hO5, hb5⟩; have hS5 := hide' (hA.out.who hb5.out hO5.out); (try dsimp only)
    refine hK.out _ _ ?_ (fun hHeld => ?_)
    · exact hS5.out.p.cells
    clear hK K
    try simp only [Act.put, List.setIfInBounds_toArray, List.set_cons_zero, List.set_cons_succ]
    refine wpAnyH_ready (rs := [7]) (by kernel_rfl) (by simp) ?_
    refine AllReadyH.cons (o := { dst := some 18, op := Op.call { callee := Callee.value (Operand.func 38), args := #[Operand.tmp 17], argTypes := #[23] }, type := 23, pos := "spare.go:33", after := #[{ on := 6, ground := Ground.data }, { on := 4, ground := Ground.chain }], guard := none }) rfl (fun K hK => ?_) AllReadyH.nil
    go_simp
    refine (KI.out _ hS5.out.p.pv).mono ?_; rintro e w6 ⟨o6, n6, c6, rfl, hO6, hb6⟩; have hS6 := hide' (hS5.out.fix hb6.out hO6.out); (try dsimp only); have f0 := hS6.out.qb.frz 0; have y0 := hS6.out.qb.c0; have f1 := (hS6.out.qb.s0C P.users).frz 1; have y1 := (hS6.out.qb.s0C P.users).c1; have f2 := ((hS6.out.qb.s0C P.users).s1 (.slice o5 n5 c5)).frz 2; have y2 := ((hS6.out.qb.s0C P.users).s1 (.slice o5 n5 c5)).c2; have f3 := (((hS6.out.qb.s0C P.users).s1 (.slice o5 n5 c5)).s2 (.slice o6 n6 c6)).frz 3; have y3 := (((hS6.out.qb.s0C P.users).s1 (.slice o5 n5 c5)).s2 (.slice o6 n6 c6)).c3
    refine hK.out _ _ ?_ (fun hHeld => ?_)
    · exact hS6.out.p.cells
    clear hK K
    try simp only [Act.put, List.setIfInBounds_toArray, List.set_cons_zero, List.set_cons_succ]
    refine wpAnyH_take (i := 8) (oi := { dst := some 19, op := Op.build 26 #[(0, Operand.tmp 12), (1, Operand.tmp 15), (2, Operand.tmp 18)], type := 26, pos := "spare.go:33", after := #[{ on := 1, ground := Ground.data }, { on := 4, ground := Ground.data }, { on := 7, ground := Ground.data }], guard := none }) (v := ?_) rfl (by kernel_rfl) (by kernel_rfl) (by kernel_rfl) (fun _ _ _ h => h) (Or.inl ⟨by rfl, ?_⟩) (by assumption) ?_
    rotate_left
    · intro w hSw; (try dsimp only at hSw); go_simp <;> with_reducible rfl
    simp only [Act.put, List.setIfInBounds_toArray, List.set_cons_zero, List.set_cons_succ]
    refine wpAnyH_ready (rs := [10]) (by kernel_rfl) (by simp) ?_
    refine AllReadyH.cons (o := { dst := none, op := Op.store 26 (Operand.tmp 7) (Operand.tmp 19), type := 0, pos := "spare.go:33", after := #[{ on := 9, ground := Ground.data }, { on := 8, ground := Ground.data }, { on := 7, ground := Ground.chain }, { on := 0, ground := Ground.phase }, { on := 1, ground := Ground.phase }, { on := 2, ground := Ground.phase }, { on := 3, ground := Ground.phase }, { on := 4, ground := Ground.phase }, { on := 5, ground := Ground.phase }, { on := 6, ground := Ground.phase }, { on := 7, ground := Ground.phase }, { on := 8, ground := Ground.phase }, { on := 9, ground := Ground.phase }], guard := none }) rfl (fun K hK => ?_) AllReadyH.nil
    go_simp
    refine hK.out _ _ ?_ (fun hHeld => ?_)
    · exact (hS6.out.closeV P.users (.slice o5 n5 c5) (.slice o6 n6 c6)).cells
    clear hK K
    try simp only [Act.put, List.setIfInBounds_toArray, List.set_cons_zero, List.set_cons_succ]
    refine wpAnyH_done (by kernel_rfl) ?_ _
    skip
    have hQ := hide' (hS6.out.closeV P.users (.slice o5 n5 c5) (.slice o6 n6 c6))
    go_wp2
    go_meet
    exact ⟨_, o5, n5, c5, o6, n6, c6, rfl, hQ⟩
  case rest =>
  clear hS3 KW KI
  obtain ⟨gq, oa, na, ca, ob, nb, cb, rfl, hQ⟩ := hcut
  have q3 := hQ.out.pb.c3
  go_upto_block 0 with fail
  clear q3
  go_cut [23, 8, 9] from 24 to 42 (fun _ _ _ wx => ∃ oc nc cc E, Hid (E.map Prod.fst = sprR fr P.rules P.rules.length) ∧ Hid (Fv w P (.slice ow P.who.length cw) (.slice of P.fixed.length cf) (.slice or P.rules.length cr) gq wx P.users (.slice oa na ca) (.slice ob nb cb) (.slice oc nc cc) (.slice oa na ca) (.slice ob nb cb) (.slice oc nc cc) P.who P.fixed E))
  case first =>
    as_aux_lemma =>
    go_wp2
    go_loopw [23, 8, 9] (fun kv _ _ wr => ∃ (j : Nat) (oc : Option Addr) (nc cc : Nat) (E : List (Rl × Value)), j ≤ P.rules.length ∧ kv = .int .i64 (j : Int) ∧ Hid (E.map Prod.fst = sprR fr P.rules j) ∧ Hid (Fv w P (.slice ow P.who.length cw) (.slice of P.fixed.length cf) (.slice or P.rules.length cr) gq wr P.users (.slice oa na ca) (.slice ob nb cb) (.slice oc nc cc) (.slice oa na ca) (.slice ob nb cb) (.slice oc nc cc) P.who P.fixed E)) (fun kv _ _ _ => ((P.rules.length : Int) - intOf kv).toNat)
    case atStart => exact ⟨0, none, 0, 0, [], Nat.zero_le _, rfl, rfl, hQ⟩
    case round =>
      clear hQ
      obtain ⟨j, oc, nc, cc, E, hj, rfl, hE, hQ⟩ := hrel
      by_cases hlt : j < P.rules.length
      · as_aux_lemma =>
        have hlt' : (j : Int) < (P.rules.length : Int) := by omega
        obtain ⟨r, hr⟩ : ∃ r, P.rules[j]? = some r := ⟨_, List.getElem?_eq_getElem hlt⟩
        obtain ⟨oa3, ca3, e3, _, hcr⟩ := h'.out
        obtain ⟨g, o, sv, r3, d1, d2, d3, d4⟩ := hcr j r hr
        injection e3 with e3a e3b e3c
        subst e3a
        subst r3
        have a1 := M.cell_over d1 hQ.out.be
        have a2 := M.cell_over d2 hQ.out.be
        have a3 := M.cell_over d3 hQ.out.be
        have hst := hsr.out r (List.mem_of_getElem? hr)
        obtain ⟨Wg, rfl⟩ : ∃ W, W = wr := ⟨_, rfl⟩
        have d4' := hide' (d4.below hQ.out.be (Nat.le_refl _))
        obtain ⟨os, cs, rfl, _, _⟩ := d4
        have hE2 := hide' (sprR_snoc (fr := fr) hr)
        have hEl : Hid (E.length ≤ 1000000) := by
          have := congrArg List.length hE.out
          rw [List.length_map] at this
          have h2 := sprR_len fr P.rules j
          show E.length ≤ 1000000
          omega
        have hbA : Hid (Below Wg.heap.size Wg (Wg.alloc (.cells #[.int .i64 r.kind, .int .i64 r.k, .slice os r.steps.length cs] 44))) := (Below.refl _ Wg).alloc (Nat.le_refl _) _
        have hbx : Hid ((Wg.alloc (.cells #[.int .i64 r.kind, .int .i64 r.k, .slice os r.steps.length cs] 44)).rowIs Wg.heap.size 44 3 (ruW r.kind r.k (.slice os r.steps.length cs))) := World.rowIs_alloc Wg #[.int .i64 r.kind, .int .i64 r.k, .slice os r.steps.length cs] _ _ fun i hi => by
          have hi : i < 3 := hi
          rcases (show i = 0 ∨ i = 1 ∨ i = 2 by omega) with rfl | rfl | rfl <;> rfl
        have KCh := hide' (hc1'.out.say _ j (hQ.out.be.trans (hbA.out.mono hQ.out.be.size)) (by omega))
        have hz : Hid ((Wg.alloc (.cells #[.int .i64 r.kind, .int .i64 r.k, .slice os r.steps.length cs] 44)).heap.size = Wg.heap.size + 1) := by show _ = _; simp
        clear d1 d2 d3 hr hcr e3b e3c
        have en1 := hc1'.out.en
        cases hfj : fr j with
        | true =>
          as_aux_lemma =>
          rw [hfj] at KCh hE2
          rw [if_pos rfl, List.append_nil] at hE2
          go_wp2_with (go_at_fn k1; refine KCh.out.mono ?_; rintro e w5 ⟨rfl, hb5⟩)
          rw [hz.out] at hb5
          have hQ5 := hide' (hQ.out.over (hbA.out.trans (hb5.mono (Nat.le_succ _))))
          exact ⟨⟨j + 1, oc, nc, cc, E, by omega, by go_num, by rw [hE2.out]; exact hE, hQ5⟩, by simp [intOf]; omega⟩
        | false =>
          as_aux_lemma =>
          rw [hfj] at KCh hE2
          rw [if_neg (by decide)] at hE2
          go_upto_region 6 with (go_at_fn k1; refine KCh.out.mono ?_; rintro e w5 ⟨rfl, hb5⟩)
          clear a1 a2 a3
          rw [hz.out] at hb5
          have hb5' : Hid (Below Wg.heap.size Wg w5) := hbA.out.trans (hb5.mono (Nat.le_succ _))
          have hbx5 := hide' (World.rowIs.of_block hbx.out (hb5.block _ (Nat.lt_succ_self _)))
          have hs5 := hide' (World.rowIs.lt hbx5.out)
          clear hbx hbA KCh hz hb5
          have x2' := World.rowIs.cell hbx5.out (i := 2) (by decide)
          simp [ruW] at x2'
          have KR := hide' (clone r.steps (.slice os r.steps.length cs) w5 (d4'.out.below hb5'.out (Nat.le_refl _)) hst)
          go_wp2_with fail
          clear x2'
          refine KR.out.mono ?_
          rintro e w7 ⟨v7, rfl, hO7, hb7⟩
          obtain ⟨o7, c7, rfl⟩ := own_shp hO7
          have hb7' : Hid (Below Wg.heap.size Wg w7) := hb5'.out.trans (hb7.mono hb5'.out.size)
          have hbx7 := hide' (World.rowIs.of_block hbx5.out (hb7.block _ hs5.out))
          have f2 := World.rowIs.frozen hbx7.out 2
          have y2 := World.rowIs.cell hbx7.out (i := 2) (by decide)
          have hbx8 := World.rowIs.set hbx7.out 2 (.slice o7 r.steps.length c7)
          have x0 := World.rowIs.cell hbx8 (i := 0) (by decide)
          have x1 := World.rowIs.cell hbx8 (i := 1) (by decide)
          have x2 := World.rowIs.cell hbx8 (i := 2) (by decide)
          simp [ruW] at y2 x0 x1 x2
          have hb8 : Hid (Below Wg.heap.size Wg (w7.setCell ⟨Wg.heap.size, 2, none⟩ (.slice o7 r.steps.length c7))) := hb7'.out.setCell (p := ⟨Wg.heap.size, 2, none⟩) (Nat.le_refl _) _
          have hQ8 := hide' (hQ.out.over hb8.out)
          have hq3 := hQ8.out.qb.c3
          have hO8 : Hid ((w7.setCell ⟨Wg.heap.size, 2, none⟩ (.slice o7 r.steps.length c7)).ownsRow w5.heap.size 3 1 (.slice o7 r.steps.length c7) r.steps.length (cellsI r.steps)) := own_same hO7 fun g hg e => Below.heap_setCell _ _ _ _ (by have := own_ge' hO7 e; have := hs5.out; show g ≠ Wg.heap.size; omega)
          have hn2 : Hid (∀ gg, (Value.slice ob nb cb).ownBlock = some gg → (Value.slice o7 r.steps.length c7).ownBlock ≠ some gg) := fun gg h1 h2 => by
            have q1 := own_lt' hQ.out.r2 h1
            have q2 := own_ge' hO7 h2
            have := hs5.out
            omega
          have hn3 : Hid (∀ q ∈ E, ∀ gg, q.2.ownBlock = some gg → (Value.slice o7 r.steps.length c7).ownBlock ≠ some gg) := fun q hq gg h1 h2 => by
            have q1 := own_lt' (hQ.out.r3.inner q hq) h1
            have q2 := own_ge' hO7 h2
            have := hs5.out
            omega
          have hp8 : Hid ((w7.setCell ⟨Wg.heap.size, 2, none⟩ (.slice o7 r.steps.length c7)).ownsRow (w.heap.size + 2) 3 1 (.slice o7 r.steps.length c7) r.steps.length (cellsI r.steps)) := own_down hO8.out (by have := hQ.out.sz; have := hs5.out; omega)
          clear hO7 hb7 hb7' hbx7 hbx8 hbx5 hs5 hb5' KR hQ hb8 hO8 d4'
          go_upto_region 7 with fail
          clear f2 y2
          generalize w7.setCell ⟨Wg.heap.size, 2, none⟩ (.slice o7 r.steps.length c7) = W8 at *
          go_wp2_with (at_builtin; refine wpList_plain rfl fun _ hK => Fv.wapp3 (.tmp 37) (.tmp 39) hQ8.out (r, .slice o7 r.steps.length c7) hp8.out hn2.out hn3.out rfl rfl rfl hEl.out fun oD nD cD wD hD => hK _ _ ?_; have hD' := hide' hD; have fD := hD.qb.frz 3; have dD := hD.qb.c3; clear hD)
          have hE9 := hide' (hD'.out.put (hD'.out.qb.s3 (.slice oD nD cD)))
          exact ⟨⟨j + 1, oD, nD, cD, _, by omega, by go_num, by rw [List.map_append, hE.out, hE2.out]; rfl, hE9⟩, by simp [intOf]; omega⟩
      · as_aux_lemma =>
        obtain rfl : j = P.rules.length := by omega
        go_wp2
        go_meet
        exact ⟨oc, nc, cc, E, hE, hQ⟩
  case rest =>
  clear hQ
  obtain ⟨oc, nc, cc, E, hE, hQ⟩ := hcut
  have q1 := hQ.out.pb.c1
  go_upto_block 2 with fail
  clear q1
  go_cut [46, 10] from 47 to 62 (fun _ _ wx => Hid (Fv w P (.slice ow P.who.length cw) (.slice of P.fixed.length cf) (.slice or P.rules.length cr) gq wx P.users (.slice oa na ca) (.slice ob nb cb) (.slice oc nc cc) (.slice oa na ca) (.slice ob nb cb) (.slice oc nc cc) (sprW fs (allW P.users) P.who P.who.length) (sprW fs (-1) P.fixed P.who.length) E))
  case first =>
    as_aux_lemma =>
    go_wp2
    go_loopw [46, 10] (fun kv _ wr => ∃ j : Nat, j ≤ P.who.length ∧ kv = .int .i64 (j : Int) ∧ Hid (Fv w P (.slice ow P.who.length cw) (.slice of P.fixed.length cf) (.slice or P.rules.length cr) gq wr P.users (.slice oa na ca) (.slice ob nb cb) (.slice oc nc cc) (.slice oa na ca) (.slice ob nb cb) (.slice oc nc cc) (sprW fs (allW P.users) P.who j) (sprW fs (-1) P.fixed j) E)) (fun kv _ _ => ((P.who.length : Int) - intOf kv).toNat)
    case atStart => exact ⟨0, Nat.zero_le _, rfl, hQ⟩
    case round =>
      clear hQ
      obtain ⟨j, hj, rfl, hQ⟩ := hrel
      by_cases hlt : j < P.who.length
      · as_aux_lemma =>
        have hlt' : (j : Int) < (P.who.length : Int) := by omega
        have hwl : P.who.length ≤ 1000 := hk'.out.w
        have en2 := hc2'.out.en
        have KCh := hide' (hc2'.out.say wr j hQ.out.be (by omega))
        cases hfj : fs j with
        | false =>
          as_aux_lemma =>
          rw [hfj] at KCh
          have e1 : Hid (sprW fs (allW P.users) P.who (j + 1) = sprW fs (allW P.users) P.who j) := by unfold Hid; rw [sprW, if_neg (by rw [hfj]; decide)]
          have e2 : Hid (sprW fs (-1) P.fixed (j + 1) = sprW fs (-1) P.fixed j) := by unfold Hid; rw [sprW, if_neg (by rw [hfj]; decide)]
          go_wp2_with (go_at_fn k2; refine KCh.out.mono ?_; rintro e w5 ⟨rfl, hb5⟩)
          exact ⟨⟨j + 1, by omega, by go_num, by rw [e1.out, e2.out]; exact hQ.out.over hb5⟩, by simp [intOf]; omega⟩
        | true =>
          as_aux_lemma =>
          rw [hfj] at KCh
          have e1 : Hid (sprW fs (allW P.users) P.who (j + 1) = (sprW fs (allW P.users) P.who j).set j (allW P.users)) := by unfold Hid; rw [sprW, if_pos hfj]
          have e2 : Hid (sprW fs (-1) P.fixed (j + 1) = (sprW fs (-1) P.fixed j).set j (-1)) := by unfold Hid; rw [sprW, if_pos hfj]
          have l1 := sprW_len fs (allW P.users) P.who j
          have l2 := sprW_len fs (-1 : Int) P.fixed j
          have hf3 := hfl'.out
          generalize sprW fs (allW P.users) P.who j = M1 at *
          generalize sprW fs (-1) P.fixed j = M2 at *
          obtain ⟨gw, hgw⟩ : ∃ gw, Value.slice oa na ca = .slice (some ⟨gw, 0, none⟩) M1.length ca := by
            rcases hQ.out.r1.2 with ⟨_, h0⟩ | ⟨g, cap, cur, e, h1, _⟩
            · omega
            · injection e with e1 e2 e3
              exact ⟨g, by rw [e1, e2]⟩
          obtain ⟨gf, hgf⟩ : ∃ gf, Value.slice ob nb cb = .slice (some ⟨gf, 0, none⟩) M2.length cb := by
            rcases hQ.out.r2.2 with ⟨_, h0⟩ | ⟨g, cap, cur, e, h1, _⟩
            · omega
            · injection e with e1 e2 e3
              exact ⟨g, by rw [e1, e2]⟩
          injection hgw with hw1 hw2 _
          injection hgf with hf1 hf2 _
          subst hw1
          subst hf1
          subst hw2
          subst hf2
          have j1 : (j : Int) < (M1.length : Int) := by omega
          have j2 : (j : Int) < (M2.length : Int) := by omega
          clear l1 l2 hf3
          have KE : Hid (∀ V, Calls Tryz.prog 76 #[.agg #[.int .i64 P.users, .slice ow P.who.length cw, .slice of P.fixed.length cf, .slice or P.rules.length cr]] V fun e w' => e = .returned (.int .u64 (allW P.users : Int)) ∧ Below V.heap.size V w') := fun V => everyF P _ _ _ V ⟨ow, cw, of, cf, or, cr, rfl, rfl, rfl⟩ hU0 hU
          obtain ⟨y1, hy1⟩ : ∃ y, M1[j]? = some y := ⟨_, List.getElem?_eq_getElem (by omega)⟩
          obtain ⟨y2, hy2⟩ : ∃ y, M2[j]? = some y := ⟨_, List.getElem?_eq_getElem (by omega)⟩
          generalize allW P.users = A at *
          have hW1 : Hid (∀ V, Fv w P (.slice ow P.who.length cw) (.slice of P.fixed.length cf) (.slice or P.rules.length cr) gq V P.users (.slice (some ⟨gw, 0, none⟩) M1.length ca) (.slice (some ⟨gf, 0, none⟩) M2.length cb) (.slice oc nc cc) (.slice (some ⟨gw, 0, none⟩) M1.length ca) (.slice (some ⟨gf, 0, none⟩) M2.length cb) (.slice oc nc cc) M1 M2 E → V.cell? ⟨gw, j, none⟩ = some (.int .u64 (y1 : Int)) ∧ V.frozen? ⟨gw, j, none⟩ = false) := fun V hV => ⟨by rw [hV.r1.cellAt j (by omega)]; unfold cellsW; rw [List.getElem?_map, hy1]; rfl, hV.r1.frozenAt j⟩
          have hW2 : Hid (∀ V, Fv w P (.slice ow P.who.length cw) (.slice of P.fixed.length cf) (.slice or P.rules.length cr) gq V P.users (.slice (some ⟨gw, 0, none⟩) M1.length ca) (.slice (some ⟨gf, 0, none⟩) M2.length cb) (.slice oc nc cc) (.slice (some ⟨gw, 0, none⟩) M1.length ca) (.slice (some ⟨gf, 0, none⟩) M2.length cb) (.slice oc nc cc) M1 M2 E → (V.setCell ⟨gw, j, none⟩ (.int .u64 (A : Int))).cell? ⟨gf, j, none⟩ = some (.int .i64 y2) ∧ (V.setCell ⟨gw, j, none⟩ (.int .u64 (A : Int))).frozen? ⟨gf, j, none⟩ = false) := fun V hV => by
            have k := hV.setW j A
            exact ⟨by rw [k.r2.cellAt j (by omega)]; unfold cellsI; rw [List.getElem?_map, hy2]; rfl, k.r2.frozenAt j⟩
          have hS : Hid (∀ V, Fv w P (.slice ow P.who.length cw) (.slice of P.fixed.length cf) (.slice or P.rules.length cr) gq V P.users (.slice (some ⟨gw, 0, none⟩) M1.length ca) (.slice (some ⟨gf, 0, none⟩) M2.length cb) (.slice oc nc cc) (.slice (some ⟨gw, 0, none⟩) M1.length ca) (.slice (some ⟨gf, 0, none⟩) M2.length cb) (.slice oc nc cc) M1 M2 E → V.cell? ⟨gq, 1, none⟩ = some (.slice (some ⟨gw, 0, none⟩) M1.length ca) ∧ V.cell? ⟨gq, 2, none⟩ = some (.slice (some ⟨gf, 0, none⟩) M2.length cb) ∧ V.cell? ⟨w.heap.size, 0, none⟩ = some (.int .i64 P.users) ∧ V.cell? ⟨w.heap.size, 1, none⟩ = some (.slice ow P.who.length cw) ∧ V.cell? ⟨w.heap.size, 2, none⟩ = some (.slice of P.fixed.length cf) ∧ V.cell? ⟨w.heap.size, 3, none⟩ = some (.slice or P.rules.length cr)) := fun V hV => ⟨hV.qb.c1, hV.qb.c2, hV.pb.c0, hV.pb.c1, hV.pb.c2, hV.pb.c3⟩
          go_upto_region 13 with (go_at_fn k2; refine KCh.out.mono ?_; rintro e w5 ⟨rfl, hb5⟩)
          have hQ5 := hide' (hQ.out.over hb5)
          have hQd := hide' (hQ5.out.over (Below.refl _ w5).drew)
          clear hQ hb5 KCh
          have hS7 : Hid (∀ V L1 L2, Fv w P (.slice ow P.who.length cw) (.slice of P.fixed.length cf) (.slice or P.rules.length cr) gq V P.users (.slice (some ⟨gw, 0, none⟩) M1.length ca) (.slice (some ⟨gf, 0, none⟩) M2.length cb) (.slice oc nc cc) (.slice (some ⟨gw, 0, none⟩) M1.length ca) (.slice (some ⟨gf, 0, none⟩) M2.length cb) (.slice oc nc cc) L1 L2 E → V.cell? ⟨gq, 1, none⟩ = some (.slice (some ⟨gw, 0, none⟩) M1.length ca) ∧ V.cell? ⟨gq, 2, none⟩ = some (.slice (some ⟨gf, 0, none⟩) M2.length cb) ∧ V.cell? ⟨w.heap.size, 0, none⟩ = some (.int .i64 P.users) ∧ V.cell? ⟨w.heap.size, 1, none⟩ = some (.slice ow P.who.length cw) ∧ V.cell? ⟨w.heap.size, 2, none⟩ = some (.slice of P.fixed.length cf) ∧ V.cell? ⟨w.heap.size, 3, none⟩ = some (.slice or P.rules.length cr)) := fun V L1 L2 hV => ⟨hV.qb.c1, hV.qb.c2, hV.pb.c0, hV.pb.c1, hV.pb.c2, hV.pb.c3⟩
          have hSW : Hid (∀ V, Fv w P (.slice ow P.who.length cw) (.slice of P.fixed.length cf) (.slice or P.rules.length cr) gq V P.users (.slice (some ⟨gw, 0, none⟩) M1.length ca) (.slice (some ⟨gf, 0, none⟩) M2.length cb) (.slice oc nc cc) (.slice (some ⟨gw, 0, none⟩) M1.length ca) (.slice (some ⟨gf, 0, none⟩) M2.length cb) (.slice oc nc cc) M1 M2 E → Fv w P (.slice ow P.who.length cw) (.slice of P.fixed.length cf) (.slice or P.rules.length cr) gq (V.setCell ⟨gw, j, none⟩ (.int .u64 (A : Int))) P.users (.slice (some ⟨gw, 0, none⟩) M1.length ca) (.slice (some ⟨gf, 0, none⟩) M2.length cb) (.slice oc nc cc) (.slice (some ⟨gw, 0, none⟩) M1.length ca) (.slice (some ⟨gf, 0, none⟩) M2.length cb) (.slice oc nc cc) (M1.set j A) M2 E) := fun V hV => hV.setW j A
          have hSF : Hid (∀ V, Fv w P (.slice ow P.who.length cw) (.slice of P.fixed.length cf) (.slice or P.rules.length cr) gq V P.users (.slice (some ⟨gw, 0, none⟩) M1.length ca) (.slice (some ⟨gf, 0, none⟩) M2.length cb) (.slice oc nc cc) (.slice (some ⟨gw, 0, none⟩) M1.length ca) (.slice (some ⟨gf, 0, none⟩) M2.length cb) (.slice oc nc cc) M1 M2 E → Fv w P (.slice ow P.who.length cw) (.slice of P.fixed.length cf) (.slice or P.rules.length cr) gq ((V.setCell ⟨gw, j, none⟩ (.int .u64 (A : Int))).setCell ⟨gf, j, none⟩ (.int .i64 (-1))) P.users (.slice (some ⟨gw, 0, none⟩) M1.length ca) (.slice (some ⟨gf, 0, none⟩) M2.length cb) (.slice oc nc cc) (.slice (some ⟨gw, 0, none⟩) M1.length ca) (.slice (some ⟨gf, 0, none⟩) M2.length cb) (.slice oc nc cc) (M1.set j A) (M2.set j (-1)) E) := fun V hV => (hV.setW j A).setF j (-1)
          go_region_held3 (fun V => V.cell? ⟨gq, 1, none⟩ = some (.slice (some ⟨gw, 0, none⟩) M1.length ca) ∧ V.cell? ⟨gq, 2, none⟩ = some (.slice (some ⟨gf, 0, none⟩) M2.length cb) ∧ V.cell? ⟨w.heap.size, 0, none⟩ = some (.int .i64 P.users) ∧ V.cell? ⟨w.heap.size, 1, none⟩ = some (.slice ow P.who.length cw) ∧ V.cell? ⟨w.heap.size, 2, none⟩ = some (.slice of P.fixed.length cf) ∧ V.cell? ⟨w.heap.size, 3, none⟩ = some (.slice or P.rules.length cr)) (first | (exact hS7.out _ _ _ hQd.out) | (exact hS7.out _ _ _ hQ6.out) | (exact hS7.out _ _ _ (hSW.out _ hQ6.out)) | (exact hS7.out _ _ _ (hSF.out _ hQ6.out))) (first | (go_at_call 76; refine (KE.out _).mono ?_; rintro e w6 ⟨rfl, hb6⟩; have hQ6 := hide' (hQd.out.over hb6); have z1 := (hW1.out _ hQ6.out).1; have z2 := (hW1.out _ hQ6.out).2; have z3 := (hW2.out _ hQ6.out).1; have z4 := (hW2.out _ hQ6.out).2))
          all_goals
            go_wp2
            exact ⟨⟨j + 1, by omega, by go_num, by rw [e1.out, e2.out]; exact hSF.out _ hQ6.out⟩, by simp [intOf]; omega⟩
      · as_aux_lemma =>
        obtain rfl : j = P.who.length := by omega
        go_wp2
        go_meet
        exact hQ
  case rest =>
  clear hQ
  have hQ := hcut
  clear hc1' hc2' hk' h' hsr hfl'
  obtain ⟨M1, hM1⟩ : ∃ M, M = sprW fs (allW P.users) P.who P.who.length := ⟨_, rfl⟩
  obtain ⟨M2, hM2⟩ : ∃ M, M = sprW fs (-1) P.fixed P.who.length := ⟨_, rfl⟩
  have hX : RsX P fr fs M1 M2 := ⟨by rw [hM1, hM2]; rfl⟩
  rw [← hM1, ← hM2] at hQ
  clear hM1 hM2
  have p0 := hQ.out.qb.c0
  have p1 := hQ.out.qb.c1
  have p2 := hQ.out.qb.c2
  have p3 := hQ.out.qb.c3
  have f0 := hQ.out.z.frz 0
  have y0 := hQ.out.z.c0
  have f1 := (hQ.out.z.s0C P.users).frz 1
  have y1 := (hQ.out.z.s0C P.users).c1
  have f2 := ((hQ.out.z.s0C P.users).s1 (.slice oa na ca)).frz 2
  have y2 := ((hQ.out.z.s0C P.users).s1 (.slice oa na ca)).c2
  have f3 := (((hQ.out.z.s0C P.users).s1 (.slice oa na ca)).s2 (.slice ob nb cb)).frz 3
  have y3 := (((hQ.out.z.s0C P.users).s1 (.slice oa na ca)).s2 (.slice ob nb cb)).c3
  have x0 := ((((hQ.out.z.s0C P.users).s1 (.slice oa na ca)).s2 (.slice ob nb cb)).s3 (.slice oc nc cc)).c0
  have x1 := ((((hQ.out.z.s0C P.users).s1 (.slice oa na ca)).s2 (.slice ob nb cb)).s3 (.slice oc nc cc)).c1
  have x2 := ((((hQ.out.z.s0C P.users).s1 (.slice oa na ca)).s2 (.slice ob nb cb)).s3 (.slice oc nc cc)).c2
  have x3 := ((((hQ.out.z.s0C P.users).s1 (.slice oa na ca)).s2 (.slice ob nb cb)).s3 (.slice oc nc cc)).c3
  have hF := hide' (hQ.out.fin (.int .i64 P.users) (.slice oa na ca) (.slice ob nb cb) (.slice oc nc cc))
  rw [hE.out] at hF
  clear hQ hcut
  go_wp2
  refine bodyPost_ret (v := .agg #[.int .i64 P.users, .slice oa na ca, .slice ob nb cb, .slice oc nc cc]) (by simp [results, Tryz.results47, go_sem, x0, x1, x2, x3]) rfl ?_
  unfold RvP
  rw [hX.x]
  exact ⟨_, _, _, _, _, _, _, _, _, rfl, hF.out.1, hF.out.2.1, hF.out.2.2⟩
end Go.Proofs.YtlijlelejobchaaGreatDoor.S
