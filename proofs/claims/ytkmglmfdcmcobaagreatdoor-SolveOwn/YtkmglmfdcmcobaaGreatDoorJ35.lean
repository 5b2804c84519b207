/- Fix: its answer's rows are its own, no two in one block. -/
import Derived.Test.YtkmglmfdcmcobaaGreatDoorJ33
import Derived.Test.YtkmglmfdcmcobaaGreatDoorJ34
namespace Go.Proofs.YtkmglmfdcmcobaaGreatDoor.S
open Go.RowKit Go.Shelf
def FxV (w : World) (P : Pb) (s x : Int) (e : Ending) (w' : World) : Prop :=
  ∃ va vb vc, e = .returned (.tuple #[.agg #[.int .i64 (fxP P s x).users, va, vb, vc], .int .i64 (fxN P s x : Int)]) ∧ Hid (PbV w' (fxP P s x) va vb vc) ∧ Hid (Below w.heap.size w w') ∧ Hid (∀ ad n c, va = .slice (some ad) n c → w.heap.size ≤ ad.block) ∧ Hid (fxN P s x = 0 → FvO w w' (fxP P s x) va vb vc)
set_option maxRecDepth 100000 in
set_option maxHeartbeats 8000000 in
theorem fixV (P : Pb) (wv fv rv : Value) (s x : Int) (w : World) (h : PbV w P wv fv rv) (hk : Pok P) :
    Calls Tryz.prog 16 #[pbV P wv fv rv, .int .i64 s, .int .i64 x] w (FxV w P s x) := by
  have hS0 := hide' (Fp.start h)
  have KC : Hid (∀ V, PbV V P wv fv rv → Calls Tryz.prog 13 #[pbV P wv fv rv] V fun e w' => e = .returned (.int .i64 (chkN P : Int)) ∧ Below V.heap.size V w') := fun V hV => checkPF P wv fv rv V hV hk.w hk.f hk.r hk.s hk.b
  have hs := h.shape
  have KU : Hid (∀ V, Calls Tryz.prog 32 #[pbV P wv fv rv, .int .i64 x] V fun e w' => e = .returned (.bool (isU P x)) ∧ Below V.heap.size V w') := fun V => isUserF P wv fv rv x V hs
  have hk' := hide' hk
  have h' := hide' h.rules
  obtain ⟨ow, cw, of, cf, or, cr, rfl, rfl, rfl⟩ := hs
  unfold pbV at KC KU ⊢
  have hsr : Hid (∀ r ∈ P.rules, r.steps.length ≤ 1000) := hk.s
  have hrl : P.rules.length ≤ 1000 := hk.r
  clear h hk
  go_enter Tryz.func16, Tryz.ntmps16
  go_wp2_with fail
  generalize (w.alloc (.cells #[.int .i64 P.users, .slice ow P.who.length cw, .slice of P.fixed.length cf, .slice or P.rules.length cr] 26)).alloc (.cells #[.int .i64 0, .slice none 0 0, .slice none 0 0, .slice none 0 0] 26) = w1 at *
  refine (KC.out _ hS0.out.pv).mono ?_
  rintro e w2 ⟨rfl, hb2⟩
  have hS2 := hide' (hS0.out.over hb2)
  clear hS0 hb2 KC
  by_cases hC : chkN P = 0
  case neg =>
    as_aux_lemma =>
    have hn : fxN P s x = chkN P := by unfold fxN; rw [if_neg hC]
    have hP : FxE P s x (chkN P) := ⟨hn, by unfold fxP; rw [if_neg (by rw [hn]; exact hC)]⟩
    clear hn
    have hne : ¬ ((chkN P : Nat) : Int) = 0 := by omega
    have hne2 : (((chkN P : Nat) : Int) != 0) = true := by rw [bne_iff_ne]; exact hne
    generalize chkN P = cc at *
    clear KU hk'
    have f0 := hS2.out.z.frz 0
    have y0 := hS2.out.z.c0
    have f1 := (hS2.out.z.s0C 0).frz 1
    have y1 := (hS2.out.z.s0C 0).c1
    have f2 := ((hS2.out.z.s0C 0).s1 (.slice none 0 0)).frz 2
    have y2 := ((hS2.out.z.s0C 0).s1 (.slice none 0 0)).c2
    have f3 := (((hS2.out.z.s0C 0).s1 (.slice none 0 0)).s2 (.slice none 0 0)).frz 3
    have y3 := (((hS2.out.z.s0C 0).s1 (.slice none 0 0)).s2 (.slice none 0 0)).c3
    have x0 := ((((hS2.out.z.s0C 0).s1 (.slice none 0 0)).s2 (.slice none 0 0)).s3 (.slice none 0 0)).c0
    have x1 := ((((hS2.out.z.s0C 0).s1 (.slice none 0 0)).s2 (.slice none 0 0)).s3 (.slice none 0 0)).c1
    have x2 := ((((hS2.out.z.s0C 0).s1 (.slice none 0 0)).s2 (.slice none 0 0)).s3 (.slice none 0 0)).c2
    have x3 := ((((hS2.out.z.s0C 0).s1 (.slice none 0 0)).s2 (.slice none 0 0)).s3 (.slice none 0 0)).c3
    have hF := hide' (hS2.out.res (.int .i64 0) (.slice none 0 0) (.slice none 0 0) (.slice none 0 0))
    clear hS2
    go_wp2
    refine bodyPost_ret (v := .tuple #[.agg #[.int .i64 0, .slice none 0 0, .slice none 0 0, .slice none 0 0], .int .i64 (cc : Int)]) (by simp [results, Tryz.results16, go_sem, x0, x1, x2, x3]) rfl ?_
    unfold FxV
    rw [hP.n, hP.p]
    exact ⟨_, _, _, rfl, nil_pvF _, hF.out, fun ad n c e => (by cases e), fun q => (by first | exact absurd q hC | cases q | omega)⟩
  rw [hC]
  go_upto_region 4 with fail
  have q0 := hS2.out.pb.c0
  have q1 := hS2.out.pb.c1
  have q2 := hS2.out.pb.c2
  have q3 := hS2.out.pb.c3
  by_cases hs0 : s < 0
  · as_aux_lemma =>
    have hn : fxN P s x = 1 := by unfold fxN; rw [if_pos hC, if_pos (.inl hs0)]
    have hP : FxE P s x 1 := ⟨hn, by unfold fxP; rw [if_neg (by rw [hn]; decide)]⟩
    clear hn KU hk' hC
    have f0 := hS2.out.z.frz 0
    have y0 := hS2.out.z.c0
    have f1 := (hS2.out.z.s0C 0).frz 1
    have y1 := (hS2.out.z.s0C 0).c1
    have f2 := ((hS2.out.z.s0C 0).s1 (.slice none 0 0)).frz 2
    have y2 := ((hS2.out.z.s0C 0).s1 (.slice none 0 0)).c2
    have f3 := (((hS2.out.z.s0C 0).s1 (.slice none 0 0)).s2 (.slice none 0 0)).frz 3
    have y3 := (((hS2.out.z.s0C 0).s1 (.slice none 0 0)).s2 (.slice none 0 0)).c3
    have x0 := ((((hS2.out.z.s0C 0).s1 (.slice none 0 0)).s2 (.slice none 0 0)).s3 (.slice none 0 0)).c0
    have x1 := ((((hS2.out.z.s0C 0).s1 (.slice none 0 0)).s2 (.slice none 0 0)).s3 (.slice none 0 0)).c1
    have x2 := ((((hS2.out.z.s0C 0).s1 (.slice none 0 0)).s2 (.slice none 0 0)).s3 (.slice none 0 0)).c2
    have x3 := ((((hS2.out.z.s0C 0).s1 (.slice none 0 0)).s2 (.slice none 0 0)).s3 (.slice none 0 0)).c3
    have hF := hide' (hS2.out.res (.int .i64 0) (.slice none 0 0) (.slice none 0 0) (.slice none 0 0))
    clear hS2
    go_wp2
    refine bodyPost_ret (v := .tuple #[.agg #[.int .i64 0, .slice none 0 0, .slice none 0 0, .slice none 0 0], .int .i64 1]) (by simp [results, Tryz.results16, go_sem, x0, x1, x2, x3]) rfl ?_
    unfold FxV
    rw [hP.n, hP.p]
    exact ⟨_, _, _, rfl, nil_pvF _, hF.out, fun ad n c e => (by cases e), fun q => (by first | exact absurd q hC | cases q | omega)⟩
  by_cases hs1 : (P.who.length : Int) ≤ s
  · as_aux_lemma =>
    have hn : fxN P s x = 1 := by unfold fxN; rw [if_pos hC, if_pos (.inr (.inl hs1))]
    have hP : FxE P s x 1 := ⟨hn, by unfold fxP; rw [if_neg (by rw [hn]; decide)]⟩
    clear hn KU hk' hC
    have f0 := hS2.out.z.frz 0
    have y0 := hS2.out.z.c0
    have f1 := (hS2.out.z.s0C 0).frz 1
    have y1 := (hS2.out.z.s0C 0).c1
    have f2 := ((hS2.out.z.s0C 0).s1 (.slice none 0 0)).frz 2
    have y2 := ((hS2.out.z.s0C 0).s1 (.slice none 0 0)).c2
    have f3 := (((hS2.out.z.s0C 0).s1 (.slice none 0 0)).s2 (.slice none 0 0)).frz 3
    have y3 := (((hS2.out.z.s0C 0).s1 (.slice none 0 0)).s2 (.slice none 0 0)).c3
    have x0 := ((((hS2.out.z.s0C 0).s1 (.slice none 0 0)).s2 (.slice none 0 0)).s3 (.slice none 0 0)).c0
    have x1 := ((((hS2.out.z.s0C 0).s1 (.slice none 0 0)).s2 (.slice none 0 0)).s3 (.slice none 0 0)).c1
    have x2 := ((((hS2.out.z.s0C 0).s1 (.slice none 0 0)).s2 (.slice none 0 0)).s3 (.slice none 0 0)).c2
    have x3 := ((((hS2.out.z.s0C 0).s1 (.slice none 0 0)).s2 (.slice none 0 0)).s3 (.slice none 0 0)).c3
    have hF := hide' (hS2.out.res (.int .i64 0) (.slice none 0 0) (.slice none 0 0) (.slice none 0 0))
    clear hS2
    go_wp2
    refine bodyPost_ret (v := .tuple #[.agg #[.int .i64 0, .slice none 0 0, .slice none 0 0, .slice none 0 0], .int .i64 1]) (by simp [results, Tryz.results16, go_sem, x0, x1, x2, x3]) rfl ?_
    unfold FxV
    rw [hP.n, hP.p]
    exact ⟨_, _, _, rfl, nil_pvF _, hF.out, fun ad n c e => (by cases e), fun q => (by first | exact absurd q hC | cases q | omega)⟩
  go_wp2_with fail
  refine (KU.out _).mono ?_
  rintro e w3 ⟨rfl, hb3⟩
  have hS3 := hide' (hS2.out.over hb3)
  clear hS2 hb3 KU q0 q1 q2 q3
  cases hx : isU P x with
  | false =>
    as_aux_lemma =>
    have hn : fxN P s x = 1 := by unfold fxN; rw [if_pos hC, if_pos (.inr (.inr hx))]
    have hP : FxE P s x 1 := ⟨hn, by unfold fxP; rw [if_neg (by rw [hn]; decide)]⟩
    clear hn hk' hC hx
    have f0 := hS3.out.z.frz 0
    have y0 := hS3.out.z.c0
    have f1 := (hS3.out.z.s0C 0).frz 1
    have y1 := (hS3.out.z.s0C 0).c1
    have f2 := ((hS3.out.z.s0C 0).s1 (.slice none 0 0)).frz 2
    have y2 := ((hS3.out.z.s0C 0).s1 (.slice none 0 0)).c2
    have f3 := (((hS3.out.z.s0C 0).s1 (.slice none 0 0)).s2 (.slice none 0 0)).frz 3
    have y3 := (((hS3.out.z.s0C 0).s1 (.slice none 0 0)).s2 (.slice none 0 0)).c3
    have x0 := ((((hS3.out.z.s0C 0).s1 (.slice none 0 0)).s2 (.slice none 0 0)).s3 (.slice none 0 0)).c0
    have x1 := ((((hS3.out.z.s0C 0).s1 (.slice none 0 0)).s2 (.slice none 0 0)).s3 (.slice none 0 0)).c1
    have x2 := ((((hS3.out.z.s0C 0).s1 (.slice none 0 0)).s2 (.slice none 0 0)).s3 (.slice none 0 0)).c2
    have x3 := ((((hS3.out.z.s0C 0).s1 (.slice none 0 0)).s2 (.slice none 0 0)).s3 (.slice none 0 0)).c3
    have hF := hide' (hS3.out.res (.int .i64 0) (.slice none 0 0) (.slice none 0 0) (.slice none 0 0))
    clear hS3
    go_wp2
    refine bodyPost_ret (v := .tuple #[.agg #[.int .i64 0, .slice none 0 0, .slice none 0 0, .slice none 0 0], .int .i64 1]) (by simp [results, Tryz.results16, go_sem, x0, x1, x2, x3]) rfl ?_
    unfold FxV
    rw [hP.n, hP.p]
    exact ⟨_, _, _, rfl, nil_pvF _, hF.out, fun ad n c e => (by cases e), fun q => (by first | exact absurd q hC | cases q | omega)⟩
  | true =>
  have hn0 : fxN P s x = 0 := by
    unfold fxN
    rw [if_pos hC, if_neg (fun q => ?_)]
    rcases q with q | q | q
    · omega
    · omega
    · rw [hx] at q; cases q
  have hPy : FxY P s x := ⟨hn0, by unfold fxP; rw [if_pos hn0]⟩
  obtain ⟨g12, g0, g64, g32, gF, gW, gR⟩ := chkN_zero hC
  have hfl : Hid (P.fixed.length = P.who.length) := (fixB_of gF g64).1
  clear hn0 hC hx gF gW gR g0 g64
  have KW : Hid (∀ V, PbV V P (.slice ow P.who.length cw) (.slice of P.fixed.length cf) (.slice or P.rules.length cr) → Calls Tryz.prog 37 #[.slice ow P.who.length cw] V fun e w' => ∃ o n c, e = .returned (.slice o n c) ∧ Hid (w'.ownsRow V.heap.size 55 1 (.slice o n c) P.who.length (cellsW P.who)) ∧ Hid (Below V.heap.size V w')) := fun V hV => (cloneW P.who _ V hV.who hk'.out.w).mono fun e w' ⟨v, e1, e2, e3⟩ => by
    obtain ⟨a, c, rfl⟩ := own_shp e2
    exact ⟨a, _, c, e1, e2, e3⟩
  have KI : Hid (∀ V, PbV V P (.slice ow P.who.length cw) (.slice of P.fixed.length cf) (.slice or P.rules.length cr) → Calls Tryz.prog 38 #[.slice of P.fixed.length cf] V fun e w' => ∃ o n c, e = .returned (.slice o n c) ∧ Hid (w'.ownsRow V.heap.size 3 1 (.slice o n c) P.fixed.length (cellsI P.fixed)) ∧ Hid (Below V.heap.size V w')) := fun V hV => (clone P.fixed _ V hV.fixed hk'.out.f).mono fun e w' ⟨v, e1, e2, e3⟩ => by
    obtain ⟨a, c, rfl⟩ := own_shp e2
    exact ⟨a, _, c, e1, e2, e3⟩
  go_upto_region 6 with fail
  go_cut [9] from 34 to 42 (fun qv wx => ∃ gq oa na ca ob nb cb, qv = .pointer (some ⟨gq, 0, none⟩) ∧ Hid (Fv w P (.slice ow P.who.length cw) (.slice of P.fixed.length cf) (.slice or P.rules.length cr) gq wx P.users (.slice oa na ca) (.slice ob nb cb) (.slice none 0 0) (.slice oa na ca) (.slice ob nb cb) (.slice none 0 0) P.who P.fixed []))
  case first =>
    as_aux_lemma =>
    have hP0 := hide' (hS3.out.over (Below.refl _ _).drew)
    clear hS3 hfl hPy
    refine wp_region_held_drew (S := (fun V => V.cell? ⟨w.heap.size, 0, none⟩ = some (.int .i64 P.users) ∧ V.cell? ⟨w.heap.size, 1, none⟩ = some (.slice ow P.who.length cw) ∧ V.cell? ⟨w.heap.size, 2, none⟩ = some (.slice of P.fixed.length cf))) (by kernel_rfl) ?_ (fun hHeld => ?_)
    · exact hP0.out.cells
    refine wpAnyH_take (i := 0) (oi := { dst := some 34, op := Op.fieldAddr 26 (Operand.tmp 3) 0, type := 0, pos := "solve.go:62", after := #[], guard := none }) (v := ?_) rfl (by kernel_rfl) (by kernel_rfl) (by kernel_rfl) (fun _ _ _ h => h) (Or.inl ⟨by rfl, ?_⟩) (by assumption) ?_
    rotate_left
    · intro w hSw; (try dsimp only at hSw); go_simp <;> with_reducible rfl
    simp only [Act.put, List.setIfInBounds_toArray, List.set_cons_zero, List.set_cons_succ]
    refine wpAnyH_take (i := 1) (oi := { dst := some 35, op := Op.load 3 (Operand.tmp 34), type := 3, pos := "solve.go:62", after := #[{ on := 0, ground := Ground.data }], guard := none }) (v := ?_) rfl (by kernel_rfl) (by kernel_rfl) (by kernel_rfl) (fun _ _ _ h => h) (Or.inl ⟨by rfl, ?_⟩) (by assumption) ?_
    rotate_left
    · intro w hSw; (try dsimp only at hSw); go_simp <;> with_reducible rfl
    simp only [Act.put, List.setIfInBounds_toArray, List.set_cons_zero, List.set_cons_succ]
    refine wpAnyH_take (i := 2) (oi := { dst := some 36, op := Op.fieldAddr 26 (Operand.tmp 3) 1, type := 0, pos := "solve.go:62", after := #[], guard := none }) (v := ?_) rfl (by kernel_rfl) (by kernel_rfl) (by kernel_rfl) (fun _ _ _ h => h) (Or.inl ⟨by rfl, ?_⟩) (by assumption) ?_
    rotate_left
    · intro w hSw; (try dsimp only at hSw); go_simp <;> with_reducible rfl
    simp only [Act.put, List.setIfInBounds_toArray, List.set_cons_zero, List.set_cons_succ]
    refine wpAnyH_take (i := 3) (oi := { dst := some 37, op := Op.load 22 (Operand.tmp 36), type := 22, pos := "solve.go:62", after := #[{ on := 2, ground := Ground.data }], guard := none }) (v := ?_) rfl (by kernel_rfl) (by kernel_rfl) (by kernel_rfl) (fun _ _ _ h => h) (Or.inl ⟨by rfl, ?_⟩) (by assumption) ?_
    rotate_left
    · intro w hSw; (try dsimp only at hSw); go_simp <;> with_reducible rfl
    simp only [Act.put, List.setIfInBounds_toArray, List.set_cons_zero, List.set_cons_succ]
    refine wpAnyH_take (i := 5) (oi := { dst := some 39, op := Op.fieldAddr 26 (Operand.tmp 3) 2, type := 0, pos := "solve.go:62", after := #[], guard := none }) (v := ?_) rfl (by kernel_rfl) (by kernel_rfl) (by kernel_rfl) (fun _ _ _ h => h) (Or.inl ⟨by rfl, ?_⟩) (by assumption) ?_
    rotate_left
    · intro w hSw; (try dsimp only at hSw); go_simp <;> with_reducible rfl
    simp only [Act.put, List.setIfInBounds_toArray, List.set_cons_zero, List.set_cons_succ]
    refine wpAnyH_take (i := 6) (oi := { dst := some 40, op := Op.load 23 (Operand.tmp 39), type := 23, pos := "solve.go:62", after := #[{ on := 5, ground := Ground.data }], guard := none }) (v := ?_) rfl (by kernel_rfl) (by kernel_rfl) (by kernel_rfl) (fun _ _ _ h => h) (Or.inl ⟨by rfl, ?_⟩) (by assumption) ?_
    rotate_left
    · intro w hSw; (try dsimp only at hSw); go_simp <;> with_reducible rfl
    simp only [Act.put, List.setIfInBounds_toArray, List.set_cons_zero, List.set_cons_succ]
    refine wpAnyH_ready (rs := [4, 9]) (by kernel_rfl) (by simp) ?_
    refine AllReadyH.cons (o := { dst := some 38, op := Op.call { callee := Callee.value (Operand.func 37), args := #[Operand.tmp 37], argTypes := #[22] }, type := 22, pos := "solve.go:62", after := #[{ on := 3, ground := Ground.data }], guard := none }) rfl (fun K hK => ?_) ?_
    · skip
      go_simp
      refine (KW.out _ hP0.out.pv).mono ?_; rintro e w5 ⟨o5, n5, c5, rfl, hO5, hb5⟩; have hS5 := hide' (hP0.out.who hb5.out hO5.out); (try dsimp only)
      refine hK.out _ _ ?_ (fun hHeld => ?_)
      · exact hS5.out.cells
      clear hK K
      try simp only [Act.put, List.setIfInBounds_toArray, List.set_cons_zero, List.set_cons_succ]
      refine wpAnyH_ready (rs := [7, 9]) (by kernel_rfl) (by simp) ?_
      refine AllReadyH.cons (o := { dst := some 41, op := Op.call { callee := Callee.value (Operand.func 38), args := #[Operand.tmp 40], argTypes := #[23] }, type := 23, pos := "solve.go:62", after := #[{ on := 6, ground := Ground.data }, { on := 4, ground := Ground.chain }], guard := none }) rfl (fun K hK => ?_) ?_
      · skip
        go_simp
        refine (KI.out _ hS5.out.pv).mono ?_; rintro e w6 ⟨o6, n6, c6, rfl, hO6, hb6⟩; have hS6 := hide' (hS5.out.fix hb6.out hO6.out); (try dsimp only)
        refine hK.out _ _ ?_ (fun hHeld => ?_)
        · exact hS6.out.cells
        clear hK K
        try simp only [Act.put, List.setIfInBounds_toArray, List.set_cons_zero, List.set_cons_succ]
        refine wpAnyH_take (i := 8) (oi := { dst := some 42, op := Op.build 26 #[(0, Operand.tmp 35), (1, Operand.tmp 38), (2, Operand.tmp 41)], type := 26, pos := "solve.go:62", after := #[{ on := 1, ground := Ground.data }, { on := 4, ground := Ground.data }, { on := 7, ground := Ground.data }], guard := none }) (v := ?_) rfl (by kernel_rfl) (by kernel_rfl) (by kernel_rfl) (fun _ _ _ h => h) (Or.inl ⟨by rfl, ?_⟩) (by assumption) ?_
        rotate_left
        · intro w hSw; (try dsimp only at hSw); go_simp <;> with_reducible rfl
        simp only [Act.put, List.setIfInBounds_toArray, List.set_cons_zero, List.set_cons_succ]
        refine wpAnyH_ready (rs := [9]) (by kernel_rfl) (by simp) ?_
        refine AllReadyH.cons (o := { dst := some 9, op := Op.alloc 26, type := 0, pos := "solve.go:62", after := #[], guard := none }) rfl (fun K hK => ?_) AllReadyH.nil
        go_simp
        refine hK.out _ _ ?_ (fun hHeld => ?_)
        · exact (hS6.out.over ((Below.refl _ w6).alloc (Nat.le_refl _) _)).cells
        clear hK K
        try simp only [Act.put, List.setIfInBounds_toArray, List.set_cons_zero, List.set_cons_succ]
        refine wpAnyH_ready (rs := [10]) (by kernel_rfl) (by simp) ?_
        refine AllReadyH.cons (o := { dst := none, op := Op.store 26 (Operand.tmp 9) (Operand.tmp 42), type := 0, pos := "solve.go:62", after := #[{ on := 9, ground := Ground.data }, { on := 8, ground := Ground.data }, { on := 7, ground := Ground.chain }, { on := 0, ground := Ground.phase }, { on := 1, ground := Ground.phase }, { on := 2, ground := Ground.phase }, { on := 3, ground := Ground.phase }, { on := 4, ground := Ground.phase }, { on := 5, ground := Ground.phase }, { on := 6, ground := Ground.phase }, { on := 7, ground := Ground.phase }, { on := 8, ground := Ground.phase }, { on := 9, ground := Ground.phase }], guard := none }) rfl (fun K hK => ?_) AllReadyH.nil
        go_simp
        refine hK.out _ _ ?_ (fun hHeld => ?_)
        · exact (hS6.out.closeV P.users (.slice o5 n5 c5) (.slice o6 n6 c6)).cells
        clear hK K
        try simp only [Act.put, List.setIfInBounds_toArray, List.set_cons_zero, List.set_cons_succ]
        refine wpAnyH_done (by kernel_rfl) ?_ _
        skip
        have hQ := hide' (hS6.out.closeV P.users (.slice o5 n5 c5) (.slice o6 n6 c6))
        go_wp2
        go_meet
        exact ⟨_, o5, n5, c5, o6, n6, c6, rfl, hQ⟩
      refine AllReadyH.cons (o := { dst := some 9, op := Op.alloc 26, type := 0, pos := "solve.go:62", after := #[], guard := none }) rfl (fun K hK => ?_) AllReadyH.nil
      go_simp
      have hA := hide' (hS5.out.box); (try dsimp only)
      refine hK.out _ _ ?_ (fun hHeld => ?_)
      · exact hA.out.p.cells
      clear hK K
      try simp only [Act.put, List.setIfInBounds_toArray, List.set_cons_zero, List.set_cons_succ]
      refine wpAnyH_ready (rs := [7]) (by kernel_rfl) (by simp) ?_
      refine AllReadyH.cons (o := { dst := some 41, op := Op.call { callee := Callee.value (Operand.func 38), args := #[Operand.tmp 40], argTypes := #[23] }, type := 23, pos := "solve.go:62", after := #[{ on := 6, ground := Ground.data }, { on := 4, ground := Ground.chain }], guard := none }) rfl (fun K hK => ?_) AllReadyH.nil
      go_simp
      refine (KI.out _ hA.out.p.pv).mono ?_; rintro e w6 ⟨o6, n6, c6, rfl, hO6, hb6⟩; have hS6 := hide' (hA.out.fix hb6.out hO6.out); (try dsimp only); have f0 := hS6.out.qb.frz 0; have y0 := hS6.out.qb.c0; have f1 := (hS6.out.qb.s0C P.users).frz 1; have y1 := (hS6.out.qb.s0C P.users).c1; have f2 := ((hS6.out.qb.s0C P.users).s1 (.slice o5 n5 c5)).frz 2; have y2 := ((hS6.out.qb.s0C P.users).s1 (.slice o5 n5 c5)).c2; have f3 := (((hS6.out.qb.s0C P.users).s1 (.slice o5 n5 c5)).s2 (.slice o6 n6 c6)).frz 3; have y3 := (((hS6.out.qb.s0C P.users).s1 (.slice o5 n5 c5)).s2 (.slice o6 n6 c6)).c3
      refine hK.out _ _ ?_ (fun hHeld => ?_)
      · exact hS6.out.p.cells
      clear hK K
      try simp only [Act.put, List.setIfInBounds_toArray, List.set_cons_zero, List.set_cons_succ]
      refine wpAnyH_take (i := 8) (oi := { dst := some 42, op := Op.build 26 #[(0, Operand.tmp 35), (1, Operand.tmp 38), (2, Operand.tmp 41)], type := 26, pos := "solve.go:62", after := #[{ on := 1, ground := Ground.data }, { on := 4, ground := Ground.data }, { on := 7, ground := Ground.data }], guard := none }) (v := ?_) rfl (by kernel_rfl) (by kernel_rfl) (by kernel_rfl) (fun _ _ _ h => h) (Or.inl ⟨by rfl, ?_⟩) (by assumption) ?_
      rotate_left
      · intro w hSw; (try dsimp only at hSw); go_simp <;> with_reducible rfl
      simp only [Act.put, List.setIfInBounds_toArray, List.set_cons_zero, List.set_cons_succ]
      refine wpAnyH_ready (rs := [10]) (by kernel_rfl) (by simp) ?_
      refine AllReadyH.cons (o := { dst := none, op := Op.store 26 (Operand.tmp 9) (Operand.tmp 42), type := 0, pos := "solve.go:62", after := #[{ on := 9, ground := Ground.data }, { on := 8, ground := Ground.data }, { on := 7, ground := Ground.chain }, { on := 0, ground := Ground.phase }, { on := 1, ground := Ground.phase }, { on := 2, ground := Ground.phase }, { on := 3, ground := Ground.phase }, { on := 4, ground := Ground.phase }, { on := 5, ground := Ground.phase }, { on := 6, ground := Ground.phase }, { on := 7, ground := Ground.phase }, { on := 8, ground := Ground.phase }, { on := 9, ground := Ground.phase }], guard := none }) rfl (fun K hK => ?_) AllReadyH.nil
      go_simp
      refine hK.out _ _ ?_ (fun hHeld => ?_)
      · exact (hS6.out.closeV P.users (.slice o5 n5 c5) (.slice o6 n6 c6)).cells
      clear hK K
      try simp only [Act.put, List.setIfInBounds_toArray, List.set_cons_zero, List.set_cons_succ]
      refine wpAnyH_done (by kernel_rfl) ?_ _
      skip
      have hQ := hide' (hS6.out.closeV P.users (.slice o5 n5 c5) (.slice o6 n6 c6))
      go_wp2
      go_meet
      exact ⟨_, o5, n5, c5, o6, n6, c6, rfl, hQ⟩
    refine AllReadyH.cons (o := { dst := some 9, op := Op.alloc 26, type := 0, pos := "solve.go:62", after := #[], guard := none }) rfl (fun K hK => ?_) AllReadyH.nil
    go_simp
    have hA := hide' (hP0.out.box); rw [show w3.drew.heap.size = w3.heap.size from rfl] at hA; (try dsimp only)
    refine hK.out _ _ ?_ (fun hHeld => ?_)
    · exact hA.out.p.cells
    clear hK K
    try simp only [Act.put, List.setIfInBounds_toArray, List.set_cons_zero, List.set_cons_succ]
    refine wpAnyH_ready (rs := [4]) (by kernel_rfl) (by simp) ?_
    refine AllReadyH.cons (o := { dst := some 38, op := Op.call { callee := Callee.value (Operand.func 37), args := #[Operand.tmp 37], argTypes := #[22] }, type := 22, pos := "solve.go:62", after := #[{ on := 3, ground := Ground.data }], guard := none }) rfl (fun K hK => ?_) AllReadyH.nil
    go_simp
    refine (KW.out _ hA.out.p.pv).mono ?_; rintro e w5 ⟨o5, n5, c5, rfl, hO5, hb5⟩; have hS5 := hide' (hA.out.who hb5.out hO5.out); (try dsimp only)
    refine hK.out _ _ ?_ (fun hHeld => ?_)
    · exact hS5.out.p.cells
    clear hK K
    try simp only [Act.put, List.setIfInBounds_toArray, List.set_cons_zero, List.set_cons_succ]
    refine wpAnyH_ready (rs := [7]) (by kernel_rfl) (by simp) ?_
    refine AllReadyH.cons (o := { dst := some 41, op := Op.call { callee := Callee.value (Operand.func 38), args := #[Operand.tmp 40], argTypes := #[23] }, type := 23, pos := "solve.go:62", after := #[{ on := 6, ground := Ground.data }, { on := 4, ground := Ground.chain }], guard := none }) rfl (fun K hK => ?_) AllReadyH.nil
    go_simp
    refine (KI.out _ hS5.out.p.pv).mono ?_; rintro e w6 ⟨o6, n6, c6, rfl, hO6, hb6⟩; have hS6 := hide' (hS5.out.fix hb6.out hO6.out); (try dsimp only); have f0 := hS6.out.qb.frz 0; have y0 := hS6.out.qb.c0; have f1 := (hS6.out.qb.s0C P.users).frz 1; have y1 := (hS6.out.qb.s0C P.users).c1; have f2 := ((hS6.out.qb.s0C P.users).s1 (.slice o5 n5 c5)).frz 2; have y2 := ((hS6.out.qb.s0C P.users).s1 (.slice o5 n5 c5)).c2; have f3 := (((hS6.out.qb.s0C P.users).s1 (.slice o5 n5 c5)).s2 (.slice o6 n6 c6)).frz 3; have y3 := (((hS6.out.qb.s0C P.users).s1 (.slice o5 n5 c5)).s2 (.slice o6 n6 c6)).c3
    refine hK.out _ _ ?_ (fun hHeld => ?_)
    · exact hS6.out.p.cells
    clear hK K
    try simp only [Act.put, List.setIfInBounds_toArray, List.set_cons_zero, List.set_cons_succ]
    refine wpAnyH_take (i := 8) (oi := { dst := some 42, op := Op.build 26 #[(0, Operand.tmp 35), (1, Operand.tmp 38), (2, Operand.tmp 41)], type := 26, pos := "solve.go:62", after := #[{ on := 1, ground := Ground.data }, { on := 4, ground := Ground.data }, { on := 7, ground := Ground.data }], guard := none }) (v := ?_) rfl (by kernel_rfl) (by kernel_rfl) (by kernel_rfl) (fun _ _ _ h => h) (Or.inl ⟨by rfl, ?_⟩) (by assumption) ?_
    rotate_left
    · intro w hSw; (try dsimp only at hSw); go_simp <;> with_reducible rfl
    simp only [Act.put, List.setIfInBounds_toArray, List.set_cons_zero, List.set_cons_succ]
    refine wpAnyH_ready (rs := [10]) (by kernel_rfl) (by simp) ?_
    refine AllReadyH.cons (o := { dst := none, op := Op.store 26 (Operand.tmp 9) (Operand.tmp 42), type := 0, pos := "solve.go:62", after := #[{ on := 9, ground := Ground.data }, { on := 8, ground := Ground.data }, { on := 7, ground := Ground.chain }, { on := 0, ground := Ground.phase }, { on := 1, ground := Ground.phase }, { on := 2, ground := Ground.phase }, { on := 3, ground := Ground.phase }, { on := 4, ground := Ground.phase }, { on := 5, ground := Ground.phase }, { on := 6, ground := Ground.phase }, { on := 7, ground := Ground.phase }, { on := 8, ground := Ground.phase }, { on := 9, ground := Ground.phase }], guard := none }) rfl (fun K hK => ?_) AllReadyH.nil
    go_simp
    refine hK.out _ _ ?_ (fun hHeld => ?_)
    · exact (hS6.out.closeV P.users (.slice o5 n5 c5) (.slice o6 n6 c6)).cells
    clear hK K
    try simp only [Act.put, List.setIfInBounds_toArray, List.set_cons_zero, List.set_cons_succ]
    refine wpAnyH_done (by kernel_rfl) ?_ _
    skip
    have hQ := hide' (hS6.out.closeV P.users (.slice o5 n5 c5) (.slice o6 n6 c6))
    go_wp2
    go_meet
    exact ⟨_, o5, n5, c5, o6, n6, c6, rfl, hQ⟩
  case rest =>
  clear hS3 KW KI
  obtain ⟨gq, oa, na, ca, ob, nb, cb, rfl, hQ⟩ := hcut
  have q3 := hQ.out.pb.c3
  go_upto_block 0 with fail
  clear q3
  go_cut [46, 11] from 47 to 60 (fun _ _ wx => ∃ oc nc cc E, Hid (E.map Prod.fst = P.rules) ∧ Hid (Fv w P (.slice ow P.who.length cw) (.slice of P.fixed.length cf) (.slice or P.rules.length cr) gq wx P.users (.slice oa na ca) (.slice ob nb cb) (.slice oc nc cc) (.slice oa na ca) (.slice ob nb cb) (.slice oc nc cc) P.who P.fixed E))
  case first =>
    as_aux_lemma =>
    go_wp2
    go_loopw [46, 11] (fun kv _ wr => ∃ (j : Nat) (oc : Option Addr) (nc cc : Nat) (E : List (Rl × Value)), j ≤ P.rules.length ∧ kv = .int .i64 (j : Int) ∧ Hid (E.map Prod.fst = P.rules.take j) ∧ Hid (Fv w P (.slice ow P.who.length cw) (.slice of P.fixed.length cf) (.slice or P.rules.length cr) gq wr P.users (.slice oa na ca) (.slice ob nb cb) (.slice oc nc cc) (.slice oa na ca) (.slice ob nb cb) (.slice oc nc cc) P.who P.fixed E)) (fun kv _ _ => ((P.rules.length : Int) - intOf kv).toNat)
    case atStart => exact ⟨0, none, 0, 0, [], Nat.zero_le _, rfl, rfl, hQ⟩
    case round =>
      clear hQ
      obtain ⟨j, oc, nc, cc, E, hj, rfl, hE, hQ⟩ := hrel
      by_cases hlt : j < P.rules.length
      · as_aux_lemma =>
        have hlt' : (j : Int) < (P.rules.length : Int) := by omega
        obtain ⟨r, hr⟩ : ∃ r, P.rules[j]? = some r := ⟨_, List.getElem?_eq_getElem hlt⟩
        obtain ⟨oa3, ca3, e3, _, hcr⟩ := h'.out
        obtain ⟨g, o, sv, r3, d1, d2, d3, d4⟩ := hcr j r hr
        injection e3 with e3a e3b e3c
        subst e3a
        subst r3
        have a1 := M.cell_over d1 hQ.out.be
        have a2 := M.cell_over d2 hQ.out.be
        have a3 := M.cell_over d3 hQ.out.be
        have hst := hsr.out r (List.mem_of_getElem? hr)
        obtain ⟨Wg, rfl⟩ : ∃ W, W = wr := ⟨_, rfl⟩
        have d4' := hide' (d4.below hQ.out.be (Nat.le_refl _))
        obtain ⟨os, cs, rfl, _, _⟩ := d4
        have hE2 : Hid (E.map Prod.fst ++ [r] = P.rules.take (j + 1)) := by unfold Hid; rw [hE.out, List.take_add_one, hr]; rfl
        have hEl : Hid (E.length ≤ 1000000) := by
          have := congrArg List.length hE.out
          rw [List.length_map, List.length_take] at this
          show E.length ≤ 1000000
          omega
        have hbA : Hid (Below Wg.heap.size Wg (Wg.alloc (.cells #[.int .i64 r.kind, .int .i64 r.k, .slice os r.steps.length cs] 44))) := (Below.refl _ Wg).alloc (Nat.le_refl _) _
        have hbx : Hid ((Wg.alloc (.cells #[.int .i64 r.kind, .int .i64 r.k, .slice os r.steps.length cs] 44)).rowIs Wg.heap.size 44 3 (ruW r.kind r.k (.slice os r.steps.length cs))) := World.rowIs_alloc Wg #[.int .i64 r.kind, .int .i64 r.k, .slice os r.steps.length cs] _ _ fun i hi => by
          have hi : i < 3 := hi
          rcases (show i = 0 ∨ i = 1 ∨ i = 2 by omega) with rfl | rfl | rfl <;> rfl
        have KR := hide' (clone r.steps (.slice os r.steps.length cs) _ (d4'.out.below hbA.out (Nat.le_refl _)) hst)
        clear d1 d2 d3 hr hcr d4' e3b e3c
        go_wp2_with fail
        clear a1 a2 a3
        refine KR.out.mono ?_
        rintro e w7 ⟨v7, rfl, hO7, hb7⟩
        obtain ⟨o7, c7, rfl⟩ := own_shp hO7
        have hz : (Wg.alloc (.cells #[.int .i64 r.kind, .int .i64 r.k, .slice os r.steps.length cs] 44)).heap.size = Wg.heap.size + 1 := by simp
        rw [hz] at hO7 hb7
        have hb7' : Hid (Below Wg.heap.size Wg w7) := hbA.out.trans (hb7.mono (Nat.le_succ _))
        have hbx7 := hide' (World.rowIs.of_block hbx.out (hb7.block _ (Nat.lt_succ_self _)))
        have f2 := World.rowIs.frozen hbx7.out 2
        have y2 := World.rowIs.cell hbx7.out (i := 2) (by decide)
        have hbx8 := World.rowIs.set hbx7.out 2 (.slice o7 r.steps.length c7)
        have x0 := World.rowIs.cell hbx8 (i := 0) (by decide)
        have x1 := World.rowIs.cell hbx8 (i := 1) (by decide)
        have x2 := World.rowIs.cell hbx8 (i := 2) (by decide)
        simp [ruW] at y2 x0 x1 x2
        have hb8 : Hid (Below Wg.heap.size Wg (w7.setCell ⟨Wg.heap.size, 2, none⟩ (.slice o7 r.steps.length c7))) := hb7'.out.setCell (p := ⟨Wg.heap.size, 2, none⟩) (Nat.le_refl _) _
        have hQ8 := hide' (hQ.out.over hb8.out)
        have hq3 := hQ8.out.qb.c3
        have hO8 : Hid ((w7.setCell ⟨Wg.heap.size, 2, none⟩ (.slice o7 r.steps.length c7)).ownsRow (Wg.heap.size + 1) 3 1 (.slice o7 r.steps.length c7) r.steps.length (cellsI r.steps)) := own_same hO7 fun g hg e => Below.heap_setCell _ _ _ _ (by have := own_ge' hO7 e; show g ≠ Wg.heap.size; omega)
        have hn2 : Hid (∀ gg, (Value.slice ob nb cb).ownBlock = some gg → (Value.slice o7 r.steps.length c7).ownBlock ≠ some gg) := fun gg h1 h2 => by
          have q1 := own_lt' hQ.out.r2 h1
          have q2 := own_ge' hO7 h2
          omega
        have hn3 : Hid (∀ q ∈ E, ∀ gg, q.2.ownBlock = some gg → (Value.slice o7 r.steps.length c7).ownBlock ≠ some gg) := fun q hq gg h1 h2 => by
          have q1 := own_lt' (hQ.out.r3.inner q hq) h1
          have q2 := own_ge' hO7 h2
          omega
        have hp8 : Hid ((w7.setCell ⟨Wg.heap.size, 2, none⟩ (.slice o7 r.steps.length c7)).ownsRow (w.heap.size + 2) 3 1 (.slice o7 r.steps.length c7) r.steps.length (cellsI r.steps)) := own_down hO8.out (by have := hQ.out.sz; omega)
        clear hO7 hb7 hb7' hbx7 hbx8 hbx hbA KR hz hQ hb8 hO8
        go_upto_region 11 with fail
        clear f2 y2
        generalize w7.setCell ⟨Wg.heap.size, 2, none⟩ (.slice o7 r.steps.length c7) = W8 at *
        go_wp2_with (at_builtin; refine wpList_plain rfl fun _ hK => Fv.wapp3 (.tmp 55) (.tmp 57) hQ8.out (r, .slice o7 r.steps.length c7) hp8.out hn2.out hn3.out rfl rfl rfl hEl.out fun oD nD cD wD hD => hK _ _ ?_; have hD' := hide' hD; have fD := hD.qb.frz 3; have dD := hD.qb.c3; clear hD)
        have hE9 := hide' (hD'.out.put (hD'.out.qb.s3 (.slice oD nD cD)))
        exact ⟨⟨j + 1, oD, nD, cD, _, by omega, by go_num, by rw [List.map_append]; exact hE2, hE9⟩, by simp [intOf]; omega⟩
      · as_aux_lemma =>
        obtain rfl : j = P.rules.length := by omega
        rw [List.take_length] at hE
        go_wp2
        go_meet
        exact ⟨oc, nc, cc, E, hE, hQ⟩
  case rest =>
  clear hQ
  obtain ⟨oc, nc, cc, E, hE, hQ⟩ := hcut
  obtain ⟨k, rfl⟩ := Int.eq_ofNat_of_zero_le (show 0 ≤ s by omega)
  have hkw : k < P.fixed.length := by have := hfl.out; omega
  obtain ⟨gf, hgf⟩ : ∃ gf, Value.slice ob nb cb = .slice (some ⟨gf, 0, none⟩) P.fixed.length cb := by
    rcases hQ.out.r2.2 with ⟨_, h0⟩ | ⟨g, cap, cur, e, h1, _⟩
    · omega
    · injection e with e1 e2 e3
      exact ⟨g, by rw [e1, e2]⟩
  injection hgf with hg1 hg2 _
  subst hg1
  subst hg2
  obtain ⟨y, hy⟩ : ∃ y, P.fixed[k]? = some y := ⟨_, List.getElem?_eq_getElem hkw⟩
  have ck : wc.cell? ⟨gf, k, none⟩ = some (.int .i64 y) := by
    rw [hQ.out.r2.cellAt k (by omega)]
    unfold cellsI
    rw [List.getElem?_map, hy]
    rfl
  have fk := hQ.out.r2.frozenAt k
  have q2 := hQ.out.qb.c2
  have hQ2 := hide' (hQ.out.setF k x)
  have hkI : (k : Int) < (P.fixed.length : Int) := by omega
  have hR : FxY P (k : Int) x := hPy
  clear hQ hy hPy h' hsr hk'
  go_upto_region 14 with fail
  clear ck fk q2
  generalize wc.setCell ⟨gf, k, none⟩ (.int .i64 x) = W9 at *
  have p0 := hQ2.out.qb.c0
  have p1 := hQ2.out.qb.c1
  have p2 := hQ2.out.qb.c2
  have p3 := hQ2.out.qb.c3
  have f0 := hQ2.out.z.frz 0
  have y0 := hQ2.out.z.c0
  have f1 := (hQ2.out.z.s0C P.users).frz 1
  have y1 := (hQ2.out.z.s0C P.users).c1
  have f2 := ((hQ2.out.z.s0C P.users).s1 (.slice oa na ca)).frz 2
  have y2 := ((hQ2.out.z.s0C P.users).s1 (.slice oa na ca)).c2
  have f3 := (((hQ2.out.z.s0C P.users).s1 (.slice oa na ca)).s2 (.slice (some ⟨gf, 0, none⟩) P.fixed.length cb)).frz 3
  have y3 := (((hQ2.out.z.s0C P.users).s1 (.slice oa na ca)).s2 (.slice (some ⟨gf, 0, none⟩) P.fixed.length cb)).c3
  have x0 := ((((hQ2.out.z.s0C P.users).s1 (.slice oa na ca)).s2 (.slice (some ⟨gf, 0, none⟩) P.fixed.length cb)).s3 (.slice oc nc cc)).c0
  have x1 := ((((hQ2.out.z.s0C P.users).s1 (.slice oa na ca)).s2 (.slice (some ⟨gf, 0, none⟩) P.fixed.length cb)).s3 (.slice oc nc cc)).c1
  have x2 := ((((hQ2.out.z.s0C P.users).s1 (.slice oa na ca)).s2 (.slice (some ⟨gf, 0, none⟩) P.fixed.length cb)).s3 (.slice oc nc cc)).c2
  have x3 := ((((hQ2.out.z.s0C P.users).s1 (.slice oa na ca)).s2 (.slice (some ⟨gf, 0, none⟩) P.fixed.length cb)).s3 (.slice oc nc cc)).c3
  have hF := hide' (hQ2.out.fin (.int .i64 P.users) (.slice oa na ca) (.slice (some ⟨gf, 0, none⟩) P.fixed.length cb) (.slice oc nc cc))
  clear hQ2
  go_wp2
  refine bodyPost_ret (v := .tuple #[.agg #[.int .i64 P.users, .slice oa na ca, .slice (some ⟨gf, 0, none⟩) P.fixed.length cb, .slice oc nc cc], .int .i64 0]) (by simp [results, Tryz.results16, go_sem, x0, x1, x2, x3]) rfl ?_
  unfold FxV
  rw [hR.n, hR.p, Int.toNat_natCast, ← hE.out]
  exact ⟨_, _, _, rfl, hF.out.1, hF.out.2.1, hF.out.2.2.1, fun _ => hF.out.2.2.2⟩
end Go.Proofs.YtkmglmfdcmcobaaGreatDoor.S
