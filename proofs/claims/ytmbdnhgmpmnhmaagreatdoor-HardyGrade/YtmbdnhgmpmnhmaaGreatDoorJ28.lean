/- The document's Twin: a problem that shares nothing. -/
import Derived.Test.YtmbdnhgmpmnhmaaGreatDoorJ26
namespace Go.Proofs.YtmbdnhgmpmnhmaaGreatDoor.S
open Go.RowKit Go.Shelf
/-- All of a row of ints, onto nil. -/
theorem all_ints {ops : Array Oper} {rest : List Oper} {o : Oper} {a : Act} {Q : Exit → Act → World → Prop} (hgd : o.guard = none) (s x : Operand) (W : World) (v : Value) (l : List Int) (ho : o.op = .call { callee := .builtin .append, args := #[s, x], argTypes := #[23, 23] })
    (es : a.eval s = .slice none 0 0) (ex : a.eval x = v) (hr : RowI W v l) (hn : l.length ≤ 1000)
    (hK : ∀ o2 n2 c2 w2, Hid (w2.ownsRow W.heap.size 3 1 (.slice o2 n2 c2) l.length (cellsI l)) → Hid (Below W.heap.size W w2) → wpList Tryz.prog ops Q rest (a.put o.dst (.slice o2 n2 c2)) w2) : wpList Tryz.prog ops Q (o :: rest) a W := by
  obtain ⟨i0, hi, hz0, hz1, hz2⟩ := info_parts info3
  obtain ⟨oa, cap, rfl, hcap, hc⟩ := hr
  cases oa with
  | none =>
    have h2 := hcap.2 rfl
    subst h2
    have : l = [] := List.eq_nil_of_length_eq_zero (by omega)
    subst this
    exact wpList_append_own_none hgd s x 23 ho W.heap.size 3 i0 1 Tryz.underlying23 hi _ 0 (cellsI []) es (World.ownsRow_nil _ _ _ _) ex (hK _ _ _ _ (World.ownsRow_nil _ _ _ _) (Below.refl _ _))
  | some ad =>
    refine wpList_append_own _ hgd s x 23 ho W.heap.size 3 i0 (.int .i64 0) 1 8 Tryz.underlying23 hi hz0 hz1 hz2 rfl (by decide) _ 0 (cellsI []) es (World.ownsRow_nil _ _ _ _) ad l.length cap (cellsI l) ex (by simp [cellsI]) (fun j u hu => ?_) (one_cells l) (by unfold maxLen; omega) (by omega) (Nat.le_refl _) ?_
    · obtain ⟨z, hz, rfl⟩ := cellsI_at hu
      obtain ⟨g', o'', e, hcz⟩ := hc j z hz
      cases e
      rw [Addr.add_lit]; exact hcz
    · intro v2 w2 hown hg _
      obtain ⟨o2, c2, rfl⟩ := own_shp hown
      refine hK _ _ _ _ ?_ ((Below.refl _ W).grown hg (Nat.le_refl _) (fun j e => by cases e))
      show World.ownsRow _ _ _ _ _ _ _
      have := hown
      rw [Nat.zero_add] at this
      simpa [cellsI] using this
/-- All of a row of words, onto nil. -/
theorem all_words {ops : Array Oper} {rest : List Oper} {o : Oper} {a : Act} {Q : Exit → Act → World → Prop} (hgd : o.guard = none) (s x : Operand) (W : World) (v : Value) (l : List Nat) (ho : o.op = .call { callee := .builtin .append, args := #[s, x], argTypes := #[22, 22] })
    (es : a.eval s = .slice none 0 0) (ex : a.eval x = v) (hr : RowW W v l) (hn : l.length ≤ 1000)
    (hK : ∀ o2 n2 c2 w2, Hid (w2.ownsRow W.heap.size 27 1 (.slice o2 n2 c2) l.length (cellsW l)) → Hid (Below W.heap.size W w2) → wpList Tryz.prog ops Q rest (a.put o.dst (.slice o2 n2 c2)) w2) : wpList Tryz.prog ops Q (o :: rest) a W := by
  obtain ⟨i0, hi, hz0, hz1, hz2⟩ := info_parts infoW
  obtain ⟨oa, cap, rfl, hcap, hc⟩ := hr
  cases oa with
  | none =>
    have h2 := hcap.2 rfl
    subst h2
    have : l = [] := List.eq_nil_of_length_eq_zero (by omega)
    subst this
    exact wpList_append_own_none hgd s x 22 ho W.heap.size 27 i0 1 Tryz.underlying22 hi _ 0 (cellsW []) es (World.ownsRow_nil _ _ _ _) ex (hK _ _ _ _ (World.ownsRow_nil _ _ _ _) (Below.refl _ _))
  | some ad =>
    refine wpList_append_own _ hgd s x 22 ho W.heap.size 27 i0 (.int .u64 0) 1 8 Tryz.underlying22 hi hz0 hz1 hz2 rfl (by decide) _ 0 (cellsW []) es (World.ownsRow_nil _ _ _ _) ad l.length cap (cellsW l) ex (by simp [cellsW]) (fun j u hu => ?_) (one_cellsW l) (by unfold maxLen; omega) (by omega) (Nat.le_refl _) ?_
    · obtain ⟨z, hz, rfl⟩ := cellsW_atC hu
      obtain ⟨g', o'', e, hcz⟩ := hc j z hz
      cases e
      rw [Addr.add_lit]; exact hcz
    · intro v2 w2 hown hg _
      obtain ⟨o2, c2, rfl⟩ := own_shp hown
      refine hK _ _ _ _ ?_ ((Below.refl _ W).grown hg (Nat.le_refl _) (fun j e => by cases e))
      show World.ownsRow _ _ _ _ _ _ _
      have := hown
      rw [Nat.zero_add] at this
      simpa [cellsW] using this
section
variable {w : World} {P : Pb} {wv fv rv : Value} {gq : Nat} {W W' : World} {u : Int} {a b c va vb va' vb' vc : Value} {L1 : List Nat} {L2 : List Int}
theorem Fq.newW (h : Fq w P wv fv rv gq W u a b c va vb vc L1 L2 []) (hb : Below W.heap.size W W') {L : List Nat} (ho : W'.ownsRow W.heap.size 27 1 va' L.length (cellsW L)) : Fq w P wv fv rv gq W' u a b c va' vb vc L L2 [] := by
  have k := h.over hb
  exact ⟨k.pb, k.z, k.qb, own_down ho h.sz, k.r2, k.r3, k.dj, k.ge, k.be⟩
theorem Fq.newF (h : Fq w P wv fv rv gq W u a b c va vb vc L1 L2 []) (hb : Below W.heap.size W W') {L : List Int} (ho : W'.ownsRow W.heap.size 3 1 vb' L.length (cellsI L)) : Fq w P wv fv rv gq W' u a b c va vb' vc L1 L [] := by
  have k := h.over hb
  exact ⟨k.pb, k.z, k.qb, k.r1, own_down ho h.sz, k.r3, (fun p hp => by cases hp), k.ge, k.be⟩
theorem Fq.finO {E : List (Rl × Value)} (h : Fq w P wv fv rv gq W u a b c va vb vc L1 L2 E) (x0 x1 x2 x3 : Value) :
    let W' := (((W.setCell ⟨w.heap.size + 1, 0, none⟩ x0).setCell ⟨w.heap.size + 1, 1, none⟩ x1).setCell ⟨w.heap.size + 1, 2, none⟩ x2).setCell ⟨w.heap.size + 1, 3, none⟩ x3
    W'.ownsRow w.heap.size 27 1 va L1.length (cellsW L1) ∧ W'.ownsRow w.heap.size 3 1 vb L2.length (cellsI L2) ∧ TwS w.heap.size W' vc E ∧ Below w.heap.size w W' := by
  intro W'
  have hb : Below w.heap.size W W' := ((((Below.refl _ W).setCell (p := ⟨w.heap.size + 1, 0, none⟩) (Nat.le_succ _) x0).setCell (p := ⟨w.heap.size + 1, 1, none⟩) (Nat.le_succ _) x1).setCell (p := ⟨w.heap.size + 1, 2, none⟩) (Nat.le_succ _) x2).setCell (p := ⟨w.heap.size + 1, 3, none⟩) (Nat.le_succ _) x3
  have s4 : ∀ {e sz : Nat} {v : Value} {n : Nat} {xs : List Value}, W.ownsRow (w.heap.size + 2) e sz v n xs → W'.ownsRow w.heap.size e sz v n xs := fun h => own_down (own_set (own_set (own_set (own_set h (by omega) x0) (by omega) x1) (by omega) x2) (by omega) x3) (by omega)
  exact ⟨s4 h.r1, s4 h.r2, ⟨s4 h.r3.row, fun p hp => s4 (h.r3.inner p hp)⟩, h.be.trans hb⟩
end
/-- What it answers: rows of its own. -/
def TwD (w : World) (P : Pb) (e : Ending) (w' : World) : Prop :=
  ∃ oa na ca ob nb cb oc nc cc E, e = .returned (.agg #[.int .i64 P.users, .slice oa na ca, .slice ob nb cb, .slice oc nc cc]) ∧ Hid (w'.ownsRow w.heap.size 27 1 (.slice oa na ca) P.who.length (cellsW P.who) ∧ w'.ownsRow w.heap.size 3 1 (.slice ob nb cb) P.fixed.length (cellsI P.fixed) ∧ TwS w.heap.size w' (.slice oc nc cc) E ∧ E.map Prod.fst = P.rules ∧ ∀ p ∈ E, ∀ g, (Value.slice ob nb cb).ownBlock = some g → p.2.ownBlock ≠ some g) ∧ Hid (Below w.heap.size w w')
set_option maxRecDepth 100000 in
set_option maxHeartbeats 8000000 in
theorem twinD (P : Pb) (wv fv rv : Value) (w : World) (h : PbV w P wv fv rv) (hk : Pok P) :
    Calls Tryz.prog 23 #[pbV P wv fv rv] w (TwD w P) := by
  have hS0 := hide' (Fp.start h)
  have h' := hide' h
  have hk' := hide' hk
  have hs := h.shape
  obtain ⟨ow, cw, of, cf, or, cr, rfl, rfl, rfl⟩ := hs
  have hrl : P.rules.length ≤ 1000 := hk.r
  unfold pbV
  clear h hk
  go_enter Tryz.func23, Tryz.ntmps23
  go_upto_region 1 with fail
  generalize (w.alloc (.cells #[.int .i64 P.users, .slice ow P.who.length cw, .slice of P.fixed.length cf, .slice or P.rules.length cr] 26)).alloc (.cells #[.int .i64 0, .slice none 0 0, .slice none 0 0, .slice none 0 0] 26) = w1 at *
  have q0 := hS0.out.pb.c0
  have hQ0 := hide' (hS0.out.close P.users (.slice none 0 0) (.slice none 0 0))
  go_upto_region 2 with fail
  clear q0 hS0
  generalize w1.alloc (.cells #[.int .i64 P.users, .slice none 0 0, .slice none 0 0, .slice none 0 0] 26) = w2 at *
  generalize w1.heap.size = gq at *
  have c1 := hQ0.out.qb.c1
  have p1 := hQ0.out.pb.c1
  have hw2 := hide' (h'.out.who.below hQ0.out.be (Nat.le_refl _))
  go_upto_region 3 with (at_builtin; refine all_words rfl (.tmp 10) (.tmp 12) w2 (.slice ow P.who.length cw) P.who rfl rfl rfl hw2.out hk'.out.w ?_; intro oa na ca w3 hO3 hb3; have hQ3 := hide' (hQ0.out.newW hb3.out hO3.out); have f3 := hQ3.out.qb.frz 1; have d3 := hQ3.out.qb.c1)
  have hQ4 := hide' (hQ3.out.put (hQ3.out.qb.s1 (.slice oa na ca)))
  clear c1 p1 hQ0 hQ3 f3 d3 hO3 hb3 hw2
  generalize w3.setCell ⟨gq, 1, none⟩ (.slice oa na ca) = w4 at *
  have c2 := hQ4.out.qb.c2
  have p2 := hQ4.out.pb.c2
  have hf4 := hide' (h'.out.fixed.below hQ4.out.be (Nat.le_refl _))
  go_upto_region 4 with (at_builtin; refine all_ints rfl (.tmp 16) (.tmp 18) w4 (.slice of P.fixed.length cf) P.fixed rfl rfl rfl hf4.out hk'.out.f ?_; intro ob nb cb w5 hO5 hb5; have hQ5 := hide' (hQ4.out.newF hb5.out hO5.out); have f5 := hQ5.out.qb.frz 2; have d5 := hQ5.out.qb.c2)
  have hQ6 := hide' (hQ5.out.put (hQ5.out.qb.s2 (.slice ob nb cb)))
  clear c2 p2 hQ4 hQ5 f5 d5 hO5 hb5 hf4
  generalize w5.setCell ⟨gq, 2, none⟩ (.slice ob nb cb) = w6 at *
  go_upto_block 0 with fail
  go_cut [4, 5] from 21 to 54 (fun _ _ wx => ∃ oc nc cc E, Hid (E.map Prod.fst = P.rules) ∧ Hid (Fq w P (.slice ow P.who.length cw) (.slice of P.fixed.length cf) (.slice or P.rules.length cr) gq wx P.users (.slice oa na ca) (.slice ob nb cb) (.slice oc nc cc) (.slice oa na ca) (.slice ob nb cb) (.slice oc nc cc) P.who P.fixed E))
  case first =>
    as_aux_lemma =>
    go_wp2
    go_loopw [4, 5] (fun kv _ wr => ∃ (j : Nat) (oc : Option Addr) (nc cc : Nat) (E : List (Rl × Value)), j ≤ P.rules.length ∧ kv = .int .i64 (j : Int) ∧ Hid (E.map Prod.fst = P.rules.take j) ∧ Hid (Fq w P (.slice ow P.who.length cw) (.slice of P.fixed.length cf) (.slice or P.rules.length cr) gq wr P.users (.slice oa na ca) (.slice ob nb cb) (.slice oc nc cc) (.slice oa na ca) (.slice ob nb cb) (.slice oc nc cc) P.who P.fixed E)) (fun kv _ _ => ((P.rules.length : Int) - intOf kv).toNat)
    case atStart => exact ⟨0, none, 0, 0, [], Nat.zero_le _, rfl, rfl, hQ6⟩
    case round =>
      clear hQ6
      obtain ⟨j, oc, nc, cc, E, hj, rfl, hE, hQ⟩ := hrel
      have p3 := hQ.out.pb.c3
      by_cases hlt : j < P.rules.length
      · as_aux_lemma =>
        have hlt' : (j : Int) < (P.rules.length : Int) := by omega
        obtain ⟨r, hr⟩ : ∃ r, P.rules[j]? = some r := ⟨_, List.getElem?_eq_getElem hlt⟩
        obtain ⟨oa3, ca3, e3, _, hcr⟩ := h'.out.rules
        obtain ⟨g, o, sv, r3, d1, d2, d3, d4⟩ := hcr j r hr
        injection e3 with e3a e3b e3c
        subst e3a
        subst r3
        have a3 := M.cell_over d3 hQ.out.be
        have hst := hk'.out.s r (List.mem_of_getElem? hr)
        have d4' := hide' (d4.below hQ.out.be (Nat.le_refl _))
        have hE2 : Hid (E.map Prod.fst ++ [r] = P.rules.take (j + 1)) := by unfold Hid; rw [hE.out, List.take_add_one, hr]; rfl
        have hEl : Hid (E.length ≤ 1000000) := by
          have := congrArg List.length hE.out
          rw [List.length_map, List.length_take] at this
          show E.length ≤ 1000000
          omega
        have hS : Hid (∀ V, Below w.heap.size w V → V.cell? ⟨g, o + j * 3, none⟩ = some (.int .i64 r.kind) ∧ V.cell? ⟨g, o + j * 3 + 1, none⟩ = some (.int .i64 r.k)) := fun V hV => ⟨M.cell_over d1 hV, M.cell_over d2 hV⟩
        clear d1 d2 d3 hr hcr d4 e3b e3c
        go_upto_region 9 with (at_builtin; refine all_ints rfl (.tmp 28) (.tmp 34) wr sv r.steps rfl rfl rfl d4'.out hst ?_; intro o7 n7 c7 w7 hO7 hb7)
        have hQ7 := hide' (hQ.out.over hb7.out)
        have hp7 : Hid (w7.ownsRow (w.heap.size + 2) 3 1 (.slice o7 n7 c7) r.steps.length (cellsI r.steps)) := own_down hO7.out hQ.out.sz
        have hn2 : Hid (∀ gg, (Value.slice ob nb cb).ownBlock = some gg → (Value.slice o7 n7 c7).ownBlock ≠ some gg) := fun gg h1 h2 => by
          have q1 := own_lt' hQ.out.r2 h1
          have q2 := own_ge' hO7.out h2
          omega
        clear hO7 hb7 hQ a3 p3 d4'
        have hKS : Hid (∀ V vc0 vc1 E0, Fq w P (.slice ow P.who.length cw) (.slice of P.fixed.length cf) (.slice (some ⟨g, o, none⟩) P.rules.length cr) gq V P.users (.slice oa na ca) (.slice ob nb cb) vc0 (.slice oa na ca) (.slice ob nb cb) vc1 P.who P.fixed E0 → V.cell? ⟨w.heap.size, 3, none⟩ = some (.slice (some ⟨g, o, none⟩) P.rules.length cr) ∧ V.cell? ⟨g, o + j * 3, none⟩ = some (.int .i64 r.kind) ∧ V.cell? ⟨g, o + j * 3 + 1, none⟩ = some (.int .i64 r.k)) := fun V _ _ _ hV => ⟨hV.pb.c3, hS.out V hV.be⟩
        have hQd := hide' (hQ7.out.over (Below.refl _ w7).drew)
        have hpd : Hid (w7.drew.ownsRow (w.heap.size + 2) 3 1 (.slice o7 n7 c7) r.steps.length (cellsI r.steps)) := own_below hp7.out (Below.refl _ w7).drew (Nat.le_refl _)
        have c3d := hQd.out.qb.c3
        have c3e := (hQd.out.over ((Below.refl _ w7.drew).alloc (Nat.le_refl _) (.cells #[.int .i64 r.kind, .int .i64 r.k, .slice o7 n7 c7] 46))).qb.c3
        have c3f : (w7.alloc (.cells #[.int .i64 r.kind, .int .i64 r.k, .slice o7 n7 c7] 46)).drew.cell? ⟨gq, 3, none⟩ = some (.slice oc nc cc) := c3e
        clear hS hp7 hQ7
        refine wp_region_held_drew (S := (fun V => V.cell? ⟨w.heap.size, 3, none⟩ = some (.slice (some ⟨g, o, none⟩) P.rules.length cr) ∧ V.cell? ⟨g, o + j * 3, none⟩ = some (.int .i64 r.kind) ∧ V.cell? ⟨g, o + j * 3 + 1, none⟩ = some (.int .i64 r.k))) (by kernel_rfl) ?_ (fun hHeld => ?_)
        · exact hKS.out _ _ _ _ hQd.out
        refine wpAnyH_take (i := 0) (oi := { dst := some 36, op := Op.fieldAddr 26 (Operand.tmp 3) 3, type := 0, pos := "ref.go:154", after := #[], guard := none }) (v := ?_) rfl (by kernel_rfl) (by kernel_rfl) (by kernel_rfl) (fun _ _ _ h => h) (Or.inl ⟨by rfl, ?_⟩) (by assumption) ?_
        rotate_left
        · intro w hSw; (try dsimp only at hSw); go_simp <;> with_reducible rfl
        simp only [Act.put, List.setIfInBounds_toArray, List.set_cons_zero, List.set_cons_succ]
        refine wpAnyH_take (i := 2) (oi := { dst := some 38, op := Op.fieldAddr 26 (Operand.tmp 1) 3, type := 0, pos := "ref.go:154", after := #[], guard := none }) (v := ?_) rfl (by kernel_rfl) (by kernel_rfl) (by kernel_rfl) (fun _ _ _ h => h) (Or.inl ⟨by rfl, ?_⟩) (by assumption) ?_
        rotate_left
        · intro w hSw; (try dsimp only at hSw); go_simp <;> with_reducible rfl
        simp only [Act.put, List.setIfInBounds_toArray, List.set_cons_zero, List.set_cons_succ]
        refine wpAnyH_take (i := 3) (oi := { dst := some 39, op := Op.load 24 (Operand.tmp 38), type := 24, pos := "ref.go:154", after := #[{ on := 2, ground := Ground.data }], guard := none }) (v := ?_) rfl (by kernel_rfl) (by kernel_rfl) (by kernel_rfl) (fun _ _ _ h => h) (Or.inl ⟨by rfl, ?_⟩) (by assumption) ?_
        rotate_left
        · intro w hSw; (try dsimp only at hSw); go_simp <;> with_reducible rfl
        simp only [Act.put, List.setIfInBounds_toArray, List.set_cons_zero, List.set_cons_succ]
        refine wpAnyH_take (i := 4) (oi := { dst := some 40, op := Op.move (Operand.tmp 4), type := 3, pos := "ref.go:154", after := #[], guard := none }) (v := ?_) rfl (by kernel_rfl) (by kernel_rfl) (by kernel_rfl) (fun _ _ _ h => h) (Or.inl ⟨by rfl, ?_⟩) (by assumption) ?_
        rotate_left
        · intro w hSw; (try dsimp only at hSw); go_simp <;> with_reducible rfl
        simp only [Act.put, List.setIfInBounds_toArray, List.set_cons_zero, List.set_cons_succ]
        refine wpAnyH_take (i := 5) (oi := { dst := some 41, op := Op.indexAddr 24 (Operand.tmp 39) (Operand.tmp 40), type := 0, pos := "ref.go:154", after := #[{ on := 3, ground := Ground.data }, { on := 4, ground := Ground.data }], guard := none }) (v := ?_) rfl (by kernel_rfl) (by kernel_rfl) (by kernel_rfl) (fun _ _ _ h => h) (Or.inl ⟨by rfl, ?_⟩) (by assumption) ?_
        rotate_left
        · intro w hSw; (try dsimp only at hSw); go_simp <;> with_reducible rfl
        simp only [Act.put, List.setIfInBounds_toArray, List.set_cons_zero, List.set_cons_succ]
        refine wpAnyH_take (i := 6) (oi := { dst := some 42, op := Op.fieldAddr 46 (Operand.tmp 41) 0, type := 0, pos := "ref.go:154", after := #[{ on := 5, ground := Ground.data }], guard := none }) (v := ?_) rfl (by kernel_rfl) (by kernel_rfl) (by kernel_rfl) (fun _ _ _ h => h) (Or.inl ⟨by rfl, ?_⟩) (by assumption) ?_
        rotate_left
        · intro w hSw; (try dsimp only at hSw); go_simp <;> with_reducible rfl
        simp only [Act.put, List.setIfInBounds_toArray, List.set_cons_zero, List.set_cons_succ]
        refine wpAnyH_take (i := 7) (oi := { dst := some 43, op := Op.load 3 (Operand.tmp 42), type := 3, pos := "ref.go:154", after := #[{ on := 6, ground := Ground.data }], guard := none }) (v := ?_) rfl (by kernel_rfl) (by kernel_rfl) (by kernel_rfl) (fun _ _ _ h => h) (Or.inl ⟨by rfl, ?_⟩) (by assumption) ?_
        rotate_left
        · intro w hSw; (try dsimp only at hSw); go_simp <;> with_reducible rfl
        simp only [Act.put, List.setIfInBounds_toArray, List.set_cons_zero, List.set_cons_succ]
        refine wpAnyH_take (i := 8) (oi := { dst := some 44, op := Op.fieldAddr 26 (Operand.tmp 1) 3, type := 0, pos := "ref.go:154", after := #[], guard := none }) (v := ?_) rfl (by kernel_rfl) (by kernel_rfl) (by kernel_rfl) (fun _ _ _ h => h) (Or.inl ⟨by rfl, ?_⟩) (by assumption) ?_
        rotate_left
        · intro w hSw; (try dsimp only at hSw); go_simp <;> with_reducible rfl
        simp only [Act.put, List.setIfInBounds_toArray, List.set_cons_zero, List.set_cons_succ]
        refine wpAnyH_take (i := 9) (oi := { dst := some 45, op := Op.load 24 (Operand.tmp 44), type := 24, pos := "ref.go:154", after := #[{ on := 8, ground := Ground.data }], guard := none }) (v := ?_) rfl (by kernel_rfl) (by kernel_rfl) (by kernel_rfl) (fun _ _ _ h => h) (Or.inl ⟨by rfl, ?_⟩) (by assumption) ?_
        rotate_left
        · intro w hSw; (try dsimp only at hSw); go_simp <;> with_reducible rfl
        simp only [Act.put, List.setIfInBounds_toArray, List.set_cons_zero, List.set_cons_succ]
        refine wpAnyH_take (i := 10) (oi := { dst := some 46, op := Op.move (Operand.tmp 4), type := 3, pos := "ref.go:154", after := #[], guard := none }) (v := ?_) rfl (by kernel_rfl) (by kernel_rfl) (by kernel_rfl) (fun _ _ _ h => h) (Or.inl ⟨by rfl, ?_⟩) (by assumption) ?_
        rotate_left
        · intro w hSw; (try dsimp only at hSw); go_simp <;> with_reducible rfl
        simp only [Act.put, List.setIfInBounds_toArray, List.set_cons_zero, List.set_cons_succ]
        refine wpAnyH_take (i := 11) (oi := { dst := some 47, op := Op.indexAddr 24 (Operand.tmp 45) (Operand.tmp 46), type := 0, pos := "ref.go:154", after := #[{ on := 9, ground := Ground.data }, { on := 10, ground := Ground.data }], guard := none }) (v := ?_) rfl (by kernel_rfl) (by kernel_rfl) (by kernel_rfl) (fun _ _ _ h => h) (Or.inl ⟨by rfl, ?_⟩) (by assumption) ?_
        rotate_left
        · intro w hSw; (try dsimp only at hSw); go_simp <;> with_reducible rfl
        simp only [Act.put, List.setIfInBounds_toArray, List.set_cons_zero, List.set_cons_succ]
        refine wpAnyH_take (i := 12) (oi := { dst := some 48, op := Op.fieldAddr 46 (Operand.tmp 47) 1, type := 0, pos := "ref.go:154", after := #[{ on := 11, ground := Ground.data }], guard := none }) (v := ?_) rfl (by kernel_rfl) (by kernel_rfl) (by kernel_rfl) (fun _ _ _ h => h) (Or.inl ⟨by rfl, ?_⟩) (by assumption) ?_
        rotate_left
        · intro w hSw; (try dsimp only at hSw); go_simp <;> with_reducible rfl
        simp only [Act.put, List.setIfInBounds_toArray, List.set_cons_zero, List.set_cons_succ]
        refine wpAnyH_take (i := 13) (oi := { dst := some 49, op := Op.load 3 (Operand.tmp 48), type := 3, pos := "ref.go:154", after := #[{ on := 12, ground := Ground.data }], guard := none }) (v := ?_) rfl (by kernel_rfl) (by kernel_rfl) (by kernel_rfl) (fun _ _ _ h => h) (Or.inl ⟨by rfl, ?_⟩) (by assumption) ?_
        rotate_left
        · intro w hSw; (try dsimp only at hSw); go_simp <;> with_reducible rfl
        simp only [Act.put, List.setIfInBounds_toArray, List.set_cons_zero, List.set_cons_succ]
        refine wpAnyH_take (i := 14) (oi := { dst := some 50, op := Op.move (Operand.tmp 5), type := 23, pos := "ref.go:154", after := #[], guard := none }) (v := ?_) rfl (by kernel_rfl) (by kernel_rfl) (by kernel_rfl) (fun _ _ _ h => h) (Or.inl ⟨by rfl, ?_⟩) (by assumption) ?_
        rotate_left
        · intro w hSw; (try dsimp only at hSw); go_simp <;> with_reducible rfl
        simp only [Act.put, List.setIfInBounds_toArray, List.set_cons_zero, List.set_cons_succ]
        refine wpAnyH_take (i := 15) (oi := { dst := some 51, op := Op.build 46 #[(0, Operand.tmp 43), (1, Operand.tmp 49), (2, Operand.tmp 50)], type := 46, pos := "ref.go:154", after := #[{ on := 7, ground := Ground.data }, { on := 13, ground := Ground.data }, { on := 14, ground := Ground.data }], guard := none }) (v := ?_) rfl (by kernel_rfl) (by kernel_rfl) (by kernel_rfl) (fun _ _ _ h => h) (Or.inl ⟨by rfl, ?_⟩) (by assumption) ?_
        rotate_left
        · intro w hSw; (try dsimp only at hSw); go_simp <;> with_reducible rfl
        simp only [Act.put, List.setIfInBounds_toArray, List.set_cons_zero, List.set_cons_succ]
        refine wpAnyH_ready (rs := [1, 16]) (by kernel_rfl) (by simp) ?_
        refine AllReadyH.cons (o := { dst := some 37, op := Op.load 24 (Operand.tmp 36), type := 24, pos := "ref.go:154", after := #[{ on := 0, ground := Ground.data }], guard := none }) rfl (fun K hK => ?_) ?_
        · skip
          go_simp
          refine hK.out _ _ ?_ (fun hHeld => ?_)
          · exact hKS.out _ _ _ _ hQd.out
          clear hK K
          try simp only [Act.put, List.setIfInBounds_toArray, List.set_cons_zero, List.set_cons_succ]
          refine wpAnyH_ready (rs := [16]) (by kernel_rfl) (by simp) ?_
          refine AllReadyH.cons (o := { dst := some 52, op := Op.buildSlice 24 1 #[(0, Operand.tmp 51)], type := 24, pos := "ref.go:154", after := #[{ on := 15, ground := Ground.data }], guard := none }) rfl (fun K hK => ?_) AllReadyH.nil
          go_simp
          refine hK.out _ _ ?_ (fun hHeld => ?_)
          · exact hKS.out _ _ _ _ (hQd.out.over ((Below.refl _ w7.drew).alloc (Nat.le_refl _) _))
          clear hK K
          try simp only [Act.put, List.setIfInBounds_toArray, List.set_cons_zero, List.set_cons_succ]
          refine wpAnyH_ready (rs := [17]) (by kernel_rfl) (by simp) ?_
          refine AllReadyH.cons (o := { dst := some 53, op := Op.call { callee := Callee.builtin Builtin.append, args := #[Operand.tmp 37, Operand.tmp 52], argTypes := #[24, 24] }, type := 24, pos := "ref.go:154", after := #[{ on := 1, ground := Ground.data }, { on := 16, ground := Ground.data }], guard := none }) rfl (fun K hK => ?_) AllReadyH.nil
          rw [if_pos (by rfl)]
          refine Fq.wapp3 (.tmp 37) (.tmp 52) hQd.out (r, .slice o7 n7 c7) hpd.out hn2.out rfl rfl rfl hEl.out ?_; intro oD nD cD wD hD; have hD' := hide' hD; have fD := hD.qb.frz 3; have dD := hD.qb.c3; clear hD; (try dsimp only)
          refine hK.out _ _ ?_ (fun hHeld => ?_)
          · exact hKS.out _ _ _ _ hD'.out
          clear hK K
          try simp only [Act.put, List.setIfInBounds_toArray, List.set_cons_zero, List.set_cons_succ]
          refine wpAnyH_take (i := 18) (oi := { dst := some 54, op := Op.fieldAddr 26 (Operand.tmp 3) 3, type := 0, pos := "ref.go:154", after := #[{ on := 0, ground := Ground.phase }, { on := 1, ground := Ground.phase }, { on := 2, ground := Ground.phase }, { on := 3, ground := Ground.phase }, { on := 4, ground := Ground.phase }, { on := 5, ground := Ground.phase }, { on := 6, ground := Ground.phase }, { on := 7, ground := Ground.phase }, { on := 8, ground := Ground.phase }, { on := 9, ground := Ground.phase }, { on := 10, ground := Ground.phase }, { on := 11, ground := Ground.phase }, { on := 12, ground := Ground.phase }, { on := 13, ground := Ground.phase }, { on := 14, ground := Ground.phase }, { on := 15, ground := Ground.phase }, { on := 16, ground := Ground.phase }, { on := 17, ground := Ground.phase }], guard := none }) (v := ?_) rfl (by kernel_rfl) (by kernel_rfl) (by kernel_rfl) (fun _ _ _ h => h) (Or.inl ⟨by rfl, ?_⟩) (by assumption) ?_
          rotate_left
          · intro w hSw; (try dsimp only at hSw); go_simp <;> with_reducible rfl
          simp only [Act.put, List.setIfInBounds_toArray, List.set_cons_zero, List.set_cons_succ]
          refine wpAnyH_ready (rs := [19]) (by kernel_rfl) (by simp) ?_
          refine AllReadyH.cons (o := { dst := none, op := Op.store 24 (Operand.tmp 54) (Operand.tmp 53), type := 0, pos := "ref.go:154", after := #[{ on := 18, ground := Ground.data }, { on := 17, ground := Ground.data }, { on := 17, ground := Ground.chain }, { on := 0, ground := Ground.phase }, { on := 1, ground := Ground.phase }, { on := 2, ground := Ground.phase }, { on := 3, ground := Ground.phase }, { on := 4, ground := Ground.phase }, { on := 5, ground := Ground.phase }, { on := 6, ground := Ground.phase }, { on := 7, ground := Ground.phase }, { on := 8, ground := Ground.phase }, { on := 9, ground := Ground.phase }, { on := 10, ground := Ground.phase }, { on := 11, ground := Ground.phase }, { on := 12, ground := Ground.phase }, { on := 13, ground := Ground.phase }, { on := 14, ground := Ground.phase }, { on := 15, ground := Ground.phase }, { on := 16, ground := Ground.phase }, { on := 17, ground := Ground.phase }], guard := none }) rfl (fun K hK => ?_) AllReadyH.nil
          go_simp
          refine hK.out _ _ ?_ (fun hHeld => ?_)
          · exact hKS.out _ _ _ _ (hD'.out.put (hD'.out.qb.s3 (.slice oD nD cD)))
          clear hK K
          try simp only [Act.put, List.setIfInBounds_toArray, List.set_cons_zero, List.set_cons_succ]
          refine wpAnyH_done (by kernel_rfl) ?_ _
          skip
          have hE9 := hide' (hD'.out.put (hD'.out.qb.s3 (.slice oD nD cD)))
          clear hD' fD dD c3d c3e c3f hQd hpd hKS
          go_wp2
          exact ⟨⟨j + 1, oD, nD, cD, _, by omega, by go_num, by rw [List.map_append]; exact hE2, hE9⟩, by simp [intOf]; omega⟩
        refine AllReadyH.cons (o := { dst := some 52, op := Op.buildSlice 24 1 #[(0, Operand.tmp 51)], type := 24, pos := "ref.go:154", after := #[{ on := 15, ground := Ground.data }], guard := none }) rfl (fun K hK => ?_) AllReadyH.nil
        go_simp
        refine hK.out _ _ ?_ (fun hHeld => ?_)
        · exact hKS.out _ _ _ _ (hQd.out.over ((Below.refl _ w7.drew).alloc (Nat.le_refl _) _))
        clear hK K
        try simp only [Act.put, List.setIfInBounds_toArray, List.set_cons_zero, List.set_cons_succ]
        refine wpAnyH_ready (rs := [1]) (by kernel_rfl) (by simp) ?_
        refine AllReadyH.cons (o := { dst := some 37, op := Op.load 24 (Operand.tmp 36), type := 24, pos := "ref.go:154", after := #[{ on := 0, ground := Ground.data }], guard := none }) rfl (fun K hK => ?_) AllReadyH.nil
        go_simp
        refine hK.out _ _ ?_ (fun hHeld => ?_)
        · exact hKS.out _ _ _ _ (hQd.out.over ((Below.refl _ w7.drew).alloc (Nat.le_refl _) _))
        clear hK K
        try simp only [Act.put, List.setIfInBounds_toArray, List.set_cons_zero, List.set_cons_succ]
        refine wpAnyH_ready (rs := [17]) (by kernel_rfl) (by simp) ?_
        refine AllReadyH.cons (o := { dst := some 53, op := Op.call { callee := Callee.builtin Builtin.append, args := #[Operand.tmp 37, Operand.tmp 52], argTypes := #[24, 24] }, type := 24, pos := "ref.go:154", after := #[{ on := 1, ground := Ground.data }, { on := 16, ground := Ground.data }], guard := none }) rfl (fun K hK => ?_) AllReadyH.nil
        rw [if_pos (by rfl)]
        refine Fq.wapp3 (.tmp 37) (.tmp 52) hQd.out (r, .slice o7 n7 c7) hpd.out hn2.out rfl rfl rfl hEl.out ?_; intro oD nD cD wD hD; have hD' := hide' hD; have fD := hD.qb.frz 3; have dD := hD.qb.c3; clear hD; (try dsimp only)
        refine hK.out _ _ ?_ (fun hHeld => ?_)
        · exact hKS.out _ _ _ _ hD'.out
        clear hK K
        try simp only [Act.put, List.setIfInBounds_toArray, List.set_cons_zero, List.set_cons_succ]
        refine wpAnyH_take (i := 18) (oi := { dst := some 54, op := Op.fieldAddr 26 (Operand.tmp 3) 3, type := 0, pos := "ref.go:154", after := #[{ on := 0, ground := Ground.phase }, { on := 1, ground := Ground.phase }, { on := 2, ground := Ground.phase }, { on := 3, ground := Ground.phase }, { on := 4, ground := Ground.phase }, { on := 5, ground := Ground.phase }, { on := 6, ground := Ground.phase }, { on := 7, ground := Ground.phase }, { on := 8, ground := Ground.phase }, { on := 9, ground := Ground.phase }, { on := 10, ground := Ground.phase }, { on := 11, ground := Ground.phase }, { on := 12, ground := Ground.phase }, { on := 13, ground := Ground.phase }, { on := 14, ground := Ground.phase }, { on := 15, ground := Ground.phase }, { on := 16, ground := Ground.phase }, { on := 17, ground := Ground.phase }], guard := none }) (v := ?_) rfl (by kernel_rfl) (by kernel_rfl) (by kernel_rfl) (fun _ _ _ h => h) (Or.inl ⟨by rfl, ?_⟩) (by assumption) ?_
        rotate_left
        · intro w hSw; (try dsimp only at hSw); go_simp <;> with_reducible rfl
        simp only [Act.put, List.setIfInBounds_toArray, List.set_cons_zero, List.set_cons_succ]
        refine wpAnyH_ready (rs := [19]) (by kernel_rfl) (by simp) ?_
        refine AllReadyH.cons (o := { dst := none, op := Op.store 24 (Operand.tmp 54) (Operand.tmp 53), type := 0, pos := "ref.go:154", after := #[{ on := 18, ground := Ground.data }, { on := 17, ground := Ground.data }, { on := 17, ground := Ground.chain }, { on := 0, ground := Ground.phase }, { on := 1, ground := Ground.phase }, { on := 2, ground := Ground.phase }, { on := 3, ground := Ground.phase }, { on := 4, ground := Ground.phase }, { on := 5, ground := Ground.phase }, { on := 6, ground := Ground.phase }, { on := 7, ground := Ground.phase }, { on := 8, ground := Ground.phase }, { on := 9, ground := Ground.phase }, { on := 10, ground := Ground.phase }, { on := 11, ground := Ground.phase }, { on := 12, ground := Ground.phase }, { on := 13, ground := Ground.phase }, { on := 14, ground := Ground.phase }, { on := 15, ground := Ground.phase }, { on := 16, ground := Ground.phase }, { on := 17, ground := Ground.phase }], guard := none }) rfl (fun K hK => ?_) AllReadyH.nil
        go_simp
        refine hK.out _ _ ?_ (fun hHeld => ?_)
        · exact hKS.out _ _ _ _ (hD'.out.put (hD'.out.qb.s3 (.slice oD nD cD)))
        clear hK K
        try simp only [Act.put, List.setIfInBounds_toArray, List.set_cons_zero, List.set_cons_succ]
        refine wpAnyH_done (by kernel_rfl) ?_ _
        skip
        have hE9 := hide' (hD'.out.put (hD'.out.qb.s3 (.slice oD nD cD)))
        clear hD' fD dD c3d c3e c3f hQd hpd hKS
        go_wp2
        exact ⟨⟨j + 1, oD, nD, cD, _, by omega, by go_num, by rw [List.map_append]; exact hE2, hE9⟩, by simp [intOf]; omega⟩
      · as_aux_lemma =>
        obtain rfl : j = P.rules.length := by omega
        rw [List.take_length] at hE
        go_wp2
        go_meet
        exact ⟨oc, nc, cc, E, hE, hQ⟩
  case rest =>
  clear hQ6
  obtain ⟨oc, nc, cc, E, hE, hQ⟩ := hcut
  have p0 := hQ.out.qb.c0
  have p1 := hQ.out.qb.c1
  have p2 := hQ.out.qb.c2
  have p3 := hQ.out.qb.c3
  have f0 := hQ.out.z.frz 0
  have y0 := hQ.out.z.c0
  have f1 := (hQ.out.z.s0C P.users).frz 1
  have y1 := (hQ.out.z.s0C P.users).c1
  have f2 := ((hQ.out.z.s0C P.users).s1 (.slice oa na ca)).frz 2
  have y2 := ((hQ.out.z.s0C P.users).s1 (.slice oa na ca)).c2
  have f3 := (((hQ.out.z.s0C P.users).s1 (.slice oa na ca)).s2 (.slice ob nb cb)).frz 3
  have y3 := (((hQ.out.z.s0C P.users).s1 (.slice oa na ca)).s2 (.slice ob nb cb)).c3
  have x0 := ((((hQ.out.z.s0C P.users).s1 (.slice oa na ca)).s2 (.slice ob nb cb)).s3 (.slice oc nc cc)).c0
  have x1 := ((((hQ.out.z.s0C P.users).s1 (.slice oa na ca)).s2 (.slice ob nb cb)).s3 (.slice oc nc cc)).c1
  have x2 := ((((hQ.out.z.s0C P.users).s1 (.slice oa na ca)).s2 (.slice ob nb cb)).s3 (.slice oc nc cc)).c2
  have x3 := ((((hQ.out.z.s0C P.users).s1 (.slice oa na ca)).s2 (.slice ob nb cb)).s3 (.slice oc nc cc)).c3
  have hF := hide' (hQ.out.finO (.int .i64 P.users) (.slice oa na ca) (.slice ob nb cb) (.slice oc nc cc))
  have hdj := hide' hQ.out.dj
  clear hQ h' hk'
  go_wp2
  refine bodyPost_ret (v := .agg #[.int .i64 P.users, .slice oa na ca, .slice ob nb cb, .slice oc nc cc]) (by simp [results, Tryz.results23, go_sem, x0, x1, x2, x3]) rfl ?_
  obtain ⟨k1, k2, k3, k4⟩ := hF.out
  exact ⟨_, _, _, _, _, _, _, _, _, E, rfl, ⟨k1, k2, k3, hE.out, hdj.out⟩, k4⟩
end Go.Proofs.YtmbdnhgmpmnhmaaGreatDoor.S
