/- gate: copyOf: a problem in memory of its own. -/
import Derived.Test.YtnfebegmgeanhaaDoorJ15
import Derived.Test.YtnfebegmgeanhaaDoorJ24
import Derived.Test.YtnfebegmgeanhaaDoorJ29
import Derived.Deep.QuietTactic
import Derived.BigQuiet
import Derived.Deep.CutRange
namespace Go.Proofs.YtnfebegmgeanhaaDoor.S
open Go.RowKit Go.Shelf
theorem heap_atG {W : World} {g : Nat} {cs : Array Value} {T : TypeId} {fz : Nat × Nat} {i : Nat} (v : Value) (h : W.heap[g]? = some (.cells cs T fz)) : (W.setCell ⟨g, i, none⟩ v).heap[g]? = some (.cells (cs.setIfInBounds i v) T fz) := by
  rw [setCell_eq_setRow W g i cs T fz v h]
  exact setRow_heap W g _ _ T fz h
theorem two_fst (w : World) (x y : Obj) : ((w.alloc x).alloc y).heap[w.heap.size]? = some x := by
  show ((w.heap.push x).push y)[w.heap.size]? = some x
  simp [Array.getElem?_push]
theorem two_snd (w : World) (x y : Obj) : ((w.alloc x).alloc y).heap[w.heap.size + 1]? = some y := by
  have h := heap_new (w.alloc x) y
  rw [show (w.alloc x).heap.size = w.heap.size + 1 by show (w.heap.push x).size = _; simp] at h
  exact h
/-- The boxes while the copy is made. -/
structure Cg (w : World) (u : Int) (a b c : Value) (W : World) : Prop where
  bf : W.heap[w.heap.size]? = some (.cells #[.int .i64 u, a, b, c] 26 (0, 0))
  br : W.heap[w.heap.size + 1]? = some (.cells #[.int .i64 0, .slice none 0 0, .slice none 0 0, .slice none 0 0] 26 (0, 0))
  bl : Below w.heap.size w W
section
variable {w W W' : World} {u : Int} {a b c : Value}
theorem Cg.lt (h : Cg w u a b c W) : w.heap.size + 1 < W.heap.size := (Array.getElem?_eq_some_iff.1 h.br).1
theorem Cg.over (h : Cg w u a b c W) (hb : Below W.heap.size W W') : Cg w u a b c W' := by
  have := h.lt
  exact ⟨(hb.block _ (by omega)).trans h.bf, (hb.block _ (by omega)).trans h.br, h.bl.trans (hb.mono h.bl.size)⟩
theorem Cg.c0 (h : Cg w u a b c W) : W.cell? ⟨w.heap.size, 0, none⟩ = some (.int .i64 u) := by simp [World.cell?, h.bf]
theorem Cg.c1 (h : Cg w u a b c W) : W.cell? ⟨w.heap.size, 1, none⟩ = some a := by simp [World.cell?, h.bf]
theorem Cg.c2 (h : Cg w u a b c W) : W.cell? ⟨w.heap.size, 2, none⟩ = some b := by simp [World.cell?, h.bf]
theorem Cg.c3 (h : Cg w u a b c W) : W.cell? ⟨w.heap.size, 3, none⟩ = some c := by simp [World.cell?, h.bf]
theorem Cg.f (h : Cg w u a b c W) (i : Nat) : W.frozen? ⟨w.heap.size, i, none⟩ = false := by simp [World.frozen?, h.bf]
theorem Cg.s1 (h : Cg w u a b c W) (x : Value) : Cg w u x b c (W.setCell ⟨w.heap.size, 1, none⟩ x) :=
  ⟨by simpa using heap_atG (i := 1) x h.bf, (Below.heap_setCell W ⟨w.heap.size, 1, none⟩ x (w.heap.size + 1) (show w.heap.size + 1 ≠ w.heap.size by omega)).trans h.br, h.bl.setCell (p := ⟨w.heap.size, 1, none⟩) (Nat.le_refl _) x⟩
theorem Cg.s2 (h : Cg w u a b c W) (x : Value) : Cg w u a x c (W.setCell ⟨w.heap.size, 2, none⟩ x) :=
  ⟨by simpa using heap_atG (i := 2) x h.bf, (Below.heap_setCell W ⟨w.heap.size, 2, none⟩ x (w.heap.size + 1) (show w.heap.size + 1 ≠ w.heap.size by omega)).trans h.br, h.bl.setCell (p := ⟨w.heap.size, 2, none⟩) (Nat.le_refl _) x⟩
theorem Cg.s3 (h : Cg w u a b c W) (x : Value) : Cg w u a b x (W.setCell ⟨w.heap.size, 3, none⟩ x) :=
  ⟨by simpa using heap_atG (i := 3) x h.bf, (Below.heap_setCell W ⟨w.heap.size, 3, none⟩ x (w.heap.size + 1) (show w.heap.size + 1 ≠ w.heap.size by omega)).trans h.br, h.bl.setCell (p := ⟨w.heap.size, 3, none⟩) (Nat.le_refl _) x⟩
theorem Cg.far (h : Cg w u a b c W) {g i : Nat} (hg : w.heap.size + 2 ≤ g) (x : Value) : Cg w u a b c (W.setCell ⟨g, i, none⟩ x) :=
  ⟨(Below.heap_setCell W ⟨g, i, none⟩ x _ (show w.heap.size ≠ g by omega)).trans h.bf, (Below.heap_setCell W ⟨g, i, none⟩ x _ (show w.heap.size + 1 ≠ g by omega)).trans h.br, h.bl.setCell (p := ⟨g, i, none⟩) (show w.heap.size ≤ g by omega) x⟩
theorem CpRlow {w0 : World} {v : Value} {P : List (Rl × Value)} {k b' i : Nat} (h : CpR w0 (w.heap.size + 2) v P k W) (hb : b' < w.heap.size + 2) (x : Value) : CpR w0 (w.heap.size + 2) v P k (W.setCell ⟨b', i, none⟩ x) := h.kept fun k _ hk => Below.heap_setCell _ _ _ _ (show k ≠ b' by omega)
theorem own_low {B e sz m b' i : Nat} {v : Value} {xs : List Value} (h : W.ownsRow B e sz v m xs) (hb : b' < B) (x : Value) : (W.setCell ⟨b', i, none⟩ x).ownsRow B e sz v m xs := own_same h fun k _ e => Below.heap_setCell _ _ _ _ (show k ≠ b' by have := own_ge' h e; omega)
theorem TwSlow {B : Nat} {v : Value} {P : List (Rl × Value)} {b' i : Nat} (h : TwS B W v P) (hb : b' < B) (x : Value) : TwS B (W.setCell ⟨b', i, none⟩ x) v P :=
  ⟨own_low h.row hb x, fun p hp => own_low (h.inner p hp) hb x⟩
theorem TwSdown {B C : Nat} {v : Value} {P : List (Rl × Value)} (h : TwS B W v P) (hc : C ≤ B) : TwS C W v P := ⟨own_down h.row hc, fun p hp => own_down (h.inner p hp) hc⟩
/-- A row of another kind is left where a rule's cell is written. -/
theorem own_apart {B e m k g n cap i : Nat} {v x : Value} {xs ys : List Value} (h : W.ownsRow B e 1 v m xs) (he : e ≠ 44) (hr : W.ownsRow B 44 k (.slice (some ⟨g, 0, none⟩) n cap) n ys) : (W.setCell ⟨g, i, none⟩ x).ownsRow B e 1 v m xs := own_same h fun j _ ej => Below.heap_setCell _ _ _ _ fun e2 => by
  obtain ⟨c1, f1, h1⟩ := Go.Lib.ownsRow_kind h j ej
  obtain ⟨c2, f2, h2⟩ := Go.Lib.ownsRow_kind hr g rfl
  rw [show j = g from e2, h2] at h1
  injection h1 with h1
  injection h1 with _ h1
  exact he h1.symm
end
/-- What copyOf answers. -/
def CoG (w : World) (P : Pb) (e : Ending) (w' : World) : Prop :=
  ∃ a b c E, e = .returned (pbV P a b c) ∧ E.map Prod.fst = P.rules ∧ w'.ownsRow w.heap.size 42 1 a P.who.length (cellsW P.who) ∧ w'.ownsRow w.heap.size 3 1 b P.fixed.length (cellsI P.fixed) ∧ TwS w.heap.size w' c E ∧ Below w.heap.size w w'
set_option maxRecDepth 100000 in
set_option maxHeartbeats 8000000 in
theorem copyG (P : Pb) (wv fv rv : Value) (w : World) (hv : PbV w P wv fv rv) (hk : Pok P) : Calls Tryd.prog 17 #[pbV P wv fv rv] w (CoG w P) := by
  have hw0 := hide' hv.who
  have hf0 := hide' hv.fixed
  have hr0 := hide' hv.rules
  obtain ⟨oa, ca, rfl, _, _⟩ := hv.who
  obtain ⟨ob, cb, rfl, _, _⟩ := hv.fixed
  obtain ⟨oc, cc, rfl, _, _⟩ := hv.rules
  have KW : Hid (∀ V, Below w.heap.size w V → Calls Tryd.prog 27 #[.slice oa P.who.length ca] V fun e w' => ∃ v', e = .returned v' ∧ w'.ownsRow V.heap.size 42 1 v' P.who.length (cellsW P.who) ∧ Below V.heap.size V w') := fun V hV => cloneW P.who _ V (hw0.out.below hV (Nat.le_refl _)) hk.w
  have KF : Hid (∀ V, Below w.heap.size w V → Calls Tryd.prog 18 #[.slice ob P.fixed.length cb] V fun e w' => ∃ v', e = .returned v' ∧ w'.ownsRow V.heap.size 3 1 v' P.fixed.length (cellsI P.fixed) ∧ Below V.heap.size V w') := fun V hV => clone P.fixed _ V (hf0.out.below hV (Nat.le_refl _)) hk.f
  have KR : Hid (∀ V, Below w.heap.size w V → Calls Tryd.prog 28 #[.slice oc P.rules.length cc] V (ClRl w V P.rules)) := fun V hV => cloneRl P.rules _ w V hr0.out hV hk.r
  have KI : Hid (∀ V u l, RowI w u l → l.length ≤ 1000 → Below w.heap.size w V → Calls Tryd.prog 18 #[u] V fun e w' => ∃ v', e = .returned v' ∧ w'.ownsRow V.heap.size 3 1 v' l.length (cellsI l) ∧ Below V.heap.size V w') := fun V u l hu hl hV => clone l u V (hu.below hV (Nat.le_refl _)) hl
  have hA2 : Hid (∀ r ∈ P.rules, r.steps.length ≤ 1000) := hk.s
  have hL3 := hk.r
  have hL2 := hk.f
  have hL1 := hk.w
  have hFin : Hid (∀ a b c E W, E.map Prod.fst = P.rules → W.ownsRow w.heap.size 42 1 a P.who.length (cellsW P.who) → W.ownsRow w.heap.size 3 1 b P.fixed.length (cellsI P.fixed) → TwS w.heap.size W c E → Below w.heap.size w W → CoG w P (.returned (.agg #[.int .i64 P.users, a, b, c])) W) := fun a b c E W h1 h2 h3 h4 h5 => ⟨a, b, c, E, rfl, h1, h2, h3, h4, h5⟩
  clear hv hw0 hf0 hr0 hk
  unfold pbV
  generalize CoG w P = QQ at *
  generalize P.users = us at *
  generalize P.who = WL at *
  generalize P.fixed = FL at *
  generalize P.rules = RL at *
  have q1 : Hid (Cg w us (.slice oa WL.length ca) (.slice ob FL.length cb) (.slice oc RL.length cc) ((w.alloc (.cells #[.int .i64 us, .slice oa WL.length ca, .slice ob FL.length cb, .slice oc RL.length cc] 26)).alloc (.cells #[.int .i64 0, .slice none 0 0, .slice none 0 0, .slice none 0 0] 26))) := ⟨two_fst w _ _, two_snd w _ _, ((Below.refl _ w).alloc (Nat.le_refl _) _).alloc (by simp) _⟩
  go_enter Tryd.func17, Tryd.ntmps17
  go_upto_region 1 with fail
  generalize (w.alloc (.cells #[.int .i64 us, .slice oa WL.length ca, .slice ob FL.length cb, .slice oc RL.length cc] 26)).alloc (.cells #[.int .i64 0, .slice none 0 0, .slice none 0 0, .slice none 0 0] 26) = W1 at *
  go_cut [] from 4 to 15 (fun wx => ∃ o1 c1 o2 c2 o3 c3 E, Hid (E.map Prod.fst = RL) ∧ Hid (Cg w us (.slice o1 WL.length c1) (.slice o2 FL.length c2) (.slice o3 RL.length c3) wx) ∧ Hid (wx.ownsRow (w.heap.size + 2) 42 1 (.slice o1 WL.length c1) WL.length (cellsW WL)) ∧ Hid (wx.ownsRow (w.heap.size + 2) 3 1 (.slice o2 FL.length c2) FL.length (cellsI FL)) ∧ Hid (CpR w (w.heap.size + 2) (.slice o3 RL.length c3) E 0 wx))
  case first => as_aux_lemma =>
    clear KI hA2 hFin
    have q1d := hide' (q1.out.over (Below.refl _ _).drew)
    have hsz := q1.out.lt
    have x1 := q1d.out.c1
    have x2 := q1d.out.c2
    have x3 := q1d.out.c3
    refine wp_region_held_drew (S := (fun _ => True)) (by kernel_rfl) ?_ (fun hHeld => ?_)
    · trivial
    refine wpAnyH_take (i := 0) (oi := { dst := some 4, op := Op.fieldAddr 26 (Operand.tmp 1) 1, type := 0, pos := "entry.go:80", after := #[], guard := none }) (v := ?_) rfl (by kernel_rfl) (by kernel_rfl) (by kernel_rfl) (fun _ _ _ h => h) (Or.inl ⟨by rfl, ?_⟩) (by assumption) ?_
    rotate_left
    · intro w hSw; (try dsimp only at hSw); go_simp <;> with_reducible rfl
    simp only [Act.put, List.setIfInBounds_toArray, List.set_cons_zero, List.set_cons_succ]
    refine wpAnyH_take (i := 3) (oi := { dst := some 7, op := Op.fieldAddr 26 (Operand.tmp 1) 2, type := 0, pos := "entry.go:80", after := #[], guard := none }) (v := ?_) rfl (by kernel_rfl) (by kernel_rfl) (by kernel_rfl) (fun _ _ _ h => h) (Or.inl ⟨by rfl, ?_⟩) (by assumption) ?_
    rotate_left
    · intro w hSw; (try dsimp only at hSw); go_simp <;> with_reducible rfl
    simp only [Act.put, List.setIfInBounds_toArray, List.set_cons_zero, List.set_cons_succ]
    refine wpAnyH_take (i := 6) (oi := { dst := some 10, op := Op.fieldAddr 26 (Operand.tmp 1) 3, type := 0, pos := "entry.go:80", after := #[], guard := none }) (v := ?_) rfl (by kernel_rfl) (by kernel_rfl) (by kernel_rfl) (fun _ _ _ h => h) (Or.inl ⟨by rfl, ?_⟩) (by assumption) ?_
    rotate_left
    · intro w hSw; (try dsimp only at hSw); go_simp <;> with_reducible rfl
    simp only [Act.put, List.setIfInBounds_toArray, List.set_cons_zero, List.set_cons_succ]
    refine wpAnyH_ready (rs := [1, 4, 7]) (by kernel_rfl) (by simp) ?_
    refine AllReadyH.cons (o := { dst := some 5, op := Op.load 22 (Operand.tmp 4), type := 22, pos := "entry.go:80", after := #[{ on := 0, ground := Ground.data }], guard := none }) rfl (fun K hK => ?_) ?_
    · skip
      go_simp
      refine hK.out _ _ ?_ (fun hHeld => ?_)
      · trivial
      clear hK K
      try simp only [Act.put, List.setIfInBounds_toArray, List.set_cons_zero, List.set_cons_succ]
      refine wpAnyH_ready (rs := [2, 4, 7]) (by kernel_rfl) (by simp) ?_
      refine AllReadyH.cons (o := { dst := some 6, op := Op.call { callee := Callee.value (Operand.func 27), args := #[Operand.tmp 5], argTypes := #[22] }, type := 22, pos := "entry.go:80", after := #[{ on := 1, ground := Ground.data }], guard := none }) rfl (fun K hK => ?_) ?_
      · skip
        go_simp
        refine (KW.out _ q1d.out.bl).mono ?_; rintro e w3 ⟨v3, rfl, hR1, hb3⟩; obtain ⟨o1, c1, rfl⟩ := own_shp hR1; have q3 := hide' (q1d.out.over hb3); have y2 := q3.out.c2; have y3 := q3.out.c3; have hS3 := hide' (own_down hR1 (show w.heap.size + 2 ≤ W1.drew.heap.size from hsz)); clear hR1; (try dsimp only)
        refine hK.out _ _ ?_ (fun hHeld => ?_)
        · trivial
        clear hK K
        try simp only [Act.put, List.setIfInBounds_toArray, List.set_cons_zero, List.set_cons_succ]
        refine wpAnyH_ready (rs := [4, 7]) (by kernel_rfl) (by simp) ?_
        refine AllReadyH.cons (o := { dst := some 8, op := Op.load 23 (Operand.tmp 7), type := 23, pos := "entry.go:80", after := #[{ on := 3, ground := Ground.data }], guard := none }) rfl (fun K hK => ?_) ?_
        · skip
          go_simp
          refine hK.out _ _ ?_ (fun hHeld => ?_)
          · trivial
          clear hK K
          try simp only [Act.put, List.setIfInBounds_toArray, List.set_cons_zero, List.set_cons_succ]
          refine wpAnyH_ready (rs := [5, 7]) (by kernel_rfl) (by simp) ?_
          refine AllReadyH.cons (o := { dst := some 9, op := Op.call { callee := Callee.value (Operand.func 18), args := #[Operand.tmp 8], argTypes := #[23] }, type := 23, pos := "entry.go:80", after := #[{ on := 4, ground := Ground.data }, { on := 2, ground := Ground.chain }], guard := none }) rfl (fun K hK => ?_) ?_
          · skip
            go_simp
            refine (KF.out _ q3.out.bl).mono ?_; rintro e w4 ⟨v4, rfl, hR2, hb4⟩; obtain ⟨o2, c2, rfl⟩ := own_shp hR2; have q4 := hide' (q3.out.over hb4); have u3 := q4.out.c3; have hS4 := hide' (own_below hS3.out hb4 (Nat.le_refl _)); have hT4 := hide' (own_down hR2 q3.out.lt); clear hR2; (try dsimp only)
            refine hK.out _ _ ?_ (fun hHeld => ?_)
            · trivial
            clear hK K
            try simp only [Act.put, List.setIfInBounds_toArray, List.set_cons_zero, List.set_cons_succ]
            refine wpAnyH_ready (rs := [7]) (by kernel_rfl) (by simp) ?_
            refine AllReadyH.cons (o := { dst := some 11, op := Op.load 24 (Operand.tmp 10), type := 24, pos := "entry.go:80", after := #[{ on := 6, ground := Ground.data }], guard := none }) rfl (fun K hK => ?_) AllReadyH.nil
            go_simp
            refine hK.out _ _ ?_ (fun hHeld => ?_)
            · trivial
            clear hK K
            try simp only [Act.put, List.setIfInBounds_toArray, List.set_cons_zero, List.set_cons_succ]
            refine wpAnyH_take (i := 9) (oi := { dst := some 13, op := Op.fieldAddr 26 (Operand.tmp 1) 1, type := 0, pos := "entry.go:80", after := #[{ on := 0, ground := Ground.phase }, { on := 1, ground := Ground.phase }, { on := 2, ground := Ground.phase }, { on := 3, ground := Ground.phase }, { on := 4, ground := Ground.phase }, { on := 5, ground := Ground.textOnly Departure.lateStoresUnsure }, { on := 6, ground := Ground.phase }, { on := 7, ground := Ground.phase }, { on := 8, ground := Ground.textOnly Departure.lateStoresUnsure }], guard := none }) (v := ?_) rfl (by kernel_rfl) (by kernel_rfl) (by kernel_rfl) (fun _ _ _ h => h) (Or.inl ⟨by rfl, ?_⟩) (by assumption) ?_
            rotate_left
            · intro w hSw; (try dsimp only at hSw); go_simp <;> with_reducible rfl
            simp only [Act.put, List.setIfInBounds_toArray, List.set_cons_zero, List.set_cons_succ]
            refine wpAnyH_ready (rs := [8]) (by kernel_rfl) (by simp) ?_
            refine AllReadyH.cons (o := { dst := some 12, op := Op.call { callee := Callee.value (Operand.func 28), args := #[Operand.tmp 11], argTypes := #[24] }, type := 24, pos := "entry.go:80", after := #[{ on := 7, ground := Ground.data }, { on := 5, ground := Ground.chain }], guard := none }) rfl (fun K hK => ?_) AllReadyH.nil
            go_simp
            refine (KR.out _ q4.out.bl).mono ?_; rintro e w5 ⟨v5, E, rfl, hE, hO, hR3, hb5⟩; have hl3 : E.length = RL.length := (by rw [← hE, List.length_map]); rw [hl3] at hR3; obtain ⟨o3, c3, rfl⟩ := own_shp hR3; have q5 := hide' (q4.out.over hb5); have hS5 := hide' (own_below hS4.out hb5 (Nat.le_refl _)); have hT5 := hide' (own_below hT4.out hb5 (Nat.le_refl _)); have hE' := hide' hE; have hR5 : Hid (CpR w (w.heap.size + 2) (.slice o3 RL.length c3) E 0 w5) := ⟨by rw [hl3]; exact own_down hR3 q4.out.lt, fun i p hp _ => hO p (List.mem_of_getElem? hp), fun i p _ hi => absurd hi (Nat.not_lt_zero _)⟩; have z1 := q5.out.c1; have f1 := q5.out.f 1; have q6 := hide' (q5.out.s1 (.slice o1 WL.length c1)); have z2 := q6.out.c2; have f2 := q6.out.f 2; have q7 := hide' (q6.out.s2 (.slice o2 FL.length c2)); have z3 := q7.out.c3; have f3 := q7.out.f 3; have q8 := hide' (q7.out.s3 (.slice o3 RL.length c3)); have hlow : w.heap.size < w.heap.size + 2 := (by omega); have hS8 := hide' (own_low (i := 3) (own_low (i := 2) (own_low (i := 1) hS5.out hlow (.slice o1 WL.length c1)) hlow (.slice o2 FL.length c2)) hlow (.slice o3 RL.length c3)); have hT8 := hide' (own_low (i := 3) (own_low (i := 2) (own_low (i := 1) hT5.out hlow (.slice o1 WL.length c1)) hlow (.slice o2 FL.length c2)) hlow (.slice o3 RL.length c3)); have hR8 := hide' (CpRlow (i := 3) (CpRlow (i := 2) (CpRlow (i := 1) hR5.out hlow (.slice o1 WL.length c1)) hlow (.slice o2 FL.length c2)) hlow (.slice o3 RL.length c3)); clear hE hO hR3 hl3; (try dsimp only)
            refine hK.out _ _ ?_ (fun hHeld => ?_)
            · trivial
            clear hK K
            try simp only [Act.put, List.setIfInBounds_toArray, List.set_cons_zero, List.set_cons_succ]
            refine wpAnyH_ready (rs := [10]) (by kernel_rfl) (by simp) ?_
            refine AllReadyH.cons (o := { dst := none, op := Op.store 22 (Operand.tmp 13) (Operand.tmp 6), type := 0, pos := "entry.go:80", after := #[{ on := 9, ground := Ground.data }, { on := 2, ground := Ground.data }, { on := 8, ground := Ground.chain }, { on := 0, ground := Ground.phase }, { on := 1, ground := Ground.phase }, { on := 2, ground := Ground.phase }, { on := 3, ground := Ground.phase }, { on := 4, ground := Ground.phase }, { on := 5, ground := Ground.textOnly Departure.lateStoresUnsure }, { on := 6, ground := Ground.phase }, { on := 7, ground := Ground.phase }, { on := 8, ground := Ground.textOnly Departure.lateStoresUnsure }], guard := none }) rfl (fun K hK => ?_) AllReadyH.nil
            go_simp
            refine hK.out _ _ ?_ (fun hHeld => ?_)
            · trivial
            clear hK K
            try simp only [Act.put, List.setIfInBounds_toArray, List.set_cons_zero, List.set_cons_succ]
            refine wpAnyH_take (i := 11) (oi := { dst := some 14, op := Op.fieldAddr 26 (Operand.tmp 1) 2, type := 0, pos := "entry.go:80", after := #[{ on := 0, ground := Ground.phase }, { on := 1, ground := Ground.phase }, { on := 2, ground := Ground.phase }, { on := 3, ground := Ground.phase }, { on := 4, ground := Ground.phase }, { on := 5, ground := Ground.phase }, { on := 6, ground := Ground.phase }, { on := 7, ground := Ground.phase }, { on := 8, ground := Ground.textOnly Departure.lateStoresUnsure }, { on := 9, ground := Ground.phase }, { on := 10, ground := Ground.phase }], guard := none }) (v := ?_) rfl (by kernel_rfl) (by kernel_rfl) (by kernel_rfl) (fun _ _ _ h => h) (Or.inl ⟨by rfl, ?_⟩) (by assumption) ?_
            rotate_left
            · intro w hSw; (try dsimp only at hSw); go_simp <;> with_reducible rfl
            simp only [Act.put, List.setIfInBounds_toArray, List.set_cons_zero, List.set_cons_succ]
            refine wpAnyH_ready (rs := [12]) (by kernel_rfl) (by simp) ?_
            refine AllReadyH.cons (o := { dst := none, op := Op.store 23 (Operand.tmp 14) (Operand.tmp 9), type := 0, pos := "entry.go:80", after := #[{ on := 11, ground := Ground.data }, { on := 5, ground := Ground.data }, { on := 10, ground := Ground.chain }, { on := 0, ground := Ground.phase }, { on := 1, ground := Ground.phase }, { on := 2, ground := Ground.phase }, { on := 3, ground := Ground.phase }, { on := 4, ground := Ground.phase }, { on := 5, ground := Ground.phase }, { on := 6, ground := Ground.phase }, { on := 7, ground := Ground.phase }, { on := 8, ground := Ground.textOnly Departure.lateStoresUnsure }, { on := 9, ground := Ground.phase }, { on := 10, ground := Ground.phase }], guard := none }) rfl (fun K hK => ?_) AllReadyH.nil
            go_simp
            refine hK.out _ _ ?_ (fun hHeld => ?_)
            · trivial
            clear hK K
            try simp only [Act.put, List.setIfInBounds_toArray, List.set_cons_zero, List.set_cons_succ]
            refine wpAnyH_take (i := 13) (oi := { dst := some 15, op := Op.fieldAddr 26 (Operand.tmp 1) 3, type := 0, pos := "entry.go:80", after := #[{ on := 0, ground := Ground.phase }, { on := 1, ground := Ground.phase }, { on := 2, ground := Ground.phase }, { on := 3, ground := Ground.phase }, { on := 4, ground := Ground.phase }, { on := 5, ground := Ground.phase }, { on := 6, ground := Ground.phase }, { on := 7, ground := Ground.phase }, { on := 8, ground := Ground.phase }, { on := 9, ground := Ground.phase }, { on := 10, ground := Ground.phase }, { on := 11, ground := Ground.phase }, { on := 12, ground := Ground.phase }], guard := none }) (v := ?_) rfl (by kernel_rfl) (by kernel_rfl) (by kernel_rfl) (fun _ _ _ h => h) (Or.inl ⟨by rfl, ?_⟩) (by assumption) ?_
            rotate_left
            · intro w hSw; (try dsimp only at hSw); go_simp <;> with_reducible rfl
            simp only [Act.put, List.setIfInBounds_toArray, List.set_cons_zero, List.set_cons_succ]
            refine wpAnyH_ready (rs := [14]) (by kernel_rfl) (by simp) ?_
            refine AllReadyH.cons (o := { dst := none, op := Op.store 24 (Operand.tmp 15) (Operand.tmp 12), type := 0, pos := "entry.go:80", after := #[{ on := 13, ground := Ground.data }, { on := 8, ground := Ground.data }, { on := 12, ground := Ground.chain }, { on := 0, ground := Ground.phase }, { on := 1, ground := Ground.phase }, { on := 2, ground := Ground.phase }, { on := 3, ground := Ground.phase }, { on := 4, ground := Ground.phase }, { on := 5, ground := Ground.phase }, { on := 6, ground := Ground.phase }, { on := 7, ground := Ground.phase }, { on := 8, ground := Ground.phase }, { on := 9, ground := Ground.phase }, { on := 10, ground := Ground.phase }, { on := 11, ground := Ground.phase }, { on := 12, ground := Ground.phase }], guard := none }) rfl (fun K hK => ?_) AllReadyH.nil
            go_simp
            refine hK.out _ _ ?_ (fun hHeld => ?_)
            · trivial
            clear hK K
            try simp only [Act.put, List.setIfInBounds_toArray, List.set_cons_zero, List.set_cons_succ]
            refine wpAnyH_done (by kernel_rfl) ?_ _
            skip
            go_wp2
            go_meet
            exact ⟨o1, c1, o2, c2, o3, c3, E, hE', q8, hS8, hT8, hR8⟩
          refine AllReadyH.cons (o := { dst := some 11, op := Op.load 24 (Operand.tmp 10), type := 24, pos := "entry.go:80", after := #[{ on := 6, ground := Ground.data }], guard := none }) rfl (fun K hK => ?_) AllReadyH.nil
          go_simp
          refine hK.out _ _ ?_ (fun hHeld => ?_)
          · trivial
          clear hK K
          try simp only [Act.put, List.setIfInBounds_toArray, List.set_cons_zero, List.set_cons_succ]
          refine wpAnyH_take (i := 9) (oi := { dst := some 13, op := Op.fieldAddr 26 (Operand.tmp 1) 1, type := 0, pos := "entry.go:80", after := #[{ on := 0, ground := Ground.phase }, { on := 1, ground := Ground.phase }, { on := 2, ground := Ground.phase }, { on := 3, ground := Ground.phase }, { on := 4, ground := Ground.phase }, { on := 5, ground := Ground.textOnly Departure.lateStoresUnsure }, { on := 6, ground := Ground.phase }, { on := 7, ground := Ground.phase }, { on := 8, ground := Ground.textOnly Departure.lateStoresUnsure }], guard := none }) (v := ?_) rfl (by kernel_rfl) (by kernel_rfl) (by kernel_rfl) (fun _ _ _ h => h) (Or.inl ⟨by rfl, ?_⟩) (by assumption) ?_
          rotate_left
          · intro w hSw; (try dsimp only at hSw); go_simp <;> with_reducible rfl
          simp only [Act.put, List.setIfInBounds_toArray, List.set_cons_zero, List.set_cons_succ]
          refine wpAnyH_ready (rs := [5]) (by kernel_rfl) (by simp) ?_
          refine AllReadyH.cons (o := { dst := some 9, op := Op.call { callee := Callee.value (Operand.func 18), args := #[Operand.tmp 8], argTypes := #[23] }, type := 23, pos := "entry.go:80", after := #[{ on := 4, ground := Ground.data }, { on := 2, ground := Ground.chain }], guard := none }) rfl (fun K hK => ?_) AllReadyH.nil
          go_simp
          refine (KF.out _ q3.out.bl).mono ?_; rintro e w4 ⟨v4, rfl, hR2, hb4⟩; obtain ⟨o2, c2, rfl⟩ := own_shp hR2; have q4 := hide' (q3.out.over hb4); have u3 := q4.out.c3; have hS4 := hide' (own_below hS3.out hb4 (Nat.le_refl _)); have hT4 := hide' (own_down hR2 q3.out.lt); clear hR2; (try dsimp only)
          refine hK.out _ _ ?_ (fun hHeld => ?_)
          · trivial
          clear hK K
          try simp only [Act.put, List.setIfInBounds_toArray, List.set_cons_zero, List.set_cons_succ]
          refine wpAnyH_ready (rs := [8]) (by kernel_rfl) (by simp) ?_
          refine AllReadyH.cons (o := { dst := some 12, op := Op.call { callee := Callee.value (Operand.func 28), args := #[Operand.tmp 11], argTypes := #[24] }, type := 24, pos := "entry.go:80", after := #[{ on := 7, ground := Ground.data }, { on := 5, ground := Ground.chain }], guard := none }) rfl (fun K hK => ?_) AllReadyH.nil
          go_simp
          refine (KR.out _ q4.out.bl).mono ?_; rintro e w5 ⟨v5, E, rfl, hE, hO, hR3, hb5⟩; have hl3 : E.length = RL.length := (by rw [← hE, List.length_map]); rw [hl3] at hR3; obtain ⟨o3, c3, rfl⟩ := own_shp hR3; have q5 := hide' (q4.out.over hb5); have hS5 := hide' (own_below hS4.out hb5 (Nat.le_refl _)); have hT5 := hide' (own_below hT4.out hb5 (Nat.le_refl _)); have hE' := hide' hE; have hR5 : Hid (CpR w (w.heap.size + 2) (.slice o3 RL.length c3) E 0 w5) := ⟨by rw [hl3]; exact own_down hR3 q4.out.lt, fun i p hp _ => hO p (List.mem_of_getElem? hp), fun i p _ hi => absurd hi (Nat.not_lt_zero _)⟩; have z1 := q5.out.c1; have f1 := q5.out.f 1; have q6 := hide' (q5.out.s1 (.slice o1 WL.length c1)); have z2 := q6.out.c2; have f2 := q6.out.f 2; have q7 := hide' (q6.out.s2 (.slice o2 FL.length c2)); have z3 := q7.out.c3; have f3 := q7.out.f 3; have q8 := hide' (q7.out.s3 (.slice o3 RL.length c3)); have hlow : w.heap.size < w.heap.size + 2 := (by omega); have hS8 := hide' (own_low (i := 3) (own_low (i := 2) (own_low (i := 1) hS5.out hlow (.slice o1 WL.length c1)) hlow (.slice o2 FL.length c2)) hlow (.slice o3 RL.length c3)); have hT8 := hide' (own_low (i := 3) (own_low (i := 2) (own_low (i := 1) hT5.out hlow (.slice o1 WL.length c1)) hlow (.slice o2 FL.length c2)) hlow (.slice o3 RL.length c3)); have hR8 := hide' (CpRlow (i := 3) (CpRlow (i := 2) (CpRlow (i := 1) hR5.out hlow (.slice o1 WL.length c1)) hlow (.slice o2 FL.length c2)) hlow (.slice o3 RL.length c3)); clear hE hO hR3 hl3; (try dsimp only)
          refine hK.out _ _ ?_ (fun hHeld => ?_)
          · trivial
          clear hK K
          try simp only [Act.put, List.setIfInBounds_toArray, List.set_cons_zero, List.set_cons_succ]
          refine wpAnyH_ready (rs := [10]) (by kernel_rfl) (by simp) ?_
          refine AllReadyH.cons (o := { dst := none, op := Op.store 22 (Operand.tmp 13) (Operand.tmp 6), type := 0, pos := "entry.go:80", after := #[{ on := 9, ground := Ground.data }, { on := 2, ground := Ground.data }, { on := 8, ground := Ground.chain }, { on := 0, ground := Ground.phase }, { on := 1, ground := Ground.phase }, { on := 2, ground := Ground.phase }, { on := 3, ground := Ground.phase }, { on := 4, ground := Ground.phase }, { on := 5, ground := Ground.textOnly Departure.lateStoresUnsure }, { on := 6, ground := Ground.phase }, { on := 7, ground := Ground.phase }, { on := 8, ground := Ground.textOnly Departure.lateStoresUnsure }], guard := none }) rfl (fun K hK => ?_) AllReadyH.nil
          go_simp
          refine hK.out _ _ ?_ (fun hHeld => ?_)
          · trivial
          clear hK K
          try simp only [Act.put, List.setIfInBounds_toArray, List.set_cons_zero, List.set_cons_succ]
          refine wpAnyH_take (i := 11) (oi := { dst := some 14, op := Op.fieldAddr 26 (Operand.tmp 1) 2, type := 0, pos := "entry.go:80", after := #[{ on := 0, ground := Ground.phase }, { on := 1, ground := Ground.phase }, { on := 2, ground := Ground.phase }, { on := 3, ground := Ground.phase }, { on := 4, ground := Ground.phase }, { on := 5, ground := Ground.phase }, { on := 6, ground := Ground.phase }, { on := 7, ground := Ground.phase }, { on := 8, ground := Ground.textOnly Departure.lateStoresUnsure }, { on := 9, ground := Ground.phase }, { on := 10, ground := Ground.phase }], guard := none }) (v := ?_) rfl (by kernel_rfl) (by kernel_rfl) (by kernel_rfl) (fun _ _ _ h => h) (Or.inl ⟨by rfl, ?_⟩) (by assumption) ?_
          rotate_left
          · intro w hSw; (try dsimp only at hSw); go_simp <;> with_reducible rfl
          simp only [Act.put, List.setIfInBounds_toArray, List.set_cons_zero, List.set_cons_succ]
          refine wpAnyH_ready (rs := [12]) (by kernel_rfl) (by simp) ?_
          refine AllReadyH.cons (o := { dst := none, op := Op.store 23 (Operand.tmp 14) (Operand.tmp 9), type := 0, pos := "entry.go:80", after := #[{ on := 11, ground := Ground.data }, { on := 5, ground := Ground.data }, { on := 10, ground := Ground.chain }, { on := 0, ground := Ground.phase }, { on := 1, ground := Ground.phase }, { on := 2, ground := Ground.phase }, { on := 3, ground := Ground.phase }, { on := 4, ground := Ground.phase }, { on := 5, ground := Ground.phase }, { on := 6, ground := Ground.phase }, { on := 7, ground := Ground.phase }, { on := 8, ground := Ground.textOnly Departure.lateStoresUnsure }, { on := 9, ground := Ground.phase }, { on := 10, ground := Ground.phase }], guard := none }) rfl (fun K hK => ?_) AllReadyH.nil
          go_simp
          refine hK.out _ _ ?_ (fun hHeld => ?_)
          · trivial
          clear hK K
          try simp only [Act.put, List.setIfInBounds_toArray, List.set_cons_zero, List.set_cons_succ]
          refine wpAnyH_take (i := 13) (oi := { dst := some 15, op := Op.fieldAddr 26 (Operand.tmp 1) 3, type := 0, pos := "entry.go:80", after := #[{ on := 0, ground := Ground.phase }, { on := 1, ground := Ground.phase }, { on := 2, ground := Ground.phase }, { on := 3, ground := Ground.phase }, { on := 4, ground := Ground.phase }, { on := 5, ground := Ground.phase }, { on := 6, ground := Ground.phase }, { on := 7, ground := Ground.phase }, { on := 8, ground := Ground.phase }, { on := 9, ground := Ground.phase }, { on := 10, ground := Ground.phase }, { on := 11, ground := Ground.phase }, { on := 12, ground := Ground.phase }], guard := none }) (v := ?_) rfl (by kernel_rfl) (by kernel_rfl) (by kernel_rfl) (fun _ _ _ h => h) (Or.inl ⟨by rfl, ?_⟩) (by assumption) ?_
          rotate_left
          · intro w hSw; (try dsimp only at hSw); go_simp <;> with_reducible rfl
          simp only [Act.put, List.setIfInBounds_toArray, List.set_cons_zero, List.set_cons_succ]
          refine wpAnyH_ready (rs := [14]) (by kernel_rfl) (by simp) ?_
          refine AllReadyH.cons (o := { dst := none, op := Op.store 24 (Operand.tmp 15) (Operand.tmp 12), type := 0, pos := "entry.go:80", after := #[{ on := 13, ground := Ground.data }, { on := 8, ground := Ground.data }, { on := 12, ground := Ground.chain }, { on := 0, ground := Ground.phase }, { on := 1, ground := Ground.phase }, { on := 2, ground := Ground.phase }, { on := 3, ground := Ground.phase }, { on := 4, ground := Ground.phase }, { on := 5, ground := Ground.phase }, { on := 6, ground := Ground.phase }, { on := 7, ground := Ground.phase }, { on := 8, ground := Ground.phase }, { on := 9, ground := Ground.phase }, { on := 10, ground := Ground.phase }, { on := 11, ground := Ground.phase }, { on := 12, ground := Ground.phase }], guard := none }) rfl (fun K hK => ?_) AllReadyH.nil
          go_simp
          refine hK.out _ _ ?_ (fun hHeld => ?_)
          · trivial
          clear hK K
          try simp only [Act.put, List.setIfInBounds_toArray, List.set_cons_zero, List.set_cons_succ]
          refine wpAnyH_done (by kernel_rfl) ?_ _
          skip
          go_wp2
          go_meet
          exact ⟨o1, c1, o2, c2, o3, c3, E, hE', q8, hS8, hT8, hR8⟩
        refine AllReadyH.cons (o := { dst := some 11, op := Op.load 24 (Operand.tmp 10), type := 24, pos := "entry.go:80", after := #[{ on := 6, ground := Ground.data }], guard := none }) rfl (fun K hK => ?_) AllReadyH.nil
        go_simp
        refine hK.out _ _ ?_ (fun hHeld => ?_)
        · trivial
        clear hK K
        try simp only [Act.put, List.setIfInBounds_toArray, List.set_cons_zero, List.set_cons_succ]
        refine wpAnyH_ready (rs := [4]) (by kernel_rfl) (by simp) ?_
        refine AllReadyH.cons (o := { dst := some 8, op := Op.load 23 (Operand.tmp 7), type := 23, pos := "entry.go:80", after := #[{ on := 3, ground := Ground.data }], guard := none }) rfl (fun K hK => ?_) AllReadyH.nil
        go_simp
        refine hK.out _ _ ?_ (fun hHeld => ?_)
        · trivial
        clear hK K
        try simp only [Act.put, List.setIfInBounds_toArray, List.set_cons_zero, List.set_cons_succ]
        refine wpAnyH_take (i := 9) (oi := { dst := some 13, op := Op.fieldAddr 26 (Operand.tmp 1) 1, type := 0, pos := "entry.go:80", after := #[{ on := 0, ground := Ground.phase }, { on := 1, ground := Ground.phase }, { on := 2, ground := Ground.phase }, { on := 3, ground := Ground.phase }, { on := 4, ground := Ground.phase }, { on := 5, ground := Ground.textOnly Departure.lateStoresUnsure }, { on := 6, ground := Ground.phase }, { on := 7, ground := Ground.phase }, { on := 8, ground := Ground.textOnly Departure.lateStoresUnsure }], guard := none }) (v := ?_) rfl (by kernel_rfl) (by kernel_rfl) (by kernel_rfl) (fun _ _ _ h => h) (Or.inl ⟨by rfl, ?_⟩) (by assumption) ?_
        rotate_left
        · intro w hSw; (try dsimp only at hSw); go_simp <;> with_reducible rfl
        simp only [Act.put, List.setIfInBounds_toArray, List.set_cons_zero, List.set_cons_succ]
        refine wpAnyH_ready (rs := [5]) (by kernel_rfl) (by simp) ?_
        refine AllReadyH.cons (o := { dst := some 9, op := Op.call { callee := Callee.value (Operand.func 18), args := #[Operand.tmp 8], argTypes := #[23] }, type := 23, pos := "entry.go:80", after := #[{ on := 4, ground := Ground.data }, { on := 2, ground := Ground.chain }], guard := none }) rfl (fun K hK => ?_) AllReadyH.nil
        go_simp
        refine (KF.out _ q3.out.bl).mono ?_; rintro e w4 ⟨v4, rfl, hR2, hb4⟩; obtain ⟨o2, c2, rfl⟩ := own_shp hR2; have q4 := hide' (q3.out.over hb4); have u3 := q4.out.c3; have hS4 := hide' (own_below hS3.out hb4 (Nat.le_refl _)); have hT4 := hide' (own_down hR2 q3.out.lt); clear hR2; (try dsimp only)
        refine hK.out _ _ ?_ (fun hHeld => ?_)
        · trivial
        clear hK K
        try simp only [Act.put, List.setIfInBounds_toArray, List.set_cons_zero, List.set_cons_succ]
        refine wpAnyH_ready (rs := [8]) (by kernel_rfl) (by simp) ?_
        refine AllReadyH.cons (o := { dst := some 12, op := Op.call { callee := Callee.value (Operand.func 28), args := #[Operand.tmp 11], argTypes := #[24] }, type := 24, pos := "entry.go:80", after := #[{ on := 7, ground := Ground.data }, { on := 5, ground := Ground.chain }], guard := none }) rfl (fun K hK => ?_) AllReadyH.nil
        go_simp
        refine (KR.out _ q4.out.bl).mono ?_; rintro e w5 ⟨v5, E, rfl, hE, hO, hR3, hb5⟩; have hl3 : E.length = RL.length := (by rw [← hE, List.length_map]); rw [hl3] at hR3; obtain ⟨o3, c3, rfl⟩ := own_shp hR3; have q5 := hide' (q4.out.over hb5); have hS5 := hide' (own_below hS4.out hb5 (Nat.le_refl _)); have hT5 := hide' (own_below hT4.out hb5 (Nat.le_refl _)); have hE' := hide' hE; have hR5 : Hid (CpR w (w.heap.size + 2) (.slice o3 RL.length c3) E 0 w5) := ⟨by rw [hl3]; exact own_down hR3 q4.out.lt, fun i p hp _ => hO p (List.mem_of_getElem? hp), fun i p _ hi => absurd hi (Nat.not_lt_zero _)⟩; have z1 := q5.out.c1; have f1 := q5.out.f 1; have q6 := hide' (q5.out.s1 (.slice o1 WL.length c1)); have z2 := q6.out.c2; have f2 := q6.out.f 2; have q7 := hide' (q6.out.s2 (.slice o2 FL.length c2)); have z3 := q7.out.c3; have f3 := q7.out.f 3; have q8 := hide' (q7.out.s3 (.slice o3 RL.length c3)); have hlow : w.heap.size < w.heap.size + 2 := (by omega); have hS8 := hide' (own_low (i := 3) (own_low (i := 2) (own_low (i := 1) hS5.out hlow (.slice o1 WL.length c1)) hlow (.slice o2 FL.length c2)) hlow (.slice o3 RL.length c3)); have hT8 := hide' (own_low (i := 3) (own_low (i := 2) (own_low (i := 1) hT5.out hlow (.slice o1 WL.length c1)) hlow (.slice o2 FL.length c2)) hlow (.slice o3 RL.length c3)); have hR8 := hide' (CpRlow (i := 3) (CpRlow (i := 2) (CpRlow (i := 1) hR5.out hlow (.slice o1 WL.length c1)) hlow (.slice o2 FL.length c2)) hlow (.slice o3 RL.length c3)); clear hE hO hR3 hl3; (try dsimp only)
        refine hK.out _ _ ?_ (fun hHeld => ?_)
        · trivial
        clear hK K
        try simp only [Act.put, List.setIfInBounds_toArray, List.set_cons_zero, List.set_cons_succ]
        refine wpAnyH_ready (rs := [10]) (by kernel_rfl) (by simp) ?_
        refine AllReadyH.cons (o := { dst := none, op := Op.store 22 (Operand.tmp 13) (Operand.tmp 6), type := 0, pos := "entry.go:80", after := #[{ on := 9, ground := Ground.data }, { on := 2, ground := Ground.data }, { on := 8, ground := Ground.chain }, { on := 0, ground := Ground.phase }, { on := 1, ground := Ground.phase }, { on := 2, ground := Ground.phase }, { on := 3, ground := Ground.phase }, { on := 4, ground := Ground.phase }, { on := 5, ground := Ground.textOnly Departure.lateStoresUnsure }, { on := 6, ground := Ground.phase }, { on := 7, ground := Ground.phase }, { on := 8, ground := Ground.textOnly Departure.lateStoresUnsure }], guard := none }) rfl (fun K hK => ?_) AllReadyH.nil
        go_simp
        refine hK.out _ _ ?_ (fun hHeld => ?_)
        · trivial
        clear hK K
        try simp only [Act.put, List.setIfInBounds_toArray, List.set_cons_zero, List.set_cons_succ]
        refine wpAnyH_take (i := 11) (oi := { dst := some 14, op := Op.fieldAddr 26 (Operand.tmp 1) 2, type := 0, pos := "entry.go:80", after := #[{ on := 0, ground := Ground.phase }, { on := 1, ground := Ground.phase }, { on := 2, ground := Ground.phase }, { on := 3, ground := Ground.phase }, { on := 4, ground := Ground.phase }, { on := 5, ground := Ground.phase }, { on := 6, ground := Ground.phase }, { on := 7, ground := Ground.phase }, { on := 8, ground := Ground.textOnly Departure.lateStoresUnsure }, { on := 9, ground := Ground.phase }, { on := 10, ground := Ground.phase }], guard := none }) (v := ?_) rfl (by kernel_rfl) (by kernel_rfl) (by kernel_rfl) (fun _ _ _ h => h) (Or.inl ⟨by rfl, ?_⟩) (by assumption) ?_
        rotate_left
        · intro w hSw; (try dsimp only at hSw); go_simp <;> with_reducible rfl
        simp only [Act.put, List.setIfInBounds_toArray, List.set_cons_zero, List.set_cons_succ]
        refine wpAnyH_ready (rs := [12]) (by kernel_rfl) (by simp) ?_
        refine AllReadyH.cons (o := { dst := none, op := Op.store 23 (Operand.tmp 14) (Operand.tmp 9), type := 0, pos := "entry.go:80", after := #[{ on := 11, ground := Ground.data }, { on := 5, ground := Ground.data }, { on := 10, ground := Ground.chain }, { on := 0, ground := Ground.phase }, { on := 1, ground := Ground.phase }, { on := 2, ground := Ground.phase }, { on := 3, ground := Ground.phase }, { on := 4, ground := Ground.phase }, { on := 5, ground := Ground.phase }, { on := 6, ground := Ground.phase }, { on := 7, ground := Ground.phase }, { on := 8, ground := Ground.textOnly Departure.lateStoresUnsure }, { on := 9, ground := Ground.phase }, { on := 10, ground := Ground.phase }], guard := none }) rfl (fun K hK => ?_) AllReadyH.nil
        go_simp
        refine hK.out _ _ ?_ (fun hHeld => ?_)
        · trivial
        clear hK K
        try simp only [Act.put, List.setIfInBounds_toArray, List.set_cons_zero, List.set_cons_succ]
        refine wpAnyH_take (i := 13) (oi := { dst := some 15, op := Op.fieldAddr 26 (Operand.tmp 1) 3, type := 0, pos := "entry.go:80", after := #[{ on := 0, ground := Ground.phase }, { on := 1, ground := Ground.phase }, { on := 2, ground := Ground.phase }, { on := 3, ground := Ground.phase }, { on := 4, ground := Ground.phase }, { on := 5, ground := Ground.phase }, { on := 6, ground := Ground.phase }, { on := 7, ground := Ground.phase }, { on := 8, ground := Ground.phase }, { on := 9, ground := Ground.phase }, { on := 10, ground := Ground.phase }, { on := 11, ground := Ground.phase }, { on := 12, ground := Ground.phase }], guard := none }) (v := ?_) rfl (by kernel_rfl) (by kernel_rfl) (by kernel_rfl) (fun _ _ _ h => h) (Or.inl ⟨by rfl, ?_⟩) (by assumption) ?_
        rotate_left
        · intro w hSw; (try dsimp only at hSw); go_simp <;> with_reducible rfl
        simp only [Act.put, List.setIfInBounds_toArray, List.set_cons_zero, List.set_cons_succ]
        refine wpAnyH_ready (rs := [14]) (by kernel_rfl) (by simp) ?_
        refine AllReadyH.cons (o := { dst := none, op := Op.store 24 (Operand.tmp 15) (Operand.tmp 12), type := 0, pos := "entry.go:80", after := #[{ on := 13, ground := Ground.data }, { on := 8, ground := Ground.data }, { on := 12, ground := Ground.chain }, { on := 0, ground := Ground.phase }, { on := 1, ground := Ground.phase }, { on := 2, ground := Ground.phase }, { on := 3, ground := Ground.phase }, { on := 4, ground := Ground.phase }, { on := 5, ground := Ground.phase }, { on := 6, ground := Ground.phase }, { on := 7, ground := Ground.phase }, { on := 8, ground := Ground.phase }, { on := 9, ground := Ground.phase }, { on := 10, ground := Ground.phase }, { on := 11, ground := Ground.phase }, { on := 12, ground := Ground.phase }], guard := none }) rfl (fun K hK => ?_) AllReadyH.nil
        go_simp
        refine hK.out _ _ ?_ (fun hHeld => ?_)
        · trivial
        clear hK K
        try simp only [Act.put, List.setIfInBounds_toArray, List.set_cons_zero, List.set_cons_succ]
        refine wpAnyH_done (by kernel_rfl) ?_ _
        skip
        go_wp2
        go_meet
        exact ⟨o1, c1, o2, c2, o3, c3, E, hE', q8, hS8, hT8, hR8⟩
      refine AllReadyH.cons (o := { dst := some 8, op := Op.load 23 (Operand.tmp 7), type := 23, pos := "entry.go:80", after := #[{ on := 3, ground := Ground.data }], guard := none }) rfl (fun K hK => ?_) ?_
      · skip
        go_simp
        refine hK.out _ _ ?_ (fun hHeld => ?_)
        · trivial
        clear hK K
        try simp only [Act.put, List.setIfInBounds_toArray, List.set_cons_zero, List.set_cons_succ]
        refine wpAnyH_ready (rs := [2, 7]) (by kernel_rfl) (by simp) ?_
        refine AllReadyH.cons (o := { dst := some 6, op := Op.call { callee := Callee.value (Operand.func 27), args := #[Operand.tmp 5], argTypes := #[22] }, type := 22, pos := "entry.go:80", after := #[{ on := 1, ground := Ground.data }], guard := none }) rfl (fun K hK => ?_) ?_
        · skip
          go_simp
          refine (KW.out _ q1d.out.bl).mono ?_; rintro e w3 ⟨v3, rfl, hR1, hb3⟩; obtain ⟨o1, c1, rfl⟩ := own_shp hR1; have q3 := hide' (q1d.out.over hb3); have y2 := q3.out.c2; have y3 := q3.out.c3; have hS3 := hide' (own_down hR1 (show w.heap.size + 2 ≤ W1.drew.heap.size from hsz)); clear hR1; (try dsimp only)
          refine hK.out _ _ ?_ (fun hHeld => ?_)
          · trivial
          clear hK K
          try simp only [Act.put, List.setIfInBounds_toArray, List.set_cons_zero, List.set_cons_succ]
          refine wpAnyH_ready (rs := [5, 7]) (by kernel_rfl) (by simp) ?_
          refine AllReadyH.cons (o := { dst := some 9, op := Op.call { callee := Callee.value (Operand.func 18), args := #[Operand.tmp 8], argTypes := #[23] }, type := 23, pos := "entry.go:80", after := #[{ on := 4, ground := Ground.data }, { on := 2, ground := Ground.chain }], guard := none }) rfl (fun K hK => ?_) ?_
          · skip
            go_simp
            refine (KF.out _ q3.out.bl).mono ?_; rintro e w4 ⟨v4, rfl, hR2, hb4⟩; obtain ⟨o2, c2, rfl⟩ := own_shp hR2; have q4 := hide' (q3.out.over hb4); have u3 := q4.out.c3; have hS4 := hide' (own_below hS3.out hb4 (Nat.le_refl _)); have hT4 := hide' (own_down hR2 q3.out.lt); clear hR2; (try dsimp only)
            refine hK.out _ _ ?_ (fun hHeld => ?_)
            · trivial
            clear hK K
            try simp only [Act.put, List.setIfInBounds_toArray, List.set_cons_zero, List.set_cons_succ]
            refine wpAnyH_ready (rs := [7]) (by kernel_rfl) (by simp) ?_
            refine AllReadyH.cons (o := { dst := some 11, op := Op.load 24 (Operand.tmp 10), type := 24, pos := "entry.go:80", after := #[{ on := 6, ground := Ground.data }], guard := none }) rfl (fun K hK => ?_) AllReadyH.nil
            go_simp
            refine hK.out _ _ ?_ (fun hHeld => ?_)
            · trivial
            clear hK K
            try simp only [Act.put, List.setIfInBounds_toArray, List.set_cons_zero, List.set_cons_succ]
            refine wpAnyH_take (i := 9) (oi := { dst := some 13, op := Op.fieldAddr 26 (Operand.tmp 1) 1, type := 0, pos := "entry.go:80", after := #[{ on := 0, ground := Ground.phase }, { on := 1, ground := Ground.phase }, { on := 2, ground := Ground.phase }, { on := 3, ground := Ground.phase }, { on := 4, ground := Ground.phase }, { on := 5, ground := Ground.textOnly Departure.lateStoresUnsure }, { on := 6, ground := Ground.phase }, { on := 7, ground := Ground.phase }, { on := 8, ground := Ground.textOnly Departure.lateStoresUnsure }], guard := none }) (v := ?_) rfl (by kernel_rfl) (by kernel_rfl) (by kernel_rfl) (fun _ _ _ h => h) (Or.inl ⟨by rfl, ?_⟩) (by assumption) ?_
            rotate_left
            · intro w hSw; (try dsimp only at hSw); go_simp <;> with_reducible rfl
            simp only [Act.put, List.setIfInBounds_toArray, List.set_cons_zero, List.set_cons_succ]
            refine wpAnyH_ready (rs := [8]) (by kernel_rfl) (by simp) ?_
            refine AllReadyH.cons (o := { dst := some 12, op := Op.call { callee := Callee.value (Operand.func 28), args := #[Operand.tmp 11], argTypes := #[24] }, type := 24, pos := "entry.go:80", after := #[{ on := 7, ground := Ground.data }, { on := 5, ground := Ground.chain }], guard := none }) rfl (fun K hK => ?_) AllReadyH.nil
            go_simp
            refine (KR.out _ q4.out.bl).mono ?_; rintro e w5 ⟨v5, E, rfl, hE, hO, hR3, hb5⟩; have hl3 : E.length = RL.length := (by rw [← hE, List.length_map]); rw [hl3] at hR3; obtain ⟨o3, c3, rfl⟩ := own_shp hR3; have q5 := hide' (q4.out.over hb5); have hS5 := hide' (own_below hS4.out hb5 (Nat.le_refl _)); have hT5 := hide' (own_below hT4.out hb5 (Nat.le_refl _)); have hE' := hide' hE; have hR5 : Hid (CpR w (w.heap.size + 2) (.slice o3 RL.length c3) E 0 w5) := ⟨by rw [hl3]; exact own_down hR3 q4.out.lt, fun i p hp _ => hO p (List.mem_of_getElem? hp), fun i p _ hi => absurd hi (Nat.not_lt_zero _)⟩; have z1 := q5.out.c1; have f1 := q5.out.f 1; have q6 := hide' (q5.out.s1 (.slice o1 WL.length c1)); have z2 := q6.out.c2; have f2 := q6.out.f 2; have q7 := hide' (q6.out.s2 (.slice o2 FL.length c2)); have z3 := q7.out.c3; have f3 := q7.out.f 3; have q8 := hide' (q7.out.s3 (.slice o3 RL.length c3)); have hlow : w.heap.size < w.heap.size + 2 := (by omega); have hS8 := hide' (own_low (i := 3) (own_low (i := 2) (own_low (i := 1) hS5.out hlow (.slice o1 WL.length c1)) hlow (.slice o2 FL.length c2)) hlow (.slice o3 RL.length c3)); have hT8 := hide' (own_low (i := 3) (own_low (i := 2) (own_low (i := 1) hT5.out hlow (.slice o1 WL.length c1)) hlow (.slice o2 FL.length c2)) hlow (.slice o3 RL.length c3)); have hR8 := hide' (CpRlow (i := 3) (CpRlow (i := 2) (CpRlow (i := 1) hR5.out hlow (.slice o1 WL.length c1)) hlow (.slice o2 FL.length c2)) hlow (.slice o3 RL.length c3)); clear hE hO hR3 hl3; (try dsimp only)
            refine hK.out _ _ ?_ (fun hHeld => ?_)
            · trivial
            clear hK K
            try simp only [Act.put, List.setIfInBounds_toArray, List.set_cons_zero, List.set_cons_succ]
            refine wpAnyH_ready (rs := [10]) (by kernel_rfl) (by simp) ?_
            refine AllReadyH.cons (o := { dst := none, op := Op.store 22 (Operand.tmp 13) (Operand.tmp 6), type := 0, pos := "entry.go:80", after := #[{ on := 9, ground := Ground.data }, { on := 2, ground := Ground.data }, { on := 8, ground := Ground.chain }, { on := 0, ground := Ground.phase }, { on := 1, ground := Ground.phase }, { on := 2, ground := Ground.phase }, { on := 3, ground := Ground.phase }, { on := 4, ground := Ground.phase }, { on := 5, ground := Ground.textOnly Departure.lateStoresUnsure }, { on := 6, ground := Ground.phase }, { on := 7, ground := Ground.phase }, { on := 8, ground := Ground.textOnly Departure.lateStoresUnsure }], guard := none }) rfl (fun K hK => ?_) AllReadyH.nil
            go_simp
            refine hK.out _ _ ?_ (fun hHeld => ?_)
            · trivial
            clear hK K
            try simp only [Act.put, List.setIfInBounds_toArray, List.set_cons_zero, List.set_cons_succ]
            refine wpAnyH_take (i := 11) (oi := { dst := some 14, op := Op.fieldAddr 26 (Operand.tmp 1) 2, type := 0, pos := "entry.go:80", after := #[{ on := 0, ground := Ground.phase }, { on := 1, ground := Ground.phase }, { on := 2, ground := Ground.phase }, { on := 3, ground := Ground.phase }, { on := 4, ground := Ground.phase }, { on := 5, ground := Ground.phase }, { on := 6, ground := Ground.phase }, { on := 7, ground := Ground.phase }, { on := 8, ground := Ground.textOnly Departure.lateStoresUnsure }, { on := 9, ground := Ground.phase }, { on := 10, ground := Ground.phase }], guard := none }) (v := ?_) rfl (by kernel_rfl) (by kernel_rfl) (by kernel_rfl) (fun _ _ _ h => h) (Or.inl ⟨by rfl, ?_⟩) (by assumption) ?_
            rotate_left
            · intro w hSw; (try dsimp only at hSw); go_simp <;> with_reducible rfl
            simp only [Act.put, List.setIfInBounds_toArray, List.set_cons_zero, List.set_cons_succ]
            refine wpAnyH_ready (rs := [12]) (by kernel_rfl) (by simp) ?_
            refine AllReadyH.cons (o := { dst := none, op := Op.store 23 (Operand.tmp 14) (Operand.tmp 9), type := 0, pos := "entry.go:80", after := #[{ on := 11, ground := Ground.data }, { on := 5, ground := Ground.data }, { on := 10, ground := Ground.chain }, { on := 0, ground := Ground.phase }, { on := 1, ground := Ground.phase }, { on := 2, ground := Ground.phase }, { on := 3, ground := Ground.phase }, { on := 4, ground := Ground.phase }, { on := 5, ground := Ground.phase }, { on := 6, ground := Ground.phase }, { on := 7, ground := Ground.phase }, { on := 8, ground := Ground.textOnly Departure.lateStoresUnsure }, { on := 9, ground := Ground.phase }, { on := 10, ground := Ground.phase }], guard := none }) rfl (fun K hK => ?_) AllReadyH.nil
            go_simp
            refine hK.out _ _ ?_ (fun hHeld => ?_)
            · trivial
            clear hK K
            try simp only [Act.put, List.setIfInBounds_toArray, List.set_cons_zero, List.set_cons_succ]
            refine wpAnyH_take (i := 13) (oi := { dst := some 15, op := Op.fieldAddr 26 (Operand.tmp 1) 3, type := 0, pos := "entry.go:80", after := #[{ on := 0, ground := Ground.phase }, { on := 1, ground := Ground.phase }, { on := 2, ground := Ground.phase }, { on := 3, ground := Ground.phase }, { on := 4, ground := Ground.phase }, { on := 5, ground := Ground.phase }, { on := 6, ground := Ground.phase }, { on := 7, ground := Ground.phase }, { on := 8, ground := Ground.phase }, { on := 9, ground := Ground.phase }, { on := 10, ground := Ground.phase }, { on := 11, ground := Ground.phase }, { on := 12, ground := Ground.phase }], guard := none }) (v := ?_) rfl (by kernel_rfl) (by kernel_rfl) (by kernel_rfl) (fun _ _ _ h => h) (Or.inl ⟨by rfl, ?_⟩) (by assumption) ?_
            rotate_left
            · intro w hSw; (try dsimp only at hSw); go_simp <;> with_reducible rfl
            simp only [Act.put, List.setIfInBounds_toArray, List.set_cons_zero, List.set_cons_succ]
            refine wpAnyH_ready (rs := [14]) (by kernel_rfl) (by simp) ?_
            refine AllReadyH.cons (o := { dst := none, op := Op.store 24 (Operand.tmp 15) (Operand.tmp 12), type := 0, pos := "entry.go:80", after := #[{ on := 13, ground := Ground.data }, { on := 8, ground := Ground.data }, { on := 12, ground := Ground.chain }, { on := 0, ground := Ground.phase }, { on := 1, ground := Ground.phase }, { on := 2, ground := Ground.phase }, { on := 3, ground := Ground.phase }, { on := 4, ground := Ground.phase }, { on := 5, ground := Ground.phase }, { on := 6, ground := Ground.phase }, { on := 7, ground := Ground.phase }, { on := 8, ground := Ground.phase }, { on := 9, ground := Ground.phase }, { on := 10, ground := Ground.phase }, { on := 11, ground := Ground.phase }, { on := 12, ground := Ground.phase }], guard := none }) rfl (fun K hK => ?_) AllReadyH.nil
            go_simp
            refine hK.out _ _ ?_ (fun hHeld => ?_)
            · trivial
            clear hK K
            try simp only [Act.put, List.setIfInBounds_toArray, List.set_cons_zero, List.set_cons_succ]
            refine wpAnyH_done (by kernel_rfl) ?_ _
            skip
            go_wp2
            go_meet
            exact ⟨o1, c1, o2, c2, o3, c3, E, hE', q8, hS8, hT8, hR8⟩
          refine AllReadyH.cons (o := { dst := some 11, op := Op.load 24 (Operand.tmp 10), type := 24, pos := "entry.go:80", after := #[{ on := 6, ground := Ground.data }], guard := none }) rfl (fun K hK => ?_) AllReadyH.nil
          go_simp
          refine hK.out _ _ ?_ (fun hHeld => ?_)
          · trivial
          clear hK K
          try simp only [Act.put, List.setIfInBounds_toArray, List.set_cons_zero, List.set_cons_succ]
          refine wpAnyH_take (i := 9) (oi := { dst := some 13, op := Op.fieldAddr 26 (Operand.tmp 1) 1, type := 0, pos := "entry.go:80", after := #[{ on := 0, ground := Ground.phase }, { on := 1, ground := Ground.phase }, { on := 2, ground := Ground.phase }, { on := 3, ground := Ground.phase }, { on := 4, ground := Ground.phase }, { on := 5, ground := Ground.textOnly Departure.lateStoresUnsure }, { on := 6, ground := Ground.phase }, { on := 7, ground := Ground.phase }, { on := 8, ground := Ground.textOnly Departure.lateStoresUnsure }], guard := none }) (v := ?_) rfl (by kernel_rfl) (by kernel_rfl) (by kernel_rfl) (fun _ _ _ h => h) (Or.inl ⟨by rfl, ?_⟩) (by assumption) ?_
          rotate_left
          · intro w hSw; (try dsimp only at hSw); go_simp <;> with_reducible rfl
          simp only [Act.put, List.setIfInBounds_toArray, List.set_cons_zero, List.set_cons_succ]
          refine wpAnyH_ready (rs := [5]) (by kernel_rfl) (by simp) ?_
          refine AllReadyH.cons (o := { dst := some 9, op := Op.call { callee := Callee.value (Operand.func 18), args := #[Operand.tmp 8], argTypes := #[23] }, type := 23, pos := "entry.go:80", after := #[{ on := 4, ground := Ground.data }, { on := 2, ground := Ground.chain }], guard := none }) rfl (fun K hK => ?_) AllReadyH.nil
          go_simp
          refine (KF.out _ q3.out.bl).mono ?_; rintro e w4 ⟨v4, rfl, hR2, hb4⟩; obtain ⟨o2, c2, rfl⟩ := own_shp hR2; have q4 := hide' (q3.out.over hb4); have u3 := q4.out.c3; have hS4 := hide' (own_below hS3.out hb4 (Nat.le_refl _)); have hT4 := hide' (own_down hR2 q3.out.lt); clear hR2; (try dsimp only)
          refine hK.out _ _ ?_ (fun hHeld => ?_)
          · trivial
          clear hK K
          try simp only [Act.put, List.setIfInBounds_toArray, List.set_cons_zero, List.set_cons_succ]
          refine wpAnyH_ready (rs := [8]) (by kernel_rfl) (by simp) ?_
          refine AllReadyH.cons (o := { dst := some 12, op := Op.call { callee := Callee.value (Operand.func 28), args := #[Operand.tmp 11], argTypes := #[24] }, type := 24, pos := "entry.go:80", after := #[{ on := 7, ground := Ground.data }, { on := 5, ground := Ground.chain }], guard := none }) rfl (fun K hK => ?_) AllReadyH.nil
          go_simp
          refine (KR.out _ q4.out.bl).mono ?_; rintro e w5 ⟨v5, E, rfl, hE, hO, hR3, hb5⟩; have hl3 : E.length = RL.length := (by rw [← hE, List.length_map]); rw [hl3] at hR3; obtain ⟨o3, c3, rfl⟩ := own_shp hR3; have q5 := hide' (q4.out.over hb5); have hS5 := hide' (own_below hS4.out hb5 (Nat.le_refl _)); have hT5 := hide' (own_below hT4.out hb5 (Nat.le_refl _)); have hE' := hide' hE; have hR5 : Hid (CpR w (w.heap.size + 2) (.slice o3 RL.length c3) E 0 w5) := ⟨by rw [hl3]; exact own_down hR3 q4.out.lt, fun i p hp _ => hO p (List.mem_of_getElem? hp), fun i p _ hi => absurd hi (Nat.not_lt_zero _)⟩; have z1 := q5.out.c1; have f1 := q5.out.f 1; have q6 := hide' (q5.out.s1 (.slice o1 WL.length c1)); have z2 := q6.out.c2; have f2 := q6.out.f 2; have q7 := hide' (q6.out.s2 (.slice o2 FL.length c2)); have z3 := q7.out.c3; have f3 := q7.out.f 3; have q8 := hide' (q7.out.s3 (.slice o3 RL.length c3)); have hlow : w.heap.size < w.heap.size + 2 := (by omega); have hS8 := hide' (own_low (i := 3) (own_low (i := 2) (own_low (i := 1) hS5.out hlow (.slice o1 WL.length c1)) hlow (.slice o2 FL.length c2)) hlow (.slice o3 RL.length c3)); have hT8 := hide' (own_low (i := 3) (own_low (i := 2) (own_low (i := 1) hT5.out hlow (.slice o1 WL.length c1)) hlow (.slice o2 FL.length c2)) hlow (.slice o3 RL.length c3)); have hR8 := hide' (CpRlow (i := 3) (CpRlow (i := 2) (CpRlow (i := 1) hR5.out hlow (.slice o1 WL.length c1)) hlow (.slice o2 FL.length c2)) hlow (.slice o3 RL.length c3)); clear hE hO hR3 hl3; (try dsimp only)
          refine hK.out _ _ ?_ (fun hHeld => ?_)
          · trivial
          clear hK K
          try simp only [Act.put, List.setIfInBounds_toArray, List.set_cons_zero, List.set_cons_succ]
          refine wpAnyH_ready (rs := [10]) (by kernel_rfl) (by simp) ?_
          refine AllReadyH.cons (o := { dst := none, op := Op.store 22 (Operand.tmp 13) (Operand.tmp 6), type := 0, pos := "entry.go:80", after := #[{ on := 9, ground := Ground.data }, { on := 2, ground := Ground.data }, { on := 8, ground := Ground.chain }, { on := 0, ground := Ground.phase }, { on := 1, ground := Ground.phase }, { on := 2, ground := Ground.phase }, { on := 3, ground := Ground.phase }, { on := 4, ground := Ground.phase }, { on := 5, ground := Ground.textOnly Departure.lateStoresUnsure }, { on := 6, ground := Ground.phase }, { on := 7, ground := Ground.phase }, { on := 8, ground := Ground.textOnly Departure.lateStoresUnsure }], guard := none }) rfl (fun K hK => ?_) AllReadyH.nil
          go_simp
          refine hK.out _ _ ?_ (fun hHeld => ?_)
          · trivial
          clear hK K
          try simp only [Act.put, List.setIfInBounds_toArray, List.set_cons_zero, List.set_cons_succ]
          refine wpAnyH_take (i := 11) (oi := { dst := some 14, op := Op.fieldAddr 26 (Operand.tmp 1) 2, type := 0, pos := "entry.go:80", after := #[{ on := 0, ground := Ground.phase }, { on := 1, ground := Ground.phase }, { on := 2, ground := Ground.phase }, { on := 3, ground := Ground.phase }, { on := 4, ground := Ground.phase }, { on := 5, ground := Ground.phase }, { on := 6, ground := Ground.phase }, { on := 7, ground := Ground.phase }, { on := 8, ground := Ground.textOnly Departure.lateStoresUnsure }, { on := 9, ground := Ground.phase }, { on := 10, ground := Ground.phase }], guard := none }) (v := ?_) rfl (by kernel_rfl) (by kernel_rfl) (by kernel_rfl) (fun _ _ _ h => h) (Or.inl ⟨by rfl, ?_⟩) (by assumption) ?_
          rotate_left
          · intro w hSw; (try dsimp only at hSw); go_simp <;> with_reducible rfl
          simp only [Act.put, List.setIfInBounds_toArray, List.set_cons_zero, List.set_cons_succ]
          refine wpAnyH_ready (rs := [12]) (by kernel_rfl) (by simp) ?_
          refine AllReadyH.cons (o := { dst := none, op := Op.store 23 (Operand.tmp 14) (Operand.tmp 9), type := 0, pos := "entry.go:80", after := #[{ on := 11, ground := Ground.data }, { on := 5, ground := Ground.data }, { on := 10, ground := Ground.chain }, { on := 0, ground := Ground.phase }, { on := 1, ground := Ground.phase }, { on := 2, ground := Ground.phase }, { on := 3, ground := Ground.phase }, { on := 4, ground := Ground.phase }, { on := 5, ground := Ground.phase }, { on := 6, ground := Ground.phase }, { on := 7, ground := Ground.phase }, { on := 8, ground := Ground.textOnly Departure.lateStoresUnsure }, { on := 9, ground := Ground.phase }, { on := 10, ground := Ground.phase }], guard := none }) rfl (fun K hK => ?_) AllReadyH.nil
          go_simp
          refine hK.out _ _ ?_ (fun hHeld => ?_)
          · trivial
          clear hK K
          try simp only [Act.put, List.setIfInBounds_toArray, List.set_cons_zero, List.set_cons_succ]
          refine wpAnyH_take (i := 13) (oi := { dst := some 15, op := Op.fieldAddr 26 (Operand.tmp 1) 3, type := 0, pos := "entry.go:80", after := #[{ on := 0, ground := Ground.phase }, { on := 1, ground := Ground.phase }, { on := 2, ground := Ground.phase }, { on := 3, ground := Ground.phase }, { on := 4, ground := Ground.phase }, { on := 5, ground := Ground.phase }, { on := 6, ground := Ground.phase }, { on := 7, ground := Ground.phase }, { on := 8, ground := Ground.phase }, { on := 9, ground := Ground.phase }, { on := 10, ground := Ground.phase }, { on := 11, ground := Ground.phase }, { on := 12, ground := Ground.phase }], guard := none }) (v := ?_) rfl (by kernel_rfl) (by kernel_rfl) (by kernel_rfl) (fun _ _ _ h => h) (Or.inl ⟨by rfl, ?_⟩) (by assumption) ?_
          rotate_left
          · intro w hSw; (try dsimp only at hSw); go_simp <;> with_reducible rfl
          simp only [Act.put, List.setIfInBounds_toArray, List.set_cons_zero, List.set_cons_succ]
          refine wpAnyH_ready (rs := [14]) (by kernel_rfl) (by simp) ?_
          refine AllReadyH.cons (o := { dst := none, op := Op.store 24 (Operand.tmp 15) (Operand.tmp 12), type := 0, pos := "entry.go:80", after := #[{ on := 13, ground := Ground.data }, { on := 8, ground := Ground.data }, { on := 12, ground := Ground.chain }, { on := 0, ground := Ground.phase }, { on := 1, ground := Ground.phase }, { on := 2, ground := Ground.phase }, { on := 3, ground := Ground.phase }, { on := 4, ground := Ground.phase }, { on := 5, ground := Ground.phase }, { on := 6, ground := Ground.phase }, { on := 7, ground := Ground.phase }, { on := 8, ground := Ground.phase }, { on := 9, ground := Ground.phase }, { on := 10, ground := Ground.phase }, { on := 11, ground := Ground.phase }, { on := 12, ground := Ground.phase }], guard := none }) rfl (fun K hK => ?_) AllReadyH.nil
          go_simp
          refine hK.out _ _ ?_ (fun hHeld => ?_)
          · trivial
          clear hK K
          try simp only [Act.put, List.setIfInBounds_toArray, List.set_cons_zero, List.set_cons_succ]
          refine wpAnyH_done (by kernel_rfl) ?_ _
          skip
          go_wp2
          go_meet
          exact ⟨o1, c1, o2, c2, o3, c3, E, hE', q8, hS8, hT8, hR8⟩
        refine AllReadyH.cons (o := { dst := some 11, op := Op.load 24 (Operand.tmp 10), type := 24, pos := "entry.go:80", after := #[{ on := 6, ground := Ground.data }], guard := none }) rfl (fun K hK => ?_) AllReadyH.nil
        go_simp
        refine hK.out _ _ ?_ (fun hHeld => ?_)
        · trivial
        clear hK K
        try simp only [Act.put, List.setIfInBounds_toArray, List.set_cons_zero, List.set_cons_succ]
        refine wpAnyH_ready (rs := [2]) (by kernel_rfl) (by simp) ?_
        refine AllReadyH.cons (o := { dst := some 6, op := Op.call { callee := Callee.value (Operand.func 27), args := #[Operand.tmp 5], argTypes := #[22] }, type := 22, pos := "entry.go:80", after := #[{ on := 1, ground := Ground.data }], guard := none }) rfl (fun K hK => ?_) AllReadyH.nil
        go_simp
        refine (KW.out _ q1d.out.bl).mono ?_; rintro e w3 ⟨v3, rfl, hR1, hb3⟩; obtain ⟨o1, c1, rfl⟩ := own_shp hR1; have q3 := hide' (q1d.out.over hb3); have y2 := q3.out.c2; have y3 := q3.out.c3; have hS3 := hide' (own_down hR1 (show w.heap.size + 2 ≤ W1.drew.heap.size from hsz)); clear hR1; (try dsimp only)
        refine hK.out _ _ ?_ (fun hHeld => ?_)
        · trivial
        clear hK K
        try simp only [Act.put, List.setIfInBounds_toArray, List.set_cons_zero, List.set_cons_succ]
        refine wpAnyH_take (i := 9) (oi := { dst := some 13, op := Op.fieldAddr 26 (Operand.tmp 1) 1, type := 0, pos := "entry.go:80", after := #[{ on := 0, ground := Ground.phase }, { on := 1, ground := Ground.phase }, { on := 2, ground := Ground.phase }, { on := 3, ground := Ground.phase }, { on := 4, ground := Ground.phase }, { on := 5, ground := Ground.textOnly Departure.lateStoresUnsure }, { on := 6, ground := Ground.phase }, { on := 7, ground := Ground.phase }, { on := 8, ground := Ground.textOnly Departure.lateStoresUnsure }], guard := none }) (v := ?_) rfl (by kernel_rfl) (by kernel_rfl) (by kernel_rfl) (fun _ _ _ h => h) (Or.inl ⟨by rfl, ?_⟩) (by assumption) ?_
        rotate_left
        · intro w hSw; (try dsimp only at hSw); go_simp <;> with_reducible rfl
        simp only [Act.put, List.setIfInBounds_toArray, List.set_cons_zero, List.set_cons_succ]
        refine wpAnyH_ready (rs := [5]) (by kernel_rfl) (by simp) ?_
        refine AllReadyH.cons (o := { dst := some 9, op := Op.call { callee := Callee.value (Operand.func 18), args := #[Operand.tmp 8], argTypes := #[23] }, type := 23, pos := "entry.go:80", after := #[{ on := 4, ground := Ground.data }, { on := 2, ground := Ground.chain }], guard := none }) rfl (fun K hK => ?_) AllReadyH.nil
        go_simp
        refine (KF.out _ q3.out.bl).mono ?_; rintro e w4 ⟨v4, rfl, hR2, hb4⟩; obtain ⟨o2, c2, rfl⟩ := own_shp hR2; have q4 := hide' (q3.out.over hb4); have u3 := q4.out.c3; have hS4 := hide' (own_below hS3.out hb4 (Nat.le_refl _)); have hT4 := hide' (own_down hR2 q3.out.lt); clear hR2; (try dsimp only)
        refine hK.out _ _ ?_ (fun hHeld => ?_)
        · trivial
        clear hK K
        try simp only [Act.put, List.setIfInBounds_toArray, List.set_cons_zero, List.set_cons_succ]
        refine wpAnyH_ready (rs := [8]) (by kernel_rfl) (by simp) ?_
        refine AllReadyH.cons (o := { dst := some 12, op := Op.call { callee := Callee.value (Operand.func 28), args := #[Operand.tmp 11], argTypes := #[24] }, type := 24, pos := "entry.go:80", after := #[{ on := 7, ground := Ground.data }, { on := 5, ground := Ground.chain }], guard := none }) rfl (fun K hK => ?_) AllReadyH.nil
        go_simp
        refine (KR.out _ q4.out.bl).mono ?_; rintro e w5 ⟨v5, E, rfl, hE, hO, hR3, hb5⟩; have hl3 : E.length = RL.length := (by rw [← hE, List.length_map]); rw [hl3] at hR3; obtain ⟨o3, c3, rfl⟩ := own_shp hR3; have q5 := hide' (q4.out.over hb5); have hS5 := hide' (own_below hS4.out hb5 (Nat.le_refl _)); have hT5 := hide' (own_below hT4.out hb5 (Nat.le_refl _)); have hE' := hide' hE; have hR5 : Hid (CpR w (w.heap.size + 2) (.slice o3 RL.length c3) E 0 w5) := ⟨by rw [hl3]; exact own_down hR3 q4.out.lt, fun i p hp _ => hO p (List.mem_of_getElem? hp), fun i p _ hi => absurd hi (Nat.not_lt_zero _)⟩; have z1 := q5.out.c1; have f1 := q5.out.f 1; have q6 := hide' (q5.out.s1 (.slice o1 WL.length c1)); have z2 := q6.out.c2; have f2 := q6.out.f 2; have q7 := hide' (q6.out.s2 (.slice o2 FL.length c2)); have z3 := q7.out.c3; have f3 := q7.out.f 3; have q8 := hide' (q7.out.s3 (.slice o3 RL.length c3)); have hlow : w.heap.size < w.heap.size + 2 := (by omega); have hS8 := hide' (own_low (i := 3) (own_low (i := 2) (own_low (i := 1) hS5.out hlow (.slice o1 WL.length c1)) hlow (.slice o2 FL.length c2)) hlow (.slice o3 RL.length c3)); have hT8 := hide' (own_low (i := 3) (own_low (i := 2) (own_low (i := 1) hT5.out hlow (.slice o1 WL.length c1)) hlow (.slice o2 FL.length c2)) hlow (.slice o3 RL.length c3)); have hR8 := hide' (CpRlow (i := 3) (CpRlow (i := 2) (CpRlow (i := 1) hR5.out hlow (.slice o1 WL.length c1)) hlow (.slice o2 FL.length c2)) hlow (.slice o3 RL.length c3)); clear hE hO hR3 hl3; (try dsimp only)
        refine hK.out _ _ ?_ (fun hHeld => ?_)
        · trivial
        clear hK K
        try simp only [Act.put, List.setIfInBounds_toArray, List.set_cons_zero, List.set_cons_succ]
        refine wpAnyH_ready (rs := [10]) (by kernel_rfl) (by simp) ?_
        refine AllReadyH.cons (o := { dst := none, op := Op.store 22 (Operand.tmp 13) (Operand.tmp 6), type := 0, pos := "entry.go:80", after := #[{ on := 9, ground := Ground.data }, { on := 2, ground := Ground.data }, { on := 8, ground := Ground.chain }, { on := 0, ground := Ground.phase }, { on := 1, ground := Ground.phase }, { on := 2, ground := Ground.phase }, { on := 3, ground := Ground.phase }, { on := 4, ground := Ground.phase }, { on := 5, ground := Ground.textOnly Departure.lateStoresUnsure }, { on := 6, ground := Ground.phase }, { on := 7, ground := Ground.phase }, { on := 8, ground := Ground.textOnly Departure.lateStoresUnsure }], guard := none }) rfl (fun K hK => ?_) AllReadyH.nil
        go_simp
        refine hK.out _ _ ?_ (fun hHeld => ?_)
        · trivial
        clear hK K
        try simp only [Act.put, List.setIfInBounds_toArray, List.set_cons_zero, List.set_cons_succ]
        refine wpAnyH_take (i := 11) (oi := { dst := some 14, op := Op.fieldAddr 26 (Operand.tmp 1) 2, type := 0, pos := "entry.go:80", after := #[{ on := 0, ground := Ground.phase }, { on := 1, ground := Ground.phase }, { on := 2, ground := Ground.phase }, { on := 3, ground := Ground.phase }, { on := 4, ground := Ground.phase }, { on := 5, ground := Ground.phase }, { on := 6, ground := Ground.phase }, { on := 7, ground := Ground.phase }, { on := 8, ground := Ground.textOnly Departure.lateStoresUnsure }, { on := 9, ground := Ground.phase }, { on := 10, ground := Ground.phase }], guard := none }) (v := ?_) rfl (by kernel_rfl) (by kernel_rfl) (by kernel_rfl) (fun _ _ _ h => h) (Or.inl ⟨by rfl, ?_⟩) (by assumption) ?_
        rotate_left
        · intro w hSw; (try dsimp only at hSw); go_simp <;> with_reducible rfl
        simp only [Act.put, List.setIfInBounds_toArray, List.set_cons_zero, List.set_cons_succ]
        refine wpAnyH_ready (rs := [12]) (by kernel_rfl) (by simp) ?_
        refine AllReadyH.cons (o := { dst := none, op := Op.store 23 (Operand.tmp 14) (Operand.tmp 9), type := 0, pos := "entry.go:80", after := #[{ on := 11, ground := Ground.data }, { on := 5, ground := Ground.data }, { on := 10, ground := Ground.chain }, { on := 0, ground := Ground.phase }, { on := 1, ground := Ground.phase }, { on := 2, ground := Ground.phase }, { on := 3, ground := Ground.phase }, { on := 4, ground := Ground.phase }, { on := 5, ground := Ground.phase }, { on := 6, ground := Ground.phase }, { on := 7, ground := Ground.phase }, { on := 8, ground := Ground.textOnly Departure.lateStoresUnsure }, { on := 9, ground := Ground.phase }, { on := 10, ground := Ground.phase }], guard := none }) rfl (fun K hK => ?_) AllReadyH.nil
        go_simp
        refine hK.out _ _ ?_ (fun hHeld => ?_)
        · trivial
        clear hK K
        try simp only [Act.put, List.setIfInBounds_toArray, List.set_cons_zero, List.set_cons_succ]
        refine wpAnyH_take (i := 13) (oi := { dst := some 15, op := Op.fieldAddr 26 (Operand.tmp 1) 3, type := 0, pos := "entry.go:80", after := #[{ on := 0, ground := Ground.phase }, { on := 1, ground := Ground.phase }, { on := 2, ground := Ground.phase }, { on := 3, ground := Ground.phase }, { on := 4, ground := Ground.phase }, { on := 5, ground := Ground.phase }, { on := 6, ground := Ground.phase }, { on := 7, ground := Ground.phase }, { on := 8, ground := Ground.phase }, { on := 9, ground := Ground.phase }, { on := 10, ground := Ground.phase }, { on := 11, ground := Ground.phase }, { on := 12, ground := Ground.phase }], guard := none }) (v := ?_) rfl (by kernel_rfl) (by kernel_rfl) (by kernel_rfl) (fun _ _ _ h => h) (Or.inl ⟨by rfl, ?_⟩) (by assumption) ?_
        rotate_left
        · intro w hSw; (try dsimp only at hSw); go_simp <;> with_reducible rfl
        simp only [Act.put, List.setIfInBounds_toArray, List.set_cons_zero, List.set_cons_succ]
        refine wpAnyH_ready (rs := [14]) (by kernel_rfl) (by simp) ?_
        refine AllReadyH.cons (o := { dst := none, op := Op.store 24 (Operand.tmp 15) (Operand.tmp 12), type := 0, pos := "entry.go:80", after := #[{ on := 13, ground := Ground.data }, { on := 8, ground := Ground.data }, { on := 12, ground := Ground.chain }, { on := 0, ground := Ground.phase }, { on := 1, ground := Ground.phase }, { on := 2, ground := Ground.phase }, { on := 3, ground := Ground.phase }, { on := 4, ground := Ground.phase }, { on := 5, ground := Ground.phase }, { on := 6, ground := Ground.phase }, { on := 7, ground := Ground.phase }, { on := 8, ground := Ground.phase }, { on := 9, ground := Ground.phase }, { on := 10, ground := Ground.phase }, { on := 11, ground := Ground.phase }, { on := 12, ground := Ground.phase }], guard := none }) rfl (fun K hK => ?_) AllReadyH.nil
        go_simp
        refine hK.out _ _ ?_ (fun hHeld => ?_)
        · trivial
        clear hK K
        try simp only [Act.put, List.setIfInBounds_toArray, List.set_cons_zero, List.set_cons_succ]
        refine wpAnyH_done (by kernel_rfl) ?_ _
        skip
        go_wp2
        go_meet
        exact ⟨o1, c1, o2, c2, o3, c3, E, hE', q8, hS8, hT8, hR8⟩
      refine AllReadyH.cons (o := { dst := some 11, op := Op.load 24 (Operand.tmp 10), type := 24, pos := "entry.go:80", after := #[{ on := 6, ground := Ground.data }], guard := none }) rfl (fun K hK => ?_) AllReadyH.nil
      go_simp
      refine hK.out _ _ ?_ (fun hHeld => ?_)
      · trivial
      clear hK K
      try simp only [Act.put, List.setIfInBounds_toArray, List.set_cons_zero, List.set_cons_succ]
      refine wpAnyH_ready (rs := [2, 4]) (by kernel_rfl) (by simp) ?_
      refine AllReadyH.cons (o := { dst := some 6, op := Op.call { callee := Callee.value (Operand.func 27), args := #[Operand.tmp 5], argTypes := #[22] }, type := 22, pos := "entry.go:80", after := #[{ on := 1, ground := Ground.data }], guard := none }) rfl (fun K hK => ?_) ?_
      · skip
        go_simp
        refine (KW.out _ q1d.out.bl).mono ?_; rintro e w3 ⟨v3, rfl, hR1, hb3⟩; obtain ⟨o1, c1, rfl⟩ := own_shp hR1; have q3 := hide' (q1d.out.over hb3); have y2 := q3.out.c2; have y3 := q3.out.c3; have hS3 := hide' (own_down hR1 (show w.heap.size + 2 ≤ W1.drew.heap.size from hsz)); clear hR1; (try dsimp only)
        refine hK.out _ _ ?_ (fun hHeld => ?_)
        · trivial
        clear hK K
        try simp only [Act.put, List.setIfInBounds_toArray, List.set_cons_zero, List.set_cons_succ]
        refine wpAnyH_ready (rs := [4]) (by kernel_rfl) (by simp) ?_
        refine AllReadyH.cons (o := { dst := some 8, op := Op.load 23 (Operand.tmp 7), type := 23, pos := "entry.go:80", after := #[{ on := 3, ground := Ground.data }], guard := none }) rfl (fun K hK => ?_) AllReadyH.nil
        go_simp
        refine hK.out _ _ ?_ (fun hHeld => ?_)
        · trivial
        clear hK K
        try simp only [Act.put, List.setIfInBounds_toArray, List.set_cons_zero, List.set_cons_succ]
        refine wpAnyH_take (i := 9) (oi := { dst := some 13, op := Op.fieldAddr 26 (Operand.tmp 1) 1, type := 0, pos := "entry.go:80", after := #[{ on := 0, ground := Ground.phase }, { on := 1, ground := Ground.phase }, { on := 2, ground := Ground.phase }, { on := 3, ground := Ground.phase }, { on := 4, ground := Ground.phase }, { on := 5, ground := Ground.textOnly Departure.lateStoresUnsure }, { on := 6, ground := Ground.phase }, { on := 7, ground := Ground.phase }, { on := 8, ground := Ground.textOnly Departure.lateStoresUnsure }], guard := none }) (v := ?_) rfl (by kernel_rfl) (by kernel_rfl) (by kernel_rfl) (fun _ _ _ h => h) (Or.inl ⟨by rfl, ?_⟩) (by assumption) ?_
        rotate_left
        · intro w hSw; (try dsimp only at hSw); go_simp <;> with_reducible rfl
        simp only [Act.put, List.setIfInBounds_toArray, List.set_cons_zero, List.set_cons_succ]
        refine wpAnyH_ready (rs := [5]) (by kernel_rfl) (by simp) ?_
        refine AllReadyH.cons (o := { dst := some 9, op := Op.call { callee := Callee.value (Operand.func 18), args := #[Operand.tmp 8], argTypes := #[23] }, type := 23, pos := "entry.go:80", after := #[{ on := 4, ground := Ground.data }, { on := 2, ground := Ground.chain }], guard := none }) rfl (fun K hK => ?_) AllReadyH.nil
        go_simp
        refine (KF.out _ q3.out.bl).mono ?_; rintro e w4 ⟨v4, rfl, hR2, hb4⟩; obtain ⟨o2, c2, rfl⟩ := own_shp hR2; have q4 := hide' (q3.out.over hb4); have u3 := q4.out.c3; have hS4 := hide' (own_below hS3.out hb4 (Nat.le_refl _)); have hT4 := hide' (own_down hR2 q3.out.lt); clear hR2; (try dsimp only)
        refine hK.out _ _ ?_ (fun hHeld => ?_)
        · trivial
        clear hK K
        try simp only [Act.put, List.setIfInBounds_toArray, List.set_cons_zero, List.set_cons_succ]
        refine wpAnyH_ready (rs := [8]) (by kernel_rfl) (by simp) ?_
        refine AllReadyH.cons (o := { dst := some 12, op := Op.call { callee := Callee.value (Operand.func 28), args := #[Operand.tmp 11], argTypes := #[24] }, type := 24, pos := "entry.go:80", after := #[{ on := 7, ground := Ground.data }, { on := 5, ground := Ground.chain }], guard := none }) rfl (fun K hK => ?_) AllReadyH.nil
        go_simp
        refine (KR.out _ q4.out.bl).mono ?_; rintro e w5 ⟨v5, E, rfl, hE, hO, hR3, hb5⟩; have hl3 : E.length = RL.length := (by rw [← hE, List.length_map]); rw [hl3] at hR3; obtain ⟨o3, c3, rfl⟩ := own_shp hR3; have q5 := hide' (q4.out.over hb5); have hS5 := hide' (own_below hS4.out hb5 (Nat.le_refl _)); have hT5 := hide' (own_below hT4.out hb5 (Nat.le_refl _)); have hE' := hide' hE; have hR5 : Hid (CpR w (w.heap.size + 2) (.slice o3 RL.length c3) E 0 w5) := ⟨by rw [hl3]; exact own_down hR3 q4.out.lt, fun i p hp _ => hO p (List.mem_of_getElem? hp), fun i p _ hi => absurd hi (Nat.not_lt_zero _)⟩; have z1 := q5.out.c1; have f1 := q5.out.f 1; have q6 := hide' (q5.out.s1 (.slice o1 WL.length c1)); have z2 := q6.out.c2; have f2 := q6.out.f 2; have q7 := hide' (q6.out.s2 (.slice o2 FL.length c2)); have z3 := q7.out.c3; have f3 := q7.out.f 3; have q8 := hide' (q7.out.s3 (.slice o3 RL.length c3)); have hlow : w.heap.size < w.heap.size + 2 := (by omega); have hS8 := hide' (own_low (i := 3) (own_low (i := 2) (own_low (i := 1) hS5.out hlow (.slice o1 WL.length c1)) hlow (.slice o2 FL.length c2)) hlow (.slice o3 RL.length c3)); have hT8 := hide' (own_low (i := 3) (own_low (i := 2) (own_low (i := 1) hT5.out hlow (.slice o1 WL.length c1)) hlow (.slice o2 FL.length c2)) hlow (.slice o3 RL.length c3)); have hR8 := hide' (CpRlow (i := 3) (CpRlow (i := 2) (CpRlow (i := 1) hR5.out hlow (.slice o1 WL.length c1)) hlow (.slice o2 FL.length c2)) hlow (.slice o3 RL.length c3)); clear hE hO hR3 hl3; (try dsimp only)
        refine hK.out _ _ ?_ (fun hHeld => ?_)
        · trivial
        clear hK K
        try simp only [Act.put, List.setIfInBounds_toArray, List.set_cons_zero, List.set_cons_succ]
        refine wpAnyH_ready (rs := [10]) (by kernel_rfl) (by simp) ?_
        refine AllReadyH.cons (o := { dst := none, op := Op.store 22 (Operand.tmp 13) (Operand.tmp 6), type := 0, pos := "entry.go:80", after := #[{ on := 9, ground := Ground.data }, { on := 2, ground := Ground.data }, { on := 8, ground := Ground.chain }, { on := 0, ground := Ground.phase }, { on := 1, ground := Ground.phase }, { on := 2, ground := Ground.phase }, { on := 3, ground := Ground.phase }, { on := 4, ground := Ground.phase }, { on := 5, ground := Ground.textOnly Departure.lateStoresUnsure }, { on := 6, ground := Ground.phase }, { on := 7, ground := Ground.phase }, { on := 8, ground := Ground.textOnly Departure.lateStoresUnsure }], guard := none }) rfl (fun K hK => ?_) AllReadyH.nil
        go_simp
        refine hK.out _ _ ?_ (fun hHeld => ?_)
        · trivial
        clear hK K
        try simp only [Act.put, List.setIfInBounds_toArray, List.set_cons_zero, List.set_cons_succ]
        refine wpAnyH_take (i := 11) (oi := { dst := some 14, op := Op.fieldAddr 26 (Operand.tmp 1) 2, type := 0, pos := "entry.go:80", after := #[{ on := 0, ground := Ground.phase }, { on := 1, ground := Ground.phase }, { on := 2, ground := Ground.phase }, { on := 3, ground := Ground.phase }, { on := 4, ground := Ground.phase }, { on := 5, ground := Ground.phase }, { on := 6, ground := Ground.phase }, { on := 7, ground := Ground.phase }, { on := 8, ground := Ground.textOnly Departure.lateStoresUnsure }, { on := 9, ground := Ground.phase }, { on := 10, ground := Ground.phase }], guard := none }) (v := ?_) rfl (by kernel_rfl) (by kernel_rfl) (by kernel_rfl) (fun _ _ _ h => h) (Or.inl ⟨by rfl, ?_⟩) (by assumption) ?_
        rotate_left
        · intro w hSw; (try dsimp only at hSw); go_simp <;> with_reducible rfl
        simp only [Act.put, List.setIfInBounds_toArray, List.set_cons_zero, List.set_cons_succ]
        refine wpAnyH_ready (rs := [12]) (by kernel_rfl) (by simp) ?_
        refine AllReadyH.cons (o := { dst := none, op := Op.store 23 (Operand.tmp 14) (Operand.tmp 9), type := 0, pos := "entry.go:80", after := #[{ on := 11, ground := Ground.data }, { on := 5, ground := Ground.data }, { on := 10, ground := Ground.chain }, { on := 0, ground := Ground.phase }, { on := 1, ground := Ground.phase }, { on := 2, ground := Ground.phase }, { on := 3, ground := Ground.phase }, { on := 4, ground := Ground.phase }, { on := 5, ground := Ground.phase }, { on := 6, ground := Ground.phase }, { on := 7, ground := Ground.phase }, { on := 8, ground := Ground.textOnly Departure.lateStoresUnsure }, { on := 9, ground := Ground.phase }, { on := 10, ground := Ground.phase }], guard := none }) rfl (fun K hK => ?_) AllReadyH.nil
        go_simp
        refine hK.out _ _ ?_ (fun hHeld => ?_)
        · trivial
        clear hK K
        try simp only [Act.put, List.setIfInBounds_toArray, List.set_cons_zero, List.set_cons_succ]
        refine wpAnyH_take (i := 13) (oi := { dst := some 15, op := Op.fieldAddr 26 (Operand.tmp 1) 3, type := 0, pos := "entry.go:80", after := #[{ on := 0, ground := Ground.phase }, { on := 1, ground := Ground.phase }, { on := 2, ground := Ground.phase }, { on := 3, ground := Ground.phase }, { on := 4, ground := Ground.phase }, { on := 5, ground := Ground.phase }, { on := 6, ground := Ground.phase }, { on := 7, ground := Ground.phase }, { on := 8, ground := Ground.phase }, { on := 9, ground := Ground.phase }, { on := 10, ground := Ground.phase }, { on := 11, ground := Ground.phase }, { on := 12, ground := Ground.phase }], guard := none }) (v := ?_) rfl (by kernel_rfl) (by kernel_rfl) (by kernel_rfl) (fun _ _ _ h => h) (Or.inl ⟨by rfl, ?_⟩) (by assumption) ?_
        rotate_left
        · intro w hSw; (try dsimp only at hSw); go_simp <;> with_reducible rfl
        simp only [Act.put, List.setIfInBounds_toArray, List.set_cons_zero, List.set_cons_succ]
        refine wpAnyH_ready (rs := [14]) (by kernel_rfl) (by simp) ?_
        refine AllReadyH.cons (o := { dst := none, op := Op.store 24 (Operand.tmp 15) (Operand.tmp 12), type := 0, pos := "entry.go:80", after := #[{ on := 13, ground := Ground.data }, { on := 8, ground := Ground.data }, { on := 12, ground := Ground.chain }, { on := 0, ground := Ground.phase }, { on := 1, ground := Ground.phase }, { on := 2, ground := Ground.phase }, { on := 3, ground := Ground.phase }, { on := 4, ground := Ground.phase }, { on := 5, ground := Ground.phase }, { on := 6, ground := Ground.phase }, { on := 7, ground := Ground.phase }, { on := 8, ground := Ground.phase }, { on := 9, ground := Ground.phase }, { on := 10, ground := Ground.phase }, { on := 11, ground := Ground.phase }, { on := 12, ground := Ground.phase }], guard := none }) rfl (fun K hK => ?_) AllReadyH.nil
        go_simp
        refine hK.out _ _ ?_ (fun hHeld => ?_)
        · trivial
        clear hK K
        try simp only [Act.put, List.setIfInBounds_toArray, List.set_cons_zero, List.set_cons_succ]
        refine wpAnyH_done (by kernel_rfl) ?_ _
        skip
        go_wp2
        go_meet
        exact ⟨o1, c1, o2, c2, o3, c3, E, hE', q8, hS8, hT8, hR8⟩
      refine AllReadyH.cons (o := { dst := some 8, op := Op.load 23 (Operand.tmp 7), type := 23, pos := "entry.go:80", after := #[{ on := 3, ground := Ground.data }], guard := none }) rfl (fun K hK => ?_) AllReadyH.nil
      go_simp
      refine hK.out _ _ ?_ (fun hHeld => ?_)
      · trivial
      clear hK K
      try simp only [Act.put, List.setIfInBounds_toArray, List.set_cons_zero, List.set_cons_succ]
      refine wpAnyH_ready (rs := [2]) (by kernel_rfl) (by simp) ?_
      refine AllReadyH.cons (o := { dst := some 6, op := Op.call { callee := Callee.value (Operand.func 27), args := #[Operand.tmp 5], argTypes := #[22] }, type := 22, pos := "entry.go:80", after := #[{ on := 1, ground := Ground.data }], guard := none }) rfl (fun K hK => ?_) AllReadyH.nil
      go_simp
      refine (KW.out _ q1d.out.bl).mono ?_; rintro e w3 ⟨v3, rfl, hR1, hb3⟩; obtain ⟨o1, c1, rfl⟩ := own_shp hR1; have q3 := hide' (q1d.out.over hb3); have y2 := q3.out.c2; have y3 := q3.out.c3; have hS3 := hide' (own_down hR1 (show w.heap.size + 2 ≤ W1.drew.heap.size from hsz)); clear hR1; (try dsimp only)
      refine hK.out _ _ ?_ (fun hHeld => ?_)
      · trivial
      clear hK K
      try simp only [Act.put, List.setIfInBounds_toArray, List.set_cons_zero, List.set_cons_succ]
      refine wpAnyH_take (i := 9) (oi := { dst := some 13, op := Op.fieldAddr 26 (Operand.tmp 1) 1, type := 0, pos := "entry.go:80", after := #[{ on := 0, ground := Ground.phase }, { on := 1, ground := Ground.phase }, { on := 2, ground := Ground.phase }, { on := 3, ground := Ground.phase }, { on := 4, ground := Ground.phase }, { on := 5, ground := Ground.textOnly Departure.lateStoresUnsure }, { on := 6, ground := Ground.phase }, { on := 7, ground := Ground.phase }, { on := 8, ground := Ground.textOnly Departure.lateStoresUnsure }], guard := none }) (v := ?_) rfl (by kernel_rfl) (by kernel_rfl) (by kernel_rfl) (fun _ _ _ h => h) (Or.inl ⟨by rfl, ?_⟩) (by assumption) ?_
      rotate_left
      · intro w hSw; (try dsimp only at hSw); go_simp <;> with_reducible rfl
      simp only [Act.put, List.setIfInBounds_toArray, List.set_cons_zero, List.set_cons_succ]
      refine wpAnyH_ready (rs := [5]) (by kernel_rfl) (by simp) ?_
      refine AllReadyH.cons (o := { dst := some 9, op := Op.call { callee := Callee.value (Operand.func 18), args := #[Operand.tmp 8], argTypes := #[23] }, type := 23, pos := "entry.go:80", after := #[{ on := 4, ground := Ground.data }, { on := 2, ground := Ground.chain }], guard := none }) rfl (fun K hK => ?_) AllReadyH.nil
      go_simp
      refine (KF.out _ q3.out.bl).mono ?_; rintro e w4 ⟨v4, rfl, hR2, hb4⟩; obtain ⟨o2, c2, rfl⟩ := own_shp hR2; have q4 := hide' (q3.out.over hb4); have u3 := q4.out.c3; have hS4 := hide' (own_below hS3.out hb4 (Nat.le_refl _)); have hT4 := hide' (own_down hR2 q3.out.lt); clear hR2; (try dsimp only)
      refine hK.out _ _ ?_ (fun hHeld => ?_)
      · trivial
      clear hK K
      try simp only [Act.put, List.setIfInBounds_toArray, List.set_cons_zero, List.set_cons_succ]
      refine wpAnyH_ready (rs := [8]) (by kernel_rfl) (by simp) ?_
      refine AllReadyH.cons (o := { dst := some 12, op := Op.call { callee := Callee.value (Operand.func 28), args := #[Operand.tmp 11], argTypes := #[24] }, type := 24, pos := "entry.go:80", after := #[{ on := 7, ground := Ground.data }, { on := 5, ground := Ground.chain }], guard := none }) rfl (fun K hK => ?_) AllReadyH.nil
      go_simp
      refine (KR.out _ q4.out.bl).mono ?_; rintro e w5 ⟨v5, E, rfl, hE, hO, hR3, hb5⟩; have hl3 : E.length = RL.length := (by rw [← hE, List.length_map]); rw [hl3] at hR3; obtain ⟨o3, c3, rfl⟩ := own_shp hR3; have q5 := hide' (q4.out.over hb5); have hS5 := hide' (own_below hS4.out hb5 (Nat.le_refl _)); have hT5 := hide' (own_below hT4.out hb5 (Nat.le_refl _)); have hE' := hide' hE; have hR5 : Hid (CpR w (w.heap.size + 2) (.slice o3 RL.length c3) E 0 w5) := ⟨by rw [hl3]; exact own_down hR3 q4.out.lt, fun i p hp _ => hO p (List.mem_of_getElem? hp), fun i p _ hi => absurd hi (Nat.not_lt_zero _)⟩; have z1 := q5.out.c1; have f1 := q5.out.f 1; have q6 := hide' (q5.out.s1 (.slice o1 WL.length c1)); have z2 := q6.out.c2; have f2 := q6.out.f 2; have q7 := hide' (q6.out.s2 (.slice o2 FL.length c2)); have z3 := q7.out.c3; have f3 := q7.out.f 3; have q8 := hide' (q7.out.s3 (.slice o3 RL.length c3)); have hlow : w.heap.size < w.heap.size + 2 := (by omega); have hS8 := hide' (own_low (i := 3) (own_low (i := 2) (own_low (i := 1) hS5.out hlow (.slice o1 WL.length c1)) hlow (.slice o2 FL.length c2)) hlow (.slice o3 RL.length c3)); have hT8 := hide' (own_low (i := 3) (own_low (i := 2) (own_low (i := 1) hT5.out hlow (.slice o1 WL.length c1)) hlow (.slice o2 FL.length c2)) hlow (.slice o3 RL.length c3)); have hR8 := hide' (CpRlow (i := 3) (CpRlow (i := 2) (CpRlow (i := 1) hR5.out hlow (.slice o1 WL.length c1)) hlow (.slice o2 FL.length c2)) hlow (.slice o3 RL.length c3)); clear hE hO hR3 hl3; (try dsimp only)
      refine hK.out _ _ ?_ (fun hHeld => ?_)
      · trivial
      clear hK K
      try simp only [Act.put, List.setIfInBounds_toArray, List.set_cons_zero, List.set_cons_succ]
      refine wpAnyH_ready (rs := [10]) (by kernel_rfl) (by simp) ?_
      refine AllReadyH.cons (o := { dst := none, op := Op.store 22 (Operand.tmp 13) (Operand.tmp 6), type := 0, pos := "entry.go:80", after := #[{ on := 9, ground := Ground.data }, { on := 2, ground := Ground.data }, { on := 8, ground := Ground.chain }, { on := 0, ground := Ground.phase }, { on := 1, ground := Ground.phase }, { on := 2, ground := Ground.phase }, { on := 3, ground := Ground.phase }, { on := 4, ground := Ground.phase }, { on := 5, ground := Ground.textOnly Departure.lateStoresUnsure }, { on := 6, ground := Ground.phase }, { on := 7, ground := Ground.phase }, { on := 8, ground := Ground.textOnly Departure.lateStoresUnsure }], guard := none }) rfl (fun K hK => ?_) AllReadyH.nil
      go_simp
      refine hK.out _ _ ?_ (fun hHeld => ?_)
      · trivial
      clear hK K
      try simp only [Act.put, List.setIfInBounds_toArray, List.set_cons_zero, List.set_cons_succ]
      refine wpAnyH_take (i := 11) (oi := { dst := some 14, op := Op.fieldAddr 26 (Operand.tmp 1) 2, type := 0, pos := "entry.go:80", after := #[{ on := 0, ground := Ground.phase }, { on := 1, ground := Ground.phase }, { on := 2, ground := Ground.phase }, { on := 3, ground := Ground.phase }, { on := 4, ground := Ground.phase }, { on := 5, ground := Ground.phase }, { on := 6, ground := Ground.phase }, { on := 7, ground := Ground.phase }, { on := 8, ground := Ground.textOnly Departure.lateStoresUnsure }, { on := 9, ground := Ground.phase }, { on := 10, ground := Ground.phase }], guard := none }) (v := ?_) rfl (by kernel_rfl) (by kernel_rfl) (by kernel_rfl) (fun _ _ _ h => h) (Or.inl ⟨by rfl, ?_⟩) (by assumption) ?_
      rotate_left
      · intro w hSw; (try dsimp only at hSw); go_simp <;> with_reducible rfl
      simp only [Act.put, List.setIfInBounds_toArray, List.set_cons_zero, List.set_cons_succ]
      refine wpAnyH_ready (rs := [12]) (by kernel_rfl) (by simp) ?_
      refine AllReadyH.cons (o := { dst := none, op := Op.store 23 (Operand.tmp 14) (Operand.tmp 9), type := 0, pos := "entry.go:80", after := #[{ on := 11, ground := Ground.data }, { on := 5, ground := Ground.data }, { on := 10, ground := Ground.chain }, { on := 0, ground := Ground.phase }, { on := 1, ground := Ground.phase }, { on := 2, ground := Ground.phase }, { on := 3, ground := Ground.phase }, { on := 4, ground := Ground.phase }, { on := 5, ground := Ground.phase }, { on := 6, ground := Ground.phase }, { on := 7, ground := Ground.phase }, { on := 8, ground := Ground.textOnly Departure.lateStoresUnsure }, { on := 9, ground := Ground.phase }, { on := 10, ground := Ground.phase }], guard := none }) rfl (fun K hK => ?_) AllReadyH.nil
      go_simp
      refine hK.out _ _ ?_ (fun hHeld => ?_)
      · trivial
      clear hK K
      try simp only [Act.put, List.setIfInBounds_toArray, List.set_cons_zero, List.set_cons_succ]
      refine wpAnyH_take (i := 13) (oi := { dst := some 15, op := Op.fieldAddr 26 (Operand.tmp 1) 3, type := 0, pos := "entry.go:80", after := #[{ on := 0, ground := Ground.phase }, { on := 1, ground := Ground.phase }, { on := 2, ground := Ground.phase }, { on := 3, ground := Ground.phase }, { on := 4, ground := Ground.phase }, { on := 5, ground := Ground.phase }, { on := 6, ground := Ground.phase }, { on := 7, ground := Ground.phase }, { on := 8, ground := Ground.phase }, { on := 9, ground := Ground.phase }, { on := 10, ground := Ground.phase }, { on := 11, ground := Ground.phase }, { on := 12, ground := Ground.phase }], guard := none }) (v := ?_) rfl (by kernel_rfl) (by kernel_rfl) (by kernel_rfl) (fun _ _ _ h => h) (Or.inl ⟨by rfl, ?_⟩) (by assumption) ?_
      rotate_left
      · intro w hSw; (try dsimp only at hSw); go_simp <;> with_reducible rfl
      simp only [Act.put, List.setIfInBounds_toArray, List.set_cons_zero, List.set_cons_succ]
      refine wpAnyH_ready (rs := [14]) (by kernel_rfl) (by simp) ?_
      refine AllReadyH.cons (o := { dst := none, op := Op.store 24 (Operand.tmp 15) (Operand.tmp 12), type := 0, pos := "entry.go:80", after := #[{ on := 13, ground := Ground.data }, { on := 8, ground := Ground.data }, { on := 12, ground := Ground.chain }, { on := 0, ground := Ground.phase }, { on := 1, ground := Ground.phase }, { on := 2, ground := Ground.phase }, { on := 3, ground := Ground.phase }, { on := 4, ground := Ground.phase }, { on := 5, ground := Ground.phase }, { on := 6, ground := Ground.phase }, { on := 7, ground := Ground.phase }, { on := 8, ground := Ground.phase }, { on := 9, ground := Ground.phase }, { on := 10, ground := Ground.phase }, { on := 11, ground := Ground.phase }, { on := 12, ground := Ground.phase }], guard := none }) rfl (fun K hK => ?_) AllReadyH.nil
      go_simp
      refine hK.out _ _ ?_ (fun hHeld => ?_)
      · trivial
      clear hK K
      try simp only [Act.put, List.setIfInBounds_toArray, List.set_cons_zero, List.set_cons_succ]
      refine wpAnyH_done (by kernel_rfl) ?_ _
      skip
      go_wp2
      go_meet
      exact ⟨o1, c1, o2, c2, o3, c3, E, hE', q8, hS8, hT8, hR8⟩
    refine AllReadyH.cons (o := { dst := some 8, op := Op.load 23 (Operand.tmp 7), type := 23, pos := "entry.go:80", after := #[{ on := 3, ground := Ground.data }], guard := none }) rfl (fun K hK => ?_) ?_
    · skip
      go_simp
      refine hK.out _ _ ?_ (fun hHeld => ?_)
      · trivial
      clear hK K
      try simp only [Act.put, List.setIfInBounds_toArray, List.set_cons_zero, List.set_cons_succ]
      refine wpAnyH_ready (rs := [1, 7]) (by kernel_rfl) (by simp) ?_
      refine AllReadyH.cons (o := { dst := some 5, op := Op.load 22 (Operand.tmp 4), type := 22, pos := "entry.go:80", after := #[{ on := 0, ground := Ground.data }], guard := none }) rfl (fun K hK => ?_) ?_
      · skip
        go_simp
        refine hK.out _ _ ?_ (fun hHeld => ?_)
        · trivial
        clear hK K
        try simp only [Act.put, List.setIfInBounds_toArray, List.set_cons_zero, List.set_cons_succ]
        refine wpAnyH_ready (rs := [2, 7]) (by kernel_rfl) (by simp) ?_
        refine AllReadyH.cons (o := { dst := some 6, op := Op.call { callee := Callee.value (Operand.func 27), args := #[Operand.tmp 5], argTypes := #[22] }, type := 22, pos := "entry.go:80", after := #[{ on := 1, ground := Ground.data }], guard := none }) rfl (fun K hK => ?_) ?_
        · skip
          go_simp
          refine (KW.out _ q1d.out.bl).mono ?_; rintro e w3 ⟨v3, rfl, hR1, hb3⟩; obtain ⟨o1, c1, rfl⟩ := own_shp hR1; have q3 := hide' (q1d.out.over hb3); have y2 := q3.out.c2; have y3 := q3.out.c3; have hS3 := hide' (own_down hR1 (show w.heap.size + 2 ≤ W1.drew.heap.size from hsz)); clear hR1; (try dsimp only)
          refine hK.out _ _ ?_ (fun hHeld => ?_)
          · trivial
          clear hK K
          try simp only [Act.put, List.setIfInBounds_toArray, List.set_cons_zero, List.set_cons_succ]
          refine wpAnyH_ready (rs := [5, 7]) (by kernel_rfl) (by simp) ?_
          refine AllReadyH.cons (o := { dst := some 9, op := Op.call { callee := Callee.value (Operand.func 18), args := #[Operand.tmp 8], argTypes := #[23] }, type := 23, pos := "entry.go:80", after := #[{ on := 4, ground := Ground.data }, { on := 2, ground := Ground.chain }], guard := none }) rfl (fun K hK => ?_) ?_
          · skip
            go_simp
            refine (KF.out _ q3.out.bl).mono ?_; rintro e w4 ⟨v4, rfl, hR2, hb4⟩; obtain ⟨o2, c2, rfl⟩ := own_shp hR2; have q4 := hide' (q3.out.over hb4); have u3 := q4.out.c3; have hS4 := hide' (own_below hS3.out hb4 (Nat.le_refl _)); have hT4 := hide' (own_down hR2 q3.out.lt); clear hR2; (try dsimp only)
            refine hK.out _ _ ?_ (fun hHeld => ?_)
            · trivial
            clear hK K
            try simp only [Act.put, List.setIfInBounds_toArray, List.set_cons_zero, List.set_cons_succ]
            refine wpAnyH_ready (rs := [7]) (by kernel_rfl) (by simp) ?_
            refine AllReadyH.cons (o := { dst := some 11, op := Op.load 24 (Operand.tmp 10), type := 24, pos := "entry.go:80", after := #[{ on := 6, ground := Ground.data }], guard := none }) rfl (fun K hK => ?_) AllReadyH.nil
            go_simp
            refine hK.out _ _ ?_ (fun hHeld => ?_)
            · trivial
            clear hK K
            try simp only [Act.put, List.setIfInBounds_toArray, List.set_cons_zero, List.set_cons_succ]
            refine wpAnyH_take (i := 9) (oi := { dst := some 13, op := Op.fieldAddr 26 (Operand.tmp 1) 1, type := 0, pos := "entry.go:80", after := #[{ on := 0, ground := Ground.phase }, { on := 1, ground := Ground.phase }, { on := 2, ground := Ground.phase }, { on := 3, ground := Ground.phase }, { on := 4, ground := Ground.phase }, { on := 5, ground := Ground.textOnly Departure.lateStoresUnsure }, { on := 6, ground := Ground.phase }, { on := 7, ground := Ground.phase }, { on := 8, ground := Ground.textOnly Departure.lateStoresUnsure }], guard := none }) (v := ?_) rfl (by kernel_rfl) (by kernel_rfl) (by kernel_rfl) (fun _ _ _ h => h) (Or.inl ⟨by rfl, ?_⟩) (by assumption) ?_
            rotate_left
            · intro w hSw; (try dsimp only at hSw); go_simp <;> with_reducible rfl
            simp only [Act.put, List.setIfInBounds_toArray, List.set_cons_zero, List.set_cons_succ]
            refine wpAnyH_ready (rs := [8]) (by kernel_rfl) (by simp) ?_
            refine AllReadyH.cons (o := { dst := some 12, op := Op.call { callee := Callee.value (Operand.func 28), args := #[Operand.tmp 11], argTypes := #[24] }, type := 24, pos := "entry.go:80", after := #[{ on := 7, ground := Ground.data }, { on := 5, ground := Ground.chain }], guard := none }) rfl (fun K hK => ?_) AllReadyH.nil
            go_simp
            refine (KR.out _ q4.out.bl).mono ?_; rintro e w5 ⟨v5, E, rfl, hE, hO, hR3, hb5⟩; have hl3 : E.length = RL.length := (by rw [← hE, List.length_map]); rw [hl3] at hR3; obtain ⟨o3, c3, rfl⟩ := own_shp hR3; have q5 := hide' (q4.out.over hb5); have hS5 := hide' (own_below hS4.out hb5 (Nat.le_refl _)); have hT5 := hide' (own_below hT4.out hb5 (Nat.le_refl _)); have hE' := hide' hE; have hR5 : Hid (CpR w (w.heap.size + 2) (.slice o3 RL.length c3) E 0 w5) := ⟨by rw [hl3]; exact own_down hR3 q4.out.lt, fun i p hp _ => hO p (List.mem_of_getElem? hp), fun i p _ hi => absurd hi (Nat.not_lt_zero _)⟩; have z1 := q5.out.c1; have f1 := q5.out.f 1; have q6 := hide' (q5.out.s1 (.slice o1 WL.length c1)); have z2 := q6.out.c2; have f2 := q6.out.f 2; have q7 := hide' (q6.out.s2 (.slice o2 FL.length c2)); have z3 := q7.out.c3; have f3 := q7.out.f 3; have q8 := hide' (q7.out.s3 (.slice o3 RL.length c3)); have hlow : w.heap.size < w.heap.size + 2 := (by omega); have hS8 := hide' (own_low (i := 3) (own_low (i := 2) (own_low (i := 1) hS5.out hlow (.slice o1 WL.length c1)) hlow (.slice o2 FL.length c2)) hlow (.slice o3 RL.length c3)); have hT8 := hide' (own_low (i := 3) (own_low (i := 2) (own_low (i := 1) hT5.out hlow (.slice o1 WL.length c1)) hlow (.slice o2 FL.length c2)) hlow (.slice o3 RL.length c3)); have hR8 := hide' (CpRlow (i := 3) (CpRlow (i := 2) (CpRlow (i := 1) hR5.out hlow (.slice o1 WL.length c1)) hlow (.slice o2 FL.length c2)) hlow (.slice o3 RL.length c3)); clear hE hO hR3 hl3; (try dsimp only)
            refine hK.out _ _ ?_ (fun hHeld => ?_)
            · trivial
            clear hK K
            try simp only [Act.put, List.setIfInBounds_toArray, List.set_cons_zero, List.set_cons_succ]
            refine wpAnyH_ready (rs := [10]) (by kernel_rfl) (by simp) ?_
            refine AllReadyH.cons (o := { dst := none, op := Op.store 22 (Operand.tmp 13) (Operand.tmp 6), type := 0, pos := "entry.go:80", after := #[{ on := 9, ground := Ground.data }, { on := 2, ground := Ground.data }, { on := 8, ground := Ground.chain }, { on := 0, ground := Ground.phase }, { on := 1, ground := Ground.phase }, { on := 2, ground := Ground.phase }, { on := 3, ground := Ground.phase }, { on := 4, ground := Ground.phase }, { on := 5, ground := Ground.textOnly Departure.lateStoresUnsure }, { on := 6, ground := Ground.phase }, { on := 7, ground := Ground.phase }, { on := 8, ground := Ground.textOnly Departure.lateStoresUnsure }], guard := none }) rfl (fun K hK => ?_) AllReadyH.nil
            go_simp
            refine hK.out _ _ ?_ (fun hHeld => ?_)
            · trivial
            clear hK K
            try simp only [Act.put, List.setIfInBounds_toArray, List.set_cons_zero, List.set_cons_succ]
            refine wpAnyH_take (i := 11) (oi := { dst := some 14, op := Op.fieldAddr 26 (Operand.tmp 1) 2, type := 0, pos := "entry.go:80", after := #[{ on := 0, ground := Ground.phase }, { on := 1, ground := Ground.phase }, { on := 2, ground := Ground.phase }, { on := 3, ground := Ground.phase }, { on := 4, ground := Ground.phase }, { on := 5, ground := Ground.phase }, { on := 6, ground := Ground.phase }, { on := 7, ground := Ground.phase }, { on := 8, ground := Ground.textOnly Departure.lateStoresUnsure }, { on := 9, ground := Ground.phase }, { on := 10, ground := Ground.phase }], guard := none }) (v := ?_) rfl (by kernel_rfl) (by kernel_rfl) (by kernel_rfl) (fun _ _ _ h => h) (Or.inl ⟨by rfl, ?_⟩) (by assumption) ?_
            rotate_left
            · intro w hSw; (try dsimp only at hSw); go_simp <;> with_reducible rfl
            simp only [Act.put, List.setIfInBounds_toArray, List.set_cons_zero, List.set_cons_succ]
            refine wpAnyH_ready (rs := [12]) (by kernel_rfl) (by simp) ?_
            refine AllReadyH.cons (o := { dst := none, op := Op.store 23 (Operand.tmp 14) (Operand.tmp 9), type := 0, pos := "entry.go:80", after := #[{ on := 11, ground := Ground.data }, { on := 5, ground := Ground.data }, { on := 10, ground := Ground.chain }, { on := 0, ground := Ground.phase }, { on := 1, ground := Ground.phase }, { on := 2, ground := Ground.phase }, { on := 3, ground := Ground.phase }, { on := 4, ground := Ground.phase }, { on := 5, ground := Ground.phase }, { on := 6, ground := Ground.phase }, { on := 7, ground := Ground.phase }, { on := 8, ground := Ground.textOnly Departure.lateStoresUnsure }, { on := 9, ground := Ground.phase }, { on := 10, ground := Ground.phase }], guard := none }) rfl (fun K hK => ?_) AllReadyH.nil
            go_simp
            refine hK.out _ _ ?_ (fun hHeld => ?_)
            · trivial
            clear hK K
            try simp only [Act.put, List.setIfInBounds_toArray, List.set_cons_zero, List.set_cons_succ]
            refine wpAnyH_take (i := 13) (oi := { dst := some 15, op := Op.fieldAddr 26 (Operand.tmp 1) 3, type := 0, pos := "entry.go:80", after := #[{ on := 0, ground := Ground.phase }, { on := 1, ground := Ground.phase }, { on := 2, ground := Ground.phase }, { on := 3, ground := Ground.phase }, { on := 4, ground := Ground.phase }, { on := 5, ground := Ground.phase }, { on := 6, ground := Ground.phase }, { on := 7, ground := Ground.phase }, { on := 8, ground := Ground.phase }, { on := 9, ground := Ground.phase }, { on := 10, ground := Ground.phase }, { on := 11, ground := Ground.phase }, { on := 12, ground := Ground.phase }], guard := none }) (v := ?_) rfl (by kernel_rfl) (by kernel_rfl) (by kernel_rfl) (fun _ _ _ h => h) (Or.inl ⟨by rfl, ?_⟩) (by assumption) ?_
            rotate_left
            · intro w hSw; (try dsimp only at hSw); go_simp <;> with_reducible rfl
            simp only [Act.put, List.setIfInBounds_toArray, List.set_cons_zero, List.set_cons_succ]
            refine wpAnyH_ready (rs := [14]) (by kernel_rfl) (by simp) ?_
            refine AllReadyH.cons (o := { dst := none, op := Op.store 24 (Operand.tmp 15) (Operand.tmp 12), type := 0, pos := "entry.go:80", after := #[{ on := 13, ground := Ground.data }, { on := 8, ground := Ground.data }, { on := 12, ground := Ground.chain }, { on := 0, ground := Ground.phase }, { on := 1, ground := Ground.phase }, { on := 2, ground := Ground.phase }, { on := 3, ground := Ground.phase }, { on := 4, ground := Ground.phase }, { on := 5, ground := Ground.phase }, { on := 6, ground := Ground.phase }, { on := 7, ground := Ground.phase }, { on := 8, ground := Ground.phase }, { on := 9, ground := Ground.phase }, { on := 10, ground := Ground.phase }, { on := 11, ground := Ground.phase }, { on := 12, ground := Ground.phase }], guard := none }) rfl (fun K hK => ?_) AllReadyH.nil
            go_simp
            refine hK.out _ _ ?_ (fun hHeld => ?_)
            · trivial
            clear hK K
            try simp only [Act.put, List.setIfInBounds_toArray, List.set_cons_zero, List.set_cons_succ]
            refine wpAnyH_done (by kernel_rfl) ?_ _
            skip
            go_wp2
            go_meet
            exact ⟨o1, c1, o2, c2, o3, c3, E, hE', q8, hS8, hT8, hR8⟩
          refine AllReadyH.cons (o := { dst := some 11, op := Op.load 24 (Operand.tmp 10), type := 24, pos := "entry.go:80", after := #[{ on := 6, ground := Ground.data }], guard := none }) rfl (fun K hK => ?_) AllReadyH.nil
          go_simp
          refine hK.out _ _ ?_ (fun hHeld => ?_)
          · trivial
          clear hK K
          try simp only [Act.put, List.setIfInBounds_toArray, List.set_cons_zero, List.set_cons_succ]
          refine wpAnyH_take (i := 9) (oi := { dst := some 13, op := Op.fieldAddr 26 (Operand.tmp 1) 1, type := 0, pos := "entry.go:80", after := #[{ on := 0, ground := Ground.phase }, { on := 1, ground := Ground.phase }, { on := 2, ground := Ground.phase }, { on := 3, ground := Ground.phase }, { on := 4, ground := Ground.phase }, { on := 5, ground := Ground.textOnly Departure.lateStoresUnsure }, { on := 6, ground := Ground.phase }, { on := 7, ground := Ground.phase }, { on := 8, ground := Ground.textOnly Departure.lateStoresUnsure }], guard := none }) (v := ?_) rfl (by kernel_rfl) (by kernel_rfl) (by kernel_rfl) (fun _ _ _ h => h) (Or.inl ⟨by rfl, ?_⟩) (by assumption) ?_
          rotate_left
          · intro w hSw; (try dsimp only at hSw); go_simp <;> with_reducible rfl
          simp only [Act.put, List.setIfInBounds_toArray, List.set_cons_zero, List.set_cons_succ]
          refine wpAnyH_ready (rs := [5]) (by kernel_rfl) (by simp) ?_
          refine AllReadyH.cons (o := { dst := some 9, op := Op.call { callee := Callee.value (Operand.func 18), args := #[Operand.tmp 8], argTypes := #[23] }, type := 23, pos := "entry.go:80", after := #[{ on := 4, ground := Ground.data }, { on := 2, ground := Ground.chain }], guard := none }) rfl (fun K hK => ?_) AllReadyH.nil
          go_simp
          refine (KF.out _ q3.out.bl).mono ?_; rintro e w4 ⟨v4, rfl, hR2, hb4⟩; obtain ⟨o2, c2, rfl⟩ := own_shp hR2; have q4 := hide' (q3.out.over hb4); have u3 := q4.out.c3; have hS4 := hide' (own_below hS3.out hb4 (Nat.le_refl _)); have hT4 := hide' (own_down hR2 q3.out.lt); clear hR2; (try dsimp only)
          refine hK.out _ _ ?_ (fun hHeld => ?_)
          · trivial
          clear hK K
          try simp only [Act.put, List.setIfInBounds_toArray, List.set_cons_zero, List.set_cons_succ]
          refine wpAnyH_ready (rs := [8]) (by kernel_rfl) (by simp) ?_
          refine AllReadyH.cons (o := { dst := some 12, op := Op.call { callee := Callee.value (Operand.func 28), args := #[Operand.tmp 11], argTypes := #[24] }, type := 24, pos := "entry.go:80", after := #[{ on := 7, ground := Ground.data }, { on := 5, ground := Ground.chain }], guard := none }) rfl (fun K hK => ?_) AllReadyH.nil
          go_simp
          refine (KR.out _ q4.out.bl).mono ?_; rintro e w5 ⟨v5, E, rfl, hE, hO, hR3, hb5⟩; have hl3 : E.length = RL.length := (by rw [← hE, List.length_map]); rw [hl3] at hR3; obtain ⟨o3, c3, rfl⟩ := own_shp hR3; have q5 := hide' (q4.out.over hb5); have hS5 := hide' (own_below hS4.out hb5 (Nat.le_refl _)); have hT5 := hide' (own_below hT4.out hb5 (Nat.le_refl _)); have hE' := hide' hE; have hR5 : Hid (CpR w (w.heap.size + 2) (.slice o3 RL.length c3) E 0 w5) := ⟨by rw [hl3]; exact own_down hR3 q4.out.lt, fun i p hp _ => hO p (List.mem_of_getElem? hp), fun i p _ hi => absurd hi (Nat.not_lt_zero _)⟩; have z1 := q5.out.c1; have f1 := q5.out.f 1; have q6 := hide' (q5.out.s1 (.slice o1 WL.length c1)); have z2 := q6.out.c2; have f2 := q6.out.f 2; have q7 := hide' (q6.out.s2 (.slice o2 FL.length c2)); have z3 := q7.out.c3; have f3 := q7.out.f 3; have q8 := hide' (q7.out.s3 (.slice o3 RL.length c3)); have hlow : w.heap.size < w.heap.size + 2 := (by omega); have hS8 := hide' (own_low (i := 3) (own_low (i := 2) (own_low (i := 1) hS5.out hlow (.slice o1 WL.length c1)) hlow (.slice o2 FL.length c2)) hlow (.slice o3 RL.length c3)); have hT8 := hide' (own_low (i := 3) (own_low (i := 2) (own_low (i := 1) hT5.out hlow (.slice o1 WL.length c1)) hlow (.slice o2 FL.length c2)) hlow (.slice o3 RL.length c3)); have hR8 := hide' (CpRlow (i := 3) (CpRlow (i := 2) (CpRlow (i := 1) hR5.out hlow (.slice o1 WL.length c1)) hlow (.slice o2 FL.length c2)) hlow (.slice o3 RL.length c3)); clear hE hO hR3 hl3; (try dsimp only)
          refine hK.out _ _ ?_ (fun hHeld => ?_)
          · trivial
          clear hK K
          try simp only [Act.put, List.setIfInBounds_toArray, List.set_cons_zero, List.set_cons_succ]
          refine wpAnyH_ready (rs := [10]) (by kernel_rfl) (by simp) ?_
          refine AllReadyH.cons (o := { dst := none, op := Op.store 22 (Operand.tmp 13) (Operand.tmp 6), type := 0, pos := "entry.go:80", after := #[{ on := 9, ground := Ground.data }, { on := 2, ground := Ground.data }, { on := 8, ground := Ground.chain }, { on := 0, ground := Ground.phase }, { on := 1, ground := Ground.phase }, { on := 2, ground := Ground.phase }, { on := 3, ground := Ground.phase }, { on := 4, ground := Ground.phase }, { on := 5, ground := Ground.textOnly Departure.lateStoresUnsure }, { on := 6, ground := Ground.phase }, { on := 7, ground := Ground.phase }, { on := 8, ground := Ground.textOnly Departure.lateStoresUnsure }], guard := none }) rfl (fun K hK => ?_) AllReadyH.nil
          go_simp
          refine hK.out _ _ ?_ (fun hHeld => ?_)
          · trivial
          clear hK K
          try simp only [Act.put, List.setIfInBounds_toArray, List.set_cons_zero, List.set_cons_succ]
          refine wpAnyH_take (i := 11) (oi := { dst := some 14, op := Op.fieldAddr 26 (Operand.tmp 1) 2, type := 0, pos := "entry.go:80", after := #[{ on := 0, ground := Ground.phase }, { on := 1, ground := Ground.phase }, { on := 2, ground := Ground.phase }, { on := 3, ground := Ground.phase }, { on := 4, ground := Ground.phase }, { on := 5, ground := Ground.phase }, { on := 6, ground := Ground.phase }, { on := 7, ground := Ground.phase }, { on := 8, ground := Ground.textOnly Departure.lateStoresUnsure }, { on := 9, ground := Ground.phase }, { on := 10, ground := Ground.phase }], guard := none }) (v := ?_) rfl (by kernel_rfl) (by kernel_rfl) (by kernel_rfl) (fun _ _ _ h => h) (Or.inl ⟨by rfl, ?_⟩) (by assumption) ?_
          rotate_left
          · intro w hSw; (try dsimp only at hSw); go_simp <;> with_reducible rfl
          simp only [Act.put, List.setIfInBounds_toArray, List.set_cons_zero, List.set_cons_succ]
          refine wpAnyH_ready (rs := [12]) (by kernel_rfl) (by simp) ?_
          refine AllReadyH.cons (o := { dst := none, op := Op.store 23 (Operand.tmp 14) (Operand.tmp 9), type := 0, pos := "entry.go:80", after := #[{ on := 11, ground := Ground.data }, { on := 5, ground := Ground.data }, { on := 10, ground := Ground.chain }, { on := 0, ground := Ground.phase }, { on := 1, ground := Ground.phase }, { on := 2, ground := Ground.phase }, { on := 3, ground := Ground.phase }, { on := 4, ground := Ground.phase }, { on := 5, ground := Ground.phase }, { on := 6, ground := Ground.phase }, { on := 7, ground := Ground.phase }, { on := 8, ground := Ground.textOnly Departure.lateStoresUnsure }, { on := 9, ground := Ground.phase }, { on := 10, ground := Ground.phase }], guard := none }) rfl (fun K hK => ?_) AllReadyH.nil
          go_simp
          refine hK.out _ _ ?_ (fun hHeld => ?_)
          · trivial
          clear hK K
          try simp only [Act.put, List.setIfInBounds_toArray, List.set_cons_zero, List.set_cons_succ]
          refine wpAnyH_take (i := 13) (oi := { dst := some 15, op := Op.fieldAddr 26 (Operand.tmp 1) 3, type := 0, pos := "entry.go:80", after := #[{ on := 0, ground := Ground.phase }, { on := 1, ground := Ground.phase }, { on := 2, ground := Ground.phase }, { on := 3, ground := Ground.phase }, { on := 4, ground := Ground.phase }, { on := 5, ground := Ground.phase }, { on := 6, ground := Ground.phase }, { on := 7, ground := Ground.phase }, { on := 8, ground := Ground.phase }, { on := 9, ground := Ground.phase }, { on := 10, ground := Ground.phase }, { on := 11, ground := Ground.phase }, { on := 12, ground := Ground.phase }], guard := none }) (v := ?_) rfl (by kernel_rfl) (by kernel_rfl) (by kernel_rfl) (fun _ _ _ h => h) (Or.inl ⟨by rfl, ?_⟩) (by assumption) ?_
          rotate_left
          · intro w hSw; (try dsimp only at hSw); go_simp <;> with_reducible rfl
          simp only [Act.put, List.setIfInBounds_toArray, List.set_cons_zero, List.set_cons_succ]
          refine wpAnyH_ready (rs := [14]) (by kernel_rfl) (by simp) ?_
          refine AllReadyH.cons (o := { dst := none, op := Op.store 24 (Operand.tmp 15) (Operand.tmp 12), type := 0, pos := "entry.go:80", after := #[{ on := 13, ground := Ground.data }, { on := 8, ground := Ground.data }, { on := 12, ground := Ground.chain }, { on := 0, ground := Ground.phase }, { on := 1, ground := Ground.phase }, { on := 2, ground := Ground.phase }, { on := 3, ground := Ground.phase }, { on := 4, ground := Ground.phase }, { on := 5, ground := Ground.phase }, { on := 6, ground := Ground.phase }, { on := 7, ground := Ground.phase }, { on := 8, ground := Ground.phase }, { on := 9, ground := Ground.phase }, { on := 10, ground := Ground.phase }, { on := 11, ground := Ground.phase }, { on := 12, ground := Ground.phase }], guard := none }) rfl (fun K hK => ?_) AllReadyH.nil
          go_simp
          refine hK.out _ _ ?_ (fun hHeld => ?_)
          · trivial
          clear hK K
          try simp only [Act.put, List.setIfInBounds_toArray, List.set_cons_zero, List.set_cons_succ]
          refine wpAnyH_done (by kernel_rfl) ?_ _
          skip
          go_wp2
          go_meet
          exact ⟨o1, c1, o2, c2, o3, c3, E, hE', q8, hS8, hT8, hR8⟩
        refine AllReadyH.cons (o := { dst := some 11, op := Op.load 24 (Operand.tmp 10), type := 24, pos := "entry.go:80", after := #[{ on := 6, ground := Ground.data }], guard := none }) rfl (fun K hK => ?_) AllReadyH.nil
        go_simp
        refine hK.out _ _ ?_ (fun hHeld => ?_)
        · trivial
        clear hK K
        try simp only [Act.put, List.setIfInBounds_toArray, List.set_cons_zero, List.set_cons_succ]
        refine wpAnyH_ready (rs := [2]) (by kernel_rfl) (by simp) ?_
        refine AllReadyH.cons (o := { dst := some 6, op := Op.call { callee := Callee.value (Operand.func 27), args := #[Operand.tmp 5], argTypes := #[22] }, type := 22, pos := "entry.go:80", after := #[{ on := 1, ground := Ground.data }], guard := none }) rfl (fun K hK => ?_) AllReadyH.nil
        go_simp
        refine (KW.out _ q1d.out.bl).mono ?_; rintro e w3 ⟨v3, rfl, hR1, hb3⟩; obtain ⟨o1, c1, rfl⟩ := own_shp hR1; have q3 := hide' (q1d.out.over hb3); have y2 := q3.out.c2; have y3 := q3.out.c3; have hS3 := hide' (own_down hR1 (show w.heap.size + 2 ≤ W1.drew.heap.size from hsz)); clear hR1; (try dsimp only)
        refine hK.out _ _ ?_ (fun hHeld => ?_)
        · trivial
        clear hK K
        try simp only [Act.put, List.setIfInBounds_toArray, List.set_cons_zero, List.set_cons_succ]
        refine wpAnyH_take (i := 9) (oi := { dst := some 13, op := Op.fieldAddr 26 (Operand.tmp 1) 1, type := 0, pos := "entry.go:80", after := #[{ on := 0, ground := Ground.phase }, { on := 1, ground := Ground.phase }, { on := 2, ground := Ground.phase }, { on := 3, ground := Ground.phase }, { on := 4, ground := Ground.phase }, { on := 5, ground := Ground.textOnly Departure.lateStoresUnsure }, { on := 6, ground := Ground.phase }, { on := 7, ground := Ground.phase }, { on := 8, ground := Ground.textOnly Departure.lateStoresUnsure }], guard := none }) (v := ?_) rfl (by kernel_rfl) (by kernel_rfl) (by kernel_rfl) (fun _ _ _ h => h) (Or.inl ⟨by rfl, ?_⟩) (by assumption) ?_
        rotate_left
        · intro w hSw; (try dsimp only at hSw); go_simp <;> with_reducible rfl
        simp only [Act.put, List.setIfInBounds_toArray, List.set_cons_zero, List.set_cons_succ]
        refine wpAnyH_ready (rs := [5]) (by kernel_rfl) (by simp) ?_
        refine AllReadyH.cons (o := { dst := some 9, op := Op.call { callee := Callee.value (Operand.func 18), args := #[Operand.tmp 8], argTypes := #[23] }, type := 23, pos := "entry.go:80", after := #[{ on := 4, ground := Ground.data }, { on := 2, ground := Ground.chain }], guard := none }) rfl (fun K hK => ?_) AllReadyH.nil
        go_simp
        refine (KF.out _ q3.out.bl).mono ?_; rintro e w4 ⟨v4, rfl, hR2, hb4⟩; obtain ⟨o2, c2, rfl⟩ := own_shp hR2; have q4 := hide' (q3.out.over hb4); have u3 := q4.out.c3; have hS4 := hide' (own_below hS3.out hb4 (Nat.le_refl _)); have hT4 := hide' (own_down hR2 q3.out.lt); clear hR2; (try dsimp only)
        refine hK.out _ _ ?_ (fun hHeld => ?_)
        · trivial
        clear hK K
        try simp only [Act.put, List.setIfInBounds_toArray, List.set_cons_zero, List.set_cons_succ]
        refine wpAnyH_ready (rs := [8]) (by kernel_rfl) (by simp) ?_
        refine AllReadyH.cons (o := { dst := some 12, op := Op.call { callee := Callee.value (Operand.func 28), args := #[Operand.tmp 11], argTypes := #[24] }, type := 24, pos := "entry.go:80", after := #[{ on := 7, ground := Ground.data }, { on := 5, ground := Ground.chain }], guard := none }) rfl (fun K hK => ?_) AllReadyH.nil
        go_simp
        refine (KR.out _ q4.out.bl).mono ?_; rintro e w5 ⟨v5, E, rfl, hE, hO, hR3, hb5⟩; have hl3 : E.length = RL.length := (by rw [← hE, List.length_map]); rw [hl3] at hR3; obtain ⟨o3, c3, rfl⟩ := own_shp hR3; have q5 := hide' (q4.out.over hb5); have hS5 := hide' (own_below hS4.out hb5 (Nat.le_refl _)); have hT5 := hide' (own_below hT4.out hb5 (Nat.le_refl _)); have hE' := hide' hE; have hR5 : Hid (CpR w (w.heap.size + 2) (.slice o3 RL.length c3) E 0 w5) := ⟨by rw [hl3]; exact own_down hR3 q4.out.lt, fun i p hp _ => hO p (List.mem_of_getElem? hp), fun i p _ hi => absurd hi (Nat.not_lt_zero _)⟩; have z1 := q5.out.c1; have f1 := q5.out.f 1; have q6 := hide' (q5.out.s1 (.slice o1 WL.length c1)); have z2 := q6.out.c2; have f2 := q6.out.f 2; have q7 := hide' (q6.out.s2 (.slice o2 FL.length c2)); have z3 := q7.out.c3; have f3 := q7.out.f 3; have q8 := hide' (q7.out.s3 (.slice o3 RL.length c3)); have hlow : w.heap.size < w.heap.size + 2 := (by omega); have hS8 := hide' (own_low (i := 3) (own_low (i := 2) (own_low (i := 1) hS5.out hlow (.slice o1 WL.length c1)) hlow (.slice o2 FL.length c2)) hlow (.slice o3 RL.length c3)); have hT8 := hide' (own_low (i := 3) (own_low (i := 2) (own_low (i := 1) hT5.out hlow (.slice o1 WL.length c1)) hlow (.slice o2 FL.length c2)) hlow (.slice o3 RL.length c3)); have hR8 := hide' (CpRlow (i := 3) (CpRlow (i := 2) (CpRlow (i := 1) hR5.out hlow (.slice o1 WL.length c1)) hlow (.slice o2 FL.length c2)) hlow (.slice o3 RL.length c3)); clear hE hO hR3 hl3; (try dsimp only)
        refine hK.out _ _ ?_ (fun hHeld => ?_)
        · trivial
        clear hK K
        try simp only [Act.put, List.setIfInBounds_toArray, List.set_cons_zero, List.set_cons_succ]
        refine wpAnyH_ready (rs := [10]) (by kernel_rfl) (by simp) ?_
        refine AllReadyH.cons (o := { dst := none, op := Op.store 22 (Operand.tmp 13) (Operand.tmp 6), type := 0, pos := "entry.go:80", after := #[{ on := 9, ground := Ground.data }, { on := 2, ground := Ground.data }, { on := 8, ground := Ground.chain }, { on := 0, ground := Ground.phase }, { on := 1, ground := Ground.phase }, { on := 2, ground := Ground.phase }, { on := 3, ground := Ground.phase }, { on := 4, ground := Ground.phase }, { on := 5, ground := Ground.textOnly Departure.lateStoresUnsure }, { on := 6, ground := Ground.phase }, { on := 7, ground := Ground.phase }, { on := 8, ground := Ground.textOnly Departure.lateStoresUnsure }], guard := none }) rfl (fun K hK => ?_) AllReadyH.nil
        go_simp
        refine hK.out _ _ ?_ (fun hHeld => ?_)
        · trivial
        clear hK K
        try simp only [Act.put, List.setIfInBounds_toArray, List.set_cons_zero, List.set_cons_succ]
        refine wpAnyH_take (i := 11) (oi := { dst := some 14, op := Op.fieldAddr 26 (Operand.tmp 1) 2, type := 0, pos := "entry.go:80", after := #[{ on := 0, ground := Ground.phase }, { on := 1, ground := Ground.phase }, { on := 2, ground := Ground.phase }, { on := 3, ground := Ground.phase }, { on := 4, ground := Ground.phase }, { on := 5, ground := Ground.phase }, { on := 6, ground := Ground.phase }, { on := 7, ground := Ground.phase }, { on := 8, ground := Ground.textOnly Departure.lateStoresUnsure }, { on := 9, ground := Ground.phase }, { on := 10, ground := Ground.phase }], guard := none }) (v := ?_) rfl (by kernel_rfl) (by kernel_rfl) (by kernel_rfl) (fun _ _ _ h => h) (Or.inl ⟨by rfl, ?_⟩) (by assumption) ?_
        rotate_left
        · intro w hSw; (try dsimp only at hSw); go_simp <;> with_reducible rfl
        simp only [Act.put, List.setIfInBounds_toArray, List.set_cons_zero, List.set_cons_succ]
        refine wpAnyH_ready (rs := [12]) (by kernel_rfl) (by simp) ?_
        refine AllReadyH.cons (o := { dst := none, op := Op.store 23 (Operand.tmp 14) (Operand.tmp 9), type := 0, pos := "entry.go:80", after := #[{ on := 11, ground := Ground.data }, { on := 5, ground := Ground.data }, { on := 10, ground := Ground.chain }, { on := 0, ground := Ground.phase }, { on := 1, ground := Ground.phase }, { on := 2, ground := Ground.phase }, { on := 3, ground := Ground.phase }, { on := 4, ground := Ground.phase }, { on := 5, ground := Ground.phase }, { on := 6, ground := Ground.phase }, { on := 7, ground := Ground.phase }, { on := 8, ground := Ground.textOnly Departure.lateStoresUnsure }, { on := 9, ground := Ground.phase }, { on := 10, ground := Ground.phase }], guard := none }) rfl (fun K hK => ?_) AllReadyH.nil
        go_simp
        refine hK.out _ _ ?_ (fun hHeld => ?_)
        · trivial
        clear hK K
        try simp only [Act.put, List.setIfInBounds_toArray, List.set_cons_zero, List.set_cons_succ]
        refine wpAnyH_take (i := 13) (oi := { dst := some 15, op := Op.fieldAddr 26 (Operand.tmp 1) 3, type := 0, pos := "entry.go:80", after := #[{ on := 0, ground := Ground.phase }, { on := 1, ground := Ground.phase }, { on := 2, ground := Ground.phase }, { on := 3, ground := Ground.phase }, { on := 4, ground := Ground.phase }, { on := 5, ground := Ground.phase }, { on := 6, ground := Ground.phase }, { on := 7, ground := Ground.phase }, { on := 8, ground := Ground.phase }, { on := 9, ground := Ground.phase }, { on := 10, ground := Ground.phase }, { on := 11, ground := Ground.phase }, { on := 12, ground := Ground.phase }], guard := none }) (v := ?_) rfl (by kernel_rfl) (by kernel_rfl) (by kernel_rfl) (fun _ _ _ h => h) (Or.inl ⟨by rfl, ?_⟩) (by assumption) ?_
        rotate_left
        · intro w hSw; (try dsimp only at hSw); go_simp <;> with_reducible rfl
        simp only [Act.put, List.setIfInBounds_toArray, List.set_cons_zero, List.set_cons_succ]
        refine wpAnyH_ready (rs := [14]) (by kernel_rfl) (by simp) ?_
        refine AllReadyH.cons (o := { dst := none, op := Op.store 24 (Operand.tmp 15) (Operand.tmp 12), type := 0, pos := "entry.go:80", after := #[{ on := 13, ground := Ground.data }, { on := 8, ground := Ground.data }, { on := 12, ground := Ground.chain }, { on := 0, ground := Ground.phase }, { on := 1, ground := Ground.phase }, { on := 2, ground := Ground.phase }, { on := 3, ground := Ground.phase }, { on := 4, ground := Ground.phase }, { on := 5, ground := Ground.phase }, { on := 6, ground := Ground.phase }, { on := 7, ground := Ground.phase }, { on := 8, ground := Ground.phase }, { on := 9, ground := Ground.phase }, { on := 10, ground := Ground.phase }, { on := 11, ground := Ground.phase }, { on := 12, ground := Ground.phase }], guard := none }) rfl (fun K hK => ?_) AllReadyH.nil
        go_simp
        refine hK.out _ _ ?_ (fun hHeld => ?_)
        · trivial
        clear hK K
        try simp only [Act.put, List.setIfInBounds_toArray, List.set_cons_zero, List.set_cons_succ]
        refine wpAnyH_done (by kernel_rfl) ?_ _
        skip
        go_wp2
        go_meet
        exact ⟨o1, c1, o2, c2, o3, c3, E, hE', q8, hS8, hT8, hR8⟩
      refine AllReadyH.cons (o := { dst := some 11, op := Op.load 24 (Operand.tmp 10), type := 24, pos := "entry.go:80", after := #[{ on := 6, ground := Ground.data }], guard := none }) rfl (fun K hK => ?_) AllReadyH.nil
      go_simp
      refine hK.out _ _ ?_ (fun hHeld => ?_)
      · trivial
      clear hK K
      try simp only [Act.put, List.setIfInBounds_toArray, List.set_cons_zero, List.set_cons_succ]
      refine wpAnyH_ready (rs := [1]) (by kernel_rfl) (by simp) ?_
      refine AllReadyH.cons (o := { dst := some 5, op := Op.load 22 (Operand.tmp 4), type := 22, pos := "entry.go:80", after := #[{ on := 0, ground := Ground.data }], guard := none }) rfl (fun K hK => ?_) AllReadyH.nil
      go_simp
      refine hK.out _ _ ?_ (fun hHeld => ?_)
      · trivial
      clear hK K
      try simp only [Act.put, List.setIfInBounds_toArray, List.set_cons_zero, List.set_cons_succ]
      refine wpAnyH_ready (rs := [2]) (by kernel_rfl) (by simp) ?_
      refine AllReadyH.cons (o := { dst := some 6, op := Op.call { callee := Callee.value (Operand.func 27), args := #[Operand.tmp 5], argTypes := #[22] }, type := 22, pos := "entry.go:80", after := #[{ on := 1, ground := Ground.data }], guard := none }) rfl (fun K hK => ?_) AllReadyH.nil
      go_simp
      refine (KW.out _ q1d.out.bl).mono ?_; rintro e w3 ⟨v3, rfl, hR1, hb3⟩; obtain ⟨o1, c1, rfl⟩ := own_shp hR1; have q3 := hide' (q1d.out.over hb3); have y2 := q3.out.c2; have y3 := q3.out.c3; have hS3 := hide' (own_down hR1 (show w.heap.size + 2 ≤ W1.drew.heap.size from hsz)); clear hR1; (try dsimp only)
      refine hK.out _ _ ?_ (fun hHeld => ?_)
      · trivial
      clear hK K
      try simp only [Act.put, List.setIfInBounds_toArray, List.set_cons_zero, List.set_cons_succ]
      refine wpAnyH_take (i := 9) (oi := { dst := some 13, op := Op.fieldAddr 26 (Operand.tmp 1) 1, type := 0, pos := "entry.go:80", after := #[{ on := 0, ground := Ground.phase }, { on := 1, ground := Ground.phase }, { on := 2, ground := Ground.phase }, { on := 3, ground := Ground.phase }, { on := 4, ground := Ground.phase }, { on := 5, ground := Ground.textOnly Departure.lateStoresUnsure }, { on := 6, ground := Ground.phase }, { on := 7, ground := Ground.phase }, { on := 8, ground := Ground.textOnly Departure.lateStoresUnsure }], guard := none }) (v := ?_) rfl (by kernel_rfl) (by kernel_rfl) (by kernel_rfl) (fun _ _ _ h => h) (Or.inl ⟨by rfl, ?_⟩) (by assumption) ?_
      rotate_left
      · intro w hSw; (try dsimp only at hSw); go_simp <;> with_reducible rfl
      simp only [Act.put, List.setIfInBounds_toArray, List.set_cons_zero, List.set_cons_succ]
      refine wpAnyH_ready (rs := [5]) (by kernel_rfl) (by simp) ?_
      refine AllReadyH.cons (o := { dst := some 9, op := Op.call { callee := Callee.value (Operand.func 18), args := #[Operand.tmp 8], argTypes := #[23] }, type := 23, pos := "entry.go:80", after := #[{ on := 4, ground := Ground.data }, { on := 2, ground := Ground.chain }], guard := none }) rfl (fun K hK => ?_) AllReadyH.nil
      go_simp
      refine (KF.out _ q3.out.bl).mono ?_; rintro e w4 ⟨v4, rfl, hR2, hb4⟩; obtain ⟨o2, c2, rfl⟩ := own_shp hR2; have q4 := hide' (q3.out.over hb4); have u3 := q4.out.c3; have hS4 := hide' (own_below hS3.out hb4 (Nat.le_refl _)); have hT4 := hide' (own_down hR2 q3.out.lt); clear hR2; (try dsimp only)
      refine hK.out _ _ ?_ (fun hHeld => ?_)
      · trivial
      clear hK K
      try simp only [Act.put, List.setIfInBounds_toArray, List.set_cons_zero, List.set_cons_succ]
      refine wpAnyH_ready (rs := [8]) (by kernel_rfl) (by simp) ?_
      refine AllReadyH.cons (o := { dst := some 12, op := Op.call { callee := Callee.value (Operand.func 28), args := #[Operand.tmp 11], argTypes := #[24] }, type := 24, pos := "entry.go:80", after := #[{ on := 7, ground := Ground.data }, { on := 5, ground := Ground.chain }], guard := none }) rfl (fun K hK => ?_) AllReadyH.nil
      go_simp
      refine (KR.out _ q4.out.bl).mono ?_; rintro e w5 ⟨v5, E, rfl, hE, hO, hR3, hb5⟩; have hl3 : E.length = RL.length := (by rw [← hE, List.length_map]); rw [hl3] at hR3; obtain ⟨o3, c3, rfl⟩ := own_shp hR3; have q5 := hide' (q4.out.over hb5); have hS5 := hide' (own_below hS4.out hb5 (Nat.le_refl _)); have hT5 := hide' (own_below hT4.out hb5 (Nat.le_refl _)); have hE' := hide' hE; have hR5 : Hid (CpR w (w.heap.size + 2) (.slice o3 RL.length c3) E 0 w5) := ⟨by rw [hl3]; exact own_down hR3 q4.out.lt, fun i p hp _ => hO p (List.mem_of_getElem? hp), fun i p _ hi => absurd hi (Nat.not_lt_zero _)⟩; have z1 := q5.out.c1; have f1 := q5.out.f 1; have q6 := hide' (q5.out.s1 (.slice o1 WL.length c1)); have z2 := q6.out.c2; have f2 := q6.out.f 2; have q7 := hide' (q6.out.s2 (.slice o2 FL.length c2)); have z3 := q7.out.c3; have f3 := q7.out.f 3; have q8 := hide' (q7.out.s3 (.slice o3 RL.length c3)); have hlow : w.heap.size < w.heap.size + 2 := (by omega); have hS8 := hide' (own_low (i := 3) (own_low (i := 2) (own_low (i := 1) hS5.out hlow (.slice o1 WL.length c1)) hlow (.slice o2 FL.length c2)) hlow (.slice o3 RL.length c3)); have hT8 := hide' (own_low (i := 3) (own_low (i := 2) (own_low (i := 1) hT5.out hlow (.slice o1 WL.length c1)) hlow (.slice o2 FL.length c2)) hlow (.slice o3 RL.length c3)); have hR8 := hide' (CpRlow (i := 3) (CpRlow (i := 2) (CpRlow (i := 1) hR5.out hlow (.slice o1 WL.length c1)) hlow (.slice o2 FL.length c2)) hlow (.slice o3 RL.length c3)); clear hE hO hR3 hl3; (try dsimp only)
      refine hK.out _ _ ?_ (fun hHeld => ?_)
      · trivial
      clear hK K
      try simp only [Act.put, List.setIfInBounds_toArray, List.set_cons_zero, List.set_cons_succ]
      refine wpAnyH_ready (rs := [10]) (by kernel_rfl) (by simp) ?_
      refine AllReadyH.cons (o := { dst := none, op := Op.store 22 (Operand.tmp 13) (Operand.tmp 6), type := 0, pos := "entry.go:80", after := #[{ on := 9, ground := Ground.data }, { on := 2, ground := Ground.data }, { on := 8, ground := Ground.chain }, { on := 0, ground := Ground.phase }, { on := 1, ground := Ground.phase }, { on := 2, ground := Ground.phase }, { on := 3, ground := Ground.phase }, { on := 4, ground := Ground.phase }, { on := 5, ground := Ground.textOnly Departure.lateStoresUnsure }, { on := 6, ground := Ground.phase }, { on := 7, ground := Ground.phase }, { on := 8, ground := Ground.textOnly Departure.lateStoresUnsure }], guard := none }) rfl (fun K hK => ?_) AllReadyH.nil
      go_simp
      refine hK.out _ _ ?_ (fun hHeld => ?_)
      · trivial
      clear hK K
      try simp only [Act.put, List.setIfInBounds_toArray, List.set_cons_zero, List.set_cons_succ]
      refine wpAnyH_take (i := 11) (oi := { dst := some 14, op := Op.fieldAddr 26 (Operand.tmp 1) 2, type := 0, pos := "entry.go:80", after := #[{ on := 0, ground := Ground.phase }, { on := 1, ground := Ground.phase }, { on := 2, ground := Ground.phase }, { on := 3, ground := Ground.phase }, { on := 4, ground := Ground.phase }, { on := 5, ground := Ground.phase }, { on := 6, ground := Ground.phase }, { on := 7, ground := Ground.phase }, { on := 8, ground := Ground.textOnly Departure.lateStoresUnsure }, { on := 9, ground := Ground.phase }, { on := 10, ground := Ground.phase }], guard := none }) (v := ?_) rfl (by kernel_rfl) (by kernel_rfl) (by kernel_rfl) (fun _ _ _ h => h) (Or.inl ⟨by rfl, ?_⟩) (by assumption) ?_
      rotate_left
      · intro w hSw; (try dsimp only at hSw); go_simp <;> with_reducible rfl
      simp only [Act.put, List.setIfInBounds_toArray, List.set_cons_zero, List.set_cons_succ]
      refine wpAnyH_ready (rs := [12]) (by kernel_rfl) (by simp) ?_
      refine AllReadyH.cons (o := { dst := none, op := Op.store 23 (Operand.tmp 14) (Operand.tmp 9), type := 0, pos := "entry.go:80", after := #[{ on := 11, ground := Ground.data }, { on := 5, ground := Ground.data }, { on := 10, ground := Ground.chain }, { on := 0, ground := Ground.phase }, { on := 1, ground := Ground.phase }, { on := 2, ground := Ground.phase }, { on := 3, ground := Ground.phase }, { on := 4, ground := Ground.phase }, { on := 5, ground := Ground.phase }, { on := 6, ground := Ground.phase }, { on := 7, ground := Ground.phase }, { on := 8, ground := Ground.textOnly Departure.lateStoresUnsure }, { on := 9, ground := Ground.phase }, { on := 10, ground := Ground.phase }], guard := none }) rfl (fun K hK => ?_) AllReadyH.nil
      go_simp
      refine hK.out _ _ ?_ (fun hHeld => ?_)
      · trivial
      clear hK K
      try simp only [Act.put, List.setIfInBounds_toArray, List.set_cons_zero, List.set_cons_succ]
      refine wpAnyH_take (i := 13) (oi := { dst := some 15, op := Op.fieldAddr 26 (Operand.tmp 1) 3, type := 0, pos := "entry.go:80", after := #[{ on := 0, ground := Ground.phase }, { on := 1, ground := Ground.phase }, { on := 2, ground := Ground.phase }, { on := 3, ground := Ground.phase }, { on := 4, ground := Ground.phase }, { on := 5, ground := Ground.phase }, { on := 6, ground := Ground.phase }, { on := 7, ground := Ground.phase }, { on := 8, ground := Ground.phase }, { on := 9, ground := Ground.phase }, { on := 10, ground := Ground.phase }, { on := 11, ground := Ground.phase }, { on := 12, ground := Ground.phase }], guard := none }) (v := ?_) rfl (by kernel_rfl) (by kernel_rfl) (by kernel_rfl) (fun _ _ _ h => h) (Or.inl ⟨by rfl, ?_⟩) (by assumption) ?_
      rotate_left
      · intro w hSw; (try dsimp only at hSw); go_simp <;> with_reducible rfl
      simp only [Act.put, List.setIfInBounds_toArray, List.set_cons_zero, List.set_cons_succ]
      refine wpAnyH_ready (rs := [14]) (by kernel_rfl) (by simp) ?_
      refine AllReadyH.cons (o := { dst := none, op := Op.store 24 (Operand.tmp 15) (Operand.tmp 12), type := 0, pos := "entry.go:80", after := #[{ on := 13, ground := Ground.data }, { on := 8, ground := Ground.data }, { on := 12, ground := Ground.chain }, { on := 0, ground := Ground.phase }, { on := 1, ground := Ground.phase }, { on := 2, ground := Ground.phase }, { on := 3, ground := Ground.phase }, { on := 4, ground := Ground.phase }, { on := 5, ground := Ground.phase }, { on := 6, ground := Ground.phase }, { on := 7, ground := Ground.phase }, { on := 8, ground := Ground.phase }, { on := 9, ground := Ground.phase }, { on := 10, ground := Ground.phase }, { on := 11, ground := Ground.phase }, { on := 12, ground := Ground.phase }], guard := none }) rfl (fun K hK => ?_) AllReadyH.nil
      go_simp
      refine hK.out _ _ ?_ (fun hHeld => ?_)
      · trivial
      clear hK K
      try simp only [Act.put, List.setIfInBounds_toArray, List.set_cons_zero, List.set_cons_succ]
      refine wpAnyH_done (by kernel_rfl) ?_ _
      skip
      go_wp2
      go_meet
      exact ⟨o1, c1, o2, c2, o3, c3, E, hE', q8, hS8, hT8, hR8⟩
    refine AllReadyH.cons (o := { dst := some 11, op := Op.load 24 (Operand.tmp 10), type := 24, pos := "entry.go:80", after := #[{ on := 6, ground := Ground.data }], guard := none }) rfl (fun K hK => ?_) AllReadyH.nil
    go_simp
    refine hK.out _ _ ?_ (fun hHeld => ?_)
    · trivial
    clear hK K
    try simp only [Act.put, List.setIfInBounds_toArray, List.set_cons_zero, List.set_cons_succ]
    refine wpAnyH_ready (rs := [1, 4]) (by kernel_rfl) (by simp) ?_
    refine AllReadyH.cons (o := { dst := some 5, op := Op.load 22 (Operand.tmp 4), type := 22, pos := "entry.go:80", after := #[{ on := 0, ground := Ground.data }], guard := none }) rfl (fun K hK => ?_) ?_
    · skip
      go_simp
      refine hK.out _ _ ?_ (fun hHeld => ?_)
      · trivial
      clear hK K
      try simp only [Act.put, List.setIfInBounds_toArray, List.set_cons_zero, List.set_cons_succ]
      refine wpAnyH_ready (rs := [2, 4]) (by kernel_rfl) (by simp) ?_
      refine AllReadyH.cons (o := { dst := some 6, op := Op.call { callee := Callee.value (Operand.func 27), args := #[Operand.tmp 5], argTypes := #[22] }, type := 22, pos := "entry.go:80", after := #[{ on := 1, ground := Ground.data }], guard := none }) rfl (fun K hK => ?_) ?_
      · skip
        go_simp
        refine (KW.out _ q1d.out.bl).mono ?_; rintro e w3 ⟨v3, rfl, hR1, hb3⟩; obtain ⟨o1, c1, rfl⟩ := own_shp hR1; have q3 := hide' (q1d.out.over hb3); have y2 := q3.out.c2; have y3 := q3.out.c3; have hS3 := hide' (own_down hR1 (show w.heap.size + 2 ≤ W1.drew.heap.size from hsz)); clear hR1; (try dsimp only)
        refine hK.out _ _ ?_ (fun hHeld => ?_)
        · trivial
        clear hK K
        try simp only [Act.put, List.setIfInBounds_toArray, List.set_cons_zero, List.set_cons_succ]
        refine wpAnyH_ready (rs := [4]) (by kernel_rfl) (by simp) ?_
        refine AllReadyH.cons (o := { dst := some 8, op := Op.load 23 (Operand.tmp 7), type := 23, pos := "entry.go:80", after := #[{ on := 3, ground := Ground.data }], guard := none }) rfl (fun K hK => ?_) AllReadyH.nil
        go_simp
        refine hK.out _ _ ?_ (fun hHeld => ?_)
        · trivial
        clear hK K
        try simp only [Act.put, List.setIfInBounds_toArray, List.set_cons_zero, List.set_cons_succ]
        refine wpAnyH_take (i := 9) (oi := { dst := some 13, op := Op.fieldAddr 26 (Operand.tmp 1) 1, type := 0, pos := "entry.go:80", after := #[{ on := 0, ground := Ground.phase }, { on := 1, ground := Ground.phase }, { on := 2, ground := Ground.phase }, { on := 3, ground := Ground.phase }, { on := 4, ground := Ground.phase }, { on := 5, ground := Ground.textOnly Departure.lateStoresUnsure }, { on := 6, ground := Ground.phase }, { on := 7, ground := Ground.phase }, { on := 8, ground := Ground.textOnly Departure.lateStoresUnsure }], guard := none }) (v := ?_) rfl (by kernel_rfl) (by kernel_rfl) (by kernel_rfl) (fun _ _ _ h => h) (Or.inl ⟨by rfl, ?_⟩) (by assumption) ?_
        rotate_left
        · intro w hSw; (try dsimp only at hSw); go_simp <;> with_reducible rfl
        simp only [Act.put, List.setIfInBounds_toArray, List.set_cons_zero, List.set_cons_succ]
        refine wpAnyH_ready (rs := [5]) (by kernel_rfl) (by simp) ?_
        refine AllReadyH.cons (o := { dst := some 9, op := Op.call { callee := Callee.value (Operand.func 18), args := #[Operand.tmp 8], argTypes := #[23] }, type := 23, pos := "entry.go:80", after := #[{ on := 4, ground := Ground.data }, { on := 2, ground := Ground.chain }], guard := none }) rfl (fun K hK => ?_) AllReadyH.nil
        go_simp
        refine (KF.out _ q3.out.bl).mono ?_; rintro e w4 ⟨v4, rfl, hR2, hb4⟩; obtain ⟨o2, c2, rfl⟩ := own_shp hR2; have q4 := hide' (q3.out.over hb4); have u3 := q4.out.c3; have hS4 := hide' (own_below hS3.out hb4 (Nat.le_refl _)); have hT4 := hide' (own_down hR2 q3.out.lt); clear hR2; (try dsimp only)
        refine hK.out _ _ ?_ (fun hHeld => ?_)
        · trivial
        clear hK K
        try simp only [Act.put, List.setIfInBounds_toArray, List.set_cons_zero, List.set_cons_succ]
        refine wpAnyH_ready (rs := [8]) (by kernel_rfl) (by simp) ?_
        refine AllReadyH.cons (o := { dst := some 12, op := Op.call { callee := Callee.value (Operand.func 28), args := #[Operand.tmp 11], argTypes := #[24] }, type := 24, pos := "entry.go:80", after := #[{ on := 7, ground := Ground.data }, { on := 5, ground := Ground.chain }], guard := none }) rfl (fun K hK => ?_) AllReadyH.nil
        go_simp
        refine (KR.out _ q4.out.bl).mono ?_; rintro e w5 ⟨v5, E, rfl, hE, hO, hR3, hb5⟩; have hl3 : E.length = RL.length := (by rw [← hE, List.length_map]); rw [hl3] at hR3; obtain ⟨o3, c3, rfl⟩ := own_shp hR3; have q5 := hide' (q4.out.over hb5); have hS5 := hide' (own_below hS4.out hb5 (Nat.le_refl _)); have hT5 := hide' (own_below hT4.out hb5 (Nat.le_refl _)); have hE' := hide' hE; have hR5 : Hid (CpR w (w.heap.size + 2) (.slice o3 RL.length c3) E 0 w5) := ⟨by rw [hl3]; exact own_down hR3 q4.out.lt, fun i p hp _ => hO p (List.mem_of_getElem? hp), fun i p _ hi => absurd hi (Nat.not_lt_zero _)⟩; have z1 := q5.out.c1; have f1 := q5.out.f 1; have q6 := hide' (q5.out.s1 (.slice o1 WL.length c1)); have z2 := q6.out.c2; have f2 := q6.out.f 2; have q7 := hide' (q6.out.s2 (.slice o2 FL.length c2)); have z3 := q7.out.c3; have f3 := q7.out.f 3; have q8 := hide' (q7.out.s3 (.slice o3 RL.length c3)); have hlow : w.heap.size < w.heap.size + 2 := (by omega); have hS8 := hide' (own_low (i := 3) (own_low (i := 2) (own_low (i := 1) hS5.out hlow (.slice o1 WL.length c1)) hlow (.slice o2 FL.length c2)) hlow (.slice o3 RL.length c3)); have hT8 := hide' (own_low (i := 3) (own_low (i := 2) (own_low (i := 1) hT5.out hlow (.slice o1 WL.length c1)) hlow (.slice o2 FL.length c2)) hlow (.slice o3 RL.length c3)); have hR8 := hide' (CpRlow (i := 3) (CpRlow (i := 2) (CpRlow (i := 1) hR5.out hlow (.slice o1 WL.length c1)) hlow (.slice o2 FL.length c2)) hlow (.slice o3 RL.length c3)); clear hE hO hR3 hl3; (try dsimp only)
        refine hK.out _ _ ?_ (fun hHeld => ?_)
        · trivial
        clear hK K
        try simp only [Act.put, List.setIfInBounds_toArray, List.set_cons_zero, List.set_cons_succ]
        refine wpAnyH_ready (rs := [10]) (by kernel_rfl) (by simp) ?_
        refine AllReadyH.cons (o := { dst := none, op := Op.store 22 (Operand.tmp 13) (Operand.tmp 6), type := 0, pos := "entry.go:80", after := #[{ on := 9, ground := Ground.data }, { on := 2, ground := Ground.data }, { on := 8, ground := Ground.chain }, { on := 0, ground := Ground.phase }, { on := 1, ground := Ground.phase }, { on := 2, ground := Ground.phase }, { on := 3, ground := Ground.phase }, { on := 4, ground := Ground.phase }, { on := 5, ground := Ground.textOnly Departure.lateStoresUnsure }, { on := 6, ground := Ground.phase }, { on := 7, ground := Ground.phase }, { on := 8, ground := Ground.textOnly Departure.lateStoresUnsure }], guard := none }) rfl (fun K hK => ?_) AllReadyH.nil
        go_simp
        refine hK.out _ _ ?_ (fun hHeld => ?_)
        · trivial
        clear hK K
        try simp only [Act.put, List.setIfInBounds_toArray, List.set_cons_zero, List.set_cons_succ]
        refine wpAnyH_take (i := 11) (oi := { dst := some 14, op := Op.fieldAddr 26 (Operand.tmp 1) 2, type := 0, pos := "entry.go:80", after := #[{ on := 0, ground := Ground.phase }, { on := 1, ground := Ground.phase }, { on := 2, ground := Ground.phase }, { on := 3, ground := Ground.phase }, { on := 4, ground := Ground.phase }, { on := 5, ground := Ground.phase }, { on := 6, ground := Ground.phase }, { on := 7, ground := Ground.phase }, { on := 8, ground := Ground.textOnly Departure.lateStoresUnsure }, { on := 9, ground := Ground.phase }, { on := 10, ground := Ground.phase }], guard := none }) (v := ?_) rfl (by kernel_rfl) (by kernel_rfl) (by kernel_rfl) (fun _ _ _ h => h) (Or.inl ⟨by rfl, ?_⟩) (by assumption) ?_
        rotate_left
        · intro w hSw; (try dsimp only at hSw); go_simp <;> with_reducible rfl
        simp only [Act.put, List.setIfInBounds_toArray, List.set_cons_zero, List.set_cons_succ]
        refine wpAnyH_ready (rs := [12]) (by kernel_rfl) (by simp) ?_
        refine AllReadyH.cons (o := { dst := none, op := Op.store 23 (Operand.tmp 14) (Operand.tmp 9), type := 0, pos := "entry.go:80", after := #[{ on := 11, ground := Ground.data }, { on := 5, ground := Ground.data }, { on := 10, ground := Ground.chain }, { on := 0, ground := Ground.phase }, { on := 1, ground := Ground.phase }, { on := 2, ground := Ground.phase }, { on := 3, ground := Ground.phase }, { on := 4, ground := Ground.phase }, { on := 5, ground := Ground.phase }, { on := 6, ground := Ground.phase }, { on := 7, ground := Ground.phase }, { on := 8, ground := Ground.textOnly Departure.lateStoresUnsure }, { on := 9, ground := Ground.phase }, { on := 10, ground := Ground.phase }], guard := none }) rfl (fun K hK => ?_) AllReadyH.nil
        go_simp
        refine hK.out _ _ ?_ (fun hHeld => ?_)
        · trivial
        clear hK K
        try simp only [Act.put, List.setIfInBounds_toArray, List.set_cons_zero, List.set_cons_succ]
        refine wpAnyH_take (i := 13) (oi := { dst := some 15, op := Op.fieldAddr 26 (Operand.tmp 1) 3, type := 0, pos := "entry.go:80", after := #[{ on := 0, ground := Ground.phase }, { on := 1, ground := Ground.phase }, { on := 2, ground := Ground.phase }, { on := 3, ground := Ground.phase }, { on := 4, ground := Ground.phase }, { on := 5, ground := Ground.phase }, { on := 6, ground := Ground.phase }, { on := 7, ground := Ground.phase }, { on := 8, ground := Ground.phase }, { on := 9, ground := Ground.phase }, { on := 10, ground := Ground.phase }, { on := 11, ground := Ground.phase }, { on := 12, ground := Ground.phase }], guard := none }) (v := ?_) rfl (by kernel_rfl) (by kernel_rfl) (by kernel_rfl) (fun _ _ _ h => h) (Or.inl ⟨by rfl, ?_⟩) (by assumption) ?_
        rotate_left
        · intro w hSw; (try dsimp only at hSw); go_simp <;> with_reducible rfl
        simp only [Act.put, List.setIfInBounds_toArray, List.set_cons_zero, List.set_cons_succ]
        refine wpAnyH_ready (rs := [14]) (by kernel_rfl) (by simp) ?_
        refine AllReadyH.cons (o := { dst := none, op := Op.store 24 (Operand.tmp 15) (Operand.tmp 12), type := 0, pos := "entry.go:80", after := #[{ on := 13, ground := Ground.data }, { on := 8, ground := Ground.data }, { on := 12, ground := Ground.chain }, { on := 0, ground := Ground.phase }, { on := 1, ground := Ground.phase }, { on := 2, ground := Ground.phase }, { on := 3, ground := Ground.phase }, { on := 4, ground := Ground.phase }, { on := 5, ground := Ground.phase }, { on := 6, ground := Ground.phase }, { on := 7, ground := Ground.phase }, { on := 8, ground := Ground.phase }, { on := 9, ground := Ground.phase }, { on := 10, ground := Ground.phase }, { on := 11, ground := Ground.phase }, { on := 12, ground := Ground.phase }], guard := none }) rfl (fun K hK => ?_) AllReadyH.nil
        go_simp
        refine hK.out _ _ ?_ (fun hHeld => ?_)
        · trivial
        clear hK K
        try simp only [Act.put, List.setIfInBounds_toArray, List.set_cons_zero, List.set_cons_succ]
        refine wpAnyH_done (by kernel_rfl) ?_ _
        skip
        go_wp2
        go_meet
        exact ⟨o1, c1, o2, c2, o3, c3, E, hE', q8, hS8, hT8, hR8⟩
      refine AllReadyH.cons (o := { dst := some 8, op := Op.load 23 (Operand.tmp 7), type := 23, pos := "entry.go:80", after := #[{ on := 3, ground := Ground.data }], guard := none }) rfl (fun K hK => ?_) AllReadyH.nil
      go_simp
      refine hK.out _ _ ?_ (fun hHeld => ?_)
      · trivial
      clear hK K
      try simp only [Act.put, List.setIfInBounds_toArray, List.set_cons_zero, List.set_cons_succ]
      refine wpAnyH_ready (rs := [2]) (by kernel_rfl) (by simp) ?_
      refine AllReadyH.cons (o := { dst := some 6, op := Op.call { callee := Callee.value (Operand.func 27), args := #[Operand.tmp 5], argTypes := #[22] }, type := 22, pos := "entry.go:80", after := #[{ on := 1, ground := Ground.data }], guard := none }) rfl (fun K hK => ?_) AllReadyH.nil
      go_simp
      refine (KW.out _ q1d.out.bl).mono ?_; rintro e w3 ⟨v3, rfl, hR1, hb3⟩; obtain ⟨o1, c1, rfl⟩ := own_shp hR1; have q3 := hide' (q1d.out.over hb3); have y2 := q3.out.c2; have y3 := q3.out.c3; have hS3 := hide' (own_down hR1 (show w.heap.size + 2 ≤ W1.drew.heap.size from hsz)); clear hR1; (try dsimp only)
      refine hK.out _ _ ?_ (fun hHeld => ?_)
      · trivial
      clear hK K
      try simp only [Act.put, List.setIfInBounds_toArray, List.set_cons_zero, List.set_cons_succ]
      refine wpAnyH_take (i := 9) (oi := { dst := some 13, op := Op.fieldAddr 26 (Operand.tmp 1) 1, type := 0, pos := "entry.go:80", after := #[{ on := 0, ground := Ground.phase }, { on := 1, ground := Ground.phase }, { on := 2, ground := Ground.phase }, { on := 3, ground := Ground.phase }, { on := 4, ground := Ground.phase }, { on := 5, ground := Ground.textOnly Departure.lateStoresUnsure }, { on := 6, ground := Ground.phase }, { on := 7, ground := Ground.phase }, { on := 8, ground := Ground.textOnly Departure.lateStoresUnsure }], guard := none }) (v := ?_) rfl (by kernel_rfl) (by kernel_rfl) (by kernel_rfl) (fun _ _ _ h => h) (Or.inl ⟨by rfl, ?_⟩) (by assumption) ?_
      rotate_left
      · intro w hSw; (try dsimp only at hSw); go_simp <;> with_reducible rfl
      simp only [Act.put, List.setIfInBounds_toArray, List.set_cons_zero, List.set_cons_succ]
      refine wpAnyH_ready (rs := [5]) (by kernel_rfl) (by simp) ?_
      refine AllReadyH.cons (o := { dst := some 9, op := Op.call { callee := Callee.value (Operand.func 18), args := #[Operand.tmp 8], argTypes := #[23] }, type := 23, pos := "entry.go:80", after := #[{ on := 4, ground := Ground.data }, { on := 2, ground := Ground.chain }], guard := none }) rfl (fun K hK => ?_) AllReadyH.nil
      go_simp
      refine (KF.out _ q3.out.bl).mono ?_; rintro e w4 ⟨v4, rfl, hR2, hb4⟩; obtain ⟨o2, c2, rfl⟩ := own_shp hR2; have q4 := hide' (q3.out.over hb4); have u3 := q4.out.c3; have hS4 := hide' (own_below hS3.out hb4 (Nat.le_refl _)); have hT4 := hide' (own_down hR2 q3.out.lt); clear hR2; (try dsimp only)
      refine hK.out _ _ ?_ (fun hHeld => ?_)
      · trivial
      clear hK K
      try simp only [Act.put, List.setIfInBounds_toArray, List.set_cons_zero, List.set_cons_succ]
      refine wpAnyH_ready (rs := [8]) (by kernel_rfl) (by simp) ?_
      refine AllReadyH.cons (o := { dst := some 12, op := Op.call { callee := Callee.value (Operand.func 28), args := #[Operand.tmp 11], argTypes := #[24] }, type := 24, pos := "entry.go:80", after := #[{ on := 7, ground := Ground.data }, { on := 5, ground := Ground.chain }], guard := none }) rfl (fun K hK => ?_) AllReadyH.nil
      go_simp
      refine (KR.out _ q4.out.bl).mono ?_; rintro e w5 ⟨v5, E, rfl, hE, hO, hR3, hb5⟩; have hl3 : E.length = RL.length := (by rw [← hE, List.length_map]); rw [hl3] at hR3; obtain ⟨o3, c3, rfl⟩ := own_shp hR3; have q5 := hide' (q4.out.over hb5); have hS5 := hide' (own_below hS4.out hb5 (Nat.le_refl _)); have hT5 := hide' (own_below hT4.out hb5 (Nat.le_refl _)); have hE' := hide' hE; have hR5 : Hid (CpR w (w.heap.size + 2) (.slice o3 RL.length c3) E 0 w5) := ⟨by rw [hl3]; exact own_down hR3 q4.out.lt, fun i p hp _ => hO p (List.mem_of_getElem? hp), fun i p _ hi => absurd hi (Nat.not_lt_zero _)⟩; have z1 := q5.out.c1; have f1 := q5.out.f 1; have q6 := hide' (q5.out.s1 (.slice o1 WL.length c1)); have z2 := q6.out.c2; have f2 := q6.out.f 2; have q7 := hide' (q6.out.s2 (.slice o2 FL.length c2)); have z3 := q7.out.c3; have f3 := q7.out.f 3; have q8 := hide' (q7.out.s3 (.slice o3 RL.length c3)); have hlow : w.heap.size < w.heap.size + 2 := (by omega); have hS8 := hide' (own_low (i := 3) (own_low (i := 2) (own_low (i := 1) hS5.out hlow (.slice o1 WL.length c1)) hlow (.slice o2 FL.length c2)) hlow (.slice o3 RL.length c3)); have hT8 := hide' (own_low (i := 3) (own_low (i := 2) (own_low (i := 1) hT5.out hlow (.slice o1 WL.length c1)) hlow (.slice o2 FL.length c2)) hlow (.slice o3 RL.length c3)); have hR8 := hide' (CpRlow (i := 3) (CpRlow (i := 2) (CpRlow (i := 1) hR5.out hlow (.slice o1 WL.length c1)) hlow (.slice o2 FL.length c2)) hlow (.slice o3 RL.length c3)); clear hE hO hR3 hl3; (try dsimp only)
      refine hK.out _ _ ?_ (fun hHeld => ?_)
      · trivial
      clear hK K
      try simp only [Act.put, List.setIfInBounds_toArray, List.set_cons_zero, List.set_cons_succ]
      refine wpAnyH_ready (rs := [10]) (by kernel_rfl) (by simp) ?_
      refine AllReadyH.cons (o := { dst := none, op := Op.store 22 (Operand.tmp 13) (Operand.tmp 6), type := 0, pos := "entry.go:80", after := #[{ on := 9, ground := Ground.data }, { on := 2, ground := Ground.data }, { on := 8, ground := Ground.chain }, { on := 0, ground := Ground.phase }, { on := 1, ground := Ground.phase }, { on := 2, ground := Ground.phase }, { on := 3, ground := Ground.phase }, { on := 4, ground := Ground.phase }, { on := 5, ground := Ground.textOnly Departure.lateStoresUnsure }, { on := 6, ground := Ground.phase }, { on := 7, ground := Ground.phase }, { on := 8, ground := Ground.textOnly Departure.lateStoresUnsure }], guard := none }) rfl (fun K hK => ?_) AllReadyH.nil
      go_simp
      refine hK.out _ _ ?_ (fun hHeld => ?_)
      · trivial
      clear hK K
      try simp only [Act.put, List.setIfInBounds_toArray, List.set_cons_zero, List.set_cons_succ]
      refine wpAnyH_take (i := 11) (oi := { dst := some 14, op := Op.fieldAddr 26 (Operand.tmp 1) 2, type := 0, pos := "entry.go:80", after := #[{ on := 0, ground := Ground.phase }, { on := 1, ground := Ground.phase }, { on := 2, ground := Ground.phase }, { on := 3, ground := Ground.phase }, { on := 4, ground := Ground.phase }, { on := 5, ground := Ground.phase }, { on := 6, ground := Ground.phase }, { on := 7, ground := Ground.phase }, { on := 8, ground := Ground.textOnly Departure.lateStoresUnsure }, { on := 9, ground := Ground.phase }, { on := 10, ground := Ground.phase }], guard := none }) (v := ?_) rfl (by kernel_rfl) (by kernel_rfl) (by kernel_rfl) (fun _ _ _ h => h) (Or.inl ⟨by rfl, ?_⟩) (by assumption) ?_
      rotate_left
      · intro w hSw; (try dsimp only at hSw); go_simp <;> with_reducible rfl
      simp only [Act.put, List.setIfInBounds_toArray, List.set_cons_zero, List.set_cons_succ]
      refine wpAnyH_ready (rs := [12]) (by kernel_rfl) (by simp) ?_
      refine AllReadyH.cons (o := { dst := none, op := Op.store 23 (Operand.tmp 14) (Operand.tmp 9), type := 0, pos := "entry.go:80", after := #[{ on := 11, ground := Ground.data }, { on := 5, ground := Ground.data }, { on := 10, ground := Ground.chain }, { on := 0, ground := Ground.phase }, { on := 1, ground := Ground.phase }, { on := 2, ground := Ground.phase }, { on := 3, ground := Ground.phase }, { on := 4, ground := Ground.phase }, { on := 5, ground := Ground.phase }, { on := 6, ground := Ground.phase }, { on := 7, ground := Ground.phase }, { on := 8, ground := Ground.textOnly Departure.lateStoresUnsure }, { on := 9, ground := Ground.phase }, { on := 10, ground := Ground.phase }], guard := none }) rfl (fun K hK => ?_) AllReadyH.nil
      go_simp
      refine hK.out _ _ ?_ (fun hHeld => ?_)
      · trivial
      clear hK K
      try simp only [Act.put, List.setIfInBounds_toArray, List.set_cons_zero, List.set_cons_succ]
      refine wpAnyH_take (i := 13) (oi := { dst := some 15, op := Op.fieldAddr 26 (Operand.tmp 1) 3, type := 0, pos := "entry.go:80", after := #[{ on := 0, ground := Ground.phase }, { on := 1, ground := Ground.phase }, { on := 2, ground := Ground.phase }, { on := 3, ground := Ground.phase }, { on := 4, ground := Ground.phase }, { on := 5, ground := Ground.phase }, { on := 6, ground := Ground.phase }, { on := 7, ground := Ground.phase }, { on := 8, ground := Ground.phase }, { on := 9, ground := Ground.phase }, { on := 10, ground := Ground.phase }, { on := 11, ground := Ground.phase }, { on := 12, ground := Ground.phase }], guard := none }) (v := ?_) rfl (by kernel_rfl) (by kernel_rfl) (by kernel_rfl) (fun _ _ _ h => h) (Or.inl ⟨by rfl, ?_⟩) (by assumption) ?_
      rotate_left
      · intro w hSw; (try dsimp only at hSw); go_simp <;> with_reducible rfl
      simp only [Act.put, List.setIfInBounds_toArray, List.set_cons_zero, List.set_cons_succ]
      refine wpAnyH_ready (rs := [14]) (by kernel_rfl) (by simp) ?_
      refine AllReadyH.cons (o := { dst := none, op := Op.store 24 (Operand.tmp 15) (Operand.tmp 12), type := 0, pos := "entry.go:80", after := #[{ on := 13, ground := Ground.data }, { on := 8, ground := Ground.data }, { on := 12, ground := Ground.chain }, { on := 0, ground := Ground.phase }, { on := 1, ground := Ground.phase }, { on := 2, ground := Ground.phase }, { on := 3, ground := Ground.phase }, { on := 4, ground := Ground.phase }, { on := 5, ground := Ground.phase }, { on := 6, ground := Ground.phase }, { on := 7, ground := Ground.phase }, { on := 8, ground := Ground.phase }, { on := 9, ground := Ground.phase }, { on := 10, ground := Ground.phase }, { on := 11, ground := Ground.phase }, { on := 12, ground := Ground.phase }], guard := none }) rfl (fun K hK => ?_) AllReadyH.nil
      go_simp
      refine hK.out _ _ ?_ (fun hHeld => ?_)
      · trivial
      clear hK K
      try simp only [Act.put, List.setIfInBounds_toArray, List.set_cons_zero, List.set_cons_succ]
      refine wpAnyH_done (by kernel_rfl) ?_ _
      skip
      go_wp2
      go_meet
      exact ⟨o1, c1, o2, c2, o3, c3, E, hE', q8, hS8, hT8, hR8⟩
    refine AllReadyH.cons (o := { dst := some 8, op := Op.load 23 (Operand.tmp 7), type := 23, pos := "entry.go:80", after := #[{ on := 3, ground := Ground.data }], guard := none }) rfl (fun K hK => ?_) AllReadyH.nil
    go_simp
    refine hK.out _ _ ?_ (fun hHeld => ?_)
    · trivial
    clear hK K
    try simp only [Act.put, List.setIfInBounds_toArray, List.set_cons_zero, List.set_cons_succ]
    refine wpAnyH_ready (rs := [1]) (by kernel_rfl) (by simp) ?_
    refine AllReadyH.cons (o := { dst := some 5, op := Op.load 22 (Operand.tmp 4), type := 22, pos := "entry.go:80", after := #[{ on := 0, ground := Ground.data }], guard := none }) rfl (fun K hK => ?_) AllReadyH.nil
    go_simp
    refine hK.out _ _ ?_ (fun hHeld => ?_)
    · trivial
    clear hK K
    try simp only [Act.put, List.setIfInBounds_toArray, List.set_cons_zero, List.set_cons_succ]
    refine wpAnyH_ready (rs := [2]) (by kernel_rfl) (by simp) ?_
    refine AllReadyH.cons (o := { dst := some 6, op := Op.call { callee := Callee.value (Operand.func 27), args := #[Operand.tmp 5], argTypes := #[22] }, type := 22, pos := "entry.go:80", after := #[{ on := 1, ground := Ground.data }], guard := none }) rfl (fun K hK => ?_) AllReadyH.nil
    go_simp
    refine (KW.out _ q1d.out.bl).mono ?_; rintro e w3 ⟨v3, rfl, hR1, hb3⟩; obtain ⟨o1, c1, rfl⟩ := own_shp hR1; have q3 := hide' (q1d.out.over hb3); have y2 := q3.out.c2; have y3 := q3.out.c3; have hS3 := hide' (own_down hR1 (show w.heap.size + 2 ≤ W1.drew.heap.size from hsz)); clear hR1; (try dsimp only)
    refine hK.out _ _ ?_ (fun hHeld => ?_)
    · trivial
    clear hK K
    try simp only [Act.put, List.setIfInBounds_toArray, List.set_cons_zero, List.set_cons_succ]
    refine wpAnyH_take (i := 9) (oi := { dst := some 13, op := Op.fieldAddr 26 (Operand.tmp 1) 1, type := 0, pos := "entry.go:80", after := #[{ on := 0, ground := Ground.phase }, { on := 1, ground := Ground.phase }, { on := 2, ground := Ground.phase }, { on := 3, ground := Ground.phase }, { on := 4, ground := Ground.phase }, { on := 5, ground := Ground.textOnly Departure.lateStoresUnsure }, { on := 6, ground := Ground.phase }, { on := 7, ground := Ground.phase }, { on := 8, ground := Ground.textOnly Departure.lateStoresUnsure }], guard := none }) (v := ?_) rfl (by kernel_rfl) (by kernel_rfl) (by kernel_rfl) (fun _ _ _ h => h) (Or.inl ⟨by rfl, ?_⟩) (by assumption) ?_
    rotate_left
    · intro w hSw; (try dsimp only at hSw); go_simp <;> with_reducible rfl
    simp only [Act.put, List.setIfInBounds_toArray, List.set_cons_zero, List.set_cons_succ]
    refine wpAnyH_ready (rs := [5]) (by kernel_rfl) (by simp) ?_
    refine AllReadyH.cons (o := { dst := some 9, op := Op.call { callee := Callee.value (Operand.func 18), args := #[Operand.tmp 8], argTypes := #[23] }, type := 23, pos := "entry.go:80", after := #[{ on := 4, ground := Ground.data }, { on := 2, ground := Ground.chain }], guard := none }) rfl (fun K hK => ?_) AllReadyH.nil
    go_simp
    refine (KF.out _ q3.out.bl).mono ?_; rintro e w4 ⟨v4, rfl, hR2, hb4⟩; obtain ⟨o2, c2, rfl⟩ := own_shp hR2; have q4 := hide' (q3.out.over hb4); have u3 := q4.out.c3; have hS4 := hide' (own_below hS3.out hb4 (Nat.le_refl _)); have hT4 := hide' (own_down hR2 q3.out.lt); clear hR2; (try dsimp only)
    refine hK.out _ _ ?_ (fun hHeld => ?_)
    · trivial
    clear hK K
    try simp only [Act.put, List.setIfInBounds_toArray, List.set_cons_zero, List.set_cons_succ]
    refine wpAnyH_ready (rs := [8]) (by kernel_rfl) (by simp) ?_
    refine AllReadyH.cons (o := { dst := some 12, op := Op.call { callee := Callee.value (Operand.func 28), args := #[Operand.tmp 11], argTypes := #[24] }, type := 24, pos := "entry.go:80", after := #[{ on := 7, ground := Ground.data }, { on := 5, ground := Ground.chain }], guard := none }) rfl (fun K hK => ?_) AllReadyH.nil
    go_simp
    refine (KR.out _ q4.out.bl).mono ?_; rintro e w5 ⟨v5, E, rfl, hE, hO, hR3, hb5⟩; have hl3 : E.length = RL.length := (by rw [← hE, List.length_map]); rw [hl3] at hR3; obtain ⟨o3, c3, rfl⟩ := own_shp hR3; have q5 := hide' (q4.out.over hb5); have hS5 := hide' (own_below hS4.out hb5 (Nat.le_refl _)); have hT5 := hide' (own_below hT4.out hb5 (Nat.le_refl _)); have hE' := hide' hE; have hR5 : Hid (CpR w (w.heap.size + 2) (.slice o3 RL.length c3) E 0 w5) := ⟨by rw [hl3]; exact own_down hR3 q4.out.lt, fun i p hp _ => hO p (List.mem_of_getElem? hp), fun i p _ hi => absurd hi (Nat.not_lt_zero _)⟩; have z1 := q5.out.c1; have f1 := q5.out.f 1; have q6 := hide' (q5.out.s1 (.slice o1 WL.length c1)); have z2 := q6.out.c2; have f2 := q6.out.f 2; have q7 := hide' (q6.out.s2 (.slice o2 FL.length c2)); have z3 := q7.out.c3; have f3 := q7.out.f 3; have q8 := hide' (q7.out.s3 (.slice o3 RL.length c3)); have hlow : w.heap.size < w.heap.size + 2 := (by omega); have hS8 := hide' (own_low (i := 3) (own_low (i := 2) (own_low (i := 1) hS5.out hlow (.slice o1 WL.length c1)) hlow (.slice o2 FL.length c2)) hlow (.slice o3 RL.length c3)); have hT8 := hide' (own_low (i := 3) (own_low (i := 2) (own_low (i := 1) hT5.out hlow (.slice o1 WL.length c1)) hlow (.slice o2 FL.length c2)) hlow (.slice o3 RL.length c3)); have hR8 := hide' (CpRlow (i := 3) (CpRlow (i := 2) (CpRlow (i := 1) hR5.out hlow (.slice o1 WL.length c1)) hlow (.slice o2 FL.length c2)) hlow (.slice o3 RL.length c3)); clear hE hO hR3 hl3; (try dsimp only)
    refine hK.out _ _ ?_ (fun hHeld => ?_)
    · trivial
    clear hK K
    try simp only [Act.put, List.setIfInBounds_toArray, List.set_cons_zero, List.set_cons_succ]
    refine wpAnyH_ready (rs := [10]) (by kernel_rfl) (by simp) ?_
    refine AllReadyH.cons (o := { dst := none, op := Op.store 22 (Operand.tmp 13) (Operand.tmp 6), type := 0, pos := "entry.go:80", after := #[{ on := 9, ground := Ground.data }, { on := 2, ground := Ground.data }, { on := 8, ground := Ground.chain }, { on := 0, ground := Ground.phase }, { on := 1, ground := Ground.phase }, { on := 2, ground := Ground.phase }, { on := 3, ground := Ground.phase }, { on := 4, ground := Ground.phase }, { on := 5, ground := Ground.textOnly Departure.lateStoresUnsure }, { on := 6, ground := Ground.phase }, { on := 7, ground := Ground.phase }, { on := 8, ground := Ground.textOnly Departure.lateStoresUnsure }], guard := none }) rfl (fun K hK => ?_) AllReadyH.nil
    go_simp
    refine hK.out _ _ ?_ (fun hHeld => ?_)
    · trivial
    clear hK K
    try simp only [Act.put, List.setIfInBounds_toArray, List.set_cons_zero, List.set_cons_succ]
    refine wpAnyH_take (i := 11) (oi := { dst := some 14, op := Op.fieldAddr 26 (Operand.tmp 1) 2, type := 0, pos := "entry.go:80", after := #[{ on := 0, ground := Ground.phase }, { on := 1, ground := Ground.phase }, { on := 2, ground := Ground.phase }, { on := 3, ground := Ground.phase }, { on := 4, ground := Ground.phase }, { on := 5, ground := Ground.phase }, { on := 6, ground := Ground.phase }, { on := 7, ground := Ground.phase }, { on := 8, ground := Ground.textOnly Departure.lateStoresUnsure }, { on := 9, ground := Ground.phase }, { on := 10, ground := Ground.phase }], guard := none }) (v := ?_) rfl (by kernel_rfl) (by kernel_rfl) (by kernel_rfl) (fun _ _ _ h => h) (Or.inl ⟨by rfl, ?_⟩) (by assumption) ?_
    rotate_left
    · intro w hSw; (try dsimp only at hSw); go_simp <;> with_reducible rfl
    simp only [Act.put, List.setIfInBounds_toArray, List.set_cons_zero, List.set_cons_succ]
    refine wpAnyH_ready (rs := [12]) (by kernel_rfl) (by simp) ?_
    refine AllReadyH.cons (o := { dst := none, op := Op.store 23 (Operand.tmp 14) (Operand.tmp 9), type := 0, pos := "entry.go:80", after := #[{ on := 11, ground := Ground.data }, { on := 5, ground := Ground.data }, { on := 10, ground := Ground.chain }, { on := 0, ground := Ground.phase }, { on := 1, ground := Ground.phase }, { on := 2, ground := Ground.phase }, { on := 3, ground := Ground.phase }, { on := 4, ground := Ground.phase }, { on := 5, ground := Ground.phase }, { on := 6, ground := Ground.phase }, { on := 7, ground := Ground.phase }, { on := 8, ground := Ground.textOnly Departure.lateStoresUnsure }, { on := 9, ground := Ground.phase }, { on := 10, ground := Ground.phase }], guard := none }) rfl (fun K hK => ?_) AllReadyH.nil
    go_simp
    refine hK.out _ _ ?_ (fun hHeld => ?_)
    · trivial
    clear hK K
    try simp only [Act.put, List.setIfInBounds_toArray, List.set_cons_zero, List.set_cons_succ]
    refine wpAnyH_take (i := 13) (oi := { dst := some 15, op := Op.fieldAddr 26 (Operand.tmp 1) 3, type := 0, pos := "entry.go:80", after := #[{ on := 0, ground := Ground.phase }, { on := 1, ground := Ground.phase }, { on := 2, ground := Ground.phase }, { on := 3, ground := Ground.phase }, { on := 4, ground := Ground.phase }, { on := 5, ground := Ground.phase }, { on := 6, ground := Ground.phase }, { on := 7, ground := Ground.phase }, { on := 8, ground := Ground.phase }, { on := 9, ground := Ground.phase }, { on := 10, ground := Ground.phase }, { on := 11, ground := Ground.phase }, { on := 12, ground := Ground.phase }], guard := none }) (v := ?_) rfl (by kernel_rfl) (by kernel_rfl) (by kernel_rfl) (fun _ _ _ h => h) (Or.inl ⟨by rfl, ?_⟩) (by assumption) ?_
    rotate_left
    · intro w hSw; (try dsimp only at hSw); go_simp <;> with_reducible rfl
    simp only [Act.put, List.setIfInBounds_toArray, List.set_cons_zero, List.set_cons_succ]
    refine wpAnyH_ready (rs := [14]) (by kernel_rfl) (by simp) ?_
    refine AllReadyH.cons (o := { dst := none, op := Op.store 24 (Operand.tmp 15) (Operand.tmp 12), type := 0, pos := "entry.go:80", after := #[{ on := 13, ground := Ground.data }, { on := 8, ground := Ground.data }, { on := 12, ground := Ground.chain }, { on := 0, ground := Ground.phase }, { on := 1, ground := Ground.phase }, { on := 2, ground := Ground.phase }, { on := 3, ground := Ground.phase }, { on := 4, ground := Ground.phase }, { on := 5, ground := Ground.phase }, { on := 6, ground := Ground.phase }, { on := 7, ground := Ground.phase }, { on := 8, ground := Ground.phase }, { on := 9, ground := Ground.phase }, { on := 10, ground := Ground.phase }, { on := 11, ground := Ground.phase }, { on := 12, ground := Ground.phase }], guard := none }) rfl (fun K hK => ?_) AllReadyH.nil
    go_simp
    refine hK.out _ _ ?_ (fun hHeld => ?_)
    · trivial
    clear hK K
    try simp only [Act.put, List.setIfInBounds_toArray, List.set_cons_zero, List.set_cons_succ]
    refine wpAnyH_done (by kernel_rfl) ?_ _
    skip
    go_wp2
    go_meet
    exact ⟨o1, c1, o2, c2, o3, c3, E, hE', q8, hS8, hT8, hR8⟩
  case rest =>
  clear q1 KW KF KR
  obtain ⟨o1, c1, o2, c2, o3, c3, E, hE, hq, hS1, hS2, hR⟩ := hcut
  have x3 := hq.out.c3
  go_wp2
  go_loopw [3, 19] (fun _ k wr => ∃ (c : Nat) (Q : List (Rl × Value)), c ≤ RL.length ∧ k = .int .i64 c ∧ Hid (Q.map Prod.fst = RL) ∧ Hid (Cg w us (.slice o1 WL.length c1) (.slice o2 FL.length c2) (.slice o3 RL.length c3) wr) ∧ Hid (wr.ownsRow (w.heap.size + 2) 42 1 (.slice o1 WL.length c1) WL.length (cellsW WL)) ∧ Hid (wr.ownsRow (w.heap.size + 2) 3 1 (.slice o2 FL.length c2) FL.length (cellsI FL)) ∧ Hid (CpR w (w.heap.size + 2) (.slice o3 RL.length c3) Q c wr)) (fun _ k _ => ((RL.length : Int) - intOf k).toNat)
  case atStart => exact ⟨0, E, Nat.zero_le _, rfl, hE, hq, hS1, hS2, hR⟩
  case round =>
    clear hE hq hS1 hS2 hR x3
    obtain ⟨c, Q, hcl2, rfl, hP2, hq, hS1, hS2, hR⟩ := hrel
    have hnP : RL.length = Q.length := by rw [← hP2.out, List.length_map]
    have HnP := hide' hnP
    by_cases hlt : c < RL.length
    · obtain ⟨⟨ps, pv⟩, hp⟩ : ∃ x, Q[c]? = some x := ⟨_, List.getElem?_eq_getElem (by omega)⟩
      obtain ⟨g1, cap1, e1, hge, _⟩ := hR.out.row.form (by omega)
      obtain rfl : o3 = some ⟨g1, 0, none⟩ := by injection e1
      have hcap : RL.length ≤ c3 := by
        rcases hR.out.row.2 with ⟨e2, _⟩ | ⟨g2, cap2, cur2, e2, _, _, h3, _⟩
        · cases e2
        · injection e2 with _ _ e3; omega
      have hold := hR.out.old c _ hp (Nat.le_refl _)
      have hmem : ps ∈ RL := by rw [← hP2.out]; exact List.mem_map.2 ⟨_, List.mem_of_getElem? hp, rfl⟩
      have hle := hA2.out ps hmem
      obtain ⟨os, cs, hpv, _, _⟩ := id hold
      have hpv' : pv = .slice os ps.steps.length cs := hpv
      subst hpv'
      clear e1 hpv hmem hnP
      have hold' : Hid (RowI w (.slice os ps.steps.length cs) ps.steps) := hold
      have hmap : Hid (∀ u, (Q.set c (ps, u)).map Prod.fst = RL) := fun u => by
        rw [← hP2.out]
        apply List.ext_getElem?
        intro i
        rw [List.getElem?_map, List.getElem?_set, List.getElem?_map]
        by_cases hi : c = i
        · subst hi
          rw [if_pos rfl, hp]
          have := (List.getElem?_eq_some_iff.1 hp).1
          simp [this]
        · rw [if_neg hi]
      have hp' := hide' hp
      clear hold hp
      have x3 := hq.out.c3
      have hqd := hide' (hq.out.over (Below.refl _ _).drew)
      have hS1d := hide' (own_below hS1.out (Below.refl _ wr).drew (Nat.le_refl _))
      have hS2d := hide' (own_below hS2.out (Below.refl _ wr).drew (Nat.le_refl _))
      have hRd := hide' (hR.out.over (Below.refl _ _).drew)
      have x8 := (hRd.out.at HnP.out hp'.out).1
      have hxd := hide' hqd.out.c3
      clear hq hS1 hS2 hR
      go_wp2
      refine wp_region_held_drew (S := (fun V => V.cell? ⟨w.heap.size, 3, none⟩ = some (.slice (some ⟨g1, 0, none⟩) RL.length c3))) (by kernel_rfl) ?_ (fun hHeld => ?_)
      · exact hxd.out
      refine wpAnyH_take (i := 0) (oi := { dst := some 22, op := Op.fieldAddr 26 (Operand.tmp 1) 3, type := 0, pos := "entry.go:82", after := #[], guard := none }) (v := ?_) rfl (by kernel_rfl) (by kernel_rfl) (by kernel_rfl) (fun _ _ _ h => h) (Or.inl ⟨by rfl, ?_⟩) (by assumption) ?_
      rotate_left
      · intro w hSw; (try dsimp only at hSw); go_simp <;> with_reducible rfl
      simp only [Act.put, List.setIfInBounds_toArray, List.set_cons_zero, List.set_cons_succ]
      refine wpAnyH_take (i := 1) (oi := { dst := some 23, op := Op.load 24 (Operand.tmp 22), type := 24, pos := "entry.go:82", after := #[{ on := 0, ground := Ground.data }], guard := none }) (v := ?_) rfl (by kernel_rfl) (by kernel_rfl) (by kernel_rfl) (fun _ _ _ h => h) (Or.inl ⟨by rfl, ?_⟩) (by assumption) ?_
      rotate_left
      · intro w hSw; (try dsimp only at hSw); go_simp <;> with_reducible rfl
      simp only [Act.put, List.setIfInBounds_toArray, List.set_cons_zero, List.set_cons_succ]
      refine wpAnyH_take (i := 2) (oi := { dst := some 24, op := Op.move (Operand.tmp 3), type := 3, pos := "entry.go:82", after := #[], guard := none }) (v := ?_) rfl (by kernel_rfl) (by kernel_rfl) (by kernel_rfl) (fun _ _ _ h => h) (Or.inl ⟨by rfl, ?_⟩) (by assumption) ?_
      rotate_left
      · intro w hSw; (try dsimp only at hSw); go_simp <;> with_reducible rfl
      simp only [Act.put, List.setIfInBounds_toArray, List.set_cons_zero, List.set_cons_succ]
      refine wpAnyH_take (i := 3) (oi := { dst := some 25, op := Op.fieldAddr 26 (Operand.tmp 1) 3, type := 0, pos := "entry.go:82", after := #[], guard := none }) (v := ?_) rfl (by kernel_rfl) (by kernel_rfl) (by kernel_rfl) (fun _ _ _ h => h) (Or.inl ⟨by rfl, ?_⟩) (by assumption) ?_
      rotate_left
      · intro w hSw; (try dsimp only at hSw); go_simp <;> with_reducible rfl
      simp only [Act.put, List.setIfInBounds_toArray, List.set_cons_zero, List.set_cons_succ]
      refine wpAnyH_take (i := 4) (oi := { dst := some 26, op := Op.load 24 (Operand.tmp 25), type := 24, pos := "entry.go:82", after := #[{ on := 3, ground := Ground.data }], guard := none }) (v := ?_) rfl (by kernel_rfl) (by kernel_rfl) (by kernel_rfl) (fun _ _ _ h => h) (Or.inl ⟨by rfl, ?_⟩) (by assumption) ?_
      rotate_left
      · intro w hSw; (try dsimp only at hSw); go_simp <;> with_reducible rfl
      simp only [Act.put, List.setIfInBounds_toArray, List.set_cons_zero, List.set_cons_succ]
      refine wpAnyH_take (i := 5) (oi := { dst := some 27, op := Op.move (Operand.tmp 3), type := 3, pos := "entry.go:82", after := #[], guard := none }) (v := ?_) rfl (by kernel_rfl) (by kernel_rfl) (by kernel_rfl) (fun _ _ _ h => h) (Or.inl ⟨by rfl, ?_⟩) (by assumption) ?_
      rotate_left
      · intro w hSw; (try dsimp only at hSw); go_simp <;> with_reducible rfl
      simp only [Act.put, List.setIfInBounds_toArray, List.set_cons_zero, List.set_cons_succ]
      refine wpAnyH_take (i := 6) (oi := { dst := some 28, op := Op.indexAddr 24 (Operand.tmp 26) (Operand.tmp 27), type := 0, pos := "entry.go:82", after := #[{ on := 4, ground := Ground.data }, { on := 5, ground := Ground.data }], guard := none }) (v := ?_) rfl (by kernel_rfl) (by kernel_rfl) (by kernel_rfl) (fun _ _ _ h => h) (Or.inl ⟨by rfl, ?_⟩) (by assumption) ?_
      rotate_left
      · intro w hSw; (try dsimp only at hSw); go_simp <;> with_reducible rfl
      simp only [Act.put, List.setIfInBounds_toArray, List.set_cons_zero, List.set_cons_succ]
      refine wpAnyH_take (i := 7) (oi := { dst := some 29, op := Op.fieldAddr 44 (Operand.tmp 28) 2, type := 0, pos := "entry.go:82", after := #[{ on := 6, ground := Ground.data }], guard := none }) (v := ?_) rfl (by kernel_rfl) (by kernel_rfl) (by kernel_rfl) (fun _ _ _ h => h) (Or.inl ⟨by rfl, ?_⟩) (by assumption) ?_
      rotate_left
      · intro w hSw; (try dsimp only at hSw); go_simp <;> with_reducible rfl
      simp only [Act.put, List.setIfInBounds_toArray, List.set_cons_zero, List.set_cons_succ]
      refine wpAnyH_ready (rs := [8]) (by kernel_rfl) (by simp) ?_
      refine AllReadyH.cons (o := { dst := some 30, op := Op.load 23 (Operand.tmp 29), type := 23, pos := "entry.go:82", after := #[{ on := 7, ground := Ground.data }], guard := none }) rfl (fun K hK => ?_) AllReadyH.nil
      go_simp
      refine hK.out _ _ ?_ (fun hHeld => ?_)
      · exact hxd.out
      clear hK K
      try simp only [Act.put, List.setIfInBounds_toArray, List.set_cons_zero, List.set_cons_succ]
      refine wpAnyH_ready (rs := [9]) (by kernel_rfl) (by simp) ?_
      refine AllReadyH.cons (o := { dst := some 31, op := Op.call { callee := Callee.value (Operand.func 18), args := #[Operand.tmp 30], argTypes := #[23] }, type := 23, pos := "entry.go:82", after := #[{ on := 8, ground := Ground.data }], guard := none }) rfl (fun K hK => ?_) AllReadyH.nil
      go_simp
      refine (KI.out _ _ _ hold'.out hle hqd.out.bl).mono ?_; rintro e w5 ⟨v5, rfl, hO5, hb5⟩; obtain ⟨o5, c5, rfl⟩ := own_shp hO5; have q5 := hide' (hqd.out.over hb5); have h5 := hide' (hRd.out.over hb5); have r5 := hide' (own_below hS1d.out hb5 (Nat.le_refl _)); have t5 := hide' (own_below hS2d.out hb5 (Nat.le_refl _)); have f5 := (h5.out.at HnP.out hp'.out).2; have d5 := (h5.out.at HnP.out hp'.out).1; have x5 := hide' q5.out.c3; have q6 := hide' (q5.out.far (g := g1) (i := c * 3 + 2) hge (.slice o5 ps.steps.length c5)); have x6 := hide' q6.out.c3; have hO5' := hide' (own_down hO5 (show w.heap.size + 2 ≤ _ from hqd.out.lt)); clear hO5 hb5; (try dsimp only)
      refine hK.out _ _ ?_ (fun hHeld => ?_)
      · exact x5.out
      clear hK K
      try simp only [Act.put, List.setIfInBounds_toArray, List.set_cons_zero, List.set_cons_succ]
      refine wpAnyH_take (i := 10) (oi := { dst := some 32, op := Op.indexAddr 24 (Operand.tmp 23) (Operand.tmp 24), type := 0, pos := "entry.go:82", after := #[{ on := 1, ground := Ground.data }, { on := 2, ground := Ground.data }, { on := 0, ground := Ground.phase }, { on := 1, ground := Ground.phase }, { on := 2, ground := Ground.phase }, { on := 3, ground := Ground.phase }, { on := 4, ground := Ground.phase }, { on := 5, ground := Ground.phase }, { on := 6, ground := Ground.phase }, { on := 7, ground := Ground.phase }, { on := 8, ground := Ground.phase }, { on := 9, ground := Ground.phase }], guard := none }) (v := ?_) rfl (by kernel_rfl) (by kernel_rfl) (by kernel_rfl) (fun _ _ _ h => h) (Or.inl ⟨by rfl, ?_⟩) (by assumption) ?_
      rotate_left
      · intro w hSw; (try dsimp only at hSw); go_simp <;> with_reducible rfl
      simp only [Act.put, List.setIfInBounds_toArray, List.set_cons_zero, List.set_cons_succ]
      refine wpAnyH_take (i := 11) (oi := { dst := some 33, op := Op.fieldAddr 44 (Operand.tmp 32) 2, type := 0, pos := "entry.go:82", after := #[{ on := 10, ground := Ground.data }, { on := 0, ground := Ground.phase }, { on := 1, ground := Ground.phase }, { on := 2, ground := Ground.phase }, { on := 3, ground := Ground.phase }, { on := 4, ground := Ground.phase }, { on := 5, ground := Ground.phase }, { on := 6, ground := Ground.phase }, { on := 7, ground := Ground.phase }, { on := 8, ground := Ground.phase }, { on := 9, ground := Ground.phase }], guard := none }) (v := ?_) rfl (by kernel_rfl) (by kernel_rfl) (by kernel_rfl) (fun _ _ _ h => h) (Or.inl ⟨by rfl, ?_⟩) (by assumption) ?_
      rotate_left
      · intro w hSw; (try dsimp only at hSw); go_simp <;> with_reducible rfl
      simp only [Act.put, List.setIfInBounds_toArray, List.set_cons_zero, List.set_cons_succ]
      refine wpAnyH_ready (rs := [12]) (by kernel_rfl) (by simp) ?_
      refine AllReadyH.cons (o := { dst := none, op := Op.store 23 (Operand.tmp 33) (Operand.tmp 31), type := 0, pos := "entry.go:82", after := #[{ on := 11, ground := Ground.data }, { on := 9, ground := Ground.data }, { on := 9, ground := Ground.chain }, { on := 0, ground := Ground.phase }, { on := 1, ground := Ground.phase }, { on := 2, ground := Ground.phase }, { on := 3, ground := Ground.phase }, { on := 4, ground := Ground.phase }, { on := 5, ground := Ground.phase }, { on := 6, ground := Ground.phase }, { on := 7, ground := Ground.phase }, { on := 8, ground := Ground.phase }, { on := 9, ground := Ground.phase }], guard := none }) rfl (fun K hK => ?_) AllReadyH.nil
      go_simp
      refine hK.out _ _ ?_ (fun hHeld => ?_)
      · exact x6.out
      clear hK K
      try simp only [Act.put, List.setIfInBounds_toArray, List.set_cons_zero, List.set_cons_succ]
      refine wpAnyH_done (by kernel_rfl) ?_ _
      skip
      have hR6 := hide' (h5.out.set HnP.out hp'.out hO5'.out)
      have hrr : w5.ownsRow (w.heap.size + 2) 44 3 (.slice (some ⟨g1, 0, none⟩) RL.length c3) RL.length (cellsR Q) := by have := h5.out.row; rw [← HnP.out] at this; exact this
      have hS6 := hide' (own_apart (g := g1) (i := c * 3 + 2) (x := .slice o5 ps.steps.length c5) r5.out (by decide) hrr)
      have hT6 := hide' (own_apart (g := g1) (i := c * 3 + 2) (x := .slice o5 ps.steps.length c5) t5.out (by decide) hrr)
      have hm6 := hide' (hmap.out (.slice o5 ps.steps.length c5))
      clear h5 r5 t5 q5 hS1d hS2d hRd hqd hold' hp' hmap hO5' f5 d5 x5 x6 x8 hxd hHeld x3 hrr
      go_wp2
      exact ⟨⟨c + 1, Q.set c (ps, .slice o5 ps.steps.length c5), by omega, by go_num, hm6, q6, hS6, hT6, hR6⟩, by simp [intOf]; omega⟩
    · obtain rfl : c = RL.length := by omega
      have hT2 := hide' (hR.out.done (by omega))
      have x0 := hq.out.c0
      have x1 := hq.out.c1
      have x2 := hq.out.c2
      have x3 := hq.out.c3
      have hbr : Hid (wr.heap[w.heap.size + 1]? = some (.cells #[.int .i64 0, .slice none 0 0, .slice none 0 0, .slice none 0 0] 26 (0, 0))) := hq.out.br
      have hbl := hide' hq.out.bl
      have y0 : wr.cell? ⟨w.heap.size + 1, 0, none⟩ = some (.int .i64 0) := by simp [World.cell?, hbr.out]
      have y1 : wr.cell? ⟨w.heap.size + 1, 1, none⟩ = some (.slice none 0 0) := by simp [World.cell?, hbr.out]
      have y2 : wr.cell? ⟨w.heap.size + 1, 2, none⟩ = some (.slice none 0 0) := by simp [World.cell?, hbr.out]
      have y3 : wr.cell? ⟨w.heap.size + 1, 3, none⟩ = some (.slice none 0 0) := by simp [World.cell?, hbr.out]
      have gz : ∀ i, wr.frozen? ⟨w.heap.size + 1, i, none⟩ = false := fun i => by simp [World.frozen?, hbr.out]
      have hlow : w.heap.size + 1 < w.heap.size + 2 := by omega
      have hF := hide' (hFin.out (.slice o1 WL.length c1) (.slice o2 FL.length c2) (.slice o3 RL.length c3) Q ((((wr.setCell ⟨w.heap.size + 1, 0, none⟩ (.int .i64 us)).setCell ⟨w.heap.size + 1, 1, none⟩ (.slice o1 WL.length c1)).setCell ⟨w.heap.size + 1, 2, none⟩ (.slice o2 FL.length c2)).setCell ⟨w.heap.size + 1, 3, none⟩ (.slice o3 RL.length c3)) hP2.out (own_down (own_low (own_low (own_low (own_low hS1.out hlow _) hlow _) hlow _) hlow _) (by omega)) (own_down (own_low (own_low (own_low (own_low hS2.out hlow _) hlow _) hlow _) hlow _) (by omega)) (TwSdown (TwSlow (TwSlow (TwSlow (TwSlow hT2.out hlow _) hlow _) hlow _) hlow _) (by omega)) ((((hbl.out.setCell (p := ⟨w.heap.size + 1, 0, none⟩) (Nat.le_succ _) _).setCell (p := ⟨w.heap.size + 1, 1, none⟩) (Nat.le_succ _) _).setCell (p := ⟨w.heap.size + 1, 2, none⟩) (Nat.le_succ _) _).setCell (p := ⟨w.heap.size + 1, 3, none⟩) (Nat.le_succ _) _))
      have r3 : Hid (((((wr.setCell ⟨w.heap.size + 1, 0, none⟩ (.int .i64 us)).setCell ⟨w.heap.size + 1, 1, none⟩ (.slice o1 WL.length c1)).setCell ⟨w.heap.size + 1, 2, none⟩ (.slice o2 FL.length c2)).setCell ⟨w.heap.size + 1, 3, none⟩ (.slice o3 RL.length c3)).heap[w.heap.size + 1]? = some (.cells #[.int .i64 us, .slice o1 WL.length c1, .slice o2 FL.length c2, .slice o3 RL.length c3] 26 (0, 0))) := by
        show _ = _
        simpa using heap_atG (i := 3) (.slice o3 RL.length c3) (heap_atG (i := 2) (.slice o2 FL.length c2) (heap_atG (i := 1) (.slice o1 WL.length c1) (heap_atG (i := 0) (.int .i64 us) hbr.out)))
      clear hnP HnP hR hq hS1 hS2 hT2 hFin hbl hbr hP2 KI hA2
      go_wp2
      obtain ⟨WF, hWF⟩ : ∃ WF, WF = (((wr.setCell ⟨w.heap.size + 1, 0, none⟩ (.int .i64 us)).setCell ⟨w.heap.size + 1, 1, none⟩ (.slice o1 WL.length c1)).setCell ⟨w.heap.size + 1, 2, none⟩ (.slice o2 FL.length c2)).setCell ⟨w.heap.size + 1, 3, none⟩ (.slice o3 RL.length c3) := ⟨_, rfl⟩
      rw [← hWF] at hF r3 ⊢
      have k0 : WF.cell? ⟨w.heap.size + 1, 0, none⟩ = some (.int .i64 us) := by simp [World.cell?, r3.out]
      have k1 : WF.cell? ⟨w.heap.size + 1, 1, none⟩ = some (.slice o1 WL.length c1) := by simp [World.cell?, r3.out]
      have k2 : WF.cell? ⟨w.heap.size + 1, 2, none⟩ = some (.slice o2 FL.length c2) := by simp [World.cell?, r3.out]
      have k3 : WF.cell? ⟨w.heap.size + 1, 3, none⟩ = some (.slice o3 RL.length c3) := by simp [World.cell?, r3.out]
      refine bodyPost_ret (v := .agg #[.int .i64 us, .slice o1 WL.length c1, .slice o2 FL.length c2, .slice o3 RL.length c3]) ?_ rfl hF.out
      simp [results, Tryd.results17, go_sem, k0, k1, k2, k3]
end Go.Proofs.YtnfebegmgeanhaaDoor.S
