/- The document's Twin: a flow in new memory. -/
import Derived.Test.YtahfobbiaimoiaaGreatDoorJ29
import Derived.Test.YtahfobbiaimoiaaGreatDoorJ31
import Derived.Deep.RegionHeld3
namespace Go.Proofs.YtahfobbiaimoiaaGreatDoor
open Go.RowKit
/-- All of a row of ints, onto nil. -/
theorem all_intsR {ops : Array Oper} {rest : List Oper} {o : Oper} {a : Act} {Q : Exit → Act → World → Prop} (hgd : o.guard = none) (s x : Operand) (W : World) (v : Value) (l : List Int) (ho : o.op = .call { callee := .builtin .append, args := #[s, x], argTypes := #[53, 53] })
    (es : a.eval s = .slice none 0 0) (ex : a.eval x = v) (hr : RowI W v l) (hn : l.length ≤ 1000)
    (hK : ∀ o2 n2 c2 w2, Hid (w2.ownsRow W.heap.size 3 1 (.slice o2 n2 c2) l.length (cellsI l)) → Hid (Below W.heap.size W w2) → wpList Tryz.prog ops Q rest (a.put o.dst (.slice o2 n2 c2)) w2) : wpList Tryz.prog ops Q (o :: rest) a W := by
  obtain ⟨i0, hi, hz0, hz1, hz2⟩ := info_parts info3
  obtain ⟨oa, cap, rfl, hcap, hc⟩ := hr
  cases oa with
  | none =>
    have h2 := hcap.2 rfl
    subst h2
    have : l = [] := List.eq_nil_of_length_eq_zero (by omega)
    subst this
    exact wpList_append_own_none hgd s x 53 ho W.heap.size 3 i0 1 Tryz.underlying53 hi _ 0 (cellsI []) es (World.ownsRow_nil _ _ _ _) ex (hK _ _ _ _ (World.ownsRow_nil _ _ _ _) (Below.refl _ _))
  | some ad =>
    refine wpList_append_own _ hgd s x 53 ho W.heap.size 3 i0 (.int .i64 0) 1 8 Tryz.underlying53 hi hz0 hz1 hz2 rfl (by decide) _ 0 (cellsI []) es (World.ownsRow_nil _ _ _ _) ad l.length cap (cellsI l) ex (by simp [cellsI]) (fun j u hu => ?_) (one_cells l) (by unfold maxLen; omega) (by omega) (Nat.le_refl _) ?_
    · obtain ⟨z, hz, rfl⟩ := cellsI_at hu
      obtain ⟨g', o'', e, hcz⟩ := hc j z hz
      cases e
      rw [Addr.add_lit]; exact hcz
    · intro v2 w2 hown hg _
      obtain ⟨o2, c2, rfl⟩ := own_shp hown
      refine hK _ _ _ _ ?_ ((Below.refl _ W).grown hg (Nat.le_refl _) (fun j e => by cases e))
      show World.ownsRow _ _ _ _ _ _ _
      have := hown
      rw [Nat.zero_add] at this
      simpa [cellsI] using this
theorem blk_cell {W W' : World} {b i : Nat} {v : Value} (h : W.cell? ⟨b, i, none⟩ = some v) (e : W'.heap[b]? = W.heap[b]?) : W'.cell? ⟨b, i, none⟩ = some v := by
  rw [World.cell?] at h ⊢
  rw [e]; exact h
/-- Below a mark nothing has turned behind an append and the room made for it. -/
theorem low_grown {W w2 : World} {m : Nat} {r : Option Nat} (hg : W.grownBy w2 r) (hr : ∀ x, r = some x → m ≤ x) {V : World} (hV : V = W) (k : Nat) (hk : k < m) (hm : m ≤ W.heap.size) : w2.heap[k]? = V.heap[k]? := by
  subst hV
  exact hg.block k (by omega) fun e => by have := hr k e.symm; omega
set_option maxRecDepth 100000 in
set_option maxHeartbeats 8000000 in
theorem twinD (F : Fw) (v : Value) (w : World) (hv : flV w v F) (hB : FlB F) : Calls Tryz.prog 84 #[v] w (CopR w F) := by
  obtain ⟨sv0, rv0, rfl, hs, hr⟩ := hv
  obtain ⟨oa, cap, rfl, hcapA, hcA⟩ := hs
  obtain ⟨ob, cb, rfl, hcapB, hcB⟩ := hr
  have hcA' := hide' hcA
  have hcB' := hide' hcB
  have hsl := hB.sl
  have hrl := hB.rl
  have hst := hide' hB.st
  have hru := hide' hB.ru
  have hFin : Hid (∀ sv rv P1 P2 W, P1.map Prod.fst = F.steps → P2.map Prod.fst = F.rules → TwP w.heap.size W sv P1 → TwS w.heap.size W rv P2 → Below w.heap.size w W → CopR w F (.returned (.agg #[.string F.name, sv, rv])) W) := fun sv rv P1 P2 W h1 h2 h3 h4 h5 => ⟨sv, rv, P1, P2, rfl, h1, h2, h3, h4, h5⟩
  generalize CopR w F = QQ at *
  clear hcA hcB hcapA hcapB hB
  generalize F.name = nm at *
  generalize F.steps = SL at *
  generalize F.rules = RL at *
  have q1 : Hid (Gq w nm (.slice oa SL.length cap) (.slice ob RL.length cb) (.slice none 0 0) (.slice none 0 0) [] [] (((w.alloc (.cells #[.string nm, .slice oa SL.length cap, .slice ob RL.length cb] 25)).alloc (.cells #[.string ⟨#[]⟩, .slice none 0 0, .slice none 0 0] 25)).alloc (.cells #[.string nm, .slice none 0 0, .slice none 0 0] 25))) := by
    have hb := (Below.refl _ ((w.alloc (.cells #[.string nm, .slice oa SL.length cap, .slice ob RL.length cb] 25)).alloc (.cells #[.string ⟨#[]⟩, .slice none 0 0, .slice none 0 0] 25))).alloc (Nat.le_refl _) (.cells #[.string nm, .slice none 0 0, .slice none 0 0] 25)
    exact ⟨(hb.block _ (by simp; omega)).trans (al_fst w _ _), (hb.block _ (by simp)).trans (al_snd w _ _), by have := heap_alloc_new ((w.alloc (.cells #[.string nm, .slice oa SL.length cap, .slice ob RL.length cb] 25)).alloc (.cells #[.string ⟨#[]⟩, .slice none 0 0, .slice none 0 0] 25)) (.cells #[.string nm, .slice none 0 0, .slice none 0 0] 25); simpa using this, TwP.nil _ _, TwS.nil _ _, (((Below.refl _ w).alloc (Nat.le_refl _) _).alloc (by simp) _).alloc (by simp; omega) _⟩
  go_enter Tryz.func84, Tryz.ntmps84
  go_wp2
  generalize ((w.alloc (.cells #[.string nm, .slice oa SL.length cap, .slice ob RL.length cb] 25)).alloc (.cells #[.string ⟨#[]⟩, .slice none 0 0, .slice none 0 0] 25)).alloc (.cells #[.string nm, .slice none 0 0, .slice none 0 0] 25) = W1 at *
  go_loopw [4] (fun k wr => ∃ (c : Nat) (P : List (Sp × Value)) (o1 : Option Addr) (n1 c1 : Nat), c ≤ SL.length ∧ P.length ≤ c ∧ k = .int .i64 c ∧ Hid (P.map Prod.fst = SL.take c) ∧ Hid (Gq w nm (.slice oa SL.length cap) (.slice ob RL.length cb) (.slice o1 n1 c1) (.slice none 0 0) P [] wr)) (fun k _ => ((SL.length : Int) - intOf k).toNat)
  case atStart => exact ⟨0, [], none, 0, 0, Nat.zero_le _, Nat.zero_le _, rfl, rfl, q1⟩
  case round =>
    clear q1
    obtain ⟨c, P, o1, n1, c1, hcl, hPl, rfl, hM, hq⟩ := hrel
    have x1 := hq.out.f1
    by_cases hlt : c < SL.length
    · obtain ⟨s, hx⟩ : ∃ x, SL[c]? = some x := ⟨_, List.getElem?_eq_getElem hlt⟩
      obtain ⟨g, o, av, rfl, c1', c2', c3', hs⟩ := hcA'.out c s hx
      have d3 := (hq.out.bl.cell (p := ⟨g, o + c * 3 + 2, none⟩) (cell_lt c3')).trans c3'
      have hs' := hide' (hs.below hq.out.bl (Nat.le_refl _))
      have hal := (hst.out s (List.mem_of_getElem? hx)).1
      have hSS : Hid (∀ V : World, (∀ k, k < w.heap.size + 1 → V.heap[k]? = wr.heap[k]?) → V.cell? ⟨w.heap.size, 1, none⟩ = some (.slice (some ⟨g, o, none⟩) SL.length cap) ∧ V.cell? ⟨g, o + c * 3, none⟩ = some (.string s.name) ∧ V.cell? ⟨g, o + c * 3 + 1, none⟩ = some (.string s.duty)) := fun V hV => by
        have hg := cell_lt c1'
        have e : ∀ k, k < w.heap.size → V.heap[k]? = w.heap[k]? := fun k hk => (hV k (by omega)).trans (hq.out.bl.block k hk)
        exact ⟨blk_cell hq.out.f1 (hV _ (by omega)), blk_cell c1' (e g hg), blk_cell c2' (e g hg)⟩
      obtain ⟨os, cs, rfl, _, _⟩ := hs
      have hN : Hid (∀ u, (P ++ [(s, u)]).map Prod.fst = SL.take (c + 1)) := fun u => by rw [List.map_append, hM.out, take_next hx]; rfl
      have hbx := hide' hq.out.lt
      clear hcA' hcB' c1' c2' c3' hx hM hFin hst hru
      go_wp2_with (at_builtin; refine all_intsR rfl (.tmp 18) (.tmp 24) wr _ s.after rfl rfl rfl hs'.out (by omega) ?_; intro o6 n6 c6 w6 hO6 hb6; have q6 := hide' (hq.out.over hb6.out); have hL6 : Hid (∀ k, k < w.heap.size + 3 → w6.heap[k]? = wr.heap[k]?) := fun k hk => hb6.out.block k (by have := hbx.out; omega); have hO6' := hide' (own_down hO6.out (show w.heap.size + 3 ≤ _ from hbx.out)); clear hO6 hb6)
      have q6d := hide' (q6.out.over (Below.refl _ _).drew)
      have y1 := q6d.out.g1
      have q6a := hide' (q6d.out.over ((Below.refl _ w6.drew).alloc (Nat.le_refl _) (.cells #[.string s.name, .string s.duty, .slice o6 n6 c6] 95)))
      have z1a : (w6.alloc (.cells #[.string s.name, .string s.duty, .slice o6 n6 c6] 95)).drew.cell? ⟨w.heap.size + 2, 1, none⟩ = some (.slice o1 n1 c1) := q6a.out.g1
      have hS0 := hide' (hSS.out w6.drew fun k hk => hL6.out k (by omega))
      have hS6a := hide' (hSS.out (w6.drew.alloc (.cells #[.string s.name, .string s.duty, .slice o6 n6 c6] 95)) fun k hk => (((Below.refl w6.drew.heap.size w6.drew).alloc (Nat.le_refl _) _).block k (by have := q6d.out.lt; omega)).trans (hL6.out k (by omega)))
      have hl6 : w.heap.size + 3 ≤ w6.drew.heap.size := q6d.out.lt
      refine wp_region_held_drew (S := (fun V => V.cell? ⟨w.heap.size, 1, none⟩ = some (.slice (some ⟨g, o, none⟩) SL.length cap) ∧ V.cell? ⟨g, o + c * 3, none⟩ = some (.string s.name) ∧ V.cell? ⟨g, o + c * 3 + 1, none⟩ = some (.string s.duty))) (by kernel_rfl) ?_ (fun hHeld => ?_)
      · exact hS0.out
      refine wpAnyH_take (i := 0) (oi := { dst := some 26, op := Op.fieldAddr 25 (Operand.tmp 3) 1, type := 0, pos := "ref.go:26", after := #[], guard := none }) (v := ?_) rfl (by kernel_rfl) (by kernel_rfl) (by kernel_rfl) (fun _ _ _ h => h) (Or.inl ⟨by rfl, ?_⟩) (by assumption) ?_
      rotate_left
      · intro w hSw; (try dsimp only at hSw); go_simp <;> with_reducible rfl
      simp only [Act.put, List.setIfInBounds_toArray, List.set_cons_zero, List.set_cons_succ]
      refine wpAnyH_take (i := 2) (oi := { dst := some 28, op := Op.fieldAddr 25 (Operand.tmp 1) 1, type := 0, pos := "ref.go:26", after := #[], guard := none }) (v := ?_) rfl (by kernel_rfl) (by kernel_rfl) (by kernel_rfl) (fun _ _ _ h => h) (Or.inl ⟨by rfl, ?_⟩) (by assumption) ?_
      rotate_left
      · intro w hSw; (try dsimp only at hSw); go_simp <;> with_reducible rfl
      simp only [Act.put, List.setIfInBounds_toArray, List.set_cons_zero, List.set_cons_succ]
      refine wpAnyH_take (i := 3) (oi := { dst := some 29, op := Op.load 22 (Operand.tmp 28), type := 22, pos := "ref.go:26", after := #[{ on := 2, ground := Ground.data }], guard := none }) (v := ?_) rfl (by kernel_rfl) (by kernel_rfl) (by kernel_rfl) (fun _ _ _ h => h) (Or.inl ⟨by rfl, ?_⟩) (by assumption) ?_
      rotate_left
      · intro w hSw; (try dsimp only at hSw); go_simp <;> with_reducible rfl
      simp only [Act.put, List.setIfInBounds_toArray, List.set_cons_zero, List.set_cons_succ]
      refine wpAnyH_take (i := 4) (oi := { dst := some 30, op := Op.move (Operand.tmp 4), type := 3, pos := "ref.go:26", after := #[], guard := none }) (v := ?_) rfl (by kernel_rfl) (by kernel_rfl) (by kernel_rfl) (fun _ _ _ h => h) (Or.inl ⟨by rfl, ?_⟩) (by assumption) ?_
      rotate_left
      · intro w hSw; (try dsimp only at hSw); go_simp <;> with_reducible rfl
      simp only [Act.put, List.setIfInBounds_toArray, List.set_cons_zero, List.set_cons_succ]
      refine wpAnyH_take (i := 5) (oi := { dst := some 31, op := Op.indexAddr 22 (Operand.tmp 29) (Operand.tmp 30), type := 0, pos := "ref.go:26", after := #[{ on := 3, ground := Ground.data }, { on := 4, ground := Ground.data }], guard := none }) (v := ?_) rfl (by kernel_rfl) (by kernel_rfl) (by kernel_rfl) (fun _ _ _ h => h) (Or.inl ⟨by rfl, ?_⟩) (by assumption) ?_
      rotate_left
      · intro w hSw; (try dsimp only at hSw); go_simp <;> with_reducible rfl
      simp only [Act.put, List.setIfInBounds_toArray, List.set_cons_zero, List.set_cons_succ]
      refine wpAnyH_take (i := 6) (oi := { dst := some 32, op := Op.fieldAddr 95 (Operand.tmp 31) 0, type := 0, pos := "ref.go:26", after := #[{ on := 5, ground := Ground.data }], guard := none }) (v := ?_) rfl (by kernel_rfl) (by kernel_rfl) (by kernel_rfl) (fun _ _ _ h => h) (Or.inl ⟨by rfl, ?_⟩) (by assumption) ?_
      rotate_left
      · intro w hSw; (try dsimp only at hSw); go_simp <;> with_reducible rfl
      simp only [Act.put, List.setIfInBounds_toArray, List.set_cons_zero, List.set_cons_succ]
      refine wpAnyH_take (i := 7) (oi := { dst := some 33, op := Op.load 9 (Operand.tmp 32), type := 9, pos := "ref.go:26", after := #[{ on := 6, ground := Ground.data }], guard := none }) (v := ?_) rfl (by kernel_rfl) (by kernel_rfl) (by kernel_rfl) (fun _ _ _ h => h) (Or.inl ⟨by rfl, ?_⟩) (by assumption) ?_
      rotate_left
      · intro w hSw; (try dsimp only at hSw); go_simp <;> with_reducible rfl
      simp only [Act.put, List.setIfInBounds_toArray, List.set_cons_zero, List.set_cons_succ]
      refine wpAnyH_take (i := 8) (oi := { dst := some 34, op := Op.fieldAddr 25 (Operand.tmp 1) 1, type := 0, pos := "ref.go:26", after := #[], guard := none }) (v := ?_) rfl (by kernel_rfl) (by kernel_rfl) (by kernel_rfl) (fun _ _ _ h => h) (Or.inl ⟨by rfl, ?_⟩) (by assumption) ?_
      rotate_left
      · intro w hSw; (try dsimp only at hSw); go_simp <;> with_reducible rfl
      simp only [Act.put, List.setIfInBounds_toArray, List.set_cons_zero, List.set_cons_succ]
      refine wpAnyH_take (i := 9) (oi := { dst := some 35, op := Op.load 22 (Operand.tmp 34), type := 22, pos := "ref.go:26", after := #[{ on := 8, ground := Ground.data }], guard := none }) (v := ?_) rfl (by kernel_rfl) (by kernel_rfl) (by kernel_rfl) (fun _ _ _ h => h) (Or.inl ⟨by rfl, ?_⟩) (by assumption) ?_
      rotate_left
      · intro w hSw; (try dsimp only at hSw); go_simp <;> with_reducible rfl
      simp only [Act.put, List.setIfInBounds_toArray, List.set_cons_zero, List.set_cons_succ]
      refine wpAnyH_take (i := 10) (oi := { dst := some 36, op := Op.move (Operand.tmp 4), type := 3, pos := "ref.go:26", after := #[], guard := none }) (v := ?_) rfl (by kernel_rfl) (by kernel_rfl) (by kernel_rfl) (fun _ _ _ h => h) (Or.inl ⟨by rfl, ?_⟩) (by assumption) ?_
      rotate_left
      · intro w hSw; (try dsimp only at hSw); go_simp <;> with_reducible rfl
      simp only [Act.put, List.setIfInBounds_toArray, List.set_cons_zero, List.set_cons_succ]
      refine wpAnyH_take (i := 11) (oi := { dst := some 37, op := Op.indexAddr 22 (Operand.tmp 35) (Operand.tmp 36), type := 0, pos := "ref.go:26", after := #[{ on := 9, ground := Ground.data }, { on := 10, ground := Ground.data }], guard := none }) (v := ?_) rfl (by kernel_rfl) (by kernel_rfl) (by kernel_rfl) (fun _ _ _ h => h) (Or.inl ⟨by rfl, ?_⟩) (by assumption) ?_
      rotate_left
      · intro w hSw; (try dsimp only at hSw); go_simp <;> with_reducible rfl
      simp only [Act.put, List.setIfInBounds_toArray, List.set_cons_zero, List.set_cons_succ]
      refine wpAnyH_take (i := 12) (oi := { dst := some 38, op := Op.fieldAddr 95 (Operand.tmp 37) 1, type := 0, pos := "ref.go:26", after := #[{ on := 11, ground := Ground.data }], guard := none }) (v := ?_) rfl (by kernel_rfl) (by kernel_rfl) (by kernel_rfl) (fun _ _ _ h => h) (Or.inl ⟨by rfl, ?_⟩) (by assumption) ?_
      rotate_left
      · intro w hSw; (try dsimp only at hSw); go_simp <;> with_reducible rfl
      simp only [Act.put, List.setIfInBounds_toArray, List.set_cons_zero, List.set_cons_succ]
      refine wpAnyH_take (i := 13) (oi := { dst := some 39, op := Op.load 9 (Operand.tmp 38), type := 9, pos := "ref.go:26", after := #[{ on := 12, ground := Ground.data }], guard := none }) (v := ?_) rfl (by kernel_rfl) (by kernel_rfl) (by kernel_rfl) (fun _ _ _ h => h) (Or.inl ⟨by rfl, ?_⟩) (by assumption) ?_
      rotate_left
      · intro w hSw; (try dsimp only at hSw); go_simp <;> with_reducible rfl
      simp only [Act.put, List.setIfInBounds_toArray, List.set_cons_zero, List.set_cons_succ]
      refine wpAnyH_take (i := 14) (oi := { dst := some 40, op := Op.move (Operand.tmp 5), type := 53, pos := "ref.go:26", after := #[], guard := none }) (v := ?_) rfl (by kernel_rfl) (by kernel_rfl) (by kernel_rfl) (fun _ _ _ h => h) (Or.inl ⟨by rfl, ?_⟩) (by assumption) ?_
      rotate_left
      · intro w hSw; (try dsimp only at hSw); go_simp <;> with_reducible rfl
      simp only [Act.put, List.setIfInBounds_toArray, List.set_cons_zero, List.set_cons_succ]
      refine wpAnyH_take (i := 15) (oi := { dst := some 41, op := Op.build 95 #[(0, Operand.tmp 33), (1, Operand.tmp 39), (2, Operand.tmp 40)], type := 95, pos := "ref.go:26", after := #[{ on := 7, ground := Ground.data }, { on := 13, ground := Ground.data }, { on := 14, ground := Ground.data }], guard := none }) (v := ?_) rfl (by kernel_rfl) (by kernel_rfl) (by kernel_rfl) (fun _ _ _ h => h) (Or.inl ⟨by rfl, ?_⟩) (by assumption) ?_
      rotate_left
      · intro w hSw; (try dsimp only at hSw); go_simp <;> with_reducible rfl
      simp only [Act.put, List.setIfInBounds_toArray, List.set_cons_zero, List.set_cons_succ]
      refine wpAnyH_ready (rs := [1, 16]) (by kernel_rfl) (by simp) ?_
      refine AllReadyH.cons (o := { dst := some 27, op := Op.load 22 (Operand.tmp 26), type := 22, pos := "ref.go:26", after := #[{ on := 0, ground := Ground.data }], guard := none }) rfl (fun K hK => ?_) ?_
      · skip
        go_simp
        refine hK.out _ _ ?_ (fun hHeld => ?_)
        · exact hS0.out
        clear hK K
        try simp only [Act.put, List.setIfInBounds_toArray, List.set_cons_zero, List.set_cons_succ]
        refine wpAnyH_ready (rs := [16]) (by kernel_rfl) (by simp) ?_
        refine AllReadyH.cons (o := { dst := some 42, op := Op.buildSlice 22 1 #[(0, Operand.tmp 41)], type := 22, pos := "ref.go:26", after := #[{ on := 15, ground := Ground.data }], guard := none }) rfl (fun K hK => ?_) AllReadyH.nil
        go_simp
        refine hK.out _ _ ?_ (fun hHeld => ?_)
        · exact hS6a.out
        clear hK K
        try simp only [Act.put, List.setIfInBounds_toArray, List.set_cons_zero, List.set_cons_succ]
        refine wpAnyH_ready (rs := [17]) (by kernel_rfl) (by simp) ?_
        refine AllReadyH.cons (o := { dst := some 43, op := Op.call { callee := Callee.builtin Builtin.append, args := #[Operand.tmp 27, Operand.tmp 42], argTypes := #[22, 22] }, type := 22, pos := "ref.go:26", after := #[{ on := 1, ground := Ground.data }, { on := 16, ground := Ground.data }], guard := none }) rfl (fun K hK => ?_) AllReadyH.nil
        rw [if_pos (by rfl)]
        refine app1Lw elSp (.tmp 27) (.tmp 42) rfl (w.heap.size + 3) w6.drew (.slice o1 n1 c1) P.length (cellsS P) (scells (s, .slice o6 n6 c6)) rfl rfl q6d.out.p1.row rfl (scone _ rfl) hl6 (by omega) ?_; intro g7 cap7 w7 hown hgr hnw; obtain ⟨⟨d7, f7⟩, q7⟩ := q6d.out.push1 (s, .slice o6 n6 c6) (own_same hO6'.out fun _ _ _ => rfl) hown hgr; have Q7 := hide' q7; have hL7 : Hid (∀ k, k < w.heap.size + 3 → w7.heap[k]? = wr.heap[k]?) := fun k hk => (low_grown hgr (fun x hx => own_ge' q6d.out.p1.row hx) (V := w6.drew) rfl k hk hl6).trans (hL6.out k hk); have hS7 := hide' (hSS.out w7 fun k hk => hL7.out k (by omega)); have hS8 := hide' (hSS.out (w7.setCell ⟨w.heap.size + 2, 1, none⟩ (.slice (some ⟨g7, 0, none⟩) (P.length + 1) cap7)) fun k hk => (Below.heap_setCell _ _ _ _ (show k ≠ w.heap.size + 2 by omega)).trans (hL7.out k (by omega))); clear hown hgr hnw q7; (try dsimp only)
        refine hK.out _ _ ?_ (fun hHeld => ?_)
        · exact hS7.out
        clear hK K
        try simp only [Act.put, List.setIfInBounds_toArray, List.set_cons_zero, List.set_cons_succ]
        refine wpAnyH_take (i := 18) (oi := { dst := some 44, op := Op.fieldAddr 25 (Operand.tmp 3) 1, type := 0, pos := "ref.go:26", after := #[{ on := 0, ground := Ground.phase }, { on := 1, ground := Ground.phase }, { on := 2, ground := Ground.phase }, { on := 3, ground := Ground.phase }, { on := 4, ground := Ground.phase }, { on := 5, ground := Ground.phase }, { on := 6, ground := Ground.phase }, { on := 7, ground := Ground.phase }, { on := 8, ground := Ground.phase }, { on := 9, ground := Ground.phase }, { on := 10, ground := Ground.phase }, { on := 11, ground := Ground.phase }, { on := 12, ground := Ground.phase }, { on := 13, ground := Ground.phase }, { on := 14, ground := Ground.phase }, { on := 15, ground := Ground.phase }, { on := 16, ground := Ground.phase }, { on := 17, ground := Ground.phase }], guard := none }) (v := ?_) rfl (by kernel_rfl) (by kernel_rfl) (by kernel_rfl) (fun _ _ _ h => h) (Or.inl ⟨by rfl, ?_⟩) (by assumption) ?_
        rotate_left
        · intro w hSw; (try dsimp only at hSw); go_simp <;> with_reducible rfl
        simp only [Act.put, List.setIfInBounds_toArray, List.set_cons_zero, List.set_cons_succ]
        refine wpAnyH_ready (rs := [19]) (by kernel_rfl) (by simp) ?_
        refine AllReadyH.cons (o := { dst := none, op := Op.store 22 (Operand.tmp 44) (Operand.tmp 43), type := 0, pos := "ref.go:26", after := #[{ on := 18, ground := Ground.data }, { on := 17, ground := Ground.data }, { on := 17, ground := Ground.chain }, { on := 0, ground := Ground.phase }, { on := 1, ground := Ground.phase }, { on := 2, ground := Ground.phase }, { on := 3, ground := Ground.phase }, { on := 4, ground := Ground.phase }, { on := 5, ground := Ground.phase }, { on := 6, ground := Ground.phase }, { on := 7, ground := Ground.phase }, { on := 8, ground := Ground.phase }, { on := 9, ground := Ground.phase }, { on := 10, ground := Ground.phase }, { on := 11, ground := Ground.phase }, { on := 12, ground := Ground.phase }, { on := 13, ground := Ground.phase }, { on := 14, ground := Ground.phase }, { on := 15, ground := Ground.phase }, { on := 16, ground := Ground.phase }, { on := 17, ground := Ground.phase }], guard := none }) rfl (fun K hK => ?_) AllReadyH.nil
        go_simp
        refine hK.out _ _ ?_ (fun hHeld => ?_)
        · exact hS8.out
        clear hK K
        try simp only [Act.put, List.setIfInBounds_toArray, List.set_cons_zero, List.set_cons_succ]
        refine wpAnyH_done (by kernel_rfl) ?_ _
        skip
        have hm := hide' (hN.out (.slice o6 n6 c6))
        clear hN q6 q6a q6d hS0 hS6a hS7 hS8 z1a y1 d7 f7 hO6' hs' hHeld hL6 hL7 hSS hl6
        go_wp2
        exact ⟨⟨c + 1, P ++ [(s, .slice o6 n6 c6)], some ⟨g7, 0, none⟩, P.length + 1, cap7, by omega, by simp; omega, by go_num, hm, Q7⟩, by simp [intOf]; omega⟩
      refine AllReadyH.cons (o := { dst := some 42, op := Op.buildSlice 22 1 #[(0, Operand.tmp 41)], type := 22, pos := "ref.go:26", after := #[{ on := 15, ground := Ground.data }], guard := none }) rfl (fun K hK => ?_) AllReadyH.nil
      go_simp
      refine hK.out _ _ ?_ (fun hHeld => ?_)
      · exact hS6a.out
      clear hK K
      try simp only [Act.put, List.setIfInBounds_toArray, List.set_cons_zero, List.set_cons_succ]
      refine wpAnyH_ready (rs := [1]) (by kernel_rfl) (by simp) ?_
      refine AllReadyH.cons (o := { dst := some 27, op := Op.load 22 (Operand.tmp 26), type := 22, pos := "ref.go:26", after := #[{ on := 0, ground := Ground.data }], guard := none }) rfl (fun K hK => ?_) AllReadyH.nil
      go_simp
      refine hK.out _ _ ?_ (fun hHeld => ?_)
      · exact hS6a.out
      clear hK K
      try simp only [Act.put, List.setIfInBounds_toArray, List.set_cons_zero, List.set_cons_succ]
      refine wpAnyH_ready (rs := [17]) (by kernel_rfl) (by simp) ?_
      refine AllReadyH.cons (o := { dst := some 43, op := Op.call { callee := Callee.builtin Builtin.append, args := #[Operand.tmp 27, Operand.tmp 42], argTypes := #[22, 22] }, type := 22, pos := "ref.go:26", after := #[{ on := 1, ground := Ground.data }, { on := 16, ground := Ground.data }], guard := none }) rfl (fun K hK => ?_) AllReadyH.nil
      rw [if_pos (by rfl)]
      refine app1Lw elSp (.tmp 27) (.tmp 42) rfl (w.heap.size + 3) w6.drew (.slice o1 n1 c1) P.length (cellsS P) (scells (s, .slice o6 n6 c6)) rfl rfl q6d.out.p1.row rfl (scone _ rfl) hl6 (by omega) ?_; intro g7 cap7 w7 hown hgr hnw; obtain ⟨⟨d7, f7⟩, q7⟩ := q6d.out.push1 (s, .slice o6 n6 c6) (own_same hO6'.out fun _ _ _ => rfl) hown hgr; have Q7 := hide' q7; have hL7 : Hid (∀ k, k < w.heap.size + 3 → w7.heap[k]? = wr.heap[k]?) := fun k hk => (low_grown hgr (fun x hx => own_ge' q6d.out.p1.row hx) (V := w6.drew) rfl k hk hl6).trans (hL6.out k hk); have hS7 := hide' (hSS.out w7 fun k hk => hL7.out k (by omega)); have hS8 := hide' (hSS.out (w7.setCell ⟨w.heap.size + 2, 1, none⟩ (.slice (some ⟨g7, 0, none⟩) (P.length + 1) cap7)) fun k hk => (Below.heap_setCell _ _ _ _ (show k ≠ w.heap.size + 2 by omega)).trans (hL7.out k (by omega))); clear hown hgr hnw q7; (try dsimp only)
      refine hK.out _ _ ?_ (fun hHeld => ?_)
      · exact hS7.out
      clear hK K
      try simp only [Act.put, List.setIfInBounds_toArray, List.set_cons_zero, List.set_cons_succ]
      refine wpAnyH_take (i := 18) (oi := { dst := some 44, op := Op.fieldAddr 25 (Operand.tmp 3) 1, type := 0, pos := "ref.go:26", after := #[{ on := 0, ground := Ground.phase }, { on := 1, ground := Ground.phase }, { on := 2, ground := Ground.phase }, { on := 3, ground := Ground.phase }, { on := 4, ground := Ground.phase }, { on := 5, ground := Ground.phase }, { on := 6, ground := Ground.phase }, { on := 7, ground := Ground.phase }, { on := 8, ground := Ground.phase }, { on := 9, ground := Ground.phase }, { on := 10, ground := Ground.phase }, { on := 11, ground := Ground.phase }, { on := 12, ground := Ground.phase }, { on := 13, ground := Ground.phase }, { on := 14, ground := Ground.phase }, { on := 15, ground := Ground.phase }, { on := 16, ground := Ground.phase }, { on := 17, ground := Ground.phase }], guard := none }) (v := ?_) rfl (by kernel_rfl) (by kernel_rfl) (by kernel_rfl) (fun _ _ _ h => h) (Or.inl ⟨by rfl, ?_⟩) (by assumption) ?_
      rotate_left
      · intro w hSw; (try dsimp only at hSw); go_simp <;> with_reducible rfl
      simp only [Act.put, List.setIfInBounds_toArray, List.set_cons_zero, List.set_cons_succ]
      refine wpAnyH_ready (rs := [19]) (by kernel_rfl) (by simp) ?_
      refine AllReadyH.cons (o := { dst := none, op := Op.store 22 (Operand.tmp 44) (Operand.tmp 43), type := 0, pos := "ref.go:26", after := #[{ on := 18, ground := Ground.data }, { on := 17, ground := Ground.data }, { on := 17, ground := Ground.chain }, { on := 0, ground := Ground.phase }, { on := 1, ground := Ground.phase }, { on := 2, ground := Ground.phase }, { on := 3, ground := Ground.phase }, { on := 4, ground := Ground.phase }, { on := 5, ground := Ground.phase }, { on := 6, ground := Ground.phase }, { on := 7, ground := Ground.phase }, { on := 8, ground := Ground.phase }, { on := 9, ground := Ground.phase }, { on := 10, ground := Ground.phase }, { on := 11, ground := Ground.phase }, { on := 12, ground := Ground.phase }, { on := 13, ground := Ground.phase }, { on := 14, ground := Ground.phase }, { on := 15, ground := Ground.phase }, { on := 16, ground := Ground.phase }, { on := 17, ground := Ground.phase }], guard := none }) rfl (fun K hK => ?_) AllReadyH.nil
      go_simp
      refine hK.out _ _ ?_ (fun hHeld => ?_)
      · exact hS8.out
      clear hK K
      try simp only [Act.put, List.setIfInBounds_toArray, List.set_cons_zero, List.set_cons_succ]
      refine wpAnyH_done (by kernel_rfl) ?_ _
      skip
      have hm := hide' (hN.out (.slice o6 n6 c6))
      clear hN q6 q6a q6d hS0 hS6a hS7 hS8 z1a y1 d7 f7 hO6' hs' hHeld hL6 hL7 hSS hl6
      go_wp2
      exact ⟨⟨c + 1, P ++ [(s, .slice o6 n6 c6)], some ⟨g7, 0, none⟩, P.length + 1, cap7, by omega, by simp; omega, by go_num, hm, Q7⟩, by simp [intOf]; omega⟩
    · obtain rfl : c = SL.length := by omega
      have hM2 : Hid (P.map Prod.fst = SL) := by have := hM.out; rwa [List.take_length] at this
      clear hM hcA'
      go_wp2
      go_loopw [6] (fun k wr => ∃ (c : Nat) (Q : List (Rl × Value)) (o2 : Option Addr) (n2 c2 : Nat), c ≤ RL.length ∧ Q.length ≤ c ∧ k = .int .i64 c ∧ Hid (Q.map Prod.fst = RL.take c) ∧ Hid (Gq w nm (.slice oa SL.length cap) (.slice ob RL.length cb) (.slice o1 n1 c1) (.slice o2 n2 c2) P Q wr)) (fun k _ => ((RL.length : Int) - intOf k).toNat)
      case atStart => exact ⟨0, [], none, 0, 0, Nat.zero_le _, Nat.zero_le _, rfl, rfl, hq⟩
      case round =>
        clear hq x1
        obtain ⟨c, Q, o2, n2, c2, hcl2, hQl, rfl, hM, hq⟩ := hrel
        have x2 := hq.out.f2
        by_cases hlt2 : c < RL.length
        · obtain ⟨s, hx⟩ : ∃ x, RL[c]? = some x := ⟨_, List.getElem?_eq_getElem hlt2⟩
          obtain ⟨g, o, av, rfl, c1', c2', c3', hs⟩ := hcB'.out c s hx
          have d3 := (hq.out.bl.cell (p := ⟨g, o + c * 3 + 2, none⟩) (cell_lt c3')).trans c3'
          have hs' := hide' (hs.below hq.out.bl (Nat.le_refl _))
          have hal := hru.out s (List.mem_of_getElem? hx)
          have hSS : Hid (∀ V : World, (∀ k, k < w.heap.size + 1 → V.heap[k]? = wr.heap[k]?) → V.cell? ⟨w.heap.size, 2, none⟩ = some (.slice (some ⟨g, o, none⟩) RL.length cb) ∧ V.cell? ⟨g, o + c * 3, none⟩ = some (.int .i64 s.kind) ∧ V.cell? ⟨g, o + c * 3 + 1, none⟩ = some (.int .i64 s.k)) := fun V hV => by
            have hg := cell_lt c1'
            have e : ∀ k, k < w.heap.size → V.heap[k]? = w.heap[k]? := fun k hk => (hV k (by omega)).trans (hq.out.bl.block k hk)
            exact ⟨blk_cell hq.out.f2 (hV _ (by omega)), blk_cell c1' (e g hg), blk_cell c2' (e g hg)⟩
          obtain ⟨os, cs, rfl, _, _⟩ := hs
          have hN : Hid (∀ u, (Q ++ [(s, u)]).map Prod.fst = RL.take (c + 1)) := fun u => by rw [List.map_append, hM.out, take_next hx]; rfl
          have hbx := hide' hq.out.lt
          clear hcB' c1' c2' c3' hx hM hFin hst hru
          go_wp2_with (at_builtin; refine all_intsR rfl (.tmp 52) (.tmp 58) wr _ s.steps rfl rfl rfl hs'.out (by omega) ?_; intro o6 n6 c6 w6 hO6 hb6; have q6 := hide' (hq.out.over hb6.out); have hL6 : Hid (∀ k, k < w.heap.size + 3 → w6.heap[k]? = wr.heap[k]?) := fun k hk => hb6.out.block k (by have := hbx.out; omega); have hO6' := hide' (own_down hO6.out (show w.heap.size + 3 ≤ _ from hbx.out)); clear hO6 hb6)
          have q6d := hide' (q6.out.over (Below.refl _ _).drew)
          have y1 := q6d.out.g2
          have q6a := hide' (q6d.out.over ((Below.refl _ w6.drew).alloc (Nat.le_refl _) (.cells #[.int .i64 s.kind, .int .i64 s.k, .slice o6 n6 c6] 82)))
          have z1a : (w6.alloc (.cells #[.int .i64 s.kind, .int .i64 s.k, .slice o6 n6 c6] 82)).drew.cell? ⟨w.heap.size + 2, 2, none⟩ = some (.slice o2 n2 c2) := q6a.out.g2
          have hS0 := hide' (hSS.out w6.drew fun k hk => hL6.out k (by omega))
          have hS6a := hide' (hSS.out (w6.drew.alloc (.cells #[.int .i64 s.kind, .int .i64 s.k, .slice o6 n6 c6] 82)) fun k hk => (((Below.refl w6.drew.heap.size w6.drew).alloc (Nat.le_refl _) _).block k (by have := q6d.out.lt; omega)).trans (hL6.out k (by omega)))
          have hl6 : w.heap.size + 3 ≤ w6.drew.heap.size := q6d.out.lt
          refine wp_region_held_drew (S := (fun V => V.cell? ⟨w.heap.size, 2, none⟩ = some (.slice (some ⟨g, o, none⟩) RL.length cb) ∧ V.cell? ⟨g, o + c * 3, none⟩ = some (.int .i64 s.kind) ∧ V.cell? ⟨g, o + c * 3 + 1, none⟩ = some (.int .i64 s.k))) (by kernel_rfl) ?_ (fun hHeld => ?_)
          · exact hS0.out
          refine wpAnyH_take (i := 0) (oi := { dst := some 60, op := Op.fieldAddr 25 (Operand.tmp 3) 2, type := 0, pos := "ref.go:31", after := #[], guard := none }) (v := ?_) rfl (by kernel_rfl) (by kernel_rfl) (by kernel_rfl) (fun _ _ _ h => h) (Or.inl ⟨by rfl, ?_⟩) (by assumption) ?_
          rotate_left
          · intro w hSw; (try dsimp only at hSw); go_simp <;> with_reducible rfl
          simp only [Act.put, List.setIfInBounds_toArray, List.set_cons_zero, List.set_cons_succ]
          refine wpAnyH_take (i := 2) (oi := { dst := some 62, op := Op.fieldAddr 25 (Operand.tmp 1) 2, type := 0, pos := "ref.go:31", after := #[], guard := none }) (v := ?_) rfl (by kernel_rfl) (by kernel_rfl) (by kernel_rfl) (fun _ _ _ h => h) (Or.inl ⟨by rfl, ?_⟩) (by assumption) ?_
          rotate_left
          · intro w hSw; (try dsimp only at hSw); go_simp <;> with_reducible rfl
          simp only [Act.put, List.setIfInBounds_toArray, List.set_cons_zero, List.set_cons_succ]
          refine wpAnyH_take (i := 3) (oi := { dst := some 63, op := Op.load 23 (Operand.tmp 62), type := 23, pos := "ref.go:31", after := #[{ on := 2, ground := Ground.data }], guard := none }) (v := ?_) rfl (by kernel_rfl) (by kernel_rfl) (by kernel_rfl) (fun _ _ _ h => h) (Or.inl ⟨by rfl, ?_⟩) (by assumption) ?_
          rotate_left
          · intro w hSw; (try dsimp only at hSw); go_simp <;> with_reducible rfl
          simp only [Act.put, List.setIfInBounds_toArray, List.set_cons_zero, List.set_cons_succ]
          refine wpAnyH_take (i := 4) (oi := { dst := some 64, op := Op.move (Operand.tmp 6), type := 3, pos := "ref.go:31", after := #[], guard := none }) (v := ?_) rfl (by kernel_rfl) (by kernel_rfl) (by kernel_rfl) (fun _ _ _ h => h) (Or.inl ⟨by rfl, ?_⟩) (by assumption) ?_
          rotate_left
          · intro w hSw; (try dsimp only at hSw); go_simp <;> with_reducible rfl
          simp only [Act.put, List.setIfInBounds_toArray, List.set_cons_zero, List.set_cons_succ]
          refine wpAnyH_take (i := 5) (oi := { dst := some 65, op := Op.indexAddr 23 (Operand.tmp 63) (Operand.tmp 64), type := 0, pos := "ref.go:31", after := #[{ on := 3, ground := Ground.data }, { on := 4, ground := Ground.data }], guard := none }) (v := ?_) rfl (by kernel_rfl) (by kernel_rfl) (by kernel_rfl) (fun _ _ _ h => h) (Or.inl ⟨by rfl, ?_⟩) (by assumption) ?_
          rotate_left
          · intro w hSw; (try dsimp only at hSw); go_simp <;> with_reducible rfl
          simp only [Act.put, List.setIfInBounds_toArray, List.set_cons_zero, List.set_cons_succ]
          refine wpAnyH_take (i := 6) (oi := { dst := some 66, op := Op.fieldAddr 82 (Operand.tmp 65) 0, type := 0, pos := "ref.go:31", after := #[{ on := 5, ground := Ground.data }], guard := none }) (v := ?_) rfl (by kernel_rfl) (by kernel_rfl) (by kernel_rfl) (fun _ _ _ h => h) (Or.inl ⟨by rfl, ?_⟩) (by assumption) ?_
          rotate_left
          · intro w hSw; (try dsimp only at hSw); go_simp <;> with_reducible rfl
          simp only [Act.put, List.setIfInBounds_toArray, List.set_cons_zero, List.set_cons_succ]
          refine wpAnyH_take (i := 7) (oi := { dst := some 67, op := Op.load 3 (Operand.tmp 66), type := 3, pos := "ref.go:31", after := #[{ on := 6, ground := Ground.data }], guard := none }) (v := ?_) rfl (by kernel_rfl) (by kernel_rfl) (by kernel_rfl) (fun _ _ _ h => h) (Or.inl ⟨by rfl, ?_⟩) (by assumption) ?_
          rotate_left
          · intro w hSw; (try dsimp only at hSw); go_simp <;> with_reducible rfl
          simp only [Act.put, List.setIfInBounds_toArray, List.set_cons_zero, List.set_cons_succ]
          refine wpAnyH_take (i := 8) (oi := { dst := some 68, op := Op.fieldAddr 25 (Operand.tmp 1) 2, type := 0, pos := "ref.go:31", after := #[], guard := none }) (v := ?_) rfl (by kernel_rfl) (by kernel_rfl) (by kernel_rfl) (fun _ _ _ h => h) (Or.inl ⟨by rfl, ?_⟩) (by assumption) ?_
          rotate_left
          · intro w hSw; (try dsimp only at hSw); go_simp <;> with_reducible rfl
          simp only [Act.put, List.setIfInBounds_toArray, List.set_cons_zero, List.set_cons_succ]
          refine wpAnyH_take (i := 9) (oi := { dst := some 69, op := Op.load 23 (Operand.tmp 68), type := 23, pos := "ref.go:31", after := #[{ on := 8, ground := Ground.data }], guard := none }) (v := ?_) rfl (by kernel_rfl) (by kernel_rfl) (by kernel_rfl) (fun _ _ _ h => h) (Or.inl ⟨by rfl, ?_⟩) (by assumption) ?_
          rotate_left
          · intro w hSw; (try dsimp only at hSw); go_simp <;> with_reducible rfl
          simp only [Act.put, List.setIfInBounds_toArray, List.set_cons_zero, List.set_cons_succ]
          refine wpAnyH_take (i := 10) (oi := { dst := some 70, op := Op.move (Operand.tmp 6), type := 3, pos := "ref.go:31", after := #[], guard := none }) (v := ?_) rfl (by kernel_rfl) (by kernel_rfl) (by kernel_rfl) (fun _ _ _ h => h) (Or.inl ⟨by rfl, ?_⟩) (by assumption) ?_
          rotate_left
          · intro w hSw; (try dsimp only at hSw); go_simp <;> with_reducible rfl
          simp only [Act.put, List.setIfInBounds_toArray, List.set_cons_zero, List.set_cons_succ]
          refine wpAnyH_take (i := 11) (oi := { dst := some 71, op := Op.indexAddr 23 (Operand.tmp 69) (Operand.tmp 70), type := 0, pos := "ref.go:31", after := #[{ on := 9, ground := Ground.data }, { on := 10, ground := Ground.data }], guard := none }) (v := ?_) rfl (by kernel_rfl) (by kernel_rfl) (by kernel_rfl) (fun _ _ _ h => h) (Or.inl ⟨by rfl, ?_⟩) (by assumption) ?_
          rotate_left
          · intro w hSw; (try dsimp only at hSw); go_simp <;> with_reducible rfl
          simp only [Act.put, List.setIfInBounds_toArray, List.set_cons_zero, List.set_cons_succ]
          refine wpAnyH_take (i := 12) (oi := { dst := some 72, op := Op.fieldAddr 82 (Operand.tmp 71) 1, type := 0, pos := "ref.go:31", after := #[{ on := 11, ground := Ground.data }], guard := none }) (v := ?_) rfl (by kernel_rfl) (by kernel_rfl) (by kernel_rfl) (fun _ _ _ h => h) (Or.inl ⟨by rfl, ?_⟩) (by assumption) ?_
          rotate_left
          · intro w hSw; (try dsimp only at hSw); go_simp <;> with_reducible rfl
          simp only [Act.put, List.setIfInBounds_toArray, List.set_cons_zero, List.set_cons_succ]
          refine wpAnyH_take (i := 13) (oi := { dst := some 73, op := Op.load 3 (Operand.tmp 72), type := 3, pos := "ref.go:31", after := #[{ on := 12, ground := Ground.data }], guard := none }) (v := ?_) rfl (by kernel_rfl) (by kernel_rfl) (by kernel_rfl) (fun _ _ _ h => h) (Or.inl ⟨by rfl, ?_⟩) (by assumption) ?_
          rotate_left
          · intro w hSw; (try dsimp only at hSw); go_simp <;> with_reducible rfl
          simp only [Act.put, List.setIfInBounds_toArray, List.set_cons_zero, List.set_cons_succ]
          refine wpAnyH_take (i := 14) (oi := { dst := some 74, op := Op.move (Operand.tmp 7), type := 53, pos := "ref.go:31", after := #[], guard := none }) (v := ?_) rfl (by kernel_rfl) (by kernel_rfl) (by kernel_rfl) (fun _ _ _ h => h) (Or.inl ⟨by rfl, ?_⟩) (by assumption) ?_
          rotate_left
          · intro w hSw; (try dsimp only at hSw); go_simp <;> with_reducible rfl
          simp only [Act.put, List.setIfInBounds_toArray, List.set_cons_zero, List.set_cons_succ]
          refine wpAnyH_take (i := 15) (oi := { dst := some 75, op := Op.build 82 #[(0, Operand.tmp 67), (1, Operand.tmp 73), (2, Operand.tmp 74)], type := 82, pos := "ref.go:31", after := #[{ on := 7, ground := Ground.data }, { on := 13, ground := Ground.data }, { on := 14, ground := Ground.data }], guard := none }) (v := ?_) rfl (by kernel_rfl) (by kernel_rfl) (by kernel_rfl) (fun _ _ _ h => h) (Or.inl ⟨by rfl, ?_⟩) (by assumption) ?_
          rotate_left
          · intro w hSw; (try dsimp only at hSw); go_simp <;> with_reducible rfl
          simp only [Act.put, List.setIfInBounds_toArray, List.set_cons_zero, List.set_cons_succ]
          refine wpAnyH_ready (rs := [1, 16]) (by kernel_rfl) (by simp) ?_
          refine AllReadyH.cons (o := { dst := some 61, op := Op.load 23 (Operand.tmp 60), type := 23, pos := "ref.go:31", after := #[{ on := 0, ground := Ground.data }], guard := none }) rfl (fun K hK => ?_) ?_
          · skip
            go_simp
            refine hK.out _ _ ?_ (fun hHeld => ?_)
            · exact hS0.out
            clear hK K
            try simp only [Act.put, List.setIfInBounds_toArray, List.set_cons_zero, List.set_cons_succ]
            refine wpAnyH_ready (rs := [16]) (by kernel_rfl) (by simp) ?_
            refine AllReadyH.cons (o := { dst := some 76, op := Op.buildSlice 23 1 #[(0, Operand.tmp 75)], type := 23, pos := "ref.go:31", after := #[{ on := 15, ground := Ground.data }], guard := none }) rfl (fun K hK => ?_) AllReadyH.nil
            go_simp
            refine hK.out _ _ ?_ (fun hHeld => ?_)
            · exact hS6a.out
            clear hK K
            try simp only [Act.put, List.setIfInBounds_toArray, List.set_cons_zero, List.set_cons_succ]
            refine wpAnyH_ready (rs := [17]) (by kernel_rfl) (by simp) ?_
            refine AllReadyH.cons (o := { dst := some 77, op := Op.call { callee := Callee.builtin Builtin.append, args := #[Operand.tmp 61, Operand.tmp 76], argTypes := #[23, 23] }, type := 23, pos := "ref.go:31", after := #[{ on := 1, ground := Ground.data }, { on := 16, ground := Ground.data }], guard := none }) rfl (fun K hK => ?_) AllReadyH.nil
            rw [if_pos (by rfl)]
            refine app1Lw elRl (.tmp 61) (.tmp 76) rfl (w.heap.size + 3) w6.drew (.slice o2 n2 c2) Q.length (cellsR Q) (rcells (s, .slice o6 n6 c6)) rfl rfl q6d.out.p2.row rfl (rcells_one _ rfl) hl6 (by omega) ?_; intro g7 cap7 w7 hown hgr hnw; obtain ⟨⟨d7, f7⟩, q7⟩ := q6d.out.push2 (s, .slice o6 n6 c6) (own_same hO6'.out fun _ _ _ => rfl) hown hgr; have Q7 := hide' q7; have hL7 : Hid (∀ k, k < w.heap.size + 3 → w7.heap[k]? = wr.heap[k]?) := fun k hk => (low_grown hgr (fun x hx => own_ge' q6d.out.p2.row hx) (V := w6.drew) rfl k hk hl6).trans (hL6.out k hk); have hS7 := hide' (hSS.out w7 fun k hk => hL7.out k (by omega)); have hS8 := hide' (hSS.out (w7.setCell ⟨w.heap.size + 2, 2, none⟩ (.slice (some ⟨g7, 0, none⟩) (Q.length + 1) cap7)) fun k hk => (Below.heap_setCell _ _ _ _ (show k ≠ w.heap.size + 2 by omega)).trans (hL7.out k (by omega))); clear hown hgr hnw q7; (try dsimp only)
            refine hK.out _ _ ?_ (fun hHeld => ?_)
            · exact hS7.out
            clear hK K
            try simp only [Act.put, List.setIfInBounds_toArray, List.set_cons_zero, List.set_cons_succ]
            refine wpAnyH_take (i := 18) (oi := { dst := some 78, op := Op.fieldAddr 25 (Operand.tmp 3) 2, type := 0, pos := "ref.go:31", after := #[{ on := 0, ground := Ground.phase }, { on := 1, ground := Ground.phase }, { on := 2, ground := Ground.phase }, { on := 3, ground := Ground.phase }, { on := 4, ground := Ground.phase }, { on := 5, ground := Ground.phase }, { on := 6, ground := Ground.phase }, { on := 7, ground := Ground.phase }, { on := 8, ground := Ground.phase }, { on := 9, ground := Ground.phase }, { on := 10, ground := Ground.phase }, { on := 11, ground := Ground.phase }, { on := 12, ground := Ground.phase }, { on := 13, ground := Ground.phase }, { on := 14, ground := Ground.phase }, { on := 15, ground := Ground.phase }, { on := 16, ground := Ground.phase }, { on := 17, ground := Ground.phase }], guard := none }) (v := ?_) rfl (by kernel_rfl) (by kernel_rfl) (by kernel_rfl) (fun _ _ _ h => h) (Or.inl ⟨by rfl, ?_⟩) (by assumption) ?_
            rotate_left
            · intro w hSw; (try dsimp only at hSw); go_simp <;> with_reducible rfl
            simp only [Act.put, List.setIfInBounds_toArray, List.set_cons_zero, List.set_cons_succ]
            refine wpAnyH_ready (rs := [19]) (by kernel_rfl) (by simp) ?_
            refine AllReadyH.cons (o := { dst := none, op := Op.store 23 (Operand.tmp 78) (Operand.tmp 77), type := 0, pos := "ref.go:31", after := #[{ on := 18, ground := Ground.data }, { on := 17, ground := Ground.data }, { on := 17, ground := Ground.chain }, { on := 0, ground := Ground.phase }, { on := 1, ground := Ground.phase }, { on := 2, ground := Ground.phase }, { on := 3, ground := Ground.phase }, { on := 4, ground := Ground.phase }, { on := 5, ground := Ground.phase }, { on := 6, ground := Ground.phase }, { on := 7, ground := Ground.phase }, { on := 8, ground := Ground.phase }, { on := 9, ground := Ground.phase }, { on := 10, ground := Ground.phase }, { on := 11, ground := Ground.phase }, { on := 12, ground := Ground.phase }, { on := 13, ground := Ground.phase }, { on := 14, ground := Ground.phase }, { on := 15, ground := Ground.phase }, { on := 16, ground := Ground.phase }, { on := 17, ground := Ground.phase }], guard := none }) rfl (fun K hK => ?_) AllReadyH.nil
            go_simp
            refine hK.out _ _ ?_ (fun hHeld => ?_)
            · exact hS8.out
            clear hK K
            try simp only [Act.put, List.setIfInBounds_toArray, List.set_cons_zero, List.set_cons_succ]
            refine wpAnyH_done (by kernel_rfl) ?_ _
            skip
            have hm := hide' (hN.out (.slice o6 n6 c6))
            clear hN q6 q6a q6d hS0 hS6a hS7 hS8 z1a y1 d7 f7 hO6' hs' hHeld hL6 hL7 hSS hl6
            go_wp2
            exact ⟨⟨c + 1, Q ++ [(s, .slice o6 n6 c6)], some ⟨g7, 0, none⟩, Q.length + 1, cap7, by omega, by simp; omega, by go_num, hm, Q7⟩, by simp [intOf]; omega⟩
          refine AllReadyH.cons (o := { dst := some 76, op := Op.buildSlice 23 1 #[(0, Operand.tmp 75)], type := 23, pos := "ref.go:31", after := #[{ on := 15, ground := Ground.data }], guard := none }) rfl (fun K hK => ?_) AllReadyH.nil
          go_simp
          refine hK.out _ _ ?_ (fun hHeld => ?_)
          · exact hS6a.out
          clear hK K
          try simp only [Act.put, List.setIfInBounds_toArray, List.set_cons_zero, List.set_cons_succ]
          refine wpAnyH_ready (rs := [1]) (by kernel_rfl) (by simp) ?_
          refine AllReadyH.cons (o := { dst := some 61, op := Op.load 23 (Operand.tmp 60), type := 23, pos := "ref.go:31", after := #[{ on := 0, ground := Ground.data }], guard := none }) rfl (fun K hK => ?_) AllReadyH.nil
          go_simp
          refine hK.out _ _ ?_ (fun hHeld => ?_)
          · exact hS6a.out
          clear hK K
          try simp only [Act.put, List.setIfInBounds_toArray, List.set_cons_zero, List.set_cons_succ]
          refine wpAnyH_ready (rs := [17]) (by kernel_rfl) (by simp) ?_
          refine AllReadyH.cons (o := { dst := some 77, op := Op.call { callee := Callee.builtin Builtin.append, args := #[Operand.tmp 61, Operand.tmp 76], argTypes := #[23, 23] }, type := 23, pos := "ref.go:31", after := #[{ on := 1, ground := Ground.data }, { on := 16, ground := Ground.data }], guard := none }) rfl (fun K hK => ?_) AllReadyH.nil
          rw [if_pos (by rfl)]
          refine app1Lw elRl (.tmp 61) (.tmp 76) rfl (w.heap.size + 3) w6.drew (.slice o2 n2 c2) Q.length (cellsR Q) (rcells (s, .slice o6 n6 c6)) rfl rfl q6d.out.p2.row rfl (rcells_one _ rfl) hl6 (by omega) ?_; intro g7 cap7 w7 hown hgr hnw; obtain ⟨⟨d7, f7⟩, q7⟩ := q6d.out.push2 (s, .slice o6 n6 c6) (own_same hO6'.out fun _ _ _ => rfl) hown hgr; have Q7 := hide' q7; have hL7 : Hid (∀ k, k < w.heap.size + 3 → w7.heap[k]? = wr.heap[k]?) := fun k hk => (low_grown hgr (fun x hx => own_ge' q6d.out.p2.row hx) (V := w6.drew) rfl k hk hl6).trans (hL6.out k hk); have hS7 := hide' (hSS.out w7 fun k hk => hL7.out k (by omega)); have hS8 := hide' (hSS.out (w7.setCell ⟨w.heap.size + 2, 2, none⟩ (.slice (some ⟨g7, 0, none⟩) (Q.length + 1) cap7)) fun k hk => (Below.heap_setCell _ _ _ _ (show k ≠ w.heap.size + 2 by omega)).trans (hL7.out k (by omega))); clear hown hgr hnw q7; (try dsimp only)
          refine hK.out _ _ ?_ (fun hHeld => ?_)
          · exact hS7.out
          clear hK K
          try simp only [Act.put, List.setIfInBounds_toArray, List.set_cons_zero, List.set_cons_succ]
          refine wpAnyH_take (i := 18) (oi := { dst := some 78, op := Op.fieldAddr 25 (Operand.tmp 3) 2, type := 0, pos := "ref.go:31", after := #[{ on := 0, ground := Ground.phase }, { on := 1, ground := Ground.phase }, { on := 2, ground := Ground.phase }, { on := 3, ground := Ground.phase }, { on := 4, ground := Ground.phase }, { on := 5, ground := Ground.phase }, { on := 6, ground := Ground.phase }, { on := 7, ground := Ground.phase }, { on := 8, ground := Ground.phase }, { on := 9, ground := Ground.phase }, { on := 10, ground := Ground.phase }, { on := 11, ground := Ground.phase }, { on := 12, ground := Ground.phase }, { on := 13, ground := Ground.phase }, { on := 14, ground := Ground.phase }, { on := 15, ground := Ground.phase }, { on := 16, ground := Ground.phase }, { on := 17, ground := Ground.phase }], guard := none }) (v := ?_) rfl (by kernel_rfl) (by kernel_rfl) (by kernel_rfl) (fun _ _ _ h => h) (Or.inl ⟨by rfl, ?_⟩) (by assumption) ?_
          rotate_left
          · intro w hSw; (try dsimp only at hSw); go_simp <;> with_reducible rfl
          simp only [Act.put, List.setIfInBounds_toArray, List.set_cons_zero, List.set_cons_succ]
          refine wpAnyH_ready (rs := [19]) (by kernel_rfl) (by simp) ?_
          refine AllReadyH.cons (o := { dst := none, op := Op.store 23 (Operand.tmp 78) (Operand.tmp 77), type := 0, pos := "ref.go:31", after := #[{ on := 18, ground := Ground.data }, { on := 17, ground := Ground.data }, { on := 17, ground := Ground.chain }, { on := 0, ground := Ground.phase }, { on := 1, ground := Ground.phase }, { on := 2, ground := Ground.phase }, { on := 3, ground := Ground.phase }, { on := 4, ground := Ground.phase }, { on := 5, ground := Ground.phase }, { on := 6, ground := Ground.phase }, { on := 7, ground := Ground.phase }, { on := 8, ground := Ground.phase }, { on := 9, ground := Ground.phase }, { on := 10, ground := Ground.phase }, { on := 11, ground := Ground.phase }, { on := 12, ground := Ground.phase }, { on := 13, ground := Ground.phase }, { on := 14, ground := Ground.phase }, { on := 15, ground := Ground.phase }, { on := 16, ground := Ground.phase }, { on := 17, ground := Ground.phase }], guard := none }) rfl (fun K hK => ?_) AllReadyH.nil
          go_simp
          refine hK.out _ _ ?_ (fun hHeld => ?_)
          · exact hS8.out
          clear hK K
          try simp only [Act.put, List.setIfInBounds_toArray, List.set_cons_zero, List.set_cons_succ]
          refine wpAnyH_done (by kernel_rfl) ?_ _
          skip
          have hm := hide' (hN.out (.slice o6 n6 c6))
          clear hN q6 q6a q6d hS0 hS6a hS7 hS8 z1a y1 d7 f7 hO6' hs' hHeld hL6 hL7 hSS hl6
          go_wp2
          exact ⟨⟨c + 1, Q ++ [(s, .slice o6 n6 c6)], some ⟨g7, 0, none⟩, Q.length + 1, cap7, by omega, by simp; omega, by go_num, hm, Q7⟩, by simp [intOf]; omega⟩
        · obtain rfl : c = RL.length := by omega
          have hM3 : Hid (Q.map Prod.fst = RL) := by have := hM.out; rwa [List.take_length] at this
          clear hM hcB'
          have z0 := hq.out.g0
          have z1 := hq.out.g1
          have z2 := hq.out.g2
          have hbr := hide' hq.out.br
          have y0 : wr.cell? ⟨w.heap.size + 1, 0, none⟩ = some (.string ⟨#[]⟩) := by simp [World.cell?, hbr.out]
          have y1 : wr.cell? ⟨w.heap.size + 1, 1, none⟩ = some (.slice none 0 0) := by simp [World.cell?, hbr.out]
          have y2 : wr.cell? ⟨w.heap.size + 1, 2, none⟩ = some (.slice none 0 0) := by simp [World.cell?, hbr.out]
          have g0 : wr.frozen? ⟨w.heap.size + 1, 0, none⟩ = false := by simp [World.frozen?, hbr.out]
          have g1 : wr.frozen? ⟨w.heap.size + 1, 1, none⟩ = false := by simp [World.frozen?, hbr.out]
          have g2 : wr.frozen? ⟨w.heap.size + 1, 2, none⟩ = false := by simp [World.frozen?, hbr.out]
          have hF := hide' (hFin.out (.slice o1 n1 c1) (.slice o2 n2 c2) P Q (((wr.setCell ⟨w.heap.size + 1, 0, none⟩ (.string nm)).setCell ⟨w.heap.size + 1, 1, none⟩ (.slice o1 n1 c1)).setCell ⟨w.heap.size + 1, 2, none⟩ (.slice o2 n2 c2)) hM2.out hM3.out (hq.out.p1.low3 (.string nm) (.slice o1 n1 c1) (.slice o2 n2 c2)) (hq.out.p2.low3 (.string nm) (.slice o1 n1 c1) (.slice o2 n2 c2)) (((hq.out.bl.setCell (p := ⟨w.heap.size + 1, 0, none⟩) (Nat.le_succ _) _).setCell (p := ⟨w.heap.size + 1, 1, none⟩) (Nat.le_succ _) _).setCell (p := ⟨w.heap.size + 1, 2, none⟩) (Nat.le_succ _) _))
          have r3 : Hid ((((wr.setCell ⟨w.heap.size + 1, 0, none⟩ (.string nm)).setCell ⟨w.heap.size + 1, 1, none⟩ (.slice o1 n1 c1)).setCell ⟨w.heap.size + 1, 2, none⟩ (.slice o2 n2 c2)).heap[w.heap.size + 1]? = some (.cells #[.string nm, .slice o1 n1 c1, .slice o2 n2 c2] 25 (0, 0))) := heap_set_at _ (heap_set_at _ (heap_set_at _ hbr.out))
          clear hq hFin hbr hM2 hM3 hst hru
          go_wp2
          obtain ⟨WF, hWF⟩ : ∃ WF, WF = ((wr.setCell ⟨w.heap.size + 1, 0, none⟩ (.string nm)).setCell ⟨w.heap.size + 1, 1, none⟩ (.slice o1 n1 c1)).setCell ⟨w.heap.size + 1, 2, none⟩ (.slice o2 n2 c2) := ⟨_, rfl⟩
          rw [← hWF] at hF r3 ⊢
          have k0 : WF.cell? ⟨w.heap.size + 1, 0, none⟩ = some (.string nm) := by simp [World.cell?, r3.out]
          have k1 : WF.cell? ⟨w.heap.size + 1, 1, none⟩ = some (.slice o1 n1 c1) := by simp [World.cell?, r3.out]
          have k2 : WF.cell? ⟨w.heap.size + 1, 2, none⟩ = some (.slice o2 n2 c2) := by simp [World.cell?, r3.out]
          refine bodyPost_ret (v := .agg #[.string nm, .slice o1 n1 c1, .slice o2 n2 c2]) ?_ rfl hF.out
          simp [results, Tryz.results84, go_sem, k0, k1, k2]
end Go.Proofs.YtahfobbiaimoiaaGreatDoor
