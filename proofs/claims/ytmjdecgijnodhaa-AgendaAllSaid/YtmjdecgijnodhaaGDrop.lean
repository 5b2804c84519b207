/- Agenda.Drop: what it answers. -/
import Derived.Test.YtmjdecgijnodhaaGAg
namespace Go.Proofs.Ytmjdecgijnodhaa
open Go.RowKit Go.Maps
def DropPost (a n : Nat) (F : Nat → Prop) (S : Ent → Prop) (sets : Nat) (id : Int) (w : World) (e : Ending) (w' : World) : Prop :=
  ∃ b F' n', e = .returned (.bool b) ∧ (b = true ↔ ∃ x, S x ∧ x.id = id) ∧ AgS w' a F' (fun x => S x ∧ x.id ≠ id) n' sets ∧ Mv F w w' ∧ (∀ k, F' k → F k) ∧ n = n' + b.toNat
/-- The map behind a removal. -/
theorem mapD_del {D : DataW Unit} {n i : Nat} {h h' : Nat → Nat × Ent} (hm : MapD D (n + 1) h) (hL : Left n i h h') (hi : i < n + 1) (ids : ∀ k l, k < n + 1 → l < n + 1 → (h k).2.id = (h l).2.id → k = l) : MapD (D.del (.int .i64 (h i).2.id)) n h' := by
  intro id
  have fwd : ∀ k, k < n → ∃ l, l < n + 1 ∧ h l = h' k ∧ l ≠ i := fun k hk => (hL (h' k)).1 ⟨k, hk, rfl⟩
  have bwd : ∀ l, l < n + 1 → l ≠ i → ∃ k, k < n ∧ h' k = h l := fun l hl hne => (hL (h l)).2 ⟨l, hl, rfl, hne⟩
  by_cases e : id = (h i).2.id
  · subst e
    have no : ¬ ∃ k, k < n ∧ (h' k).2.id = (h i).2.id := by
      rintro ⟨k, hk, e⟩
      obtain ⟨l, hl, e2, hne⟩ := fwd k hk
      rw [← e2] at e
      exact hne (ids l i hl hi e)
    exact ⟨fun x => absurd x no, fun _ => ⟨has_del_same, atKey_del_same _⟩, fun k hk ek => absurd ⟨k, hk, ek⟩ no⟩
  · have hne : (Lit.int .i64 id) ≠ .int .i64 (h i).2.id := fun x => e (by cases x; rfl)
    obtain ⟨m1, m2, m3⟩ := hm id
    refine ⟨fun ⟨k, hk, ek⟩ => ?_, fun x => ?_, fun k hk ek => ?_⟩
    · obtain ⟨l, hl, e2, _⟩ := fwd k hk
      rw [has_del_other hne]
      exact m1 ⟨l, hl, by rw [e2]; exact ek⟩
    · have no : ¬ ∃ k, k < n + 1 ∧ (h k).2.id = id := by
        rintro ⟨l, hl, el⟩
        have hli : l ≠ i := fun y => e (by rw [← el, y])
        obtain ⟨k, hk, ek⟩ := bwd l hl hli
        exact x ⟨k, hk, by rw [ek]; exact el⟩
      rw [has_del_other hne, atKey_del_other hne]
      exact m2 no
    · obtain ⟨l, hl, e2, _⟩ := fwd k hk
      rw [atKey_del_other hne, m3 l hl (by rw [e2]; exact ek), e2]
theorem map_far {w : World} {b n : Nat} {D : DataW Unit} {c : Nat} {cs : Array Value} {t : TypeId} {fr : Nat × Nat} (h : w.ownsMap Try.prog 3 ptrR b n D) (hc : w.heap[c]? = some (.cells cs t fr)) : b ≠ c := by
  rintro rfl
  obtain ⟨es, clock, h1, _⟩ := h
  rw [h1] at hc
  cases hc
theorem map_same {w w' : World} {b n : Nat} {D : DataW Unit} (h : w.ownsMap Try.prog 3 ptrR b n D) (hs : w'.heap[b]? = w.heap[b]?) : w'.ownsMap Try.prog 3 ptrR b n D := by
  obtain ⟨es, clock, h1, h2⟩ := h
  exact ⟨es, clock, hs.trans h1, h2⟩
/-- The map's block is none of the heap's. -/
theorem map_fh {w : World} {a n : Nat} {h : Nat → Nat × Ent} {rowv : Value} {mb sets : Nat} {D : DataW Unit} (H : Ag w a n h rowv mb sets D) : ¬ FH n h rowv mb := by
  rintro (e | ⟨l, hl, e⟩)
  · obtain ⟨c1, f1, h1⟩ := Go.Lib.ownsRow_kind H.hp.row _ e
    exact map_far H.map h1 rfl
  · exact map_far H.map (H.hp.ent l hl) e.symm
theorem map_a {w : World} {a n : Nat} {h : Nat → Nat × Ent} {rowv : Value} {mb sets : Nat} {D : DataW Unit} (H : Ag w a n h rowv mb sets D) : mb ≠ a := map_far H.map H.box
theorem Mv.from_drew {F : Nat → Prop} {w w' : World} (h : Mv F w.drew w') : Mv F w w' := ⟨⟨h.os, h.tape, h.output, h.size, h.block⟩, h.ent⟩
theorem ne_map {w : World} {mb n : Nat} {D : DataW Unit} (h : w.ownsMap Try.prog 3 ptrR mb n D) : NE w mb := fun cur fr x => by
  obtain ⟨es, clock, h1, _⟩ := h
  rw [h1] at x
  cases x
theorem fh_ne {w : World} {n : Nat} {h : Nat → Nat × Ent} {rowv : Value} {mb m : Nat} {D : DataW Unit} (hM : w.ownsMap Try.prog 3 ptrR mb m D) (H : Hp w n h rowv) {k : Nat} (hk : FH n h rowv k) : k ≠ mb := by
  rcases hk with e | ⟨l, hl, e⟩
  · obtain ⟨c1, f1, h1⟩ := Go.Lib.ownsRow_kind H.row _ e
    exact fun x => map_far hM h1 x.symm
  · exact fun x => map_far hM (H.ent l hl) (by rw [e, x])
/-- The agenda behind a removal. -/
theorem dropEnd {w w1 w3 : World} {a n i mb sets g cap cap2 : Nat} {h h2 : Nat → Nat × Ent} {rowv : Value} {D : DataW Unit} {F : Nat → Prop} {S : Ent → Prop} (HA : Ag w a (n + 1) h rowv mb sets D) (hS : ∀ x, S x ↔ ∃ k, k < n + 1 ∧ (h k).2 = x) (hF : ∀ k, FA a (n + 1) h rowv mb k → F k) (hlt : ∀ k, F k → k < w.heap.size) (hi : i < n + 1)
    (hr : rowv = .slice (some ⟨g, 0, none⟩) (n + 1) cap) (H2 : Hp w1 n h2 (.slice (some ⟨g, 0, none⟩) n cap2)) (B2 : AgBox w1 a (.slice (some ⟨g, 0, none⟩) n cap2) mb sets) (hH2 : IsHeap (ents h2) n) (hL : Left n i h h2) (M2 : Mv (fun k => FH (n + 1) h rowv k ∨ k = a) w w1) (hM1 : w1.ownsMap Try.prog 3 ptrR mb sets D)
    (hown : w3.ownsMap Try.prog 3 ptrR mb sets (D.del (.int .i64 (h i).2.id))) (hg : w1.grownBy w3 (some mb)) :
    ∃ F', AgS w3 a F' (fun x => S x ∧ x.id ≠ (h i).2.id) n sets ∧ Mv F w w3 ∧ ∀ k, F' k → F k := by
  have fwd : ∀ k, k < n → ∃ l, l < n + 1 ∧ h l = h2 k ∧ l ≠ i := fun k hk => (hL (h2 k)).1 ⟨k, hk, rfl⟩
  have back : ∀ k l, k < n → l < n → ∀ k' l', h k' = h2 k → h l' = h2 l → k' = l' → k = l := fun k l hk hl k' l' e1 e2 e3 => by
    subst e3
    exact H2.inj k l hk hl (by rw [← e1, ← e2])
  have hmba : mb ≠ a := map_a HA
  have Mx : Mv F w w3 := (M2.mono (fun k x => hF k (x.elim (fun y => .inl y) (fun y => .inr (.inl y))))).trans (Mv.grown (F := F) hg (fun k ek => by cases ek; exact hF mb (.inr (.inr rfl))) (fun k ek => by cases ek; exact ne_map hM1)) (fun _ _ x => x)
  have sub : ∀ k, FA a n h2 (.slice (some ⟨g, 0, none⟩) n cap2) mb k → F k := by
    rintro k ((e | ⟨l, hl, e⟩) | e | e)
    · refine hF k (.inl (.inl ?_))
      rw [hr]; exact e
    · obtain ⟨l', hl', e2, _⟩ := fwd l hl
      exact hF k (.inl (.inr ⟨l', hl', by rw [e2]; exact e⟩))
    · exact hF k (.inr (.inl e))
    · exact hF k (.inr (.inr e))
  have same : ∀ k, k < w1.heap.size → k ≠ mb → w3.heap[k]? = w1.heap[k]? := fun k hk hne => hg.block k hk (fun x => hne (Option.some.inj x))
  refine ⟨_, ⟨h2, _, mb, _, ⟨B2.same (same a B2.lt (fun x => hmba x.symm)), ⟨owns_same H2.row fun k hk ek => same k hk (fh_ne hM1 H2 (.inl ek)), fun k hk => (H2.ent k hk).same (same _ (H2.ent k hk).lt (fh_ne hM1 H2 (.inr ⟨k, hk, rfl⟩))), H2.inj⟩, hH2, hown, mapD_del HA.mapD hL hi HA.ids, fun k l hk hl e => ?_, fun k hk => ?_, fun k hk => ?_, fun k l hk hl e => ?_, ?_⟩, fun x => ?_, fun k hk => hk, fun k hk => Nat.lt_of_lt_of_le (hlt k (sub k hk)) Mx.size⟩, Mx, sub⟩
  · obtain ⟨k', hk', e1, _⟩ := fwd k hk
    obtain ⟨l', hl', e2, _⟩ := fwd l hl
    rw [← e1, ← e2] at e
    exact back k l hk hl k' l' e1 e2 (HA.ids k' l' hk' hl' e)
  · obtain ⟨k', hk', e1, _⟩ := fwd k hk
    rw [← e1]; exact HA.wf k' hk'
  · obtain ⟨k', hk', e1, _⟩ := fwd k hk
    rw [← e1]; exact HA.turns k' hk'
  · obtain ⟨k', hk', e1, _⟩ := fwd k hk
    obtain ⟨l', hl', e2, _⟩ := fwd l hl
    rw [← e1, ← e2] at e
    exact back k l hk hl k' l' e1 e2 (HA.dist k' l' hk' hl' e)
  · have := HA.small; omega
  · constructor
    · rintro ⟨hx, hne⟩
      obtain ⟨l, hl, rfl⟩ := (hS x).1 hx
      obtain ⟨k, hk, ek⟩ := (hL (h l)).2 ⟨l, hl, rfl, fun y => hne (by rw [y])⟩
      exact ⟨k, hk, by rw [ek]⟩
    · rintro ⟨k, hk, rfl⟩
      obtain ⟨l, hl, e1, hne⟩ := fwd k hk
      refine ⟨(hS _).2 ⟨l, hl, by rw [e1]⟩, fun y => hne ?_⟩
      rw [← e1] at y
      exact HA.ids l i hl hi y
set_option maxRecDepth 100000 in
set_option maxHeartbeats 4000000 in
theorem dropA (a n sets : Nat) (F : Nat → Prop) (S : Ent → Prop) (id : Int) (hid : (Lit.int .i64 id).wf = true) (w : World) (H : AgS w a F S n sets) :
    Calls Try.prog 12 #[.pointer (some ⟨a, 0, none⟩), .int .i64 id] w (DropPost a n F S sets id w) := by
  obtain ⟨h, rowv, mb, D, HA, hS, hF, hlt⟩ := H
  have hkey : keyOf Try.prog 3 (.int .i64 id) = some (.int .i64 id) := keyOf_int_mk Try.underlying3 hid
  have c1 := HA.box.c1
  have hown := HA.map
  obtain ⟨m1, m2, m3⟩ := HA.mapD id
  by_cases hp : ∃ k, k < n ∧ (h k).2.id = id
  · have hh := m1 hp
    obtain ⟨i, hi, ei⟩ := hp
    have hat := m3 i hi ei
    obtain ⟨n1, rfl⟩ : ∃ n1, n = n1 + 1 := ⟨n - 1, by omega⟩
    have hn1 : n1 ≤ 1000000 := by have := HA.small; omega
    have cp := (HA.hp.ent i hi).c3
    have KR := hide' (fun W (hW : W.heap = w.heap) => removeH a n1 i mb sets rowv h hi hn1 W (HA.hp.heap hW) HA.heap (HA.box.same (by rw [hW])))
    have HA' := hide' HA
    have hS' := hide' hS
    have hF' := hide' hF
    have hlt' := hide' hlt
    have ei' := hide' ei
    generalize hgp : (h i).1 = p at *
    clear HA hS hF hlt m1 m2 m3 ei hgp
    go_enter Try.func12, Try.ntmps12
    go_wp2_with (at_lookup; refine wpList_lookup_own_ok _ rfl _ _ 58 rfl 3 57 lawK Try.underlying58 ptrR (zeroPtr _) (.lit (.int .i64 (-1))) [] rfl mb sets D rfl hown _ _ rfl hkey ?_; intro v ps hv; rw [hat] at hv; obtain rfl := ptrR_inv hv; rw [hh])
    refine wp_region_held_drew (S := (fun _ => True)) (by kernel_rfl) ?_ (fun hHeld => ?_)
    · trivial
    refine wpAnyH_take (i := 0) (oi := { dst := some 18, op := Op.move (Operand.tmp 0), type := 23, pos := "agenda.go:37", after := #[], guard := none }) (v := ?_) rfl (by kernel_rfl) (by kernel_rfl) (by kernel_rfl) (fun _ _ _ h => h) (Or.inl ⟨by rfl, ?_⟩) (by assumption) ?_
    rotate_left
    · intro w hSw; (try dsimp only at hSw); go_simp <;> with_reducible rfl
    simp only [Act.put, List.setIfInBounds_toArray, List.set_cons_zero, List.set_cons_succ]
    refine wpAnyH_take (i := 1) (oi := { dst := some 19, op := Op.nilCheck (Operand.tmp 18), type := 0, pos := "agenda.go:37", after := #[{ on := 0, ground := Ground.data }], guard := none }) (v := ?_) rfl (by kernel_rfl) (by kernel_rfl) (by kernel_rfl) (fun _ _ _ h => h) (Or.inl ⟨by rfl, ?_⟩) (by assumption) ?_
    rotate_left
    · intro w hSw; (try dsimp only at hSw); go_simp <;> with_reducible rfl
    simp only [Act.put, List.setIfInBounds_toArray, List.set_cons_zero, List.set_cons_succ]
    refine wpAnyH_take (i := 2) (oi := { dst := some 20, op := Op.fieldAddr 60 (Operand.tmp 19) 0, type := 0, pos := "agenda.go:37", after := #[{ on := 1, ground := Ground.data }], guard := none }) (v := ?_) rfl (by kernel_rfl) (by kernel_rfl) (by kernel_rfl) (fun _ _ _ h => h) (Or.inl ⟨by rfl, ?_⟩) (by assumption) ?_
    rotate_left
    · intro w hSw; (try dsimp only at hSw); go_simp <;> with_reducible rfl
    simp only [Act.put, List.setIfInBounds_toArray, List.set_cons_zero, List.set_cons_succ]
    refine wpAnyH_take (i := 3) (oi := { dst := some 21, op := Op.makeInterface 68 (Operand.tmp 20), type := 78, pos := "agenda.go:37", after := #[{ on := 2, ground := Ground.data }], guard := none }) (v := ?_) rfl (by kernel_rfl) (by kernel_rfl) (by kernel_rfl) (fun _ _ _ h => h) (Or.inl ⟨by rfl, ?_⟩) (by assumption) ?_
    rotate_left
    · intro w hSw; (try dsimp only at hSw); go_simp <;> with_reducible rfl
    simp only [Act.put, List.setIfInBounds_toArray, List.set_cons_zero, List.set_cons_succ]
    refine wpAnyH_take (i := 4) (oi := { dst := some 22, op := Op.move (Operand.tmp 5), type := 57, pos := "agenda.go:37", after := #[], guard := none }) (v := ?_) rfl (by kernel_rfl) (by kernel_rfl) (by kernel_rfl) (fun _ _ _ h => h) (Or.inl ⟨by rfl, ?_⟩) (by assumption) ?_
    rotate_left
    · intro w hSw; (try dsimp only at hSw); go_simp <;> with_reducible rfl
    simp only [Act.put, List.setIfInBounds_toArray, List.set_cons_zero, List.set_cons_succ]
    refine wpAnyH_take (i := 5) (oi := { dst := some 23, op := Op.nilCheck (Operand.tmp 22), type := 0, pos := "agenda.go:37", after := #[{ on := 4, ground := Ground.data }], guard := none }) (v := ?_) rfl (by kernel_rfl) (by kernel_rfl) (by kernel_rfl) (fun _ _ _ h => h) (Or.inl ⟨by rfl, ?_⟩) (by assumption) ?_
    rotate_left
    · intro w hSw; (try dsimp only at hSw); go_simp <;> with_reducible rfl
    simp only [Act.put, List.setIfInBounds_toArray, List.set_cons_zero, List.set_cons_succ]
    refine wpAnyH_take (i := 6) (oi := { dst := some 24, op := Op.fieldAddr 64 (Operand.tmp 23) 3, type := 0, pos := "agenda.go:37", after := #[{ on := 5, ground := Ground.data }], guard := none }) (v := ?_) rfl (by kernel_rfl) (by kernel_rfl) (by kernel_rfl) (fun _ _ _ h => h) (Or.inl ⟨by rfl, ?_⟩) (by assumption) ?_
    rotate_left
    · intro w hSw; (try dsimp only at hSw); go_simp <;> with_reducible rfl
    simp only [Act.put, List.setIfInBounds_toArray, List.set_cons_zero, List.set_cons_succ]
    refine wpAnyH_ready (rs := [7]) (by kernel_rfl) (by simp) ?_
    refine AllReadyH.cons (o := { dst := some 25, op := Op.load 3 (Operand.tmp 24), type := 3, pos := "agenda.go:37", after := #[{ on := 6, ground := Ground.data }], guard := none }) rfl (fun K hK => ?_) AllReadyH.nil
    go_simp
    refine hK.out _ _ ?_ (fun hHeld => ?_)
    · trivial
    clear hK K
    try simp only [Act.put, List.setIfInBounds_toArray, List.set_cons_zero, List.set_cons_succ]
    refine wpAnyH_ready (rs := [8]) (by kernel_rfl) (by simp) ?_
    refine AllReadyH.cons (o := { dst := some 26, op := Op.call { callee := Callee.value (Operand.func 27), args := #[Operand.tmp 21, Operand.tmp 25], argTypes := #[78, 3] }, type := 20, pos := "agenda.go:37", after := #[{ on := 3, ground := Ground.data }, { on := 7, ground := Ground.data }], guard := none }) rfl (fun K hK => ?_) AllReadyH.nil
    go_simp
    refine (KR.out w.drew rfl).mono ?_; rintro e w1 ⟨⟨v1, rfl⟩, g, cap, cap2, h2, hr2, H2, B2, hH2, hL2, M2⟩; (try dsimp only); have H2' := hide' H2; have B2' := hide' B2; have hH2' := hide' hH2; have hL2' := hide' hL2; have M2' := hide' M2; have hr2' := hide' hr2; have c12 := B2.c1; have hM1 := hide' (map_same (w' := w1) HA'.out.map (M2.block mb HA'.out.map.lt (fun x => x.elim (map_fh HA'.out) (map_a HA'.out)))); clear H2 B2 hH2 hL2 M2 hr2
    refine hK.out _ _ ?_ (fun hHeld => ?_)
    · trivial
    clear hK K
    try simp only [Act.put, List.setIfInBounds_toArray, List.set_cons_zero, List.set_cons_succ]
    refine wpAnyH_done (by kernel_rfl) ?_ _
    skip
    go_wp2_with (at_delete; refine wpList_delete_own _ rfl _ _ 58 3 rfl 57 lawK Try.underlying58 ptrR mb sets D rfl hM1.out _ _ rfl hkey ?_; intro w3 hown3 hturn3; have hown3' := hide' hown3; have hturn3' := hide' hturn3; clear hown3 hturn3)
    go_ret
    have hx : w3.ownsMap Try.prog 3 ptrR mb sets (D.del (.int .i64 (h i).2.id)) := by rw [ei'.out]; exact hown3'.out
    obtain ⟨F3, hA3, hM3, hF3⟩ := dropEnd (w := w) HA'.out hS'.out hF'.out hlt'.out hi hr2'.out H2'.out B2'.out hH2'.out hL2'.out M2'.out.from_drew hM1.out hx hturn3'.out.grown
    rw [ei'.out] at hA3
    exact ⟨true, F3, n1, rfl, ⟨fun _ => ⟨(h i).2, (hS'.out _).2 ⟨i, hi, rfl⟩, ei'.out⟩, fun _ => rfl⟩, hA3, hM3, hF3, rfl⟩
  · obtain ⟨hh, hat⟩ := m2 hp
    have hAS : Hid (AgS w a F (fun x => S x ∧ x.id ≠ id) n sets) := ⟨h, rowv, mb, D, HA, fun x => ⟨fun hx => (hS x).1 hx.1, fun ⟨k, hk, ek⟩ => ⟨(hS x).2 ⟨k, hk, ek⟩, fun e => hp ⟨k, hk, by rw [ek]; exact e⟩⟩⟩, hF, hlt⟩
    have hno : Hid (¬ ∃ x, S x ∧ x.id = id) := by
      rintro ⟨x, hx, e⟩
      obtain ⟨k, hk, ek⟩ := (hS x).1 hx
      exact hp ⟨k, hk, by rw [ek]; exact e⟩
    clear HA hS hF hlt m1 m2 m3 hp
    go_enter Try.func12, Try.ntmps12
    go_wp2_with (at_lookup; refine wpList_lookup_own_ok _ rfl _ _ 58 rfl 3 57 lawK Try.underlying58 ptrR (zeroPtr _) (.lit (.int .i64 (-1))) [] rfl mb sets D rfl hown _ _ rfl hkey ?_; intro v ps hv; rw [hat] at hv; obtain rfl := ptrR_nil hv; rw [hh])
    go_ret
    exact ⟨false, F, n, rfl, ⟨fun x => (by cases x), fun x => absurd x hno.out⟩, hAS.out, Mv.refl _ _, fun _ x => x, rfl⟩
end Go.Proofs.Ytmjdecgijnodhaa
