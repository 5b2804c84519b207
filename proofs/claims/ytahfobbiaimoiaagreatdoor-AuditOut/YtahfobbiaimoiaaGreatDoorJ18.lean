/- happen: an event laid, and done. -/
import Derived.Test.YtahfobbiaimoiaaGreatDoorJ04
import Derived.Test.YtahfobbiaimoiaaGreatDoorJ15
import Derived.Deep.QuietTactic
import Derived.BigQuiet
import Derived.Deep.CutRange
namespace Go.Proofs.YtahfobbiaimoiaaGreatDoor
open Go.RowKit
theorem ofNoStepF (k t : Int) (w : World) : Calls Tryz.prog 69 #[.int .i64 k, .int .i64 t] w fun e w' => e = .returned (.agg #[.int .i64 t, .int .i64 k, .int .i64 (-1), .int .i64 (-1)]) ∧ Below w.heap.size w w' := by
  go_enter Tryz.func69, Tryz.ntmps69
  go_wp2
  exact bodyPost_ret (v := .agg #[.int .i64 t, .int .i64 k, .int .i64 (-1), .int .i64 (-1)]) (by simp [results, Tryz.results69, go_sem]) rfl ⟨rfl, (Below.refl _ w).alloc (Nat.le_refl _) _⟩
def HapR (w : World) (B gr gt : Nat) (nm : ByteArray) (sv rv : Value) (go ct : Nat) (lv : Value) (R' : Rs) (e : Ending) (w' : World) : Prop :=
  e = .returned (.tuple #[]) ∧ ∃ lv', RnAt w' B gr gt nm sv rv go ct lv' R' ∧ FrR gr gt lv w w' ∧ NwL w.heap.size lv lv'
/-- What happens. -/
def hapK (R : Rs) (e : Ev) (R' : Rs) : Prop :=
  ((e.kind = 1 ∨ e.kind = 6) ∧ R' = hapS R 1 e) ∨ (e.kind = 5 ∧ R' = hapS R 2 e) ∨ (e.kind = 4 ∧ R' = hapS R 4 e) ∨
  (e.kind = 2 ∧ hasS R e.step = true ∧ R' = hapC R e.step e.user e.tick) ∨ (e.kind = 3 ∧ hasS R e.step = true ∧ R' = hapD R e.step e.user e.tick)
section
variable {w : World} {B gr gt : Nat} {nm : ByteArray} {sv rv : Value} {go ct : Nat} {lv : Value} {R : Rs}
theorem RnAt.grown6 {W w2 : World} (h : RnAt W B gr gt nm sv rv go ct lv R) (hg : W.grownBy w2 lv.ownBlock) : w2.cell? ⟨gr, 6, none⟩ = some lv ∧ w2.frozen? ⟨gr, 6, none⟩ = false := by
  have k1 : w2.heap[gr]? = W.heap[gr]? := hg.block gr h.lt fun e2 => kind_ne h.lg h.ob (by decide) e2.symm
  have ob2 := k1.trans h.ob
  exact ⟨by simp [World.cell?, ob2], by simp [World.frozen?, ob2]⟩
theorem bx4 {V : World} {b : Nat} {x0 x1 x2 x3 : Value} {t : TypeId} (h : V.heap[b]? = some (.cells #[x0, x1, x2, x3] t (0, 0))) : V.cell? ⟨b, 0, none⟩ = some x0 ∧ V.cell? ⟨b, 1, none⟩ = some x1 ∧ V.cell? ⟨b, 2, none⟩ = some x2 ∧ V.cell? ⟨b, 3, none⟩ = some x3 := by simp [World.cell?, h]
theorem cell_of_block {W W' : World} {k i : Nat} (h : W'.heap[k]? = W.heap[k]?) : W'.drew.cell? ⟨k, i, none⟩ = W.cell? ⟨k, i, none⟩ := by
  simp only [World.cell?, World.drew]
  rw [h]
theorem set2_other {W : World} {gt a b : Nat} {x y : Value} (k : Nat) (hk : k ≠ gt) : ((W.setCell ⟨gt, a, none⟩ x).setCell ⟨gt, b, none⟩ y).heap[k]? = W.heap[k]? := by
  rw [Below.heap_setCell _ _ _ _ hk, Below.heap_setCell _ _ _ _ hk]
theorem set4_other {W : World} {gt a b c d : Nat} {x y z u : Value} (k : Nat) (hk : k ≠ gt) : ((((W.setCell ⟨gt, a, none⟩ x).setCell ⟨gt, b, none⟩ y).setCell ⟨gt, c, none⟩ z).setCell ⟨gt, d, none⟩ u).heap[k]? = W.heap[k]? := by
  rw [Below.heap_setCell _ _ _ _ hk, Below.heap_setCell _ _ _ _ hk, Below.heap_setCell _ _ _ _ hk, Below.heap_setCell _ _ _ _ hk]
theorem evone (e : Ev) : ∀ u ∈ evcells e, u.oneCell' = true := by
  intro u hu
  simp [evcells] at hu
  rcases hu with rfl | rfl | rfl | rfl <;> rfl
/-- What stands behind the first append. -/
structure Hp (w : World) (B gr gt : Nat) (nm : ByteArray) (sv rv : Value) (go ct : Nat) (lv : Value) (R : Rs) (e : Ev) (l2 : Value) (W : World) : Prop where
  at' : RnAt W B gr gt nm sv rv go ct l2 R
  fr : FrR gr gt lv w W
  nw : NwL w.heap.size lv l2
  bx : W.heap[w.heap.size]? = some (.cells #[.int .i64 e.tick, .int .i64 e.kind, .int .i64 e.step, .int .i64 e.user] 76 (0, 0))
  ne : l2.ownBlock ≠ some w.heap.size
theorem Hp.b0 {e : Ev} {l2 : Value} {W : World} (h : Hp w B gr gt nm sv rv go ct lv R e l2 W) : W.cell? ⟨w.heap.size, 0, none⟩ = some (.int .i64 e.tick) := by simp [World.cell?, h.bx]
theorem Hp.b1 {e : Ev} {l2 : Value} {W : World} (h : Hp w B gr gt nm sv rv go ct lv R e l2 W) : W.cell? ⟨w.heap.size, 1, none⟩ = some (.int .i64 e.kind) := by simp [World.cell?, h.bx]
theorem Hp.b2 {e : Ev} {l2 : Value} {W : World} (h : Hp w B gr gt nm sv rv go ct lv R e l2 W) : W.cell? ⟨w.heap.size, 2, none⟩ = some (.int .i64 e.step) := by simp [World.cell?, h.bx]
theorem Hp.b3 {e : Ev} {l2 : Value} {W : World} (h : Hp w B gr gt nm sv rv go ct lv R e l2 W) : W.cell? ⟨w.heap.size, 3, none⟩ = some (.int .i64 e.user) := by simp [World.cell?, h.bx]
/-- The first event laid. -/
theorem hp_push (h : RnAt w B gr gt nm sv rv go ct lv R) (e : Ev) {w2 : World} {g cap : Nat} {W1 : World} (hW : W1 = w.alloc (.cells #[.int .i64 e.tick, .int .i64 e.kind, .int .i64 e.step, .int .i64 e.user] 76)) (ho : w2.ownsRow B 76 4 (.slice (some ⟨g, 0, none⟩) (R.log.length + 1) cap) (R.log.length + 1) (cellsEv R.log ++ evcells e)) (hg : W1.grownBy w2 lv.ownBlock) (hn : lv.ownBlock = some g ∨ W1.heap.size ≤ g) :
    Hp w B gr gt nm sv rv go ct lv ⟨R.S, R.stat, R.log ++ [e]⟩ e (.slice (some ⟨g, 0, none⟩) (R.log.length + 1) cap) (w2.setCell ⟨gr, 6, none⟩ (.slice (some ⟨g, 0, none⟩) (R.log.length + 1) cap)) := by
  have hb : Below w.heap.size w W1 := by rw [hW]; exact (Below.refl _ w).alloc (Nat.le_refl _) _
  have hs : W1.heap.size = w.heap.size + 1 := by rw [hW]; simp
  have hbx : W1.heap[w.heap.size]? = some (.cells #[.int .i64 e.tick, .int .i64 e.kind, .int .i64 e.step, .int .i64 e.user] 76 (0, 0)) := by rw [hW]; exact heap_alloc_new w _
  obtain ⟨p1, p2, p3⟩ := (h.over hb).push e ho hg hn
  have hlt := h.lt
  refine ⟨p1, (FrR.of_below hb).trans p2 (NwL.refl _ _), (NwL.refl w.heap.size lv).trans p3 hb.size, ?_, fun e1 => ?_⟩
  rotate_left
  · have e2 : g = w.heap.size := by cases e1; rfl
    rcases hn with h1 | h1
    · have := own_lt' h.lg h1; omega
    · omega
  refine (p2.blk w.heap.size (by omega) (by omega) (by have := h.gt_lt; omega) (fun e1 => ?_)).trans hbx
  have := own_lt' h.lg e1
  omega
theorem Hp.stat {e : Ev} {l2 : Value} {W : World} (h : Hp w B gr gt nm sv rv go ct lv R e l2 W) (z : Int) : RnAt (W.setCell ⟨gr, 5, none⟩ (.int .i64 z)) B gr gt nm sv rv go ct l2 ⟨R.S, z, R.log⟩ ∧ FrR gr gt lv w (W.setCell ⟨gr, 5, none⟩ (.int .i64 z)) ∧ NwL w.heap.size lv l2 := ⟨h.at'.setStat z, h.fr.set 5 _, h.nw⟩
theorem Hp.over {e : Ev} {l2 : Value} {W W' : World} (h : Hp w B gr gt nm sv rv go ct lv R e l2 W) (hb : Below W.heap.size W W') : Hp w B gr gt nm sv rv go ct lv R e l2 W' :=
  ⟨h.at'.over hb, h.fr.trans (.of_below hb) h.nw, h.nw, (hb.block _ (Array.getElem?_eq_some_iff.1 h.bx).1).trans h.bx, h.ne⟩
theorem Hp.app {e : Ev} {l2 : Value} {W : World} (h : Hp w B gr gt nm sv rv go ct lv R e l2 W) (x : Ev) {w2 : World} {g cap : Nat} (ho : w2.ownsRow B 76 4 (.slice (some ⟨g, 0, none⟩) (R.log.length + 1) cap) (R.log.length + 1) (cellsEv R.log ++ evcells x)) (hg : W.grownBy w2 l2.ownBlock) (hn : l2.ownBlock = some g ∨ W.heap.size ≤ g) (hlt : gr < w.heap.size) (hG : gt < w.heap.size) :
    Hp w B gr gt nm sv rv go ct lv ⟨R.S, R.stat, R.log ++ [x]⟩ e (.slice (some ⟨g, 0, none⟩) (R.log.length + 1) cap) (w2.setCell ⟨gr, 6, none⟩ (.slice (some ⟨g, 0, none⟩) (R.log.length + 1) cap)) := by
  obtain ⟨p1, p2, p3⟩ := h.at'.push x ho hg hn
  have hlw := (Array.getElem?_eq_some_iff.1 h.bx).1
  refine ⟨p1, h.fr.trans p2 h.nw, h.nw.trans p3 h.fr.size, (p2.blk w.heap.size hlw (by omega) (by omega) h.ne).trans h.bx, fun e1 => ?_⟩
  have e2 : g = w.heap.size := by cases e1; rfl
  rcases hn with h1 | h1
  · exact h.ne (h1.trans (congrArg some e2))
  · omega
theorem Hp.set2 {e : Ev} {l2 : Value} {W : World} (h : Hp w B gr gt nm sv rv go ct lv R e l2 W) (i : Nat) (s : SS) (hs : R.S[i]? = some s) (z d : Int) (hG : gt < w.heap.size) :
    Hp w B gr gt nm sv rv go ct lv ⟨R.S.set i ⟨z, s.us, s.ca, d⟩, R.stat, R.log⟩ e l2 ((W.setCell ⟨gt, i * 4, none⟩ (.int .i64 z)).setCell ⟨gt, i * 4 + 3, none⟩ (.int .i64 d)) :=
  ⟨h.at'.setS2 i s hs z d, (h.fr.setT _ _).setT _ _, h.nw, (set2_other w.heap.size (by omega)).trans h.bx, h.ne⟩
set_option maxRecDepth 100000 in
set_option maxHeartbeats 8000000 in
theorem hapF (h : RnAt w B gr gt nm sv rv go ct lv R) (e : Ev) (R' : Rs) (hk : hapK R e R') (hl : R.log.length ≤ 100000) (hB : B ≤ w.heap.size) (hS : R.S.length ≤ 1000) :
    Calls Tryz.prog 68 #[.pointer (some ⟨gr, 0, none⟩), .agg #[.int .i64 e.tick, .int .i64 e.kind, .int .i64 e.step, .int .i64 e.user]] w (HapR w B gr gt nm sv rv go ct lv R') := by
  have hlt := h.lt
  have hGT := hide' h.gt_lt
  have hR : Hid (∀ w' lv', RnAt w' B gr gt nm sv rv go ct lv' R' → FrR gr gt lv w w' → NwL w.heap.size lv lv' → HapR w B gr gt nm sv rv go ct lv R' (.returned (.tuple #[])) w') := fun w' lv' h1 h2 h3 => ⟨rfl, lv', h1, h2, h3⟩
  generalize HapR w B gr gt nm sv rv go ct lv R' = QQ at *
  have hk' := hide' hk
  clear hk
  obtain ⟨ol, cl, hlv⟩ := own_shp h.lg
  have H := hide' h
  subst hlv
  clear h
  go_enter Tryz.func68, Tryz.ntmps68
  go_upto_region 1 with fail
  have hWe : ∃ W1, W1 = w.alloc (.cells #[.int .i64 e.tick, .int .i64 e.kind, .int .i64 e.step, .int .i64 e.user] 76) := ⟨_, rfl⟩
  obtain ⟨W1, hW⟩ := hWe
  rw [← hW]
  have HW := hide' hW
  clear hW
  go_cut [] from 6 to 15 (fun wx => ∃ gg cc, Hid (Hp w B gr gt nm sv rv go ct (.slice ol R.log.length cl) ⟨R.S, R.stat, R.log ++ [e]⟩ e (.slice (some ⟨gg, 0, none⟩) (R.log.length + 1) cc) wx))
  case first =>
    clear hR hk'
    have hbx : Hid (W1.heap[w.heap.size]? = some (.cells #[.int .i64 e.tick, .int .i64 e.kind, .int .i64 e.step, .int .i64 e.user] 76 (0, 0))) := by show _ = _; rw [HW.out]; exact heap_alloc_new w _
    have H1 : Hid (RnAt W1 B gr gt nm sv rv go ct (.slice ol R.log.length cl) R) := by rw [HW.out]; exact H.out.over ((Below.refl _ w).alloc (Nat.le_refl _) _)
    have hs1 : Hid (W1.heap.size = w.heap.size + 1) := by show _ = _; rw [HW.out]; simp
    have hB1 : B ≤ W1.drew.heap.size := by show B ≤ W1.heap.size; rw [hs1.out]; omega
    have hl1 : R.log.length ≤ 1000000 := by omega
    have a6 : Hid (RnAt (W1.alloc (.cells #[.int .i64 e.tick, .int .i64 e.kind, .int .i64 e.step, .int .i64 e.user] 76)) B gr gt nm sv rv go ct (.slice ol R.log.length cl) R) := H1.out.over ((Below.refl _ W1).alloc (Nat.le_refl _) _)
    have c6a : W1.drew.cell? ⟨gr, 6, none⟩ = some (.slice ol R.log.length cl) := H1.out.c6
    have c6b : (W1.alloc (.cells #[.int .i64 e.tick, .int .i64 e.kind, .int .i64 e.step, .int .i64 e.user] 76)).cell? ⟨gr, 6, none⟩ = some (.slice ol R.log.length cl) := a6.out.c6
    have hbxa : Hid ((W1.alloc (.cells #[.int .i64 e.tick, .int .i64 e.kind, .int .i64 e.step, .int .i64 e.user] 76)).heap[w.heap.size]? = some (.cells #[.int .i64 e.tick, .int .i64 e.kind, .int .i64 e.step, .int .i64 e.user] 76 (0, 0))) := (((Below.refl W1.heap.size W1).alloc (Nat.le_refl _) _).block _ (by rw [hs1.out]; omega)).trans hbx.out
    have hS0 := hide' (bx4 hbx.out)
    have hSa := hide' (bx4 hbxa.out)
    have hne1 : Hid (∀ g, (Value.slice ol R.log.length cl).ownBlock = some g → g ≠ w.heap.size) := fun g hg => by have := own_lt' H.out.lg hg; omega
    refine wp_region_held_drew (S := (fun V => V.cell? ⟨w.heap.size, 0, none⟩ = some (.int .i64 e.tick) ∧ V.cell? ⟨w.heap.size, 1, none⟩ = some (.int .i64 e.kind) ∧ V.cell? ⟨w.heap.size, 2, none⟩ = some (.int .i64 e.step) ∧ V.cell? ⟨w.heap.size, 3, none⟩ = some (.int .i64 e.user))) (by kernel_rfl) ?_ (fun hHeld => ?_)
    · exact hS0.out
    refine wpAnyH_take (i := 0) (oi := { dst := some 6, op := Op.move (Operand.tmp 0), type := 29, pos := "run.go:95", after := #[], guard := none }) (v := ?_) rfl (by kernel_rfl) (by kernel_rfl) (by kernel_rfl) (fun _ _ _ h => h) (Or.inl ⟨by rfl, ?_⟩) (by assumption) ?_
    rotate_left
    · intro w hSw; (try dsimp only at hSw); go_simp <;> with_reducible rfl
    simp only [Act.put, List.setIfInBounds_toArray, List.set_cons_zero, List.set_cons_succ]
    refine wpAnyH_take (i := 1) (oi := { dst := some 7, op := Op.move (Operand.tmp 0), type := 29, pos := "run.go:95", after := #[], guard := none }) (v := ?_) rfl (by kernel_rfl) (by kernel_rfl) (by kernel_rfl) (fun _ _ _ h => h) (Or.inl ⟨by rfl, ?_⟩) (by assumption) ?_
    rotate_left
    · intro w hSw; (try dsimp only at hSw); go_simp <;> with_reducible rfl
    simp only [Act.put, List.setIfInBounds_toArray, List.set_cons_zero, List.set_cons_succ]
    refine wpAnyH_take (i := 2) (oi := { dst := some 8, op := Op.nilCheck (Operand.tmp 7), type := 0, pos := "run.go:95", after := #[{ on := 1, ground := Ground.data }], guard := none }) (v := ?_) rfl (by kernel_rfl) (by kernel_rfl) (by kernel_rfl) (fun _ _ _ h => h) (Or.inl ⟨by rfl, ?_⟩) (by assumption) ?_
    rotate_left
    · intro w hSw; (try dsimp only at hSw); go_simp <;> with_reducible rfl
    simp only [Act.put, List.setIfInBounds_toArray, List.set_cons_zero, List.set_cons_succ]
    refine wpAnyH_take (i := 3) (oi := { dst := some 9, op := Op.fieldAddr 106 (Operand.tmp 8) 4, type := 0, pos := "run.go:95", after := #[{ on := 2, ground := Ground.data }], guard := none }) (v := ?_) rfl (by kernel_rfl) (by kernel_rfl) (by kernel_rfl) (fun _ _ _ h => h) (Or.inl ⟨by rfl, ?_⟩) (by assumption) ?_
    rotate_left
    · intro w hSw; (try dsimp only at hSw); go_simp <;> with_reducible rfl
    simp only [Act.put, List.setIfInBounds_toArray, List.set_cons_zero, List.set_cons_succ]
    refine wpAnyH_take (i := 5) (oi := { dst := some 11, op := Op.load 76 (Operand.tmp 3), type := 76, pos := "run.go:95", after := #[], guard := none }) (v := ?_) rfl (by kernel_rfl) (by kernel_rfl) (by kernel_rfl) (fun _ _ _ h => h) (Or.inl ⟨by rfl, ?_⟩) (by assumption) ?_
    rotate_left
    · intro w hSw; (try dsimp only at hSw); go_simp <;> with_reducible rfl
    simp only [Act.put, List.setIfInBounds_toArray, List.set_cons_zero, List.set_cons_succ]
    refine wpAnyH_ready (rs := [4, 6]) (by kernel_rfl) (by simp) ?_
    refine AllReadyH.cons (o := { dst := some 10, op := Op.load 26 (Operand.tmp 9), type := 26, pos := "run.go:95", after := #[{ on := 3, ground := Ground.data }], guard := none }) rfl (fun K hK => ?_) ?_
    · skip
      go_simp
      refine hK.out _ _ ?_ (fun hHeld => ?_)
      · exact hS0.out
      clear hK K
      try simp only [Act.put, List.setIfInBounds_toArray, List.set_cons_zero, List.set_cons_succ]
      refine wpAnyH_ready (rs := [6]) (by kernel_rfl) (by simp) ?_
      refine AllReadyH.cons (o := { dst := some 12, op := Op.buildSlice 26 1 #[(0, Operand.tmp 11)], type := 26, pos := "run.go:95", after := #[{ on := 5, ground := Ground.data }], guard := none }) rfl (fun K hK => ?_) AllReadyH.nil
      go_simp
      refine hK.out _ _ ?_ (fun hHeld => ?_)
      · exact hSa.out
      clear hK K
      try simp only [Act.put, List.setIfInBounds_toArray, List.set_cons_zero, List.set_cons_succ]
      refine wpAnyH_ready (rs := [7]) (by kernel_rfl) (by simp) ?_
      refine AllReadyH.cons (o := { dst := some 13, op := Op.call { callee := Callee.builtin Builtin.append, args := #[Operand.tmp 10, Operand.tmp 12], argTypes := #[26, 26] }, type := 26, pos := "run.go:95", after := #[{ on := 4, ground := Ground.data }, { on := 6, ground := Ground.data }], guard := none }) rfl (fun K hK => ?_) AllReadyH.nil
      rw [if_pos (by rfl)]
      refine app1Lw elE (.tmp 10) (.tmp 12) rfl B W1.drew (.slice ol R.log.length cl) R.log.length (cellsEv R.log) (evcells e) rfl rfl (own_same H1.out.lg fun _ _ _ => rfl) rfl (evone e) hB1 hl1 ?_; intro g cap w2 hown hgr hnw; have hgr1 : Hid (W1.grownBy w2 (Value.slice ol R.log.length cl).ownBlock) := O.grown_trans (O.grown_drew W1 _) hgr; obtain ⟨d6, f6⟩ := H1.out.grown6 hgr1.out; have hbx2 : Hid (w2.heap[w.heap.size]? = some (.cells #[.int .i64 e.tick, .int .i64 e.kind, .int .i64 e.step, .int .i64 e.user] 76 (0, 0))) := (hgr1.out.block _ (by rw [hs1.out]; omega) fun e2 => hne1.out _ e2.symm rfl).trans hbx.out; have hP := hide' (hp_push H.out e HW.out hown hgr1.out hnw); clear hown hgr; (try dsimp only)
      refine hK.out _ _ ?_ (fun hHeld => ?_)
      · exact bx4 hbx2.out
      clear hK K
      try simp only [Act.put, List.setIfInBounds_toArray, List.set_cons_zero, List.set_cons_succ]
      refine wpAnyH_take (i := 8) (oi := { dst := some 14, op := Op.nilCheck (Operand.tmp 6), type := 0, pos := "run.go:95", after := #[{ on := 0, ground := Ground.data }, { on := 0, ground := Ground.phase }, { on := 1, ground := Ground.phase }, { on := 2, ground := Ground.phase }, { on := 3, ground := Ground.phase }, { on := 4, ground := Ground.phase }, { on := 5, ground := Ground.phase }, { on := 6, ground := Ground.phase }, { on := 7, ground := Ground.phase }], guard := none }) (v := ?_) rfl (by kernel_rfl) (by kernel_rfl) (by kernel_rfl) (fun _ _ _ h => h) (Or.inl ⟨by rfl, ?_⟩) (by assumption) ?_
      rotate_left
      · intro w hSw; (try dsimp only at hSw); go_simp <;> with_reducible rfl
      simp only [Act.put, List.setIfInBounds_toArray, List.set_cons_zero, List.set_cons_succ]
      refine wpAnyH_take (i := 9) (oi := { dst := some 15, op := Op.fieldAddr 106 (Operand.tmp 14) 4, type := 0, pos := "run.go:95", after := #[{ on := 8, ground := Ground.data }, { on := 0, ground := Ground.phase }, { on := 1, ground := Ground.phase }, { on := 2, ground := Ground.phase }, { on := 3, ground := Ground.phase }, { on := 4, ground := Ground.phase }, { on := 5, ground := Ground.phase }, { on := 6, ground := Ground.phase }, { on := 7, ground := Ground.phase }], guard := none }) (v := ?_) rfl (by kernel_rfl) (by kernel_rfl) (by kernel_rfl) (fun _ _ _ h => h) (Or.inl ⟨by rfl, ?_⟩) (by assumption) ?_
      rotate_left
      · intro w hSw; (try dsimp only at hSw); go_simp <;> with_reducible rfl
      simp only [Act.put, List.setIfInBounds_toArray, List.set_cons_zero, List.set_cons_succ]
      refine wpAnyH_ready (rs := [10]) (by kernel_rfl) (by simp) ?_
      refine AllReadyH.cons (o := { dst := none, op := Op.store 26 (Operand.tmp 15) (Operand.tmp 13), type := 0, pos := "run.go:95", after := #[{ on := 9, ground := Ground.data }, { on := 7, ground := Ground.data }, { on := 7, ground := Ground.chain }, { on := 0, ground := Ground.phase }, { on := 1, ground := Ground.phase }, { on := 2, ground := Ground.phase }, { on := 3, ground := Ground.phase }, { on := 4, ground := Ground.phase }, { on := 5, ground := Ground.phase }, { on := 6, ground := Ground.phase }, { on := 7, ground := Ground.phase }], guard := none }) rfl (fun K hK => ?_) AllReadyH.nil
      go_simp
      refine hK.out _ _ ?_ (fun hHeld => ?_)
      · exact ⟨hP.out.b0, hP.out.b1, hP.out.b2, hP.out.b3⟩
      clear hK K
      try simp only [Act.put, List.setIfInBounds_toArray, List.set_cons_zero, List.set_cons_succ]
      refine wpAnyH_done (by kernel_rfl) ?_ _
      skip
      go_wp2
      go_meet
      exact ⟨_, _, hP⟩
    refine AllReadyH.cons (o := { dst := some 12, op := Op.buildSlice 26 1 #[(0, Operand.tmp 11)], type := 26, pos := "run.go:95", after := #[{ on := 5, ground := Ground.data }], guard := none }) rfl (fun K hK => ?_) AllReadyH.nil
    go_simp
    refine hK.out _ _ ?_ (fun hHeld => ?_)
    · exact hSa.out
    clear hK K
    try simp only [Act.put, List.setIfInBounds_toArray, List.set_cons_zero, List.set_cons_succ]
    refine wpAnyH_ready (rs := [4]) (by kernel_rfl) (by simp) ?_
    refine AllReadyH.cons (o := { dst := some 10, op := Op.load 26 (Operand.tmp 9), type := 26, pos := "run.go:95", after := #[{ on := 3, ground := Ground.data }], guard := none }) rfl (fun K hK => ?_) AllReadyH.nil
    go_simp
    refine hK.out _ _ ?_ (fun hHeld => ?_)
    · exact hSa.out
    clear hK K
    try simp only [Act.put, List.setIfInBounds_toArray, List.set_cons_zero, List.set_cons_succ]
    refine wpAnyH_ready (rs := [7]) (by kernel_rfl) (by simp) ?_
    refine AllReadyH.cons (o := { dst := some 13, op := Op.call { callee := Callee.builtin Builtin.append, args := #[Operand.tmp 10, Operand.tmp 12], argTypes := #[26, 26] }, type := 26, pos := "run.go:95", after := #[{ on := 4, ground := Ground.data }, { on := 6, ground := Ground.data }], guard := none }) rfl (fun K hK => ?_) AllReadyH.nil
    rw [if_pos (by rfl)]
    refine app1Lw elE (.tmp 10) (.tmp 12) rfl B W1.drew (.slice ol R.log.length cl) R.log.length (cellsEv R.log) (evcells e) rfl rfl (own_same H1.out.lg fun _ _ _ => rfl) rfl (evone e) hB1 hl1 ?_; intro g cap w2 hown hgr hnw; have hgr1 : Hid (W1.grownBy w2 (Value.slice ol R.log.length cl).ownBlock) := O.grown_trans (O.grown_drew W1 _) hgr; obtain ⟨d6, f6⟩ := H1.out.grown6 hgr1.out; have hbx2 : Hid (w2.heap[w.heap.size]? = some (.cells #[.int .i64 e.tick, .int .i64 e.kind, .int .i64 e.step, .int .i64 e.user] 76 (0, 0))) := (hgr1.out.block _ (by rw [hs1.out]; omega) fun e2 => hne1.out _ e2.symm rfl).trans hbx.out; have hP := hide' (hp_push H.out e HW.out hown hgr1.out hnw); clear hown hgr; (try dsimp only)
    refine hK.out _ _ ?_ (fun hHeld => ?_)
    · exact bx4 hbx2.out
    clear hK K
    try simp only [Act.put, List.setIfInBounds_toArray, List.set_cons_zero, List.set_cons_succ]
    refine wpAnyH_take (i := 8) (oi := { dst := some 14, op := Op.nilCheck (Operand.tmp 6), type := 0, pos := "run.go:95", after := #[{ on := 0, ground := Ground.data }, { on := 0, ground := Ground.phase }, { on := 1, ground := Ground.phase }, { on := 2, ground := Ground.phase }, { on := 3, ground := Ground.phase }, { on := 4, ground := Ground.phase }, { on := 5, ground := Ground.phase }, { on := 6, ground := Ground.phase }, { on := 7, ground := Ground.phase }], guard := none }) (v := ?_) rfl (by kernel_rfl) (by kernel_rfl) (by kernel_rfl) (fun _ _ _ h => h) (Or.inl ⟨by rfl, ?_⟩) (by assumption) ?_
    rotate_left
    · intro w hSw; (try dsimp only at hSw); go_simp <;> with_reducible rfl
    simp only [Act.put, List.setIfInBounds_toArray, List.set_cons_zero, List.set_cons_succ]
    refine wpAnyH_take (i := 9) (oi := { dst := some 15, op := Op.fieldAddr 106 (Operand.tmp 14) 4, type := 0, pos := "run.go:95", after := #[{ on := 8, ground := Ground.data }, { on := 0, ground := Ground.phase }, { on := 1, ground := Ground.phase }, { on := 2, ground := Ground.phase }, { on := 3, ground := Ground.phase }, { on := 4, ground := Ground.phase }, { on := 5, ground := Ground.phase }, { on := 6, ground := Ground.phase }, { on := 7, ground := Ground.phase }], guard := none }) (v := ?_) rfl (by kernel_rfl) (by kernel_rfl) (by kernel_rfl) (fun _ _ _ h => h) (Or.inl ⟨by rfl, ?_⟩) (by assumption) ?_
    rotate_left
    · intro w hSw; (try dsimp only at hSw); go_simp <;> with_reducible rfl
    simp only [Act.put, List.setIfInBounds_toArray, List.set_cons_zero, List.set_cons_succ]
    refine wpAnyH_ready (rs := [10]) (by kernel_rfl) (by simp) ?_
    refine AllReadyH.cons (o := { dst := none, op := Op.store 26 (Operand.tmp 15) (Operand.tmp 13), type := 0, pos := "run.go:95", after := #[{ on := 9, ground := Ground.data }, { on := 7, ground := Ground.data }, { on := 7, ground := Ground.chain }, { on := 0, ground := Ground.phase }, { on := 1, ground := Ground.phase }, { on := 2, ground := Ground.phase }, { on := 3, ground := Ground.phase }, { on := 4, ground := Ground.phase }, { on := 5, ground := Ground.phase }, { on := 6, ground := Ground.phase }, { on := 7, ground := Ground.phase }], guard := none }) rfl (fun K hK => ?_) AllReadyH.nil
    go_simp
    refine hK.out _ _ ?_ (fun hHeld => ?_)
    · exact ⟨hP.out.b0, hP.out.b1, hP.out.b2, hP.out.b3⟩
    clear hK K
    try simp only [Act.put, List.setIfInBounds_toArray, List.set_cons_zero, List.set_cons_succ]
    refine wpAnyH_done (by kernel_rfl) ?_ _
    skip
    go_wp2
    go_meet
    exact ⟨_, _, hP⟩
  case rest =>
  clear H HW
  obtain ⟨g, cap, hP⟩ := hcut
  have b0 := hP.out.b0
  have b1 := hP.out.b1
  have b2 := hP.out.b2
  have b3 := hP.out.b3
  have c4 : wc.cell? ⟨gr, 4, none⟩ = some (.slice (some ⟨gt, 0, none⟩) R.S.length ct) := hP.out.at'.c4
  have c5 : wc.cell? ⟨gr, 5, none⟩ = some (.int .i64 R.stat) := hP.out.at'.c5
  have f5 := hP.out.at'.frz 5
  have hcap : R.S.length ≤ ct := hP.out.at'.cap
  rcases hk'.out with ⟨hk | hk, hR'⟩ | ⟨hk, hR'⟩ | ⟨hk, hR'⟩ | ⟨hk, hst, hR'⟩ | ⟨hk, hst, hR'⟩
  · obtain ⟨q1, q2, q3⟩ := hP.out.stat 1
    have hF := hide' (hR.out _ _ (by rw [hR']; exact q1) q2 q3)
    rw [hk] at b1
    clear hR' hk hk' hR q1 q2 q3 hP
    go_wp2
    go_end0
    exact hF.out
  · obtain ⟨q1, q2, q3⟩ := hP.out.stat 1
    have hF := hide' (hR.out _ _ (by rw [hR']; exact q1) q2 q3)
    rw [hk] at b1
    clear hR' hk hk' hR q1 q2 q3 hP
    go_wp2
    go_end0
    exact hF.out
  · obtain ⟨q1, q2, q3⟩ := hP.out.stat 2
    have hF := hide' (hR.out _ _ (by rw [hR']; exact q1) q2 q3)
    rw [hk] at b1
    clear hR' hk hk' hR q1 q2 q3 hP
    go_wp2
    go_end0
    exact hF.out
  · obtain ⟨q1, q2, q3⟩ := hP.out.stat 4
    have hF := hide' (hR.out _ _ (by rw [hR']; exact q1) q2 q3)
    rw [hk] at b1
    clear hR' hk hk' hR q1 q2 q3 hP
    go_wp2
    go_end0
    exact hF.out
  · rw [hk] at b1
    obtain ⟨g0, g1, g2⟩ := hasS_iff hst
    have q1 := hP.out.at'.setS4 e.step.toNat ⟨1, e.user, e.tick, 0⟩ g1
    have q2 := (((hP.out.fr.setT (e.step.toNat * 4) (.int .i64 1)).setT (e.step.toNat * 4 + 1) (.int .i64 e.user)).setT (e.step.toNat * 4 + 2) (.int .i64 e.tick)).setT (e.step.toNat * 4 + 3) (.int .i64 0)
    have he : e = ⟨e.tick, 2, e.step, e.user⟩ := by cases e; cases hk; rfl
    have hF := hide' (hR.out _ _ (by rw [hR']; unfold hapC; rw [← he]; exact q1.over ((Below.refl _ _).drew)) (q2.trans (.of_below (Below.refl _ _).drew) hP.out.nw) hP.out.nw)
    have t0 := hP.out.at'.frT (e.step.toNat * 4)
    have t1 := hP.out.at'.frT (e.step.toNat * 4 + 1)
    have t2 := hP.out.at'.frT (e.step.toNat * 4 + 2)
    have t3 := hP.out.at'.frT (e.step.toNat * 4 + 3)
    obtain ⟨u0, u1, u2, u3⟩ := hP.out.at'.at (i := e.step.toNat) (s := sAt R e.step) (sAt_some hst)
    rw [g2] at b2
    clear hR' hk hk' hR q1 q2 hst g0 g2 he
    generalize e.step.toNat = k at *
    go_wp2
    have hS2 : Hid (wc.drew.cell? ⟨gr, 4, none⟩ = some (.slice (some ⟨gt, 0, none⟩) R.S.length ct) ∧ wc.drew.cell? ⟨w.heap.size, 0, none⟩ = some (.int .i64 e.tick) ∧ wc.drew.cell? ⟨w.heap.size, 2, none⟩ = some (.int .i64 (k : Int)) ∧ wc.drew.cell? ⟨w.heap.size, 3, none⟩ = some (.int .i64 e.user)) := ⟨c4, b0, b2, b3⟩
    have hS3 : Hid (((((wc.setCell ⟨gt, k * 4, none⟩ (.int .i64 1)).setCell ⟨gt, k * 4 + 1, none⟩ (.int .i64 e.user)).setCell ⟨gt, k * 4 + 2, none⟩ (.int .i64 e.tick)).setCell ⟨gt, k * 4 + 3, none⟩ (.int .i64 0)).drew.cell? ⟨gr, 4, none⟩ = some (.slice (some ⟨gt, 0, none⟩) R.S.length ct) ∧ ((((wc.setCell ⟨gt, k * 4, none⟩ (.int .i64 1)).setCell ⟨gt, k * 4 + 1, none⟩ (.int .i64 e.user)).setCell ⟨gt, k * 4 + 2, none⟩ (.int .i64 e.tick)).setCell ⟨gt, k * 4 + 3, none⟩ (.int .i64 0)).drew.cell? ⟨w.heap.size, 0, none⟩ = some (.int .i64 e.tick) ∧ ((((wc.setCell ⟨gt, k * 4, none⟩ (.int .i64 1)).setCell ⟨gt, k * 4 + 1, none⟩ (.int .i64 e.user)).setCell ⟨gt, k * 4 + 2, none⟩ (.int .i64 e.tick)).setCell ⟨gt, k * 4 + 3, none⟩ (.int .i64 0)).drew.cell? ⟨w.heap.size, 2, none⟩ = some (.int .i64 (k : Int)) ∧ ((((wc.setCell ⟨gt, k * 4, none⟩ (.int .i64 1)).setCell ⟨gt, k * 4 + 1, none⟩ (.int .i64 e.user)).setCell ⟨gt, k * 4 + 2, none⟩ (.int .i64 e.tick)).setCell ⟨gt, k * 4 + 3, none⟩ (.int .i64 0)).drew.cell? ⟨w.heap.size, 3, none⟩ = some (.int .i64 e.user)) := by
      have n1 := hP.out.at'.gr_ne
      have n2 := hGT.out
      refine ⟨?_, ?_, ?_, ?_⟩
      · rw [cell_of_block (set4_other gr n1.symm)]; exact c4
      · rw [cell_of_block (set4_other w.heap.size (by omega))]; exact b0
      · rw [cell_of_block (set4_other w.heap.size (by omega))]; exact b2
      · rw [cell_of_block (set4_other w.heap.size (by omega))]; exact b3
    clear hP
    go_region_held3 (fun V => V.cell? ⟨gr, 4, none⟩ = some (.slice (some ⟨gt, 0, none⟩) R.S.length ct) ∧ V.cell? ⟨w.heap.size, 0, none⟩ = some (.int .i64 e.tick) ∧ V.cell? ⟨w.heap.size, 2, none⟩ = some (.int .i64 (k : Int)) ∧ V.cell? ⟨w.heap.size, 3, none⟩ = some (.int .i64 e.user)) (first | (exact hS2.out) | (exact hS3.out)) (first | fail)
    go_wp2
    go_end0
    exact hF.out
  · rw [hk] at b1
    obtain ⟨g0, g1, g2⟩ := hasS_iff hst
    have hs := sAt_some hst
    have H3 := hide' ((hP.out.set2 e.step.toNat (sAt R e.step) hs 2 e.tick hGT.out).over (Below.refl _ _).drew)
    have he : e = ⟨e.tick, 3, e.step, e.user⟩ := by cases e; cases hk; rfl
    have z1 : Hid (lefB (dnS R e.step e.tick) ≠ 0 → R' = ⟨dnS R e.step e.tick, R.stat, R.log ++ [e]⟩) := fun h => by rw [hR']; unfold hapD; rw [if_neg h, ← he]
    have z2 : Hid (lefB (dnS R e.step e.tick) = 0 → R' = ⟨dnS R e.step e.tick, 3, (R.log ++ [e]) ++ [⟨e.tick, 7, -1, -1⟩]⟩) := fun h => by rw [hR']; unfold hapD; rw [if_pos h, ← he, List.append_assoc]; rfl
    have t0 := hP.out.at'.frT (e.step.toNat * 4)
    have t3 := hP.out.at'.frT (e.step.toNat * 4 + 3)
    obtain ⟨u0, u1, u2, u3⟩ := hP.out.at'.at (i := e.step.toNat) (s := sAt R e.step) hs
    have hdl : Hid ((dnS R e.step e.tick).length ≤ 1000) := by show _ ≤ _; unfold dnS; rw [List.length_set]; exact hS
    rw [g2] at b2
    have H3' : Hid (Hp w B gr gt nm sv rv go ct (.slice ol R.log.length cl) ⟨dnS R e.step e.tick, R.stat, R.log ++ [e]⟩ e (.slice (some ⟨g, 0, none⟩) (R.log.length + 1) cap) ((wc.setCell ⟨gt, e.step.toNat * 4, none⟩ (.int .i64 2)).setCell ⟨gt, e.step.toNat * 4 + 3, none⟩ (.int .i64 e.tick)).drew) := H3.out
    clear hR' hk hk' hst g0 g2 he hs H3
    generalize dnS R e.step e.tick = S3 at *
    generalize e.step.toNat = k at *
    go_wp2
    have hS2 : Hid (wc.drew.cell? ⟨gr, 4, none⟩ = some (.slice (some ⟨gt, 0, none⟩) R.S.length ct) ∧ wc.drew.cell? ⟨w.heap.size, 0, none⟩ = some (.int .i64 e.tick) ∧ wc.drew.cell? ⟨w.heap.size, 2, none⟩ = some (.int .i64 (k : Int))) := ⟨c4, b0, b2⟩
    have hS3 : Hid ((wc.setCell ⟨gt, k * 4, none⟩ (.int .i64 2)).drew.cell? ⟨gr, 4, none⟩ = some (.slice (some ⟨gt, 0, none⟩) R.S.length ct) ∧ (wc.setCell ⟨gt, k * 4, none⟩ (.int .i64 2)).drew.cell? ⟨w.heap.size, 0, none⟩ = some (.int .i64 e.tick) ∧ (wc.setCell ⟨gt, k * 4, none⟩ (.int .i64 2)).drew.cell? ⟨w.heap.size, 2, none⟩ = some (.int .i64 (k : Int))) := by
      have n1 := hP.out.at'.gr_ne
      have n2 := hGT.out
      refine ⟨?_, ?_, ?_⟩
      · rw [cell_of_block (Below.heap_setCell _ _ _ gr n1.symm)]; exact c4
      · rw [cell_of_block (Below.heap_setCell _ _ _ w.heap.size (show w.heap.size ≠ gt by omega))]; exact b0
      · rw [cell_of_block (Below.heap_setCell _ _ _ w.heap.size (show w.heap.size ≠ gt by omega))]; exact b2
    have hS4 : Hid (((wc.setCell ⟨gt, k * 4, none⟩ (.int .i64 2)).setCell ⟨gt, k * 4 + 3, none⟩ (.int .i64 e.tick)).drew.cell? ⟨gr, 4, none⟩ = some (.slice (some ⟨gt, 0, none⟩) R.S.length ct) ∧ ((wc.setCell ⟨gt, k * 4, none⟩ (.int .i64 2)).setCell ⟨gt, k * 4 + 3, none⟩ (.int .i64 e.tick)).drew.cell? ⟨w.heap.size, 0, none⟩ = some (.int .i64 e.tick) ∧ ((wc.setCell ⟨gt, k * 4, none⟩ (.int .i64 2)).setCell ⟨gt, k * 4 + 3, none⟩ (.int .i64 e.tick)).drew.cell? ⟨w.heap.size, 2, none⟩ = some (.int .i64 (k : Int))) := by
      have n1 := hP.out.at'.gr_ne
      have n2 := hGT.out
      refine ⟨?_, ?_, ?_⟩
      · rw [cell_of_block (set2_other gr n1.symm)]; exact c4
      · rw [cell_of_block (set2_other w.heap.size (by omega))]; exact b0
      · rw [cell_of_block (set2_other w.heap.size (by omega))]; exact b2
    clear hP
    go_region_held3 (fun V => V.cell? ⟨gr, 4, none⟩ = some (.slice (some ⟨gt, 0, none⟩) R.S.length ct) ∧ V.cell? ⟨w.heap.size, 0, none⟩ = some (.int .i64 e.tick) ∧ V.cell? ⟨w.heap.size, 2, none⟩ = some (.int .i64 (k : Int))) (first | (exact hS2.out) | (exact hS3.out) | (exact hS4.out)) (first | fail)
    generalize ((wc.setCell ⟨gt, k * 4, none⟩ (.int .i64 2)).setCell ⟨gt, k * 4 + 3, none⟩ (.int .i64 e.tick)).drew = W3 at *
    have KL := hide' (leftF H3'.out.at' hdl.out)
    have KL' : Hid (Calls Tryz.prog 39 #[.pointer (some ⟨gr, 0, none⟩)] W3 fun e w' => e = .returned (.tuple #[.int .i64 (lefA S3 : Nat), .int .i64 (lefB S3 : Nat)]) ∧ Below W3.heap.size W3 w') := KL.out
    have hnb : Hid (lefB S3 ≤ 1000) := Nat.le_trans (lefB_le S3) hdl.out
    clear KL hS2 hS3 hS4 hdl b0 b1 b2 b3 c4 c5 f5 u0 u1 u2 u3 t0 t3 g1
    go_wp2_with fail
    refine KL'.out.mono ?_
    rintro e4 w4 ⟨rfl, hb4⟩
    have H4 := hide' (H3'.out.over hb4)
    clear KL' H3' hb4
    generalize lefB S3 = nb at *
    by_cases h0 : nb = 0
    · subst h0
      have hz := hide' (z2.out (by first | trivial | rfl))
      clear z1 z2 hnb
      go_upto_region 17 with fail
      have c6a : w4.drew.cell? ⟨gr, 6, none⟩ = some (.slice (some ⟨g, 0, none⟩) (R.log.length + 1) cap) := H4.out.at'.c6
      have hS4 : Hid (w4.drew.cell? ⟨w.heap.size, 0, none⟩ = some (.int .i64 e.tick)) := H4.out.b0
      have KO : Hid (∀ V, Calls Tryz.prog 69 #[.int .i64 7, .int .i64 e.tick] V fun x w' => x = .returned (.agg #[.int .i64 e.tick, .int .i64 7, .int .i64 (-1), .int .i64 (-1)]) ∧ Below V.heap.size V w') := fun V => ofNoStepF 7 e.tick V
      have hBw := hide' (Nat.le_trans hB H4.out.fr.size)
      obtain ⟨M, hM⟩ : ∃ M, M = R.log ++ [e] := ⟨_, rfl⟩
      have hl5 : M.length ≤ 1000000 := by rw [hM]; simp; omega
      rw [← hM] at H4 hz
      clear hM
      refine wp_region_held_drew (S := (fun V => V.cell? ⟨w.heap.size, 0, none⟩ = some (.int .i64 e.tick))) (by kernel_rfl) ?_ (fun hHeld => ?_)
      · exact hS4.out
      refine wpAnyH_take (i := 0) (oi := { dst := some 77, op := Op.move (Operand.tmp 0), type := 29, pos := "run.go:110", after := #[], guard := none }) (v := ?_) rfl (by kernel_rfl) (by kernel_rfl) (by kernel_rfl) (fun _ _ _ h => h) (Or.inl ⟨by rfl, ?_⟩) (by assumption) ?_
      rotate_left
      · intro w hSw; (try dsimp only at hSw); go_simp <;> with_reducible rfl
      simp only [Act.put, List.setIfInBounds_toArray, List.set_cons_zero, List.set_cons_succ]
      refine wpAnyH_take (i := 1) (oi := { dst := some 78, op := Op.move (Operand.tmp 0), type := 29, pos := "run.go:110", after := #[], guard := none }) (v := ?_) rfl (by kernel_rfl) (by kernel_rfl) (by kernel_rfl) (fun _ _ _ h => h) (Or.inl ⟨by rfl, ?_⟩) (by assumption) ?_
      rotate_left
      · intro w hSw; (try dsimp only at hSw); go_simp <;> with_reducible rfl
      simp only [Act.put, List.setIfInBounds_toArray, List.set_cons_zero, List.set_cons_succ]
      refine wpAnyH_take (i := 2) (oi := { dst := some 79, op := Op.nilCheck (Operand.tmp 78), type := 0, pos := "run.go:110", after := #[{ on := 1, ground := Ground.data }], guard := none }) (v := ?_) rfl (by kernel_rfl) (by kernel_rfl) (by kernel_rfl) (fun _ _ _ h => h) (Or.inl ⟨by rfl, ?_⟩) (by assumption) ?_
      rotate_left
      · intro w hSw; (try dsimp only at hSw); go_simp <;> with_reducible rfl
      simp only [Act.put, List.setIfInBounds_toArray, List.set_cons_zero, List.set_cons_succ]
      refine wpAnyH_take (i := 3) (oi := { dst := some 80, op := Op.fieldAddr 106 (Operand.tmp 79) 4, type := 0, pos := "run.go:110", after := #[{ on := 2, ground := Ground.data }], guard := none }) (v := ?_) rfl (by kernel_rfl) (by kernel_rfl) (by kernel_rfl) (fun _ _ _ h => h) (Or.inl ⟨by rfl, ?_⟩) (by assumption) ?_
      rotate_left
      · intro w hSw; (try dsimp only at hSw); go_simp <;> with_reducible rfl
      simp only [Act.put, List.setIfInBounds_toArray, List.set_cons_zero, List.set_cons_succ]
      refine wpAnyH_take (i := 5) (oi := { dst := some 82, op := Op.fieldAddr 76 (Operand.tmp 3) 0, type := 0, pos := "run.go:110", after := #[], guard := none }) (v := ?_) rfl (by kernel_rfl) (by kernel_rfl) (by kernel_rfl) (fun _ _ _ h => h) (Or.inl ⟨by rfl, ?_⟩) (by assumption) ?_
      rotate_left
      · intro w hSw; (try dsimp only at hSw); go_simp <;> with_reducible rfl
      simp only [Act.put, List.setIfInBounds_toArray, List.set_cons_zero, List.set_cons_succ]
      refine wpAnyH_take (i := 6) (oi := { dst := some 83, op := Op.load 3 (Operand.tmp 82), type := 3, pos := "run.go:110", after := #[{ on := 5, ground := Ground.data }], guard := none }) (v := ?_) rfl (by kernel_rfl) (by kernel_rfl) (by kernel_rfl) (fun _ _ _ h => h) (Or.inl ⟨by rfl, ?_⟩) (by assumption) ?_
      rotate_left
      · intro w hSw; (try dsimp only at hSw); go_simp <;> with_reducible rfl
      simp only [Act.put, List.setIfInBounds_toArray, List.set_cons_zero, List.set_cons_succ]
      refine wpAnyH_ready (rs := [4, 7]) (by kernel_rfl) (by simp) ?_
      refine AllReadyH.cons (o := { dst := some 81, op := Op.load 26 (Operand.tmp 80), type := 26, pos := "run.go:110", after := #[{ on := 3, ground := Ground.data }], guard := none }) rfl (fun K hK => ?_) ?_
      · skip
        go_simp
        refine hK.out _ _ ?_ (fun hHeld => ?_)
        · exact hS4.out
        clear hK K
        try simp only [Act.put, List.setIfInBounds_toArray, List.set_cons_zero, List.set_cons_succ]
        refine wpAnyH_ready (rs := [7]) (by kernel_rfl) (by simp) ?_
        refine AllReadyH.cons (o := { dst := some 84, op := Op.call { callee := Callee.value (Operand.func 69), args := #[Operand.const (Value.int IntKind.i64 7), Operand.tmp 83], argTypes := #[3, 3] }, type := 76, pos := "run.go:110", after := #[{ on := 6, ground := Ground.data }], guard := none }) rfl (fun K hK => ?_) AllReadyH.nil
        go_simp
        refine (KO.out _).mono ?_; rintro e5 w5 ⟨rfl, hb5⟩; have H5 := hide' (H4.out.over (Below.trans ((Below.refl _ w4).drew) hb5)); have c6b := H5.out.at'.c6; have H5a := hide' (H5.out.over ((Below.refl _ w5).alloc (Nat.le_refl _) (.cells #[.int .i64 e.tick, .int .i64 7, .int .i64 (-1), .int .i64 (-1)] 76))); have c6c := H5a.out.at'.c6; have hs5 : B ≤ w5.heap.size := Nat.le_trans hBw.out hb5.size; clear hb5; (try dsimp only)
        refine hK.out _ _ ?_ (fun hHeld => ?_)
        · exact H5.out.b0
        clear hK K
        try simp only [Act.put, List.setIfInBounds_toArray, List.set_cons_zero, List.set_cons_succ]
        refine wpAnyH_ready (rs := [8]) (by kernel_rfl) (by simp) ?_
        refine AllReadyH.cons (o := { dst := some 85, op := Op.buildSlice 26 1 #[(0, Operand.tmp 84)], type := 26, pos := "run.go:110", after := #[{ on := 7, ground := Ground.data }], guard := none }) rfl (fun K hK => ?_) AllReadyH.nil
        go_simp
        refine hK.out _ _ ?_ (fun hHeld => ?_)
        · exact H5a.out.b0
        clear hK K
        try simp only [Act.put, List.setIfInBounds_toArray, List.set_cons_zero, List.set_cons_succ]
        refine wpAnyH_ready (rs := [9]) (by kernel_rfl) (by simp) ?_
        refine AllReadyH.cons (o := { dst := some 86, op := Op.call { callee := Callee.builtin Builtin.append, args := #[Operand.tmp 81, Operand.tmp 85], argTypes := #[26, 26] }, type := 26, pos := "run.go:110", after := #[{ on := 4, ground := Ground.data }, { on := 8, ground := Ground.data }, { on := 7, ground := Ground.chain }], guard := none }) rfl (fun K hK => ?_) AllReadyH.nil
        rw [if_pos (by rfl)]
        refine app1Lw elE (.tmp 81) (.tmp 85) rfl B w5 (.slice (some ⟨g, 0, none⟩) (R.log.length + 1) cap) M.length (cellsEv M) (evcells ⟨e.tick, 7, -1, -1⟩) rfl rfl H5.out.at'.lg rfl (evone _) hs5 hl5 ?_; intro g6 cap6 w6 hown hgr hnw; obtain ⟨d6, f6⟩ := H5.out.at'.grown6 hgr; have H6 := hide' (H5.out.app ⟨e.tick, 7, -1, -1⟩ hown hgr hnw hlt hGT.out); have hbx6 : Hid (w6.heap[w.heap.size]? = some (.cells #[.int .i64 e.tick, .int .i64 e.kind, .int .i64 e.step, .int .i64 e.user] 76 (0, 0))) := (hgr.block _ (Array.getElem?_eq_some_iff.1 H5.out.bx).1 fun e2 => H5.out.ne e2.symm).trans H5.out.bx; clear hown hgr; (try dsimp only)
        refine hK.out _ _ ?_ (fun hHeld => ?_)
        · exact (bx4 hbx6.out).1
        clear hK K
        try simp only [Act.put, List.setIfInBounds_toArray, List.set_cons_zero, List.set_cons_succ]
        refine wpAnyH_take (i := 10) (oi := { dst := some 87, op := Op.nilCheck (Operand.tmp 77), type := 0, pos := "run.go:110", after := #[{ on := 0, ground := Ground.data }, { on := 0, ground := Ground.phase }, { on := 1, ground := Ground.phase }, { on := 2, ground := Ground.phase }, { on := 3, ground := Ground.phase }, { on := 4, ground := Ground.phase }, { on := 5, ground := Ground.phase }, { on := 6, ground := Ground.phase }, { on := 7, ground := Ground.phase }, { on := 8, ground := Ground.phase }, { on := 9, ground := Ground.phase }], guard := none }) (v := ?_) rfl (by kernel_rfl) (by kernel_rfl) (by kernel_rfl) (fun _ _ _ h => h) (Or.inl ⟨by rfl, ?_⟩) (by assumption) ?_
        rotate_left
        · intro w hSw; (try dsimp only at hSw); go_simp <;> with_reducible rfl
        simp only [Act.put, List.setIfInBounds_toArray, List.set_cons_zero, List.set_cons_succ]
        refine wpAnyH_take (i := 11) (oi := { dst := some 88, op := Op.fieldAddr 106 (Operand.tmp 87) 4, type := 0, pos := "run.go:110", after := #[{ on := 10, ground := Ground.data }, { on := 0, ground := Ground.phase }, { on := 1, ground := Ground.phase }, { on := 2, ground := Ground.phase }, { on := 3, ground := Ground.phase }, { on := 4, ground := Ground.phase }, { on := 5, ground := Ground.phase }, { on := 6, ground := Ground.phase }, { on := 7, ground := Ground.phase }, { on := 8, ground := Ground.phase }, { on := 9, ground := Ground.phase }], guard := none }) (v := ?_) rfl (by kernel_rfl) (by kernel_rfl) (by kernel_rfl) (fun _ _ _ h => h) (Or.inl ⟨by rfl, ?_⟩) (by assumption) ?_
        rotate_left
        · intro w hSw; (try dsimp only at hSw); go_simp <;> with_reducible rfl
        simp only [Act.put, List.setIfInBounds_toArray, List.set_cons_zero, List.set_cons_succ]
        refine wpAnyH_ready (rs := [12]) (by kernel_rfl) (by simp) ?_
        refine AllReadyH.cons (o := { dst := none, op := Op.store 26 (Operand.tmp 88) (Operand.tmp 86), type := 0, pos := "run.go:110", after := #[{ on := 11, ground := Ground.data }, { on := 9, ground := Ground.data }, { on := 9, ground := Ground.chain }, { on := 0, ground := Ground.phase }, { on := 1, ground := Ground.phase }, { on := 2, ground := Ground.phase }, { on := 3, ground := Ground.phase }, { on := 4, ground := Ground.phase }, { on := 5, ground := Ground.phase }, { on := 6, ground := Ground.phase }, { on := 7, ground := Ground.phase }, { on := 8, ground := Ground.phase }, { on := 9, ground := Ground.phase }], guard := none }) rfl (fun K hK => ?_) AllReadyH.nil
        go_simp
        refine hK.out _ _ ?_ (fun hHeld => ?_)
        · exact H6.out.b0
        clear hK K
        try simp only [Act.put, List.setIfInBounds_toArray, List.set_cons_zero, List.set_cons_succ]
        refine wpAnyH_done (by kernel_rfl) ?_ _
        skip
        generalize w6.setCell ⟨gr, 6, none⟩ (.slice (some ⟨g6, 0, none⟩) (M.length + 1) cap6) = W7 at *
        obtain ⟨q1, q2, q3⟩ := H6.out.stat 3
        have hF := hide' (hR.out _ _ (by rw [hz.out]; exact q1) q2 q3)
        have c5 := H6.out.at'.c5
        have f5 := H6.out.at'.frz 5
        clear q1 q2 q3 hR hz H6 H5 H5a H4 c6a c6b c6c hHeld d6 f6 hbx6 KO
        go_wp2
        go_end0
        exact hF.out
      refine AllReadyH.cons (o := { dst := some 84, op := Op.call { callee := Callee.value (Operand.func 69), args := #[Operand.const (Value.int IntKind.i64 7), Operand.tmp 83], argTypes := #[3, 3] }, type := 76, pos := "run.go:110", after := #[{ on := 6, ground := Ground.data }], guard := none }) rfl (fun K hK => ?_) AllReadyH.nil
      go_simp
      refine (KO.out _).mono ?_; rintro e5 w5 ⟨rfl, hb5⟩; have H5 := hide' (H4.out.over (Below.trans ((Below.refl _ w4).drew) hb5)); have c6b := H5.out.at'.c6; have H5a := hide' (H5.out.over ((Below.refl _ w5).alloc (Nat.le_refl _) (.cells #[.int .i64 e.tick, .int .i64 7, .int .i64 (-1), .int .i64 (-1)] 76))); have c6c := H5a.out.at'.c6; have hs5 : B ≤ w5.heap.size := Nat.le_trans hBw.out hb5.size; clear hb5; (try dsimp only)
      refine hK.out _ _ ?_ (fun hHeld => ?_)
      · exact H5.out.b0
      clear hK K
      try simp only [Act.put, List.setIfInBounds_toArray, List.set_cons_zero, List.set_cons_succ]
      refine wpAnyH_ready (rs := [4, 8]) (by kernel_rfl) (by simp) ?_
      refine AllReadyH.cons (o := { dst := some 81, op := Op.load 26 (Operand.tmp 80), type := 26, pos := "run.go:110", after := #[{ on := 3, ground := Ground.data }], guard := none }) rfl (fun K hK => ?_) ?_
      · skip
        go_simp
        refine hK.out _ _ ?_ (fun hHeld => ?_)
        · exact H5.out.b0
        clear hK K
        try simp only [Act.put, List.setIfInBounds_toArray, List.set_cons_zero, List.set_cons_succ]
        refine wpAnyH_ready (rs := [8]) (by kernel_rfl) (by simp) ?_
        refine AllReadyH.cons (o := { dst := some 85, op := Op.buildSlice 26 1 #[(0, Operand.tmp 84)], type := 26, pos := "run.go:110", after := #[{ on := 7, ground := Ground.data }], guard := none }) rfl (fun K hK => ?_) AllReadyH.nil
        go_simp
        refine hK.out _ _ ?_ (fun hHeld => ?_)
        · exact H5a.out.b0
        clear hK K
        try simp only [Act.put, List.setIfInBounds_toArray, List.set_cons_zero, List.set_cons_succ]
        refine wpAnyH_ready (rs := [9]) (by kernel_rfl) (by simp) ?_
        refine AllReadyH.cons (o := { dst := some 86, op := Op.call { callee := Callee.builtin Builtin.append, args := #[Operand.tmp 81, Operand.tmp 85], argTypes := #[26, 26] }, type := 26, pos := "run.go:110", after := #[{ on := 4, ground := Ground.data }, { on := 8, ground := Ground.data }, { on := 7, ground := Ground.chain }], guard := none }) rfl (fun K hK => ?_) AllReadyH.nil
        rw [if_pos (by rfl)]
        refine app1Lw elE (.tmp 81) (.tmp 85) rfl B w5 (.slice (some ⟨g, 0, none⟩) (R.log.length + 1) cap) M.length (cellsEv M) (evcells ⟨e.tick, 7, -1, -1⟩) rfl rfl H5.out.at'.lg rfl (evone _) hs5 hl5 ?_; intro g6 cap6 w6 hown hgr hnw; obtain ⟨d6, f6⟩ := H5.out.at'.grown6 hgr; have H6 := hide' (H5.out.app ⟨e.tick, 7, -1, -1⟩ hown hgr hnw hlt hGT.out); have hbx6 : Hid (w6.heap[w.heap.size]? = some (.cells #[.int .i64 e.tick, .int .i64 e.kind, .int .i64 e.step, .int .i64 e.user] 76 (0, 0))) := (hgr.block _ (Array.getElem?_eq_some_iff.1 H5.out.bx).1 fun e2 => H5.out.ne e2.symm).trans H5.out.bx; clear hown hgr; (try dsimp only)
        refine hK.out _ _ ?_ (fun hHeld => ?_)
        · exact (bx4 hbx6.out).1
        clear hK K
        try simp only [Act.put, List.setIfInBounds_toArray, List.set_cons_zero, List.set_cons_succ]
        refine wpAnyH_take (i := 10) (oi := { dst := some 87, op := Op.nilCheck (Operand.tmp 77), type := 0, pos := "run.go:110", after := #[{ on := 0, ground := Ground.data }, { on := 0, ground := Ground.phase }, { on := 1, ground := Ground.phase }, { on := 2, ground := Ground.phase }, { on := 3, ground := Ground.phase }, { on := 4, ground := Ground.phase }, { on := 5, ground := Ground.phase }, { on := 6, ground := Ground.phase }, { on := 7, ground := Ground.phase }, { on := 8, ground := Ground.phase }, { on := 9, ground := Ground.phase }], guard := none }) (v := ?_) rfl (by kernel_rfl) (by kernel_rfl) (by kernel_rfl) (fun _ _ _ h => h) (Or.inl ⟨by rfl, ?_⟩) (by assumption) ?_
        rotate_left
        · intro w hSw; (try dsimp only at hSw); go_simp <;> with_reducible rfl
        simp only [Act.put, List.setIfInBounds_toArray, List.set_cons_zero, List.set_cons_succ]
        refine wpAnyH_take (i := 11) (oi := { dst := some 88, op := Op.fieldAddr 106 (Operand.tmp 87) 4, type := 0, pos := "run.go:110", after := #[{ on := 10, ground := Ground.data }, { on := 0, ground := Ground.phase }, { on := 1, ground := Ground.phase }, { on := 2, ground := Ground.phase }, { on := 3, ground := Ground.phase }, { on := 4, ground := Ground.phase }, { on := 5, ground := Ground.phase }, { on := 6, ground := Ground.phase }, { on := 7, ground := Ground.phase }, { on := 8, ground := Ground.phase }, { on := 9, ground := Ground.phase }], guard := none }) (v := ?_) rfl (by kernel_rfl) (by kernel_rfl) (by kernel_rfl) (fun _ _ _ h => h) (Or.inl ⟨by rfl, ?_⟩) (by assumption) ?_
        rotate_left
        · intro w hSw; (try dsimp only at hSw); go_simp <;> with_reducible rfl
        simp only [Act.put, List.setIfInBounds_toArray, List.set_cons_zero, List.set_cons_succ]
        refine wpAnyH_ready (rs := [12]) (by kernel_rfl) (by simp) ?_
        refine AllReadyH.cons (o := { dst := none, op := Op.store 26 (Operand.tmp 88) (Operand.tmp 86), type := 0, pos := "run.go:110", after := #[{ on := 11, ground := Ground.data }, { on := 9, ground := Ground.data }, { on := 9, ground := Ground.chain }, { on := 0, ground := Ground.phase }, { on := 1, ground := Ground.phase }, { on := 2, ground := Ground.phase }, { on := 3, ground := Ground.phase }, { on := 4, ground := Ground.phase }, { on := 5, ground := Ground.phase }, { on := 6, ground := Ground.phase }, { on := 7, ground := Ground.phase }, { on := 8, ground := Ground.phase }, { on := 9, ground := Ground.phase }], guard := none }) rfl (fun K hK => ?_) AllReadyH.nil
        go_simp
        refine hK.out _ _ ?_ (fun hHeld => ?_)
        · exact H6.out.b0
        clear hK K
        try simp only [Act.put, List.setIfInBounds_toArray, List.set_cons_zero, List.set_cons_succ]
        refine wpAnyH_done (by kernel_rfl) ?_ _
        skip
        generalize w6.setCell ⟨gr, 6, none⟩ (.slice (some ⟨g6, 0, none⟩) (M.length + 1) cap6) = W7 at *
        obtain ⟨q1, q2, q3⟩ := H6.out.stat 3
        have hF := hide' (hR.out _ _ (by rw [hz.out]; exact q1) q2 q3)
        have c5 := H6.out.at'.c5
        have f5 := H6.out.at'.frz 5
        clear q1 q2 q3 hR hz H6 H5 H5a H4 c6a c6b c6c hHeld d6 f6 hbx6 KO
        go_wp2
        go_end0
        exact hF.out
      refine AllReadyH.cons (o := { dst := some 85, op := Op.buildSlice 26 1 #[(0, Operand.tmp 84)], type := 26, pos := "run.go:110", after := #[{ on := 7, ground := Ground.data }], guard := none }) rfl (fun K hK => ?_) AllReadyH.nil
      go_simp
      refine hK.out _ _ ?_ (fun hHeld => ?_)
      · exact H5a.out.b0
      clear hK K
      try simp only [Act.put, List.setIfInBounds_toArray, List.set_cons_zero, List.set_cons_succ]
      refine wpAnyH_ready (rs := [4]) (by kernel_rfl) (by simp) ?_
      refine AllReadyH.cons (o := { dst := some 81, op := Op.load 26 (Operand.tmp 80), type := 26, pos := "run.go:110", after := #[{ on := 3, ground := Ground.data }], guard := none }) rfl (fun K hK => ?_) AllReadyH.nil
      go_simp
      refine hK.out _ _ ?_ (fun hHeld => ?_)
      · exact H5a.out.b0
      clear hK K
      try simp only [Act.put, List.setIfInBounds_toArray, List.set_cons_zero, List.set_cons_succ]
      refine wpAnyH_ready (rs := [9]) (by kernel_rfl) (by simp) ?_
      refine AllReadyH.cons (o := { dst := some 86, op := Op.call { callee := Callee.builtin Builtin.append, args := #[Operand.tmp 81, Operand.tmp 85], argTypes := #[26, 26] }, type := 26, pos := "run.go:110", after := #[{ on := 4, ground := Ground.data }, { on := 8, ground := Ground.data }, { on := 7, ground := Ground.chain }], guard := none }) rfl (fun K hK => ?_) AllReadyH.nil
      rw [if_pos (by rfl)]
      refine app1Lw elE (.tmp 81) (.tmp 85) rfl B w5 (.slice (some ⟨g, 0, none⟩) (R.log.length + 1) cap) M.length (cellsEv M) (evcells ⟨e.tick, 7, -1, -1⟩) rfl rfl H5.out.at'.lg rfl (evone _) hs5 hl5 ?_; intro g6 cap6 w6 hown hgr hnw; obtain ⟨d6, f6⟩ := H5.out.at'.grown6 hgr; have H6 := hide' (H5.out.app ⟨e.tick, 7, -1, -1⟩ hown hgr hnw hlt hGT.out); have hbx6 : Hid (w6.heap[w.heap.size]? = some (.cells #[.int .i64 e.tick, .int .i64 e.kind, .int .i64 e.step, .int .i64 e.user] 76 (0, 0))) := (hgr.block _ (Array.getElem?_eq_some_iff.1 H5.out.bx).1 fun e2 => H5.out.ne e2.symm).trans H5.out.bx; clear hown hgr; (try dsimp only)
      refine hK.out _ _ ?_ (fun hHeld => ?_)
      · exact (bx4 hbx6.out).1
      clear hK K
      try simp only [Act.put, List.setIfInBounds_toArray, List.set_cons_zero, List.set_cons_succ]
      refine wpAnyH_take (i := 10) (oi := { dst := some 87, op := Op.nilCheck (Operand.tmp 77), type := 0, pos := "run.go:110", after := #[{ on := 0, ground := Ground.data }, { on := 0, ground := Ground.phase }, { on := 1, ground := Ground.phase }, { on := 2, ground := Ground.phase }, { on := 3, ground := Ground.phase }, { on := 4, ground := Ground.phase }, { on := 5, ground := Ground.phase }, { on := 6, ground := Ground.phase }, { on := 7, ground := Ground.phase }, { on := 8, ground := Ground.phase }, { on := 9, ground := Ground.phase }], guard := none }) (v := ?_) rfl (by kernel_rfl) (by kernel_rfl) (by kernel_rfl) (fun _ _ _ h => h) (Or.inl ⟨by rfl, ?_⟩) (by assumption) ?_
      rotate_left
      · intro w hSw; (try dsimp only at hSw); go_simp <;> with_reducible rfl
      simp only [Act.put, List.setIfInBounds_toArray, List.set_cons_zero, List.set_cons_succ]
      refine wpAnyH_take (i := 11) (oi := { dst := some 88, op := Op.fieldAddr 106 (Operand.tmp 87) 4, type := 0, pos := "run.go:110", after := #[{ on := 10, ground := Ground.data }, { on := 0, ground := Ground.phase }, { on := 1, ground := Ground.phase }, { on := 2, ground := Ground.phase }, { on := 3, ground := Ground.phase }, { on := 4, ground := Ground.phase }, { on := 5, ground := Ground.phase }, { on := 6, ground := Ground.phase }, { on := 7, ground := Ground.phase }, { on := 8, ground := Ground.phase }, { on := 9, ground := Ground.phase }], guard := none }) (v := ?_) rfl (by kernel_rfl) (by kernel_rfl) (by kernel_rfl) (fun _ _ _ h => h) (Or.inl ⟨by rfl, ?_⟩) (by assumption) ?_
      rotate_left
      · intro w hSw; (try dsimp only at hSw); go_simp <;> with_reducible rfl
      simp only [Act.put, List.setIfInBounds_toArray, List.set_cons_zero, List.set_cons_succ]
      refine wpAnyH_ready (rs := [12]) (by kernel_rfl) (by simp) ?_
      refine AllReadyH.cons (o := { dst := none, op := Op.store 26 (Operand.tmp 88) (Operand.tmp 86), type := 0, pos := "run.go:110", after := #[{ on := 11, ground := Ground.data }, { on := 9, ground := Ground.data }, { on := 9, ground := Ground.chain }, { on := 0, ground := Ground.phase }, { on := 1, ground := Ground.phase }, { on := 2, ground := Ground.phase }, { on := 3, ground := Ground.phase }, { on := 4, ground := Ground.phase }, { on := 5, ground := Ground.phase }, { on := 6, ground := Ground.phase }, { on := 7, ground := Ground.phase }, { on := 8, ground := Ground.phase }, { on := 9, ground := Ground.phase }], guard := none }) rfl (fun K hK => ?_) AllReadyH.nil
      go_simp
      refine hK.out _ _ ?_ (fun hHeld => ?_)
      · exact H6.out.b0
      clear hK K
      try simp only [Act.put, List.setIfInBounds_toArray, List.set_cons_zero, List.set_cons_succ]
      refine wpAnyH_done (by kernel_rfl) ?_ _
      skip
      generalize w6.setCell ⟨gr, 6, none⟩ (.slice (some ⟨g6, 0, none⟩) (M.length + 1) cap6) = W7 at *
      obtain ⟨q1, q2, q3⟩ := H6.out.stat 3
      have hF := hide' (hR.out _ _ (by rw [hz.out]; exact q1) q2 q3)
      have c5 := H6.out.at'.c5
      have f5 := H6.out.at'.frz 5
      clear q1 q2 q3 hR hz H6 H5 H5a H4 c6a c6b c6c hHeld d6 f6 hbx6 KO
      go_wp2
      go_end0
      exact hF.out
    · have hz := hide' (z1.out h0)
      have hF := hide' (hR.out _ _ (by rw [hz.out]; exact H4.out.at') H4.out.fr H4.out.nw)
      have h0' : decide (0 < nb) = true := decide_eq_true (by omega)
      clear z1 z2 hz hR H4
      go_wp2
      go_end0
      exact hF.out
end
end Go.Proofs.YtahfobbiaimoiaaGreatDoor
