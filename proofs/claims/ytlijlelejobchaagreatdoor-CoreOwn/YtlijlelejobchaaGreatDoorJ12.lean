/- fits: is there a user of its own for each block? -/
import Derived.Test.YtlijlelejobchaaGreatDoorJ11
namespace Go.Proofs.YtlijlelejobchaaGreatDoor.S
open Go.RowKit Go.Shelf
theorem wp_store_rowO {P : Program} {o : Oper} {a : Act} {w w' : World} {K : Act → World → Prop} {Q : Exit → Act → World → Prop} (ty : TypeId) (x y : Operand) (ho : o.op = .store ty x y) (ad : Addr) (hx : a.eval x = .pointer (some ad)) (A : Array Value) (hy : a.eval y = .agg A)
    (hl : (storeVar ty ad (.agg A)).run P w = .ok () w') (hd : o.dst = none) (h : K a w') : o.wp P a w K Q := by
  unfold Oper.wp
  simp only [execOp, ho, hx, hy, Instr.storeAt, Instr.sureAddr, Sem.run_bind, Sem.run_pure, Result.andThen_ok, hl]
  show K (a.put o.dst undef) w'
  rw [hd]
  exact h
theorem wp_load_rowO {P : Program} {o : Oper} {a : Act} {w : World} {K : Act → World → Prop} {Q : Exit → Act → World → Prop} (ty : TypeId) (x : Operand) (ho : o.op = .load ty x) (ad : Addr) (hx : a.eval x = .pointer (some ad)) (A : Array Value)
    (hl : (loadVar ty ad).run P w = .ok (.agg A) w) (h : K (a.put o.dst (.agg A)) w) : o.wp P a w K Q := by
  unfold Oper.wp
  simp only [execOp, ho, hx, Instr.loadAt, Instr.sureAddr, Sem.run_bind, Sem.run_pure, Result.andThen_ok, hl]
  exact h
/-- What fits reads. -/
structure FtR (W : World) (gl U : Nat) (gm om cm n : Nat) (rv : Value) (F : Nat → Nat → Nat) (N : Nat → Nat) (gw a b c : Nat) (my : Nat → Nat) : Prop where
  lk : LkAt W gl U (.slice (some ⟨gm, om, none⟩) n cm) rv F N gw
  gg : GgAt W gw a b c
  ne : gl ≠ gw
  gml : gm ≠ gl
  gmw : gm ≠ gw
  hil : 1 ≤ gl
  hiw : 1 ≤ gw
  may : ∀ j, j < n → W.cell? ⟨gm, om + j, none⟩ = some (.int .u64 (my j : Int))
  wd : ∀ j, my j < 18446744073709551616
  tab : M.Tab W
theorem FtR.below {W W' : World} {gl U gm om cm n : Nat} {rv : Value} {F : Nat → Nat → Nat} {N : Nat → Nat} {gw a b c : Nat} {my : Nat → Nat} (h : FtR W gl U gm om cm n rv F N gw a b c my) (hb : Below W.heap.size W W') : FtR W' gl U gm om cm n rv F N gw a b c my :=
  ⟨h.lk.below hb, h.gg.below hb, h.ne, h.gml, h.gmw, h.hil, h.hiw, fun j hj => M.cell_over (h.may j hj) hb, h.wd, h.tab.over hb⟩
theorem FtR.fr {W W' : World} {gl U gm om cm n : Nat} {rv : Value} {F F' : Nat → Nat → Nat} {N N' : Nat → Nat} {gw a b c a' b' c' : Nat} {my : Nat → Nat} (h : FtR W gl U gm om cm n rv F N gw a b c my) (hf : M.Fr2 W W' gl gw) (hlk : LkAt W' gl U (.slice (some ⟨gm, om, none⟩) n cm) rv F' N' gw) (hgg : GgAt W' gw a' b' c') : FtR W' gl U gm om cm n rv F' N' gw a' b' c' my := by
  refine ⟨hlk, hgg, h.ne, h.gml, h.gmw, h.hil, h.hiw, fun j hj => ?_, h.wd, fun i hi => ?_, Nat.le_trans h.tab.2 hf.size⟩
  · have h1 := h.may j hj
    have h2 := hf.block gm (cell_lt h1) h.gml h.gmw
    simp only [World.cell?] at h1 ⊢
    rw [h2]; exact h1
  · have h1 := h.tab.1 i hi
    have h3 : 0 < 1 := by decide
    have h4 := h.hil
    have h5 := h.hiw
    have h2 := hf.block 0 (cell_lt h1) (by omega) (by omega)
    simp only [World.cell?] at h1 ⊢
    rw [h2]; exact h1
theorem lv_isRow : ∃ d, Tryz.prog.underlying 90 = some d ∧ d.isRow = true := by
  obtain ⟨fs, h⟩ := lv_under
  exact ⟨_, h, rfl⟩
theorem lv_len (f : Nat → Nat) (n : Nat) : (Tryz.prog.info? 90).map (·.size) = some (lvA f n).toList.length := by rw [lv_info, Array.length_toList, lvA_size]
theorem LvAt.zero (w : World) : LvAt (w.alloc (.cells #[.int .u64 0, .int .u64 0, .int .u64 0, .int .u64 0, .int .u64 0, .int .u64 0, .int .u64 0, .int .u64 0, .int .u64 0, .int .u64 0, .int .u64 0, .int .u64 0, .int .i64 0] 90)) w.heap.size (fun _ => 0) 0 := LvAt.start w (fun _ => 0) 0
set_option maxRecDepth 100000 in
set_option maxHeartbeats 4000000 in
theorem fitsF (W : World) (gl U gm om cm n : Nat) (rv : Value) (F : Nat → Nat → Nat) (N : Nat → Nat) (gw a b c : Nat) (my : Nat → Nat) (h : FtR W gl U gm om cm n rv F N gw a b c my) (gb ob : Nat) (t x : Nat) (cb : Nat) (hbc : W.cell? ⟨gb, ob + t, none⟩ = some (.int .i64 (x : Int))) (ht : t < n) (hn : n ≤ 12) (hx : x ≤ N t) (hN : N t ≤ t) (hF : ∀ r, F t r < 18446744073709551616) (hU : U ≤ 64) (hga : b ≤ 4611686018427387904) (hgc : c ≤ 4611686018427387904) :
    Calls Tryz.prog 84 #[.pointer (some ⟨gl, 0, none⟩), .slice (some ⟨gb, ob, none⟩) (t + 1) cb] W fun e w' => e = .returned (.bool (decide (M.sizeN (wiF (F t) (N t) x (my t)) (wiB (N t) x) = wiB (N t) x))) ∧ Hid (FtR w' gl U gm om cm n rv (M.upd F (t + 1) (wiF (F t) (N t) x (my t))) (M.upd N (t + 1) (wiB (N t) x)) gw a (b + U) (c + bitsN (wiF (F t) (N t) x (my t)) (wiB (N t) x) * wiB (N t) x) my) ∧ Hid (M.Fr2 W w' gl gw) := by
  obtain ⟨d, hud, hdd⟩ := lv_isRow
  have hlen := lv_len (F t) (N t)
  have KW := hide' (withF (F t) (N t) x (my t) (by omega) (by omega) (hF x) (h.wd t))
  have hSv : Hid (∀ V, Below W.heap.size W V → V.rangeAt gl (3 + t * 13) (lvA (F t) (N t)).toList ∧ V.cell? ⟨gb, ob + t, none⟩ = some (.int .i64 (x : Int)) ∧ V.cell? ⟨gl, 1, none⟩ = some (.slice (some ⟨gm, om, none⟩) n cm) ∧ V.cell? ⟨gm, om + t, none⟩ = some (.int .u64 (my t : Int)) ∧ Below W.heap.size W V) := fun V hV => ⟨(h.below hV).lk.range (by omega), M.cell_over hbc hV, (h.below hV).lk.c1, (h.below hV).may t ht, hV⟩
  have hd0 : Hid (Below W.heap.size W W.drew) := (Below.refl _ _).drew
  have h' := hide' h
  have hwN : wiB (N t) x ≤ 12 := by unfold wiB; split <;> omega
  have hwF : Hid (∀ r, wiF (F t) (N t) x (my t) r < 18446744073709551616) := fun r => by
    have h1 := h.wd t
    unfold wiF
    split
    · by_cases e : r = x
      · rw [e, M.upd_same]; exact h1
      · rw [M.upd_ne _ _ e]; exact hF r
    · by_cases e : r = x
      · rw [e, M.upd_same]; exact Nat.lt_of_le_of_lt Nat.and_le_left (hF x)
      · rw [M.upd_ne _ _ e]; exact hF r
  have htI : ¬ ((t : Int)) < 0 := by omega
  have ht13 : (t : Int) < 13 := by omega
  have htn : (t : Int) < (n : Int) := by omega
  have htt : (t : Int) < (t : Int) + 1 := by omega
  have hS0 := hSv.out _ hd0.out
  clear h hbc hF
  rw [show lvA (F t) (N t) = (lvA (F t) (N t)).toList.toArray from Array.toArray_toList.symm] at KW
  generalize hcs : (lvA (F t) (N t)).toList = cs at *
  generalize hf2 : wiF (F t) (N t) x (my t) = f2 at *
  generalize hn2 : wiB (N t) x = n2 at *
  clear hcs
  have Hf2 := hide' hf2
  have Hn2 := hide' hn2
  clear hf2 hn2
  go_enter Tryz.func84, Tryz.ntmps84
  go_upto_region 2 with fail
  go_cut [6] from 11 to 28 (fun s wx => ∃ g6, s = .pointer (some ⟨g6, 0, none⟩) ∧ Hid (LvAt wx g6 f2 n2) ∧ W.heap.size ≤ g6 ∧ Hid (Below W.heap.size W wx))
  case first =>
    as_aux_lemma =>
    refine wp_region_held_drew (S := (fun V => V.rangeAt gl (3 + t * 13) cs ∧ V.cell? ⟨gb, ob + t, none⟩ = some (.int .i64 (x : Int)) ∧ V.cell? ⟨gl, 1, none⟩ = some (.slice (some ⟨gm, om, none⟩) n cm) ∧ V.cell? ⟨gm, om + t, none⟩ = some (.int .u64 (my t : Int)) ∧ Below W.heap.size W V)) (by kernel_rfl) ?_ (fun hHeld => ?_)
    · exact hS0
    refine wpAnyH_take (i := 0) (oi := { dst := some 11, op := Op.move (Operand.tmp 0), type := 83, pos := "look.go:73", after := #[], guard := none }) (v := ?_) rfl (by kernel_rfl) (by kernel_rfl) (by kernel_rfl) (fun _ _ _ h => h) (Or.inl ⟨by rfl, ?_⟩) (by assumption) ?_
    rotate_left
    · intro w hSw; (try dsimp only at hSw); go_simp <;> with_reducible rfl
    simp only [Act.put, List.setIfInBounds_toArray, List.set_cons_zero, List.set_cons_succ]
    refine wpAnyH_take (i := 1) (oi := { dst := some 12, op := Op.move (Operand.tmp 5), type := 3, pos := "look.go:73", after := #[], guard := none }) (v := ?_) rfl (by kernel_rfl) (by kernel_rfl) (by kernel_rfl) (fun _ _ _ h => h) (Or.inl ⟨by rfl, ?_⟩) (by assumption) ?_
    rotate_left
    · intro w hSw; (try dsimp only at hSw); go_simp <;> with_reducible rfl
    simp only [Act.put, List.setIfInBounds_toArray, List.set_cons_zero, List.set_cons_succ]
    refine wpAnyH_take (i := 2) (oi := { dst := some 13, op := Op.nilCheck (Operand.tmp 11), type := 0, pos := "look.go:73", after := #[{ on := 0, ground := Ground.data }], guard := none }) (v := ?_) rfl (by kernel_rfl) (by kernel_rfl) (by kernel_rfl) (fun _ _ _ h => h) (Or.inl ⟨by rfl, ?_⟩) (by assumption) ?_
    rotate_left
    · intro w hSw; (try dsimp only at hSw); go_simp <;> with_reducible rfl
    simp only [Act.put, List.setIfInBounds_toArray, List.set_cons_zero, List.set_cons_succ]
    refine wpAnyH_take (i := 3) (oi := { dst := some 14, op := Op.fieldAddr 94 (Operand.tmp 13) 3, type := 0, pos := "look.go:73", after := #[{ on := 2, ground := Ground.data }], guard := none }) (v := ?_) rfl (by kernel_rfl) (by kernel_rfl) (by kernel_rfl) (fun _ _ _ h => h) (Or.inl ⟨by rfl, ?_⟩) (by assumption) ?_
    rotate_left
    · intro w hSw; (try dsimp only at hSw); go_simp <;> with_reducible rfl
    simp only [Act.put, List.setIfInBounds_toArray, List.set_cons_zero, List.set_cons_succ]
    refine wpAnyH_take (i := 4) (oi := { dst := some 15, op := Op.indexAddr 92 (Operand.tmp 14) (Operand.tmp 12), type := 0, pos := "look.go:73", after := #[{ on := 3, ground := Ground.data }, { on := 1, ground := Ground.data }], guard := none }) (v := ?_) rfl (by kernel_rfl) (by kernel_rfl) (by kernel_rfl) (fun _ _ _ h => h) (Or.inl ⟨by rfl, ?_⟩) (by assumption) ?_
    rotate_left
    · intro w hSw; (try dsimp only at hSw); go_simp <;> with_reducible rfl
    simp only [Act.put, List.setIfInBounds_toArray, List.set_cons_zero, List.set_cons_succ]
    refine' wpAnyH_take (i := 5) (oi := { dst := some 16, op := Op.load 90 (Operand.tmp 15), type := 90, pos := "look.go:73", after := #[{ on := 4, ground := Ground.data }], guard := none }) (v := _) rfl (by kernel_rfl) (by kernel_rfl) (by kernel_rfl) (fun _ _ _ h => h) (yieldsIf_load_mid (by rfl) _ _ rfl _ _ rfl cs d (fun V h => h.1) hud hdd hlen) (by assumption) ?_
    simp only [Act.put, List.setIfInBounds_toArray, List.set_cons_zero, List.set_cons_succ]
    refine wpAnyH_take (i := 6) (oi := { dst := some 17, op := Op.move (Operand.tmp 1), type := 23, pos := "look.go:73", after := #[], guard := none }) (v := ?_) rfl (by kernel_rfl) (by kernel_rfl) (by kernel_rfl) (fun _ _ _ h => h) (Or.inl ⟨by rfl, ?_⟩) (by assumption) ?_
    rotate_left
    · intro w hSw; (try dsimp only at hSw); go_simp <;> with_reducible rfl
    simp only [Act.put, List.setIfInBounds_toArray, List.set_cons_zero, List.set_cons_succ]
    refine wpAnyH_take (i := 7) (oi := { dst := some 18, op := Op.move (Operand.tmp 5), type := 3, pos := "look.go:73", after := #[], guard := none }) (v := ?_) rfl (by kernel_rfl) (by kernel_rfl) (by kernel_rfl) (fun _ _ _ h => h) (Or.inl ⟨by rfl, ?_⟩) (by assumption) ?_
    rotate_left
    · intro w hSw; (try dsimp only at hSw); go_simp <;> with_reducible rfl
    simp only [Act.put, List.setIfInBounds_toArray, List.set_cons_zero, List.set_cons_succ]
    refine wpAnyH_take (i := 8) (oi := { dst := some 19, op := Op.indexAddr 23 (Operand.tmp 17) (Operand.tmp 18), type := 0, pos := "look.go:73", after := #[{ on := 6, ground := Ground.data }, { on := 7, ground := Ground.data }], guard := none }) (v := ?_) rfl (by kernel_rfl) (by kernel_rfl) (by kernel_rfl) (fun _ _ _ h => h) (Or.inl ⟨by rfl, ?_⟩) (by assumption) ?_
    rotate_left
    · intro w hSw; (try dsimp only at hSw); go_simp <;> with_reducible rfl
    simp only [Act.put, List.setIfInBounds_toArray, List.set_cons_zero, List.set_cons_succ]
    refine wpAnyH_take (i := 9) (oi := { dst := some 20, op := Op.load 3 (Operand.tmp 19), type := 3, pos := "look.go:73", after := #[{ on := 8, ground := Ground.data }], guard := none }) (v := ?_) rfl (by kernel_rfl) (by kernel_rfl) (by kernel_rfl) (fun _ _ _ h => h) (Or.inl ⟨by rfl, ?_⟩) (by assumption) ?_
    rotate_left
    · intro w hSw; (try dsimp only at hSw); go_simp <;> with_reducible rfl
    simp only [Act.put, List.setIfInBounds_toArray, List.set_cons_zero, List.set_cons_succ]
    refine wpAnyH_take (i := 10) (oi := { dst := some 21, op := Op.move (Operand.tmp 0), type := 83, pos := "look.go:73", after := #[], guard := none }) (v := ?_) rfl (by kernel_rfl) (by kernel_rfl) (by kernel_rfl) (fun _ _ _ h => h) (Or.inl ⟨by rfl, ?_⟩) (by assumption) ?_
    rotate_left
    · intro w hSw; (try dsimp only at hSw); go_simp <;> with_reducible rfl
    simp only [Act.put, List.setIfInBounds_toArray, List.set_cons_zero, List.set_cons_succ]
    refine wpAnyH_take (i := 11) (oi := { dst := some 22, op := Op.nilCheck (Operand.tmp 21), type := 0, pos := "look.go:73", after := #[{ on := 10, ground := Ground.data }], guard := none }) (v := ?_) rfl (by kernel_rfl) (by kernel_rfl) (by kernel_rfl) (fun _ _ _ h => h) (Or.inl ⟨by rfl, ?_⟩) (by assumption) ?_
    rotate_left
    · intro w hSw; (try dsimp only at hSw); go_simp <;> with_reducible rfl
    simp only [Act.put, List.setIfInBounds_toArray, List.set_cons_zero, List.set_cons_succ]
    refine wpAnyH_take (i := 12) (oi := { dst := some 23, op := Op.fieldAddr 94 (Operand.tmp 22) 1, type := 0, pos := "look.go:73", after := #[{ on := 11, ground := Ground.data }], guard := none }) (v := ?_) rfl (by kernel_rfl) (by kernel_rfl) (by kernel_rfl) (fun _ _ _ h => h) (Or.inl ⟨by rfl, ?_⟩) (by assumption) ?_
    rotate_left
    · intro w hSw; (try dsimp only at hSw); go_simp <;> with_reducible rfl
    simp only [Act.put, List.setIfInBounds_toArray, List.set_cons_zero, List.set_cons_succ]
    refine wpAnyH_take (i := 13) (oi := { dst := some 24, op := Op.load 22 (Operand.tmp 23), type := 22, pos := "look.go:73", after := #[{ on := 12, ground := Ground.data }], guard := none }) (v := ?_) rfl (by kernel_rfl) (by kernel_rfl) (by kernel_rfl) (fun _ _ _ h => h) (Or.inl ⟨by rfl, ?_⟩) (by assumption) ?_
    rotate_left
    · intro w hSw; (try dsimp only at hSw); go_simp <;> with_reducible rfl
    simp only [Act.put, List.setIfInBounds_toArray, List.set_cons_zero, List.set_cons_succ]
    refine wpAnyH_take (i := 14) (oi := { dst := some 25, op := Op.move (Operand.tmp 5), type := 3, pos := "look.go:73", after := #[], guard := none }) (v := ?_) rfl (by kernel_rfl) (by kernel_rfl) (by kernel_rfl) (fun _ _ _ h => h) (Or.inl ⟨by rfl, ?_⟩) (by assumption) ?_
    rotate_left
    · intro w hSw; (try dsimp only at hSw); go_simp <;> with_reducible rfl
    simp only [Act.put, List.setIfInBounds_toArray, List.set_cons_zero, List.set_cons_succ]
    refine wpAnyH_take (i := 15) (oi := { dst := some 26, op := Op.indexAddr 22 (Operand.tmp 24) (Operand.tmp 25), type := 0, pos := "look.go:73", after := #[{ on := 13, ground := Ground.data }, { on := 14, ground := Ground.data }], guard := none }) (v := ?_) rfl (by kernel_rfl) (by kernel_rfl) (by kernel_rfl) (fun _ _ _ h => h) (Or.inl ⟨by rfl, ?_⟩) (by assumption) ?_
    rotate_left
    · intro w hSw; (try dsimp only at hSw); go_simp <;> with_reducible rfl
    simp only [Act.put, List.setIfInBounds_toArray, List.set_cons_zero, List.set_cons_succ]
    refine wpAnyH_take (i := 16) (oi := { dst := some 27, op := Op.load 55 (Operand.tmp 26), type := 55, pos := "look.go:73", after := #[{ on := 15, ground := Ground.data }], guard := none }) (v := ?_) rfl (by kernel_rfl) (by kernel_rfl) (by kernel_rfl) (fun _ _ _ h => h) (Or.inl ⟨by rfl, ?_⟩) (by assumption) ?_
    rotate_left
    · intro w hSw; (try dsimp only at hSw); go_simp <;> with_reducible rfl
    simp only [Act.put, List.setIfInBounds_toArray, List.set_cons_zero, List.set_cons_succ]
    refine wpAnyH_ready (rs := [17, 18]) (by kernel_rfl) (by simp) ?_
    refine AllReadyH.cons (o := { dst := some 28, op := Op.call { callee := Callee.value (Operand.func 95), args := #[Operand.tmp 16, Operand.tmp 20, Operand.tmp 27], argTypes := #[90, 3, 55] }, type := 90, pos := "look.go:73", after := #[{ on := 5, ground := Ground.data }, { on := 9, ground := Ground.data }, { on := 16, ground := Ground.data }], guard := none }) rfl (fun K hK => ?_) ?_
    · skip
      go_simp
      go_at_call 95; refine (KW.out _).mono ?_; rintro e w3 ⟨rfl, hb3⟩; have hB3 : Below W.heap.size W w3 := Below.trans (hd0.out) (hb3.mono (Below.size (hd0.out))); (try dsimp only)
      refine hK.out _ _ ?_ (fun hHeld => ?_)
      · exact hSv.out _ hB3
      clear hK K
      try simp only [Act.put, List.setIfInBounds_toArray, List.set_cons_zero, List.set_cons_succ]
      refine wpAnyH_ready (rs := [18]) (by kernel_rfl) (by simp) ?_
      refine AllReadyH.cons (o := { dst := some 6, op := Op.alloc 90, type := 0, pos := "look.go:73", after := #[], guard := none }) rfl (fun K hK => ?_) AllReadyH.nil
      go_simp
      have hLz := LvAt.zero w3; have hG9 : W.heap.size ≤ w3.heap.size := hB3.size; have hBz := hB3.alloc hB3.size (.cells #[.int .u64 0, .int .u64 0, .int .u64 0, .int .u64 0, .int .u64 0, .int .u64 0, .int .u64 0, .int .u64 0, .int .u64 0, .int .u64 0, .int .u64 0, .int .u64 0, .int .i64 0] 90)
      refine hK.out _ _ ?_ (fun hHeld => ?_)
      · exact hSv.out _ hBz
      clear hK K
      try simp only [Act.put, List.setIfInBounds_toArray, List.set_cons_zero, List.set_cons_succ]
      refine wpAnyH_ready (rs := [19]) (by kernel_rfl) (by simp) ?_
      refine AllReadyH.cons (o := { dst := none, op := Op.store 90 (Operand.tmp 6) (Operand.tmp 28), type := 0, pos := "look.go:73", after := #[{ on := 18, ground := Ground.data }, { on := 17, ground := Ground.data }, { on := 17, ground := Ground.chain }, { on := 0, ground := Ground.phase }, { on := 1, ground := Ground.phase }, { on := 2, ground := Ground.phase }, { on := 3, ground := Ground.phase }, { on := 4, ground := Ground.phase }, { on := 5, ground := Ground.phase }, { on := 6, ground := Ground.phase }, { on := 7, ground := Ground.phase }, { on := 8, ground := Ground.phase }, { on := 9, ground := Ground.phase }, { on := 10, ground := Ground.phase }, { on := 11, ground := Ground.phase }, { on := 12, ground := Ground.phase }, { on := 13, ground := Ground.phase }, { on := 14, ground := Ground.phase }, { on := 15, ground := Ground.phase }, { on := 16, ground := Ground.phase }, { on := 17, ground := Ground.phase }, { on := 18, ground := Ground.phase }], guard := none }) rfl (fun K hK => ?_) AllReadyH.nil
      rw [if_pos (by rfl)]
      refine wp_store_rowO 90 _ _ rfl ⟨_, 0, none⟩ rfl (lvA f2 n2) rfl hLz.store rfl ?_
      refine hK.out _ _ ?_ (fun hHeld => ?_)
      · exact hSv.out _ (below_setRow hBz hG9 _)
      clear hK K
      try simp only [Act.put, List.setIfInBounds_toArray, List.set_cons_zero, List.set_cons_succ]
      refine wpAnyH_done (by kernel_rfl) ?_ _
      skip
      go_wp2
      go_meet
      exact ⟨_, rfl, hLz.row, hG9, below_setRow hBz hG9 _⟩
    refine AllReadyH.cons (o := { dst := some 6, op := Op.alloc 90, type := 0, pos := "look.go:73", after := #[], guard := none }) rfl (fun K hK => ?_) AllReadyH.nil
    go_simp
    have hL9 := LvAt.zero W.drew
    refine hK.out _ _ ?_ (fun hHeld => ?_)
    · exact hSv.out _ (hd0.out.alloc (Nat.le_refl _) _)
    clear hK K
    try simp only [Act.put, List.setIfInBounds_toArray, List.set_cons_zero, List.set_cons_succ]
    refine wpAnyH_ready (rs := [17]) (by kernel_rfl) (by simp) ?_
    refine AllReadyH.cons (o := { dst := some 28, op := Op.call { callee := Callee.value (Operand.func 95), args := #[Operand.tmp 16, Operand.tmp 20, Operand.tmp 27], argTypes := #[90, 3, 55] }, type := 90, pos := "look.go:73", after := #[{ on := 5, ground := Ground.data }, { on := 9, ground := Ground.data }, { on := 16, ground := Ground.data }], guard := none }) rfl (fun K hK => ?_) AllReadyH.nil
    go_simp
    go_at_call 95; refine (KW.out _).mono ?_; rintro e w3 ⟨rfl, hb3⟩; have hB3 : Below W.heap.size W w3 := Below.trans (hd0.out.alloc (Nat.le_refl _) _) (hb3.mono (Below.size (hd0.out.alloc (Nat.le_refl _) _))); have hLz := hL9.below hb3; have hG9 : W.heap.size ≤ W.heap.size := Nat.le_refl _; have hBz := hB3; (try dsimp only)
    refine hK.out _ _ ?_ (fun hHeld => ?_)
    · exact hSv.out _ hB3
    clear hK K
    try simp only [Act.put, List.setIfInBounds_toArray, List.set_cons_zero, List.set_cons_succ]
    refine wpAnyH_ready (rs := [19]) (by kernel_rfl) (by simp) ?_
    refine AllReadyH.cons (o := { dst := none, op := Op.store 90 (Operand.tmp 6) (Operand.tmp 28), type := 0, pos := "look.go:73", after := #[{ on := 18, ground := Ground.data }, { on := 17, ground := Ground.data }, { on := 17, ground := Ground.chain }, { on := 0, ground := Ground.phase }, { on := 1, ground := Ground.phase }, { on := 2, ground := Ground.phase }, { on := 3, ground := Ground.phase }, { on := 4, ground := Ground.phase }, { on := 5, ground := Ground.phase }, { on := 6, ground := Ground.phase }, { on := 7, ground := Ground.phase }, { on := 8, ground := Ground.phase }, { on := 9, ground := Ground.phase }, { on := 10, ground := Ground.phase }, { on := 11, ground := Ground.phase }, { on := 12, ground := Ground.phase }, { on := 13, ground := Ground.phase }, { on := 14, ground := Ground.phase }, { on := 15, ground := Ground.phase }, { on := 16, ground := Ground.phase }, { on := 17, ground := Ground.phase }, { on := 18, ground := Ground.phase }], guard := none }) rfl (fun K hK => ?_) AllReadyH.nil
    rw [if_pos (by rfl)]
    refine wp_store_rowO 90 _ _ rfl ⟨_, 0, none⟩ rfl (lvA f2 n2) rfl hLz.store rfl ?_
    refine hK.out _ _ ?_ (fun hHeld => ?_)
    · exact hSv.out _ (below_setRow hBz hG9 _)
    clear hK K
    try simp only [Act.put, List.setIfInBounds_toArray, List.set_cons_zero, List.set_cons_succ]
    refine wpAnyH_done (by kernel_rfl) ?_ _
    skip
    go_wp2
    go_meet
    exact ⟨_, rfl, hLz.row, hG9, below_setRow hBz hG9 _⟩
  case rest =>
  obtain ⟨g6, rfl, hL6, hg6, hB6⟩ := hcut
  clear KW hSv hd0 hS0 hud hdd hlen htn htt ht13
  have h6 := hide' (h'.out.below hB6.out)
  have hgl := h6.out.lk.lt
  have hgw := h6.out.gg.lt
  have hl6 := hL6.out.lt
  have hz1 := h'.out.lk.lt
  have hz2 := h'.out.gg.lt
  have hne := h6.out.ne
  have c172 := h6.out.lk.cw
  have cu := h6.out.lk.c0
  have cp := h6.out.gg.c1
  have fp := h6.out.gg.frz 1
  have hwu : IntKind.u64.wrap (U : Int) = (U : Int) := by rw [IntKind.wrap_u64]; omega
  have hwp : IntKind.u64.wrap ((b : Int) + (U : Int)) = ((b + U : Nat) : Int) := by rw [IntKind.wrap_u64]; omega
  have hF6 : Hid (M.Fr2 W wc gl gw) := M.Fr2.below hB6.out
  clear hB6
  go_upto_region 3 with fail
  go_cut [7] from 29 to 43 (fun s wx => s = undef ∧ Hid (FtR wx gl U gm om cm n rv F N gw a (b + U) c my) ∧ Hid (LvAt wx g6 f2 n2) ∧ Hid (M.Fr2 W wx gl gw))
  case first =>
    as_aux_lemma =>
    go_region
    all_goals
      go_wp2
      go_meet
      have hfr : M.Fr2 wc (wc.drew.setCell ⟨gw, 1, none⟩ (.int .u64 ((b + U : Nat) : Int))) gl gw := (M.Fr2.below ((Below.refl _ wc).drew)).trans (M.Fr2.setB _ gl gw 1 _)
      exact ⟨rfl, h6.out.fr hfr (h6.out.lk.of (Below.heap_setCell _ _ _ _ hne)) (h6.out.gg.s1 (b + U)), hL6.out.of (Below.heap_setCell _ _ _ _ (by show g6 ≠ gw; omega)), hF6.out.trans hfr⟩
  case rest =>
  clear h6 hL6 hF6 c172 cu cp fp hwu hwp hgl hgw hl6
  obtain ⟨rfl, h7, hL7, hF7⟩ := hcut
  have hgl := h7.out.lk.lt
  have hgw := h7.out.gg.lt
  have hl7 := hL7.out.lt
  obtain ⟨t1, ht1⟩ : ∃ t1, t1 = t + 1 := ⟨_, rfl⟩
  have hw1 : IntKind.i64.wrap ((t : Int) + 1) = (t1 : Int) := by rw [IntKind.wrap_i64]; omega
  have hwt : (t1 : Int) < 13 := by omega
  have hwt0 : (0 : Int) ≤ (t1 : Int) := by omega
  have Ht1 := hide' ht1
  clear ht1
  have hL8 : Hid (LvAt wc.drew g6 f2 n2) := hL7.out.below ((Below.refl _ _).drew)
  have hst4 : Hid (∀ V, V = wc.drew → (storeVar 90 ⟨gl, 3 + t1 * 13, none⟩ (.agg (lvA f2 n2))).run Tryz.prog V = .ok () (V.setCells gl (3 + t1 * 13) (lvA f2 n2).toList)) := fun V e => by
    subst e
    exact run_storeVar_mid _ gl _ _ (lvA f2 n2) (by rw [lvA_size, World.there_drew]; exact h7.out.lk.there (by omega)) (by rw [lv_info, lvA_size]) (lvA_one f2 n2)
  have hfr4 : Hid (M.Fr2 wc (wc.drew.setCells gl (3 + t1 * 13) (lvA f2 n2).toList) gl gw) := ⟨(below_setCells (Nat.le_refl gl) _ _ _ ((Below.refl gl wc).drew)).os, (below_setCells (Nat.le_refl gl) _ _ _ ((Below.refl gl wc).drew)).tape, (below_setCells (Nat.le_refl gl) _ _ _ ((Below.refl gl wc).drew)).output, (below_setCells (Nat.le_refl gl) _ _ _ ((Below.refl gl wc).drew)).size, fun k _ h1 _ => heap_setCells_ne gl _ _ _ k h1⟩
  have hfin4 : Hid (FtR (wc.drew.setCells gl (3 + t1 * 13) (lvA f2 n2).toList) gl U gm om cm n rv (M.upd F t1 f2) (M.upd N t1 n2) gw a (b + U) c my ∧ LvAt (wc.drew.setCells gl (3 + t1 * 13) (lvA f2 n2).toList) g6 f2 n2 ∧ M.Fr2 W (wc.drew.setCells gl (3 + t1 * 13) (lvA f2 n2).toList) gl gw) :=
    ⟨h7.out.fr hfr4.out ((h7.out.lk.below ((Below.refl _ wc).drew)).setL (by omega) f2 n2) (h7.out.gg.of (heap_setCells_ne gl _ _ _ gw (fun e => h7.out.ne e.symm))), hL7.out.of (heap_setCells_ne gl _ _ _ g6 (by omega)), hF7.out.trans hfr4.out⟩
  go_upto_region 4 with fail
  go_cut [7] from 44 to 50 (fun s wx => s = undef ∧ Hid (FtR wx gl U gm om cm n rv (M.upd F t1 f2) (M.upd N t1 n2) gw a (b + U) c my) ∧ Hid (LvAt wx g6 f2 n2) ∧ Hid (M.Fr2 W wx gl gw))
  case first =>
    as_aux_lemma =>
    refine wp_region_held_drew (S := (fun _ => True)) (by kernel_rfl) ?_ (fun hHeld => ?_)
    · trivial
    refine wpAnyH_take (i := 0) (oi := { dst := some 44, op := Op.move (Operand.tmp 0), type := 83, pos := "look.go:75", after := #[], guard := none }) (v := ?_) rfl (by kernel_rfl) (by kernel_rfl) (by kernel_rfl) (fun _ _ _ h => h) (Or.inl ⟨by rfl, ?_⟩) (by assumption) ?_
    rotate_left
    · intro w hSw; (try dsimp only at hSw); go_simp <;> with_reducible rfl
    simp only [Act.put, List.setIfInBounds_toArray, List.set_cons_zero, List.set_cons_succ]
    refine wpAnyH_take (i := 1) (oi := { dst := some 45, op := Op.move (Operand.tmp 5), type := 3, pos := "look.go:75", after := #[], guard := none }) (v := ?_) rfl (by kernel_rfl) (by kernel_rfl) (by kernel_rfl) (fun _ _ _ h => h) (Or.inl ⟨by rfl, ?_⟩) (by assumption) ?_
    rotate_left
    · intro w hSw; (try dsimp only at hSw); go_simp <;> with_reducible rfl
    simp only [Act.put, List.setIfInBounds_toArray, List.set_cons_zero, List.set_cons_succ]
    refine wpAnyH_take (i := 2) (oi := { dst := some 46, op := Op.binOp BinOp.add 3 (Operand.tmp 45) (Operand.const (Value.int IntKind.i64 1)) 3, type := 3, pos := "look.go:75", after := #[{ on := 1, ground := Ground.data }], guard := none }) (v := ?_) rfl (by kernel_rfl) (by kernel_rfl) (by kernel_rfl) (fun _ _ _ h => h) (Or.inl ⟨by rfl, ?_⟩) (by assumption) ?_
    rotate_left
    · intro w hSw; (try dsimp only at hSw); go_simp <;> with_reducible rfl
    simp only [Act.put, List.setIfInBounds_toArray, List.set_cons_zero, List.set_cons_succ]
    refine wpAnyH_take (i := 4) (oi := { dst := some 48, op := Op.nilCheck (Operand.tmp 44), type := 0, pos := "look.go:75", after := #[{ on := 0, ground := Ground.data }], guard := none }) (v := ?_) rfl (by kernel_rfl) (by kernel_rfl) (by kernel_rfl) (fun _ _ _ h => h) (Or.inl ⟨by rfl, ?_⟩) (by assumption) ?_
    rotate_left
    · intro w hSw; (try dsimp only at hSw); go_simp <;> with_reducible rfl
    simp only [Act.put, List.setIfInBounds_toArray, List.set_cons_zero, List.set_cons_succ]
    refine wpAnyH_take (i := 5) (oi := { dst := some 49, op := Op.fieldAddr 94 (Operand.tmp 48) 3, type := 0, pos := "look.go:75", after := #[{ on := 4, ground := Ground.data }], guard := none }) (v := ?_) rfl (by kernel_rfl) (by kernel_rfl) (by kernel_rfl) (fun _ _ _ h => h) (Or.inl ⟨by rfl, ?_⟩) (by assumption) ?_
    rotate_left
    · intro w hSw; (try dsimp only at hSw); go_simp <;> with_reducible rfl
    simp only [Act.put, List.setIfInBounds_toArray, List.set_cons_zero, List.set_cons_succ]
    refine wpAnyH_ready (rs := [3]) (by kernel_rfl) (by simp) ?_
    refine AllReadyH.cons (o := { dst := some 47, op := Op.load 90 (Operand.tmp 6), type := 90, pos := "look.go:75", after := #[], guard := none }) rfl (fun K hK => ?_) AllReadyH.nil
    rw [if_pos (by rfl)]; refine wp_load_rowO 90 _ rfl ⟨g6, 0, none⟩ rfl (lvA f2 n2) hL8.out.load ?_
    (try dsimp only)
    refine hK.out _ _ ?_ (fun hHeld => ?_)
    · trivial
    clear hK K
    try simp only [Act.put, List.setIfInBounds_toArray, List.set_cons_zero, List.set_cons_succ]
    refine wpAnyH_take (i := 6) (oi := { dst := some 50, op := Op.indexAddr 92 (Operand.tmp 49) (Operand.tmp 46), type := 0, pos := "look.go:75", after := #[{ on := 5, ground := Ground.data }, { on := 2, ground := Ground.data }, { on := 0, ground := Ground.phase }, { on := 1, ground := Ground.phase }, { on := 2, ground := Ground.phase }, { on := 3, ground := Ground.phase }], guard := none }) (v := ?_) rfl (by kernel_rfl) (by kernel_rfl) (by kernel_rfl) (fun _ _ _ h => h) (Or.inl ⟨by rfl, ?_⟩) (by assumption) ?_
    rotate_left
    · intro w hSw; (try dsimp only at hSw); go_simp <;> with_reducible rfl
    simp only [Act.put, List.setIfInBounds_toArray, List.set_cons_zero, List.set_cons_succ]
    refine wpAnyH_ready (rs := [7]) (by kernel_rfl) (by simp) ?_
    refine AllReadyH.cons (o := { dst := none, op := Op.store 90 (Operand.tmp 50) (Operand.tmp 47), type := 0, pos := "look.go:75", after := #[{ on := 6, ground := Ground.data }, { on := 3, ground := Ground.data }, { on := 0, ground := Ground.phase }, { on := 1, ground := Ground.phase }, { on := 2, ground := Ground.phase }, { on := 3, ground := Ground.phase }], guard := none }) rfl (fun K hK => ?_) AllReadyH.nil
    rw [if_pos (by rfl)]
    refine wp_store_rowO 90 _ _ rfl ⟨gl, 3 + t1 * 13, none⟩ rfl (lvA f2 n2) rfl (hst4.out _ rfl) rfl ?_
    refine hK.out _ _ ?_ (fun hHeld => ?_)
    · trivial
    clear hK K
    try simp only [Act.put, List.setIfInBounds_toArray, List.set_cons_zero, List.set_cons_succ]
    refine wpAnyH_done (by kernel_rfl) ?_ _
    skip
    go_wp2
    go_meet
    exact ⟨rfl, hfin4.out.1, hfin4.out.2.1, hfin4.out.2.2⟩
  case rest =>
  clear h7 hL7 hF7 hfr4 hfin4 hst4 hL8 hw1 hwt hwt0 hgl hgw hl7
  obtain ⟨rfl, h8, hL8, hF8⟩ := hcut
  have hl8 := hL8.out.lt
  have KR := hide' (rowsF g6 n2 f2 wc hwN hL8.out)
  go_wp2_with fail
  refine KR.out.mono ?_
  rintro e w9 ⟨rfl, hb9⟩
  have h9 := hide' (h8.out.below hb9)
  have hL9 := hide' (hL8.out.below hb9)
  have hF9 : Hid (M.Fr2 W w9 gl gw) := hF8.out.trans (M.Fr2.below hb9)
  have hl9 := hL9.out.lt
  have hgl := h9.out.lk.lt
  have hgw := h9.out.gg.lt
  have hne := h9.out.ne
  clear KR h8 hL8 hF8 hb9 hl8
  have KE : Hid (∀ V, Below w9.heap.size w9 V → Calls Tryz.prog 58 #[.slice (some ⟨g6, 0, none⟩) n2 12, .int .i64 (n2 : Int)] V fun e w' => e = .returned (.int .u64 ((bitsN f2 n2 * n2 : Nat) : Int)) ∧ w' = V) := fun V hV => edgesF ((hL9.out.below hV).rwa hwN (h9.out.tab.over hV) hwF.out) hwN n2 (by omega)
  have KS : Hid (∀ V, M.RwA V (.slice (some ⟨g6, 0, none⟩) n2 12) n2 f2 → Calls Tryz.prog 96 #[.slice (some ⟨g6, 0, none⟩) n2 12] V fun e w' => e = .returned (.int .i64 (M.sizeN f2 n2 : Int)) ∧ Below V.heap.size V w') := fun V hV => M.sizeF hV
  have hbl := bitsN_le f2 n2
  have hml : bitsN f2 n2 * n2 ≤ 768 * 12 := Nat.mul_le_mul (by omega) hwN
  have hwe : IntKind.u64.wrap ((c : Int) + ((bitsN f2 n2 * n2 : Nat) : Int)) = ((c + bitsN f2 n2 * n2 : Nat) : Int) := by rw [IntKind.wrap_u64]; omega
  have hfr9 : Hid (M.Fr2 w9 (w9.drew.setCell ⟨gw, 2, none⟩ (.int .u64 ((c + bitsN f2 n2 * n2 : Nat) : Int))) gl gw) := (M.Fr2.below ((Below.refl _ w9).drew)).trans (M.Fr2.setB _ gl gw 2 _)
  have hfin9 : Hid (FtR (w9.drew.setCell ⟨gw, 2, none⟩ (.int .u64 ((c + bitsN f2 n2 * n2 : Nat) : Int))) gl U gm om cm n rv (M.upd F t1 f2) (M.upd N t1 n2) gw a (b + U) (c + bitsN f2 n2 * n2) my ∧ LvAt (w9.drew.setCell ⟨gw, 2, none⟩ (.int .u64 ((c + bitsN f2 n2 * n2 : Nat) : Int))) g6 f2 n2 ∧ M.Fr2 W (w9.drew.setCell ⟨gw, 2, none⟩ (.int .u64 ((c + bitsN f2 n2 * n2 : Nat) : Int))) gl gw) :=
    ⟨h9.out.fr hfr9.out ((h9.out.lk.below ((Below.refl _ w9).drew)).of (Below.heap_setCell _ _ _ _ hne)) ((h9.out.gg.below ((Below.refl _ w9).drew)).s2 _), (hL9.out.below ((Below.refl _ w9).drew)).of (Below.heap_setCell _ _ _ _ (by show g6 ≠ gw; omega)), hF9.out.trans hfr9.out⟩
  have c172 := h9.out.lk.cw
  have ce := h9.out.gg.c2
  have fe := h9.out.gg.frz 2
  have hd9 : Hid (Below w9.heap.size w9 w9.drew) := (Below.refl _ _).drew
  clear hbl hml hfr9 hF9 hL9 h9
  generalize hq9 : bitsN f2 n2 * n2 = q at *
  have Hq9 := hide' hq9
  clear hq9
  go_upto_region 6 with fail
  go_cut [7] from 52 to 65 (fun s wx => s = .slice (some ⟨g6, 0, none⟩) n2 12 ∧ w9.drew.setCell ⟨gw, 2, none⟩ (.int .u64 ((c + q : Nat) : Int)) = wx)
  case first =>
    as_aux_lemma =>
    go_region_with (first | (go_at_call 58; refine (KE.out _ hd9.out).mono ?_; rintro e w10 ⟨rfl, hw10⟩; obtain rfl : w9.drew = w10 := hw10.symm))
    all_goals
      go_wp2
      go_meet
      exact ⟨rfl, rfl⟩
  case rest =>
  obtain ⟨rfl, rfl⟩ := hcut
  clear KE c172 ce fe hwe hd9
  generalize w9.drew.setCell ⟨gw, 2, none⟩ (.int .u64 ((c + q : Nat) : Int)) = w10 at *
  have KS2 := hide' (KS.out w10 (hfin9.out.2.1.rwa hwN hfin9.out.1.tab hwF.out))
  have hcmp : Hid (((M.sizeN f2 n2 : Int) == (n2 : Int)) = decide (M.sizeN f2 n2 = n2)) := by
    show _ = _
    by_cases e : M.sizeN f2 n2 = n2
    · rw [e]; simp
    · rw [decide_eq_false e, beq_eq_false_iff_ne]; omega
  clear KS
  generalize hz9 : M.sizeN f2 n2 = z at *
  have Hz9 := hide' hz9
  clear hz9
  go_wp2_with fail
  refine KS2.out.mono ?_
  rintro e w11 ⟨rfl, hb11⟩
  have hE : Hid (FtR w11 gl U gm om cm n rv (M.upd F t1 f2) (M.upd N t1 n2) gw a (b + U) (c + q) my ∧ M.Fr2 W w11 gl gw) := ⟨hfin9.out.1.below hb11, hfin9.out.2.2.trans (M.Fr2.below hb11)⟩
  clear KS2 hfin9 hb11
  go_wp2
  go_ret
  exact ⟨ret_bool (by rw [Hz9.out]; exact hcmp.out), by rw [← Ht1.out, Hq9.out]; exact hE.out.1, hE.out.2⟩
end Go.Proofs.YtlijlelejobchaaGreatDoor.S
