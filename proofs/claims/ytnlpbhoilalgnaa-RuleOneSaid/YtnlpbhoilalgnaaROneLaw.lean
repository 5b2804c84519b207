/- RuleOne: it returns true. -/
import Derived.Test.YtnlpbhoilalgnaaRSet
namespace Go.Proofs.Ytnlpbhoilalgnaa
open Go.RowKit
set_option maxRecDepth 100000 in
set_option maxHeartbeats 8000000 in
theorem ruleOne_walk (n : Int) (L0 : List Rl) (B0 : List Int) (or : Option Addr) (cr : Nat) (oB : Option Addr) (cB : Nat) (on : Option Addr) (ln cn : Nat) (w : World) (hr : RowR w (.slice or L0.length cr) L0) (hl : RowI w (.slice oB B0.length cB) B0) :
    Calls Try.prog 3 #[.agg #[.int .i64 n, .slice or L0.length cr, .slice oB B0.length cB, .slice on ln cn]] w fun e w' => e = .returned (.bool true) ∧ Below w.heap.size w w' := by
  have hB : Hid (Below w.heap.size w (w.alloc (.cells #[.int .i64 n, .slice or L0.length cr, .slice oB B0.length cB, .slice on ln cn] 26))) := (Below.refl _ w).alloc (Nat.le_refl _) _
  have hbox : Hid (∀ V, Below (w.alloc (.cells #[.int .i64 n, .slice or L0.length cr, .slice oB B0.length cB, .slice on ln cn] 26)).heap.size (w.alloc (.cells #[.int .i64 n, .slice or L0.length cr, .slice oB B0.length cB, .slice on ln cn] 26)) V → V.cell? ⟨w.heap.size, 0, none⟩ = some (.int .i64 n) ∧ V.cell? ⟨w.heap.size, 2, none⟩ = some (.slice oB B0.length cB)) := fun V hV => by
    have e : V.heap[w.heap.size]? = some (.cells #[.int .i64 n, .slice or L0.length cr, .slice oB B0.length cB, .slice on ln cn] 26) := by
      rw [hV.block _ (by simp)]
      exact heap_new w _
    simp [World.cell?, e]
  have K1 := hide' (twinR L0 _ _ (hr.below hB.out (Nat.le_refl _)))
  have K2 : Hid (∀ V, Below w.heap.size w V → Calls Try.prog 10 #[.slice oB B0.length cB] V fun e w' => ∃ ob cb, e = .returned (.slice ob (B0.take 40).length cb) ∧ RowI w' (.slice ob (B0.take 40).length cb) (B0.take 40) ∧ Below V.heap.size V w') := fun V hV => rowR B0 _ V (hl.below hV (Nat.le_refl _))
  have K9 := hide' wakesR
  clear hr hl
  go_enter Try.func3, Try.ntmps3
  go_wp2_with fail
  refine K1.out.mono ?_
  rintro e w1 ⟨ol, cl, rfl, hr1, hb1⟩
  obtain ⟨x0, x2⟩ := hbox.out _ hb1
  have hB1 : Hid (Below w.heap.size w w1) := hB.out.trans (hb1.mono hB.out.size)
  have hb1' := hide' hb1
  have hr1' := hide' hr1
  clear K1 hr1 hb1 hB
  go_wp2_with fail
  refine (K2.out _ hB1.out).mono ?_
  rintro e w2 ⟨ob, cb, rfl, hr2, hb2⟩
  have hS0 : Hid (St w w2 n ol cl (twin L0) ob cb (B0.take 40)) := ⟨(hbox.out _ (hb1'.out.trans (hb2.mono hb1'.out.size))).1, hr1'.out.below hb2 (Nat.le_refl _), hr2, hB1.out.trans (hb2.mono hB1.out.size), twin_len L0, fun r h => twin_steps h, by rw [List.length_take]; omega⟩
  have hTw := hide' (twin_twin L0)
  clear hr2 hb2 hb1' hr1' hB1 hbox K2 x0 x2
  generalize twin L0 = L at *
  generalize B0.take 40 = B at *
  go_wp2
  go_loopw [5, 6] (fun k _ wr => ∃ c : Nat, c ≤ L.length ∧ k = .int .i64 c ∧ Hid (St w wr n ol cl L ob cb B)) (fun k _ _ => ((L.length : Int) - intOf k).toNat)
  case atStart => exact ⟨0, Nat.zero_le _, rfl, hS0⟩
  case round =>
    clear hS0
    obtain ⟨c, hcl, rfl, hS⟩ := hrel
    have hf := hS.out.few
    by_cases hlt : c < L.length
    · as_aux_lemma =>
      obtain ⟨r, hx⟩ : ∃ r, L[c]? = some r := ⟨_, List.getElem?_eq_getElem hlt⟩
      obtain ⟨g, o, os, cs, rfl, hC, hV⟩ := hS.out.cells hx
      have hC' := hide' hC
      have hm := hS.out.low r (List.mem_of_getElem? hx)
      have KR := hide' (rowAgain hS.out)
      have KC : Hid (∀ V, Below wr.heap.size wr V → Calls Try.prog 11 #[.int .i64 n, .agg #[.int .i64 r.kind, .int .i64 r.k, .slice os r.steps.length cs]] V fun e w' => e = .returned (.int .i64 (erC (chk n r))) ∧ Below V.heap.size V w') := fun V h1 => checkF n r _ V (hV V h1) (by omega)
      have KD : Hid (∀ V, Below wr.heap.size wr V → Calls Try.prog 12 #[.int .i64 n, .agg #[.int .i64 r.kind, .int .i64 r.k, .slice os r.steps.length cs]] V fun e w' => e = .returned (.bool (chk n r)) ∧ Below V.heap.size V w') := fun V h1 => rCheck n r _ V (hV V h1) (by omega)
      have KE : Hid (∀ V o1 k1, Below wr.heap.size wr V → RowI V (.slice o1 B.length k1) B → Calls Try.prog 13 #[.agg #[.int .i64 r.kind, .int .i64 r.k, .slice os r.steps.length cs], .slice o1 B.length k1] V fun e w' => e = .returned (.bool (holds r B)) ∧ Below V.heap.size V w') := fun V o1 k1 h1 h2 => holdsF r _ _ B V (hV V h1) h2 (by omega)
      have KF : Hid (∀ V, Below wr.heap.size wr V → Calls Try.prog 14 #[.agg #[.int .i64 r.kind, .int .i64 r.k, .slice os r.steps.length cs], .slice ob B.length cb] V fun e w' => e = .returned (.bool (holds r B)) ∧ Below V.heap.size V w') := fun V h1 => rHolds r _ _ B V (hV V h1) (hS.out.lb.below h1 (Nat.le_refl _)) (by omega)
      have hd : Hid (Below wr.heap.size wr wr.drew) := (Below.refl _ _).drew
      clear hC hV hx K9 hTw
      generalize holds r B = bH at *
      generalize r.steps.length = q at *
      generalize r.kind = kd at *
      generalize r.k = kk at *
      cases hck : chk n r with
      | true =>
        rw [hck] at KC KD
        have KC' : Hid (∀ V, Below wr.heap.size wr V → Calls Try.prog 11 #[.int .i64 n, .agg #[.int .i64 kd, .int .i64 kk, .slice os q cs]] V fun e w' => e = .returned (.int .i64 0) ∧ Below V.heap.size V w') := KC
        clear KC hck
        go_wp2_with fail
        go_region_held3 (fun V => V.cell? ⟨g, o + c * 3, none⟩ = some (.int .i64 kd) ∧ V.cell? ⟨g, o + c * 3 + 1, none⟩ = some (.int .i64 kk) ∧ V.cell? ⟨g, o + c * 3 + 2, none⟩ = some (.slice os q cs) ∧ V.cell? ⟨w.heap.size, 0, none⟩ = some (.int .i64 n)) (first | (exact hC'.out _ hd.out) | (exact hC'.out _ h1.out)) (first | (go_at_call 11; refine (KC'.out _ hd.out).mono ?_; rintro e w3 ⟨rfl, hb⟩; have h1 : Hid (Below wr.heap.size wr w3) := hd.out.trans hb; clear hb))
        all_goals
          have hd1 : Hid (Below wr.heap.size wr w3.drew) := h1.out.drew
          go_wp2_with fail
          refine wp_region_noPanic (wp_region_held_drew (S := (fun V => V.cell? ⟨g, o + c * 3, none⟩ = some (.int .i64 kd) ∧ V.cell? ⟨g, o + c * 3 + 1, none⟩ = some (.int .i64 kk) ∧ V.cell? ⟨g, o + c * 3 + 2, none⟩ = some (.slice os q cs) ∧ V.cell? ⟨w.heap.size, 0, none⟩ = some (.int .i64 n))) (by kernel_rfl) ?_ (fun hHeld => ?_))
          · exact hC'.out _ hd1.out
          refine wpAnyH_take (i := 0) (oi := { dst := some 26, op := Op.move (Operand.tmp 6), type := 29, pos := "law.go:56", after := #[], guard := none }) (v := ?_) rfl (by kernel_rfl) (by kernel_rfl) (by kernel_rfl) (fun _ _ _ h => h) (Or.inl ⟨by rfl, ?_⟩) (by assumption) ?_
          rotate_left
          · intro w hSw; (try dsimp only at hSw); go_simp <;> with_reducible rfl
          simp only [Act.put, List.setIfInBounds_toArray, List.set_cons_zero, List.set_cons_succ]
          refine wpAnyH_take (i := 1) (oi := { dst := some 27, op := Op.binOp BinOp.eql 29 (Operand.tmp 26) (Operand.const (Value.int IntKind.i64 0)) 29, type := 4, pos := "law.go:56", after := #[{ on := 0, ground := Ground.data }], guard := none }) (v := ?_) rfl (by kernel_rfl) (by kernel_rfl) (by kernel_rfl) (fun _ _ _ h => h) (Or.inl ⟨by rfl, ?_⟩) (by assumption) ?_
          rotate_left
          · intro w hSw; (try dsimp only at hSw); go_simp <;> with_reducible rfl
          simp only [Act.put, List.setIfInBounds_toArray, List.set_cons_zero, List.set_cons_succ]
          refine wpAnyH_take (i := 2) (oi := { dst := some 28, op := Op.fieldAddr 26 (Operand.tmp 1) 0, type := 0, pos := "law.go:56", after := #[], guard := none }) (v := ?_) rfl (by kernel_rfl) (by kernel_rfl) (by kernel_rfl) (fun _ _ _ h => h) (Or.inl ⟨by rfl, ?_⟩) (by assumption) ?_
          rotate_left
          · intro w hSw; (try dsimp only at hSw); go_simp <;> with_reducible rfl
          simp only [Act.put, List.setIfInBounds_toArray, List.set_cons_zero, List.set_cons_succ]
          refine wpAnyH_take (i := 3) (oi := { dst := some 29, op := Op.load 3 (Operand.tmp 28), type := 3, pos := "law.go:56", after := #[{ on := 2, ground := Ground.data }], guard := none }) (v := ?_) rfl (by kernel_rfl) (by kernel_rfl) (by kernel_rfl) (fun _ _ _ h => h) (Or.inl ⟨by rfl, ?_⟩) (by assumption) ?_
          rotate_left
          · intro w hSw; (try dsimp only at hSw); go_simp <;> with_reducible rfl
          simp only [Act.put, List.setIfInBounds_toArray, List.set_cons_zero, List.set_cons_succ]
          refine wpAnyH_take (i := 4) (oi := { dst := some 30, op := Op.move (Operand.tmp 3), type := 22, pos := "law.go:56", after := #[], guard := none }) (v := ?_) rfl (by kernel_rfl) (by kernel_rfl) (by kernel_rfl) (fun _ _ _ h => h) (Or.inl ⟨by rfl, ?_⟩) (by assumption) ?_
          rotate_left
          · intro w hSw; (try dsimp only at hSw); go_simp <;> with_reducible rfl
          simp only [Act.put, List.setIfInBounds_toArray, List.set_cons_zero, List.set_cons_succ]
          refine wpAnyH_take (i := 5) (oi := { dst := some 31, op := Op.move (Operand.tmp 5), type := 3, pos := "law.go:56", after := #[], guard := none }) (v := ?_) rfl (by kernel_rfl) (by kernel_rfl) (by kernel_rfl) (fun _ _ _ h => h) (Or.inl ⟨by rfl, ?_⟩) (by assumption) ?_
          rotate_left
          · intro w hSw; (try dsimp only at hSw); go_simp <;> with_reducible rfl
          simp only [Act.put, List.setIfInBounds_toArray, List.set_cons_zero, List.set_cons_succ]
          refine wpAnyH_take (i := 6) (oi := { dst := some 32, op := Op.indexAddr 22 (Operand.tmp 30) (Operand.tmp 31), type := 0, pos := "law.go:56", after := #[{ on := 4, ground := Ground.data }, { on := 5, ground := Ground.data }], guard := none }) (v := ?_) rfl (by kernel_rfl) (by kernel_rfl) (by kernel_rfl) (fun _ _ _ h => h) (Or.inl ⟨by rfl, ?_⟩) (by assumption) ?_
          rotate_left
          · intro w hSw; (try dsimp only at hSw); go_simp <;> with_reducible rfl
          simp only [Act.put, List.setIfInBounds_toArray, List.set_cons_zero, List.set_cons_succ]
          refine wpAnyH_take (i := 7) (oi := { dst := some 33, op := Op.load 32 (Operand.tmp 32), type := 32, pos := "law.go:56", after := #[{ on := 6, ground := Ground.data }], guard := none }) (v := ?_) rfl (by kernel_rfl) (by kernel_rfl) (by kernel_rfl) (fun _ _ _ h => h) (Or.inl ⟨by rfl, ?_⟩) (by assumption) ?_
          rotate_left
          · intro w hSw; (try dsimp only at hSw); go_simp <;> with_reducible rfl
          simp only [Act.put, List.setIfInBounds_toArray, List.set_cons_zero, List.set_cons_succ]
          refine wpAnyH_ready (rs := [8]) (by kernel_rfl) (by simp) ?_
          refine AllReadyH.cons (o := { dst := some 34, op := Op.call { callee := Callee.value (Operand.func 12), args := #[Operand.tmp 29, Operand.tmp 33], argTypes := #[3, 32] }, type := 4, pos := "law.go:56", after := #[{ on := 3, ground := Ground.data }, { on := 7, ground := Ground.data }], guard := none }) rfl (fun K hK => ?_) AllReadyH.nil
          go_simp
          refine (KD.out _ hd1.out).mono ?_; rintro e w4 ⟨rfl, hb⟩; (try dsimp only); have h2 : Hid (Below wr.heap.size wr w4) := hd1.out.trans (hb.mono hd1.out.size); clear hb
          refine hK.out _ _ ?_ (fun hHeld => ?_)
          · exact hC'.out _ h2.out
          clear hK K
          try simp only [Act.put, List.setIfInBounds_toArray, List.set_cons_zero, List.set_cons_succ]
          refine wpAnyH_take (i := 9) (oi := { dst := some 35, op := Op.binOp BinOp.neq 4 (Operand.tmp 27) (Operand.tmp 34) 4, type := 4, pos := "law.go:56", after := #[{ on := 1, ground := Ground.data }, { on := 8, ground := Ground.data }], guard := none }) (v := ?_) rfl (by kernel_rfl) (by kernel_rfl) (by kernel_rfl) (fun _ _ _ h => h) (Or.inl ⟨by rfl, ?_⟩) (by assumption) ?_
          rotate_left
          · intro w hSw; (try dsimp only at hSw); go_simp <;> with_reducible rfl
          simp only [Act.put, List.setIfInBounds_toArray, List.set_cons_zero, List.set_cons_succ]
          refine wpAnyH_take (i := 10) (oi := { dst := some 36, op := Op.move (Operand.tmp 35), type := 4, pos := "law.go:56", after := #[{ on := 9, ground := Ground.data }, { on := 8, ground := Ground.chain }], guard := none }) (v := ?_) rfl (by kernel_rfl) (by kernel_rfl) (by kernel_rfl) (fun _ _ _ h => h) (Or.inl ⟨by rfl, ?_⟩) (by assumption) ?_
          rotate_left
          · intro w hSw; (try dsimp only at hSw); go_simp <;> with_reducible rfl
          simp only [Act.put, List.setIfInBounds_toArray, List.set_cons_zero, List.set_cons_succ]
          refine wpAnyH_take (i := 11) (oi := { dst := some 37, op := Op.move (Operand.tmp 6), type := 29, pos := "law.go:56", after := #[{ on := 10, ground := Ground.guard }], guard := some (10, false) }) (v := ?_) rfl (by kernel_rfl) (by kernel_rfl) (by kernel_rfl) (fun _ _ _ h => h) (Or.inl ⟨by rfl, ?_⟩) (by assumption) ?_
          rotate_left
          · intro w hSw; (try dsimp only at hSw); go_simp <;> with_reducible rfl
          simp only [Act.put, List.setIfInBounds_toArray, List.set_cons_zero, List.set_cons_succ]
          refine wpAnyH_take (i := 12) (oi := { dst := some 38, op := Op.binOp BinOp.neq 29 (Operand.tmp 37) (Operand.const (Value.int IntKind.i64 0)) 29, type := 4, pos := "law.go:56", after := #[{ on := 11, ground := Ground.data }, { on := 10, ground := Ground.guard }], guard := some (10, false) }) (v := ?_) rfl (by kernel_rfl) (by kernel_rfl) (by kernel_rfl) (fun _ _ _ h => h) (Or.inl ⟨by rfl, ?_⟩) (by assumption) ?_
          rotate_left
          · intro w hSw; (try dsimp only at hSw); go_simp <;> with_reducible rfl
          simp only [Act.put, List.setIfInBounds_toArray, List.set_cons_zero, List.set_cons_succ]
          refine wpAnyH_take (i := 13) (oi := { dst := some 39, op := Op.move (Operand.tmp 38), type := 4, pos := "law.go:56", after := #[{ on := 12, ground := Ground.data }, { on := 10, ground := Ground.chain }, { on := 10, ground := Ground.guard }], guard := some (10, false) }) (v := ?_) rfl (by kernel_rfl) (by kernel_rfl) (by kernel_rfl) (fun _ _ _ h => h) (Or.inl ⟨by rfl, ?_⟩) (by assumption) ?_
          rotate_left
          · intro w hSw; (try dsimp only at hSw); go_simp <;> with_reducible rfl
          simp only [Act.put, List.setIfInBounds_toArray, List.set_cons_zero, List.set_cons_succ]
          refine wpAnyH_take (i := 14) (oi := { dst := some 40, op := Op.move (Operand.tmp 6), type := 29, pos := "law.go:56", after := #[{ on := 13, ground := Ground.guard }], guard := some (13, true) }) (v := undef) rfl (by kernel_rfl) (by kernel_rfl) (by kernel_rfl) (fun _ _ _ h => h) (Or.inr ⟨by rfl, rfl⟩) (by assumption) ?_
          simp only [Act.put, List.setIfInBounds_toArray, List.set_cons_zero, List.set_cons_succ]
          refine wpAnyH_take (i := 15) (oi := { dst := some 41, op := Op.binOp BinOp.neq 29 (Operand.tmp 40) (Operand.const (Value.int IntKind.i64 1)) 29, type := 4, pos := "law.go:56", after := #[{ on := 14, ground := Ground.data }, { on := 13, ground := Ground.guard }], guard := some (13, true) }) (v := undef) rfl (by kernel_rfl) (by kernel_rfl) (by kernel_rfl) (fun _ _ _ h => h) (Or.inr ⟨by rfl, rfl⟩) (by assumption) ?_
          simp only [Act.put, List.setIfInBounds_toArray, List.set_cons_zero, List.set_cons_succ]
          refine wpAnyH_take (i := 16) (oi := { dst := some 42, op := Op.pick (Operand.tmp 39) (Operand.tmp 41) (Operand.const (Value.bool false)), type := 4, pos := "law.go:56", after := #[{ on := 13, ground := Ground.data }, { on := 15, ground := Ground.data }, { on := 10, ground := Ground.guard }], guard := some (10, false) }) (v := ?_) rfl (by kernel_rfl) (by kernel_rfl) (by kernel_rfl) (fun _ _ _ h => h) (Or.inl ⟨by rfl, ?_⟩) (by assumption) ?_
          rotate_left
          · intro w hSw; (try dsimp only at hSw); go_simp <;> with_reducible rfl
          simp only [Act.put, List.setIfInBounds_toArray, List.set_cons_zero, List.set_cons_succ]
          refine wpAnyH_take (i := 17) (oi := { dst := some 43, op := Op.pick (Operand.tmp 36) (Operand.const (Value.bool true)) (Operand.tmp 42), type := 4, pos := "law.go:56", after := #[{ on := 10, ground := Ground.data }, { on := 16, ground := Ground.data }], guard := none }) (v := ?_) rfl (by kernel_rfl) (by kernel_rfl) (by kernel_rfl) (fun _ _ _ h => h) (Or.inl ⟨by rfl, ?_⟩) (by assumption) ?_
          rotate_left
          · intro w hSw; (try dsimp only at hSw); go_simp <;> with_reducible rfl
          simp only [Act.put, List.setIfInBounds_toArray, List.set_cons_zero, List.set_cons_succ]
          refine wpAnyH_take (i := 18) (oi := { dst := some 44, op := Op.move (Operand.tmp 43), type := 4, pos := "law.go:56", after := #[{ on := 17, ground := Ground.data }, { on := 13, ground := Ground.chain }], guard := none }) (v := ?_) rfl (by kernel_rfl) (by kernel_rfl) (by kernel_rfl) (fun _ _ _ h => h) (Or.inl ⟨by rfl, ?_⟩) (by assumption) ?_
          rotate_left
          · intro w hSw; (try dsimp only at hSw); go_simp <;> with_reducible rfl
          simp only [Act.put, List.setIfInBounds_toArray, List.set_cons_zero, List.set_cons_succ]
          refine wpAnyH_take (i := 19) (oi := { dst := some 45, op := Op.move (Operand.tmp 3), type := 22, pos := "law.go:56", after := #[{ on := 18, ground := Ground.guard }], guard := some (18, false) }) (v := ?_) rfl (by kernel_rfl) (by kernel_rfl) (by kernel_rfl) (fun _ _ _ h => h) (Or.inl ⟨by rfl, ?_⟩) (by assumption) ?_
          rotate_left
          · intro w hSw; (try dsimp only at hSw); go_simp <;> with_reducible rfl
          simp only [Act.put, List.setIfInBounds_toArray, List.set_cons_zero, List.set_cons_succ]
          refine wpAnyH_take (i := 20) (oi := { dst := some 46, op := Op.move (Operand.tmp 5), type := 3, pos := "law.go:56", after := #[{ on := 18, ground := Ground.guard }], guard := some (18, false) }) (v := ?_) rfl (by kernel_rfl) (by kernel_rfl) (by kernel_rfl) (fun _ _ _ h => h) (Or.inl ⟨by rfl, ?_⟩) (by assumption) ?_
          rotate_left
          · intro w hSw; (try dsimp only at hSw); go_simp <;> with_reducible rfl
          simp only [Act.put, List.setIfInBounds_toArray, List.set_cons_zero, List.set_cons_succ]
          refine wpAnyH_take (i := 21) (oi := { dst := some 47, op := Op.indexAddr 22 (Operand.tmp 45) (Operand.tmp 46), type := 0, pos := "law.go:56", after := #[{ on := 19, ground := Ground.data }, { on := 20, ground := Ground.data }, { on := 18, ground := Ground.guard }], guard := some (18, false) }) (v := ?_) rfl (by kernel_rfl) (by kernel_rfl) (by kernel_rfl) (fun _ _ _ h => h) (Or.inl ⟨by rfl, ?_⟩) (by assumption) ?_
          rotate_left
          · intro w hSw; (try dsimp only at hSw); go_simp <;> with_reducible rfl
          simp only [Act.put, List.setIfInBounds_toArray, List.set_cons_zero, List.set_cons_succ]
          refine wpAnyH_take (i := 22) (oi := { dst := some 48, op := Op.load 32 (Operand.tmp 47), type := 32, pos := "law.go:56", after := #[{ on := 21, ground := Ground.data }, { on := 18, ground := Ground.guard }], guard := some (18, false) }) (v := ?_) rfl (by kernel_rfl) (by kernel_rfl) (by kernel_rfl) (fun _ _ _ h => h) (Or.inl ⟨by rfl, ?_⟩) (by assumption) ?_
          rotate_left
          · intro w hSw; (try dsimp only at hSw); go_simp <;> with_reducible rfl
          simp only [Act.put, List.setIfInBounds_toArray, List.set_cons_zero, List.set_cons_succ]
          refine wpAnyH_take (i := 23) (oi := { dst := some 49, op := Op.move (Operand.tmp 4), type := 23, pos := "law.go:56", after := #[{ on := 18, ground := Ground.guard }], guard := some (18, false) }) (v := ?_) rfl (by kernel_rfl) (by kernel_rfl) (by kernel_rfl) (fun _ _ _ h => h) (Or.inl ⟨by rfl, ?_⟩) (by assumption) ?_
          rotate_left
          · intro w hSw; (try dsimp only at hSw); go_simp <;> with_reducible rfl
          simp only [Act.put, List.setIfInBounds_toArray, List.set_cons_zero, List.set_cons_succ]
          refine wpAnyH_take (i := 26) (oi := { dst := some 52, op := Op.move (Operand.tmp 3), type := 22, pos := "law.go:56", after := #[{ on := 18, ground := Ground.guard }], guard := some (18, false) }) (v := ?_) rfl (by kernel_rfl) (by kernel_rfl) (by kernel_rfl) (fun _ _ _ h => h) (Or.inl ⟨by rfl, ?_⟩) (by assumption) ?_
          rotate_left
          · intro w hSw; (try dsimp only at hSw); go_simp <;> with_reducible rfl
          simp only [Act.put, List.setIfInBounds_toArray, List.set_cons_zero, List.set_cons_succ]
          refine wpAnyH_take (i := 27) (oi := { dst := some 53, op := Op.move (Operand.tmp 5), type := 3, pos := "law.go:56", after := #[{ on := 18, ground := Ground.guard }], guard := some (18, false) }) (v := ?_) rfl (by kernel_rfl) (by kernel_rfl) (by kernel_rfl) (fun _ _ _ h => h) (Or.inl ⟨by rfl, ?_⟩) (by assumption) ?_
          rotate_left
          · intro w hSw; (try dsimp only at hSw); go_simp <;> with_reducible rfl
          simp only [Act.put, List.setIfInBounds_toArray, List.set_cons_zero, List.set_cons_succ]
          refine wpAnyH_take (i := 28) (oi := { dst := some 54, op := Op.indexAddr 22 (Operand.tmp 52) (Operand.tmp 53), type := 0, pos := "law.go:56", after := #[{ on := 26, ground := Ground.data }, { on := 27, ground := Ground.data }, { on := 18, ground := Ground.guard }], guard := some (18, false) }) (v := ?_) rfl (by kernel_rfl) (by kernel_rfl) (by kernel_rfl) (fun _ _ _ h => h) (Or.inl ⟨by rfl, ?_⟩) (by assumption) ?_
          rotate_left
          · intro w hSw; (try dsimp only at hSw); go_simp <;> with_reducible rfl
          simp only [Act.put, List.setIfInBounds_toArray, List.set_cons_zero, List.set_cons_succ]
          refine wpAnyH_take (i := 29) (oi := { dst := some 55, op := Op.load 32 (Operand.tmp 54), type := 32, pos := "law.go:56", after := #[{ on := 28, ground := Ground.data }, { on := 18, ground := Ground.guard }], guard := some (18, false) }) (v := ?_) rfl (by kernel_rfl) (by kernel_rfl) (by kernel_rfl) (fun _ _ _ h => h) (Or.inl ⟨by rfl, ?_⟩) (by assumption) ?_
          rotate_left
          · intro w hSw; (try dsimp only at hSw); go_simp <;> with_reducible rfl
          simp only [Act.put, List.setIfInBounds_toArray, List.set_cons_zero, List.set_cons_succ]
          refine wpAnyH_take (i := 30) (oi := { dst := some 56, op := Op.move (Operand.tmp 4), type := 23, pos := "law.go:56", after := #[{ on := 18, ground := Ground.guard }], guard := some (18, false) }) (v := ?_) rfl (by kernel_rfl) (by kernel_rfl) (by kernel_rfl) (fun _ _ _ h => h) (Or.inl ⟨by rfl, ?_⟩) (by assumption) ?_
          rotate_left
          · intro w hSw; (try dsimp only at hSw); go_simp <;> with_reducible rfl
          simp only [Act.put, List.setIfInBounds_toArray, List.set_cons_zero, List.set_cons_succ]
          refine wpAnyH_ready (rs := [24]) (by kernel_rfl) (by simp) ?_
          refine AllReadyH.cons (o := { dst := some 50, op := Op.call { callee := Callee.value (Operand.func 10), args := #[Operand.tmp 49], argTypes := #[23] }, type := 23, pos := "law.go:56", after := #[{ on := 23, ground := Ground.data }, { on := 18, ground := Ground.chain }, { on := 18, ground := Ground.guard }], guard := some (18, false) }) rfl (fun K hK => ?_) AllReadyH.nil
          go_simp
          refine (KR.out _ h2.out).mono ?_; rintro e w5 ⟨o1, k1, rfl, hr5, hb⟩; (try dsimp only); have h3 : Hid (Below wr.heap.size wr w5) := h2.out.trans (hb.mono h2.out.size); clear hb
          refine hK.out _ _ ?_ (fun hHeld => ?_)
          · exact hC'.out _ h3.out
          clear hK K
          try simp only [Act.put, List.setIfInBounds_toArray, List.set_cons_zero, List.set_cons_succ]
          refine wpAnyH_ready (rs := [25]) (by kernel_rfl) (by simp) ?_
          refine AllReadyH.cons (o := { dst := some 51, op := Op.call { callee := Callee.value (Operand.func 13), args := #[Operand.tmp 48, Operand.tmp 50], argTypes := #[32, 23] }, type := 4, pos := "law.go:56", after := #[{ on := 22, ground := Ground.data }, { on := 24, ground := Ground.data }, { on := 24, ground := Ground.chain }, { on := 18, ground := Ground.guard }], guard := some (18, false) }) rfl (fun K hK => ?_) AllReadyH.nil
          go_simp
          refine (KE.out _ _ _ h3.out hr5.out).mono ?_; rintro e w6 ⟨rfl, hb⟩; (try dsimp only); have h4 : Hid (Below wr.heap.size wr w6) := h3.out.trans (hb.mono h3.out.size); clear hb
          refine hK.out _ _ ?_ (fun hHeld => ?_)
          · exact hC'.out _ h4.out
          clear hK K
          try simp only [Act.put, List.setIfInBounds_toArray, List.set_cons_zero, List.set_cons_succ]
          refine wpAnyH_ready (rs := [31]) (by kernel_rfl) (by simp) ?_
          refine AllReadyH.cons (o := { dst := some 57, op := Op.call { callee := Callee.value (Operand.func 14), args := #[Operand.tmp 55, Operand.tmp 56], argTypes := #[32, 23] }, type := 4, pos := "law.go:56", after := #[{ on := 29, ground := Ground.data }, { on := 30, ground := Ground.data }, { on := 25, ground := Ground.chain }, { on := 18, ground := Ground.guard }], guard := some (18, false) }) rfl (fun K hK => ?_) AllReadyH.nil
          go_simp
          refine (KF.out _ h4.out).mono ?_; rintro e w7 ⟨rfl, hb⟩; (try dsimp only); have h5 : Hid (Below wr.heap.size wr w7) := h4.out.trans (hb.mono h4.out.size); clear hb
          refine hK.out _ _ ?_ (fun hHeld => ?_)
          · exact hC'.out _ h5.out
          clear hK K
          try simp only [Act.put, List.setIfInBounds_toArray, List.set_cons_zero, List.set_cons_succ]
          refine wpAnyH_take (i := 32) (oi := { dst := some 58, op := Op.binOp BinOp.neq 4 (Operand.tmp 51) (Operand.tmp 57) 4, type := 4, pos := "law.go:56", after := #[{ on := 25, ground := Ground.data }, { on := 31, ground := Ground.data }, { on := 18, ground := Ground.guard }], guard := some (18, false) }) (v := ?_) rfl (by kernel_rfl) (by kernel_rfl) (by kernel_rfl) (fun _ _ _ h => h) (Or.inl ⟨by rfl, ?_⟩) (by assumption) ?_
          rotate_left
          · intro w hSw; (try dsimp only at hSw); go_simp <;> with_reducible rfl
          simp only [Act.put, List.setIfInBounds_toArray, List.set_cons_zero, List.set_cons_succ]
          refine wpAnyH_take (i := 33) (oi := { dst := some 59, op := Op.pick (Operand.tmp 44) (Operand.const (Value.bool true)) (Operand.tmp 58), type := 4, pos := "law.go:56", after := #[{ on := 18, ground := Ground.data }, { on := 32, ground := Ground.data }], guard := none }) (v := ?_) rfl (by kernel_rfl) (by kernel_rfl) (by kernel_rfl) (fun _ _ _ h => h) (Or.inl ⟨by rfl, ?_⟩) (by assumption) ?_
          rotate_left
          · intro w hSw; (try dsimp only at hSw); go_simp <;> with_reducible rfl
          simp only [Act.put, List.setIfInBounds_toArray, List.set_cons_zero, List.set_cons_succ]
          refine wpAnyH_done (by kernel_rfl) ?_ _
          refine NoPanic.normal ?_
          clear KR KE KF KC' KD hC' hr5
          go_wp2
          exact ⟨⟨c + 1, by omega, by go_num, hS.out.over h5.out⟩, by simp [intOf]; omega⟩
      | false =>
        rw [hck] at KC KD
        have KC' : Hid (∀ V, Below wr.heap.size wr V → Calls Try.prog 11 #[.int .i64 n, .agg #[.int .i64 kd, .int .i64 kk, .slice os q cs]] V fun e w' => e = .returned (.int .i64 1) ∧ Below V.heap.size V w') := KC
        clear KC hck
        go_wp2_with fail
        go_region_held3 (fun V => V.cell? ⟨g, o + c * 3, none⟩ = some (.int .i64 kd) ∧ V.cell? ⟨g, o + c * 3 + 1, none⟩ = some (.int .i64 kk) ∧ V.cell? ⟨g, o + c * 3 + 2, none⟩ = some (.slice os q cs) ∧ V.cell? ⟨w.heap.size, 0, none⟩ = some (.int .i64 n)) (first | (exact hC'.out _ hd.out) | (exact hC'.out _ h1.out)) (first | (go_at_call 11; refine (KC'.out _ hd.out).mono ?_; rintro e w3 ⟨rfl, hb⟩; have h1 : Hid (Below wr.heap.size wr w3) := hd.out.trans hb; clear hb))
        all_goals
          have hd1 : Hid (Below wr.heap.size wr w3.drew) := h1.out.drew
          go_wp2_with fail
          go_region_held3 (fun V => V.cell? ⟨g, o + c * 3, none⟩ = some (.int .i64 kd) ∧ V.cell? ⟨g, o + c * 3 + 1, none⟩ = some (.int .i64 kk) ∧ V.cell? ⟨g, o + c * 3 + 2, none⟩ = some (.slice os q cs) ∧ V.cell? ⟨w.heap.size, 0, none⟩ = some (.int .i64 n)) (first | (exact hC'.out _ hd1.out) | (exact hC'.out _ h2.out) | (exact hC'.out _ h3.out) | (exact hC'.out _ h4.out) | (exact hC'.out _ h5.out)) (first | (go_at_call 12; refine (KD.out _ hd1.out).mono ?_; rintro e w4 ⟨rfl, hb⟩; have h2 : Hid (Below wr.heap.size wr w4) := hd1.out.trans (hb.mono hd1.out.size); clear hb) | (go_at_call 10; refine (KR.out _ h2.out).mono ?_; rintro e w5 ⟨o1, k1, rfl, hr5, hb⟩; have h3 : Hid (Below wr.heap.size wr w5) := h2.out.trans (hb.mono h2.out.size); clear hb) | (go_at_call 13; refine (KE.out _ _ _ h3.out hr5.out).mono ?_; rintro e w6 ⟨rfl, hb⟩; have h4 : Hid (Below wr.heap.size wr w6) := h3.out.trans (hb.mono h3.out.size); clear hb) | (go_at_call 14; refine (KF.out _ h4.out).mono ?_; rintro e w7 ⟨rfl, hb⟩; have h5 : Hid (Below wr.heap.size wr w7) := h4.out.trans (hb.mono h4.out.size); clear hb))
          all_goals
            clear KR KE KF KC' KD hC' hr5
            go_wp2
            exact ⟨⟨c + 1, by omega, by go_num, hS.out.over h5.out⟩, by simp [intOf]; omega⟩
    · as_aux_lemma =>
      have KT : Hid (∀ V, Below wr.heap.size wr V → Calls Try.prog 9 #[.slice ol L.length cl] V fun e w' => ∃ o2 c2, e = .returned (.slice o2 L.length c2) ∧ Hid (RowR w' (.slice o2 L.length c2) L) ∧ Below V.heap.size V w') := fun V h1 => by
        have := twinR L _ V (hS.out.rl.below h1 (Nat.le_refl _))
        rwa [hTw.out] at this
      have KR := hide' (rowAgain hS.out)
      have hbl : (broken L B).length ≤ 60 := Nat.le_trans (brk_len L B L.length) hf
      have KB : Hid (∀ V o2 c2 o3 c3, RowR V (.slice o2 L.length c2) L → RowI V (.slice o3 B.length c3) B → Calls Try.prog 16 #[.slice o2 L.length c2, .slice o3 B.length c3] V fun e w' => ∃ o4 c4, e = .returned (.slice o4 (broken L B).length c4) ∧ Hid (RowI w' (.slice o4 (broken L B).length c4) (ints (broken L B))) ∧ Below V.heap.size V w') := fun V o2 c2 o3 c3 h1 h2 => (brokenF L _ _ B V h1 h2 (by omega) (fun r hr => by have := hS.out.low r hr; omega)).mono fun e w' ⟨v', e1, e2, e3⟩ => by
        have e4 := RowI.of_owns e2
        obtain ⟨o4, c4, e5⟩ := e4.shape
        rw [ints_len] at e5
        subst e5
        exact ⟨o4, c4, e1, e4, e3⟩
      have KB2 : Hid (∀ V, Below wr.heap.size wr V → Calls Try.prog 17 #[.slice ol L.length cl, .slice ob B.length cb] V fun e w' => ∃ o4 c4, e = .returned (.slice o4 (broken L B).length c4) ∧ Hid (RowI w' (.slice o4 (broken L B).length c4) (ints (broken L B))) ∧ Below V.heap.size V w') := fun V h1 => (rBroken L _ _ B V (hS.out.rl.below h1 (Nat.le_refl _)) (hS.out.lb.below h1 (Nat.le_refl _)) (by omega) (fun r hr => by have := hS.out.low r hr; omega)).mono fun e w' ⟨v', e1, e2, e3⟩ => by
        have e4 := RowI.of_owns e2
        obtain ⟨o4, c4, e5⟩ := e4.shape
        rw [ints_len] at e5
        subst e5
        exact ⟨o4, c4, e1, e4, e3⟩
      have KI : Hid (∀ V va vb, RowI V va (ints (broken L B)) → RowI V vb (ints (broken L B)) → Calls Try.prog 15 #[va, vb] V fun e w' => e = .returned (.bool true) ∧ Below V.heap.size V w') := fun V va vb h1 h2 => by
        have := keepInts _ _ va vb V h1 h2 (by rw [ints_len]; omega) (by rw [ints_len]; omega)
        rwa [decide_eq_true rfl] at this
      clear hTw
      generalize (broken L B).length = bl at *
      generalize ints (broken L B) = bi at *
      go_wp2_with fail
      refine (KT.out _ (Below.refl _ _)).mono ?_
      rintro e w3 ⟨o2, c2, rfl, hr3, hb3⟩
      have h1 := hide' hb3
      clear hb3 KT
      go_wp2_with fail
      refine (KR.out _ h1.out).mono ?_
      rintro e w4 ⟨o3, c3, rfl, hr4, hb⟩
      have hr3' : Hid (RowR w4 (.slice o2 L.length c2) L) := hr3.out.below hb (Nat.le_refl _)
      have h2 : Hid (Below wr.heap.size wr w4) := h1.out.trans (hb.mono h1.out.size)
      clear hb KR hr3 h1
      go_wp2_with fail
      refine (KB.out _ _ _ _ _ hr3'.out hr4.out).mono ?_
      rintro e w5 ⟨o4, c4, rfl, hr5, hb⟩
      have h3 : Hid (Below wr.heap.size wr w5) := h2.out.trans (hb.mono h2.out.size)
      clear hb KB hr3' hr4 h2
      go_wp2_with fail
      refine (KB2.out _ h3.out).mono ?_
      rintro e w6 ⟨o5, c5, rfl, hr6, hb⟩
      have hr5' : Hid (RowI w6 (.slice o4 bl c4) bi) := hr5.out.below hb (Nat.le_refl _)
      have h4 : Hid (Below wr.heap.size wr w6) := h3.out.trans (hb.mono h3.out.size)
      clear hb KB2 hr5 h3
      go_wp2_with fail
      refine (KI.out _ _ _ hr5'.out hr6.out).mono ?_
      rintro e w7 ⟨rfl, hb⟩
      have h5 : Hid (Below wr.heap.size wr w7) := h4.out.trans (hb.mono h4.out.size)
      clear hb KI hr5' hr6 h4
      go_wp2_with (go_at_call 18; refine (K9.out _).mono ?_; rintro e w8 ⟨rfl, hb⟩)
      go_ret
      exact ⟨rfl, ((hS.out.over h5.out).over hb).bl⟩
end Go.Proofs.Ytnlpbhoilalgnaa
