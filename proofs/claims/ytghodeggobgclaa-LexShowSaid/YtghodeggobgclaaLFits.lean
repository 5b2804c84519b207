/- The document's fits: what it answers. -/
import Derived.Test.YtghodeggobgclaaLFitsM
import Derived.Test.YtghodeggobgclaaLRef3
namespace Go.Proofs.Ytghodeggobgclaa
open Go.RowKit Go.Shelf
theorem right_all {T : List UInt8} (h : rightT T = true) : T.length ≤ 9 ∧ ∀ c ∈ T, isDig c = true := by
  cases T with
  | nil => cases h
  | cons c r =>
    unfold rightT at h
    simp only [Bool.and_eq_true, decide_eq_true_eq] at h
    exact ⟨h.1.1, List.all_eq_true.1 h.2⟩
set_option maxRecDepth 100000 in
set_option maxHeartbeats 8000000 in
theorem rFits (t : Tok) (w : World) (hm : t.text.length ≤ 9223372036854775807) : Calls Try.prog 33 #[tv t] w fun e w' => e = .returned (.bool (fitsT t)) ∧ Below w.heap.size w w' := by
  have hsz := bs_size t.text
  have B0 : Hid (Below w.heap.size w (w.alloc (.cells #[.int .i64 t.kind, .string (bs t.text), .int .i64 t.num, .int .i64 t.line, .int .i64 t.col] 35))) := (Below.refl _ w).alloc (Nat.le_refl _) _
  unfold tv
  by_cases h1 : t.kind = 1
  · have hf : Hid (fitsT t = (legalT t.text && (t.num == 0))) := by show _ = _; unfold fitsT; rw [if_pos h1, int_beq]
    rw [hf.out]
    have K := hide' (rLegal t.text (w.alloc (.cells #[.int .i64 t.kind, .string (bs t.text), .int .i64 t.num, .int .i64 t.line, .int .i64 t.col] 35)) hm)
    have q1 : (t.kind == 1) = true := by simpa using h1
    clear hf h1 hm
    cases hl : legalT t.text <;> rw [hl] at K
    all_goals
      clear hl
      generalize bs t.text = sx at *
      generalize t.kind = kd at *
      go_enter Try.func33, Try.ntmps33
      go_wp2_with fail
      refine K.out.mono ?_
      rintro e w1 ⟨rfl, rfl⟩
      go_wp2_with fail
      go_ret
      exact ⟨by first | rfl | simp, B0.out⟩
  · have q1 : (t.kind == 1) = false := by simpa using h1
    by_cases h2 : t.kind = 2
    · have hf : Hid (fitsT t = (rightT t.text && (t.num == ((valu t.text : Nat) : Int)))) := by show _ = _; unfold fitsT; rw [if_neg h1, if_pos h2, int_beq]
      rw [hf.out]
      have K : Hid (∀ W, Calls Try.prog 43 #[.string (bs t.text)] W fun e w' => e = .returned (.bool (rightT t.text)) ∧ w' = W) := fun W => rRight t.text W hm
      have q2 : (t.kind == 2) = true := by simpa using h2
      cases hl : rightT t.text
      · rw [hl] at K
        clear hf h1 h2 hm hl
        generalize bs t.text = sx at *
        generalize t.kind = kd at *
        have hS : Hid ((w.alloc (.cells #[.int .i64 kd, .string sx, .int .i64 t.num, .int .i64 t.line, .int .i64 t.col] 35)).drew.cell? ⟨w.heap.size, 1, none⟩ = some (.string sx) ∧ (w.alloc (.cells #[.int .i64 kd, .string sx, .int .i64 t.num, .int .i64 t.line, .int .i64 t.col] 35)).drew.cell? ⟨w.heap.size, 2, none⟩ = some (.int .i64 t.num)) := by
          obtain ⟨-, y1, y2, -, -⟩ := tbox_cells (show tbox (w.alloc (.cells #[.int .i64 kd, .string sx, .int .i64 t.num, .int .i64 t.line, .int .i64 t.col] 35)) w.heap.size (.int .i64 kd) (.string sx) (.int .i64 t.num) (.int .i64 t.line) (.int .i64 t.col) from heap_alloc_new w _)
          exact ⟨y1, y2⟩
        go_enter Try.func33, Try.ntmps33
        go_upto_region 5 with fail
        have KQ := K
        refine wp_region_held_drew (S := (fun V => V.cell? ⟨w.heap.size, 1, none⟩ = some (.string sx) ∧ V.cell? ⟨w.heap.size, 2, none⟩ = some (.int .i64 t.num))) (by kernel_rfl) ?_ (fun hHeld => ?_)
        · exact hS.out
        refine wpAnyH_take (i := 0) (oi := { dst := some 17, op := Op.fieldAddr 35 (Operand.tmp 1) 1, type := 0, pos := "ref.go:150", after := #[], guard := none }) (v := ?_) rfl (by kernel_rfl) (by kernel_rfl) (by kernel_rfl) (fun _ _ _ h => h) (Or.inl ⟨by rfl, ?_⟩) (by assumption) ?_
        rotate_left
        · intro w hSw; (try dsimp only at hSw); go_simp <;> with_reducible rfl
        simp only [Act.put, List.setIfInBounds_toArray, List.set_cons_zero, List.set_cons_succ]
        refine wpAnyH_take (i := 1) (oi := { dst := some 18, op := Op.load 9 (Operand.tmp 17), type := 9, pos := "ref.go:150", after := #[{ on := 0, ground := Ground.data }], guard := none }) (v := ?_) rfl (by kernel_rfl) (by kernel_rfl) (by kernel_rfl) (fun _ _ _ h => h) (Or.inl ⟨by rfl, ?_⟩) (by assumption) ?_
        rotate_left
        · intro w hSw; (try dsimp only at hSw); go_simp <;> with_reducible rfl
        simp only [Act.put, List.setIfInBounds_toArray, List.set_cons_zero, List.set_cons_succ]
        refine wpAnyH_ready (rs := [2]) (by kernel_rfl) (by simp) ?_
        refine AllReadyH.cons (o := { dst := some 19, op := Op.call { callee := Callee.value (Operand.func 43), args := #[Operand.tmp 18], argTypes := #[9] }, type := 4, pos := "ref.go:150", after := #[{ on := 1, ground := Ground.data }], guard := none }) rfl (fun K hK => ?_) AllReadyH.nil
        go_simp
        refine (KQ.out _).mono ?_; rintro e w1 ⟨rfl, rfl⟩; (try dsimp only)
        refine hK.out _ _ ?_ (fun hHeld => ?_)
        · exact hS.out
        clear hK K
        try simp only [Act.put, List.setIfInBounds_toArray, List.set_cons_zero, List.set_cons_succ]
        refine wpAnyH_take (i := 3) (oi := { dst := some 20, op := Op.move (Operand.tmp 19), type := 4, pos := "ref.go:150", after := #[{ on := 2, ground := Ground.data }, { on := 2, ground := Ground.chain }], guard := none }) (v := ?_) rfl (by kernel_rfl) (by kernel_rfl) (by kernel_rfl) (fun _ _ _ h => h) (Or.inl ⟨by rfl, ?_⟩) (by assumption) ?_
        rotate_left
        · intro w hSw; (try dsimp only at hSw); go_simp <;> with_reducible rfl
        simp only [Act.put, List.setIfInBounds_toArray, List.set_cons_zero, List.set_cons_succ]
        refine wpAnyH_take (i := 4) (oi := { dst := some 21, op := Op.fieldAddr 35 (Operand.tmp 1) 2, type := 0, pos := "ref.go:150", after := #[{ on := 3, ground := Ground.guard }], guard := some (3, true) }) (v := undef) rfl (by kernel_rfl) (by kernel_rfl) (by kernel_rfl) (fun _ _ _ h => h) (Or.inr ⟨by rfl, rfl⟩) (by assumption) ?_
        simp only [Act.put, List.setIfInBounds_toArray, List.set_cons_zero, List.set_cons_succ]
        refine wpAnyH_take (i := 5) (oi := { dst := some 22, op := Op.load 3 (Operand.tmp 21), type := 3, pos := "ref.go:150", after := #[{ on := 4, ground := Ground.data }, { on := 3, ground := Ground.guard }], guard := some (3, true) }) (v := undef) rfl (by kernel_rfl) (by kernel_rfl) (by kernel_rfl) (fun _ _ _ h => h) (Or.inr ⟨by rfl, rfl⟩) (by assumption) ?_
        simp only [Act.put, List.setIfInBounds_toArray, List.set_cons_zero, List.set_cons_succ]
        refine wpAnyH_take (i := 6) (oi := { dst := some 23, op := Op.fieldAddr 35 (Operand.tmp 1) 1, type := 0, pos := "ref.go:150", after := #[{ on := 3, ground := Ground.guard }], guard := some (3, true) }) (v := undef) rfl (by kernel_rfl) (by kernel_rfl) (by kernel_rfl) (fun _ _ _ h => h) (Or.inr ⟨by rfl, rfl⟩) (by assumption) ?_
        simp only [Act.put, List.setIfInBounds_toArray, List.set_cons_zero, List.set_cons_succ]
        refine wpAnyH_take (i := 7) (oi := { dst := some 24, op := Op.load 9 (Operand.tmp 23), type := 9, pos := "ref.go:150", after := #[{ on := 6, ground := Ground.data }, { on := 3, ground := Ground.guard }], guard := some (3, true) }) (v := undef) rfl (by kernel_rfl) (by kernel_rfl) (by kernel_rfl) (fun _ _ _ h => h) (Or.inr ⟨by rfl, rfl⟩) (by assumption) ?_
        simp only [Act.put, List.setIfInBounds_toArray, List.set_cons_zero, List.set_cons_succ]
        refine wpAnyH_take (i := 8) (oi := { dst := some 25, op := Op.call { callee := Callee.value (Operand.func 44), args := #[Operand.tmp 24], argTypes := #[9] }, type := 3, pos := "ref.go:150", after := #[{ on := 7, ground := Ground.data }, { on := 3, ground := Ground.chain }, { on := 3, ground := Ground.guard }], guard := some (3, true) }) (v := undef) rfl (by kernel_rfl) (by kernel_rfl) (by kernel_rfl) (fun _ _ _ h => h) (Or.inr ⟨by rfl, rfl⟩) (by assumption) ?_
        simp only [Act.put, List.setIfInBounds_toArray, List.set_cons_zero, List.set_cons_succ]
        refine wpAnyH_take (i := 9) (oi := { dst := some 26, op := Op.binOp BinOp.eql 3 (Operand.tmp 22) (Operand.tmp 25) 3, type := 4, pos := "ref.go:150", after := #[{ on := 5, ground := Ground.data }, { on := 8, ground := Ground.data }, { on := 3, ground := Ground.guard }], guard := some (3, true) }) (v := undef) rfl (by kernel_rfl) (by kernel_rfl) (by kernel_rfl) (fun _ _ _ h => h) (Or.inr ⟨by rfl, rfl⟩) (by assumption) ?_
        simp only [Act.put, List.setIfInBounds_toArray, List.set_cons_zero, List.set_cons_succ]
        refine wpAnyH_take (i := 10) (oi := { dst := some 27, op := Op.pick (Operand.tmp 20) (Operand.tmp 26) (Operand.const (Value.bool false)), type := 4, pos := "ref.go:150", after := #[{ on := 3, ground := Ground.data }, { on := 9, ground := Ground.data }], guard := none }) (v := ?_) rfl (by kernel_rfl) (by kernel_rfl) (by kernel_rfl) (fun _ _ _ h => h) (Or.inl ⟨by rfl, ?_⟩) (by assumption) ?_
        rotate_left
        · intro w hSw; (try dsimp only at hSw); go_simp <;> with_reducible rfl
        simp only [Act.put, List.setIfInBounds_toArray, List.set_cons_zero, List.set_cons_succ]
        refine wpAnyH_take (i := 11) (oi := { dst := some 2, op := Op.assign (Operand.tmp 27), type := 4, pos := "ref.go:150", after := #[{ on := 10, ground := Ground.data }, { on := 8, ground := Ground.chain }, { on := 0, ground := Ground.phase }, { on := 1, ground := Ground.phase }, { on := 2, ground := Ground.phase }, { on := 3, ground := Ground.phase }, { on := 4, ground := Ground.phase }, { on := 5, ground := Ground.phase }, { on := 6, ground := Ground.phase }, { on := 7, ground := Ground.phase }, { on := 8, ground := Ground.phase }, { on := 9, ground := Ground.phase }, { on := 10, ground := Ground.phase }], guard := none }) (v := ?_) rfl (by kernel_rfl) (by kernel_rfl) (by kernel_rfl) (fun _ _ _ h => h) (Or.inl ⟨by rfl, ?_⟩) (by assumption) ?_
        rotate_left
        · intro w hSw; (try dsimp only at hSw); go_simp <;> with_reducible rfl
        simp only [Act.put, List.setIfInBounds_toArray, List.set_cons_zero, List.set_cons_succ]
        refine wpAnyH_done (by kernel_rfl) ?_ _
        skip
        go_wp2_with fail
        go_ret
        exact ⟨by first | rfl | simp, B0.out.drew⟩
      · rw [hl] at K
        obtain ⟨hr1, hr2⟩ := right_all hl
        have KV : Hid (∀ W, Calls Try.prog 44 #[.string (bs t.text)] W fun e w' => e = .returned (.int .i64 (valu t.text : Nat)) ∧ w' = W) := fun W => rValue t.text W hr1 hr2
        clear hf h1 h2 hm hl hr1 hr2
        generalize valu t.text = vv at *
        generalize bs t.text = sx at *
        generalize t.kind = kd at *
        have hS : Hid ((w.alloc (.cells #[.int .i64 kd, .string sx, .int .i64 t.num, .int .i64 t.line, .int .i64 t.col] 35)).drew.cell? ⟨w.heap.size, 1, none⟩ = some (.string sx) ∧ (w.alloc (.cells #[.int .i64 kd, .string sx, .int .i64 t.num, .int .i64 t.line, .int .i64 t.col] 35)).drew.cell? ⟨w.heap.size, 2, none⟩ = some (.int .i64 t.num)) := by
          obtain ⟨-, y1, y2, -, -⟩ := tbox_cells (show tbox (w.alloc (.cells #[.int .i64 kd, .string sx, .int .i64 t.num, .int .i64 t.line, .int .i64 t.col] 35)) w.heap.size (.int .i64 kd) (.string sx) (.int .i64 t.num) (.int .i64 t.line) (.int .i64 t.col) from heap_alloc_new w _)
          exact ⟨y1, y2⟩
        go_enter Try.func33, Try.ntmps33
        go_upto_region 5 with fail
        go_region_held3 (fun V => V.cell? ⟨w.heap.size, 1, none⟩ = some (.string sx) ∧ V.cell? ⟨w.heap.size, 2, none⟩ = some (.int .i64 t.num)) (first | (assumption) | (exact hS.out)) (first | (go_at_call 43; refine (K.out _).mono ?_; rintro e w1 ⟨rfl, rfl⟩) | (go_at_call 44; refine (KV.out _).mono ?_; rintro e w1 ⟨rfl, rfl⟩))
        go_wp2_with fail
        go_ret
        exact ⟨by first | rfl | simp, B0.out.drew⟩
    · have q2 : (t.kind == 2) = false := by simpa using h2
      by_cases h3 : t.kind = 3
      · have q3 : (t.kind == 3) = true := by simpa using h3
        have hf : Hid (fitsT t = (match t.text with | [c] => isMk c && (t.num == 0) | _ => false)) := by
          show _ = _
          unfold fitsT
          rw [if_neg h1, if_neg h2, if_pos h3]
          rcases t.text with _ | ⟨c, _ | ⟨d, r⟩⟩
          · rfl
          · show (isMk c && _) = (isMk c && _)
            rw [int_beq]
          · rfl
        rw [hf.out]
        clear hf h1 h2 h3
        cases htx : t.text with
        | nil =>
          rw [htx] at hsz B0
          have hz : ((0 : Int) == 1) = false := by decide
          generalize bs [] = sx at *
          rw [List.length_nil] at hsz
          generalize t.kind = kd at *
          clear hm htx
          go_enter Try.func33, Try.ntmps33
          go_wp2_with fail
          go_ret
          exact ⟨rfl, B0.out⟩
        | cons c r =>
          cases r with
          | nil =>
            rw [htx] at hsz B0
            obtain ⟨q0, e0⟩ := bs_at (l := [c]) (i := 0) (x := c) rfl
            have K : Hid (∀ W, Calls Try.prog 45 #[.int .u8 (c.toNat : Int)] W fun e w' => e = .returned (.bool (isMk c)) ∧ w' = W) := fun W => rMark c W
            have hs1 : (bs [c]).size = 1 := hsz
            dsimp only
            cases hmk : isMk c <;> rw [hmk] at K
            all_goals
              clear hmk hsz hm htx
              generalize bs [c] = sx at *
              generalize t.kind = kd at *
              go_enter Try.func33, Try.ntmps33
              go_wp2_with fail
              refine (K.out _).mono ?_
              rintro e w1 ⟨rfl, rfl⟩
              go_wp2_with fail
              go_ret
              exact ⟨by first | rfl | simp, B0.out⟩
          | cons d r =>
            rw [htx] at hsz B0 hm
            simp only [List.length_cons] at hsz hm
            have hz : (((r.length + 1 + 1 : Nat) : Int) == 1) = false := by rw [beq_eq_false_iff_ne]; omega
            generalize r.length + 1 + 1 = m at *
            generalize bs (c :: d :: r) = sx at *
            generalize t.kind = kd at *
            clear htx
            go_enter Try.func33, Try.ntmps33
            go_wp2_with fail
            go_ret
            exact ⟨rfl, B0.out⟩
      · have q3 : (t.kind == 3) = false := by simpa using h3
        by_cases h4 : t.kind = 4
        · have hf : Hid (fitsT t = ((bs t.text).toList.isEmpty && (t.num == 0))) := by show _ = _; unfold fitsT; rw [if_neg h1, if_neg h2, if_neg h3, if_pos h4, ba_empty, int_beq]
          rw [hf.out]
          have q4 : (t.kind == 4) = true := by simpa using h4
          clear hf h1 h2 h3 h4 hm
          cases he : (bs t.text).toList.isEmpty
          all_goals
            generalize bs t.text = sx at *
            generalize t.kind = kd at *
            go_enter Try.func33, Try.ntmps33
            go_wp2_with fail
            go_ret
            exact ⟨by first | rfl | simp, B0.out⟩
        · have hf : Hid (fitsT t = false) := by show _ = _; unfold fitsT; rw [if_neg h1, if_neg h2, if_neg h3, if_neg h4]
          rw [hf.out]
          have q4 : (t.kind == 4) = false := by simpa using h4
          clear hf h1 h2 h3 h4 hm
          generalize bs t.text = sx at *
          generalize t.kind = kd at *
          go_enter Try.func33, Try.ntmps33
          go_wp2_with fail
          go_ret
          exact ⟨rfl, B0.out⟩
end Go.Proofs.Ytghodeggobgclaa
