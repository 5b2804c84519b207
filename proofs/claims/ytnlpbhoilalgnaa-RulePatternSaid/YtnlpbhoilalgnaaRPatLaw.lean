/- RulePattern: it returns true. -/
import Derived.Test.YtnlpbhoilalgnaaRSet
import Derived.Test.YtnlpbhoilalgnaaRPatM
import Derived.Test.YtnlpbhoilalgnaaRClash
import Derived.Deep.QuietTactic
import Derived.BigQuiet
import Derived.Deep.CutRange
namespace Go.Proofs.Ytnlpbhoilalgnaa
open Go.RowKit
theorem shr_bitP (x i : Nat) (hx : x < 18446744073709551616) : (bits .and .u64 ((x : Int) / 2 ^ i) 1 == 1) = x.testBit i := by
  have e1 : (x : Int) / 2 ^ i = ((x / 2 ^ i : Nat) : Int) := by simp
  have hl : x / 2 ^ i < 18446744073709551616 := Nat.lt_of_le_of_lt (Nat.div_le_self _ _) hx
  rw [e1, show (1 : Int) = ((1 : Nat) : Int) from rfl, u64_and_nat _ 1 hl (by omega), nat_mask1, Nat.testBit_eq_decide_div_mod_eq]
  rw [Bool.eq_iff_iff]; simp; omega
theorem St.cutP {w W : World} {n : Int} {ol : Option Addr} {cl : Nat} {L : List Rl} {ob : Option Addr} {cb : Nat} {B : List Int} (h : St w W n ol cl L ob cb B) {m : Nat} (hm : m ≤ B.length) : St w W n ol cl L ob cb (B.take m) :=
  ⟨h.xN, h.rl, by have := row_take h.lb hm; rwa [show (B.take m).length = m by rw [List.length_take]; omega], h.bl, h.few, h.low, by have := h.fewB; rw [List.length_take]; omega⟩
set_option maxRecDepth 100000 in
set_option maxHeartbeats 8000000 in
theorem rulePattern_walk (n : Int) (L0 : List Rl) (B0 : List Int) (or : Option Addr) (cr : Nat) (oB : Option Addr) (cB : Nat) (on : Option Addr) (ln cn : Nat) (w : World) (hr : RowR w (.slice or L0.length cr) L0) (hl : RowI w (.slice oB B0.length cB) B0) (hw : ∀ z ∈ B0, (Lit.int .i64 z).wf = true) :
    Calls Try.prog 8 #[.agg #[.int .i64 n, .slice or L0.length cr, .slice oB B0.length cB, .slice on ln cn]] w fun e w' => e = .returned (.bool true) ∧ Below w.heap.size w w' := by
  have hB : Hid (Below w.heap.size w (w.alloc (.cells #[.int .i64 n, .slice or L0.length cr, .slice oB B0.length cB, .slice on ln cn] 26))) := (Below.refl _ w).alloc (Nat.le_refl _) _
  have hbox : Hid (∀ V, Below (w.alloc (.cells #[.int .i64 n, .slice or L0.length cr, .slice oB B0.length cB, .slice on ln cn] 26)).heap.size (w.alloc (.cells #[.int .i64 n, .slice or L0.length cr, .slice oB B0.length cB, .slice on ln cn] 26)) V → V.cell? ⟨w.heap.size, 0, none⟩ = some (.int .i64 n) ∧ V.cell? ⟨w.heap.size, 2, none⟩ = some (.slice oB B0.length cB)) := fun V hV => by
    have e : V.heap[w.heap.size]? = some (.cells #[.int .i64 n, .slice or L0.length cr, .slice oB B0.length cB, .slice on ln cn] 26) := by
      rw [hV.block _ (by simp)]
      exact heap_new w _
    simp [World.cell?, e]
  have K1 := hide' (twinR L0 _ _ (hr.below hB.out (Nat.le_refl _)))
  have K2 : Hid (∀ V, Below w.heap.size w V → Calls Try.prog 10 #[.slice oB B0.length cB] V fun e w' => ∃ ob cb, e = .returned (.slice ob (B0.take 40).length cb) ∧ RowI w' (.slice ob (B0.take 40).length cb) (B0.take 40) ∧ Below V.heap.size V w') := fun V hV => rowR B0 _ V (hl.below hV (Nat.le_refl _))
  have K9 := hide' wakesR
  clear hr hl
  go_enter Try.func8, Try.ntmps8
  go_wp2_with fail
  refine K1.out.mono ?_
  rintro e w1 ⟨ol, cl, rfl, hr1, hb1⟩
  obtain ⟨x0, x2⟩ := hbox.out _ hb1
  have hB1 : Hid (Below w.heap.size w w1) := hB.out.trans (hb1.mono hB.out.size)
  have hb1' := hide' hb1
  have hr1' := hide' hr1
  clear K1 hr1 hb1 hB
  go_wp2_with fail
  refine (K2.out _ hB1.out).mono ?_
  rintro e w2 ⟨ob, cb, rfl, hr2, hb2⟩
  have hS0 : Hid (St w w2 n ol cl (twin L0) ob cb (B0.take 40)) := ⟨(hbox.out _ (hb1'.out.trans (hb2.mono hb1'.out.size))).1, hr1'.out.below hb2 (Nat.le_refl _), hr2, hB1.out.trans (hb2.mono hB1.out.size), twin_len L0, fun r h => twin_steps h, by rw [List.length_take]; omega⟩
  have hTw := hide' (twin_twin L0)
  clear hr2 hb2 hb1' hr1' hB1 hbox K2 x0 x2
  have hwB : Hid (∀ z ∈ B0.take 40, (Lit.int .i64 z).wf = true) := fun z hz => hw z (List.mem_of_mem_take hz)
  clear hw
  generalize twin L0 = L at *
  generalize B0.take 40 = B at *
  by_cases hlong : 12 < B.length
  · as_aux_lemma =>
    obtain ⟨gb, pb, cbn, rfl⟩ : ∃ (gb pb : Nat), B.length ≤ cb ∧ ob = some ⟨gb, pb, none⟩ := by
      obtain ⟨_, _, e, h1, h⟩ := hS0.out.lb
      cases e
      obtain ⟨gb, pb, e, _⟩ := h 0 B[0] (List.getElem?_eq_getElem (by omega))
      exact ⟨gb, pb, h1.1, e⟩
    obtain ⟨B2, hB2⟩ : ∃ B2, B2 = B.take 12 := ⟨_, rfl⟩
    have hp : Hid (B2.length = 12) := by show _ = _; rw [hB2, List.length_take]; omega
    have hS : Hid (St w w2 n ol cl L (some ⟨gb, pb, none⟩) cb B2) := by rw [hB2]; exact hS0.out.cutP (by omega)
    have hwf : Hid (∀ z ∈ B2, (Lit.int .i64 z).wf = true) := fun z hz => by
      rw [hB2] at hz
      exact hwB.out z (List.mem_of_mem_take hz)
    clear hS0 hB2 hwB
    have KR0 : Hid (∀ V, Below w2.heap.size w2 V → Calls Try.prog 10 #[.slice (some ⟨gb, pb, none⟩) 12 cb] V fun e w' => ∃ o1 k1, e = .returned (.slice o1 12 k1) ∧ Hid (RowI w' (.slice o1 12 k1) B2) ∧ Below V.heap.size V w') := fun V h1 => by
      have := rowAgain hS.out V h1
      rwa [hp.out] at this
    have KOf : Hid (∀ V o1 k1, RowI V (.slice o1 12 k1) B2 → Calls Try.prog 30 #[.slice o1 12 k1] V fun e w' => ∃ g, e = .returned (.tuple #[.slice (some ⟨g, 0, none⟩) 12 12, .int .i64 0]) ∧ Hid (RowI w' (.slice (some ⟨g, 0, none⟩) 12 12) (ints (pat B2))) ∧ Below V.heap.size V w') := fun V o1 k1 h1 => by
      have := ofP B2 _ V h1 (by rw [hp.out]; omega) hwf.out
      refine this.mono fun e w' ⟨g, e1, e2, e3⟩ => ?_
      rw [hp.out] at e1 e2
      refine ⟨g, e1, ?_, e3⟩
      have e4 : w'.ownsRow V.heap.size 3 1 (.slice (some ⟨g, 0, none⟩) 12 12) (ints (pat B2)).length (cellsI (ints (pat B2))) := by
        rw [ints_len, pat_len, hp.out]; exact e2
      exact RowI.of_owns e4
    go_wp2_with fail
    refine (KR0.out _ (Below.refl _ _)).mono ?_
    rintro e w3 ⟨o1, k1, rfl, hr3, hb3⟩
    have hS3 := hide' (hS.out.over hb3)
    clear KR0 hb3 hS
    go_wp2_with fail
    refine (KOf.out _ _ _ hr3.out).mono ?_
    rintro e w4 ⟨gp, rfl, hr4, hb4⟩
    have hS4 := hide' (hS3.out.over hb4)
    clear KOf hb4 hS3 hr3
    go_wp2_with (go_at_call 18; refine (K9.out _).mono ?_; rintro e w5 ⟨rfl, hb⟩)
    have hS5 := hide' (hS4.out.over hb)
    have hr5 : Hid (RowI w5 (.slice (some ⟨gp, 0, none⟩) 12 12) (ints (pat B2))) := hr4.out.below hb (Nat.le_refl _)
    clear hb hS4 hr4 K9
    go_loopw [7] (fun k wr => ∃ c : Nat, c ≤ L.length ∧ k = .int .i64 c ∧ Hid (St w wr n ol cl L (some ⟨gb, pb, none⟩) cb B2) ∧ Hid (RowI wr (.slice (some ⟨gp, 0, none⟩) 12 12) (ints (pat B2)))) (fun k _ => ((L.length : Int) - intOf k).toNat)
    case atStart => exact ⟨0, Nat.zero_le _, rfl, hS5, hr5⟩
    case round =>
      clear hS5 hr5
      obtain ⟨c, hcl, rfl, hS, hP⟩ := hrel
      have hf := hS.out.few
      by_cases hlt : c < L.length
      · as_aux_lemma =>
        obtain ⟨r, hx⟩ : ∃ r, L[c]? = some r := ⟨_, List.getElem?_eq_getElem hlt⟩
        obtain ⟨g, o, os, cs, rfl, hC, hV⟩ := hS.out.cells hx
        have hC' := hide' hC
        have hm := hS.out.low r (List.mem_of_getElem? hx)
        have KR1 : Hid (∀ V, Below wr.heap.size wr V → Calls Try.prog 10 #[.slice (some ⟨gb, pb, none⟩) 12 cb] V fun e w' => ∃ o1 k1, e = .returned (.slice o1 12 k1) ∧ Hid (RowI w' (.slice o1 12 k1) B2) ∧ Below V.heap.size V w') := fun V h1 => by
          have := rowAgain hS.out V h1
          rwa [hp.out] at this
        have KR2 : Hid (∀ V, Below wr.heap.size wr V → Calls Try.prog 10 #[.slice (some ⟨gp, 0, none⟩) 12 12] V fun e w' => ∃ o1 k1, e = .returned (.slice o1 12 k1) ∧ Hid (RowI w' (.slice o1 12 k1) (ints (pat B2))) ∧ Below V.heap.size V w') := fun V h1 => by
          have := rowR (ints (pat B2)) _ V (hP.out.below h1 (Nat.le_refl _))
          rwa [take40_of (by rw [ints_len, pat_len, hp.out]; omega), ints_len, pat_len, hp.out] at this
        have KH1 : Hid (∀ V o1 k1, Below wr.heap.size wr V → RowI V (.slice o1 12 k1) B2 → Calls Try.prog 13 #[.agg #[.int .i64 r.kind, .int .i64 r.k, .slice os r.steps.length cs], .slice o1 12 k1] V fun e w' => e = .returned (.bool (holds r B2)) ∧ Below V.heap.size V w') := fun V o1 k1 h1 h2 => holdsF r _ _ B2 V (hV V h1) h2 (by omega)
        have KH2 : Hid (∀ V o1 k1, Below wr.heap.size wr V → RowI V (.slice o1 12 k1) (ints (pat B2)) → Calls Try.prog 13 #[.agg #[.int .i64 r.kind, .int .i64 r.k, .slice os r.steps.length cs], .slice o1 12 k1] V fun e w' => e = .returned (.bool (holds r B2)) ∧ Below V.heap.size V w') := fun V o1 k1 h1 h2 => by
          have := holdsF r _ _ (ints (pat B2)) V (hV V h1) h2 (by omega)
          rwa [holds_pat] at this
        have hd : Hid (Below wr.heap.size wr wr.drew) := (Below.refl _ _).drew
        clear hC hV hx hTw hwf
        generalize holds r B2 = bH at *
        generalize r.steps.length = q at *
        generalize r.kind = kd at *
        generalize r.k = kk at *
        go_wp2_with fail
        refine wp_region_noPanic (wp_region_held_drew (S := (fun V => V.cell? ⟨g, o + c * 3, none⟩ = some (.int .i64 kd) ∧ V.cell? ⟨g, o + c * 3 + 1, none⟩ = some (.int .i64 kk) ∧ V.cell? ⟨g, o + c * 3 + 2, none⟩ = some (.slice os q cs) ∧ V.cell? ⟨w.heap.size, 0, none⟩ = some (.int .i64 n))) (by kernel_rfl) ?_ (fun hHeld => ?_))
        · exact hC'.out _ hd.out
        refine wpAnyH_take (i := 0) (oi := { dst := some 42, op := Op.move (Operand.tmp 3), type := 22, pos := "law.go:188", after := #[], guard := none }) (v := ?_) rfl (by kernel_rfl) (by kernel_rfl) (by kernel_rfl) (fun _ _ _ h => h) (Or.inl ⟨by rfl, ?_⟩) (by assumption) ?_
        rotate_left
        · intro w hSw; (try dsimp only at hSw); go_simp <;> with_reducible rfl
        simp only [Act.put, List.setIfInBounds_toArray, List.set_cons_zero, List.set_cons_succ]
        refine wpAnyH_take (i := 1) (oi := { dst := some 43, op := Op.move (Operand.tmp 7), type := 3, pos := "law.go:188", after := #[], guard := none }) (v := ?_) rfl (by kernel_rfl) (by kernel_rfl) (by kernel_rfl) (fun _ _ _ h => h) (Or.inl ⟨by rfl, ?_⟩) (by assumption) ?_
        rotate_left
        · intro w hSw; (try dsimp only at hSw); go_simp <;> with_reducible rfl
        simp only [Act.put, List.setIfInBounds_toArray, List.set_cons_zero, List.set_cons_succ]
        refine wpAnyH_take (i := 2) (oi := { dst := some 44, op := Op.indexAddr 22 (Operand.tmp 42) (Operand.tmp 43), type := 0, pos := "law.go:188", after := #[{ on := 0, ground := Ground.data }, { on := 1, ground := Ground.data }], guard := none }) (v := ?_) rfl (by kernel_rfl) (by kernel_rfl) (by kernel_rfl) (fun _ _ _ h => h) (Or.inl ⟨by rfl, ?_⟩) (by assumption) ?_
        rotate_left
        · intro w hSw; (try dsimp only at hSw); go_simp <;> with_reducible rfl
        simp only [Act.put, List.setIfInBounds_toArray, List.set_cons_zero, List.set_cons_succ]
        refine wpAnyH_take (i := 3) (oi := { dst := some 45, op := Op.load 32 (Operand.tmp 44), type := 32, pos := "law.go:188", after := #[{ on := 2, ground := Ground.data }], guard := none }) (v := ?_) rfl (by kernel_rfl) (by kernel_rfl) (by kernel_rfl) (fun _ _ _ h => h) (Or.inl ⟨by rfl, ?_⟩) (by assumption) ?_
        rotate_left
        · intro w hSw; (try dsimp only at hSw); go_simp <;> with_reducible rfl
        simp only [Act.put, List.setIfInBounds_toArray, List.set_cons_zero, List.set_cons_succ]
        refine wpAnyH_take (i := 4) (oi := { dst := some 46, op := Op.move (Operand.tmp 4), type := 23, pos := "law.go:188", after := #[], guard := none }) (v := ?_) rfl (by kernel_rfl) (by kernel_rfl) (by kernel_rfl) (fun _ _ _ h => h) (Or.inl ⟨by rfl, ?_⟩) (by assumption) ?_
        rotate_left
        · intro w hSw; (try dsimp only at hSw); go_simp <;> with_reducible rfl
        simp only [Act.put, List.setIfInBounds_toArray, List.set_cons_zero, List.set_cons_succ]
        refine wpAnyH_take (i := 7) (oi := { dst := some 49, op := Op.move (Operand.tmp 3), type := 22, pos := "law.go:188", after := #[], guard := none }) (v := ?_) rfl (by kernel_rfl) (by kernel_rfl) (by kernel_rfl) (fun _ _ _ h => h) (Or.inl ⟨by rfl, ?_⟩) (by assumption) ?_
        rotate_left
        · intro w hSw; (try dsimp only at hSw); go_simp <;> with_reducible rfl
        simp only [Act.put, List.setIfInBounds_toArray, List.set_cons_zero, List.set_cons_succ]
        refine wpAnyH_take (i := 8) (oi := { dst := some 50, op := Op.move (Operand.tmp 7), type := 3, pos := "law.go:188", after := #[], guard := none }) (v := ?_) rfl (by kernel_rfl) (by kernel_rfl) (by kernel_rfl) (fun _ _ _ h => h) (Or.inl ⟨by rfl, ?_⟩) (by assumption) ?_
        rotate_left
        · intro w hSw; (try dsimp only at hSw); go_simp <;> with_reducible rfl
        simp only [Act.put, List.setIfInBounds_toArray, List.set_cons_zero, List.set_cons_succ]
        refine wpAnyH_take (i := 9) (oi := { dst := some 51, op := Op.indexAddr 22 (Operand.tmp 49) (Operand.tmp 50), type := 0, pos := "law.go:188", after := #[{ on := 7, ground := Ground.data }, { on := 8, ground := Ground.data }], guard := none }) (v := ?_) rfl (by kernel_rfl) (by kernel_rfl) (by kernel_rfl) (fun _ _ _ h => h) (Or.inl ⟨by rfl, ?_⟩) (by assumption) ?_
        rotate_left
        · intro w hSw; (try dsimp only at hSw); go_simp <;> with_reducible rfl
        simp only [Act.put, List.setIfInBounds_toArray, List.set_cons_zero, List.set_cons_succ]
        refine wpAnyH_take (i := 10) (oi := { dst := some 52, op := Op.load 32 (Operand.tmp 51), type := 32, pos := "law.go:188", after := #[{ on := 9, ground := Ground.data }], guard := none }) (v := ?_) rfl (by kernel_rfl) (by kernel_rfl) (by kernel_rfl) (fun _ _ _ h => h) (Or.inl ⟨by rfl, ?_⟩) (by assumption) ?_
        rotate_left
        · intro w hSw; (try dsimp only at hSw); go_simp <;> with_reducible rfl
        simp only [Act.put, List.setIfInBounds_toArray, List.set_cons_zero, List.set_cons_succ]
        refine wpAnyH_take (i := 11) (oi := { dst := some 53, op := Op.move (Operand.tmp 5), type := 23, pos := "law.go:188", after := #[], guard := none }) (v := ?_) rfl (by kernel_rfl) (by kernel_rfl) (by kernel_rfl) (fun _ _ _ h => h) (Or.inl ⟨by rfl, ?_⟩) (by assumption) ?_
        rotate_left
        · intro w hSw; (try dsimp only at hSw); go_simp <;> with_reducible rfl
        simp only [Act.put, List.setIfInBounds_toArray, List.set_cons_zero, List.set_cons_succ]
        refine wpAnyH_ready (rs := [5]) (by kernel_rfl) (by simp) ?_
        refine AllReadyH.cons (o := { dst := some 47, op := Op.call { callee := Callee.value (Operand.func 10), args := #[Operand.tmp 46], argTypes := #[23] }, type := 23, pos := "law.go:188", after := #[{ on := 4, ground := Ground.data }], guard := none }) rfl (fun K hK => ?_) AllReadyH.nil
        go_simp
        refine (KR1.out _ hd.out).mono ?_; rintro e w6 ⟨o1, k1, rfl, hr6, hb⟩; (try dsimp only); have h1 : Hid (Below wr.heap.size wr w6) := hd.out.trans (hb.mono hd.out.size); clear hb
        refine hK.out _ _ ?_ (fun hHeld => ?_)
        · exact hC'.out _ h1.out
        clear hK K
        try simp only [Act.put, List.setIfInBounds_toArray, List.set_cons_zero, List.set_cons_succ]
        refine wpAnyH_ready (rs := [6]) (by kernel_rfl) (by simp) ?_
        refine AllReadyH.cons (o := { dst := some 48, op := Op.call { callee := Callee.value (Operand.func 13), args := #[Operand.tmp 45, Operand.tmp 47], argTypes := #[32, 23] }, type := 4, pos := "law.go:188", after := #[{ on := 3, ground := Ground.data }, { on := 5, ground := Ground.data }, { on := 5, ground := Ground.chain }], guard := none }) rfl (fun K hK => ?_) AllReadyH.nil
        go_simp
        refine (KH1.out _ _ _ h1.out hr6.out).mono ?_; rintro e w7 ⟨rfl, hb⟩; (try dsimp only); have h2 : Hid (Below wr.heap.size wr w7) := h1.out.trans (hb.mono h1.out.size); clear hb
        refine hK.out _ _ ?_ (fun hHeld => ?_)
        · exact hC'.out _ h2.out
        clear hK K
        try simp only [Act.put, List.setIfInBounds_toArray, List.set_cons_zero, List.set_cons_succ]
        refine wpAnyH_ready (rs := [12]) (by kernel_rfl) (by simp) ?_
        refine AllReadyH.cons (o := { dst := some 54, op := Op.call { callee := Callee.value (Operand.func 10), args := #[Operand.tmp 53], argTypes := #[23] }, type := 23, pos := "law.go:188", after := #[{ on := 11, ground := Ground.data }, { on := 6, ground := Ground.chain }], guard := none }) rfl (fun K hK => ?_) AllReadyH.nil
        go_simp
        refine (KR2.out _ h2.out).mono ?_; rintro e w8 ⟨o3, k3, rfl, hr8, hb⟩; (try dsimp only); have h3 : Hid (Below wr.heap.size wr w8) := h2.out.trans (hb.mono h2.out.size); clear hb
        refine hK.out _ _ ?_ (fun hHeld => ?_)
        · exact hC'.out _ h3.out
        clear hK K
        try simp only [Act.put, List.setIfInBounds_toArray, List.set_cons_zero, List.set_cons_succ]
        refine wpAnyH_ready (rs := [13]) (by kernel_rfl) (by simp) ?_
        refine AllReadyH.cons (o := { dst := some 55, op := Op.call { callee := Callee.value (Operand.func 13), args := #[Operand.tmp 52, Operand.tmp 54], argTypes := #[32, 23] }, type := 4, pos := "law.go:188", after := #[{ on := 10, ground := Ground.data }, { on := 12, ground := Ground.data }, { on := 12, ground := Ground.chain }], guard := none }) rfl (fun K hK => ?_) AllReadyH.nil
        go_simp
        refine (KH2.out _ _ _ h3.out hr8.out).mono ?_; rintro e w9 ⟨rfl, hb⟩; (try dsimp only); have h4 : Hid (Below wr.heap.size wr w9) := h3.out.trans (hb.mono h3.out.size); clear hb
        refine hK.out _ _ ?_ (fun hHeld => ?_)
        · exact hC'.out _ h4.out
        clear hK K
        try simp only [Act.put, List.setIfInBounds_toArray, List.set_cons_zero, List.set_cons_succ]
        refine wpAnyH_take (i := 14) (oi := { dst := some 56, op := Op.binOp BinOp.neq 4 (Operand.tmp 48) (Operand.tmp 55) 4, type := 4, pos := "law.go:188", after := #[{ on := 6, ground := Ground.data }, { on := 13, ground := Ground.data }], guard := none }) (v := ?_) rfl (by kernel_rfl) (by kernel_rfl) (by kernel_rfl) (fun _ _ _ h => h) (Or.inl ⟨by rfl, ?_⟩) (by assumption) ?_
        rotate_left
        · intro w hSw; (try dsimp only at hSw); go_simp <;> with_reducible rfl
        simp only [Act.put, List.setIfInBounds_toArray, List.set_cons_zero, List.set_cons_succ]
        refine wpAnyH_done (by kernel_rfl) ?_ _
        refine NoPanic.normal ?_
        clear KR1 KR2 KH1 KH2 hC' hr6 hr8
        go_wp2
        exact ⟨⟨c + 1, by omega, by go_num, hS.out.over h4.out, hP.out.below h4.out (Nat.le_refl _)⟩, by simp [intOf]; omega⟩
      · as_aux_lemma =>
        have hlow : ∀ r ∈ L, r.steps.length ≤ 1000 := fun r hr => by have := hS.out.low r hr; omega
        have KT : Hid (∀ V, Below wr.heap.size wr V → Calls Try.prog 9 #[.slice ol L.length cl] V fun e w' => ∃ o2 c2, e = .returned (.slice o2 L.length c2) ∧ Hid (RowR w' (.slice o2 L.length c2) L) ∧ Below V.heap.size V w') := fun V h1 => by
          have := twinR L _ V (hS.out.rl.below h1 (Nat.le_refl _))
          rwa [hTw.out] at this
        have KR1 : Hid (∀ V, Below wr.heap.size wr V → Calls Try.prog 10 #[.slice (some ⟨gb, pb, none⟩) 12 cb] V fun e w' => ∃ o1 k1, e = .returned (.slice o1 12 k1) ∧ Hid (RowI w' (.slice o1 12 k1) B2) ∧ Below V.heap.size V w') := fun V h1 => by
          have := rowAgain hS.out V h1
          rwa [hp.out] at this
        have KB : Hid (∀ V o2 c2 o3 c3, RowR V (.slice o2 L.length c2) L → RowI V (.slice o3 12 c3) B2 → Calls Try.prog 16 #[.slice o2 L.length c2, .slice o3 12 c3] V fun e w' => ∃ o4 c4, e = .returned (.slice o4 (broken L B2).length c4) ∧ Below V.heap.size V w') := fun V o2 c2 o3 c3 h1 h2 => (brokenF L _ _ B2 V h1 h2 (by omega) hlow).mono fun e w' ⟨v', e1, e2, e3⟩ => by
          obtain ⟨o4, c4, e5⟩ := own_shp e2
          subst e5
          exact ⟨o4, c4, e1, e3⟩
        by_cases hbr : (broken L B2).length = 0
        · rw [hbr] at KB
          have hkeep := broken_none hbr
          have hB12 : B2.length ≤ 12 := by rw [hp.out]; omega
          have hg : rgt ((12 : Nat) : Int) L = true := by
            have := rgt_of hB12 hkeep
            rwa [hp.out] at this
          have hcl : clash 12 L = false := clash_not hp.out (by omega) hkeep
          have KTi : Hid (∀ V o2 c2, RowR V (.slice o2 L.length c2) L → Calls Try.prog 22 #[.int .i64 ((12 : Nat) : Int), .slice o2 L.length c2] V fun e w' => ∃ ot ct, e = .returned (.tuple #[.slice ot 12 ct, .int .i64 0]) ∧ Hid (RowI w' (.slice ot 12 ct) (ints (tie 12 L))) ∧ Below V.heap.size V w') := fun V o2 c2 h1 => tiesF _ L _ V h1 (by omega) hlow 12 rfl hg
          have KFo : Hid (∀ V o2 c2, RowR V (.slice o2 L.length c2) L → Calls Try.prog 23 #[.int .i64 ((12 : Nat) : Int), .slice o2 L.length c2] V fun e w' => ∃ gw, e = .returned (.tuple #[.slice (some ⟨gw, 0, none⟩) 12 12, .int .i64 0]) ∧ Hid (RowU w' gw 12 (foe 12 L)) ∧ Below V.heap.size V w') := fun V o2 c2 h1 => foesF L _ V h1 (by omega) hlow 12 hg
          have KCl : Hid (∀ V o2 c2, RowR V (.slice o2 L.length c2) L → Calls Try.prog 25 #[.int .i64 ((12 : Nat) : Int), .slice o2 L.length c2] V fun e w' => e = .returned (.bool false) ∧ Below V.heap.size V w') := fun V o2 c2 h1 => by
            have := clashF L _ V h1 (by omega) hlow 12 hg
            rwa [hcl] at this
          have hAlk : Alk (tie 12 L) B2 := alk_tie hp.out (by omega) hkeep _
          have htl : (tie 12 L).length = 12 := tieC_len _ _ _
          have hF64 : ∀ s, foe 12 L s < 18446744073709551616 := fun s => by
            have := foe_lt 12 L s
            have := pow_le12 (n := 12) (by omega)
            omega
          have hUn : ∀ a b, a < 12 → (foe 12 L a).testBit b = true → B2[a]? ≠ B2[b]? := fun a b ha hb => (foe_unlike hp.out (by omega) hkeep ha hb).2
          have hfacts : Hid (∀ (W : World) (ot : Option Addr) (ct gw : Nat), RowI W (.slice ot 12 ct) (ints (tie 12 L)) → RowU W gw 12 (foe 12 L) → RowI W (.slice (some ⟨gb, pb, none⟩) 12 cb) B2 → ∀ a b, a < 12 → b < 12 → ∃ (ta tb : Nat) (ya yb : Int) (F gt pt g5 p5 : Nat), ot = some ⟨gt, pt, none⟩ ∧ ((some ⟨gb, pb, none⟩) : Option Addr) = some ⟨g5, p5, none⟩ ∧ W.cell? ⟨gt, pt + a, none⟩ = some (.int .i64 (ta : Int)) ∧ W.cell? ⟨gt, pt + b, none⟩ = some (.int .i64 (tb : Int)) ∧ W.cell? ⟨g5, p5 + a, none⟩ = some (.int .i64 ya) ∧ W.cell? ⟨g5, p5 + b, none⟩ = some (.int .i64 yb) ∧ W.cell? ⟨gw, a, none⟩ = some (.int .u64 (F : Int)) ∧ F < 18446744073709551616 ∧ (ta = tb → ya = yb ∧ F.testBit b = false) ∧ (F.testBit b = true → ya ≠ yb)) := fun W ot ct gw h1 h2 h3 a b ha hb => by
            obtain ⟨ta, ea⟩ : ∃ x, (tie 12 L)[a]? = some x := ⟨_, List.getElem?_eq_getElem (by omega)⟩
            obtain ⟨tb, eb⟩ : ∃ x, (tie 12 L)[b]? = some x := ⟨_, List.getElem?_eq_getElem (by omega)⟩
            obtain ⟨ya, fa⟩ : ∃ x, B2[a]? = some x := ⟨_, List.getElem?_eq_getElem (by rw [hp.out]; exact ha)⟩
            obtain ⟨yb, fb⟩ : ∃ x, B2[b]? = some x := ⟨_, List.getElem?_eq_getElem (by rw [hp.out]; exact hb)⟩
            obtain ⟨_, _, e, _, hc⟩ := h1
            rw [ints_len, htl] at e
            cases e
            obtain ⟨gt, pt, e, q1⟩ := hc a ta (ints_at ea)
            subst e
            obtain ⟨_, _, e, q2⟩ := hc b tb (ints_at eb)
            cases e
            obtain ⟨_, _, e, _, hc⟩ := h3
            rw [hp.out] at e
            cases e
            obtain ⟨g5, p5, e, q3⟩ := hc a ya fa
            obtain ⟨_, _, e', q4⟩ := hc b yb fb
            rw [e] at e'
            cases e'
            have hun : (foe 12 L a).testBit b = true → ya ≠ yb := fun h e => hUn a b ha h (by rw [fa, fb, e])
            have halk : ta = tb → ya = yb := fun e => by
              have := hAlk a b (by omega) (by omega) (by rw [ea, eb, e])
              rw [fa, fb] at this
              exact Option.some.inj this
            refine ⟨ta, tb, ya, yb, foe 12 L a, gt, pt, g5, p5, rfl, e, q1, q2, q3, q4, h2 a ha, hF64 a, fun e => ⟨halk e, ?_⟩, hun⟩
            cases hbit : (foe 12 L a).testBit b with
            | false => rfl
            | true => exact absurd (halk e) (hun hbit)
          clear hbr hkeep hB12 hg hcl hAlk htl hF64 hUn hlow hTw hwf
          go_wp2_with fail
          refine (KT.out _ (Below.refl _ _)).mono ?_
          rintro e w3 ⟨o2, c2, rfl, hr3, hb3⟩
          have h1 := hide' hb3
          clear hb3
          go_wp2_with fail
          refine (KR1.out _ h1.out).mono ?_
          rintro e w4 ⟨o3, c3, rfl, hr4, hb⟩
          have hr3' : Hid (RowR w4 (.slice o2 L.length c2) L) := hr3.out.below hb (Nat.le_refl _)
          have h2 : Hid (Below wr.heap.size wr w4) := h1.out.trans (hb.mono h1.out.size)
          clear hb KR1 hr3 h1
          go_wp2_with fail
          refine (KB.out _ _ _ _ _ hr3'.out hr4.out).mono ?_
          rintro e w5 ⟨o4, c4, rfl, hb⟩
          have h3 : Hid (Below wr.heap.size wr w5) := h2.out.trans (hb.mono h2.out.size)
          clear hb KB hr3' hr4 h2
          go_wp2_with fail
          refine (KT.out _ h3.out).mono ?_
          rintro e w6 ⟨o5, c5, rfl, hr6, hb⟩
          have h4 : Hid (Below wr.heap.size wr w6) := h3.out.trans (hb.mono h3.out.size)
          clear hb h3
          go_wp2_with fail
          refine (KTi.out _ _ _ hr6.out).mono ?_
          rintro e w7 ⟨ot, ct, rfl, hr7, hb⟩
          have h5 : Hid (Below wr.heap.size wr w7) := h4.out.trans (hb.mono h4.out.size)
          clear hb h4 hr6 KTi
          go_wp2_with fail
          refine (KT.out _ h5.out).mono ?_
          rintro e w8 ⟨o6, c6, rfl, hr8, hb⟩
          have hr7' : Hid (RowI w8 (.slice ot 12 ct) (ints (tie 12 L))) := hr7.out.below hb (Nat.le_refl _)
          have h6 : Hid (Below wr.heap.size wr w8) := h5.out.trans (hb.mono h5.out.size)
          clear hb h5 hr7
          go_wp2_with fail
          refine (KFo.out _ _ _ hr8.out).mono ?_
          rintro e w9 ⟨gw, rfl, hr9, hb⟩
          have hr7 : Hid (RowI w9 (.slice ot 12 ct) (ints (tie 12 L))) := hr7'.out.below hb (Nat.le_refl _)
          have h7 : Hid (Below wr.heap.size wr w9) := h6.out.trans (hb.mono h6.out.size)
          clear hb h6 hr7' hr8 KFo
          go_wp2_with fail
          refine (KT.out _ h7.out).mono ?_
          rintro e w10 ⟨o7, c7, rfl, hr10, hb⟩
          have hr7' : Hid (RowI w10 (.slice ot 12 ct) (ints (tie 12 L))) := hr7.out.below hb (Nat.le_refl _)
          have hr9' := hide' (hr9.out.below hb)
          have h8 : Hid (Below wr.heap.size wr w10) := h7.out.trans (hb.mono h7.out.size)
          clear hb h7 hr7 hr9 KT
          go_wp2_with fail
          refine (KCl.out _ _ _ hr10.out).mono ?_
          rintro e w11 ⟨rfl, hb⟩
          have h9 : Hid (Below wr.heap.size wr w11) := h8.out.trans (hb.mono h8.out.size)
          have hS11 := hide' (hS.out.over h9.out)
          have hBf := hide' hS11.out.bl
          have hall : Hid (∀ a b, a < 12 → b < 12 → _) := hfacts.out w11 ot ct gw (hr7'.out.below hb (Nat.le_refl _)) (hr9'.out.below hb) (by have := hS11.out.lb; rwa [hp.out] at this)
          clear hb h8 h9 hr7' hr9' hr10 KCl hfacts hS hS11 hP
          go_wp2_with fail
          go_loopw [11, 12] (fun k _ wr => ∃ (a z : Nat), w11.drewN z = wr ∧ a ≤ 12 ∧ k = .int .i64 a) (fun k _ _ => ((12 : Int) - intOf k).toNat)
          case atStart => exact ⟨0, 0, rfl, Nat.zero_le _, rfl⟩
          case round =>
            obtain ⟨a, z, rfl, hal, rfl⟩ := hrel
            by_cases halt : a < 12
            · as_aux_lemma =>
              go_wp2
              go_loopw [12] (fun k wr => ∃ (b z : Nat), w11.drewN z = wr ∧ b ≤ 12 ∧ k = .int .i64 b) (fun k _ => ((12 : Int) - intOf k).toNat)
              case atStart => exact ⟨0, z, rfl, Nat.zero_le _, rfl⟩
              case round =>
                clear z
                obtain ⟨b, z, rfl, hbl, rfl⟩ := hrel
                by_cases hblt : b < 12
                · as_aux_lemma =>
                  obtain ⟨ta, tb, ya, yb, F, gt, pt, g5, p5, rfl, eOB, c1, c2, c3, c4, c5, hF, h12, h3⟩ := hall.out a b halt hblt
                  cases eOB
                  have halt' : (a : Int) < (12 : Int) := by omega
                  have hblt' : (b : Int) < (12 : Int) := by omega
                  clear hall hBf
                  by_cases htt : ta = tb
                  · subst htt
                    obtain ⟨rfl, hbit⟩ := h12 rfl
                    rw [← shr_bitP F b hF] at hbit
                    clear h12 h3
                    go_upto_region 25 with fail
                    go_quiet (fail)
                    go_wp2
                    exact ⟨⟨b + 1, z + nq, rfl, by omega, by go_num⟩, by simp [intOf]; omega⟩
                  · have htt' : ((ta : Int) == (tb : Int)) = false := by simp; omega
                    cases hbit : F.testBit b with
                    | false =>
                      rw [← shr_bitP F b hF] at hbit
                      clear h12 h3 htt
                      go_upto_region 25 with fail
                      go_quiet (fail)
                      go_wp2
                      exact ⟨⟨b + 1, z + nq, rfl, by omega, by go_num⟩, by simp [intOf]; omega⟩
                    | true =>
                      have hyy : (ya == yb) = false := by simpa using h3 hbit
                      rw [← shr_bitP F b hF] at hbit
                      clear h12 h3 htt
                      go_upto_region 25 with fail
                      go_quiet (fail)
                      go_wp2
                      exact ⟨⟨b + 1, z + nq, rfl, by omega, by go_num⟩, by simp [intOf]; omega⟩
                · obtain rfl : b = 12 := by omega
                  clear hall
                  go_wp2
                  exact ⟨⟨a + 1, z, rfl, by omega, by go_num⟩, by simp [intOf]; omega⟩
            · clear hall
              go_wp2
              go_ret
              exact ⟨rfl, hBf.out.trans ((drew_belowR w11 z).mono hBf.out.size)⟩
        · have hbp : 0 < (broken L B2).length := by omega
          clear hTw hwf hlow
          generalize (broken L B2).length = bl at *
          go_wp2_with fail
          refine (KT.out _ (Below.refl _ _)).mono ?_
          rintro e w3 ⟨o2, c2, rfl, hr3, hb3⟩
          have h1 := hide' hb3
          clear hb3 KT
          go_wp2_with fail
          refine (KR1.out _ h1.out).mono ?_
          rintro e w4 ⟨o3, c3, rfl, hr4, hb⟩
          have hr3' : Hid (RowR w4 (.slice o2 L.length c2) L) := hr3.out.below hb (Nat.le_refl _)
          have h2 : Hid (Below wr.heap.size wr w4) := h1.out.trans (hb.mono h1.out.size)
          clear hb KR1 hr3 h1
          go_wp2_with fail
          refine (KB.out _ _ _ _ _ hr3'.out hr4.out).mono ?_
          rintro e w5 ⟨o4, c4, rfl, hb⟩
          have h3 : Hid (Below wr.heap.size wr w5) := h2.out.trans (hb.mono h2.out.size)
          clear hb KB hr3' hr4 h2
          go_wp2
          go_ret
          exact ⟨rfl, (hS.out.over h3.out).bl⟩
  · as_aux_lemma =>
    obtain ⟨B2, hB2⟩ : ∃ B2, B2 = B := ⟨_, rfl⟩
    have hp : Hid (B2.length = B.length) := by show _ = _; rw [hB2]
    have hS : Hid (St w w2 n ol cl L ob cb B2) := by rw [hB2]; exact hS0
    have hwf : Hid (∀ z ∈ B2, (Lit.int .i64 z).wf = true) := by rw [hB2]; exact hwB
    have hp12 : B.length ≤ 12 := by omega
    clear hS0 hB2 hwB
    generalize B.length = p at *
    have KR0 : Hid (∀ V, Below w2.heap.size w2 V → Calls Try.prog 10 #[.slice ob p cb] V fun e w' => ∃ o1 k1, e = .returned (.slice o1 p k1) ∧ Hid (RowI w' (.slice o1 p k1) B2) ∧ Below V.heap.size V w') := fun V h1 => by
      have := rowAgain hS.out V h1
      rwa [hp.out] at this
    have KOf : Hid (∀ V o1 k1, RowI V (.slice o1 p k1) B2 → Calls Try.prog 30 #[.slice o1 p k1] V fun e w' => ∃ g, e = .returned (.tuple #[.slice (some ⟨g, 0, none⟩) p p, .int .i64 0]) ∧ Hid (RowI w' (.slice (some ⟨g, 0, none⟩) p p) (ints (pat B2))) ∧ Below V.heap.size V w') := fun V o1 k1 h1 => by
      have := ofP B2 _ V h1 (by rw [hp.out]; omega) hwf.out
      refine this.mono fun e w' ⟨g, e1, e2, e3⟩ => ?_
      rw [hp.out] at e1 e2
      refine ⟨g, e1, ?_, e3⟩
      have e4 : w'.ownsRow V.heap.size 3 1 (.slice (some ⟨g, 0, none⟩) p p) (ints (pat B2)).length (cellsI (ints (pat B2))) := by
        rw [ints_len, pat_len, hp.out]; exact e2
      exact RowI.of_owns e4
    go_wp2_with fail
    refine (KR0.out _ (Below.refl _ _)).mono ?_
    rintro e w3 ⟨o1, k1, rfl, hr3, hb3⟩
    have hS3 := hide' (hS.out.over hb3)
    clear KR0 hb3 hS
    go_wp2_with fail
    refine (KOf.out _ _ _ hr3.out).mono ?_
    rintro e w4 ⟨gp, rfl, hr4, hb4⟩
    have hS4 := hide' (hS3.out.over hb4)
    clear KOf hb4 hS3 hr3
    go_wp2_with (go_at_call 18; refine (K9.out _).mono ?_; rintro e w5 ⟨rfl, hb⟩)
    have hS5 := hide' (hS4.out.over hb)
    have hr5 : Hid (RowI w5 (.slice (some ⟨gp, 0, none⟩) p p) (ints (pat B2))) := hr4.out.below hb (Nat.le_refl _)
    clear hb hS4 hr4 K9
    go_loopw [7] (fun k wr => ∃ c : Nat, c ≤ L.length ∧ k = .int .i64 c ∧ Hid (St w wr n ol cl L ob cb B2) ∧ Hid (RowI wr (.slice (some ⟨gp, 0, none⟩) p p) (ints (pat B2)))) (fun k _ => ((L.length : Int) - intOf k).toNat)
    case atStart => exact ⟨0, Nat.zero_le _, rfl, hS5, hr5⟩
    case round =>
      clear hS5 hr5
      obtain ⟨c, hcl, rfl, hS, hP⟩ := hrel
      have hf := hS.out.few
      by_cases hlt : c < L.length
      · as_aux_lemma =>
        obtain ⟨r, hx⟩ : ∃ r, L[c]? = some r := ⟨_, List.getElem?_eq_getElem hlt⟩
        obtain ⟨g, o, os, cs, rfl, hC, hV⟩ := hS.out.cells hx
        have hC' := hide' hC
        have hm := hS.out.low r (List.mem_of_getElem? hx)
        have KR1 : Hid (∀ V, Below wr.heap.size wr V → Calls Try.prog 10 #[.slice ob p cb] V fun e w' => ∃ o1 k1, e = .returned (.slice o1 p k1) ∧ Hid (RowI w' (.slice o1 p k1) B2) ∧ Below V.heap.size V w') := fun V h1 => by
          have := rowAgain hS.out V h1
          rwa [hp.out] at this
        have KR2 : Hid (∀ V, Below wr.heap.size wr V → Calls Try.prog 10 #[.slice (some ⟨gp, 0, none⟩) p p] V fun e w' => ∃ o1 k1, e = .returned (.slice o1 p k1) ∧ Hid (RowI w' (.slice o1 p k1) (ints (pat B2))) ∧ Below V.heap.size V w') := fun V h1 => by
          have := rowR (ints (pat B2)) _ V (hP.out.below h1 (Nat.le_refl _))
          rwa [take40_of (by rw [ints_len, pat_len, hp.out]; omega), ints_len, pat_len, hp.out] at this
        have KH1 : Hid (∀ V o1 k1, Below wr.heap.size wr V → RowI V (.slice o1 p k1) B2 → Calls Try.prog 13 #[.agg #[.int .i64 r.kind, .int .i64 r.k, .slice os r.steps.length cs], .slice o1 p k1] V fun e w' => e = .returned (.bool (holds r B2)) ∧ Below V.heap.size V w') := fun V o1 k1 h1 h2 => holdsF r _ _ B2 V (hV V h1) h2 (by omega)
        have KH2 : Hid (∀ V o1 k1, Below wr.heap.size wr V → RowI V (.slice o1 p k1) (ints (pat B2)) → Calls Try.prog 13 #[.agg #[.int .i64 r.kind, .int .i64 r.k, .slice os r.steps.length cs], .slice o1 p k1] V fun e w' => e = .returned (.bool (holds r B2)) ∧ Below V.heap.size V w') := fun V o1 k1 h1 h2 => by
          have := holdsF r _ _ (ints (pat B2)) V (hV V h1) h2 (by omega)
          rwa [holds_pat] at this
        have hd : Hid (Below wr.heap.size wr wr.drew) := (Below.refl _ _).drew
        clear hC hV hx hTw hwf
        generalize holds r B2 = bH at *
        generalize r.steps.length = q at *
        generalize r.kind = kd at *
        generalize r.k = kk at *
        go_wp2_with fail
        refine wp_region_noPanic (wp_region_held_drew (S := (fun V => V.cell? ⟨g, o + c * 3, none⟩ = some (.int .i64 kd) ∧ V.cell? ⟨g, o + c * 3 + 1, none⟩ = some (.int .i64 kk) ∧ V.cell? ⟨g, o + c * 3 + 2, none⟩ = some (.slice os q cs) ∧ V.cell? ⟨w.heap.size, 0, none⟩ = some (.int .i64 n))) (by kernel_rfl) ?_ (fun hHeld => ?_))
        · exact hC'.out _ hd.out
        refine wpAnyH_take (i := 0) (oi := { dst := some 42, op := Op.move (Operand.tmp 3), type := 22, pos := "law.go:188", after := #[], guard := none }) (v := ?_) rfl (by kernel_rfl) (by kernel_rfl) (by kernel_rfl) (fun _ _ _ h => h) (Or.inl ⟨by rfl, ?_⟩) (by assumption) ?_
        rotate_left
        · intro w hSw; (try dsimp only at hSw); go_simp <;> with_reducible rfl
        simp only [Act.put, List.setIfInBounds_toArray, List.set_cons_zero, List.set_cons_succ]
        refine wpAnyH_take (i := 1) (oi := { dst := some 43, op := Op.move (Operand.tmp 7), type := 3, pos := "law.go:188", after := #[], guard := none }) (v := ?_) rfl (by kernel_rfl) (by kernel_rfl) (by kernel_rfl) (fun _ _ _ h => h) (Or.inl ⟨by rfl, ?_⟩) (by assumption) ?_
        rotate_left
        · intro w hSw; (try dsimp only at hSw); go_simp <;> with_reducible rfl
        simp only [Act.put, List.setIfInBounds_toArray, List.set_cons_zero, List.set_cons_succ]
        refine wpAnyH_take (i := 2) (oi := { dst := some 44, op := Op.indexAddr 22 (Operand.tmp 42) (Operand.tmp 43), type := 0, pos := "law.go:188", after := #[{ on := 0, ground := Ground.data }, { on := 1, ground := Ground.data }], guard := none }) (v := ?_) rfl (by kernel_rfl) (by kernel_rfl) (by kernel_rfl) (fun _ _ _ h => h) (Or.inl ⟨by rfl, ?_⟩) (by assumption) ?_
        rotate_left
        · intro w hSw; (try dsimp only at hSw); go_simp <;> with_reducible rfl
        simp only [Act.put, List.setIfInBounds_toArray, List.set_cons_zero, List.set_cons_succ]
        refine wpAnyH_take (i := 3) (oi := { dst := some 45, op := Op.load 32 (Operand.tmp 44), type := 32, pos := "law.go:188", after := #[{ on := 2, ground := Ground.data }], guard := none }) (v := ?_) rfl (by kernel_rfl) (by kernel_rfl) (by kernel_rfl) (fun _ _ _ h => h) (Or.inl ⟨by rfl, ?_⟩) (by assumption) ?_
        rotate_left
        · intro w hSw; (try dsimp only at hSw); go_simp <;> with_reducible rfl
        simp only [Act.put, List.setIfInBounds_toArray, List.set_cons_zero, List.set_cons_succ]
        refine wpAnyH_take (i := 4) (oi := { dst := some 46, op := Op.move (Operand.tmp 4), type := 23, pos := "law.go:188", after := #[], guard := none }) (v := ?_) rfl (by kernel_rfl) (by kernel_rfl) (by kernel_rfl) (fun _ _ _ h => h) (Or.inl ⟨by rfl, ?_⟩) (by assumption) ?_
        rotate_left
        · intro w hSw; (try dsimp only at hSw); go_simp <;> with_reducible rfl
        simp only [Act.put, List.setIfInBounds_toArray, List.set_cons_zero, List.set_cons_succ]
        refine wpAnyH_take (i := 7) (oi := { dst := some 49, op := Op.move (Operand.tmp 3), type := 22, pos := "law.go:188", after := #[], guard := none }) (v := ?_) rfl (by kernel_rfl) (by kernel_rfl) (by kernel_rfl) (fun _ _ _ h => h) (Or.inl ⟨by rfl, ?_⟩) (by assumption) ?_
        rotate_left
        · intro w hSw; (try dsimp only at hSw); go_simp <;> with_reducible rfl
        simp only [Act.put, List.setIfInBounds_toArray, List.set_cons_zero, List.set_cons_succ]
        refine wpAnyH_take (i := 8) (oi := { dst := some 50, op := Op.move (Operand.tmp 7), type := 3, pos := "law.go:188", after := #[], guard := none }) (v := ?_) rfl (by kernel_rfl) (by kernel_rfl) (by kernel_rfl) (fun _ _ _ h => h) (Or.inl ⟨by rfl, ?_⟩) (by assumption) ?_
        rotate_left
        · intro w hSw; (try dsimp only at hSw); go_simp <;> with_reducible rfl
        simp only [Act.put, List.setIfInBounds_toArray, List.set_cons_zero, List.set_cons_succ]
        refine wpAnyH_take (i := 9) (oi := { dst := some 51, op := Op.indexAddr 22 (Operand.tmp 49) (Operand.tmp 50), type := 0, pos := "law.go:188", after := #[{ on := 7, ground := Ground.data }, { on := 8, ground := Ground.data }], guard := none }) (v := ?_) rfl (by kernel_rfl) (by kernel_rfl) (by kernel_rfl) (fun _ _ _ h => h) (Or.inl ⟨by rfl, ?_⟩) (by assumption) ?_
        rotate_left
        · intro w hSw; (try dsimp only at hSw); go_simp <;> with_reducible rfl
        simp only [Act.put, List.setIfInBounds_toArray, List.set_cons_zero, List.set_cons_succ]
        refine wpAnyH_take (i := 10) (oi := { dst := some 52, op := Op.load 32 (Operand.tmp 51), type := 32, pos := "law.go:188", after := #[{ on := 9, ground := Ground.data }], guard := none }) (v := ?_) rfl (by kernel_rfl) (by kernel_rfl) (by kernel_rfl) (fun _ _ _ h => h) (Or.inl ⟨by rfl, ?_⟩) (by assumption) ?_
        rotate_left
        · intro w hSw; (try dsimp only at hSw); go_simp <;> with_reducible rfl
        simp only [Act.put, List.setIfInBounds_toArray, List.set_cons_zero, List.set_cons_succ]
        refine wpAnyH_take (i := 11) (oi := { dst := some 53, op := Op.move (Operand.tmp 5), type := 23, pos := "law.go:188", after := #[], guard := none }) (v := ?_) rfl (by kernel_rfl) (by kernel_rfl) (by kernel_rfl) (fun _ _ _ h => h) (Or.inl ⟨by rfl, ?_⟩) (by assumption) ?_
        rotate_left
        · intro w hSw; (try dsimp only at hSw); go_simp <;> with_reducible rfl
        simp only [Act.put, List.setIfInBounds_toArray, List.set_cons_zero, List.set_cons_succ]
        refine wpAnyH_ready (rs := [5]) (by kernel_rfl) (by simp) ?_
        refine AllReadyH.cons (o := { dst := some 47, op := Op.call { callee := Callee.value (Operand.func 10), args := #[Operand.tmp 46], argTypes := #[23] }, type := 23, pos := "law.go:188", after := #[{ on := 4, ground := Ground.data }], guard := none }) rfl (fun K hK => ?_) AllReadyH.nil
        go_simp
        refine (KR1.out _ hd.out).mono ?_; rintro e w6 ⟨o1, k1, rfl, hr6, hb⟩; (try dsimp only); have h1 : Hid (Below wr.heap.size wr w6) := hd.out.trans (hb.mono hd.out.size); clear hb
        refine hK.out _ _ ?_ (fun hHeld => ?_)
        · exact hC'.out _ h1.out
        clear hK K
        try simp only [Act.put, List.setIfInBounds_toArray, List.set_cons_zero, List.set_cons_succ]
        refine wpAnyH_ready (rs := [6]) (by kernel_rfl) (by simp) ?_
        refine AllReadyH.cons (o := { dst := some 48, op := Op.call { callee := Callee.value (Operand.func 13), args := #[Operand.tmp 45, Operand.tmp 47], argTypes := #[32, 23] }, type := 4, pos := "law.go:188", after := #[{ on := 3, ground := Ground.data }, { on := 5, ground := Ground.data }, { on := 5, ground := Ground.chain }], guard := none }) rfl (fun K hK => ?_) AllReadyH.nil
        go_simp
        refine (KH1.out _ _ _ h1.out hr6.out).mono ?_; rintro e w7 ⟨rfl, hb⟩; (try dsimp only); have h2 : Hid (Below wr.heap.size wr w7) := h1.out.trans (hb.mono h1.out.size); clear hb
        refine hK.out _ _ ?_ (fun hHeld => ?_)
        · exact hC'.out _ h2.out
        clear hK K
        try simp only [Act.put, List.setIfInBounds_toArray, List.set_cons_zero, List.set_cons_succ]
        refine wpAnyH_ready (rs := [12]) (by kernel_rfl) (by simp) ?_
        refine AllReadyH.cons (o := { dst := some 54, op := Op.call { callee := Callee.value (Operand.func 10), args := #[Operand.tmp 53], argTypes := #[23] }, type := 23, pos := "law.go:188", after := #[{ on := 11, ground := Ground.data }, { on := 6, ground := Ground.chain }], guard := none }) rfl (fun K hK => ?_) AllReadyH.nil
        go_simp
        refine (KR2.out _ h2.out).mono ?_; rintro e w8 ⟨o3, k3, rfl, hr8, hb⟩; (try dsimp only); have h3 : Hid (Below wr.heap.size wr w8) := h2.out.trans (hb.mono h2.out.size); clear hb
        refine hK.out _ _ ?_ (fun hHeld => ?_)
        · exact hC'.out _ h3.out
        clear hK K
        try simp only [Act.put, List.setIfInBounds_toArray, List.set_cons_zero, List.set_cons_succ]
        refine wpAnyH_ready (rs := [13]) (by kernel_rfl) (by simp) ?_
        refine AllReadyH.cons (o := { dst := some 55, op := Op.call { callee := Callee.value (Operand.func 13), args := #[Operand.tmp 52, Operand.tmp 54], argTypes := #[32, 23] }, type := 4, pos := "law.go:188", after := #[{ on := 10, ground := Ground.data }, { on := 12, ground := Ground.data }, { on := 12, ground := Ground.chain }], guard := none }) rfl (fun K hK => ?_) AllReadyH.nil
        go_simp
        refine (KH2.out _ _ _ h3.out hr8.out).mono ?_; rintro e w9 ⟨rfl, hb⟩; (try dsimp only); have h4 : Hid (Below wr.heap.size wr w9) := h3.out.trans (hb.mono h3.out.size); clear hb
        refine hK.out _ _ ?_ (fun hHeld => ?_)
        · exact hC'.out _ h4.out
        clear hK K
        try simp only [Act.put, List.setIfInBounds_toArray, List.set_cons_zero, List.set_cons_succ]
        refine wpAnyH_take (i := 14) (oi := { dst := some 56, op := Op.binOp BinOp.neq 4 (Operand.tmp 48) (Operand.tmp 55) 4, type := 4, pos := "law.go:188", after := #[{ on := 6, ground := Ground.data }, { on := 13, ground := Ground.data }], guard := none }) (v := ?_) rfl (by kernel_rfl) (by kernel_rfl) (by kernel_rfl) (fun _ _ _ h => h) (Or.inl ⟨by rfl, ?_⟩) (by assumption) ?_
        rotate_left
        · intro w hSw; (try dsimp only at hSw); go_simp <;> with_reducible rfl
        simp only [Act.put, List.setIfInBounds_toArray, List.set_cons_zero, List.set_cons_succ]
        refine wpAnyH_done (by kernel_rfl) ?_ _
        refine NoPanic.normal ?_
        clear KR1 KR2 KH1 KH2 hC' hr6 hr8
        go_wp2
        exact ⟨⟨c + 1, by omega, by go_num, hS.out.over h4.out, hP.out.below h4.out (Nat.le_refl _)⟩, by simp [intOf]; omega⟩
      · as_aux_lemma =>
        have hlow : ∀ r ∈ L, r.steps.length ≤ 1000 := fun r hr => by have := hS.out.low r hr; omega
        have KT : Hid (∀ V, Below wr.heap.size wr V → Calls Try.prog 9 #[.slice ol L.length cl] V fun e w' => ∃ o2 c2, e = .returned (.slice o2 L.length c2) ∧ Hid (RowR w' (.slice o2 L.length c2) L) ∧ Below V.heap.size V w') := fun V h1 => by
          have := twinR L _ V (hS.out.rl.below h1 (Nat.le_refl _))
          rwa [hTw.out] at this
        have KR1 : Hid (∀ V, Below wr.heap.size wr V → Calls Try.prog 10 #[.slice ob p cb] V fun e w' => ∃ o1 k1, e = .returned (.slice o1 p k1) ∧ Hid (RowI w' (.slice o1 p k1) B2) ∧ Below V.heap.size V w') := fun V h1 => by
          have := rowAgain hS.out V h1
          rwa [hp.out] at this
        have KB : Hid (∀ V o2 c2 o3 c3, RowR V (.slice o2 L.length c2) L → RowI V (.slice o3 p c3) B2 → Calls Try.prog 16 #[.slice o2 L.length c2, .slice o3 p c3] V fun e w' => ∃ o4 c4, e = .returned (.slice o4 (broken L B2).length c4) ∧ Below V.heap.size V w') := fun V o2 c2 o3 c3 h1 h2 => (brokenF L _ _ B2 V h1 h2 (by omega) hlow).mono fun e w' ⟨v', e1, e2, e3⟩ => by
          obtain ⟨o4, c4, e5⟩ := own_shp e2
          subst e5
          exact ⟨o4, c4, e1, e3⟩
        by_cases hbr : (broken L B2).length = 0
        · rw [hbr] at KB
          have hkeep := broken_none hbr
          have hB12 : B2.length ≤ 12 := by rw [hp.out]; omega
          have hg : rgt ((p : Nat) : Int) L = true := by
            have := rgt_of hB12 hkeep
            rwa [hp.out] at this
          have hcl : clash p L = false := clash_not hp.out (by omega) hkeep
          have KTi : Hid (∀ V o2 c2, RowR V (.slice o2 L.length c2) L → Calls Try.prog 22 #[.int .i64 ((p : Nat) : Int), .slice o2 L.length c2] V fun e w' => ∃ ot ct, e = .returned (.tuple #[.slice ot p ct, .int .i64 0]) ∧ Hid (RowI w' (.slice ot p ct) (ints (tie p L))) ∧ Below V.heap.size V w') := fun V o2 c2 h1 => tiesF _ L _ V h1 (by omega) hlow p rfl hg
          have KFo : Hid (∀ V o2 c2, RowR V (.slice o2 L.length c2) L → Calls Try.prog 23 #[.int .i64 ((p : Nat) : Int), .slice o2 L.length c2] V fun e w' => ∃ gw, e = .returned (.tuple #[.slice (some ⟨gw, 0, none⟩) p p, .int .i64 0]) ∧ Hid (RowU w' gw p (foe p L)) ∧ Below V.heap.size V w') := fun V o2 c2 h1 => foesF L _ V h1 (by omega) hlow p hg
          have KCl : Hid (∀ V o2 c2, RowR V (.slice o2 L.length c2) L → Calls Try.prog 25 #[.int .i64 ((p : Nat) : Int), .slice o2 L.length c2] V fun e w' => e = .returned (.bool false) ∧ Below V.heap.size V w') := fun V o2 c2 h1 => by
            have := clashF L _ V h1 (by omega) hlow p hg
            rwa [hcl] at this
          have hAlk : Alk (tie p L) B2 := alk_tie hp.out (by omega) hkeep _
          have htl : (tie p L).length = p := tieC_len _ _ _
          have hF64 : ∀ s, foe p L s < 18446744073709551616 := fun s => by
            have := foe_lt p L s
            have := pow_le12 (n := p) (by omega)
            omega
          have hUn : ∀ a b, a < p → (foe p L a).testBit b = true → B2[a]? ≠ B2[b]? := fun a b ha hb => (foe_unlike hp.out (by omega) hkeep ha hb).2
          have hfacts : Hid (∀ (W : World) (ot : Option Addr) (ct gw : Nat), RowI W (.slice ot p ct) (ints (tie p L)) → RowU W gw p (foe p L) → RowI W (.slice ob p cb) B2 → ∀ a b, a < p → b < p → ∃ (ta tb : Nat) (ya yb : Int) (F gt pt g5 p5 : Nat), ot = some ⟨gt, pt, none⟩ ∧ (ob : Option Addr) = some ⟨g5, p5, none⟩ ∧ W.cell? ⟨gt, pt + a, none⟩ = some (.int .i64 (ta : Int)) ∧ W.cell? ⟨gt, pt + b, none⟩ = some (.int .i64 (tb : Int)) ∧ W.cell? ⟨g5, p5 + a, none⟩ = some (.int .i64 ya) ∧ W.cell? ⟨g5, p5 + b, none⟩ = some (.int .i64 yb) ∧ W.cell? ⟨gw, a, none⟩ = some (.int .u64 (F : Int)) ∧ F < 18446744073709551616 ∧ (ta = tb → ya = yb ∧ F.testBit b = false) ∧ (F.testBit b = true → ya ≠ yb)) := fun W ot ct gw h1 h2 h3 a b ha hb => by
            obtain ⟨ta, ea⟩ : ∃ x, (tie p L)[a]? = some x := ⟨_, List.getElem?_eq_getElem (by omega)⟩
            obtain ⟨tb, eb⟩ : ∃ x, (tie p L)[b]? = some x := ⟨_, List.getElem?_eq_getElem (by omega)⟩
            obtain ⟨ya, fa⟩ : ∃ x, B2[a]? = some x := ⟨_, List.getElem?_eq_getElem (by rw [hp.out]; exact ha)⟩
            obtain ⟨yb, fb⟩ : ∃ x, B2[b]? = some x := ⟨_, List.getElem?_eq_getElem (by rw [hp.out]; exact hb)⟩
            obtain ⟨_, _, e, _, hc⟩ := h1
            rw [ints_len, htl] at e
            cases e
            obtain ⟨gt, pt, e, q1⟩ := hc a ta (ints_at ea)
            subst e
            obtain ⟨_, _, e, q2⟩ := hc b tb (ints_at eb)
            cases e
            obtain ⟨_, _, e, _, hc⟩ := h3
            rw [hp.out] at e
            cases e
            obtain ⟨g5, p5, e, q3⟩ := hc a ya fa
            obtain ⟨_, _, e', q4⟩ := hc b yb fb
            rw [e] at e'
            cases e'
            have hun : (foe p L a).testBit b = true → ya ≠ yb := fun h e => hUn a b ha h (by rw [fa, fb, e])
            have halk : ta = tb → ya = yb := fun e => by
              have := hAlk a b (by omega) (by omega) (by rw [ea, eb, e])
              rw [fa, fb] at this
              exact Option.some.inj this
            refine ⟨ta, tb, ya, yb, foe p L a, gt, pt, g5, p5, rfl, e, q1, q2, q3, q4, h2 a ha, hF64 a, fun e => ⟨halk e, ?_⟩, hun⟩
            cases hbit : (foe p L a).testBit b with
            | false => rfl
            | true => exact absurd (halk e) (hun hbit)
          clear hbr hkeep hB12 hg hcl hAlk htl hF64 hUn hlow hTw hwf
          go_wp2_with fail
          refine (KT.out _ (Below.refl _ _)).mono ?_
          rintro e w3 ⟨o2, c2, rfl, hr3, hb3⟩
          have h1 := hide' hb3
          clear hb3
          go_wp2_with fail
          refine (KR1.out _ h1.out).mono ?_
          rintro e w4 ⟨o3, c3, rfl, hr4, hb⟩
          have hr3' : Hid (RowR w4 (.slice o2 L.length c2) L) := hr3.out.below hb (Nat.le_refl _)
          have h2 : Hid (Below wr.heap.size wr w4) := h1.out.trans (hb.mono h1.out.size)
          clear hb KR1 hr3 h1
          go_wp2_with fail
          refine (KB.out _ _ _ _ _ hr3'.out hr4.out).mono ?_
          rintro e w5 ⟨o4, c4, rfl, hb⟩
          have h3 : Hid (Below wr.heap.size wr w5) := h2.out.trans (hb.mono h2.out.size)
          clear hb KB hr3' hr4 h2
          go_wp2_with fail
          refine (KT.out _ h3.out).mono ?_
          rintro e w6 ⟨o5, c5, rfl, hr6, hb⟩
          have h4 : Hid (Below wr.heap.size wr w6) := h3.out.trans (hb.mono h3.out.size)
          clear hb h3
          go_wp2_with fail
          refine (KTi.out _ _ _ hr6.out).mono ?_
          rintro e w7 ⟨ot, ct, rfl, hr7, hb⟩
          have h5 : Hid (Below wr.heap.size wr w7) := h4.out.trans (hb.mono h4.out.size)
          clear hb h4 hr6 KTi
          go_wp2_with fail
          refine (KT.out _ h5.out).mono ?_
          rintro e w8 ⟨o6, c6, rfl, hr8, hb⟩
          have hr7' : Hid (RowI w8 (.slice ot p ct) (ints (tie p L))) := hr7.out.below hb (Nat.le_refl _)
          have h6 : Hid (Below wr.heap.size wr w8) := h5.out.trans (hb.mono h5.out.size)
          clear hb h5 hr7
          go_wp2_with fail
          refine (KFo.out _ _ _ hr8.out).mono ?_
          rintro e w9 ⟨gw, rfl, hr9, hb⟩
          have hr7 : Hid (RowI w9 (.slice ot p ct) (ints (tie p L))) := hr7'.out.below hb (Nat.le_refl _)
          have h7 : Hid (Below wr.heap.size wr w9) := h6.out.trans (hb.mono h6.out.size)
          clear hb h6 hr7' hr8 KFo
          go_wp2_with fail
          refine (KT.out _ h7.out).mono ?_
          rintro e w10 ⟨o7, c7, rfl, hr10, hb⟩
          have hr7' : Hid (RowI w10 (.slice ot p ct) (ints (tie p L))) := hr7.out.below hb (Nat.le_refl _)
          have hr9' := hide' (hr9.out.below hb)
          have h8 : Hid (Below wr.heap.size wr w10) := h7.out.trans (hb.mono h7.out.size)
          clear hb h7 hr7 hr9 KT
          go_wp2_with fail
          refine (KCl.out _ _ _ hr10.out).mono ?_
          rintro e w11 ⟨rfl, hb⟩
          have h9 : Hid (Below wr.heap.size wr w11) := h8.out.trans (hb.mono h8.out.size)
          have hS11 := hide' (hS.out.over h9.out)
          have hBf := hide' hS11.out.bl
          have hall : Hid (∀ a b, a < p → b < p → _) := hfacts.out w11 ot ct gw (hr7'.out.below hb (Nat.le_refl _)) (hr9'.out.below hb) (by have := hS11.out.lb; rwa [hp.out] at this)
          clear hb h8 h9 hr7' hr9' hr10 KCl hfacts hS hS11 hP
          go_wp2_with fail
          go_loopw [11, 12] (fun k _ wr => ∃ (a z : Nat), w11.drewN z = wr ∧ a ≤ p ∧ k = .int .i64 a) (fun k _ _ => ((p : Int) - intOf k).toNat)
          case atStart => exact ⟨0, 0, rfl, Nat.zero_le _, rfl⟩
          case round =>
            obtain ⟨a, z, rfl, hal, rfl⟩ := hrel
            by_cases halt : a < p
            · as_aux_lemma =>
              go_wp2
              go_loopw [12] (fun k wr => ∃ (b z : Nat), w11.drewN z = wr ∧ b ≤ p ∧ k = .int .i64 b) (fun k _ => ((p : Int) - intOf k).toNat)
              case atStart => exact ⟨0, z, rfl, Nat.zero_le _, rfl⟩
              case round =>
                clear z
                obtain ⟨b, z, rfl, hbl, rfl⟩ := hrel
                by_cases hblt : b < p
                · as_aux_lemma =>
                  obtain ⟨ta, tb, ya, yb, F, gt, pt, g5, p5, rfl, eOB, c1, c2, c3, c4, c5, hF, h12, h3⟩ := hall.out a b halt hblt
                  cases eOB
                  have halt' : (a : Int) < (p : Int) := by omega
                  have hblt' : (b : Int) < (p : Int) := by omega
                  clear hall hBf
                  by_cases htt : ta = tb
                  · subst htt
                    obtain ⟨rfl, hbit⟩ := h12 rfl
                    rw [← shr_bitP F b hF] at hbit
                    clear h12 h3
                    go_upto_region 25 with fail
                    go_quiet (fail)
                    go_wp2
                    exact ⟨⟨b + 1, z + nq, rfl, by omega, by go_num⟩, by simp [intOf]; omega⟩
                  · have htt' : ((ta : Int) == (tb : Int)) = false := by simp; omega
                    cases hbit : F.testBit b with
                    | false =>
                      rw [← shr_bitP F b hF] at hbit
                      clear h12 h3 htt
                      go_upto_region 25 with fail
                      go_quiet (fail)
                      go_wp2
                      exact ⟨⟨b + 1, z + nq, rfl, by omega, by go_num⟩, by simp [intOf]; omega⟩
                    | true =>
                      have hyy : (ya == yb) = false := by simpa using h3 hbit
                      rw [← shr_bitP F b hF] at hbit
                      clear h12 h3 htt
                      go_upto_region 25 with fail
                      go_quiet (fail)
                      go_wp2
                      exact ⟨⟨b + 1, z + nq, rfl, by omega, by go_num⟩, by simp [intOf]; omega⟩
                · obtain rfl : b = p := by omega
                  clear hall
                  go_wp2
                  exact ⟨⟨a + 1, z, rfl, by omega, by go_num⟩, by simp [intOf]; omega⟩
            · clear hall
              go_wp2
              go_ret
              exact ⟨rfl, hBf.out.trans ((drew_belowR w11 z).mono hBf.out.size)⟩
        · have hbp : 0 < (broken L B2).length := by omega
          clear hTw hwf hlow
          generalize (broken L B2).length = bl at *
          go_wp2_with fail
          refine (KT.out _ (Below.refl _ _)).mono ?_
          rintro e w3 ⟨o2, c2, rfl, hr3, hb3⟩
          have h1 := hide' hb3
          clear hb3 KT
          go_wp2_with fail
          refine (KR1.out _ h1.out).mono ?_
          rintro e w4 ⟨o3, c3, rfl, hr4, hb⟩
          have hr3' : Hid (RowR w4 (.slice o2 L.length c2) L) := hr3.out.below hb (Nat.le_refl _)
          have h2 : Hid (Below wr.heap.size wr w4) := h1.out.trans (hb.mono h1.out.size)
          clear hb KR1 hr3 h1
          go_wp2_with fail
          refine (KB.out _ _ _ _ _ hr3'.out hr4.out).mono ?_
          rintro e w5 ⟨o4, c4, rfl, hb⟩
          have h3 : Hid (Below wr.heap.size wr w5) := h2.out.trans (hb.mono h2.out.size)
          clear hb KB hr3' hr4 h2
          go_wp2
          go_ret
          exact ⟨rfl, (hS.out.over h3.out).bl⟩
end Go.Proofs.Ytnlpbhoilalgnaa
