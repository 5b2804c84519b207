/- RuleAhead: it returns true. -/
import Derived.Test.YtnlpbhoilalgnaaRSet
namespace Go.Proofs.Ytnlpbhoilalgnaa
open Go.RowKit
set_option maxRecDepth 100000 in
set_option maxHeartbeats 8000000 in
theorem ruleAhead_walk (n : Int) (L0 : List Rl) (B0 : List Int) (or : Option Addr) (cr : Nat) (oB : Option Addr) (cB : Nat) (on : Option Addr) (ln cn : Nat) (w : World) (hr : RowR w (.slice or L0.length cr) L0) (hl : RowI w (.slice oB B0.length cB) B0) :
    Calls Try.prog 6 #[.agg #[.int .i64 n, .slice or L0.length cr, .slice oB B0.length cB, .slice on ln cn]] w fun e w' => e = .returned (.bool true) ∧ Below w.heap.size w w' := by
  have hB : Hid (Below w.heap.size w (w.alloc (.cells #[.int .i64 n, .slice or L0.length cr, .slice oB B0.length cB, .slice on ln cn] 26))) := (Below.refl _ w).alloc (Nat.le_refl _) _
  have hbox : Hid (∀ V, Below (w.alloc (.cells #[.int .i64 n, .slice or L0.length cr, .slice oB B0.length cB, .slice on ln cn] 26)).heap.size (w.alloc (.cells #[.int .i64 n, .slice or L0.length cr, .slice oB B0.length cB, .slice on ln cn] 26)) V → V.cell? ⟨w.heap.size, 0, none⟩ = some (.int .i64 n) ∧ V.cell? ⟨w.heap.size, 2, none⟩ = some (.slice oB B0.length cB)) := fun V hV => by
    have e : V.heap[w.heap.size]? = some (.cells #[.int .i64 n, .slice or L0.length cr, .slice oB B0.length cB, .slice on ln cn] 26) := by
      rw [hV.block _ (by simp)]
      exact heap_new w _
    simp [World.cell?, e]
  have K1 := hide' (twinR L0 _ _ (hr.below hB.out (Nat.le_refl _)))
  have K2 : Hid (∀ V, Below w.heap.size w V → Calls Try.prog 10 #[.slice oB B0.length cB] V fun e w' => ∃ ob cb, e = .returned (.slice ob (B0.take 40).length cb) ∧ RowI w' (.slice ob (B0.take 40).length cb) (B0.take 40) ∧ Below V.heap.size V w') := fun V hV => rowR B0 _ V (hl.below hV (Nat.le_refl _))
  have K9 := hide' wakesR
  clear hr hl
  go_enter Try.func6, Try.ntmps6
  go_wp2_with fail
  refine K1.out.mono ?_
  rintro e w1 ⟨ol, cl, rfl, hr1, hb1⟩
  obtain ⟨x0, x2⟩ := hbox.out _ hb1
  have hB1 : Hid (Below w.heap.size w w1) := hB.out.trans (hb1.mono hB.out.size)
  have hb1' := hide' hb1
  have hr1' := hide' hr1
  clear K1 hr1 hb1 hB
  go_wp2_with fail
  refine (K2.out _ hB1.out).mono ?_
  rintro e w2 ⟨ob, cb, rfl, hr2, hb2⟩
  have hS0 : Hid (St w w2 n ol cl (twin L0) ob cb (B0.take 40)) := ⟨(hbox.out _ (hb1'.out.trans (hb2.mono hb1'.out.size))).1, hr1'.out.below hb2 (Nat.le_refl _), hr2, hB1.out.trans (hb2.mono hB1.out.size), twin_len L0, fun r h => twin_steps h, by rw [List.length_take]; omega⟩
  have hTw := hide' (twin_twin L0)
  clear hr2 hb2 hb1' hr1' hB1 hbox K2 x0 x2
  generalize twin L0 = L at *
  generalize B0.take 40 = B at *
  clear hTw
  go_wp2
  go_loopw [5] (fun k wr => ∃ c : Nat, c ≤ L.length ∧ k = .int .i64 c ∧ Hid (St w wr n ol cl L ob cb B)) (fun k _ => ((L.length : Int) - intOf k).toNat)
  case atStart => exact ⟨0, Nat.zero_le _, rfl, hS0⟩
  case round =>
    clear hS0
    obtain ⟨c, hcl, rfl, hS⟩ := hrel
    have hf := hS.out.few
    by_cases hlt : c < L.length
    · as_aux_lemma =>
      obtain ⟨r, hx⟩ : ∃ r, L[c]? = some r := ⟨_, List.getElem?_eq_getElem hlt⟩
      obtain ⟨g, o, os, cs, rfl, hC, hV⟩ := hS.out.cells hx
      have hC' := hide' hC
      have hm := hS.out.low r (List.mem_of_getElem? hx)
      have KR := hide' (rowAgain hS.out)
      have KE : Hid (∀ V o1 k1, Below wr.heap.size wr V → RowI V (.slice o1 B.length k1) B → Calls Try.prog 19 #[.agg #[.int .i64 r.kind, .int .i64 r.k, .slice os r.steps.length cs], .int .i64 n, .slice o1 B.length k1] V fun e w' => e = .returned (.bool (early r n B)) ∧ Below V.heap.size V w') := fun V o1 k1 h1 h2 => earlyF r n _ _ B V (hV V h1) h2 (by omega)
      have KF : Hid (∀ V, Below wr.heap.size wr V → Calls Try.prog 21 #[.agg #[.int .i64 r.kind, .int .i64 r.k, .slice os r.steps.length cs], .int .i64 n, .slice ob B.length cb] V fun e w' => e = .returned (.bool (early r n B)) ∧ Below V.heap.size V w') := fun V h1 => rEarly r n _ _ B V (hV V h1) (hS.out.lb.below h1 (Nat.le_refl _)) (by omega)
      have hd : Hid (Below wr.heap.size wr wr.drew) := (Below.refl _ _).drew
      clear hC hV hx K9
      generalize early r n B = bE at *
      generalize r.steps.length = q at *
      generalize r.kind = kd at *
      generalize r.k = kk at *
      go_wp2_with fail
      go_region_held3 (fun V => V.cell? ⟨g, o + c * 3, none⟩ = some (.int .i64 kd) ∧ V.cell? ⟨g, o + c * 3 + 1, none⟩ = some (.int .i64 kk) ∧ V.cell? ⟨g, o + c * 3 + 2, none⟩ = some (.slice os q cs) ∧ V.cell? ⟨w.heap.size, 0, none⟩ = some (.int .i64 n)) (first | (exact hC'.out _ hd.out) | (exact hC'.out _ h1.out) | (exact hC'.out _ h2.out) | (exact hC'.out _ h3.out)) (first | (go_at_call 10; refine (KR.out _ hd.out).mono ?_; rintro e w3 ⟨o1, k1, rfl, hr3, hb⟩; have h1 : Hid (Below wr.heap.size wr w3) := hd.out.trans hb; clear hb) | (go_at_call 19; refine (KE.out _ _ _ h1.out hr3.out).mono ?_; rintro e w4 ⟨rfl, hb⟩; have h2 : Hid (Below wr.heap.size wr w4) := h1.out.trans (hb.mono h1.out.size); clear hb) | (go_at_call 21; refine (KF.out _ h2.out).mono ?_; rintro e w5 ⟨rfl, hb⟩; have h3 : Hid (Below wr.heap.size wr w5) := h2.out.trans (hb.mono h2.out.size); clear hb))
      all_goals
        clear KR KE KF hC' hr3
        go_wp2
        exact ⟨⟨c + 1, by omega, by go_num, hS.out.over h3.out⟩, by simp [intOf]; omega⟩
    · go_wp2_with (go_at_call 18; refine (K9.out _).mono ?_; rintro e w3 ⟨rfl, hb⟩)
      go_ret
      exact ⟨rfl, (hS.out.over hb).bl⟩
end Go.Proofs.Ytnlpbhoilalgnaa
