/- image.Read, walked. -/
import Derived.Test.YtgfnfbbiojnhaaaDoorImR
namespace Go.Proofs.YtgfnfbbiojnhaaaDoor
open Go.RowKit
theorem idxP (c : Array Value) (k : Nat) (v : Value) (hk : k < 4) (hc : c[k]? = some v) (w : World) : (Instr.index 57 (.agg c) (.int .i64 (k : Int))).run Tryd.prog w = .ok v w := by
  simp [Instr.index, run_underlying Tryd.underlying57, asIntOf, hk, hc, go_sem]
theorem cell_set_ne {W : World} {g k o i : Nat} {v : Value} (h : k ≠ g) : (W.setCell ⟨g, o, none⟩ v).cell? ⟨k, i, none⟩ = W.cell? ⟨k, i, none⟩ := by
  simp only [World.cell?]
  rw [Below.heap_setCell _ _ _ _ h]
theorem set6 {W : World} {T : TypeId} {g : Nat} {x0 x1 x2 x3 x4 x5 : Value} (h : W.heap[g]? = some (.cells #[x0, x1, x2, x3, x4, x5] T (0, 0))) (a b c d e f : Value) : ((((((W.setCell ⟨g, 0, none⟩ a).setCell ⟨g, 1, none⟩ b).setCell ⟨g, 2, none⟩ c).setCell ⟨g, 3, none⟩ d).setCell ⟨g, 4, none⟩ e).setCell ⟨g, 5, none⟩ f).heap[g]? = some (.cells #[a, b, c, d, e, f] T (0, 0)) := by
  have e := set_heap (set_heap (set_heap (set_heap (set_heap (set_heap h 0 a) 1 b) 2 c) 3 d) 4 e) 5 f
  simpa using e
theorem set6_below {B : Nat} {W V : World} {g : Nat} (h : Below B W V) (hg : B ≤ g) (a b c d e f : Value) : Below B W ((((((V.setCell ⟨g, 0, none⟩ a).setCell ⟨g, 1, none⟩ b).setCell ⟨g, 2, none⟩ c).setCell ⟨g, 3, none⟩ d).setCell ⟨g, 4, none⟩ e).setCell ⟨g, 5, none⟩ f) :=
  (((((h.setCell (p := ⟨g, 0, none⟩) hg a).setCell (p := ⟨g, 1, none⟩) hg b).setCell (p := ⟨g, 2, none⟩) hg c).setCell (p := ⟨g, 3, none⟩) hg d).setCell (p := ⟨g, 4, none⟩) hg e).setCell (p := ⟨g, 5, none⟩) hg f
def z6 : Array Value := #[.int .i64 0, .string ⟨#[]⟩, .string ⟨#[]⟩, .string ⟨#[]⟩, .int .i64 0, .string ⟨#[]⟩]
set_option maxRecDepth 100000 in
set_option maxHeartbeats 4000000 in
theorem readF (R : List Nat) (v : Value) (W : World) (hR : RowC W v R) (hb : ∀ b ∈ R, b < 256) (hlR : R.length ≤ 140737488355328) (hT : Tb W) : Calls Tryd.prog 10 #[v] W (RdP W R) := by
  have hno : Hid (∀ w' (x : Value), rdOk R = false → Below W.heap.size W w' → x = .int .i64 3 → RdP W R (.returned (.tuple #[.agg z6, x])) w') := by
    rintro w' _ h1 h2 rfl
    exact ⟨by unfold rdC rdE; rw [h1]; rfl, h2⟩
  have hyes : Hid (∀ w' (x : Value), rdOk R = true → Below W.heap.size W w' → x = .int .i64 0 → RdP W R (.returned (.tuple #[.agg (clJ R 4), x])) w') := by
    rintro w' _ h1 h2 rfl
    exact ⟨by unfold rdC rdE; rw [h1, clJ_end]; rfl, h2⟩
  have hk0 : Hid (R.length < 9 ∨ (9 ≤ R.length ∧ R.getD 0 0 = 0) ∨ msr (R.drop 9) = false → rdOk R = false) := by
    intro h
    unfold rdOk
    rcases h with h | ⟨_, h⟩ | h
    · simp; omega
    · simp at h; simp [h]
    · simp [h]
  have hk1 : Hid (9 ≤ R.length → R.getD 0 0 ≠ 0 → msr (R.drop 9) = true → rdOk R = true) := fun h1 h2 h3 => by
    unfold rdOk
    rw [decide_eq_true h1, decide_eq_true h2, h3]; rfl
  have hpl : Hid (9 ≤ R.length → msr (R.drop 9) = true → ∀ j, j ≤ 4 → plc (R.drop 9) j ≤ R.length) := plc_le
  have hrp : Hid (∀ j, rem (R.drop 9) j = R.drop (plc (R.drop 9) j)) := rem_plc R
  generalize RdP W R = Post at *
  generalize rdOk R = ok at *
  have hR' := hide' hR
  have hb' := hide' hb
  clear hR hb
  obtain ⟨oa, cap, rfl, ⟨hcap, _⟩, hcc⟩ := hR'.out
  have hcc' := hide' hcc
  clear hcc
  have hB1 : Hid (Below W.heap.size W (W.alloc (.cells z6 23))) := (Below.refl _ _).alloc (Nat.le_refl _) _
  have hg1 : Hid ((W.alloc (.cells z6 23)).heap[W.heap.size]? = some (.cells z6 23 (0, 0))) := heap_new _ _
  obtain ⟨n, hn⟩ : ∃ n, R.length = n := ⟨_, rfl⟩
  have hn' := hide' hn
  rw [hn] at hcap hlR ⊢
  have hR2 : Hid (RowC W (.slice oa n cap) R) := by rw [← hn]; exact hR'.out
  clear hR' hn
  go_enter Tryd.func10, Tryd.ntmps10
  by_cases h9 : n < 9
  · have h9' : (n : Int) < 9 := by omega
    have hk := hide' (hk0.out (.inl (by rw [hn'.out]; omega)))
    go_wp2
    exact bodyPost_ret (results_cl rfl rfl (heap_new _ _) rfl) rfl (hno.out _ _ hk.out hB1.out rfl)
  have h9' : ¬ (n : Int) < 9 := by omega
  obtain ⟨b0, hb0⟩ : ∃ b, R[0]? = some b := ⟨_, List.getElem?_eq_getElem (by rw [hn'.out]; omega)⟩
  obtain ⟨g, o, rfl, hcell⟩ := hcc'.out 0 b0 hb0
  rw [Nat.add_zero] at hcell
  have hgd : Hid (R.getD 0 0 = b0) := by unfold Hid; rw [List.getD_eq_getElem?_getD, hb0]; rfl
  have hb256 := hb'.out b0 (List.mem_of_getElem? hb0)
  have hb0' := hide' hb0
  clear hb0
  have hc1 := cell_new hcell (o := .cells z6 23)
  by_cases hz : b0 = 0
  · subst hz
    have hk := hide' (hk0.out (.inr (.inl ⟨by rw [hn'.out]; omega, hgd.out⟩)))
    unfold z6 at hc1 hB1 hg1
    go_wp2
    exact bodyPost_ret (results_cl rfl rfl (heap_new _ _) rfl) rfl (hno.out _ _ hk.out hB1.out rfl)
  have hz' : ((b0 : Int) == 0) = false := by simp; omega
  have hx9 := cutLo .i64 (some ⟨g, o, none⟩) n cap 9 9 rfl (by omega)
  have hM := hide' (hR2.out.rest 9 (by omega))
  have KM := hide' (measureF (R.drop 9) _ _ (hM.out.below hB1.out (Nat.le_refl _)) (fun b hb => hb'.out b (List.mem_of_mem_drop hb)) (by rw [List.length_drop, hn'.out]; omega) (hT.up hB1.out (Nat.le_refl _)))
  unfold z6 at hc1 hB1 hg1 KM
  go_wp2_with fail
  refine KM.out.mono ?_
  rintro e w3 ⟨hb3, hq⟩
  have hB3 : Hid (Below W.heap.size W w3) := hB1.out.trans (hb3.out.mono hB1.out.size)
  have hs3 : W.heap.size + 1 ≤ w3.heap.size := by have := hb3.out.size; rw [size_alloc] at this; exact this
  have hg3 := hide' ((hb3.out.block _ (by rw [size_alloc]; omega)).trans hg1.out)
  clear KM hc1 hb3 hB1 hg1 hM
  rcases hq with ⟨hm, rfl⟩ | ⟨hm, qa, qb, qc, qd, rfl⟩
  case inr =>
    have hk := hide' (hk0.out (.inr (.inr hm)))
    have hB4 : Hid (Below W.heap.size W (w3.alloc (.cells #[.int .i64 qa, .int .i64 qb, .int .i64 qc, .int .i64 qd] 46))) := hB3.out.alloc (by omega) _
    have hg4 : Hid ((w3.alloc (.cells #[.int .i64 qa, .int .i64 qb, .int .i64 qc, .int .i64 qd] 46)).heap[W.heap.size]? = some (.cells #[.int .i64 0, .string ⟨#[]⟩, .string ⟨#[]⟩, .string ⟨#[]⟩, .int .i64 0, .string ⟨#[]⟩] 23 (0, 0))) := (((Below.refl _ w3).alloc (Nat.le_refl _) _).block _ (by omega)).trans hg3.out
    obtain ⟨z0, z1, z2, z3, z4, z5⟩ := cells6 hg4.out
    have zf := cells_free hg4.out
    clear hm
    unfold quad
    go_wp2
    exact bodyPost_ret (results_cl rfl rfl (set6 hg4.out _ _ _ _ _ _) rfl) rfl (hno.out _ _ hk.out (set6_below hB4.out (Nat.le_refl _) _ _ _ _ _ _) rfl)
  have hm' := hide' hm
  clear hm
  have hk := hide' (hk1.out (by rw [hn'.out]; omega) (by rw [hgd.out]; exact hz) hm'.out)
  have hQ : Hid (∃ q0 q1 q2 q3 : Nat, q0 = lenJ (R.drop 9) 0 ∧ q1 = lenJ (R.drop 9) 1 ∧ q2 = lenJ (R.drop 9) 2 ∧ q3 = lenJ (R.drop 9) 3) := ⟨_, _, _, _, rfl, rfl, rfl, rfl⟩
  unfold quad
  have hB4 : Hid (Below W.heap.size W (w3.alloc (.cells #[.int .i64 (lenJ (R.drop 9) 0), .int .i64 (lenJ (R.drop 9) 1), .int .i64 (lenJ (R.drop 9) 2), .int .i64 (lenJ (R.drop 9) 3)] 46))) := hB3.out.alloc (by omega) _
  have hg4 : Hid ((w3.alloc (.cells #[.int .i64 (lenJ (R.drop 9) 0), .int .i64 (lenJ (R.drop 9) 1), .int .i64 (lenJ (R.drop 9) 2), .int .i64 (lenJ (R.drop 9) 3)] 46)).heap[W.heap.size]? = some (.cells #[.int .i64 0, .string ⟨#[]⟩, .string ⟨#[]⟩, .string ⟨#[]⟩, .int .i64 0, .string ⟨#[]⟩] 23 (0, 0))) := (((Below.refl _ w3).alloc (Nat.le_refl _) _).block _ (by omega)).trans hg3.out
  have hl4 : Hid ((w3.alloc (.cells #[.int .i64 (lenJ (R.drop 9) 0), .int .i64 (lenJ (R.drop 9) 1), .int .i64 (lenJ (R.drop 9) 2), .int .i64 (lenJ (R.drop 9) 3)] 46)).heap[w3.heap.size]? = some (.cells #[.int .i64 (lenJ (R.drop 9) 0), .int .i64 (lenJ (R.drop 9) 1), .int .i64 (lenJ (R.drop 9) 2), .int .i64 (lenJ (R.drop 9) 3)] 46 (0, 0))) := heap_new _ _
  have hs4 : Hid ((w3.alloc (.cells #[.int .i64 (lenJ (R.drop 9) 0), .int .i64 (lenJ (R.drop 9) 1), .int .i64 (lenJ (R.drop 9) 2), .int .i64 (lenJ (R.drop 9) 3)] 46)).heap.size = w3.heap.size + 1) := size_alloc _ _
  clear hg3 hB3
  go_wp2
  generalize hw4 : w3.alloc (.cells #[.int .i64 (lenJ (R.drop 9) 0), .int .i64 (lenJ (R.drop 9) 1), .int .i64 (lenJ (R.drop 9) 2), .int .i64 (lenJ (R.drop 9) 3)] 46) = w4 at *
  clear hw4
  generalize w3.heap.size = gl at *
  have hcR : Hid (∀ V, Below W.heap.size W V → V.cell? ⟨g, o, none⟩ = some (.int .u8 (b0 : Int))) := fun V hV => (hV.cell (p := ⟨g, o, none⟩) (cell_lt hcell)).trans hcell
  have hlh : ∀ V, (Instr.sliceAt 24 (.slice (some ⟨g, o, none⟩) n cap) (some (.int .i64 1)) (some (.int .i64 9)) none).run Tryd.prog V = .ok (.slice (adr (some ⟨g, o, none⟩) cap 1) 8 (cap - 1)) V := cutLh (some ⟨g, o, none⟩) n cap 1 9 1 9 rfl rfl (by omega) (by omega)
  have hn0 : (0 : Int) < (n : Int) := by omega
  have hn0' : 0 < n := by omega
  have hR8 := hide' (hR2.out.piece 1 8 (by omega))
  have KN : Hid (∀ V, Below W.heap.size W V → Calls Tryd.prog 19 #[.slice (adr (some ⟨g, o, none⟩) cap 1) 8 (cap - 1)] V fun e w' => e = .returned (.int .u64 (numB ((R.drop 1).take 8) : Int)) ∧ w' = V) := fun V hV => numberF (hR8.out.below hV (Nat.le_refl _)) (fun b hb => hb'.out b (List.mem_of_mem_drop (List.mem_of_mem_take hb))) (by rw [List.length_take]; omega)
  have hwb : IntKind.i64.wrap (b0 : Int) = (b0 : Int) := wrap_id (by omega) (by omega)
  obtain ⟨nb, hnb⟩ : ∃ nb, numB ((R.drop 1).take 8) = nb := ⟨_, rfl⟩
  have hnb' := hide' hnb
  rw [hnb] at KN
  clear hnb
  have h0J : Hid (clJ R 0 = #[.int .i64 (b0 : Int), .string ⟨#[]⟩, .string ⟨#[]⟩, .string ⟨#[]⟩, .int .i64 (IntKind.i64.wrap (nb : Int)), .string ⟨#[]⟩]) := by
    unfold Hid clJ
    rw [hgd.out, hnb'.out]
    rfl
  have hBa : Hid (Below W.heap.size W (w4.alloc (.cells #[.int .i64 0, .string ⟨#[]⟩, .string ⟨#[]⟩, .string ⟨#[]⟩, .int .i64 0, .string ⟨#[]⟩] 23))) := hB4.out.alloc hB4.out.size _
  go_region_held3 (fun V => V.cell? ⟨g, o, none⟩ = some (.int .u8 (b0 : Int))) (first | (exact hcR.out _ hB4.out.drew) | (exact hcR.out _ (hB4.out.alloc hB4.out.size _).drew)) (first | (go_at_call 19; refine (KN.out _ hB4.out.drew).mono ?_; rintro e w5 ⟨rfl, hw5⟩; obtain rfl : w4.drew = w5 := hw5.symm) | (go_at_call 19; refine (KN.out _ hBa.out.drew).mono ?_; rintro e w5 ⟨rfl, hw5⟩; obtain rfl : (w4.alloc (.cells #[.int .i64 0, .string ⟨#[]⟩, .string ⟨#[]⟩, .string ⟨#[]⟩, .int .i64 0, .string ⟨#[]⟩] 23)).drew = w5 := hw5.symm))
  all_goals
    clear hBa KN hlh hcR hx9
    rw [← h0J.out]
    have hB6 : Hid (Below W.heap.size W (w4.alloc (.cells (clJ R 0) 23)).drew) := (hB4.out.alloc hB4.out.size _).drew
    have hg6 : Hid ((w4.alloc (.cells (clJ R 0) 23)).drew.heap[w4.heap.size]? = some (.cells (clJ R 0) 23 (0, 0))) := heap_new w4 _
    have hr6 : Hid ((w4.alloc (.cells (clJ R 0) 23)).drew.heap[W.heap.size]? = some (.cells #[.int .i64 0, .string ⟨#[]⟩, .string ⟨#[]⟩, .string ⟨#[]⟩, .int .i64 0, .string ⟨#[]⟩] 23 (0, 0))) := (((Below.refl _ w4).alloc (Nat.le_refl _) _).drew.block _ (blk_lt hg4.out)).trans hg4.out
    have hl6 : Hid ((w4.alloc (.cells (clJ R 0) 23)).drew.heap[gl]? = some (.cells #[.int .i64 (lenJ (R.drop 9) 0), .int .i64 (lenJ (R.drop 9) 1), .int .i64 (lenJ (R.drop 9) 2), .int .i64 (lenJ (R.drop 9) 3)] 46 (0, 0))) := (((Below.refl _ w4).alloc (Nat.le_refl _) _).drew.block _ (blk_lt hl4.out)).trans hl4.out
    have hne : Hid (W.heap.size < gl ∧ gl < w4.heap.size) := ⟨by omega, by rw [hs4.out]; omega⟩
    clear hg4 hl4 hs4 hB4 hs3
    generalize (w4.alloc (.cells (clJ R 0) 23)).drew = w6 at *
    generalize w4.heap.size = gc at *
    have hplc := hide' (hpl.out (by rw [hn'.out]; omega) hm'.out)
    go_wp2
    go_loopw [7, 8, 9, 43] (fun q _ _ p wr => ∃ j : Nat, j ≤ 4 ∧ p = .int .i64 (j : Int) ∧ q = .int .i64 (plc (R.drop 9) j : Int) ∧ Hid (wr.heap[gc]? = some (.cells (clJ R j) 23 (0, 0))) ∧ Hid (wr.heap[W.heap.size]? = some (.cells #[.int .i64 0, .string ⟨#[]⟩, .string ⟨#[]⟩, .string ⟨#[]⟩, .int .i64 0, .string ⟨#[]⟩] 23 (0, 0))) ∧ Hid (wr.heap[gl]? = some (.cells #[.int .i64 (lenJ (R.drop 9) 0), .int .i64 (lenJ (R.drop 9) 1), .int .i64 (lenJ (R.drop 9) 2), .int .i64 (lenJ (R.drop 9) 3)] 46 (0, 0))) ∧ Hid (Below W.heap.size W wr)) (fun _ _ _ p _ => (4 - intOf p).toNat)
    case atStart => exact ⟨0, by omega, rfl, rfl, hg6, hr6, hl6, hB6⟩
    case round =>
      clear hg6 hr6 hl6 hB6
      obtain ⟨j, hj, rfl, rfl, hg, hr, hl, hB⟩ := hrel
      by_cases hj4 : j < 4
      · have hj4' : (j : Int) < 4 := by omega
        have hTr := hT.up hB.out (Nat.le_refl _)
        have cw := hTr.wd j hj4
        have cl : wr.cell? ⟨gl, j, none⟩ = some (.int .i64 (lenJ (R.drop 9) j : Int)) := by
          obtain ⟨e0, e1, e2, e3⟩ := cells4 hl.out
          obtain rfl | rfl | rfl | rfl : j = 0 ∨ j = 1 ∨ j = 2 ∨ j = 3 := by omega
          · exact e0
          · exact e1
          · exact e2
          · exact e3
        have xs : (Instr.index 57 (.agg #[.pointer (some ⟨gc, 1, none⟩), .pointer (some ⟨gc, 2, none⟩), .pointer (some ⟨gc, 3, none⟩), .pointer (some ⟨gc, 5, none⟩)]) (.int .i64 (j : Int))).run Tryd.prog wr = .ok (.pointer (some ⟨gc, fld j, none⟩)) wr := by
          refine idxP _ j _ hj4 ?_ wr
          obtain rfl | rfl | rfl | rfl : j = 0 ∨ j = 1 ∨ j = 2 ∨ j = 3 := by omega
          all_goals rfl
        have cc : wr.cell? ⟨gc, fld j, none⟩ = some (px R j j) := by
          have := clJ_at R j hj4
          simp [World.cell?, hg.out, this]
        have fc := cells_free hg.out (fld j)
        have hnx : plc (R.drop 9) (j + 1) = plc (R.drop 9) j + (ptW j + lenJ (R.drop 9) j) := rfl
        have hp1 := hplc.out (j + 1) (by omega)
        rw [hn'.out, hnx] at hp1
        have hcv : Hid ((convert 24 9 (.slice (adr (some ⟨g, o, none⟩) cap (plc (R.drop 9) j + ptW j)) (lenJ (R.drop 9) j) (cap - (plc (R.drop 9) j + ptW j)))).run Tryd.prog wr = .ok (.string (ptX R j)) wr) := by
          have k := (hR2.out.below hB.out (Nat.le_refl _)).piece (plc (R.drop 9) j + ptW j) (lenJ (R.drop 9) j) (by omega)
          have e : ptX R j = strB ((R.drop (plc (R.drop 9) j + ptW j)).take (lenJ (R.drop 9) j)) := by
            unfold ptX ptT
            rw [hrp.out j, List.drop_drop, ← hrp.out j]
            rfl
          rw [e]
          exact conv_bytes k
        have hs2 : Hid ((wr.setCell ⟨gc, fld j, none⟩ (.string (ptX R j))).heap[gc]? = some (.cells (clJ R (j + 1)) 23 (0, 0))) := by
          have := set_heap hg.out (fld j) (.string (ptX R j))
          rw [clJ_set R j hj4] at this
          exact this
        have hr2 : Hid ((wr.setCell ⟨gc, fld j, none⟩ (.string (ptX R j))).heap[W.heap.size]? = some (.cells #[.int .i64 0, .string ⟨#[]⟩, .string ⟨#[]⟩, .string ⟨#[]⟩, .int .i64 0, .string ⟨#[]⟩] 23 (0, 0))) := (Below.heap_setCell _ _ _ _ (by show W.heap.size ≠ gc; have := hne.out; omega)).trans hr.out
        have hl2 : Hid ((wr.setCell ⟨gc, fld j, none⟩ (.string (ptX R j))).heap[gl]? = some (.cells #[.int .i64 (lenJ (R.drop 9) 0), .int .i64 (lenJ (R.drop 9) 1), .int .i64 (lenJ (R.drop 9) 2), .int .i64 (lenJ (R.drop 9) 3)] 46 (0, 0))) := (Below.heap_setCell _ _ _ _ (by show gl ≠ gc; have := hne.out; omega)).trans hl.out
        have hB2 : Hid (Below W.heap.size W (wr.setCell ⟨gc, fld j, none⟩ (.string (ptX R j)))) := hB.out.setCell (p := ⟨gc, fld j, none⟩) (by show W.heap.size ≤ gc; have := hne.out; omega) _
        obtain ⟨lo, hlo⟩ : ∃ lo, plc (R.drop 9) j + ptW j = lo := ⟨_, rfl⟩
        have hlo' : (plc (R.drop 9) j : Int) + (ptW j : Int) = (lo : Int) := by omega
        have hx := cutLh (some ⟨g, o, none⟩) n cap lo (lo + lenJ (R.drop 9) j) (lo : Int) ((lo : Int) + (lenJ (R.drop 9) j : Int)) rfl (by omega) (by omega) (by omega)
        rw [show lo + lenJ (R.drop 9) j - lo = lenJ (R.drop 9) j by omega] at hx
        rw [hlo] at hcv
        have hcv' := hcv.out
        have hnx' := hide' hnx
        have cl2 : (wr.setCell ⟨gc, fld j, none⟩ (.string (ptX R j))).cell? ⟨gl, j, none⟩ = some (.int .i64 (lenJ (R.drop 9) j : Int)) := by
          exact (cell_set_ne (by have := hne.out; omega)).trans cl
        clear hTr hnx
        go_wp2
        exact ⟨⟨j + 1, by omega, by go_num, by simp only [Value.int.injEq, true_and]; have := hnx'.out; omega, hs2, hr2, hl2, hB2⟩, by simp [intOf] <;> omega⟩
      · obtain rfl : j = 4 := by omega
        have hcj : ∃ (y0 : Int) (x0 x1 x2 : ByteArray) (y4 : Int) (x5 : ByteArray), clJ R 4 = #[.int .i64 y0, .string x0, .string x1, .string x2, .int .i64 y4, .string x5] := ⟨_, _, _, _, _, _, rfl⟩
        obtain ⟨y0, x0, x1, x2, y4, x5, hcj⟩ := hcj
        rw [hcj] at hg hyes
        clear hcj
        obtain ⟨k0, k1, k2, k3, k4, k5⟩ := cells6 hg.out
        obtain ⟨z0, z1, z2, z3, z4, z5⟩ := cells6 hr.out
        have zf := cells_free hr.out
        go_wp2
        refine bodyPost_ret (results_cl rfl rfl (set6 hr.out _ _ _ _ _ _) rfl) rfl ?_
        exact hyes.out _ _ hk.out (set6_below hB.out (Nat.le_refl _) _ _ _ _ _ _) rfl
end Go.Proofs.YtgfnfbbiojnhaaaDoor
