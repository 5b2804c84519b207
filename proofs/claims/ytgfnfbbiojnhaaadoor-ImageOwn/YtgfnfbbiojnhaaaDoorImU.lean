/- The document's Read. -/
import Derived.Test.YtgfnfbbiojnhaaaDoorImV
namespace Go.Proofs.YtgfnfbbiojnhaaaDoor
open Go.RowKit
set_option maxRecDepth 100000 in
set_option maxHeartbeats 4000000 in
theorem readD (R : List Nat) (v : Value) (W : World) (hR : RowC W v R) (hb : ∀ b ∈ R, b < 256) (hlR : R.length ≤ 140737488355328) : Calls Tryd.prog 11 #[v] W (RdP W R) := by
  have hno : Hid (∀ w' (x : Value), rdOk R = false → Below W.heap.size W w' → x = .int .i64 3 → RdP W R (.returned (.tuple #[.agg z6, x])) w') := by
    rintro w' _ h1 h2 rfl
    exact ⟨by unfold rdC rdE; rw [h1]; rfl, h2⟩
  have hyes : Hid (∀ w' (x : Value), rdOk R = true → Below W.heap.size W w' → x = .int .i64 0 → RdP W R (.returned (.tuple #[.agg (clJ R 4), x])) w') := by
    rintro w' _ h1 h2 rfl
    exact ⟨by unfold rdC rdE; rw [h1, clJ_end]; rfl, h2⟩
  have hk0 : Hid (R.length < 9 ∨ (9 ≤ R.length ∧ R.getD 0 0 = 0) ∨ msr (R.drop 9) = false → rdOk R = false) := by
    intro h
    unfold rdOk
    rcases h with h | ⟨_, h⟩ | h
    · simp; omega
    · simp at h; simp [h]
    · simp [h]
  have hk1 : Hid (9 ≤ R.length → R.getD 0 0 ≠ 0 → msr (R.drop 9) = true → rdOk R = true) := fun h1 h2 h3 => by
    unfold rdOk
    rw [decide_eq_true h1, decide_eq_true h2, h3]; rfl
  have hms := hide' (at_msr R)
  have hyes2 : Hid (∀ x1 x2 x3 x4, at1 R = (ptX R 0, x1) → at2 R = (ptX R 1, x2) → at3 R = (ptX R 2, x3) → at4 R = (ptX R 3, x4) → clJ R 4 = #[.int .i64 ((R.getD 0 0 : Nat) : Int), .string (at1 R).1, .string (at2 R).1, .string (at3 R).1, .int .i64 (IntKind.i64.wrap (numB ((R.drop 1).take 8) : Int)), .string (at4 R).1]) := fun x1 x2 x3 x4 e1 e2 e3 e4 => by
    rw [e1, e2, e3, e4]
    rfl
  have hr1 : Hid ((at1 R).2 = -1 ∨ (0 ≤ (at1 R).2 ∧ (at1 R).2 ≤ (R.length : Int)) ∨ R.length < 9) := by
    unfold Hid
    by_cases h : R.length < 9
    · exact .inr (.inr h)
    · rcases wdS_rng R 9 1 (.inr ⟨by omega, by omega⟩) with h | h
      · exact .inl h
      · exact .inr (.inl h)
  generalize RdP W R = Post at *
  generalize rdOk R = ok at *
  have hR' := hide' hR
  have hb' := hide' hb
  clear hR hb
  obtain ⟨oa, cap, rfl, ⟨hcap, _⟩, hcc⟩ := hR'.out
  have hcc' := hide' hcc
  clear hcc
  have hB1 : Hid (Below W.heap.size W (W.alloc (.cells z6 23))) := (Below.refl _ _).alloc (Nat.le_refl _) _
  have hg1 : Hid ((W.alloc (.cells z6 23)).heap[W.heap.size]? = some (.cells z6 23 (0, 0))) := heap_new _ _
  obtain ⟨n, hn⟩ : ∃ n, R.length = n := ⟨_, rfl⟩
  have hn' := hide' hn
  rw [hn] at hcap hlR ⊢
  have hR2 : Hid (RowC W (.slice oa n cap) R) := by rw [← hn]; exact hR'.out
  clear hR' hn
  go_enter Tryd.func11, Tryd.ntmps11
  by_cases h9 : n < 9
  · have h9' : (n : Int) < 9 := by omega
    have hk := hide' (hk0.out (.inl (by rw [hn'.out]; omega)))
    go_wp2
    exact bodyPost_ret (results_cl rfl rfl (heap_new _ _) rfl) rfl (hno.out _ _ hk.out hB1.out rfl)
  have h9' : ¬ (n : Int) < 9 := by omega
  obtain ⟨b0, hb0⟩ : ∃ b, R[0]? = some b := ⟨_, List.getElem?_eq_getElem (by rw [hn'.out]; omega)⟩
  obtain ⟨g, o, rfl, hcell⟩ := hcc'.out 0 b0 hb0
  rw [Nat.add_zero] at hcell
  have hgd : Hid (R.getD 0 0 = b0) := by unfold Hid; rw [List.getD_eq_getElem?_getD, hb0]; rfl
  have hb256 := hb'.out b0 (List.mem_of_getElem? hb0)
  have hb0' := hide' hb0
  clear hb0
  have hc1 := cell_new hcell (o := .cells z6 23)
  by_cases hz : b0 = 0
  · subst hz
    have hk := hide' (hk0.out (.inr (.inl ⟨by rw [hn'.out]; omega, hgd.out⟩)))
    unfold z6 at hc1 hB1 hg1
    go_wp2
    exact bodyPost_ret (results_cl rfl rfl (heap_new _ _) rfl) rfl (hno.out _ _ hk.out hB1.out rfl)
  have hz' : ((b0 : Int) == 0) = false := by simp; omega
  have hR8 := hide' (hR2.out.piece 1 8 (by omega))
  have hcR : Hid (∀ V, Below W.heap.size W V → V.cell? ⟨g, o, none⟩ = some (.int .u8 (b0 : Int))) := fun V hV => (hV.cell (p := ⟨g, o, none⟩) (cell_lt hcell)).trans hcell
  have hlh : ∀ V, (Instr.sliceAt 24 (.slice (some ⟨g, o, none⟩) n cap) (some (.int .i64 1)) (some (.int .i64 9)) none).run Tryd.prog V = .ok (.slice (adr (some ⟨g, o, none⟩) cap 1) 8 (cap - 1)) V := cutLh (some ⟨g, o, none⟩) n cap 1 9 1 9 rfl rfl (by omega) (by omega)
  have hn0 : (0 : Int) < (n : Int) := by omega
  have hn0' : 0 < n := by omega
  obtain ⟨nb, hnb⟩ : ∃ nb, numB ((R.drop 1).take 8) = nb := ⟨_, rfl⟩
  have KN : Hid (∀ V, Below W.heap.size W V → Calls Tryd.prog 20 #[.slice (adr (some ⟨g, o, none⟩) cap 1) 8 (cap - 1)] V fun e w' => e = .returned (.int .u64 (nb : Int)) ∧ w' = V) := fun V hV => by rw [← hnb]; exact valueD (hR8.out.below hV (Nat.le_refl _)) (fun b hb => hb'.out b (List.mem_of_mem_drop (List.mem_of_mem_take hb))) (by rw [List.length_take]; omega)
  have KW : Hid (∀ V (x wi : Int) (wide : Nat), Below W.heap.size W V → (x = -1 ∨ (0 ≤ x ∧ x ≤ (R.length : Int))) → wi = (wide : Int) → wide ≤ 4 → Calls Tryd.prog 21 #[.slice (some ⟨g, o, none⟩) n cap, .int .i64 x, .int .i64 wi] V fun e w' => e = .returned (.tuple #[.string (wdS R x wide).1, .int .i64 (wdS R x wide).2]) ∧ w' = V) := fun V x wi wide hV hx hwi hw => wordA R _ n cap wide x wi V hx hwi (hR2.out.below hV (Nat.le_refl _)) hb'.out hlR hw
  have hRg : Hid (∀ x wide, (x = -1 ∨ (0 ≤ x ∧ x ≤ (R.length : Int))) → (wdS R x wide).2 = -1 ∨ (0 ≤ (wdS R x wide).2 ∧ (wdS R x wide).2 ≤ (R.length : Int))) := fun x wide h => wdS_rng R x wide h
  rw [hgd.out, hnb] at hyes2
  clear hnb
  have hwb : IntKind.i64.wrap (b0 : Int) = (b0 : Int) := wrap_id (by omega) (by omega)
  have hs1 : Hid ((W.alloc (.cells z6 23)).heap.size = W.heap.size + 1) := size_alloc _ _
  unfold z6 at hc1 hB1 hg1 hs1
  go_wp2
  generalize W.alloc (.cells #[.int .i64 0, .string ⟨#[]⟩, .string ⟨#[]⟩, .string ⟨#[]⟩, .int .i64 0, .string ⟨#[]⟩] 23) = w4 at *
  have hBa : Hid (Below W.heap.size W (w4.alloc (.cells #[.int .i64 0, .string ⟨#[]⟩, .string ⟨#[]⟩, .string ⟨#[]⟩, .int .i64 0, .string ⟨#[]⟩] 23))) := hB1.out.alloc hB1.out.size _
  go_region_held3 (fun V => V.cell? ⟨g, o, none⟩ = some (.int .u8 (b0 : Int))) (first | (exact hcR.out _ hB1.out.drew) | (exact hcR.out _ (hB1.out.alloc hB1.out.size _).drew)) (first | (go_at_call 20; refine (KN.out _ hB1.out.drew).mono ?_; rintro e w5 ⟨rfl, hw5⟩; obtain rfl : w4.drew = w5 := hw5.symm) | (go_at_call 20; refine (KN.out _ hBa.out.drew).mono ?_; rintro e w5 ⟨rfl, hw5⟩; obtain rfl : (w4.alloc (.cells #[.int .i64 0, .string ⟨#[]⟩, .string ⟨#[]⟩, .string ⟨#[]⟩, .int .i64 0, .string ⟨#[]⟩] 23)).drew = w5 := hw5.symm))
  all_goals
    clear hBa KN hlh hcR
    generalize IntKind.i64.wrap (nb : Int) = nw at *
    generalize hC0 : (#[.int .i64 (b0 : Int), .string ⟨#[]⟩, .string ⟨#[]⟩, .string ⟨#[]⟩, .int .i64 (nw), .string ⟨#[]⟩] : Array Value) = C0 at *
    have hC0' := hide' hC0
    clear hC0
    have hB6 : Hid (Below W.heap.size W (w4.alloc (.cells C0 23)).drew) := (hB1.out.alloc hB1.out.size _).drew
    have hg6 : Hid ((w4.alloc (.cells C0 23)).drew.heap[w4.heap.size]? = some (.cells #[.int .i64 (b0 : Int), .string ⟨#[]⟩, .string ⟨#[]⟩, .string ⟨#[]⟩, .int .i64 (nw), .string ⟨#[]⟩] 23 (0, 0))) := by rw [hC0'.out]; exact heap_new w4 _
    have hr6 : Hid ((w4.alloc (.cells C0 23)).drew.heap[W.heap.size]? = some (.cells #[.int .i64 0, .string ⟨#[]⟩, .string ⟨#[]⟩, .string ⟨#[]⟩, .int .i64 0, .string ⟨#[]⟩] 23 (0, 0))) := (((Below.refl _ w4).alloc (Nat.le_refl _) _).drew.block _ (blk_lt hg1.out)).trans hg1.out
    have hne : Hid (W.heap.size < w4.heap.size) := by unfold Hid; rw [hs1.out]; omega
    clear hg1 hs1 hB1
    generalize (w4.alloc (.cells C0 23)).drew = w6 at *
    generalize w4.heap.size = gc at *
    have hRl : (9 : Int) ≤ (R.length : Int) := by rw [hn'.out]; omega
    have hRl' := hide' hRl
    clear hRl
    go_wp2_with fail
    refine (KW.out w6 9 1 1 hB6.out (.inr ⟨by omega, hRl'.out⟩) rfl (by decide)).mono ?_
    rintro e wx ⟨rfl, hwx⟩
    obtain rfl : w6 = wx := hwx.symm
    clear hwx
    have hq1 := hide' (hRg.out 9 1 (.inr ⟨by omega, hRl'.out⟩))
    rw [show wdS R 9 1 = at1 R from rfl] at hq1 ⊢
    obtain ⟨c0_1, c1_1, c2_1, c3_1, c4_1, c5_1⟩ := cells6 hg6.out
    have cf1 := cells_free hg6.out
    have hg7 : Hid ((w6.setCell ⟨gc, 1, none⟩ (.string (at1 R).1)).heap[gc]? = some (.cells #[.int .i64 (b0 : Int), .string (at1 R).1, .string ⟨#[]⟩, .string ⟨#[]⟩, .int .i64 (nw), .string ⟨#[]⟩] 23 (0, 0))) := by have := set_heap hg6.out 1 (.string (at1 R).1); exact hide' (by simpa using this)
    have hr7 : Hid ((w6.setCell ⟨gc, 1, none⟩ (.string (at1 R).1)).heap[W.heap.size]? = some (.cells #[.int .i64 0, .string ⟨#[]⟩, .string ⟨#[]⟩, .string ⟨#[]⟩, .int .i64 0, .string ⟨#[]⟩] 23 (0, 0))) := (Below.heap_setCell _ _ _ _ (by show W.heap.size ≠ gc; have := hne.out; omega)).trans hr6.out
    have hB7 : Hid (Below W.heap.size W (w6.setCell ⟨gc, 1, none⟩ (.string (at1 R).1))) := hB6.out.setCell (p := ⟨gc, 1, none⟩) (by show W.heap.size ≤ gc; have := hne.out; omega) _
    go_wp2_with fail
    generalize (w6.setCell ⟨gc, 1, none⟩ (.string (at1 R).1)) = w7 at *
    clear c0_1 c1_1 c2_1 c3_1 c4_1 c5_1 cf1
    refine (KW.out w7 (at1 R).2 1 1 hB7.out hq1.out rfl (by decide)).mono ?_
    rintro e wx ⟨rfl, hwx⟩
    obtain rfl : w7 = wx := hwx.symm
    clear hwx
    have hq2 := hide' (hRg.out (at1 R).2 1 hq1.out)
    rw [show wdS R (at1 R).2 1 = at2 R from rfl] at hq2 ⊢
    obtain ⟨c0_2, c1_2, c2_2, c3_2, c4_2, c5_2⟩ := cells6 hg7.out
    have cf2 := cells_free hg7.out
    have hg8 : Hid ((w7.setCell ⟨gc, 2, none⟩ (.string (at2 R).1)).heap[gc]? = some (.cells #[.int .i64 (b0 : Int), .string (at1 R).1, .string (at2 R).1, .string ⟨#[]⟩, .int .i64 (nw), .string ⟨#[]⟩] 23 (0, 0))) := by have := set_heap hg7.out 2 (.string (at2 R).1); exact hide' (by simpa using this)
    have hr8 : Hid ((w7.setCell ⟨gc, 2, none⟩ (.string (at2 R).1)).heap[W.heap.size]? = some (.cells #[.int .i64 0, .string ⟨#[]⟩, .string ⟨#[]⟩, .string ⟨#[]⟩, .int .i64 0, .string ⟨#[]⟩] 23 (0, 0))) := (Below.heap_setCell _ _ _ _ (by show W.heap.size ≠ gc; have := hne.out; omega)).trans hr7.out
    have hB8 : Hid (Below W.heap.size W (w7.setCell ⟨gc, 2, none⟩ (.string (at2 R).1))) := hB7.out.setCell (p := ⟨gc, 2, none⟩) (by show W.heap.size ≤ gc; have := hne.out; omega) _
    go_wp2_with fail
    generalize (w7.setCell ⟨gc, 2, none⟩ (.string (at2 R).1)) = w8 at *
    clear c0_2 c1_2 c2_2 c3_2 c4_2 c5_2 cf2
    refine (KW.out w8 (at2 R).2 1 1 hB8.out hq2.out rfl (by decide)).mono ?_
    rintro e wx ⟨rfl, hwx⟩
    obtain rfl : w8 = wx := hwx.symm
    clear hwx
    have hq3 := hide' (hRg.out (at2 R).2 1 hq2.out)
    rw [show wdS R (at2 R).2 1 = at3 R from rfl] at hq3 ⊢
    obtain ⟨c0_3, c1_3, c2_3, c3_3, c4_3, c5_3⟩ := cells6 hg8.out
    have cf3 := cells_free hg8.out
    have hg9 : Hid ((w8.setCell ⟨gc, 3, none⟩ (.string (at3 R).1)).heap[gc]? = some (.cells #[.int .i64 (b0 : Int), .string (at1 R).1, .string (at2 R).1, .string (at3 R).1, .int .i64 (nw), .string ⟨#[]⟩] 23 (0, 0))) := by have := set_heap hg8.out 3 (.string (at3 R).1); exact hide' (by simpa using this)
    have hr9 : Hid ((w8.setCell ⟨gc, 3, none⟩ (.string (at3 R).1)).heap[W.heap.size]? = some (.cells #[.int .i64 0, .string ⟨#[]⟩, .string ⟨#[]⟩, .string ⟨#[]⟩, .int .i64 0, .string ⟨#[]⟩] 23 (0, 0))) := (Below.heap_setCell _ _ _ _ (by show W.heap.size ≠ gc; have := hne.out; omega)).trans hr8.out
    have hB9 : Hid (Below W.heap.size W (w8.setCell ⟨gc, 3, none⟩ (.string (at3 R).1))) := hB8.out.setCell (p := ⟨gc, 3, none⟩) (by show W.heap.size ≤ gc; have := hne.out; omega) _
    go_wp2_with fail
    generalize (w8.setCell ⟨gc, 3, none⟩ (.string (at3 R).1)) = w9 at *
    clear c0_3 c1_3 c2_3 c3_3 c4_3 c5_3 cf3
    refine (KW.out w9 (at3 R).2 4 4 hB9.out hq3.out rfl (by decide)).mono ?_
    rintro e wx ⟨rfl, hwx⟩
    obtain rfl : w9 = wx := hwx.symm
    clear hwx
    have hq4 := hide' (hRg.out (at3 R).2 4 hq3.out)
    rw [show wdS R (at3 R).2 4 = at4 R from rfl] at hq4 ⊢
    obtain ⟨c0_4, c1_4, c2_4, c3_4, c4_4, c5_4⟩ := cells6 hg9.out
    have cf4 := cells_free hg9.out
    have hg10 : Hid ((w9.setCell ⟨gc, 5, none⟩ (.string (at4 R).1)).heap[gc]? = some (.cells #[.int .i64 (b0 : Int), .string (at1 R).1, .string (at2 R).1, .string (at3 R).1, .int .i64 (nw), .string (at4 R).1] 23 (0, 0))) := by have := set_heap hg9.out 5 (.string (at4 R).1); exact hide' (by simpa using this)
    have hr10 : Hid ((w9.setCell ⟨gc, 5, none⟩ (.string (at4 R).1)).heap[W.heap.size]? = some (.cells #[.int .i64 0, .string ⟨#[]⟩, .string ⟨#[]⟩, .string ⟨#[]⟩, .int .i64 0, .string ⟨#[]⟩] 23 (0, 0))) := (Below.heap_setCell _ _ _ _ (by show W.heap.size ≠ gc; have := hne.out; omega)).trans hr9.out
    have hB10 : Hid (Below W.heap.size W (w9.setCell ⟨gc, 5, none⟩ (.string (at4 R).1))) := hB9.out.setCell (p := ⟨gc, 5, none⟩) (by show W.heap.size ≤ gc; have := hne.out; omega) _
    have hfin := hms.out (by rw [hn'.out]; omega)
    have hy2 := hyes2.out (at1 R).2 (at2 R).2 (at3 R).2 (at4 R).2
    have hfn' := hide' hfin
    have hy2' := hide' hy2
    clear hfin hy2 hyes2 hms hRg KW hr1 hq1 hq2 hq3 hq4
    rw [hn'.out] at hfn'
    obtain ⟨z0, z1, z2, z3, z4, z5⟩ := cells6 hr10.out
    have zf := cells_free hr10.out
    obtain ⟨y0, y1, y2, y3, y4, y5⟩ := cells6 hg10.out
    by_cases hc : (at4 R).2 = (n : Int)
    case neg =>
      have hk := hide' (hk0.out (.inr (.inr (hfn'.out.2 (fun h => hc h.1)))))
      have hb1 : ((at4 R).2 == (n : Int)) = false := by simpa using hc
      have hb2 : ((at4 R).2 != (n : Int)) = true := by simpa using hc
      clear hfn' hy2'
      generalize (at4 R).1 = s4 at *
      generalize (at4 R).2 = x4 at *
      go_wp2
      exact bodyPost_ret (results_cl rfl rfl (set6 hr10.out _ _ _ _ _ _) rfl) rfl (hno.out _ _ hk.out (set6_below hB10.out (Nat.le_refl _) _ _ _ _ _ _) rfl)
    by_cases ht : (at4 R).1.size ≤ 65536
    case neg =>
      have hk := hide' (hk0.out (.inr (.inr (hfn'.out.2 (fun h => ht h.2)))))
      have hb1 : ((at4 R).2 == (n : Int)) = true := by simpa using hc
      have hb2 : ((at4 R).2 != (n : Int)) = false := by simpa using hc
      have ht' : (65536 : Int) < ((at4 R).1.size : Int) := by omega
      clear hfn' hy2' hc
      generalize (at4 R).1 = s4 at *
      generalize (at4 R).2 = x4 at *
      go_wp2
      exact bodyPost_ret (results_cl rfl rfl (set6 hr10.out _ _ _ _ _ _) rfl) rfl (hno.out _ _ hk.out (set6_below hB10.out (Nat.le_refl _) _ _ _ _ _ _) rfl)
    have hq := hfn'.out.1 ⟨hc, ht⟩
    have hk := hide' (hk1.out (by rw [hn'.out]; omega) (by rw [hgd.out]; exact hz) hq.1)
    have hcj := hide' (hy2'.out hq.2.1 hq.2.2.1 hq.2.2.2.1 hq.2.2.2.2)
    rw [hcj.out] at hyes
    have hb1 : ((at4 R).2 == (n : Int)) = true := by simpa using hc
    have hb2 : ((at4 R).2 != (n : Int)) = false := by simpa using hc
    have ht' : ¬ (65536 : Int) < ((at4 R).1.size : Int) := by omega
    clear hfn' hy2' hc hq hcj
    generalize (at4 R).1 = s4 at *
    generalize (at4 R).2 = x4 at *
    go_wp2
    exact bodyPost_ret (results_cl rfl rfl (set6 hr10.out _ _ _ _ _ _) rfl) rfl (hyes.out _ _ hk.out (set6_below hB10.out (Nat.le_refl _) _ _ _ _ _ _) rfl)
end Go.Proofs.YtgfnfbbiojnhaaaDoor
