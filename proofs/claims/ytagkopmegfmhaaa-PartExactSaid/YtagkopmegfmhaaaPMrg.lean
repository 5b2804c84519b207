/- part.Merge and part.Last: rows of new memory. -/
import Derived.Test.YtagkopmegfmhaaaPJoinFn
import Derived.Test.YtagkopmegfmhaaaPStep
import Derived.Deep.RegionHeld3
namespace Go.Proofs.Ytagkopmegfmhaaa
open Go.RowKit
set_option maxHeartbeats 400000 in
theorem isPlaceP (oa : Option Addr) (n cap i : Nat) (h : i < n) (w : World) :
    Calls Try.prog 51 #[.slice oa n cap, .int .i64 (i : Int)] w fun e w' => e = .returned (.bool true) ∧ w' = w := by
  have h' : (i : Int) < (n : Int) := by omega
  go_enter Try.func51, Try.ntmps51
  go_wp2
  go_ret
  exact ⟨ret_bool (by simp), rfl⟩
/-- The blocks of two places, one. -/
def mrg (l : List Nat) (i j : Nat) : List Nat := pat (ints (relab l (l.getD i 0) (l.getD j 0)))
theorem mrg_len (l : List Nat) (i j : Nat) : (mrg l i j).length = l.length := by rw [mrg, pat_len, ints_len]; simp [relab]
theorem mrg_leg (l : List Nat) (i j : Nat) : Leg 0 (mrg l i j) := leg_pat0 _
theorem wf_small {x : Nat} (h : x < 1000000) : (Lit.int .i64 (x : Int)).wf = true := WalkArith.wf_i64 (by omega)
theorem own_some {w : World} {B : Nat} {e : TypeId} {v : Value} {n : Nat} {xs : List Value} (h : w.ownsRow B e 1 v n xs) (hn : 0 < n) : ∃ g cap, v = .slice (some ⟨g, 0, none⟩) n cap ∧ B ≤ g := by
  rcases h.2 with ⟨_, h0⟩ | ⟨g, cap, cur, rfl, hb, _⟩
  · omega
  · exact ⟨g, cap, rfl, hb⟩
theorem rowI_own {w : World} {b : Nat} {v : Value} {n : Nat} {l : List Int} (h : w.ownsRow b 3 1 v n (cellsI l)) : RowI w v l := by
  have hl : n = l.length := by have := h.1; simp [cellsI] at this; omega
  subst hl
  exact RowI.of_owns h
theorem own_downM {w : World} {B C : Nat} {e : TypeId} {size : Nat} {v : Value} {n : Nat} {xs : List Value} (h : w.ownsRow B e size v n xs) (hc : C ≤ B) : w.ownsRow C e size v n xs := by
  rcases h with ⟨h1, h2⟩
  refine ⟨h1, ?_⟩
  rcases h2 with h2 | ⟨g', cap, cur, a, hb, c⟩
  · exact .inl h2
  · exact .inr ⟨g', cap, cur, a, Nat.le_trans hc hb, c⟩
set_option maxRecDepth 100000 in
set_option maxHeartbeats 4000000 in
theorem mergeO (n : Nat) (l : List Nat) (oa : Option Addr) (cap i j : Nat) (w : World) (hr : RowI w (.slice oa n cap) (ints l)) (hl : l.length = n) (hn : n ≤ 25) (hL : Leg 0 l) (hi : i < n) (hj : j < n) :
    Calls Try.prog 33 #[.slice oa n cap, .int .i64 (i : Int), .int .i64 (j : Int)] w fun e w' => ∃ g, e = .returned (.tuple #[.slice (some ⟨g, 0, none⟩) n n, .int .i64 0]) ∧ Hid (w'.ownsRow w.heap.size 3 1 (.slice (some ⟨g, 0, none⟩) n n) n (cellsI (ints (mrg l i j)))) ∧ Below w.heap.size w w' := by
  have KL := hide' (legalT l _ w hr (by omega) hL)
  have KP := hide' fun k hk W => isPlaceP oa n cap k hk W
  have KC : Hid (Calls Try.prog 43 #[.slice oa n cap] w fun e w' => ∃ g c', e = .returned (.slice (some ⟨g, 0, none⟩) n c') ∧ w.heap.size ≤ g ∧ Hid (w'.ownsRow w.heap.size 3 1 (.slice (some ⟨g, 0, none⟩) n c') n (cellsI (ints l))) ∧ Below w.heap.size w w') := by
    refine (clone (ints l) _ w hr (by rw [ints_len]; omega)).mono fun e w' ⟨v', e1, e2, e3⟩ => ?_
    rw [ints_len, hl] at e2
    obtain ⟨g, c', rfl, hb⟩ := own_some e2 (by omega)
    exact ⟨g, c', e1, hb, e2, e3⟩
  obtain ⟨x, hx⟩ : ∃ x, l[i]? = some x := ⟨_, List.getElem?_eq_getElem (by omega)⟩
  obtain ⟨y, hy⟩ : ∃ y, l[j]? = some y := ⟨_, List.getElem?_eq_getElem (by omega)⟩
  have hM : Hid (mrg l i j = pat (ints (relab l x y))) := by
    show _ = _
    unfold mrg
    rw [List.getD_eq_getElem?_getD, List.getD_eq_getElem?_getD, hx, hy]; rfl
  obtain ⟨_, _, e, _, hc⟩ := hr
  rw [ints_len, hl] at e
  cases e
  obtain ⟨ga, oo, rfl, c1⟩ := hc i x (ints_at hx)
  obtain ⟨_, _, e, c2⟩ := hc j y (ints_at hy)
  cases e
  have hcell : Hid (∀ V, Below w.heap.size w V → V.cell? ⟨ga, oo + i, none⟩ = some (.int .i64 (x : Int)) ∧ V.cell? ⟨ga, oo + j, none⟩ = some (.int .i64 (y : Int))) := fun V hV => ⟨(hV.cell (p := ⟨ga, oo + i, none⟩) (cell_lt c1)).trans c1, (hV.cell (p := ⟨ga, oo + j, none⟩) (cell_lt c2)).trans c2⟩
  have KR : Hid (∀ W g c', w.heap.size ≤ g → W.ownsRow w.heap.size 3 1 (.slice (some ⟨g, 0, none⟩) n c') n (cellsI (ints l)) → Calls Try.prog 49 #[.slice (some ⟨g, 0, none⟩) n c', .int .i64 (x : Int), .int .i64 (y : Int)] W fun e w' => e = .returned (.tuple #[]) ∧ Hid (w'.ownsRow w.heap.size 3 1 (.slice (some ⟨g, 0, none⟩) n c') n (cellsI (ints (relab l x y)))) ∧ Below g W w') := fun W g c' _ h => relabelP w.heap.size g c' n l x y W h hl hn
  have hxs : x < 25 := leg_small hL (by omega) hx
  have hys : y < 25 := leg_small hL (by omega) hy
  have hRl : (relab l x y).length = n := by simp [relab, hl]
  have KO : Hid (∀ W g c', W.ownsRow w.heap.size 3 1 (.slice (some ⟨g, 0, none⟩) n c') n (cellsI (ints (relab l x y))) → Calls Try.prog 5 #[.slice (some ⟨g, 0, none⟩) n c'] W fun e w' => ∃ g2, e = .returned (.tuple #[.slice (some ⟨g2, 0, none⟩) n n, .int .i64 0]) ∧ Hid (w'.ownsRow W.heap.size 3 1 (.slice (some ⟨g2, 0, none⟩) n n) n (cellsI (ints (mrg l i j)))) ∧ Below W.heap.size W w') := fun W g c' h => by
    have hlen : (ints (relab l x y)).length = n := by rw [ints_len, hRl]
    have h2 := h
    rw [← hlen] at h2
    have := ofP (ints (relab l x y)) _ W (RowI.of_owns h2) (by omega) (fun z hz => by
      unfold ints relab at hz
      obtain ⟨q, hq, rfl⟩ := List.mem_map.1 hz
      obtain ⟨p, hp, rfl⟩ := List.mem_map.1 hq
      refine wf_small ?_
      split
      · omega
      · obtain ⟨k, hk⟩ := List.getElem?_of_mem hp
        have := leg_small hL (by omega) hk; omega)
    rw [hlen] at this
    refine this.mono fun e w' ⟨g2, e1, e2, e3⟩ => ⟨g2, e1, ?_, e3⟩
    show w'.ownsRow _ _ _ _ _ _
    rw [hM.out]
    exact e2
  clear hc c1 c2 hx hy hM hRl hxs hys hL hl
  go_enter Try.func33, Try.ntmps33
  go_wp2_with fail
  refine KL.out.mono ?_
  rintro e w1 ⟨rfl, rfl⟩
  go_wp2_with fail
  refine (KP.out i hi _).mono ?_
  rintro e w1 ⟨rfl, rfl⟩
  go_wp2_with fail
  refine (KP.out j hj _).mono ?_
  rintro e w1 ⟨rfl, rfl⟩
  go_wp2_with fail
  refine KC.out.mono ?_
  rintro e w2 ⟨g, c', rfl, hg, hown, hb⟩
  go_wp2_with fail
  have hd : Hid (Below w1.heap.size w1 w2.drew) := hb.drew
  have hS := hide' (hcell.out _ hd.out)
  have hown' : Hid (w2.drew.ownsRow w1.heap.size 3 1 (.slice (some ⟨g, 0, none⟩) n c') n (cellsI (ints l))) := own_belowP hown.out ((Below.refl w2.heap.size w2).drew) (Nat.le_refl _)
  clear KL KP KC hown hb
  go_region_held3 (fun V => V.cell? ⟨ga, oo + i, none⟩ = some (.int .i64 (x : Int)) ∧ V.cell? ⟨ga, oo + j, none⟩ = some (.int .i64 (y : Int))) (first | (exact hS.out) | (exact hcell.out _ h3.out)) (first | (go_at_call 49; refine (KR.out _ _ _ hg hown'.out).mono ?_; rintro e w3 ⟨rfl, hown3, hb⟩; have h3 : Hid (Below w1.heap.size w1 w3) := hd.out.trans (hb.mono hg); clear hb))
  all_goals
    clear hcell hS KR hown'
    go_wp2_with (go_at_call 5; refine (KO.out _ _ _ hown3.out).mono ?_; rintro e w4 ⟨g2, rfl, hr4, hb⟩)
    refine bodyPost_ret (v := .tuple #[.slice (some ⟨g2, 0, none⟩) n n, .int .i64 0]) (by simp [results, Try.results33, go_sem]) rfl ?_
    exact ⟨_, rfl, own_downM hr4.out h3.out.size, h3.out.trans (hb.mono h3.out.size)⟩
theorem mergeP (n : Nat) (l : List Nat) (oa : Option Addr) (cap i j : Nat) (w : World) (hr : RowI w (.slice oa n cap) (ints l)) (hl : l.length = n) (hn : n ≤ 25) (hL : Leg 0 l) (hi : i < n) (hj : j < n) :
    Calls Try.prog 33 #[.slice oa n cap, .int .i64 (i : Int), .int .i64 (j : Int)] w fun e w' => ∃ g, e = .returned (.tuple #[.slice (some ⟨g, 0, none⟩) n n, .int .i64 0]) ∧ Hid (RowI w' (.slice (some ⟨g, 0, none⟩) n n) (ints (mrg l i j))) ∧ Below w.heap.size w w' :=
  (mergeO n l oa cap i j w hr hl hn hL hi hj).mono fun _ _ ⟨g, h1, h2, h3⟩ => ⟨g, h1, rowI_own h2.out, h3⟩
theorem range_leg (n : Nat) : Leg 0 (List.range n) := by
  have : ∀ b m, Leg b (ups b m) := fun b m => by
    induction m generalizing b with
    | zero => exact trivial
    | succ m ih =>
      rw [show ups b (m + 1) = b :: ups (b + 1) m by
        simp only [ups]
        rw [List.range_succ_eq_map, List.map_cons, List.map_map]
        congr 1
        refine List.map_congr_left fun k _ => ?_
        simp; omega]
      exact ⟨Nat.le_refl _, by rw [Nat.max_eq_right (Nat.le_succ _)]; exact ih (b + 1)⟩
  have h := this 0 n
  simpa [ups] using h
set_option maxRecDepth 100000 in
set_option maxHeartbeats 2000000 in
theorem lastO (n : Nat) (w : World) (hn : n ≤ 25) :
    Calls Try.prog 15 #[.int .i64 (n : Int)] w fun e w' => ∃ g, e = .returned (.tuple #[.slice (some ⟨g, 0, none⟩) n n, .int .i64 0]) ∧ Hid (w'.ownsRow w.heap.size 3 1 (.slice (some ⟨g, 0, none⟩) n n) n (cellsI (ints (List.range n)))) ∧ Below w.heap.size w w' := by
  obtain ⟨i0, hi, hz0, hz1, hz2⟩ := info_parts info3
  have KF : Hid (∀ W, Calls Try.prog 12 #[.int .i64 (n : Int)] W fun e w' => e = .returned (.bool true) ∧ w' = W) := fun W => by
    have := fits n W
    rwa [show (decide ((0 : Int) ≤ (n : Int)) && decide ((n : Int) ≤ 25)) = true by simp; omega] at this
  have KS : Hid (∀ W g, w.heap.size ≤ g → W.ownsRow w.heap.size 3 1 (.slice (some ⟨g, 0, none⟩) n n) n (cellsI (ints (List.replicate n 0))) → Calls Try.prog 41 #[.slice (some ⟨g, 0, none⟩) n n, .int .i64 0] W fun e w' => e = .returned (.tuple #[]) ∧ Hid (w'.ownsRow w.heap.size 3 1 (.slice (some ⟨g, 0, none⟩) n n) n (cellsI (ints (List.range n)))) ∧ Below g W w') := fun W g hg h => by
    by_cases h0 : n = 0
    · subst h0
      refine (spread0 (some ⟨g, 0, none⟩) 0 0 W).mono fun e w' ⟨e1, e2⟩ => ?_
      subst e2
      exact ⟨e1, h, Below.refl _ _⟩
    · refine (spreadP w.heap.size g 0 n 0 n n n [] (List.replicate n 0) W h rfl (by simp) hn (by omega) (by omega)).mono fun e w' ⟨e1, e2, e3⟩ => ⟨e1, ?_, e3⟩
      show w'.ownsRow _ _ _ _ _ _
      simpa [ups] using e2
  go_enter Try.func15, Try.ntmps15
  go_wp2_with (first | (go_at_call 12; refine (KF.out _).mono ?_; rintro e w1 ⟨rfl, rfl⟩) | (at_make; refine wpList_make_full _ rfl _ _ 22 rfl w1.heap.size 3 i0 (.int .i64 0) 1 Try.underlying22 hi hz0 hz1 .i64 .i64 _ _ n rfl rfl rfl rfl (by rw [hz2]; omega) (by unfold maxLen; omega) (by simp) ?_; intro w2 hrow hgrow))
  have hr0 : w2.ownsRow w1.heap.size 3 1 (.slice (some ⟨w1.heap.size, 0, none⟩) n n) n (cellsI (ints (List.replicate n 0))) := by
    have h := hrow
    rw [show (Value.int .i64 0).cells = #[.int .i64 0] from rfl, toList_madeCells_one, Nat.mul_one] at h
    simpa [cellsI, ints] using h
  have hB0 : Hid (Below w1.heap.size w1 w2) := (Below.refl _ w1).grown hgrow (Nat.le_refl _) (fun j ej => by cases ej)
  have hr0' := hide' hr0
  clear hr0 hrow hgrow KF
  go_wp2_with (go_at_call 41; refine (KS.out _ _ (Nat.le_refl _) hr0'.out).mono ?_; rintro e w3 ⟨rfl, hr3, hb⟩)
  refine bodyPost_ret (v := .tuple #[.slice (some ⟨w1.heap.size, 0, none⟩) n n, .int .i64 0]) (by simp [results, Try.results15, go_sem]) rfl ?_
  exact ⟨_, rfl, hr3, hB0.out.trans hb⟩
theorem lastP (n : Nat) (w : World) (hn : n ≤ 25) :
    Calls Try.prog 15 #[.int .i64 (n : Int)] w fun e w' => ∃ g, e = .returned (.tuple #[.slice (some ⟨g, 0, none⟩) n n, .int .i64 0]) ∧ Hid (RowI w' (.slice (some ⟨g, 0, none⟩) n n) (ints (List.range n))) ∧ Below w.heap.size w w' :=
  (lastO n w hn).mono fun _ _ ⟨g, h1, h2, h3⟩ => ⟨g, h1, rowI_own h2.out, h3⟩
end Go.Proofs.Ytagkopmegfmhaaa
