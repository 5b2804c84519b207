/- image.measure. -/
import Derived.Test.YtgfnfbbiojnhaaaDoorImS
import Derived.Test.YtgfnfbbiojnhaaaDoorImW
import Derived.Deep.MidRow
namespace Go.Proofs.YtgfnfbbiojnhaaaDoor
open Go.RowKit
theorem quadS : (Tryd.prog.info? 46).map (·.size) = some 4 := by kernel_rfl
theorem range4 {W : World} {T : TypeId} {g : Nat} {a b c d : Value} (h : W.heap[g]? = some (.cells #[a, b, c, d] T (0, 0))) : W.rangeAt g 0 [a, b, c, d] := fun j v hv => by
  have hj := (List.getElem?_eq_some_iff.1 hv).1
  simp at hj
  obtain rfl | rfl | rfl | rfl : j = 0 ∨ j = 1 ∨ j = 2 ∨ j = 3 := by omega
  all_goals
    cases hv
    simp [World.cell?, h]
theorem results_quad {fn : Func} {p q : Tmp} (h : fn.results = #[.cell p 46, .tmp q]) {tmps : Array Value} {w : World} {g : Nat} {a b c d x : Value} (hp : tmps.getD p undef = .pointer (some ⟨g, 0, none⟩)) (hg : w.heap[g]? = some (.cells #[a, b, c, d] 46 (0, 0))) (hq : tmps.getD q undef = x) :
    (results fn tmps).run Tryd.prog w = .ok (.tuple #[.agg #[a, b, c, d], x]) w := by
  have e := run_loadVar_mid (P := Tryd.prog) w g 0 46 [a, b, c, d] _ (range4 hg) Tryd.underlying46 rfl quadS
  have hp' : tmps[p]?.getD undef = .pointer (some ⟨g, 0, none⟩) := by rw [← hp]; simp
  have hq' : tmps[q]?.getD undef = x := by rw [← hq]; simp
  simp only [results, h]
  simp [hp', hq', asAddr, e]
theorem set4 {W : World} {T : TypeId} {g : Nat} {x y z u : Value} (h : W.heap[g]? = some (.cells #[x, y, z, u] T (0, 0))) (a b c d : Value) : ((((W.setCell ⟨g, 0, none⟩ a).setCell ⟨g, 1, none⟩ b).setCell ⟨g, 2, none⟩ c).setCell ⟨g, 3, none⟩ d).heap[g]? = some (.cells #[a, b, c, d] T (0, 0)) := by
  have e := set_heap (set_heap (set_heap (set_heap h 0 a) 1 b) 2 c) 3 d
  simpa using e
theorem set4_below {B : Nat} {W V : World} {g : Nat} (h : Below B W V) (hg : B ≤ g) (a b c d : Value) : Below B W ((((V.setCell ⟨g, 0, none⟩ a).setCell ⟨g, 1, none⟩ b).setCell ⟨g, 2, none⟩ c).setCell ⟨g, 3, none⟩ d) :=
  (((h.setCell (p := ⟨g, 0, none⟩) hg a).setCell (p := ⟨g, 1, none⟩) hg b).setCell (p := ⟨g, 2, none⟩) hg c).setCell (p := ⟨g, 3, none⟩) hg d
/-- What measure answers. -/
def MsP (W : World) (R : List Nat) (e : Ending) (w' : World) : Prop :=
  Hid (Below W.heap.size W w') ∧ ((msr R = true ∧ e = .returned (.tuple #[quad (lenJ R 0) (lenJ R 1) (lenJ R 2) (lenJ R 3), .bool true])) ∨ (msr R = false ∧ ∃ a b c d, e = .returned (.tuple #[quad a b c d, .bool false])))
/-- The lengths so far. -/
def lz (R : List Nat) (j i : Nat) : Nat := if i < j then lenJ R i else 0
def mostJ (j : Nat) : Nat := if j < 3 then 255 else 65536
theorem Tb.most {W : World} (h : Tb W) (j : Nat) (hj : j < 4) : W.cell? ⟨1, j, none⟩ = some (.int .i64 (mostJ j : Int)) := by
  obtain rfl | rfl | rfl | rfl : j = 0 ∨ j = 1 ∨ j = 2 ∨ j = 3 := by omega
  · exact h.l0
  · exact h.l1
  · exact h.l2
  · exact h.l3
def lzC (R : List Nat) (j : Nat) : Array Value := #[.int .i64 (lz R j 0 : Int), .int .i64 (lz R j 1 : Int), .int .i64 (lz R j 2 : Int), .int .i64 (lz R j 3 : Int)]
theorem lz_set (R : List Nat) (j : Nat) (hj : j < 4) : (lzC R j).setIfInBounds j (.int .i64 (lenJ R j : Int)) = lzC R (j + 1) := by
  obtain rfl | rfl | rfl | rfl : j = 0 ∨ j = 1 ∨ j = 2 ∨ j = 3 := by omega
  all_goals simp [lzC, lz]
theorem lz_at (R : List Nat) (j i : Nat) (hi : i < 4) : (lzC R j)[i]? = some (.int .i64 (lz R j i : Int)) := by
  obtain rfl | rfl | rfl | rfl : i = 0 ∨ i = 1 ∨ i = 2 ∨ i = 3 := by omega
  all_goals rfl
theorem msr_no {R : List Nat} {j : Nat} (hj : j < 4) (h : okJ R j = false ∨ (j = 3 ∧ 65536 < lenJ R 3)) : msr R = false := by
  unfold msr
  rcases h with h | ⟨_, h⟩
  · obtain rfl | rfl | rfl | rfl : j = 0 ∨ j = 1 ∨ j = 2 ∨ j = 3 := by omega
    all_goals simp [h]
  · simp; omega
theorem msr_end {R : List Nat} (h : ∀ i, i < 4 → okJ R i = true) (h3 : lenJ R 3 ≤ 65536) : msr R = decide ((rem R 4).length = 0) := by
  unfold msr
  rw [h 0 (by omega), h 1 (by omega), h 2 (by omega), h 3 (by omega)]
  simp [h3]
set_option maxRecDepth 100000 in
set_option maxHeartbeats 4000000 in
theorem measureF (R : List Nat) (v : Value) (W : World) (hR : RowC W v R) (hb : ∀ b ∈ R, b < 256) (hlR : R.length ≤ 140737488355328) (hT : Tb W) : Calls Tryd.prog 18 #[v] W (MsP W R) := by
  have hyes : Hid (∀ w' a b c d x, Below W.heap.size W w' → msr R = true → a = (lenJ R 0 : Int) → b = (lenJ R 1 : Int) → c = (lenJ R 2 : Int) → d = (lenJ R 3 : Int) → x = true → MsP W R (.returned (.tuple #[.agg #[.int .i64 a, .int .i64 b, .int .i64 c, .int .i64 d], .bool x])) w') := by
    rintro w' _ _ _ _ _ h1 h2 rfl rfl rfl rfl rfl
    exact ⟨h1, .inl ⟨h2, rfl⟩⟩
  have hno : Hid (∀ w' a b c d x, Below W.heap.size W w' → msr R = false → x = false → MsP W R (.returned (.tuple #[.agg #[.int .i64 a, .int .i64 b, .int .i64 c, .int .i64 d], .bool x])) w') := by
    rintro w' a b c d _ h1 h2 rfl
    exact ⟨h1, .inr ⟨h2, a, b, c, d, rfl⟩⟩
  have hmn : Hid (∀ j, j < 4 → (okJ R j = false ∨ (j = 3 ∧ 65536 < lenJ R 3)) → msr R = false) := fun j hj h => msr_no hj h
  have hme : Hid ((∀ i, i < 4 → okJ R i = true) → lenJ R 3 ≤ 65536 → msr R = decide ((rem R 4).length = 0)) := fun h h3 => msr_end h h3
  generalize MsP W R = Post at *
  have hb' := hide' (rem_mem hb)
  have hlR' := hide' (fun j => Nat.le_trans (rem_len R j) hlR)
  clear hb hlR
  obtain ⟨oa, cap, rfl, hcp, hcc⟩ := hR
  have hR : Hid (RowC W (.slice oa (rem R 0).length cap) (rem R 0)) := ⟨oa, cap, rfl, hcp, hcc⟩
  have e0 : R.length = (rem R 0).length := rfl
  rw [e0]
  clear hcp hcc e0
  generalize (rem R 0).length = n0 at *
  have hB2 : Hid (Below W.heap.size W ((W.alloc (.cells #[.int .i64 0, .int .i64 0, .int .i64 0, .int .i64 0] 46)).alloc (.cells #[.int .i64 0, .int .i64 0, .int .i64 0, .int .i64 0] 46))) := ((Below.refl _ _).alloc (Nat.le_refl _) _).alloc (by rw [size_alloc]; omega) _
  have hg1 : Hid (((W.alloc (.cells #[.int .i64 0, .int .i64 0, .int .i64 0, .int .i64 0] 46)).alloc (.cells #[.int .i64 0, .int .i64 0, .int .i64 0, .int .i64 0] 46)).heap[W.heap.size]? = some (.cells #[.int .i64 0, .int .i64 0, .int .i64 0, .int .i64 0] 46 (0, 0))) :=
    (((Below.refl _ _).alloc (Nat.le_refl _) _).block _ (by rw [size_alloc]; omega)).trans (heap_new _ _)
  have hg2 : Hid (((W.alloc (.cells #[.int .i64 0, .int .i64 0, .int .i64 0, .int .i64 0] 46)).alloc (.cells #[.int .i64 0, .int .i64 0, .int .i64 0, .int .i64 0] 46)).heap[W.heap.size + 1]? = some (.cells (lzC R 0) 46 (0, 0))) := by
    have := heap_new (W.alloc (.cells #[.int .i64 0, .int .i64 0, .int .i64 0, .int .i64 0] 46)) (.cells #[.int .i64 0, .int .i64 0, .int .i64 0, .int .i64 0] 46)
    rw [size_alloc] at this
    exact this
  obtain ⟨w0, w1, w2, w3, _, _, _, _⟩ := hT.up hB2.out (Nat.le_refl _)
  go_enter Tryd.func18, Tryd.ntmps18
  go_wp2
  generalize (W.alloc (.cells #[.int .i64 0, .int .i64 0, .int .i64 0, .int .i64 0] 46)).alloc (.cells #[.int .i64 0, .int .i64 0, .int .i64 0, .int .i64 0] 46) = V2 at *
  clear w0 w1 w2 w3
  go_loopw [0, 5, 6, 7, 9] (fun v _ _ _ p wr => ∃ j : Nat, j ≤ 4 ∧ p = .int .i64 (j : Int) ∧ Hid (RowC W v (rem R j)) ∧ Hid (wr.heap[W.heap.size]? = some (.cells #[.int .i64 0, .int .i64 0, .int .i64 0, .int .i64 0] 46 (0, 0))) ∧ Hid (wr.heap[W.heap.size + 1]? = some (.cells (lzC R j) 46 (0, 0))) ∧ Hid (Below W.heap.size W wr) ∧ Hid ((∀ i, i < j → okJ R i = true) ∧ (3 < j → lenJ R 3 ≤ 65536))) (fun _ _ _ _ p _ => (4 - intOf p).toNat)
  case atStart => exact ⟨0, by omega, rfl, hR, hg1, hg2, hB2, fun i hi => by omega, fun h => by omega⟩
  case round =>
    clear hR hg1 hg2 hB2
    obtain ⟨j, hj, rfl, hv, h1, h2, hB, hok⟩ := hrel
    obtain ⟨ob, cb, rfl, _, _⟩ := hv.out
    have hlj := hv.out.len
    by_cases hj4 : j < 4
    · have hj4' : (j : Int) < 4 := by omega
      have xq : (Instr.index 46 (.agg #[.int .i64 1, .int .i64 1, .int .i64 1, .int .i64 4]) (.int .i64 (j : Int))).run Tryd.prog wr = .ok (.int .i64 (ptW j : Int)) wr := by
        refine idxQ _ j _ hj4 ?_ wr
        obtain rfl | rfl | rfl | rfl : j = 0 ∨ j = 1 ∨ j = 2 ∨ j = 3 := by omega
        all_goals rfl
      have hTr := hT.up hB.out (Nat.le_refl _)
      have cm := hTr.most j hj4
      obtain ⟨q0, q1, q2, q3⟩ := cells4 (show wr.heap[W.heap.size + 1]? = some (.cells #[_, _, _, _] _ _) from h2.out)
      obtain ⟨z0, z1, z2, z3⟩ := cells4 h1.out
      have zf := cells_free h1.out
      by_cases hw : (rem R j).length < ptW j
      · have hw' : ((rem R j).length : Int) < (ptW j : Int) := by omega
        have hms := hide' (hmn.out j hj4 (.inl (by unfold okJ ptB; simp; omega)))
        go_wp2
        exact bodyPost_ret (results_quad rfl rfl (set4 h1.out _ _ _ _) rfl) rfl (hno.out _ _ _ _ _ _ (set4_below hB.out (Nat.le_refl _) _ _ _ _) hms.out rfl)
      have hw' : ¬ ((rem R j).length : Int) < (ptW j : Int) := by omega
      have hc1 := cutHi ob (rem R j).length cb (ptW j) _ rfl (by omega)
      have hc2 := cutLo .i64 ob (rem R j).length cb (ptW j) _ rfl (by omega)
      have hd1 := hide' (hv.out.head (ptW j) (by omega))
      have hd2 := hide' (hv.out.rest (ptW j) (by omega))
      have hpw : ptW j ≤ 4 := by unfold ptW; split <;> omega
      have KN := hide' (numberF (hd1.out.below hB.out (Nat.le_refl _)) (fun b hb => hb'.out j b (List.mem_of_mem_take hb)) (by rw [List.length_take]; omega))
      have hnl : Hid (numB ((rem R j).take (ptW j)) = lenJ R j) := rfl
      have hn32 : Hid (lenJ R j < 4294967296) := ptL_lt (hb'.out j) hpw
      go_wp2_with fail
      refine KN.out.mono ?_
      rintro e wz ⟨rfl, hwz⟩
      obtain rfl : wr = wz := hwz.symm
      clear hwz
      rw [hnl.out]
      have hlm : Hid ((rem R j).length ≤ 140737488355328) := hlR'.out j
      have hmo : mostJ j ≤ 65536 := by unfold mostJ; split <;> omega
      by_cases hbig : mostJ j < lenJ R j ∨ (rem R j).length - ptW j < lenJ R j
      · have hms := hide' (hmn.out j hj4 (by
          rcases hbig with h | h
          · by_cases h3 : j = 3
            · subst h3
              exact .inr ⟨rfl, by simpa [mostJ] using h⟩
            · exfalso
              have e1 : ptW j = 1 := by unfold ptW; rw [if_pos (by omega)]
              have e2 : mostJ j = 255 := by unfold mostJ; rw [if_pos (by omega)]
              have h256 : lenJ R j < 256 := by unfold lenJ; rw [e1]; exact ptL_one (hb'.out j)
              omega
          · left
            unfold okJ ptB
            have e : ptL (ptW j) (rem R j) = lenJ R j := rfl
            rw [e]
            simp
            omega))
        have hx : ((mostJ j ≤ (rem R j).length - ptW j) ∧ mostJ j < lenJ R j) ∨ ((rem R j).length - ptW j < mostJ j ∧ (rem R j).length - ptW j < lenJ R j) := by omega
        have hn32' := hn32.out
        clear hbig hc1 hd1 hd2
        rcases hx with ⟨g1, g2⟩ | ⟨g1, g2⟩
        · go_wp2
          exact bodyPost_ret (results_quad rfl rfl (set4 h1.out _ _ _ _) rfl) rfl (hno.out _ _ _ _ _ _ (set4_below hB.out (Nat.le_refl _) _ _ _ _) hms.out rfl)
        · go_wp2
          exact bodyPost_ret (results_quad rfl rfl (set4 h1.out _ _ _ _) rfl) rfl (hno.out _ _ _ _ _ _ (set4_below hB.out (Nat.le_refl _) _ _ _ _) hms.out rfl)
      have gn1 : ¬ mostJ j < lenJ R j := by omega
      have gn2 : ¬ (rem R j).length - ptW j < lenJ R j := by omega
      have hn32' := hn32.out
      have hc3 := cutLo .u64 (adr ob cb (ptW j)) ((rem R j).length - ptW j) (cb - ptW j) (lenJ R j) _ rfl (by omega)
      have hv2 : Hid (RowC W (.slice (adr (adr ob cb (ptW j)) (cb - ptW j) (lenJ R j)) ((rem R j).length - ptW j - lenJ R j) (cb - ptW j - lenJ R j)) (rem R (j + 1))) := by
        have k := hd2.out.rest (lenJ R j) (by omega)
        rw [show (List.drop (ptW j) (rem R j)).drop (lenJ R j) = rem R (j + 1) from ptR_eq (ptW j) (rem R j)] at k
        exact k
      have hs1 : Hid ((wr.setCell ⟨W.heap.size + 1, j, none⟩ (.int .i64 (lenJ R j : Int))).heap[W.heap.size]? = some (.cells #[.int .i64 0, .int .i64 0, .int .i64 0, .int .i64 0] 46 (0, 0))) := (Below.heap_setCell _ _ _ _ (by show W.heap.size ≠ W.heap.size + 1; omega)).trans h1.out
      have hB2 : Hid (Below W.heap.size W (wr.setCell ⟨W.heap.size + 1, j, none⟩ (.int .i64 (lenJ R j : Int)))) := hB.out.setCell (p := ⟨W.heap.size + 1, j, none⟩) (by show W.heap.size ≤ W.heap.size + 1; omega) _
      have hok2 : Hid ((∀ i, i < j + 1 → okJ R i = true) ∧ (3 < j + 1 → lenJ R 3 ≤ 65536)) := by
        refine ⟨fun i hi => ?_, fun h => ?_⟩
        · by_cases e : i = j
          · subst e
            unfold okJ ptB
            have e : ptL (ptW i) (rem R i) = lenJ R i := rfl
            rw [e]
            simp
            omega
          · exact hok.out.1 i (by omega)
        · obtain rfl : j = 3 := by omega
          simpa [mostJ] using gn1
      have cl : wr.cell? ⟨W.heap.size + 1, j, none⟩ = some (.int .i64 (lz R j j : Int)) := by
        have := lz_at R j j hj4
        simp [World.cell?, h2.out, this]
      have fl := cells_free h2.out j
      have hs2 : Hid ((wr.setCell ⟨W.heap.size + 1, j, none⟩ (.int .i64 (lenJ R j : Int))).heap[W.heap.size + 1]? = some (.cells (lzC R (j + 1)) 46 (0, 0))) := by
        have := set_heap h2.out j (.int .i64 (lenJ R j : Int))
        rw [lz_set R j hj4] at this
        exact this
      clear hbig hc1 hd1 hd2 q0 q1 q2 q3 z0 z1 z2 z3 xq
      by_cases hmin : mostJ j ≤ (rem R j).length - ptW j
      · go_wp2
        exact ⟨⟨j + 1, by omega, by go_num, hv2, hs1, hs2, hB2, hok2⟩, by simp [intOf]; omega⟩
      · go_wp2
        exact ⟨⟨j + 1, by omega, by go_num, hv2, hs1, hs2, hB2, hok2⟩, by simp [intOf]; omega⟩
    · obtain rfl : j = 4 := by omega
      obtain ⟨q0, q1, q2, q3⟩ := cells4 (show wr.heap[W.heap.size + 1]? = some (.cells #[_, _, _, _] _ _) from h2.out)
      obtain ⟨z0, z1, z2, z3⟩ := cells4 h1.out
      have zf := cells_free h1.out
      have hm := hide' (hme.out hok.out.1 (hok.out.2 (by omega)))
      go_wp2
      refine bodyPost_ret (results_quad rfl rfl (set4 h1.out _ _ _ _) rfl) rfl ?_
      have hbe := set4_below (B := W.heap.size) hB.out (Nat.le_refl _) (.int .i64 (lz R 4 0 : Int)) (.int .i64 (lz R 4 1 : Int)) (.int .i64 (lz R 4 2 : Int)) (.int .i64 (lz R 4 3 : Int))
      by_cases hz : (rem R 4).length = 0
      · exact hyes.out _ _ _ _ _ _ hbe (by rw [hm.out]; simpa using hz) rfl rfl rfl rfl (by simpa using hz)
      · exact hno.out _ _ _ _ _ _ hbe (by rw [hm.out]; simpa using hz) (by simpa using hz)
end Go.Proofs.YtgfnfbbiojnhaaaDoor
