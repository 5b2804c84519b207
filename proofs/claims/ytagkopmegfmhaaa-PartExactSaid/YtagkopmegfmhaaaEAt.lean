/- The document's At. -/
import Derived.Test.YtagkopmegfmhaaaERef3
namespace Go.Proofs.Ytagkopmegfmhaaa
open Go.RowKit
/-- The row with j at the place c. -/
def rowJ (dn : List Nat) (j n c : Nat) : List Value := cellsI (ints dn) ++ .int .i64 (j : Int) :: List.replicate (n - (c + 1)) (.int .i64 0)
theorem rowJ_zero (dn : List Nat) {n c : Nat} (h : c < n) : cellsI (ints dn) ++ List.replicate (n - c) (Value.int .i64 0) = rowJ dn 0 n c := by
  unfold rowJ
  obtain ⟨m, hm⟩ : ∃ m, n - c = m + 1 := ⟨n - c - 1, by omega⟩
  rw [hm, show n - (c + 1) = m by omega, List.replicate_succ]; rfl
theorem rowJ_end (dn : List Nat) (j n c : Nat) : rowJ dn j n c = cellsI (ints (dn ++ [j])) ++ List.replicate (n - (c + 1)) (Value.int .i64 0) := by
  rw [cellsI_snoc]; unfold rowJ; simp
theorem rowJ_at (dn : List Nat) (j n c : Nat) (h : dn.length = c) : (rowJ dn j n c)[c]? = some (.int .i64 (j : Int)) := by
  unfold rowJ
  have : (cellsI (ints dn)).length = c := by simp [cellsI, ints, h]
  rw [List.getElem?_append_right (by omega), this, Nat.sub_self]; rfl
theorem rowJ_set (dn : List Nat) (j k n c : Nat) (h : dn.length = c) : (rowJ dn j n c).set c (.int .i64 (k : Int)) = rowJ dn k n c := by
  unfold rowJ
  have : (cellsI (ints dn)).length = c := by simp [cellsI, ints, h]
  rw [List.set_append, if_neg (by omega), this, Nat.sub_self]; rfl
set_option maxRecDepth 100000 in
set_option maxHeartbeats 2000000 in
theorem refAt (n r0 : Nat) (hn : n ≤ 25) (hr0 : r0 < ways n 0) (w : World) :
    Calls Try.prog 19 #[.int .i64 n, .int .u64 r0] w fun e w' => ∃ g, e = .returned (.slice (some ⟨g, 0, none⟩) n n) ∧ w'.ownsRow w.heap.size 3 1 (.slice (some ⟨g, 0, none⟩) n n) n (cellsI (ints (rowAt n 0 r0))) ∧ Below w.heap.size w w' := by
  obtain ⟨i0, hi, hz0, hz1, hz2⟩ := info_parts info3
  have hmax : r0 ≤ 4638590332229999353 := by have := ways_small (l := n) (b := 0) (by omega); omega
  clear hr0
  go_enter Try.func19, Try.ntmps19
  go_wp2_with (at_make; refine wpList_make_full _ rfl _ _ 22 rfl w.heap.size 3 i0 (.int .i64 0) 1 Try.underlying22 hi hz0 hz1 .i64 .i64 _ _ n rfl rfl rfl rfl (by rw [hz2]; omega) (by unfold maxLen; omega) (by simp) ?_; intro w2 hrow hgrow)
  have hr1' : w2.ownsRow w.heap.size 3 1 (.slice (some ⟨w.heap.size, 0, none⟩) n n) n (cellsI (ints []) ++ List.replicate (n - 0) (.int .i64 0)) := by
    have h := hrow
    rw [show (Value.int .i64 0).cells = #[.int .i64 0] from rfl, toList_madeCells_one, Nat.mul_one] at h
    simpa [cellsI, ints] using h
  have hr1 := hide' hr1'
  clear hr1'
  have hB1 : Hid (Below w.heap.size w w2) := (Below.refl _ w).grown hgrow (Nat.le_refl _) (fun j ej => by cases ej)
  clear hrow hgrow
  go_wp2
  go_loopw [1, 6, 7, 8] (fun rv bv k _ wr => ∃ (c r b : Nat) (dn : List Nat), c ≤ n ∧ k = .int .i64 c ∧ rv = .int .u64 (r : Int) ∧ bv = .int .i64 (b : Int) ∧ b ≤ c ∧ r ≤ r0 ∧ dn.length = c ∧ Hid (rowAt n 0 r0 = dn ++ rowAt (n - c) b r) ∧ Hid (wr.ownsRow w.heap.size 3 1 (.slice (some ⟨w.heap.size, 0, none⟩) n n) n (cellsI (ints dn) ++ List.replicate (n - c) (.int .i64 0))) ∧ Hid (Below w.heap.size w wr)) (fun _ _ k _ _ => ((n : Int) - intOf k).toNat)
  case atStart => exact ⟨0, r0, 0, [], Nat.zero_le _, rfl, rfl, rfl, Nat.le_refl _, Nat.le_refl _, rfl, rfl, hr1, hB1⟩
  case round =>
    clear hr1 hB1
    obtain ⟨c, r, b, dn, hc, rfl, rfl, rfl, hbc, hrr, hdn, hE, hrow, hB⟩ := hrel
    by_cases hlt : c < n
    · obtain ⟨m, hm⟩ : ∃ m, n = c + 1 + m := ⟨n - (c + 1), by omega⟩
      have hE2 := hE.out
      rw [show n - c = m + 1 by omega, rowAt] at hE2
      have hWp := ways_pos m b
      have hix : (n : Int) - 1 - (c : Int) = (m : Int) := by omega
      have KW : Hid (Calls Try.prog 42 #[.int .i64 (m : Int), .int .i64 (b : Int)] wr fun e w' => e = .returned (.int .u64 ((ways m b : Nat) : Int)) ∧ Below wr.heap.size wr w') := refWays m b (by omega) wr
      have hE3 : Hid (∀ x, x = min (r / ways m b) b → rowAt n 0 r0 = (dn ++ [x]) ++ rowAt (n - (c + 1)) (max b (x + 1)) (r - x * ways m b)) := fun x hx => by
        rw [hE2, ← hx, show n - (c + 1) = m by omega]; simp
      have hrow1 := hrow.out
      rw [rowJ_zero dn hlt] at hrow1
      have hR0 : Hid (∀ V, Below wr.heap.size wr V → V.ownsRow w.heap.size 3 1 (.slice (some ⟨w.heap.size, 0, none⟩) n n) n (rowJ dn 0 n c)) := fun V hV => by
        refine hrow1.kept (row := none) ⟨hV.os, hV.tape, hV.output, hV.size, fun g hg _ => hV.block g hg⟩ (.inr ?_)
        simp [Value.ownBlock]
      have hdn' := hide' hdn
      clear hE2 hE hrow hrow1 hdn hm
      generalize ways m b = W at *
      go_wp2_with (first | (go_at_call 42; refine KW.out.mono ?_; rintro e w3 ⟨rfl, hb3⟩))
      have hr3 := hide' (hR0.out _ hb3)
      have hB3 := hide' (hB.out.trans (hb3.mono hB.out.size))
      clear hb3 hR0 hB KW
      go_loopw [1] (fun rv wr => ∃ j p : Nat, j ≤ b ∧ j * W + p = r ∧ rv = .int .u64 (p : Int) ∧ Hid (wr.ownsRow w.heap.size 3 1 (.slice (some ⟨w.heap.size, 0, none⟩) n n) n (rowJ dn j n c)) ∧ Hid (Below w.heap.size w wr)) (fun rv _ => (intOf rv).toNat)
      case atStart => exact ⟨0, r, Nat.zero_le _, by omega, rfl, hr3, hB3⟩
      case round =>
        clear hr3 hB3
        obtain ⟨j, p, hjb, hjp, rfl, hrow, hB⟩ := hrel
        have hpr : p ≤ 4638590332229999353 := by omega
        have c0 : wr.cell? ⟨w.heap.size, c, none⟩ = some (.int .i64 (j : Int)) := by rw [hrow.out.cellAt c (by omega)]; exact rowJ_at dn j n c hdn'.out
        have fz := hrow.out.frozenAt c
        by_cases hgo : j < b ∧ W ≤ p
        · obtain ⟨hj, hWl⟩ := hgo
          have hjI : (j : Int) < (b : Int) := by omega
          have hWI : (W : Int) ≤ (p : Int) := by omega
          have hS := (hrow.out.stored c (.int .i64 ((j + 1 : Nat) : Int))).1
          rw [rowJ_set dn j (j + 1) n c hdn'.out] at hS
          have hS' : Hid ((wr.setCell ⟨w.heap.size, c, none⟩ (.int .i64 ((j : Int) + 1))).ownsRow w.heap.size 3 1 (.slice (some ⟨w.heap.size, 0, none⟩) n n) n (rowJ dn (j + 1) n c)) := by
            rw [show (j : Int) + 1 = ((j + 1 : Nat) : Int) by omega]; exact hS
          have hB1 := hide' (hB.out.setCell (Nat.le_refl _) (p := ⟨w.heap.size, c, none⟩) (.int .i64 ((j : Int) + 1)))
          have hjp' : Hid ((j + 1) * W + (p - W) = r) := by show _ = _; rw [Nat.add_mul]; omega
          have hsub : Hid (((p - W : Nat) : Int) = (p : Int) - (W : Int)) := by show _ = _; omega
          clear hrow hS hB hE3 hjp
          go_wp2
          refine ⟨⟨j + 1, p - W, by omega, hjp'.out, ?_, hS', hB1⟩, ?_⟩
          · rw [hsub.out]
          · simp [intOf]; omega
        · have hx : j = min (r / W) b := by
            by_cases hj : j < b
            · have h1 : p < W := by omega
              have h2 : r / W = j := Nat.div_eq_of_lt_le (by omega) (by rw [Nat.add_mul]; omega)
              rw [h2]; omega
            · obtain rfl : j = b := by omega
              have h2 : j ≤ r / W := (Nat.le_div_iff_mul_le hWp).2 (by omega)
              omega
          have hE4 := hE3.out j hx
          rw [show r - j * W = p by omega] at hE4
          have hE4' := hide' hE4
          have hrow2 := hrow.out
          rw [rowJ_end] at hrow2
          have hrow2' := hide' hrow2
          have hdl : Hid ((dn ++ [j]).length = c + 1) := by show _ = _; rw [List.length_append, hdn'.out]; rfl
          have hpr0 : p ≤ r0 := by omega
          clear hE3 hE4 hrow hrow2 hx
          by_cases hj : j < b
          · have hjI : (j : Int) < (b : Int) := by omega
            have hWI : ¬ (W : Int) ≤ (p : Int) := by omega
            have hWd : decide ((W : Int) ≤ (p : Int)) = false := decide_eq_false hWI
            have hne : ((j : Int) == (b : Int)) = false := by simp; omega
            have hmx : max b (j + 1) = b := by omega
            rw [hmx] at hE4'
            clear hmx hgo hjp
            go_wp2
            exact ⟨⟨c + 1, p, b, dn ++ [j], by omega, by go_num, rfl, rfl, by omega, hpr0, hdl.out, hE4', hrow2', hB⟩, by simp [intOf]; omega⟩
          · have hjI : ¬ (j : Int) < (b : Int) := by omega
            have hjd : decide ((j : Int) < (b : Int)) = false := decide_eq_false hjI
            have hne : ((j : Int) == (b : Int)) = true := by simp; omega
            have hmx : max b (j + 1) = b + 1 := by omega
            rw [hmx] at hE4'
            clear hmx hgo hjp
            go_wp2
            exact ⟨⟨c + 1, p, b + 1, dn ++ [j], by omega, by go_num, rfl, by go_num, by omega, hpr0, hdl.out, hE4', hrow2', hB⟩, by simp [intOf]; omega⟩
    · obtain rfl : c = n := by omega
      have e : Hid (rowAt c 0 r0 = dn) := by
        show _ = _
        have := hE.out
        rwa [Nat.sub_self, rowAt, List.append_nil] at this
      have hrow1 := hrow.out
      rw [Nat.sub_self, List.replicate_zero, List.append_nil] at hrow1
      have hrow2 := hide' hrow1
      clear hE hrow hrow1
      go_wp2
      go_ret
      exact ⟨_, rfl, by rw [e.out]; exact hrow2.out, hB.out⟩
end Go.Proofs.Ytagkopmegfmhaaa
