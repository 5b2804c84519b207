/- part.Search(n, 5, nil): rows of new memory. -/
import Derived.Test.YtomjcimibpcpbaaPSrc2
import Derived.Laws.MakeOwn
namespace Go.Proofs.Ytomjcimibpcpbaa
open Go.RowKit
theorem makeN (m : Nat) (hm : m ≤ 200) (W : World) : (Instr.makeSlice 22 (.int .i64 (m : Int)) (.int .i64 (m : Int))).run Try.prog W = .ok (.slice (some ⟨W.heap.size, 0, none⟩) m m) (W.alloc (.cells (madeCells #[.int .i64 0] m) 3)) := by
  obtain ⟨i, hi, hz, hs, hb⟩ := info_parts info3
  have hr := run_make (P := Try.prog) W 22 3 i _ Try.underlying22 hi hz .i64 .i64 m m (by omega) (Int.le_refl _) (by rw [hb]; omega) (by omega)
  simp only [Int.toNat_natCast, hs, Nat.mul_one] at hr
  exact hr
theorem run_store_func {P : Program} {w : World} (a : Addr) (m : Mode) (f : Fn) (b l : Array Value) : (store a (.func f b l) m).run P w = stored P w a (.func f b l) m := run_store P w a _ m rfl
attribute [local go_sem] run_store_func
theorem alloc_st (W : World) (o : Obj) (s : Nat) (hs : W.heap.size = s) : (W.alloc o).heap.size = s + 1 ∧ (W.alloc o).heap[s]? = some o ∧ (∀ (g : Nat) (x : Obj), W.heap[g]? = some x → (W.alloc o).heap[g]? = some x) ∧ Below s W (W.alloc o) := by
  subst hs
  refine ⟨by simp, heap_new W o, fun g x h => ?_, (Below.refl _ _).alloc (Nat.le_refl _) _⟩
  rw [Below.heap_alloc _ _ _ (Array.getElem?_eq_some_iff.1 h).1]; exact h
theorem Sx.start (w : World) (n : Nat) (hn : n ≤ 12) : Sx w ((((((((w.alloc (.cells #[.int .i64 (n : Int)] 3)).alloc (.cells #[.int .i64 5] 3)).alloc (.cells #[.nilFunc] 56)).alloc (.cells (madeCells #[.int .i64 0] n) 3)).alloc (.cells #[.slice (some ⟨w.heap.size + 3, 0, none⟩) n n] 22)).alloc (.cells #[.slice none 0 0] 33)).alloc (.cells #[keptV w.heap.size] 58)).alloc (.cells #[fillV w.heap.size] 69)) w.heap.size n 5 (fun _ => 0) 0 (.slice none 0 0) [] (fun _ => []) := by
  obtain ⟨z1, n1, k1, b1⟩ := alloc_st w (.cells #[.int .i64 (n : Int)] 3) _ rfl
  obtain ⟨z2, n2, k2, b2⟩ := alloc_st _ (.cells #[.int .i64 5] 3) _ z1
  obtain ⟨z3, n3, k3, b3⟩ := alloc_st _ (.cells #[.nilFunc] 56) _ z2
  obtain ⟨z4, n4, k4, b4⟩ := alloc_st _ (.cells (madeCells #[.int .i64 0] n) 3) _ z3
  obtain ⟨z5, n5, k5, b5⟩ := alloc_st _ (.cells #[.slice (some ⟨w.heap.size + 3, 0, none⟩) n n] 22) _ z4
  obtain ⟨z6, n6, k6, b6⟩ := alloc_st _ (.cells #[.slice none 0 0] 33) _ z5
  obtain ⟨z7, n7, k7, b7⟩ := alloc_st _ (.cells #[keptV w.heap.size] 58) _ z6
  obtain ⟨z8, n8, k8, b8⟩ := alloc_st _ (.cells #[fillV w.heap.size] 69) _ z7
  refine ⟨k8 _ _ (k7 _ _ (k6 _ _ (k5 _ _ (k4 _ _ (k3 _ _ (k2 _ _ n1)))))), k8 _ _ (k7 _ _ (k6 _ _ (k5 _ _ (k4 _ _ (k3 _ _ n2))))), k8 _ _ (k7 _ _ (k6 _ _ (k5 _ _ (k4 _ _ n3)))), k8 _ _ (k7 _ _ (k6 _ _ n5)), k8 _ _ (k7 _ _ n6), k8 _ _ n7, n8, ⟨List.replicate n 0, ?_⟩, K.famNil _ _ _ _ _, fun j hj => by omega, fun _ _ => rfl, fun _ _ => rfl, ?_⟩
  · have h4 := k8 _ _ (k7 _ _ (k6 _ _ (k5 _ _ n4)))
    refine ⟨by simp [cellsI], .inr ⟨w.heap.size + 3, n, _, rfl, Nat.zero_le _, h4, Nat.le_refl _, by unfold maxLen; omega, by rw [size_madeCells, Nat.mul_one], ?_⟩⟩
    rw [toList_madeCells_one, Nat.mul_one, List.take_of_length_le (by simp)]
    simp [cellsI]
  · have h2 := b1.trans (b2.mono (by omega))
    have h3 := h2.trans (b3.mono (by omega))
    have h4 := h3.trans (b4.mono (by omega))
    have h5 := h4.trans (b5.mono (by omega))
    have h6 := h5.trans (b6.mono (by omega))
    have h7 := h6.trans (b7.mono (by omega))
    exact h7.trans (b8.mono (by omega))
/-- Rows that were made behind a world, each of its own. -/
def New5 (w w' : World) (ov : Value) : Prop := ∃ tag k vs rows, K.Fam w' tag 2 (fun j => 10 + 2 * j) ov k vs rows ∧ k ≤ 65536 ∧ (∀ j, j < k → (rows j).length ≤ 1000000) ∧ ∀ g, tag g ≠ 0 → w.heap.size ≤ g
theorem New5.nil (w w' : World) : New5 w w' (.slice none 0 0) := ⟨fun _ => 0, 0, [], fun _ => [], K.famNil _ _ _ _ _, by omega, fun j hj => by omega, fun g h => absurd rfl h⟩
set_option maxRecDepth 100000 in
set_option maxHeartbeats 2000000 in
theorem searchF (n : Nat) (w : World) :
    Calls Try.prog 19 #[.int .i64 (n : Int), .int .i64 5, .nilFunc] w fun e w' => ∃ oa k cap, e = .returned (.slice oa k cap) ∧ Hid (New5 w w' (.slice oa k cap)) ∧ Below w.heap.size w w' := by
  have hn0 : ¬ (n : Int) < 0 := by omega
  have hd0 : decide ((n : Int) < 0) = false := decide_eq_false hn0
  by_cases hn : n ≤ 12
  · have hnI : ¬ (12 : Int) < (n : Int) := by omega
    have hdI : decide ((12 : Int) < (n : Int)) = false := decide_eq_false hnI
    have hmk := makeN n (by omega)
    go_enter Try.func19, Try.ntmps19
    have KS := hide' (fillF w w.heap.size n 5 hn (by decide) n 0 0 (by omega) (by omega) _ _ 0 _ _ _ (Sx.start w n hn) (by decide))
    go_wp2_with fail
    refine KS.out.mono ?_
    rintro e w9 ⟨rfl, hS9⟩
    obtain ⟨tag, k, ov, vs, rows, h, hk⟩ := hS9.out
    have ct : w9.cell? ⟨w.heap.size + 1 + 1 + 1 + 1 + 1, 0, none⟩ = some ov := cell_blk h.bt
    obtain ⟨oa, cap, rfl⟩ := K.own_shape h.told.outer
    have hN : Hid (New5 w w9 (.slice oa k cap)) := ⟨tag, k, vs, rows, h.told, by omega, fun j hj => by rw [h.len j hj]; omega, fun g hg => by
      rcases Nat.lt_or_ge g (w.heap.size + 8) with h1 | h1
      · exact absurd (h.low g h1) hg
      · omega⟩
    have hB := hide' h.old
    clear KS h hS9 hmk
    go_wp2
    go_ret
    exact ⟨_, _, _, rfl, hN, hB.out⟩
  · have hnI : (12 : Int) < (n : Int) := by omega
    have hB : Hid (Below w.heap.size w (((w.alloc (.cells #[.int .i64 (n : Int)] 3)).alloc (.cells #[.int .i64 5] 3)).alloc (.cells #[.nilFunc] 56))) := (((Below.refl _ w).alloc (Nat.le_refl _) _).alloc (by simp) _).alloc (by simp; omega) _
    go_enter Try.func19, Try.ntmps19
    go_wp2
    go_ret
    exact ⟨_, _, _, rfl, New5.nil _ _, hB.out⟩
end Go.Proofs.Ytomjcimibpcpbaa
