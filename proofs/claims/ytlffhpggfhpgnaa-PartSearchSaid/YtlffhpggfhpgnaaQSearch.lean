/- part.Search with the law's keep. -/
import Derived.Test.YtlffhpggfhpgnaaQRec
import Derived.Laws.MakeOwn
namespace Go.Proofs.Ytlffhpggfhpgnaa
open Go.RowKit
theorem makeN (m : Nat) (hm : m ≤ 200) (W : World) : (Instr.makeSlice 22 (.int .i64 (m : Int)) (.int .i64 (m : Int))).run Try.prog W = .ok (.slice (some ⟨W.heap.size, 0, none⟩) m m) (W.alloc (.cells (madeCells #[.int .i64 0] m) 3)) := by
  obtain ⟨i, hi, hz, hs, hb⟩ := info_parts info3
  have hr := run_make (P := Try.prog) W 22 3 i _ Try.underlying22 hi hz .i64 .i64 m m (by omega) (Int.le_refl _) (by rw [hb]; omega) (by omega)
  simp only [Int.toNat_natCast, hs, Nat.mul_one] at hr
  exact hr
theorem run_store_func {P : Program} {w : World} (a : Addr) (m : Mode) (f : Fn) (b l : Array Value) : (store a (.func f b l) m).run P w = stored P w a (.func f b l) m := run_store P w a _ m rfl
attribute [local go_sem] run_store_func
theorem alloc_st (W : World) (o : Obj) (s : Nat) (hs : W.heap.size = s) : (W.alloc o).heap.size = s + 1 ∧ (W.alloc o).heap[s]? = some o ∧ (∀ (g : Nat) (x : Obj), W.heap[g]? = some x → (W.alloc o).heap[g]? = some x) ∧ Below s W (W.alloc o) := by
  subst hs
  refine ⟨by simp, heap_new W o, fun g x h => ?_, (Below.refl _ _).alloc (Nat.le_refl _) _⟩
  rw [Below.heap_alloc _ _ _ (Array.getElem?_eq_some_iff.1 h).1]; exact h
theorem Sx.start (W1 w : World) (kv : Value) (hw : W1.heap.size + 2 ≤ w.heap.size) (hb : Bx W1 w 0) (n most : Nat) (hn : n ≤ 12) : Sx W1 ((((((((w.alloc (.cells #[.int .i64 (n : Int)] 3)).alloc (.cells #[.int .i64 (most : Int)] 3)).alloc (.cells #[kv] 32)).alloc (.cells (madeCells #[.int .i64 0] n) 3)).alloc (.cells #[.slice (some ⟨w.heap.size + 3, 0, none⟩) n n] 22)).alloc (.cells #[.slice none 0 0] 26)).alloc (.cells #[keptV w.heap.size] 38)).alloc (.cells #[fillV w.heap.size] 39)) kv w.heap.size n most (fun _ => 0) (.slice none 0 0) [] (List.replicate n 0) ([], []) := by
  obtain ⟨z1, n1, k1, b1⟩ := alloc_st w (.cells #[.int .i64 (n : Int)] 3) _ rfl
  obtain ⟨z2, n2, k2, b2⟩ := alloc_st _ (.cells #[.int .i64 (most : Int)] 3) _ z1
  obtain ⟨z3, n3, k3, b3⟩ := alloc_st _ (.cells #[kv] 32) _ z2
  obtain ⟨z4, n4, k4, b4⟩ := alloc_st _ (.cells (madeCells #[.int .i64 0] n) 3) _ z3
  obtain ⟨z5, n5, k5, b5⟩ := alloc_st _ (.cells #[.slice (some ⟨w.heap.size + 3, 0, none⟩) n n] 22) _ z4
  obtain ⟨z6, n6, k6, b6⟩ := alloc_st _ (.cells #[.slice none 0 0] 26) _ z5
  obtain ⟨z7, n7, k7, b7⟩ := alloc_st _ (.cells #[keptV w.heap.size] 38) _ z6
  obtain ⟨z8, n8, k8, b8⟩ := alloc_st _ (.cells #[fillV w.heap.size] 39) _ z7
  refine ⟨hw, k8 _ _ (k7 _ _ (k6 _ _ (k5 _ _ (k4 _ _ (k3 _ _ (k2 _ _ n1)))))), k8 _ _ (k7 _ _ (k6 _ _ (k5 _ _ (k4 _ _ (k3 _ _ n2))))), k8 _ _ (k7 _ _ (k6 _ _ (k5 _ _ (k4 _ _ n3)))), k8 _ _ (k7 _ _ (k6 _ _ n5)), k8 _ _ (k7 _ _ n6), k8 _ _ n7, n8, ?_, K.famNil _ _ _ _ _, fun _ _ => rfl, fun _ _ => rfl, ?_⟩
  · have h4 := k8 _ _ (k7 _ _ (k6 _ _ (k5 _ _ n4)))
    refine ⟨by simp [cellsI], .inr ⟨w.heap.size + 3, n, _, rfl, Nat.zero_le _, h4, Nat.le_refl _, by unfold maxLen; omega, by rw [size_madeCells, Nat.mul_one], ?_⟩⟩
    rw [toList_madeCells_one, Nat.mul_one, List.take_of_length_le (by simp)]
    simp [cellsI]
  · have h2 := b1.trans (b2.mono (by omega))
    have h3 := h2.trans (b3.mono (by omega))
    have h4 := h3.trans (b4.mono (by omega))
    have h5 := h4.trans (b5.mono (by omega))
    have h6 := h5.trans (b6.mono (by omega))
    have h7 := h6.trans (b7.mono (by omega))
    exact hb.below (h7.trans (b8.mono (by omega)))
set_option maxRecDepth 100000 in
set_option maxHeartbeats 2000000 in
theorem searchQ (W1 : World) (bs tp tb : Nat) (nn mm mo ba : Int) (of : Option Addr) (cf : Nat) (av : Value) (F : List Int) (A FA : List (List Nat)) (hE : Ev W1 bs tp tb nn mm mo ba (.slice of F.length cf) av F A) (hAF : A = FA.take 3000) (hFA : FA.length ≤ 100000) (n : Nat) (hn : n ≤ 12) (mo0 : Int) (hm0 : 0 < mo0) (most : Nat) (hmo : (most : Int) = min mo0 65536) (w : World) (hw : w.heap.size = W1.heap.size + 2) (hb : Bx W1 w 0) (hpre : (srS (keptP F mo ba) most n [] ([], [])).1 <+: FA) :
    Calls Try.prog 5 #[.int .i64 (n : Int), .int .i64 mo0, keepV bs tp W1] w fun e w' => ∃ oa cap, e = .returned (.slice oa (srS (keptP F mo ba) most n [] ([], [])).2.length cap) ∧ RR w' (.slice oa (srS (keptP F mo ba) most n [] ([], [])).2.length cap) (srS (keptP F mo ba) most n [] ([], [])).2 ∧ Bx W1 w' (srS (keptP F mo ba) most n [] ([], [])).1.length := by
  have hn0 : ¬ (n : Int) < 0 := by omega
  have hd0 : decide ((n : Int) < 0) = false := decide_eq_false hn0
  have hnI : ¬ (12 : Int) < (n : Int) := by omega
  have hdI : decide ((12 : Int) < (n : Int)) = false := decide_eq_false hnI
  have hm1 : ¬ mo0 < 1 := by omega
  have hdm : decide (mo0 < 1) = false := decide_eq_false hm1
  have hmk := makeN n (by omega)
  have hw' := hide' hw
  have hS0 := hide' (Sx.start W1 w (keepV bs tp W1) (by omega) hb n most hn)
  have KS := hide' (fillQ W1 bs tp tb nn mm mo ba of cf av F A FA hE hAF hFA w.heap.size n most hn (by omega) n [] (by simp) trivial _ ([], []) (show 0 < most by omega) ⟨_, _, _, _, hS0.out, rfl⟩ hpre)
  clear hw hS0 hE hAF hb hpre
  unfold keepV at *
  generalize hR : srS (keptP F mo ba) most n [] ([], []) = R at *
  by_cases hbig : (65536 : Int) < mo0
  · obtain rfl : most = 65536 := by omega
    clear hmo
    go_enter Try.func5, Try.ntmps5
    go_wp2_with fail
    refine KS.out.mono ?_
    rintro e w9 ⟨rfl, hS9⟩
    obtain ⟨tag, ov, vs, xs, h, _⟩ := hS9.out
    have ct : w9.cell? ⟨w.heap.size + 1 + 1 + 1 + 1 + 1, 0, none⟩ = some ov := cell_blk h.bt
    obtain ⟨oa, cap, rfl⟩ := K.own_shape h.told.outer
    have hN := hide' (RR.of_fam h.told)
    have hB := hide' h.bx
    clear KS h hS9 hmk
    go_wp2
    go_ret
    exact ⟨_, _, rfl, hN.out, hB.out⟩
  · obtain rfl : mo0 = (most : Int) := by omega
    clear hmo
    have hbI : ¬ (65536 : Int) < (most : Int) := hbig
    have hbd : decide ((65536 : Int) < (most : Int)) = false := decide_eq_false hbI
    go_enter Try.func5, Try.ntmps5
    go_wp2_with fail
    refine KS.out.mono ?_
    rintro e w9 ⟨rfl, hS9⟩
    obtain ⟨tag, ov, vs, xs, h, _⟩ := hS9.out
    have ct : w9.cell? ⟨w.heap.size + 1 + 1 + 1 + 1 + 1, 0, none⟩ = some ov := cell_blk h.bt
    obtain ⟨oa, cap, rfl⟩ := K.own_shape h.told.outer
    have hN := hide' (RR.of_fam h.told)
    have hB := hide' h.bx
    clear KS h hS9 hmk
    go_wp2
    go_ret
    exact ⟨_, _, rfl, hN.out, hB.out⟩
end Go.Proofs.Ytlffhpggfhpgnaa
