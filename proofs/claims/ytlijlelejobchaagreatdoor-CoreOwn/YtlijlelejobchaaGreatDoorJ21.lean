/- part.Search with any keep. (Printed by mkhunt.py.) -/
import Derived.Test.YtlijlelejobchaaGreatDoorJ20
import Derived.Laws.MakeOwn
namespace Go.Proofs.YtlijlelejobchaaGreatDoor
open Go.RowKit
theorem makeNH (m : Nat) (hm : m ≤ 200) (W : World) : (Instr.makeSlice 23 (.int .i64 (m : Int)) (.int .i64 (m : Int))).run Tryz.prog W = .ok (.slice (some ⟨W.heap.size, 0, none⟩) m m) (W.alloc (.cells (madeCells #[.int .i64 0] m) 3)) := by
  obtain ⟨i, hi, hz, hs, hb⟩ := info_parts info3
  have hr := run_make (P := Tryz.prog) W 23 3 i _ Tryz.underlying23 hi hz .i64 .i64 m m (by omega) (Int.le_refl _) (by rw [hb]; omega) (by omega)
  simp only [Int.toNat_natCast, hs, Nat.mul_one] at hr
  exact hr
theorem run_store_funcH {P : Program} {w : World} (a : Addr) (m : Mode) (f : Fn) (b l : Array Value) : (store a (.func f b l) m).run P w = stored P w a (.func f b l) m := run_store P w a _ m rfl
attribute [local go_sem] run_store_funcH
theorem alloc_stH (W : World) (o : Obj) (s : Nat) (hs : W.heap.size = s) : (W.alloc o).heap.size = s + 1 ∧ (W.alloc o).heap[s]? = some o ∧ (∀ (g : Nat) (x : Obj), W.heap[g]? = some x → (W.alloc o).heap[g]? = some x) ∧ Below s W (W.alloc o) := by
  subst hs
  refine ⟨by simp, heap_new W o, fun g x h => ?_, (Below.refl _ _).alloc (Nat.le_refl _) _⟩
  rw [Below.heap_alloc _ _ _ (Array.getElem?_eq_some_iff.1 h).1]; exact h
theorem Sx.start (w : World) (kv : Value) (n most : Nat) (hn : n ≤ 12) : Sx ((((((((w.alloc (.cells #[.int .i64 (n : Int)] 3)).alloc (.cells #[.int .i64 (most : Int)] 3)).alloc (.cells #[kv] 87)).alloc (.cells (madeCells #[.int .i64 0] n) 3)).alloc (.cells #[.slice (some ⟨w.heap.size + 3, 0, none⟩) n n] 23)).alloc (.cells #[.slice none 0 0] 33)).alloc (.cells #[keptV w.heap.size] 77)).alloc (.cells #[fillV w.heap.size] 114)) kv w.heap.size n most (fun _ => 0) (.slice none 0 0) [] (List.replicate n 0) [] ∧ Below w.heap.size w ((((((((w.alloc (.cells #[.int .i64 (n : Int)] 3)).alloc (.cells #[.int .i64 (most : Int)] 3)).alloc (.cells #[kv] 87)).alloc (.cells (madeCells #[.int .i64 0] n) 3)).alloc (.cells #[.slice (some ⟨w.heap.size + 3, 0, none⟩) n n] 23)).alloc (.cells #[.slice none 0 0] 33)).alloc (.cells #[keptV w.heap.size] 77)).alloc (.cells #[fillV w.heap.size] 114)) := by
  obtain ⟨z1, n1, k1, b1⟩ := alloc_stH w (.cells #[.int .i64 (n : Int)] 3) _ rfl
  obtain ⟨z2, n2, k2, b2⟩ := alloc_stH _ (.cells #[.int .i64 (most : Int)] 3) _ z1
  obtain ⟨z3, n3, k3, b3⟩ := alloc_stH _ (.cells #[kv] 87) _ z2
  obtain ⟨z4, n4, k4, b4⟩ := alloc_stH _ (.cells (madeCells #[.int .i64 0] n) 3) _ z3
  obtain ⟨z5, n5, k5, b5⟩ := alloc_stH _ (.cells #[.slice (some ⟨w.heap.size + 3, 0, none⟩) n n] 23) _ z4
  obtain ⟨z6, n6, k6, b6⟩ := alloc_stH _ (.cells #[.slice none 0 0] 33) _ z5
  obtain ⟨z7, n7, k7, b7⟩ := alloc_stH _ (.cells #[keptV w.heap.size] 77) _ z6
  obtain ⟨z8, n8, k8, b8⟩ := alloc_stH _ (.cells #[fillV w.heap.size] 114) _ z7
  refine ⟨⟨k8 _ _ (k7 _ _ (k6 _ _ (k5 _ _ (k4 _ _ (k3 _ _ (k2 _ _ n1)))))), k8 _ _ (k7 _ _ (k6 _ _ (k5 _ _ (k4 _ _ (k3 _ _ n2))))), k8 _ _ (k7 _ _ (k6 _ _ (k5 _ _ (k4 _ _ n3)))), k8 _ _ (k7 _ _ (k6 _ _ n5)), k8 _ _ (k7 _ _ n6), k8 _ _ n7, n8, ?_, K.famNilH _ _ _ _ _, fun _ _ => rfl, fun _ _ => rfl⟩, ?_⟩
  · have h4 := k8 _ _ (k7 _ _ (k6 _ _ (k5 _ _ n4)))
    refine ⟨by simp [cellsI], .inr ⟨w.heap.size + 3, n, _, rfl, Nat.zero_le _, h4, Nat.le_refl _, by unfold maxLen; omega, by rw [size_madeCells, Nat.mul_one], ?_⟩⟩
    rw [toList_madeCells_one, Nat.mul_one, List.take_of_length_le (by simp)]
    simp [cellsI]
  · have h2 := b1.trans (b2.mono (by omega))
    have h3 := h2.trans (b3.mono (by omega))
    have h4 := h3.trans (b4.mono (by omega))
    have h5 := h4.trans (b5.mono (by omega))
    have h6 := h5.trans (b6.mono (by omega))
    have h7 := h6.trans (b7.mono (by omega))
    exact h7.trans (b8.mono (by omega))
set_option maxRecDepth 100000 in
set_option maxHeartbeats 2000000 in
theorem searchH (G : List Nat → HS → World → Prop) (fk : Nat) (bs cs : Array Value) (Kp : List Nat → Bool) (n : Nat) (hn : n ≤ 12) (mo0 : Int) (hm0 : 0 < mo0) (most : Nat) (hmo : (most : Int) = min mo0 65536) (w : World) (hG : ∀ (p : List Nat) (s : HS) (W W' : World), G p s W → Below w.heap.size W W' → G p s W') (hF : ∀ (p : List Nat) (s : HS) (W : World), p.length = n → s.2.length < most → G p s W → G p (s.1, s.2 ++ [p]) W) (hC : ∀ (p : List Nat) (c : Nat) (s : HS) (W : World), G (p ++ [c]) s W → G p s W) (KM : Nat) (hKM : (hnS Kp most n [] ([], [])).1.length ≤ KM) (hK : KeptC G (.func (.func fk) bs cs) Kp w.heap.size n most KM) (h0 : G [] ([], []) w) :
    Calls Tryz.prog 54 #[.int .i64 (n : Int), .int .i64 mo0, .func (.func fk) bs cs] w fun e w' => ∃ oa cap, e = .returned (.slice oa (hnS Kp most n [] ([], [])).2.length cap) ∧ Hid (RRH w' (.slice oa (hnS Kp most n [] ([], [])).2.length cap) (hnS Kp most n [] ([], [])).2) ∧ Hid (G [] (hnS Kp most n [] ([], [])) w') ∧ w.heap.size ≤ w'.heap.size := by
  have hn0 : ¬ (n : Int) < 0 := by omega
  have hd0 : decide ((n : Int) < 0) = false := decide_eq_false hn0
  have hnI : ¬ (12 : Int) < (n : Int) := by omega
  have hdI : decide ((12 : Int) < (n : Int)) = false := decide_eq_false hnI
  have hm1 : ¬ mo0 < 1 := by omega
  have hdm : decide (mo0 < 1) = false := decide_eq_false hm1
  have hmk := makeNH n (by omega)
  have hS0 := Sx.start w (.func (.func fk) bs cs) n most hn
  have KS := hide' (fillH G (.func (.func fk) bs cs) Kp w.heap.size n most KM hG hF hC hK hn (by omega) n [] (by simp) trivial _ ([], []) (show 0 < most by omega) ⟨_, _, _, _, hS0.1, rfl, hG _ _ _ _ h0 hS0.2⟩ hKM)
  clear hS0 hG hC hK h0 hKM hF
  generalize hR : hnS Kp most n [] ([], []) = R at *
  by_cases hbig : (65536 : Int) < mo0
  · obtain rfl : most = 65536 := by omega
    clear hmo
    go_enter Tryz.func54, Tryz.ntmps54
    go_wp2_with fail
    refine KS.out.mono ?_
    rintro e w9 ⟨rfl, hS9⟩
    obtain ⟨tag, ov, vs, xs, h, _, hg9⟩ := hS9.out
    have ct : w9.cell? ⟨w.heap.size + 1 + 1 + 1 + 1 + 1, 0, none⟩ = some ov := cell_blkH h.bt
    obtain ⟨oa, cap, rfl⟩ := K.own_shapeH h.told.outer
    have hN := hide' (RRH.of_fam h.told)
    have hB := hide' hg9
    have hz9 : w.heap.size ≤ w9.heap.size := by have := h.lt; omega
    clear KS h hS9 hmk hg9
    go_wp2
    go_ret
    exact ⟨_, _, rfl, hN, hB, hz9⟩
  · obtain rfl : mo0 = (most : Int) := by omega
    clear hmo
    have hbI : ¬ (65536 : Int) < (most : Int) := hbig
    have hbd : decide ((65536 : Int) < (most : Int)) = false := decide_eq_false hbI
    go_enter Tryz.func54, Tryz.ntmps54
    go_wp2_with fail
    refine KS.out.mono ?_
    rintro e w9 ⟨rfl, hS9⟩
    obtain ⟨tag, ov, vs, xs, h, _, hg9⟩ := hS9.out
    have ct : w9.cell? ⟨w.heap.size + 1 + 1 + 1 + 1 + 1, 0, none⟩ = some ov := cell_blkH h.bt
    obtain ⟨oa, cap, rfl⟩ := K.own_shapeH h.told.outer
    have hN := hide' (RRH.of_fam h.told)
    have hB := hide' hg9
    have hz9 : w.heap.size ≤ w9.heap.size := by have := h.lt; omega
    clear KS h hS9 hmk hg9
    go_wp2
    go_ret
    exact ⟨_, _, rfl, hN, hB, hz9⟩
end Go.Proofs.YtlijlelejobchaaGreatDoor
