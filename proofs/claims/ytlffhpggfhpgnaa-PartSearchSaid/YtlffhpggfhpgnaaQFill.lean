/- part.Search with the law's keep: all of its recursion. -/
import Derived.Test.YtlffhpggfhpgnaaQSx
namespace Go.Proofs.Ytlffhpggfhpgnaa
open Go.RowKit
theorem eql_fnQ (b l : Array Value) (w : World) : (binOp .eql 32 (.func (.func 6) b l) .nilFunc).run Try.prog w = .ok (.bool false) w := by
  kernel_rfl
set_option maxRecDepth 100000 in
set_option maxHeartbeats 2000000 in
theorem keptQ (W1 : World) (bs tp tb : Nat) (nn mm mo ba : Int) (of : Option Addr) (cf : Nat) (av : Value) (F : List Int) (A : List (List Nat)) (hE : Ev W1 bs tp tb nn mm mo ba (.slice of F.length cf) av F A) (hA : A.length ≤ 3000) (a n most : Nat) (hn : n ≤ 12) (q : List Nat) (hq0 : 0 < q.length) (hq : q.length ≤ n) (hqb : ∀ x ∈ q, x ≤ 25) (W : World) (tag : Nat → Nat) (ov : Value) (vs : List Value) (xs : List Int) (s : SS) (hs : s.1.length ≤ 100000) (h : Sx W1 W (keepV bs tp W1) a n most tag ov vs xs s) (htk : xs.take q.length = ints q) (hask : A.length < 3000 ∨ s.1.length < 3000 → A[s.1.length]? = some q) :
    Calls Try.prog 13 #[.int .i64 (q.length : Int), .pointer (some ⟨a + 2, 0, none⟩), .pointer (some ⟨a + 4, 0, none⟩)] W fun e w' => e = .returned (.bool (decide (s.1.length + 1 ≤ 3000) && keptP F mo ba q)) ∧ Hid (Sx W1 w' (keepV bs tp W1) a n most tag ov vs xs (s.1 ++ [q], s.2)) := by
  have he := eql_fnQ
  have ck := cell_blk h.bk
  have cr := cell_blk h.br
  have hge := h.ge
  have hlt := h.lt
  have hxl : xs.length = n := by have := h.row.1; simp [cellsI] at this; omega
  have hrow : RowI W (.slice (some ⟨a + 3, 0, none⟩) q.length q.length) (ints q) := by
    have hr := h.row
    refine ⟨some ⟨a + 3, 0, none⟩, q.length, by rw [ints_len], ⟨by rw [ints_len]; exact Nat.le_refl _, fun e => by cases e⟩, fun i z hi => ⟨a + 3, 0, rfl, ?_⟩⟩
    have hil := (List.getElem?_eq_some_iff.1 hi).1
    rw [ints_len] at hil
    rw [← htk, List.getElem?_take_of_lt hil] at hi
    rw [Nat.zero_add, hr.cellAt i (by omega)]
    simp [cellsI, hi]
  have KQ : Hid (Calls Try.prog 6 #[.slice (some ⟨a + 3, 0, none⟩) q.length q.length, .pointer (some ⟨tp, 0, none⟩), .pointer (some ⟨W1.heap.size, 0, none⟩), .pointer (some ⟨W1.heap.size + 1, 0, none⟩), .pointer (some ⟨bs, 0, none⟩)] W.drew fun e w' => e = .returned (.bool (decide (s.1.length + 1 ≤ 3000) && keptP F mo ba q)) ∧ Hid (Sx W1 w' (keepV bs tp W1) a n most tag ov vs xs (s.1 ++ [q], s.2))) := by
    refine (keepQ W1 bs tp tb nn mm mo ba of cf av F A hE hA W.drew s.1.length hs (h.bx.below (Below.refl _ W).drew) q _ (hrow.below (Below.refl _ W).drew (Nat.le_refl _)) (fun g o n c e => by cases e; omega) (by omega) hqb hask).mono ?_
    rintro e w' ⟨rfl, hb, hs2⟩
    refine ⟨rfl, ?_⟩
    exact h.sb (q := s.1 ++ [q]) ((Sb.below (Below.refl _ W).drew).trans hs2) (by rw [List.length_append]; exact hb)
  have h' := hide' h
  generalize hB : (decide (s.1.length + 1 ≤ 3000) && keptP F mo ba q) = b at *
  clear hrow hask htk hE h hB hqb
  unfold keepV at ck
  have hS0 : Hid (W.drew.cell? ⟨a + 2, 0, none⟩ = some (keepV bs tp W1) ∧ W.drew.cell? ⟨a + 4, 0, none⟩ = some (.slice (some ⟨a + 3, 0, none⟩) n n)) := ⟨ck, cr⟩
  unfold keepV at hS0
  have hqn : (q.length : Int) ≤ (n : Int) := by omega
  have hqz : ¬ (q.length : Int) < 0 := by omega
  go_enter Try.func13, Try.ntmps13
  go_wp2
  go_region_held3 (fun V => V.cell? ⟨a + 2, 0, none⟩ = some (.func (.func 6) #[] #[.pointer (some ⟨tp, 0, none⟩), .pointer (some ⟨W1.heap.size, 0, none⟩), .pointer (some ⟨W1.heap.size + 1, 0, none⟩), .pointer (some ⟨bs, 0, none⟩)]) ∧ V.cell? ⟨a + 4, 0, none⟩ = some (.slice (some ⟨a + 3, 0, none⟩) n n)) (first | (exact hS0.out) | (exact hS2.out)) (first | (go_at_call 6; refine KQ.out.mono ?_; rintro e w2 ⟨rfl, hX2⟩; have hS2 := hide' (And.intro (cell_blk hX2.out.bk) (cell_blk hX2.out.br)); unfold keepV at hS2))
  go_wp2
  go_ret
  exact ⟨rfl, hX2⟩
end Go.Proofs.Ytlffhpggfhpgnaa
