/- Next, Prev, Merge at (0, 0): nil, or a row of new memory. -/
import Derived.Test.YtagkopmegfmhaaaPMrg
namespace Go.Proofs.Ytagkopmegfmhaaa
open Go.RowKit
/-- Nil, or a row of new memory. -/
def OwnU (w w' : World) (v : Value) (k : Nat) : Prop := ∃ l, w'.ownsRow w.heap.size 3 1 v k (cellsI l) ∧ l.length ≤ 1000000
theorem OwnU.nil (w w' : World) : OwnU w w' (.slice none 0 0) 0 := ⟨[], World.ownsRow_nil _ _ _ _, by simp⟩
theorem nextU (l : List Nat) (v : Value) (w : World) (hr : RowI w v (ints l)) (hn : l.length ≤ 25) (hl : Leg 0 l) :
    Calls Try.prog 20 #[v] w fun e w' => ∃ oa k cap bb, e = .returned (.tuple #[.slice oa k cap, .bool bb]) ∧ Hid (OwnU w w' (.slice oa k cap) k) ∧ Below w.heap.size w w' := by
  refine (nextP l v w hr hn hl).mono ?_
  rintro e w' (⟨p, x, t, g, cap, h1, _, _, rfl, h2, hb⟩ | ⟨rfl, _, hb⟩)
  · refine ⟨_, _, _, _, rfl, ⟨_, h2, ?_⟩, hb⟩
    have e1 := h2.1
    simp only [cellsI, List.length_map] at e1
    omega
  · exact ⟨_, _, _, _, rfl, OwnU.nil _ _, hb⟩
set_option maxRecDepth 100000 in
set_option maxHeartbeats 1000000 in
theorem lower0 (a : Option Addr) (cap : Nat) (w : World) :
    Calls Try.prog 45 #[.slice a 0 cap] w fun e w' => e = .returned (.bool false) ∧ w' = w := by
  go_enter Try.func45, Try.ntmps45
  go_wp2
  refine wp_loop_rounds 1 ?_
  rw [rounds_succ]
  go_wp2
  go_ret
  exact ⟨rfl, rfl⟩
set_option maxRecDepth 100000 in
set_option maxHeartbeats 1000000 in
theorem prevU (l : List Nat) (v : Value) (w : World) (hr : RowI w v (ints l)) (hn : l.length ≤ 25) (hl : Leg 0 l) :
    Calls Try.prog 21 #[v] w fun e w' => ∃ oa k cap bb, e = .returned (.tuple #[.slice oa k cap, .bool bb]) ∧ Hid (OwnU w w' (.slice oa k cap) k) ∧ Below w.heap.size w w' := by
  have KL := hide' (legalT _ v w hr hn hl)
  have KC := hide' (clone _ v w hr (by rw [ints_len]; omega))
  rw [ints_len] at KC
  obtain ⟨oa, cap, rfl, _, _⟩ := hr
  rw [ints_len] at KL KC ⊢
  have hl' := hide' hl
  clear hl
  go_enter Try.func21, Try.ntmps21
  go_wp2_with (go_at_call 23; refine KL.out.mono ?_; rintro e w1 ⟨rfl, rfl⟩)
  refine KC.out.mono ?_
  rintro e w2 ⟨v', rfl, hown, hB⟩
  rcases Nat.eq_zero_or_pos l.length with h0 | h0
  · obtain ⟨ou, cu, rfl⟩ : ∃ ou cu, v' = .slice ou 0 cu := by
      rcases hown.2 with ⟨rfl, h⟩ | ⟨g, cap', cur, rfl, _⟩
      · exact ⟨_, _, rfl⟩
      · rw [h0]; exact ⟨_, _, rfl⟩
    have K0 := hide' (lower0 ou cu w2)
    clear hown
    go_wp2_with fail
    refine K0.out.mono ?_
    rintro e w3 ⟨rfl, rfl⟩
    go_wp2
    exact bodyPost_ret (v := .tuple #[.slice none 0 0, .bool false]) (by simp [results, Try.results21, go_sem]) rfl ⟨_, _, _, _, rfl, OwnU.nil _ _, hB⟩
  · obtain ⟨g, cap', rfl⟩ : ∃ g cap', v' = .slice (some ⟨g, 0, none⟩) l.length cap' := by
      rcases hown.2 with ⟨rfl, h⟩ | ⟨g, cap', cur, rfl, _⟩
      · omega
      · exact ⟨_, _, rfl⟩
    have hg := owns_base hown
    have KR := hide' (lowerP w1.heap.size g cap' l w2 hown hn hl'.out)
    clear hown
    go_wp2_with fail
    refine KR.out.mono ?_
    rintro e w3 (⟨rfl, ⟨q, y, m, h1, h4⟩, hb⟩ | ⟨rfl, h1, hb⟩)
    · have hlen : (ints (q ++ y :: ups (blks 0 (q ++ [y])) m)).length ≤ 1000000 := by
        have e1 := h4.1
        simp only [cellsI, List.length_map] at e1
        omega
      clear h1
      go_wp2
      exact bodyPost_ret (v := .tuple #[.slice (some ⟨g, 0, none⟩) l.length cap', .bool true]) (by simp [results, Try.results21, go_sem]) rfl ⟨_, _, _, _, rfl, ⟨_, h4, hlen⟩, hB.trans (hb.mono hg)⟩
    · clear h1
      go_wp2
      exact bodyPost_ret (v := .tuple #[.slice none 0 0, .bool false]) (by simp [results, Try.results21, go_sem]) rfl ⟨_, _, _, _, rfl, OwnU.nil _ _, hB.trans (hb.mono hg)⟩
set_option maxHeartbeats 400000 in
theorem isPlace0 (oa : Option Addr) (cap : Nat) (w : World) :
    Calls Try.prog 51 #[.slice oa 0 cap, .int .i64 0] w fun e w' => e = .returned (.bool false) ∧ w' = w := by
  go_enter Try.func51, Try.ntmps51
  go_wp2
  go_ret
  exact ⟨rfl, rfl⟩
set_option maxRecDepth 100000 in
set_option maxHeartbeats 1000000 in
theorem mergeU (l : List Nat) (oa : Option Addr) (cap : Nat) (w : World) (hr : RowI w (.slice oa l.length cap) (ints l)) (hn : l.length ≤ 25) (hl : Leg 0 l) :
    Calls Try.prog 33 #[.slice oa l.length cap, .int .i64 0, .int .i64 0] w fun e w' => ∃ o2 k c2 z, e = .returned (.tuple #[.slice o2 k c2, .int .i64 z]) ∧ Hid (OwnU w w' (.slice o2 k c2) k) ∧ Below w.heap.size w w' := by
  rcases Nat.eq_zero_or_pos l.length with h0 | h0
  · have KL := hide' (legalT _ _ w hr hn hl)
    rw [h0] at KL ⊢
    have KP := hide' fun W => isPlace0 oa cap W
    clear hr
    go_enter Try.func33, Try.ntmps33
    go_wp2_with (first | (go_at_call 23; refine KL.out.mono ?_; rintro e w1 ⟨rfl, rfl⟩) | (go_at_call 51; refine (KP.out _).mono ?_; rintro e w3 ⟨rfl, rfl⟩))
    exact bodyPost_ret (v := .tuple #[.slice none 0 0, .int .i64 1]) (by simp [results, Try.results33, go_sem]) rfl ⟨_, _, _, _, rfl, OwnU.nil _ _, Below.refl _ _⟩
  · refine (mergeO l.length l oa cap 0 0 w hr rfl hn hl h0 h0).mono ?_
    rintro e w' ⟨g, rfl, h1, hb⟩
    exact ⟨_, _, _, _, rfl, ⟨_, h1.out, by rw [ints_len, mrg_len]; omega⟩, hb⟩
end Go.Proofs.Ytagkopmegfmhaaa
