/- Next and Prev: what they answer. -/
import Derived.Test.YtagkopmegfmhaaaPNext
import Derived.Test.YtagkopmegfmhaaaPPrev
namespace Go.Proofs.Ytagkopmegfmhaaa
open Go.RowKit
set_option maxRecDepth 100000 in
set_option maxHeartbeats 1000000 in
theorem raise0 (a : Option Addr) (cap : Nat) (w : World) :
    Calls Try.prog 44 #[.slice a 0 cap] w fun e w' => e = .returned (.bool false) ∧ w' = w := by
  go_enter Try.func44, Try.ntmps44
  go_wp2
  refine wp_loop_rounds 1 ?_
  rw [rounds_succ]
  go_wp2
  go_ret
  exact ⟨rfl, rfl⟩
theorem owns_base {w : World} {base e n : Nat} {size : Nat} {g cap : Nat} {xs : List Value} (h : w.ownsRow base e size (.slice (some ⟨g, 0, none⟩) n cap) n xs) : base ≤ g := by
  rcases h.2 with ⟨h, _⟩ | ⟨g', cap', cur, e1, e2, _⟩
  · cases h
  · cases e1; exact e2
set_option maxRecDepth 100000 in
set_option maxHeartbeats 1000000 in
theorem nextP (l : List Nat) (v : Value) (w : World) (hr : RowI w v (ints l)) (hn : l.length ≤ 25) (hl : Leg 0 l) :
    Calls Try.prog 20 #[v] w fun e w' =>
      (∃ p x t g cap, l = p ++ x :: t ∧ x < blks 0 p ∧ Full (blks 0 p) t ∧ e = .returned (.tuple #[.slice (some ⟨g, 0, none⟩) l.length cap, .bool true]) ∧ w'.ownsRow w.heap.size 3 1 (.slice (some ⟨g, 0, none⟩) l.length cap) l.length (cellsI (ints (p ++ (x + 1) :: List.replicate t.length 0))) ∧ Below w.heap.size w w') ∨
      (e = .returned (.tuple #[.slice none 0 0, .bool false]) ∧ Full 0 l ∧ Below w.heap.size w w') := by
  have KL := hide' (legalT l v w hr hn hl)
  have KC := hide' (clone (ints l) v w hr (by rw [ints_len]; omega))
  rw [ints_len] at KC
  obtain ⟨oa, cap, rfl, _, _⟩ := hr
  rw [ints_len] at KL KC ⊢
  have hl' := hide' hl
  clear hl
  go_enter Try.func20, Try.ntmps20
  go_wp2_with (go_at_call 23; refine KL.out.mono ?_; rintro e w1 ⟨rfl, rfl⟩)
  refine KC.out.mono ?_
  rintro e w2 ⟨v', rfl, hown, hB⟩
  by_cases h0 : l = []
  · subst h0
    obtain ⟨oa', cap', rfl⟩ : ∃ oa' cap', v' = .slice oa' 0 cap' := by
      rcases hown.2 with ⟨rfl, _⟩ | ⟨g, cap', cur, rfl, _⟩
      · exact ⟨_, _, rfl⟩
      · exact ⟨_, _, rfl⟩
    go_wp2_with (go_at_call 44; refine (raise0 _ _ _).mono ?_; rintro e w3 ⟨rfl, rfl⟩)
    exact bodyPost_ret (v := .tuple #[.slice none 0 0, .bool false]) (by simp [results, Try.results20, go_sem]) rfl (.inr ⟨rfl, trivial, hB⟩)
  · obtain ⟨g, cap', rfl⟩ : ∃ g cap', v' = .slice (some ⟨g, 0, none⟩) l.length cap' := by
      rcases hown.2 with ⟨rfl, h⟩ | ⟨g, cap', cur, rfl, _⟩
      · exact absurd (List.eq_nil_of_length_eq_zero h) h0
      · exact ⟨_, _, rfl⟩
    have hg := owns_base hown
    have KR := hide' (raiseP w1.heap.size g cap' l w2 hown hn hl'.out)
    clear hown
    go_wp2_with fail
    refine KR.out.mono ?_
    rintro e w3 (⟨rfl, ⟨p, x, t, h1, h2, h3, h4⟩, hb⟩ | ⟨rfl, h1, hb⟩)
    · have h1' := hide' h1
      clear h1
      go_wp2
      exact bodyPost_ret (v := .tuple #[.slice (some ⟨g, 0, none⟩) l.length cap', .bool true]) (by simp [results, Try.results20, go_sem]) rfl (.inl ⟨p, x, t, g, cap', h1'.out, h2, h3, rfl, h4, hB.trans (hb.mono hg)⟩)
    · go_wp2
      exact bodyPost_ret (v := .tuple #[.slice none 0 0, .bool false]) (by simp [results, Try.results20, go_sem]) rfl (.inr ⟨rfl, h1, hB.trans (hb.mono hg)⟩)
theorem tail_uniq {p q : List Nat} {x y m n : Nat} (h : p ++ (x + 1) :: List.replicate m 0 = q ++ (y + 1) :: List.replicate n 0) : p = q ∧ x = y ∧ m = n := by
  have hr := congrArg List.reverse h
  simp only [List.reverse_append, List.reverse_cons, List.reverse_replicate, List.append_assoc, List.singleton_append] at hr
  have key : ∀ (m n : Nat) (a b : List Nat), List.replicate m 0 ++ (x + 1) :: a = List.replicate n 0 ++ (y + 1) :: b → m = n ∧ x = y ∧ a = b := by
    intro m
    induction m with
    | zero =>
      intro n a b h
      cases n with
      | zero => simp at h; exact ⟨rfl, h.1, h.2⟩
      | succ n => simp [List.replicate_succ] at h
    | succ m ih =>
      intro n a b h
      cases n with
      | zero => simp [List.replicate_succ] at h
      | succ n =>
        simp only [List.replicate_succ, List.cons_append, List.cons.injEq, true_and] at h
        obtain ⟨h1, h2, h3⟩ := ih n a b h
        exact ⟨by omega, h2, h3⟩
  obtain ⟨h1, h2, h3⟩ := key m n _ _ hr
  exact ⟨by simpa using congrArg List.reverse h3, h2, h1⟩
theorem not_zeros {p : List Nat} {x m n : Nat} : p ++ (x + 1) :: List.replicate m 0 ≠ List.replicate n 0 := fun h => by
  have hm : x + 1 ∈ p ++ (x + 1) :: List.replicate m 0 := by simp
  rw [h] at hm
  have := List.eq_of_mem_replicate hm
  omega
set_option maxRecDepth 100000 in
set_option maxHeartbeats 1000000 in
theorem prevP (p t : List Nat) (x : Nat) (v : Value) (w : World) (hr : RowI w v (ints (p ++ (x + 1) :: List.replicate t.length 0))) (hn : (p ++ (x + 1) :: List.replicate t.length 0).length ≤ 25) (hl : Leg 0 (p ++ (x + 1) :: List.replicate t.length 0)) (hx : x < blks 0 p) (ht : Full (blks 0 p) t) :
    Calls Try.prog 21 #[v] w fun e w' => ∃ g cap n, e = .returned (.tuple #[.slice (some ⟨g, 0, none⟩) n cap, .bool true]) ∧ w'.ownsRow w.heap.size 3 1 (.slice (some ⟨g, 0, none⟩) n cap) n (cellsI (ints (p ++ x :: t))) ∧ Below w.heap.size w w' := by
  have KL := hide' (legalT _ v w hr hn hl)
  have KC := hide' (clone _ v w hr (by rw [ints_len]; omega))
  rw [ints_len] at KC
  obtain ⟨c, hc⟩ : ∃ c, p ++ (x + 1) :: List.replicate t.length 0 = c := ⟨_, rfl⟩
  have hc' := hide' hc
  have hfin : Hid (∀ q y m, c = q ++ (y + 1) :: List.replicate m 0 → q ++ y :: ups (blks 0 (q ++ [y])) m = p ++ x :: t) := fun q y m e => by
    rw [← hc] at e
    obtain ⟨rfl, rfl, rfl⟩ := tail_uniq e
    have e2 : blks 0 (p ++ [x]) = blks 0 p := by rw [blks_app]; exact Nat.max_eq_left hx
    rw [e2, ← full_ups ht]
  have hnz : Hid (c ≠ List.replicate c.length 0) := by rw [← hc]; exact not_zeros
  have hne : c ≠ [] := by rw [← hc]; simp
  rw [hc] at KC hr hn hl
  obtain ⟨oa, cap, rfl, _, _⟩ := hr
  rw [ints_len] at KL KC ⊢
  have hl' := hide' hl
  clear hl hc hx ht
  go_enter Try.func21, Try.ntmps21
  go_wp2_with (go_at_call 23; refine KL.out.mono ?_; rintro e w1 ⟨rfl, rfl⟩)
  refine KC.out.mono ?_
  rintro e w2 ⟨v', rfl, hown, hB⟩
  obtain ⟨g, cap', rfl⟩ : ∃ g cap', v' = .slice (some ⟨g, 0, none⟩) c.length cap' := by
    rcases hown.2 with ⟨rfl, h⟩ | ⟨g, cap', cur, rfl, _⟩
    · exact absurd (List.eq_nil_of_length_eq_zero h) hne
    · exact ⟨_, _, rfl⟩
  have hg := owns_base hown
  have KR := hide' (lowerP w1.heap.size g cap' c w2 hown hn hl'.out)
  clear hown
  go_wp2_with fail
  refine KR.out.mono ?_
  rintro e w3 (⟨rfl, ⟨q, y, m, h1, h4⟩, hb⟩ | ⟨rfl, h1, hb⟩)
  · rw [hfin.out q y m h1] at h4
    clear h1
    go_wp2
    exact bodyPost_ret (v := .tuple #[.slice (some ⟨g, 0, none⟩) c.length cap', .bool true]) (by simp [results, Try.results21, go_sem]) rfl ⟨g, cap', c.length, rfl, h4, hB.trans (hb.mono hg)⟩
  · exact absurd h1 hnz.out
end Go.Proofs.Ytagkopmegfmhaaa
