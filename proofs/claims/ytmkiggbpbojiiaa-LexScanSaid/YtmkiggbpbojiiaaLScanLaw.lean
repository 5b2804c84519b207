/- The law LexScan: walked. -/
import Derived.Test.YtmkiggbpbojiiaaLRScan
import Derived.Test.YtmkiggbpbojiiaaLWake
import Derived.Test.YtmkiggbpbojiiaaLSame
namespace Go.Proofs.Ytmkiggbpbojiiaa
open Go.RowKit Go.Shelf
/-- Both scans' answers are one. -/
theorem scan_both {T : List UInt8} {w w' V V' : World} {e e' : Ending} (h : ScanPost T w e w') (h' : ScanPost T V e' V') :
    ∃ v v' er ln cl toks, e = .returned (.tuple #[v, .agg #[.int .i64 er, .int .i64 ln, .int .i64 cl]]) ∧ e' = .returned (.tuple #[v', .agg #[.int .i64 er, .int .i64 ln, .int .i64 cl]]) ∧ w'.ownsRow w.heap.size 35 5 v toks.length (cellsT toks) ∧ V'.ownsRow V.heap.size 35 5 v' toks.length (cellsT toks) := by
  obtain ⟨_, v, er, ln, cl, toks, rfl, hr, hs⟩ := h
  obtain ⟨_, v', er', ln', cl', toks', rfl, hr', hs'⟩ := h'
  rcases hs with ⟨_, h1, rfl⟩ | ⟨rfl, rfl, rfl, h1⟩ <;> rcases hs' with ⟨_, h2, rfl⟩ | ⟨rfl, rfl, rfl, h2⟩
  · rw [h1] at h2; cases h2
    exact ⟨v, v', er, ln, cl, [], rfl, rfl, hr, hr'⟩
  · rw [h1] at h2; cases h2
  · rw [h1] at h2; cases h2
  · rw [h1] at h2; cases h2
    exact ⟨v, v', 0, 0, 0, toks, rfl, rfl, hr, hr'⟩
theorem owns_keep {W V : World} {n : Nat} {e : TypeId} {sz : Nat} {v : Value} {m : Nat} {xs : List Value} (h : W.ownsRow n e sz v m xs) (hb : Below W.heap.size W V) : V.ownsRow n e sz v m xs := owns_same h fun g hg _ => hb.block g hg
theorem owns_len {W : World} {n : Nat} {e : TypeId} {sz : Nat} {v : Value} {m : Nat} {xs : List Value} (h : W.ownsRow n e sz v m xs) : m ≤ maxLen := by
  rcases h.2 with ⟨_, h2⟩ | ⟨g, cap, cur, _, _, _, h3, h4, _⟩
  · rw [h2]; exact Nat.zero_le _
  · omega
set_option maxRecDepth 100000 in
set_option maxHeartbeats 8000000 in
theorem lexScan_walk (T : List UInt8) (hm : T.length ≤ 9223372036854775807) (w : World) : Calls Try.prog 3 #[.string (bs T)] w fun e w' => e = .returned (.bool true) ∧ Below w.heap.size w w' := by
  have K1 := hide' (scanF T w hm)
  have K2 : Hid (∀ W, Calls Try.prog 9 #[.string (bs T)] W (ScanPost T W)) := fun W => scanR T W hm
  have K3 : Hid (∀ W, Calls Try.prog 11 #[.string (bs T)] W fun e w' => e = .returned (.bool (legalT T)) ∧ Below W.heap.size W w') := fun W => legalF T W hm
  have K4 : Hid (∀ W, Calls Try.prog 12 #[.string (bs T)] W fun e w' => e = .returned (.bool (legalT T)) ∧ w' = W) := fun W => rLegal T W hm
  have K5 : Hid (∀ W, Calls Try.prog 13 #[] W fun e w' => e = .returned (.bool true) ∧ Below W.heap.size W w') := fun W => wakesF W
  generalize legalT T = lg at *
  generalize bs T = st at *
  go_enter Try.func3, Try.ntmps3
  go_wp2_with fail
  refine K1.out.mono ?_
  intro e1 w1 H1
  have H1' := H1
  obtain ⟨hb1, v1, er1, ln1, cl1, tk1, rfl, hr1, hs1⟩ := H1
  have B1 := hide' hb1
  obtain ⟨o1, cp1, rfl⟩ := own_shapeT hr1
  have hr1' := hide' hr1
  have H1'' := hide' H1'
  clear hb1 hr1 H1' hs1 K1
  go_wp2_with fail
  refine (K2.out _).mono ?_
  intro e2 w2 H2
  obtain ⟨u1, u2, er, ln, cl, toks, he1, he2, g1, g2⟩ := scan_both H1''.out H2
  cases he1
  have hb2 := H2.1
  subst he2
  obtain ⟨o2, cp2, rfl⟩ := own_shapeT g2
  have hlen : tk1.length = toks.length := by
    obtain ⟨_, _, hh⟩ := own_shapeT g1
    injection hh
  rw [hlen] at g1
  rw [hlen]
  have A1 : Hid (Below w1.heap.size w1 (w1.alloc (.cells #[.int .i64 er1, .int .i64 ln1, .int .i64 cl1] 25))) := (Below.refl _ w1).alloc (Nat.le_refl _) _
  have B12 : Hid (Below w1.heap.size w1 w2) := A1.out.trans (hb2.mono A1.out.size)
  have B2 : Hid (Below w.heap.size w w2) := B1.out.trans (B12.out.mono B1.out.size)
  have fb : w2.heap[w1.heap.size]? = some (.cells #[.int .i64 er1, .int .i64 ln1, .int .i64 cl1] 25) := (hb2.block _ (by simp)).trans (heap_alloc_new w1 _)
  have A2 : Hid (Below w2.heap.size w2 (w2.alloc (.cells #[.int .i64 er1, .int .i64 ln1, .int .i64 cl1] 25))) := (Below.refl _ w2).alloc (Nat.le_refl _) _
  have B3 : Hid (Below w.heap.size w (w2.alloc (.cells #[.int .i64 er1, .int .i64 ln1, .int .i64 cl1] 25))) := B2.out.trans (A2.out.mono B2.out.size)
  have KS : Hid (Calls Try.prog 10 #[.slice o1 toks.length cp1, .slice o2 toks.length cp2] (w2.alloc (.cells #[.int .i64 er1, .int .i64 ln1, .int .i64 cl1] 25)) fun e w' => e = .returned (.bool true) ∧ Below w.heap.size w w') :=
    (sameF o1 o2 cp1 cp2 toks _ (TokAt.own (owns_keep (owns_keep g1 B12.out) A2.out)) (TokAt.own (owns_keep g2 A2.out)) (owns_len g2)).mono fun e w' h => ⟨h.1, B3.out.trans (h.2.mono B3.out.size)⟩
  have heq : ∀ W : World, (Op.equalIn 10000 25 (.agg #[.int .i64 er1, .int .i64 ln1, .int .i64 cl1]) (.agg #[.int .i64 er1, .int .i64 ln1, .int .i64 cl1])).run Try.prog W = .ok true W := fun W => fault_eq _ _ _ W
  have hne : w1.heap.size ≠ w2.heap.size := by have := (Array.getElem?_eq_some_iff.1 fb).1; omega
  have x0 : (w2.alloc (.cells #[.int .i64 er1, .int .i64 ln1, .int .i64 cl1] 25)).cell? ⟨w1.heap.size, 0, none⟩ = some (.int .i64 er1) := by rw [A2.out.cell (p := ⟨w1.heap.size, 0, none⟩) (Array.getElem?_eq_some_iff.1 fb).1]; simp [World.cell?, fb]
  have x1 : (w2.alloc (.cells #[.int .i64 er1, .int .i64 ln1, .int .i64 cl1] 25)).cell? ⟨w1.heap.size, 1, none⟩ = some (.int .i64 ln1) := by rw [A2.out.cell (p := ⟨w1.heap.size, 1, none⟩) (Array.getElem?_eq_some_iff.1 fb).1]; simp [World.cell?, fb]
  have x2 : (w2.alloc (.cells #[.int .i64 er1, .int .i64 ln1, .int .i64 cl1] 25)).cell? ⟨w1.heap.size, 2, none⟩ = some (.int .i64 cl1) := by rw [A2.out.cell (p := ⟨w1.heap.size, 2, none⟩) (Array.getElem?_eq_some_iff.1 fb).1]; simp [World.cell?, fb]
  generalize toks.length = m at *
  clear g1 g2 hb2 H2 H1'' hr1' hlen fb A1 B12 A2 B1 B2
  go_wp2_with fail
  refine KS.out.mono ?_
  rintro e w3 ⟨rfl, b3⟩
  have B4 := hide' b3
  clear b3 KS
  go_wp2_with fail
  refine (K3.out _).mono ?_
  rintro e w4 ⟨rfl, b4⟩
  have B5 := hide' (B4.out.trans (b4.mono B4.out.size))
  clear b4
  go_wp2_with fail
  refine (K4.out _).mono ?_
  rintro e w5 ⟨rfl, rfl⟩
  have hlg : (lg == lg) = true := by simp
  go_wp2_with fail
  refine (K5.out _).mono ?_
  rintro e w6 ⟨rfl, b6⟩
  have B6 := hide' (B5.out.trans (b6.mono B5.out.size))
  clear b6
  go_wp2_with fail
  go_ret
  exact ⟨rfl, B6.out⟩
end Go.Proofs.Ytmkiggbpbojiiaa
