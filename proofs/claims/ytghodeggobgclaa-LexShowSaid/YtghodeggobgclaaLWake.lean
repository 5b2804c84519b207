/- wakes: as the document's runs tell it. -/
import Derived.Test.YtghodeggobgclaaLLegal
namespace Go.Proofs.Ytghodeggobgclaa
open Go.RowKit Go.Shelf
theorem scan_wake : scanT [97, 44, 32, 49, 50, 10] = .ok [⟨1, [97], 0, 1, 1⟩, ⟨3, [44], 0, 1, 2⟩, ⟨2, [49, 50], 12, 1, 4⟩, ⟨4, [], 0, 1, 6⟩] := by
  unfold scanT
  rw [if_neg (by decide), scan_cut (by decide) (by decide) (by decide) (show cutT [97, 44, 32, 49, 50, 10] = .ok (1, 1, 0) by rfl)]
  simp only [List.drop_succ_cons, List.drop_zero]
  rw [scan_cut (by decide) (by decide) (by decide) (show cutT [44, 32, 49, 50, 10] = .ok (3, 1, 0) by rfl)]
  simp only [List.drop_succ_cons, List.drop_zero]
  rw [scan_bl (by decide), scan_cut (by decide) (by decide) (by decide) (show cutT [49, 50, 10] = .ok (2, 2, 12) by rfl)]
  simp only [List.drop_succ_cons, List.drop_zero]
  rw [scan_end (by decide) (by decide) (by decide), scan_nil]
  rfl
set_option maxRecDepth 100000 in
set_option maxHeartbeats 4000000 in
theorem wakesF (w : World) : Calls Try.prog 12 #[] w fun e w' => e = .returned (.bool true) ∧ Below w.heap.size w w' := by
  have KS : Hid (Calls Try.prog 13 #[.string ⟨#[97, 44, 32, 49, 50, 10]⟩] w (ScanPost [97, 44, 32, 49, 50, 10] w)) := scanF [97, 44, 32, 49, 50, 10] w (by decide)
  have KL1 : Hid (∀ W, Calls Try.prog 34 #[.string ⟨#[97, 45, 49]⟩] W fun e w' => e = .returned (.bool true) ∧ Below W.heap.size W w') := fun W => legalF [97, 45, 49] W (by decide)
  have KL2 : Hid (∀ W, Calls Try.prog 34 #[.string ⟨#[]⟩] W fun e w' => e = .returned (.bool false) ∧ Below W.heap.size W w') := fun W => legalF [] W (by decide)
  go_enter Try.func12, Try.ntmps12
  go_wp2_with fail
  refine KS.out.mono ?_
  rintro e w1 ⟨hb1, v, er, ln, cl, toks, rfl, hrow, (⟨_, h, _⟩ | ⟨rfl, rfl, rfl, h⟩)⟩
  · rw [scan_wake] at h; cases h
  · rw [scan_wake] at h
    cases h
    obtain ⟨oa, cap, rfl⟩ := own_shapeT hrow
    have hT := TokAt.own hrow
    obtain ⟨g, rfl, -, a1, -⟩ := hT 0 _ rfl
    obtain ⟨g', h', -, -, b2, -⟩ := hT 2 _ rfl
    cases h'
    have B1 := hide' hb1
    have a1' : w1.cell? ⟨g, 1, none⟩ = some (.string ⟨#[97]⟩) := a1
    have b2' : w1.cell? ⟨g, 12, none⟩ = some (.int .i64 12) := b2
    have hg : g < w1.heap.size := by
      rcases hrow.2 with ⟨h1, _⟩ | ⟨g', cap', cur, h1, _, hgg, _⟩
      · cases h1
      · cases h1; exact (Array.getElem?_eq_some_iff.1 hgg).1
    have hne : g ≠ w1.heap.size := by omega
    clear hrow hT a1 b2 hb1 KS
    go_wp2_with fail
    refine (KL1.out _).mono ?_
    rintro e w2 ⟨rfl, hb2⟩
    have B2 : Hid (Below w.heap.size w w2) := (B1.out.alloc B1.out.size _).trans (hb2.mono (by have := B1.out.size; simp; omega))
    clear hb2
    go_wp2_with fail
    refine (KL2.out _).mono ?_
    rintro e w3 ⟨rfl, hb3⟩
    have B3 : Hid (Below w.heap.size w w3) := B2.out.trans (hb3.mono B2.out.size)
    clear hb3
    go_wp2_with fail
    go_ret
    exact ⟨rfl, B3.out⟩
end Go.Proofs.Ytghodeggobgclaa
