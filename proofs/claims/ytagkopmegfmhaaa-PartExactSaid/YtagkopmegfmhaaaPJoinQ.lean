/- part.Join of patterns of any length. -/
import Derived.Test.YtagkopmegfmhaaaPJoinFn
namespace Go.Proofs.Ytagkopmegfmhaaa
open Go.RowKit
set_option maxRecDepth 100000 in
set_option maxHeartbeats 1000000 in
theorem joinP0 (va vb : Value) (w : World) (ra : RowI w va (ints [])) (rb : RowI w vb (ints [])) :
    Calls Try.prog 32 #[va, vb] w fun e w' => ∃ g, e = .returned (.tuple #[.slice (some ⟨g, 0, none⟩) 0 0, .int .i64 0]) ∧ w'.ownsRow w.heap.size 3 1 (.slice (some ⟨g, 0, none⟩) 0 0) 0 (cellsI (ints (joinR [] []))) ∧ Below w.heap.size w w' := by
  have KA := hide' (alikeT 0 [] [] va vb w ra rb rfl rfl (by decide) trivial trivial)
  have KC := hide' (clone (ints []) va w ra (by decide))
  have KO : Hid (∀ v W, RowI W v [] → Calls Try.prog 5 #[v] W fun e w' => ∃ g, e = .returned (.tuple #[.slice (some ⟨g, 0, none⟩) 0 0, .int .i64 0]) ∧ w'.ownsRow W.heap.size 3 1 (.slice (some ⟨g, 0, none⟩) 0 0) 0 (cellsI (ints (joinR [] []))) ∧ Below W.heap.size W w') := fun v W h => ofP [] v W h (by decide) (fun z hz => by cases hz)
  obtain ⟨oa, ca, rfl, _⟩ := rowI_shape' ra (n := 0) rfl
  obtain ⟨ob, cb, rfl, _⟩ := rowI_shape' rb (n := 0) rfl
  clear ra rb
  go_enter Try.func32, Try.ntmps32
  go_wp2_with fail
  refine KA.out.mono ?_
  rintro e w1 ⟨rfl, rfl⟩
  go_wp2_with fail
  refine KC.out.mono ?_
  rintro e w2 ⟨v, rfl, hown, hB2⟩
  have hR := RowI.of_owns hown
  obtain ⟨ov, cv, rfl, _⟩ := rowI_shape' hR (n := 0) rfl
  go_wp2
  refine wp_loop_rounds 1 ?_
  rw [rounds_succ]
  go_wp2_with (go_at_call 5; refine (KO.out _ _ hR).mono ?_; rintro e w3 ⟨g3, rfl, hown3, hb3⟩)
  exact bodyPost_ret (v := .tuple #[.slice (some ⟨g3, 0, none⟩) 0 0, .int .i64 0]) (by simp [results, Try.results32, go_sem]) rfl ⟨g3, rfl, owns_less hown3 hB2.size, hB2.trans (hb3.mono hB2.size)⟩
theorem joinQ (n : Nat) (a b : List Nat) (va vb : Value) (w : World) (ra : RowI w va (ints a)) (rb : RowI w vb (ints b)) (hla : a.length = n) (hlb : b.length = n) (hn : n ≤ 25) (ha : Leg 0 a) (hb : Leg 0 b) :
    Calls Try.prog 32 #[va, vb] w fun e w' => ∃ g, e = .returned (.tuple #[.slice (some ⟨g, 0, none⟩) n n, .int .i64 0]) ∧ w'.ownsRow w.heap.size 3 1 (.slice (some ⟨g, 0, none⟩) n n) n (cellsI (ints (joinR a b))) ∧ Below w.heap.size w w' := by
  by_cases h : n = 0
  · subst h
    obtain rfl := List.eq_nil_of_length_eq_zero hla
    obtain rfl := List.eq_nil_of_length_eq_zero hlb
    exact joinP0 va vb w ra rb
  · exact joinP n a b va vb w ra rb hla hlb hn (by omega) ha hb
end Go.Proofs.Ytagkopmegfmhaaa
