/- Pairs of two like rows. -/
import Derived.Test.YtegpgjiccpglbaaDoorYPair
namespace Go.Proofs.YtegpgjiccpglbaaDoor
open Go.RowKit
theorem pair_eq (a b : Int) (w : World) : (Op.equalIn 10000 42 (.agg #[.int .i64 a, .int .i64 b]) (.agg #[.int .i64 a, .int .i64 b])).run Tryd.prog w = .ok true w := by
  have u3 := Tryd.underlying3
  have a3 := Tryd.isAgg3
  have z3 := Tryd.sizeOf3
  rw [show (10000 : Nat) = 9999 + 1 from rfl, Op.equalIn]
  simp only [Sem.run_bind, run_underlying Tryd.underlying42, Result.andThen_ok]
  simp only [Std.Legacy.Range.forIn_eq_forIn_range', Std.Legacy.Range.size, Nat.sub_zero, Nat.add_sub_cancel, Nat.div_one, List.range'_succ, List.range'_zero, List.forIn_cons, List.forIn_nil]
  go_simp
set_option maxRecDepth 100000 in
set_option maxHeartbeats 1000000 in
theorem keepPairsT (L : List (Int × Int)) (va vb : Value) (w : World) (ha : PairsAt w va L) (hb : PairsAt w vb L) (hn : L.length ≤ 1000000) :
    Calls Tryd.prog 19 #[va, vb] w fun e w' => e = .returned (.bool true) ∧ Below w.heap.size w w' := by
  obtain ⟨oa, ca, rfl, hca, ha⟩ := ha
  obtain ⟨ob, cb, rfl, hcb, hb⟩ := hb
  have ha' := hide' ha
  have hb' := hide' hb
  have hca1 := hca.1
  have hcb1 := hcb.1
  clear ha hb hca hcb
  go_enter Tryd.func19, Tryd.ntmps19
  go_wp2
  go_loopw [5] (fun k wr => Below w.heap.size w wr ∧ ∃ (c : Nat), c ≤ L.length ∧ k = .int .i64 c) (fun k _ => ((L.length : Int) - intOf k).toNat)
  case atStart => exact ⟨Below.refl _ _, 0, Nat.zero_le _, rfl⟩
  case round =>
    obtain ⟨hB, c, hc, rfl⟩ := hrel
    by_cases hlt : c < L.length
    · obtain ⟨⟨x, y⟩, hx⟩ : ∃ x, L[c]? = some x := ⟨_, List.getElem?_eq_getElem hlt⟩
      obtain ⟨g1, o1, rfl, c1', c2'⟩ := ha'.out c _ hx
      obtain ⟨g2, o2, rfl, c3', c4'⟩ := hb'.out c _ hx
      have c1 := cell_over c1' hB
      have c2 := cell_over c2' hB
      have c3 := cell_over c3' hB
      have c4 := cell_over c4' hB
      clear c1' c2' c3' c4' hx
      have hpe := fun W => pair_eq x y W
      simp only [] at c1 c2 c3 c4
      go_wp2
      go_region
      go_wp2
      exact ⟨⟨hB.drew, c + 1, by omega, by go_num⟩, by simp [intOf]; omega⟩
    · obtain rfl : c = L.length := by omega
      go_wp2
      go_ret
      exact ⟨rfl, hB⟩
end Go.Proofs.YtegpgjiccpglbaaDoor
