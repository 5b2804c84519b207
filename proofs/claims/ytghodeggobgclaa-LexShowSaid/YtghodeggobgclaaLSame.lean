/- Same: two like rows of tokens. -/
import Derived.Test.YtghodeggobgclaaLCol
import Derived.Laws.StructEq
namespace Go.Proofs.Ytghodeggobgclaa
open Go.RowKit Go.Shelf
theorem fault_eq (a b c : Int) (w : World) : (Op.equalIn 10000 37 (.agg #[.int .i64 a, .int .i64 b, .int .i64 c]) (.agg #[.int .i64 a, .int .i64 b, .int .i64 c])).run Try.prog w = .ok true w := by
  have u3 := Try.underlying3
  have u23 := Try.underlying24
  have a3 := Try.isAgg3
  have z3 := Try.sizeOf3
  have a23 := Try.isAgg24
  have z23 := Try.sizeOf24
  rw [show (10000 : Nat) = 9999 + 1 from rfl, run_equalIn_struct w 9999 _ _ _ (by simp [Program.fieldsOf, Try.underlying37]) (by kernel_rfl)]
  simp only [Program.fieldsOf, Try.underlying37]
  go_simp
theorem tok_eq (t : Tok) (w : World) : (Op.equalIn 10000 35 (.agg #[.int .i64 t.kind, .string (bs t.text), .int .i64 t.num, .int .i64 t.line, .int .i64 t.col]) (.agg #[.int .i64 t.kind, .string (bs t.text), .int .i64 t.num, .int .i64 t.line, .int .i64 t.col])).run Try.prog w = .ok true w := by
  have u3 := Try.underlying3
  have u9 := Try.underlying9
  have a3 := Try.isAgg3
  have z3 := Try.sizeOf3
  have a9 := Try.isAgg9
  have z9 := Try.sizeOf9
  rw [show (10000 : Nat) = 9999 + 1 from rfl, run_equalIn_struct w 9999 _ _ _ (by simp [Program.fieldsOf, Try.underlying35]) (by kernel_rfl)]
  simp only [Program.fieldsOf, Try.underlying35]
  go_simp
set_option maxRecDepth 100000 in
set_option maxHeartbeats 4000000 in
theorem sameF (oa ob : Option Addr) (ca cb : Nat) (L : List Tok) (w : World) (HA : TokAt w oa L) (HB : TokAt w ob L) (hm : L.length ≤ maxLen) : Calls Try.prog 11 #[.slice oa L.length ca, .slice ob L.length cb] w fun e w' => e = .returned (.bool true) ∧ Below w.heap.size w w' := by
  unfold maxLen at hm
  have HA' := hide' HA
  have HB' := hide' HB
  clear HA HB
  go_enter Try.func11, Try.ntmps11
  go_wp2
  go_loopw [5] (fun k wr => ∃ (c q : Nat), c ≤ L.length ∧ k = .int .i64 c ∧ w.drewN q = wr) (fun k _ => ((L.length : Int) - intOf k).toNat)
  case atStart => exact ⟨0, 0, Nat.zero_le _, rfl, rfl⟩
  case round =>
    obtain ⟨c, q, hc, rfl, rfl⟩ := hrel
    by_cases hlt : c < L.length
    · obtain ⟨t, ht⟩ : ∃ t, L[c]? = some t := ⟨_, List.getElem?_eq_getElem hlt⟩
      obtain ⟨g1, rfl, a0, a1, a2, a3, a4⟩ := HA'.out c t ht
      obtain ⟨g2, rfl, b0, b1, b2, b3, b4⟩ := HB'.out c t ht
      have he : ∀ W : World, (Op.equalIn 10000 35 (.agg #[.int .i64 t.kind, .string (bs t.text), .int .i64 t.num, .int .i64 t.line, .int .i64 t.col]) (.agg #[.int .i64 t.kind, .string (bs t.text), .int .i64 t.num, .int .i64 t.line, .int .i64 t.col])).run Try.prog W = .ok true W := fun W => tok_eq t W
      clear HA' HB' ht
      generalize bs t.text = sx at *
      generalize t.kind = x0 at *
      generalize t.num = x2 at *
      generalize t.line = x3 at *
      generalize t.col = x4 at *
      go_upto_region 6 with fail
      go_quiet (fail)
      go_wp2
      exact ⟨⟨c + 1, q + nq, by omega, by go_num, rfl⟩, by simp [intOf]; omega⟩
    · obtain rfl : c = L.length := by omega
      clear HA' HB'
      go_wp2
      go_ret
      exact ⟨rfl, drew_below _ _⟩
end Go.Proofs.Ytghodeggobgclaa
