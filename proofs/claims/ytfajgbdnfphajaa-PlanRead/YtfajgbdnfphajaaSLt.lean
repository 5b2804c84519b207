/- What the texts of solve take from match's, where the seat has no match. -/
import Derived.Test.YtfajgbdnfphajaaRHold
import Derived.Test.YtfajgbdnfphajaaMath
import Derived.Deep.RegionHeld3
import Derived.Deep.OwnRows
import Derived.Deep.WholeRow
import Derived.Shelf.RegionOpen
import Derived.Lib.Walk
import Derived.Deep.CutBlock
namespace Go.Proofs.Ytfajgbdnfphajaa.M
open Go.RowKit Go.Shelf
theorem cell_over {W W' : World} {p : Addr} {v : Value} (h : W.cell? p = some v) (hb : Below W.heap.size W W') : W'.cell? p = some v := by
  obtain ⟨b, o, f⟩ := p
  cases f with
  | none => exact (hb.cell (p := ⟨b, o, none⟩) (cell_lt h)).trans h
  | some f => exact (hb.cell (p := ⟨b, o, some f⟩) (by
      simp only [World.cell?] at h
      split at h
      · rename_i e; exact (Array.getElem?_eq_some_iff.1 e).1
      · cases h)).trans h
theorem shl64 (i : Nat) (hi : i < 64) : IntKind.u64.wrap (IntKind.u64.wrap 1 * 2 ^ i) = ((2 ^ i : Nat) : Int) := by
  have h : (2 ^ i : Nat) < 18446744073709551616 := Nat.lt_of_lt_of_le (Nat.pow_lt_pow_right (by decide) hi) (by decide)
  have e : ((2 ^ i : Nat) : Int) = 2 ^ i := by simp
  have e1 : IntKind.u64.wrap 1 = 1 := by decide
  rw [e1, Int.one_mul, ← e]
  generalize (2 ^ i : Nat) = q at h
  simp only [IntKind.wrap, IntKind.bits, IntKind.signed]
  simp
  omega
theorem hide' {p : Prop} (h : p) : Hid p := h
end Go.Proofs.Ytfajgbdnfphajaa.M
namespace Go.Proofs.Ytfajgbdnfphajaa.S
open Go.RowKit Go.Shelf
theorem app_intL {ops : Array Oper} {rest : List Oper} {o : Oper} {a : Act} {Q : Exit → Act → World → Prop} (hgd : o.guard = none) (s x : Operand) (B : Nat) (W : World) (v : Value) (L : List Int) (z : Int) (ho : o.op = .call { callee := .builtin .append, args := #[s, x], argTypes := #[24, 24] })
    (es : a.eval s = v) (ex : a.eval x = .slice (some ⟨W.heap.size, 0, none⟩) 1 1) (hT : W.ownsRow B 3 1 v L.length (cellsI L)) (hB : B ≤ W.heap.size) (hn : L.length ≤ 1000000)
    (h : ∀ v2 w2, w2.ownsRow B 3 1 v2 (L ++ [z]).length (cellsI (L ++ [z])) → Below B W w2 → wpList Try.prog ops Q rest (a.put o.dst v2) w2) : wpList Try.prog ops Q (o :: rest) a (W.alloc (.cells #[.int .i64 z] 3)) := by
  obtain ⟨i0, hi, hz0, hz1, hz2⟩ := info_parts info3
  refine wpList_append_own _ hgd s x 24 ho B 3 i0 (.int .i64 0) 1 8 Try.underlying24 hi hz0 hz1 hz2 rfl (by decide) v L.length (cellsI L) es (hT.alloc _) ⟨W.heap.size, 0, none⟩ 1 1 [.int .i64 z] ex rfl (World.news_of_block (cs := #[.int .i64 z]) (heap_new _ _)) (by simp [Value.oneCell']) (by unfold maxLen; omega) (by omega) (by simp; omega) ?_
  intro v2 w2 hown hgrow _
  refine h v2 w2 ?_ (((Below.refl B W).alloc hB _).grown hgrow (by simp; omega) (fun j ej => own_ge' hT ej))
  have e : cellsI (L ++ [z]) = cellsI L ++ [.int .i64 z] := by simp [cellsI]
  rw [e, List.length_append]
  exact hown
end Go.Proofs.Ytfajgbdnfphajaa.S
