/- Rows that are made one behind the other, their lengths letters. -/
import Derived.Test.YtgfnfbbiojnhaaaDoorImX
import Derived.Test.YtgfnfbbiojnhaaaDoorImBM
namespace Go.Proofs.YtgfnfbbiojnhaaaDoor
open Go.RowKit
/-- A new row of no bytes. -/
theorem emp (V : World) : Hid ((V.alloc (.cells #[] 5)).ownsRow V.heap.size 5 1 (.slice (some ⟨V.heap.size, 0, none⟩) ([] : List Nat).length 0) ([] : List Nat).length (cellsB [])) ∧ Hid (Below V.heap.size V (V.alloc (.cells #[] 5))) := ⟨owns_zero V 5, (Below.refl _ _).alloc (Nat.le_refl _) _⟩
theorem rdE_three {R : List Nat} (h : rdE R = 3) : rdC R = noK := by
  unfold rdE at h
  unfold rdC
  split at h
  · cases h
  · rename_i h'; rw [if_neg h']
/-- Bytes laid behind a row of one's own, wherever they lie. -/
theorem app_bytesN {ops : Array Oper} {rest : List Oper} {o : Oper} {a : Act} {Q : Exit → Act → World → Prop} (hgd : o.guard = none) (s x : Operand) (B : Nat) (W : World) (g0 m0 c0 : Nat) (L : List Nat) (oa : Option Addr) (n cap : Nat) (M N : List Nat) (ho : o.op = .call { callee := .builtin .append, args := #[s, x], argTypes := #[24, 24] })
    (es : a.eval s = .slice (some ⟨g0, 0, none⟩) m0 c0) (ex : a.eval x = .slice oa n cap) (hm0 : m0 = L.length) (hT : W.ownsRow B 5 1 (.slice (some ⟨g0, 0, none⟩) m0 c0) m0 (cellsB L)) (hM : RowC W (.slice oa n cap) M) (hN : L ++ M = N) (hB : B ≤ W.heap.size) (hn : L.length + M.length ≤ 140737488355328)
    (h : ∀ g m c w2, Hid (m = N.length) → Hid (w2.ownsRow B 5 1 (.slice (some ⟨g, 0, none⟩) m c) m (cellsB N)) → Hid (Below B W w2) → wpList Tryd.prog ops Q rest (a.put o.dst (.slice (some ⟨g, 0, none⟩) m c)) w2) : wpList Tryd.prog ops Q (o :: rest) a W := by
  subst hN hm0
  exact app_bytes hgd s x B W g0 c0 L oa n cap M ho es ex hT hM hB hn h
/-- The same where no call waits in the row. -/
theorem ownN_row {W : World} {B g m c : Nat} {N : List Nat} (hm : m = N.length) (h : W.ownsRow B 5 1 (.slice (some ⟨g, 0, none⟩) m c) m (cellsB N)) : RowC W (.slice (some ⟨g, 0, none⟩) m c) N := by
  subst hm
  exact RowC.of_owns h
theorem row_new (V : World) (L : List Nat) : RowC (V.alloc (.cells (cellsB L).toArray 5)) (.slice (some ⟨V.heap.size, 0, none⟩) L.length L.length) L :=
  RowC.of_bk (L := L) (heap_new V _) (fun i z hz => by rw [Nat.zero_add]; exact hz) rfl (Nat.le_refl _)
theorem row_one (V : World) (m : Nat) : RowC (V.alloc (.cells #[.int .u8 (m : Int)] 5)) (.slice (some ⟨V.heap.size, 0, none⟩) 1 1) [m] := row_new V [m]
end Go.Proofs.YtgfnfbbiojnhaaaDoor
