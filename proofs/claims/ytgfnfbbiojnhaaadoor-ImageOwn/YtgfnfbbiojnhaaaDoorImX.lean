/- The law's wakes; what makes calls alike. -/
import Derived.Test.YtgfnfbbiojnhaaaDoorImD
import Derived.Test.YtgfnfbbiojnhaaaDoorImU
import Derived.Laws.StructEq
namespace Go.Proofs.YtgfnfbbiojnhaaaDoor
open Go.RowKit
/-- A call is itself. -/
theorem cl_eq (a f : Int) (b c d g : ByteArray) (w : World) : (Op.equalIn 10000 23 (.agg #[.int .i64 a, .string b, .string c, .string d, .int .i64 f, .string g]) (.agg #[.int .i64 a, .string b, .string c, .string d, .int .i64 f, .string g])).run Tryd.prog w = .ok true w := by
  have u3 := Tryd.underlying3
  have u9 := Tryd.underlying9
  have a3 := Tryd.isAgg3
  have z3 := Tryd.sizeOf3
  have a9 := Tryd.isAgg9
  have z9 := Tryd.sizeOf9
  rw [show (10000 : Nat) = 9999 + 1 from rfl, run_equalIn_struct w 9999 _ _ _ (by simp [Program.fieldsOf, Tryd.underlying23]) (by kernel_rfl)]
  simp only [Program.fieldsOf, Tryd.underlying23]
  go_simp
/-- Bytes laid behind a row of one's own, wherever they lie. -/
theorem app_bytes {ops : Array Oper} {rest : List Oper} {o : Oper} {a : Act} {Q : Exit → Act → World → Prop} (hgd : o.guard = none) (s x : Operand) (B : Nat) (W : World) (g0 c0 : Nat) (L : List Nat) (oa : Option Addr) (n cap : Nat) (M : List Nat) (ho : o.op = .call { callee := .builtin .append, args := #[s, x], argTypes := #[24, 24] })
    (es : a.eval s = .slice (some ⟨g0, 0, none⟩) L.length c0) (ex : a.eval x = .slice oa n cap) (hT : W.ownsRow B 5 1 (.slice (some ⟨g0, 0, none⟩) L.length c0) L.length (cellsB L)) (hM : RowC W (.slice oa n cap) M) (hB : B ≤ W.heap.size) (hn : L.length + M.length ≤ 140737488355328)
    (h : ∀ g m c w2, Hid (m = (L ++ M).length) → Hid (w2.ownsRow B 5 1 (.slice (some ⟨g, 0, none⟩) m c) m (cellsB (L ++ M))) → Hid (Below B W w2) → wpList Tryd.prog ops Q rest (a.put o.dst (.slice (some ⟨g, 0, none⟩) m c)) w2) : wpList Tryd.prog ops Q (o :: rest) a W := by
  obtain ⟨i0, hi, hz0, hz1, hz2⟩ := info_parts infoU8
  obtain ⟨oa', cap', e, ⟨hc1, hc2⟩, hcc⟩ := hM
  injection e with e1 e2 e3
  subst e1 e2 e3
  cases oa with
  | none =>
    have hcap := hc2 rfl
    have hM0 : M = [] := List.eq_nil_of_length_eq_zero (by omega)
    subst hM0
    subst hcap
    refine wpList_append_own_none hgd s x 24 ho B 5 i0 1 Tryd.underlying24 hi _ L.length (cellsB L) es hT ex ?_
    exact h g0 L.length c0 W (by unfold Hid; rw [List.append_nil]) (by unfold Hid; rw [List.append_nil]; exact hT) (Below.refl _ _)
  | some ad =>
    have hnews : ∀ j u, (cellsB M)[j]? = some u → W.cell? (ad.add j) = some u := fun j u hu => by
      obtain ⟨z, hz, rfl⟩ := cellsB_at hu
      obtain ⟨g, o, e, hcell⟩ := hcc j z hz
      cases e
      rw [Addr.add_lit]; exact hcell
    refine wpList_append_own _ hgd s x 24 ho B 5 i0 (.int .u8 0) 1 1 Tryd.underlying24 hi hz0 hz1 hz2 rfl (by decide) _ L.length (cellsB L) es hT ad M.length cap (cellsB M) ex (by rw [cellsB_len, Nat.mul_one]) hnews (oneB _) (by unfold maxLen; omega) (by omega) hB ?_
    intro v2 w2 hown hgrow hnil
    have hown' : w2.ownsRow B 5 1 v2 (L ++ M).length (cellsB (L ++ M)) := by rw [cellsB_app, List.length_append]; exact hown
    rcases hown'.2 with ⟨e, _⟩ | ⟨g, c, cur, e, _⟩
    · exact absurd (hnil.1 e).1 (by simp)
    · subst e
      exact h g _ c w2 rfl hown' ((Below.refl B W).grown hgrow hB (fun j ej => own_ge' hT ej))
/-- The document's run. -/
def wkC : Cl := { op := 20, a := ⟨#[97, 110, 110]⟩, b := ⟨#[115, 105, 103, 110]⟩, c := ⟨#[]⟩, n := 3, t := ⟨#[]⟩ }
theorem wk_e : wrE wkC = 0 := by decide +kernel
theorem wk_s : strB (wrL wkC) = ⟨#[20, 0, 0, 0, 0, 0, 0, 0, 3, 3, 97, 110, 110, 4, 115, 105, 103, 110, 0, 0, 0, 0, 0]⟩ := by decide +kernel
set_option maxRecDepth 100000 in
set_option maxHeartbeats 1000000 in
theorem wakesF (W : World) (hT : Tb W) : Calls Tryd.prog 9 #[] W fun e w' => e = .returned (.bool true) ∧ Below W.heap.size W w' := by
  have K := hide' (writeF wkC W hT)
  unfold WrP at K
  rw [wk_e, if_pos rfl] at K
  go_enter Tryd.func9, Tryd.ntmps9
  go_wp2_with fail
  refine K.out.mono ?_
  rintro e w1 ⟨oa, n, cap, rfl, _, ho, hb⟩
  have hc := conv_bytes (RowC.of_owns ho.out)
  rw [wk_s] at hc
  have hc' : (convert 24 9 (.slice oa n cap)).run Tryd.prog w1 = .ok (.string ⟨#[20, 0, 0, 0, 0, 0, 0, 0, 3, 3, 97, 110, 110, 4, 115, 105, 103, 110, 0, 0, 0, 0, 0]⟩) w1 := hc
  clear hc ho K
  go_wp2
  go_ret
  exact ⟨rfl, hb.out⟩
end Go.Proofs.YtgfnfbbiojnhaaaDoor
