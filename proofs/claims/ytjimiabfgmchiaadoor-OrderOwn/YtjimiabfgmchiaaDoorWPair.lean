/- Pairs copied, and two marks laid behind. -/
import Derived.Test.YtjimiabfgmchiaaDoorOTwin
import Derived.Test.YtjimiabfgmchiaaDoorOFn
import Derived.Deep.AppendLies
namespace Go.Proofs.YtjimiabfgmchiaaDoor
open Go.RowKit Go.Shelf
theorem app_pairs {o : Oper} {a : Act} {K : Act → World → Prop} {Q : Exit → Act → World → Prop} (s x : Operand) (ho : o.op = .call { callee := .builtin .append, args := #[s, x], argTypes := #[22, 22] })
    (W : World) (B g0 : Nat) (oa : Option Addr) (cap : Nat) (L : List (Int × Int)) (es : a.eval s = .slice (some ⟨g0, 0, none⟩) 0 0) (ex : a.eval x = .slice oa L.length cap)
    (hz : W.ownsRow B 30 2 (.slice (some ⟨g0, 0, none⟩) 0 0) 0 (cellsP [])) (hv : PairsAt W (.slice oa L.length cap) L) (hn : L.length * 16 ≤ 140737488351232) (hB : B ≤ W.heap.size)
    (hK : ∀ oa1 cap1 w1, Hid (w1.ownsRow B 30 2 (.slice oa1 L.length cap1) L.length (cellsP L)) → Hid (W.grownBy w1 (some g0)) → K (a.put o.dst (.slice oa1 L.length cap1)) w1) : o.wp Tryd.prog a W K Q := by
  obtain ⟨i0, hi, hz0, hz1, hz2⟩ := info_q infoP
  obtain ⟨oa', cap', e, hcap, hc⟩ := hv
  cases e
  cases oa with
  | none =>
    have := hcap.2 rfl
    subst this
    have hL : L = [] := List.eq_nil_of_length_eq_zero (by omega)
    subst hL
    have hrun := run_append_owned_none (P := Tryd.prog) (w := W) B 22 o.type 30 i0 2 Tryd.underlying22 hi _ 0 (cellsP []) hz
    have ex' : a.eval x = .slice none 0 0 := ex
    unfold Oper.wp
    simp [execOp, ho, resolve, invoke, builtin, es, ex', hrun, Result.andThen]
    exact hK _ _ _ hz (World.grownBy.refl _ _)
  | some ad =>
    have hnews : ∀ j u, (cellsP L)[j]? = some u → W.cell? (ad.add j) = some u := fun j u hu => by
      obtain ⟨i, p, hp, hor⟩ := cellsP_inv hu
      obtain ⟨g, o, e, c1, c2⟩ := hc i p hp
      cases e
      rw [Addr.add_lit]
      rcases hor with ⟨rfl, rfl⟩ | ⟨rfl, rfl⟩
      · exact c1
      · rw [← Nat.add_assoc]; exact c2
    refine wp_append_own _ s x 22 ho B 30 i0 (.agg #[.int .i64 0, .int .i64 0]) 2 16 Tryd.underlying22 hi hz0 hz1 hz2 rfl (by decide) _ 0 (cellsP []) es hz ad L.length cap (cellsP L) ex (by rw [cellsP_len]) hnews (cellsP_one _) (by unfold maxLen; omega) (by omega) hB ?_
    intro v1 w1 hown1 hgrow1 _
    have hown : w1.ownsRow B 30 2 v1 (0 + L.length) (cellsP L) := hown1
    rw [Nat.zero_add] at hown
    rcases hown.2 with ⟨rfl, h0⟩ | ⟨g, cap1, cur, rfl, _⟩
    · have e0 : L = [] := List.eq_nil_of_length_eq_zero h0
      subst e0
      exact hK _ _ _ hown hgrow1
    · exact hK _ _ _ hown hgrow1
def mk2 : List (Int × Int) := [(-7, -8), (-7, -8)]
theorem cellsP_mk (L : List (Int × Int)) : cellsP L ++ [.int .i64 (-7), .int .i64 (-8), .int .i64 (-7), .int .i64 (-8)] = cellsP (L ++ mk2) := by simp [cellsP, mk2]
theorem app_marks {o : Oper} {a : Act} {K : Act → World → Prop} {Q : Exit → Act → World → Prop} (s x : Operand) (ho : o.op = .call { callee := .builtin .append, args := #[s, x], argTypes := #[22, 22] })
    (W : World) (B gm : Nat) (v : Value) (L : List (Int × Int)) (es : a.eval s = v) (ex : a.eval x = .slice (some ⟨gm, 0, none⟩) 2 2)
    (hown : W.ownsRow B 30 2 v L.length (cellsP L)) (hm : W.heap[gm]? = some (.cells #[.int .i64 (-7), .int .i64 (-8), .int .i64 (-7), .int .i64 (-8)] 30 (0, 0))) (hn : L.length * 16 ≤ 140737488351232) (hB : B ≤ W.heap.size)
    (hK : ∀ g2 cap2 w2, Hid (w2.ownsRow B 30 2 (.slice (some ⟨g2, 0, none⟩) (L.length + 2) cap2) (L.length + 2) (cellsP (L ++ mk2))) → Hid (W.grownBy w2 v.ownBlock) → K (a.put o.dst (.slice (some ⟨g2, 0, none⟩) (L.length + 2) cap2)) w2) : o.wp Tryd.prog a W K Q := by
  obtain ⟨i0, hi, hz0, hz1, hz2⟩ := info_q infoP
  refine wp_append_own _ s x 22 ho B 30 i0 (.agg #[.int .i64 0, .int .i64 0]) 2 16 Tryd.underlying22 hi hz0 hz1 hz2 rfl (by decide) v L.length (cellsP L) es hown ⟨gm, 0, none⟩ 2 2 [.int .i64 (-7), .int .i64 (-8), .int .i64 (-7), .int .i64 (-8)] ex rfl (World.news_of_block (cs := #[.int .i64 (-7), .int .i64 (-8), .int .i64 (-7), .int .i64 (-8)]) hm) (by simp [Value.oneCell']) (by unfold maxLen; omega) (by omega) hB ?_
  intro v2 w2 hown2 hgrow2 _
  rw [cellsP_mk] at hown2
  rcases hown2.2 with ⟨rfl, h0⟩ | ⟨g, cap1, cur, rfl, _⟩
  · omega
  · exact hK _ _ _ hown2 hgrow2
end Go.Proofs.YtjimiabfgmchiaaDoor
