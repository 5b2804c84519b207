/- Rows of bytes laid behind one another. -/
import Derived.Test.YtgmjmliemjgioaaDoorJ28
import Derived.Deep.QuietTactic
import Derived.BigQuiet
namespace Go.Proofs.YtgmjmliemjgioaaDoor.S
open Go.RowKit Go.Shelf
theorem be_one (n : Nat) : be 1 n = [n % 256] := by simp [be]
theorem be_small {n : Nat} (h : n < 256) : be 1 n = [n] := by rw [be_one, Nat.mod_eq_of_lt h]
theorem oneB (L : List Nat) : ∀ u ∈ cellsB L, u.oneCell' = true := fun u hu => by
  obtain ⟨z, _, rfl⟩ := List.mem_map.1 hu
  rfl
theorem cellsB_app (L M : List Nat) : cellsB (L ++ M) = cellsB L ++ cellsB M := by simp [cellsB]
theorem cellsB_len (L : List Nat) : (cellsB L).length = L.length := by simp [cellsB]
theorem cellsB_at {L : List Nat} {j : Nat} {u : Value} (h : (cellsB L)[j]? = some u) : ∃ z : Nat, L[j]? = some z ∧ u = .int .u8 (z : Int) := by
  unfold cellsB at h
  rw [List.getElem?_map] at h
  cases e : L[j]? with
  | none => rw [e] at h; cases h
  | some z => rw [e] at h; cases h; exact ⟨z, rfl, rfl⟩
/-- A row of bytes laid behind another. -/
theorem app_rowBL {ops : Array Oper} {rest : List Oper} {o : Oper} {a : Act} {Q : Exit → Act → World → Prop} (hgd : o.guard = none) (s x : Operand) (B : Nat) (W : World) (v : Value) (L : List Nat) (oa : Option Addr) (m cap : Nat) (l : List Nat) (ho : o.op = .call { callee := .builtin .append, args := #[s, x], argTypes := #[39, 39] })
    (es : a.eval s = v) (ex : a.eval x = .slice oa m cap) (hT : W.ownsRow B 5 1 v L.length (cellsB L)) (hX : RowB W (.slice oa m cap) l) (h0 : 0 < m) (hB : B ≤ W.heap.size) (hn : L.length + m ≤ 1000000)
    (h : ∀ v2 w2, w2.ownsRow B 5 1 v2 (L ++ l).length (cellsB (L ++ l)) → Below B W w2 → FzB W w2 → wpList Tryd.prog ops Q rest (a.put o.dst v2) w2) : wpList Tryd.prog ops Q (o :: rest) a W := by
  obtain ⟨i0, hi, hz0, hz1, hz2⟩ := info_parts infoU8
  obtain ⟨oa', cap', e, hc⟩ := hX
  injection e with e1 e2 e3
  subst e1
  subst e2
  subst e3
  cases oa with
  | none =>
    obtain ⟨z, hz⟩ : ∃ z, l[0]? = some z := ⟨_, List.getElem?_eq_getElem h0⟩
    obtain ⟨g, o', e, _⟩ := hc 0 z hz
    cases e
  | some ad =>
    have hnews : ∀ j u, (cellsB l)[j]? = some u → W.cell? (ad.add j) = some u := fun j u hu => by
      obtain ⟨z, hz, rfl⟩ := cellsB_at hu
      obtain ⟨g, o, e, hcell⟩ := hc j z hz
      cases e
      rw [Addr.add_lit]; exact hcell
    refine wpList_append_own _ hgd s x 39 ho B 5 i0 (.int .u8 0) 1 1 Tryd.underlying39 hi hz0 hz1 hz2 rfl (by decide) v L.length (cellsB L) es hT ad l.length cap (cellsB l) ex (by rw [cellsB_len]; omega) hnews (oneB l) (by unfold maxLen; omega) (by omega) hB ?_
    intro v2 w2 hown hgrow _
    refine h v2 w2 ?_ ((Below.refl B W).grown hgrow hB (fun j ej => own_ge' hT ej)) (FzB.grown hT hgrow)
    rw [cellsB_app, List.length_append]
    exact hown
theorem below_drewZ {n : Nat} {w w' : World} (h : Below n w w') : ∀ k, Below n w (w'.drewN k) := by
  intro k
  induction k with
  | zero => exact h
  | succ k ih => exact ih.drew
end Go.Proofs.YtgmjmliemjgioaaDoor.S
