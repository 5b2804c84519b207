/- What happens, as it is handed in. -/
import Derived.Test.YtmhbidnpfefjpaaJnU
namespace Go.Proofs.Ytmhbidnpfefjpaa
open Go.RowKit
structure Oj where
  d : Int
  n : Int
  data : List Nat
def RowP (w : World) (v : Value) (O : List Oj) : Prop := ∃ oa cap, v = .slice oa O.length cap ∧ (O.length ≤ cap ∧ (oa = none → cap = 0)) ∧ ∀ (i : Nat) (p : Oj), O[i]? = some p → ∃ g o dv, oa = some ⟨g, o, none⟩ ∧ w.cell? ⟨g, o + i * 3, none⟩ = some (.int .i64 p.d) ∧ w.cell? ⟨g, o + i * 3 + 1, none⟩ = some (.int .i64 p.n) ∧ w.cell? ⟨g, o + i * 3 + 2, none⟩ = some dv ∧ RowC w dv p.data ∧ (B256 p.data ∧ p.n < 9223372036854775808)
theorem RowP.at {w : World} {oa : Option Addr} {n cap : Nat} {O : List Oj} (h : RowP w (.slice oa n cap) O) {i : Nat} {p : Oj} (hp : O[i]? = some p) :
    ∃ g o dv, oa = some ⟨g, o, none⟩ ∧ Hid (∀ w', Below w.heap.size w w' → w'.cell? ⟨g, o + i * 3, none⟩ = some (.int .i64 p.d) ∧ w'.cell? ⟨g, o + i * 3 + 1, none⟩ = some (.int .i64 p.n) ∧ w'.cell? ⟨g, o + i * 3 + 2, none⟩ = some dv) ∧ Hid (RowC w dv p.data) ∧ Hid (B256 p.data) ∧ p.n < 9223372036854775808 := by
  obtain ⟨oa', cap', e, _, h1⟩ := h
  injection e with e1 e2 e3
  subst e1
  obtain ⟨g, o, dv, e1, e2, e3, e4, e5, e6, e7⟩ := h1 i p hp
  exact ⟨g, o, dv, e1, fun w' hb => ⟨(hb.cell (p := ⟨g, o + i * 3, none⟩) (cell_lt e2)).trans e2, (hb.cell (p := ⟨g, o + i * 3 + 1, none⟩) (cell_lt e3)).trans e3, (hb.cell (p := ⟨g, o + i * 3 + 2, none⟩) (cell_lt e4)).trans e4⟩, e5, e6, e7⟩
theorem own_ne {W : World} {B : Nat} {e : TypeId} {sz : Nat} {v : Value} {n : Nat} {xs : List Value} (h : W.ownsRow B e sz v n xs) {g gb : Nat} (h1 : g < B) (h2 : gb < B) : ∀ x o n c, v = .slice (some ⟨x, o, none⟩) n c → x ≠ g ∧ x ≠ gb := by
  intro x o n' c e'
  rcases h.2 with ⟨e2, _⟩ | ⟨g', cap, cur, e2, hb, _⟩
  · rw [e2] at e'; cases e'
  · rw [e2] at e'
    cases e'
    exact ⟨by omega, by omega⟩
theorem own_kj {W W' : World} {B g gb gj g' : Nat} {v : Value} {J : Jn} {n : Nat} {xs : List Value} (h : W.ownsRow B 5 1 v n xs) (k : Kj g gb gj W W') (hg : g < B) (hb : gb < B) (hj : JnA W gj g' J) : W'.ownsRow B 5 1 v n xs := own_kept h fun i hi hB ⟨cs, hc⟩ => k.block i hi (by omega) (by omega) (by
  rintro rfl
  unfold JnA at hj
  rw [hj] at hc
  injection hc with hc
  injection hc with _ hc
  exact absurd hc (by decide))
/-- One row laid behind nil. -/
theorem app_nil1 {W : World} {ops : Array Oper} {rest : List Oper} {o : Oper} {a : Act} {Q : Exit → Act → World → Prop} (hgd : o.guard = none) (s x : Operand) (ho : o.op = .call { callee := .builtin .append, args := #[s, x], argTypes := #[44, 44] })
    (es : a.eval s = .slice none 0 0) (ex : a.eval x = .slice (some ⟨W.heap.size, 0, none⟩) 1 1) (o1 : Option Addr) (n1 c1 : Nat)
    (hK : ∀ o2 c2 w2, Hid (Below W.heap.size W w2) → wpList Try.prog ops Q rest (a.put o.dst (.slice o2 1 c2)) w2) : wpList Try.prog ops Q (o :: rest) a (W.alloc (.cells #[.slice o1 n1 c1] 34)) := by
  obtain ⟨i0, hi, hz0, hz1, hz2⟩ := info_parts infoBs
  refine wpList_append_own _ hgd s x 44 ho W.heap.size 34 i0 (.slice none 0 0) 1 24 Try.underlying44 hi hz0 hz1 hz2 rfl (by decide) (.slice none 0 0) 0 [] es (World.ownsRow_nil _ _ _ _) ⟨W.heap.size, 0, none⟩ 1 1 [.slice o1 n1 c1] ex rfl (World.news_of_block (cs := #[.slice o1 n1 c1]) (heap_new _ _)) (by simp [Value.oneCell']) (by unfold maxLen; omega) (by omega) (by simp) ?_
  intro v2 w2 hown hgrow _
  obtain ⟨o2, c2, rfl⟩ := own_shp hown
  exact hK o2 c2 w2 (((Below.refl _ W).alloc (Nat.le_refl _) _).grown hgrow (by simp) (fun j ej => by cases ej))
theorem own_up {W W' : World} {B : Nat} {e : TypeId} {sz : Nat} {v : Value} {n : Nat} {xs : List Value} (h : W.ownsRow B e sz v n xs) (hb : Below W.heap.size W W') : W'.ownsRow B e sz v n xs := own_kept h fun k hk _ _ => hb.block k hk
theorem B256.take {L : List Nat} (h : B256 L) (k : Nat) : B256 (L.take k) := fun z hz => h z (List.mem_of_mem_take hz)
end Go.Proofs.Ytmhbidnpfefjpaa
