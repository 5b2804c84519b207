/- Bytes laid behind a row of one's own. -/
import Derived.Test.YtmhbidnpfefjpaaJnY
namespace Go.Proofs.Ytmhbidnpfefjpaa
open Go.RowKit
/-- Bytes laid behind a row of one's own. -/
theorem appWr {W : World} {o : Oper} {a : Act} {K : Act → World → Prop} {Q : Exit → Act → World → Prop} (s x : Operand) (ho : o.op = .call { callee := .builtin .append, args := #[s, x], argTypes := #[34, 34] })
    (B : Nat) (v : Value) (L : List Nat) (n : Nat) (es : a.eval s = v) (hn : n = L.length) (hT : W.ownsRow B 5 1 v n (cellsB L)) (ad : Addr) (m c : Nat) (M : List Nat) (ex : a.eval x = .slice (some ad) m c) (hm : m = M.length) (hM : ∀ j u, (cellsB M)[j]? = some u → W.cell? (ad.add j) = some u) (hB : B ≤ W.heap.size) (hl : L.length + M.length ≤ 1000000) (h0 : v ≠ .slice none 0 0)
    (hK : ∀ g2 n2 c2 w2, Hid (n2 = (L ++ M).length) → Hid (w2.ownsRow B 5 1 (.slice (some ⟨g2, 0, none⟩) n2 c2) n2 (cellsB (L ++ M))) → Hid (Below B W w2) → Hid (W.grownBy w2 v.ownBlock) → K (a.put o.dst (.slice (some ⟨g2, 0, none⟩) n2 c2)) w2) : o.wp Try.prog a W K Q := by
  obtain ⟨i0, hi, hz0, hz1, hz2⟩ := info_parts infoU8
  subst hn hm
  refine wp_append_own W s x 34 ho B 5 i0 (.int .u8 0) 1 1 Try.underlying34 hi hz0 hz1 hz2 rfl (by decide) v L.length (cellsB L) es hT ad M.length c (cellsB M) ex (by simp [cellsB]) hM (oneB _) (by unfold maxLen; omega) (by omega) hB ?_
  intro v2 w2 hown hgrow hnil
  rw [← cellsB_app, ← List.length_append] at hown
  have hown' := hown
  rcases hown.2 with ⟨e, _⟩ | ⟨g, cap, cur, e, _⟩
  · exact absurd (hnil.1 e).1 h0
  · subst e
    exact hK _ _ _ _ rfl hown' ((Below.refl B W).grown hgrow hB (fun j ej => (hT.lt j ej).1)) hgrow
theorem appLr {W : World} {ops : Array Oper} {rest : List Oper} {o : Oper} {a : Act} {Q : Exit → Act → World → Prop} (hgd : o.guard = none) (s x : Operand) (ho : o.op = .call { callee := .builtin .append, args := #[s, x], argTypes := #[34, 34] })
    (B : Nat) (v : Value) (L : List Nat) (n : Nat) (es : a.eval s = v) (hn : n = L.length) (hT : W.ownsRow B 5 1 v n (cellsB L)) (ad : Addr) (m c : Nat) (M : List Nat) (ex : a.eval x = .slice (some ad) m c) (hm : m = M.length) (hM : ∀ j u, (cellsB M)[j]? = some u → W.cell? (ad.add j) = some u) (hB : B ≤ W.heap.size) (hl : L.length + M.length ≤ 1000000) (h0 : v ≠ .slice none 0 0)
    (hK : ∀ g2 n2 c2 w2, Hid (n2 = (L ++ M).length) → Hid (w2.ownsRow B 5 1 (.slice (some ⟨g2, 0, none⟩) n2 c2) n2 (cellsB (L ++ M))) → Hid (Below B W w2) → Hid (W.grownBy w2 v.ownBlock) → wpList Try.prog ops Q rest (a.put o.dst (.slice (some ⟨g2, 0, none⟩) n2 c2)) w2) : wpList Try.prog ops Q (o :: rest) a W :=
  wpList_plain hgd fun _ hK2 => appWr s x ho B v L n es hn hT ad m c M ex hm hM hB hl h0 fun g2 n2 c2 w2 q1 q2 q3 q4 => hK2 _ _ (hK g2 n2 c2 w2 q1 q2 q3 q4)
end Go.Proofs.Ytmhbidnpfefjpaa
