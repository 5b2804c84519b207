/- Tokens parted by their lines: plain facts, and rows of rows of tokens. -/
import Derived.Test.YtghodeggobgclaaLFew
import Derived.Test.YtghodeggobgclaaLAsSc
import Derived.Lib.OwnKind
namespace Go.Proofs.Ytghodeggobgclaa
open Go.RowKit Go.Shelf
/-- What is parted off of the first c tokens: the lines, and what stands of the next one. -/
def linC (L : List Tok) : Nat → List (List Tok) × List Tok
  | 0 => ([], [])
  | c + 1 => match L[c]? with
    | some t => if t.kind = 4 then ((linC L c).1 ++ [(linC L c).2], []) else ((linC L c).1, (linC L c).2 ++ [t])
    | none => linC L c
def linT (L : List Tok) : List (List Tok) := if (linC L L.length).2.length = 0 then (linC L L.length).1 else (linC L L.length).1 ++ [(linC L L.length).2]
theorem linC_end {L : List Tok} {c : Nat} {t : Tok} (h : L[c]? = some t) (hk : t.kind = 4) : linC L (c + 1) = ((linC L c).1 ++ [(linC L c).2], []) := by
  simp only [linC, h]; rw [if_pos hk]
theorem linC_more {L : List Tok} {c : Nat} {t : Tok} (h : L[c]? = some t) (hk : ¬ t.kind = 4) : linC L (c + 1) = ((linC L c).1, (linC L c).2 ++ [t]) := by
  simp only [linC, h]; rw [if_neg hk]
theorem linC_len (L : List Tok) (c : Nat) : (linC L c).1.length ≤ c ∧ (linC L c).2.length ≤ c ∧ ∀ l ∈ (linC L c).1, l.length ≤ c := by
  induction c with
  | zero => simp [linC]
  | succ c ih =>
    cases h : L[c]? with
    | none =>
      simp only [linC, h]
      exact ⟨by omega, by omega, fun l hl => by have := ih.2.2 l hl; omega⟩
    | some t =>
      by_cases hk : t.kind = 4
      · rw [linC_end h hk]
        refine ⟨by simp; omega, by simp, fun l hl => ?_⟩
        rcases List.mem_append.1 hl with hl | hl
        · have := ih.2.2 l hl; omega
        · rw [List.mem_singleton] at hl; subst hl; omega
      · rw [linC_more h hk]
        refine ⟨by simp only []; omega, by simp; omega, fun l hl => ?_⟩
        have := ih.2.2 l hl; omega
theorem linT_len (L : List Tok) : (linT L).length ≤ L.length + 1 ∧ ∀ l ∈ linT L, l.length ≤ L.length := by
  obtain ⟨h1, h2, h3⟩ := linC_len L L.length
  unfold linT
  split
  · exact ⟨by omega, h3⟩
  · refine ⟨by simp; omega, fun l hl => ?_⟩
    rcases List.mem_append.1 hl with hl | hl
    · exact h3 l hl
    · rw [List.mem_singleton] at hl; subst hl; exact h2
/-- A row of rows of tokens, all in memory of one's own. -/
structure LnS (B : Nat) (w : World) (v : Value) (P : List (List Tok × Value)) : Prop where
  row : w.ownsRow B 22 1 v P.length (P.map Prod.snd)
  inner : ∀ p ∈ P, w.ownsRow B 35 5 p.2 p.1.length (cellsT p.1)
theorem LnS.nil (B : Nat) (w : World) : LnS B w (.slice none 0 0) [] := ⟨World.ownsRow_nil w _ _ _, fun p h => by cases h⟩
theorem own_sameL {w w' : World} {b : Nat} {e : TypeId} {size : Nat} {v : Value} {n : Nat} {xs : List Value} (h : w.ownsRow b e size v n xs) (hs : ∀ g, g < w.heap.size → v.ownBlock = some g → w'.heap[g]? = w.heap[g]?) : w'.ownsRow b e size v n xs := by
  rcases h with ⟨h1, h2⟩
  refine ⟨h1, ?_⟩
  rcases h2 with h2 | ⟨g, cap, cur, hv, hb, hg, c⟩
  · exact .inl h2
  · subst hv
    exact .inr ⟨g, cap, cur, rfl, hb, (hs g (Array.getElem?_eq_some_iff.1 hg).1 rfl).trans hg, c⟩
theorem own_belowL {w w' : World} {b m : Nat} {e : TypeId} {size : Nat} {v : Value} {n : Nat} {xs : List Value} (h : w.ownsRow b e size v n xs) (hb : Below m w w') (hm : w.heap.size ≤ m) : w'.ownsRow b e size v n xs :=
  own_sameL h fun g hg _ => hb.block g (Nat.lt_of_lt_of_le hg hm)
theorem LnS.below {B m : Nat} {w w' : World} {v : Value} {P : List (List Tok × Value)} (h : LnS B w v P) (hb : Below m w w') (hm : w.heap.size ≤ m) : LnS B w' v P := ⟨own_belowL h.row hb hm, fun p hp => own_belowL (h.inner p hp) hb hm⟩
/-- Rows of unlike kinds do not share a block. -/
theorem kind_ne {w : World} {B C : Nat} {v u : Value} {n m : Nat} {xs ys : List Value} (h1 : w.ownsRow B 22 1 v n xs) (h2 : w.ownsRow C 35 5 u m ys) {g : Nat} (hv : v.ownBlock = some g) : u.ownBlock ≠ some g := by
  intro e
  obtain ⟨c1, f1, k1⟩ := Go.Lib.ownsRow_kind h2 g e
  obtain ⟨c2, f2, k2⟩ := Go.Lib.ownsRow_kind h1 g hv
  rw [k1] at k2
  simp at k2
theorem own_keep {w w' : World} {B : Nat} {e : TypeId} {sz : Nat} {u : Value} {n : Nat} {xs : List Value} {b : Option Nat} (h : w.ownsRow B e sz u n xs) (hg : w.grownBy w' b) (hne : ∀ g, b = some g → u.ownBlock ≠ some g) : w'.ownsRow B e sz u n xs := by
  refine h.kept hg ?_
  cases hv : u.ownBlock with
  | none => exact .inl rfl
  | some b' => exact .inr fun e => hne b' e.symm hv
theorem own_geL {w : World} {B : Nat} {e : TypeId} {size : Nat} {v : Value} {n : Nat} {xs : List Value} (h : w.ownsRow B e size v n xs) {g : Nat} (hg : v.ownBlock = some g) : B ≤ g := by
  rcases h.2 with ⟨rfl, _⟩ | ⟨g', cap, cur, rfl, hb, _⟩
  · cases hg
  · cases hg; exact hb
theorem own_ltL {w : World} {B : Nat} {e : TypeId} {size : Nat} {v : Value} {n : Nat} {xs : List Value} (h : w.ownsRow B e size v n xs) {g : Nat} (hg : v.ownBlock = some g) : g < w.heap.size := by
  obtain ⟨_, _, h1⟩ := Go.Lib.ownsRow_kind h g hg
  exact (Array.getElem?_eq_some_iff.1 h1).1
theorem own_downL {w : World} {B C : Nat} {e : TypeId} {size : Nat} {v : Value} {n : Nat} {xs : List Value} (h : w.ownsRow B e size v n xs) (hc : C ≤ B) : w.ownsRow C e size v n xs := by
  rcases h with ⟨h1, h2⟩
  refine ⟨h1, ?_⟩
  rcases h2 with h2 | ⟨g', cap, cur, a, hb, c⟩
  · exact .inl h2
  · exact .inr ⟨g', cap, cur, a, Nat.le_trans hc hb, c⟩
/-- Lines, and what stands of the next one. -/
structure LnM (B C : Nat) (w : World) (v : Value) (P : List (List Tok × Value)) (u : Value) (one : List Tok) : Prop where
  ln : LnS B w v P
  one : w.ownsRow C 35 5 u one.length (cellsT one)
  far : ∀ p ∈ P, ∀ g, p.2.ownBlock = some g → g < C
  lo : B ≤ C
  hi : C ≤ w.heap.size
theorem LnM.start (B : Nat) (w : World) (h : B ≤ w.heap.size) : LnM B B w (.slice none 0 0) [] (.slice none 0 0) [] := ⟨LnS.nil B w, World.ownsRow_nil w _ _ _, fun p h => (by cases h), Nat.le_refl _, h⟩
theorem LnM.below {B C m : Nat} {w w' : World} {v u : Value} {P : List (List Tok × Value)} {one : List Tok} (h : LnM B C w v P u one) (hb : Below m w w') (hm : w.heap.size ≤ m) : LnM B C w' v P u one := ⟨h.ln.below hb hm, own_belowL h.one hb hm, h.far, h.lo, Nat.le_trans h.hi hb.size⟩
/-- The line is laid behind the lines. -/
theorem LnM.push {B C : Nat} {w w' : World} {v v' u : Value} {P : List (List Tok × Value)} {one : List Tok} (h : LnM B C w v P u one) (hown : w'.ownsRow B 22 1 v' (P.length + 1) (P.map Prod.snd ++ [u])) (hg : w.grownBy w' v.ownBlock) (hsz : w.heap.size ≤ w'.heap.size) : LnM B w'.heap.size w' v' (P ++ [(one, u)]) (.slice none 0 0) [] := by
  refine ⟨⟨?_, fun p hp => ?_⟩, World.ownsRow_nil w' _ _ _, fun p hp g hg' => ?_, Nat.le_trans h.lo (Nat.le_trans h.hi hsz), Nat.le_refl _⟩
  · rw [List.length_append, List.map_append]; exact hown
  · rcases List.mem_append.1 hp with hp | hp
    · exact own_keep (h.ln.inner p hp) hg fun g e => kind_ne h.ln.row (h.ln.inner p hp) e
    · rw [List.mem_singleton] at hp
      subst hp
      exact own_downL (own_keep h.one hg fun g e => kind_ne h.ln.row h.one e) h.lo
  · rcases List.mem_append.1 hp with hp | hp
    · have := own_ltL (h.ln.inner p hp) hg'; omega
    · rw [List.mem_singleton] at hp
      subst hp
      have := own_ltL h.one hg'; omega
/-- A token is laid behind the line. -/
theorem LnM.add {B C : Nat} {w w' : World} {v u u' : Value} {P : List (List Tok × Value)} {one : List Tok} {t : Tok} (h : LnM B C w v P u one) (hown : w'.ownsRow C 35 5 u' (one.length + 1) (cellsT one ++ tcells t)) (hg : w.grownBy w' u.ownBlock) (hsz : w.heap.size ≤ w'.heap.size) : LnM B C w' v P u' (one ++ [t]) := by
  refine ⟨⟨own_keep h.ln.row hg fun g e e2 => kind_ne h.ln.row h.one e2 e, fun p hp => own_keep (h.ln.inner p hp) hg fun g e e2 => ?_⟩, ?_, h.far, h.lo, Nat.le_trans h.hi hsz⟩
  · have h1 := own_geL h.one e
    have h2 := h.far p hp g e2
    omega
  · rw [List.length_append, cellsT_app]
    simpa [cellsT] using hown
end Go.Proofs.Ytghodeggobgclaa
