/- A flow that was told: its rows are handed to the book one by one. -/
import Derived.Test.YtlipdccfhnnleaaGreatDoorJ44
namespace Go.Proofs.YtlipdccfhnnleaaGreatDoor
open Go.RowKit
structure Xw (m0 : Nat) (s1 s2 : Value) (n1 n2 : Nat) (I : List (Value × List Int)) (c : Nat) (tag : Nat → Nat) (W : World) : Prop where
  len : I.length = n1 + n2
  r1 : ∀ g, s1.ownBlock = some g → (tag g = 0 ∧ m0 ≤ g) ∧ ∃ cs : Array Value, W.heap[g]? = some (.cells cs 50 (0, 0)) ∧ n1 * 3 ≤ cs.size ∧ ∀ i q, i < n1 → I[i]? = some q → cs[i * 3 + 2]? = some q.1
  r2 : ∀ g, s2.ownBlock = some g → (tag g = 0 ∧ m0 ≤ g) ∧ ∃ cs : Array Value, W.heap[g]? = some (.cells cs 52 (0, 0)) ∧ n2 * 3 ≤ cs.size ∧ ∀ i q, i < n2 → I[n1 + i]? = some q → cs[i * 3 + 2]? = some q.1
  inr : ∀ i q, I[i]? = some q → c ≤ i → W.ownsRow 0 3 1 q.1 q.2.length (cellsI q.2) ∧ ∀ g, q.1.ownBlock = some g → tag g = 0 ∧ m0 ≤ g
  dv : ∀ (i j : Nat) (p q : Value × List Int) (g : Nat), I[i]? = some p → I[j]? = some q → p.1.ownBlock = some g → q.1.ownBlock = some g → i = j
  sm : ∀ q ∈ I, q.2.length ≤ 30
section
variable {m0 : Nat} {s1 s2 : Value} {n1 n2 : Nat} {I : List (Value × List Int)} {c : Nat} {tag : Nat → Nat} {W W' : World}
theorem Xw.over (h : Xw m0 s1 s2 n1 n2 I c tag W) (hb : Below W.heap.size W W') : Xw m0 s1 s2 n1 n2 I c tag W' := by
  refine { h with r1 := fun g hg => ?_, r2 := fun g hg => ?_, inr := fun i q hq hc => ?_ }
  · obtain ⟨h0, cs, h1, h2⟩ := h.r1 g hg
    exact ⟨h0, cs, (hb.block g (Array.getElem?_eq_some_iff.1 h1).1).trans h1, h2⟩
  · obtain ⟨h0, cs, h1, h2⟩ := h.r2 g hg
    exact ⟨h0, cs, (hb.block g (Array.getElem?_eq_some_iff.1 h1).1).trans h1, h2⟩
  · exact ⟨own_same (h.inr i q hq hc).1 fun x hx _ => hb.block x hx, (h.inr i q hq hc).2⟩
theorem kinds_ne {W : World} {m : Nat} {e e' : TypeId} {sz n g : Nat} {v : Value} {xs : List Value} {cs : Array Value} (h : W.ownsRow m e sz v n xs) (hg : W.heap[g]? = some (.cells cs e' (0, 0))) (hne : e ≠ e') : v.ownBlock ≠ some g := kind_ne h hg hne
/-- Row c is handed over. -/
theorem Xw.give (h : Xw m0 s1 s2 n1 n2 I c tag W) {q : Value × List Int} (hq : I[c]? = some q) {tag' : Nat → Nat} (hf : K.Fr tag q.1 W tag' W') : Xw m0 s1 s2 n1 n2 I (c + 1) tag' W' := by
  have hv := (h.inr c q hq (Nat.le_refl _)).1
  refine { h with r1 := fun g hg => ?_, r2 := fun g hg => ?_, inr := fun i x hx hc => ?_ }
  · obtain ⟨⟨h0, hm⟩, cs, h1, h2⟩ := h.r1 g hg
    have hlt := (Array.getElem?_eq_some_iff.1 h1).1
    have hne := kinds_ne hv h1 (by decide)
    exact ⟨⟨hf.tg g hlt h0 hne, hm⟩, cs, (hf.block g hlt h0 hne).trans h1, h2⟩
  · obtain ⟨⟨h0, hm⟩, cs, h1, h2⟩ := h.r2 g hg
    have hlt := (Array.getElem?_eq_some_iff.1 h1).1
    have hne := kinds_ne hv h1 (by decide)
    exact ⟨⟨hf.tg g hlt h0 hne, hm⟩, cs, (hf.block g hlt h0 hne).trans h1, h2⟩
  · obtain ⟨h1, h2⟩ := h.inr i x hx (by omega)
    have hne : ∀ g, x.1.ownBlock = some g → q.1.ownBlock ≠ some g := fun g e1 e2 => by
      have := h.dv i c x q g hx hq e1 e2; omega
    exact ⟨own_same h1 fun g hg e => hf.block g hg (h2 g e).1 (hne g e), fun g e => ⟨hf.tg g (own_lt' h1 e) (h2 g e).1 (hne g e), (h2 g e).2⟩⟩
/-- A name, or a number, is written over. -/
theorem Xw.set1 (h : Xw m0 s1 s2 n1 n2 I c tag W) {g : Nat} (hg : s1.ownBlock = some g) (i : Nat) (u : Value) (hi : i % 3 ≠ 2) : Xw m0 s1 s2 n1 n2 I c tag (W.setCell ⟨g, i, none⟩ u) := by
  obtain ⟨_, cs0, h10, _⟩ := h.r1 g hg
  refine { h with r1 := fun x hx => ?_, r2 := fun x hx => ?_, inr := fun j q hq hc => ?_ }
  · obtain rfl : x = g := Option.some.inj (hx.symm.trans hg)
    obtain ⟨h0, cs, h1, h2, h3⟩ := h.r1 x hx
    refine ⟨h0, cs.setIfInBounds i u, heap_setCell_same W x i cs _ _ h1, by simpa using h2, fun j q hj hq => ?_⟩
    rw [Array.getElem?_setIfInBounds_ne (by omega)]
    exact h3 j q hj hq
  · obtain ⟨h0, cs, h1, h2⟩ := h.r2 x hx
    exact ⟨h0, cs, (Below.heap_setCell W ⟨g, i, none⟩ u x fun e => by rw [show x = g from e, h10] at h1; injection h1 with h1; injection h1 with _ h1; exact absurd h1 (by decide)).trans h1, h2⟩
  · obtain ⟨h1, h2⟩ := h.inr j q hq hc
    exact ⟨own_same h1 fun x _ e => Below.heap_setCell _ _ _ _ fun e2 => kinds_ne h1 h10 (by decide) (e.trans (congrArg some e2)), h2⟩
theorem Xw.set2 (h : Xw m0 s1 s2 n1 n2 I c tag W) {g : Nat} (hg : s2.ownBlock = some g) (i : Nat) (u : Value) (hi : i % 3 ≠ 2) : Xw m0 s1 s2 n1 n2 I c tag (W.setCell ⟨g, i, none⟩ u) := by
  obtain ⟨_, cs0, h10, _⟩ := h.r2 g hg
  refine { h with r1 := fun x hx => ?_, r2 := fun x hx => ?_, inr := fun j q hq hc => ?_ }
  · obtain ⟨h0, cs, h1, h2⟩ := h.r1 x hx
    exact ⟨h0, cs, (Below.heap_setCell W ⟨g, i, none⟩ u x fun e => by rw [show x = g from e, h10] at h1; injection h1 with h1; injection h1 with _ h1; exact absurd h1 (by decide)).trans h1, h2⟩
  · obtain rfl : x = g := Option.some.inj (hx.symm.trans hg)
    obtain ⟨h0, cs, h1, h2, h3⟩ := h.r2 x hx
    refine ⟨h0, cs.setIfInBounds i u, heap_setCell_same W x i cs _ _ h1, by simpa using h2, fun j q hj hq => ?_⟩
    rw [Array.getElem?_setIfInBounds_ne (by omega)]
    exact h3 j q hj hq
  · obtain ⟨h1, h2⟩ := h.inr j q hq hc
    exact ⟨own_same h1 fun x _ e => Below.heap_setCell _ _ _ _ fun e2 => kinds_ne h1 h10 (by decide) (e.trans (congrArg some e2)), h2⟩
end
/-- The rows of a flow, the steps' first. -/
def rowsOf (P1 : List (Sp × Value)) (P2 : List (Rl × Value)) : List (Value × List Int) := P1.map (fun p => (p.2, p.1.after)) ++ P2.map (fun p => (p.2, p.1.steps))
theorem Xw.start {m0 : Nat} {s1 s2 : Value} {P1 : List (Sp × Value)} {P2 : List (Rl × Value)} {tag : Nat → Nat} {W : World} (t1 : TwP m0 W s1 P1) (t2 : TwS m0 W s2 P2) {mm : Nat} (hd : Dv mm (P1.map Prod.snd ++ P2.map Prod.snd)) (h0 : ∀ g, m0 ≤ g → tag g = 0) (b1 : ∀ p ∈ P1, p.1.after.length ≤ 30) (b2 : ∀ p ∈ P2, p.1.steps.length ≤ 30) : Xw m0 s1 s2 P1.length P2.length (rowsOf P1 P2) 0 tag W := by
  have hfst : (rowsOf P1 P2).map Prod.fst = P1.map Prod.snd ++ P2.map Prod.snd := by simp only [rowsOf, List.map_append, List.map_map]; rfl
  have hL : ∀ i q, i < P1.length → (rowsOf P1 P2)[i]? = some q → ∃ p, P1[i]? = some p ∧ q = (p.2, p.1.after) := fun i q hi hq => by
    unfold rowsOf at hq
    rw [List.getElem?_append_left (by simpa using hi), List.getElem?_map] at hq
    cases hp : P1[i]? with
    | none => rw [hp] at hq; cases hq
    | some p => rw [hp] at hq; exact ⟨p, rfl, by simpa using hq.symm⟩
  have hR : ∀ i q, (rowsOf P1 P2)[P1.length + i]? = some q → ∃ p, P2[i]? = some p ∧ q = (p.2, p.1.steps) := fun i q hq => by
    unfold rowsOf at hq
    rw [List.getElem?_append_right (by simp), List.length_map, Nat.add_sub_cancel_left, List.getElem?_map] at hq
    cases hp : P2[i]? with
    | none => rw [hp] at hq; cases hq
    | some p => rw [hp] at hq; exact ⟨p, rfl, by simpa using hq.symm⟩
  refine ⟨by simp [rowsOf], fun g hg => ?_, fun g hg => ?_, fun i q hq _ => ?_, fun i j p q g hi hj hp hq => ?_, fun q hq => ?_⟩
  · have hm := own_ge' t1.row hg
    rcases t1.row.2 with ⟨rfl, _⟩ | ⟨g', cap, cs, rfl, _, hb, hc, _, hs, hcl⟩
    · cases hg
    · have e : g' = g := by simpa [Value.ownBlock] using hg
      subst e
      refine ⟨⟨h0 _ hm, hm⟩, cs, hb, by rw [hs]; omega, fun i q hi hq => ?_⟩
      obtain ⟨p, hp, rfl⟩ := hL i q hi hq
      have ha := cellsS_at P1 i 2 (by decide)
      rw [hp] at ha
      have hc2 := t1.row.cellAt (i * 3 + 2) (by omega)
      rw [ha] at hc2
      simp only [World.cell?, hb] at hc2
      exact hc2
  · have hm := own_ge' t2.row hg
    rcases t2.row.2 with ⟨rfl, _⟩ | ⟨g', cap, cs, rfl, _, hb, hc, _, hs, hcl⟩
    · cases hg
    · have e : g' = g := by simpa [Value.ownBlock] using hg
      subst e
      refine ⟨⟨h0 _ hm, hm⟩, cs, hb, by rw [hs]; omega, fun i q hi hq => ?_⟩
      obtain ⟨p, hp, rfl⟩ := hR i q hq
      have ha := cellsR_at P2 i 2 (by decide)
      rw [hp] at ha
      have hc2 := t2.row.cellAt (i * 3 + 2) (by omega)
      rw [ha] at hc2
      simp only [World.cell?, hb] at hc2
      exact hc2
  · by_cases hi : i < P1.length
    · obtain ⟨p, hp, rfl⟩ := hL i q hi hq
      have ho := t1.inner p (List.mem_of_getElem? hp)
      exact ⟨own_down ho (Nat.zero_le _), fun g hg => ⟨h0 g (own_ge' ho hg), own_ge' ho hg⟩⟩
    · obtain ⟨d, rfl⟩ : ∃ d, i = P1.length + d := ⟨i - P1.length, by omega⟩
      obtain ⟨p, hp, rfl⟩ := hR d q hq
      have ho := t2.inner p (List.mem_of_getElem? hp)
      exact ⟨own_down ho (Nat.zero_le _), fun g hg => ⟨h0 g (own_ge' ho hg), own_ge' ho hg⟩⟩
  · refine hd.ne i j p.1 q.1 g ?_ ?_ hp hq
    · rw [← hfst, List.getElem?_map, hi]; rfl
    · rw [← hfst, List.getElem?_map, hj]; rfl
  · unfold rowsOf at hq
    rcases List.mem_append.1 hq with hq | hq
    · obtain ⟨p, hp, rfl⟩ := List.mem_map.1 hq; exact b1 p hp
    · obtain ⟨p, hp, rfl⟩ := List.mem_map.1 hq; exact b2 p hp
end Go.Proofs.YtlipdccfhnnleaaGreatDoor
