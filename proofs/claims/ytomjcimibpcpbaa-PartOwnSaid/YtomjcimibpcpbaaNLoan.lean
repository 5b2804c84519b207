/- provostkeep's Loan: what it holds. -/
import Derived.Test.YtomjcimibpcpbaaKBook
namespace Go.Proofs.Ytomjcimibpcpbaa.K
open Go.RowKit
/-- The loan's own fields. -/
def BoxN (w : World) (p : Nat) (ov ow : Value) : Prop := w.heap[p]? = some (.cells #[ov, ow, .slice none 0 0, .slice none 0 0] 40 (0, 0))
section
variable {w w' : World} {p : Nat} {ov ow : Value} {X : Nat → Prop} {tag tag' : Nat → Nat}
theorem BoxN.lt (h : BoxN w p ov ow) : p < w.heap.size := (Array.getElem?_eq_some_iff.1 h).1
theorem BoxN.mv (h : BoxN w p ov ow) (hs : Sm X tag w w') (hx : ¬ X (tag p)) : BoxN w' p ov ow := (hs.block p h.lt hx).trans h
theorem BoxN.below (h : BoxN w p ov ow) (hb : Below w.heap.size w w') : BoxN w' p ov ow := (hb.block p h.lt).trans h
theorem BoxN.fz (h : BoxN w p ov ow) (k : Nat) : w.frozen? ⟨p, k, none⟩ = false := frozen_of_row w p k _ _ h
theorem BoxN.c0 (h : BoxN w p ov ow) : w.cell? ⟨p, 0, none⟩ = some ov := by unfold BoxN at h; simp [World.cell?, h]
theorem BoxN.c1 (h : BoxN w p ov ow) : w.cell? ⟨p, 1, none⟩ = some ow := by unfold BoxN at h; simp [World.cell?, h]
theorem BoxN.c2 (h : BoxN w p ov ow) : w.cell? ⟨p, 2, none⟩ = some (.slice none 0 0) := by unfold BoxN at h; simp [World.cell?, h]
theorem BoxN.c3 (h : BoxN w p ov ow) : w.cell? ⟨p, 3, none⟩ = some (.slice none 0 0) := by unfold BoxN at h; simp [World.cell?, h]
theorem BoxN.s0 (h : BoxN w p ov ow) (u : Value) : BoxN (w.setCell ⟨p, 0, none⟩ u) p u ow := by
  have := heap_setCell_same w p 0 _ _ u h; simpa [BoxN] using this
theorem BoxN.s1 (h : BoxN w p ov ow) (u : Value) : BoxN (w.setCell ⟨p, 1, none⟩ u) p ov u := by
  have := heap_setCell_same w p 1 _ _ u h; simpa [BoxN] using this
end
/-- What the loan holds: ml lists, mw copies of them. -/
structure LN (w : World) (p : Nat) (tag : Nat → Nat) (ov ow : Value) (ml mw : Nat) (vs us : List Value) (rows : Nat → List Int) : Prop where
  box : BoxN w p ov ow
  bt : tag p = 1
  live : Fam w tag 2 (fun j => 10 + 2 * j) ov ml vs rows
  want : Fam w tag 3 (fun j => 11 + 2 * j) ow mw us rows
  fresh : ∀ g, w.heap.size ≤ g → tag g = 0
  hrow : ∀ j, j < ml → (rows j).length ≤ 1000000
def Loan (w : World) (p : Nat) (tag : Nat → Nat) (m : Nat) : Prop := ∃ ov ow vs us rows, LN w p tag ov ow m m vs us rows
/-- What is not the loan's own, and each list that was lent, stands. -/
structure FrL (tag : Nat → Nat) (w : World) (tag' : Nat → Nat) (w' : World) : Prop where
  os : w'.os = w.os
  tape : w'.tape = w.tape
  output : w'.output = w.output
  size : w.heap.size ≤ w'.heap.size
  tg : ∀ g, g < w.heap.size → tag' g = tag g
  block : ∀ g, g < w.heap.size → tag g ≠ 1 → tag g ≠ 2 → tag g ≠ 3 → w'.heap[g]? = w.heap[g]?
theorem FrL.trans {tag tag' tag2 : Nat → Nat} {w w' w2 : World} (h : FrL tag w tag' w') (k : FrL tag' w' tag2 w2) : FrL tag w tag2 w2 :=
  ⟨k.os.trans h.os, k.tape.trans h.tape, k.output.trans h.output, Nat.le_trans h.size k.size, fun g hg => (k.tg g (Nat.lt_of_lt_of_le hg h.size)).trans (h.tg g hg),
   fun g hg h1 h2 h3 => (k.block g (Nat.lt_of_lt_of_le hg h.size) (by rw [h.tg g hg]; exact h1) (by rw [h.tg g hg]; exact h2) (by rw [h.tg g hg]; exact h3)).trans (h.block g hg h1 h2 h3)⟩
theorem owns_lowN {w : World} {b b' : Nat} {e : TypeId} {size : Nat} {v : Value} {n : Nat} {xs : List Value} (h : w.ownsRow b e size v n xs) (hb : b' ≤ b) : w.ownsRow b' e size v n xs := by
  refine ⟨h.1, ?_⟩
  rcases h.2 with hn | ⟨g, cap, cur, rfl, h1, rest⟩
  · exact .inl hn
  · exact .inr ⟨g, cap, cur, rfl, Nat.le_trans hb h1, rest⟩
theorem size_setN (w : World) (p : Addr) (u : Value) : (w.setCell p u).heap.size = w.heap.size := by simp [World.setCell]
section
variable {w : World} {p : Nat} {tag : Nat → Nat} {ov ow : Value} {m : Nat} {vs us : List Value} {rows : Nat → List Int}
theorem LN.below {w' : World} {ml mw : Nat} (h : LN w p tag ov ow ml mw vs us rows) (hb : Below w.heap.size w w') : LN w' p tag ov ow ml mw vs us rows :=
  ⟨h.box.below hb, h.bt, h.live.mv (Sm.below (X := fun _ => False) hb) (fun h => h) (fun _ _ h => h), h.want.mv (Sm.below (X := fun _ => False) hb) (fun h => h) (fun _ _ h => h), fun g hg => h.fresh g (Nat.le_trans hb.size hg), h.hrow⟩
/-- Kept by whatever leaves its blocks alone. -/
theorem LN.mv {w' : World} {ml mw : Nat} (h : LN w p tag ov ow ml mw vs us rows) (hs : Sm (· = 0) tag w w') : LN w' p tag ov ow ml mw vs us rows :=
  ⟨h.box.mv hs (by rw [h.bt]; decide), h.bt, h.live.mv hs (by decide) (fun j _ => by omega), h.want.mv hs (by decide) (fun j _ => by omega), fun g hg => h.fresh g (Nat.le_trans hs.size hg), h.hrow⟩
theorem stageL {w4 w5 : World} {u : Value} {l : List Int} {g5 cap5 : Nat} {o5 : Obj} (hk : LN w p tag ov ow m m vs us rows) (hB : Below w.heap.size w w4) (hl : l.length ≤ 1000000)
    (hu : w4.ownsRow w.heap.size 3 1 u l.length (cellsI l))
    (hnew : w5.ownsRow 0 22 1 (.slice (some ⟨g5, 0, none⟩) (m + 1) cap5) (m + 1) (vs ++ [u])) (hold : w5.ownsRow 0 22 1 ov m vs)
    (hat : (ov = .slice (some ⟨g5, 0, none⟩) m cap5 ∧ (w4.alloc o5).grownBy w5 (some g5)) ∨ (g5 = (w4.alloc o5).heap.size ∧ (w4.alloc o5).grownBy w5 none)) :
    ∃ tag' rows', rows' m = l ∧ LN (w5.setCell ⟨p, 0, none⟩ (.slice (some ⟨g5, 0, none⟩) (m + 1) cap5)) p tag' (.slice (some ⟨g5, 0, none⟩) (m + 1) cap5) ow (m + 1) m (vs ++ [u]) us rows' ∧ FrL tag w tag' (w5.setCell ⟨p, 0, none⟩ (.slice (some ⟨g5, 0, none⟩) (m + 1) cap5)) ∧ (∀ g, u.ownBlock = some g → tag' g = 10 + 2 * m) ∧ (w5.setCell ⟨p, 0, none⟩ (.slice (some ⟨g5, 0, none⟩) (m + 1) cap5)).ownsRow 0 3 1 u l.length (cellsI l) := by
  generalize hW : w4.alloc o5 = W at hat
  have hz : W.heap.size = w4.heap.size + 1 := by rw [← hW]; simp
  have hBs := hB.size
  have S2 : ∀ X, Sm X tag w W := fun X => by rw [← hW]; exact (Sm.below hB).trans (Sm.alloc o5) (fun _ _ => rfl)
  have hul : ∀ g, u.ownBlock = some g → w.heap.size ≤ g ∧ g < w4.heap.size := fun g e => hu.lt g e
  have hg5 : tag g5 = 2 ∨ w4.heap.size < g5 := by
    rcases hat with ⟨e, hg⟩ | ⟨e, hg⟩
    · exact .inl (hk.live.otag g5 (by rw [e]; rfl))
    · exact .inr (by omega)
  have hg5lt : g5 < w5.heap.size := owns_lt hnew rfl
  have huW : W.ownsRow 0 3 1 u l.length (cellsI l) := by rw [← hW]; exact (owns_lowN hu (Nat.zero_le _)).alloc o5
  have S3 : Sm (· = 2) tag W w5 := by
    rcases hat with ⟨e, hg⟩ | ⟨_, hg⟩
    · exact Sm.grown hg fun g eg => by cases eg; exact hk.live.otag g5 (by rw [e]; rfl)
    · exact Sm.grown hg fun g eg => by cases eg
  have hu5 : w5.ownsRow 0 3 1 u l.length (cellsI l) := owns_same huW fun g hg e => S3.block g hg (by show ¬ tag g = 2; rw [hk.fresh g (hul g e).1]; decide)
  have b1 : BoxN W p ov ow := hk.box.mv (S2 (fun _ => False)) (fun h => h)
  have b2 := (b1.mv S3 (by rw [hk.bt]; decide)).s0 (.slice (some ⟨g5, 0, none⟩) (m + 1) cap5)
  let tag' : Nat → Nat := fun g => if u.ownBlock = some g then 10 + 2 * m else if g = g5 then 2 else tag g
  have ht : ∀ g, tag g ≠ 0 → tag' g = tag g := fun g h => by
    show (if u.ownBlock = some g then 10 + 2 * m else if g = g5 then 2 else tag g) = tag g
    rw [if_neg (fun e => h (hk.fresh g (hul g e).1))]
    by_cases e : g = g5
    · subst e
      rw [if_pos rfl]
      rcases hg5 with h2 | h2
      · exact h2.symm
      · exact absurd (hk.fresh g (by omega)) h
    · rw [if_neg e]
  have hbt' : tag' p = 1 := (ht p (by rw [hk.bt]; decide)).trans hk.bt
  have hv2t : tag' g5 = 2 := by
    show (if u.ownBlock = some g5 then 10 + 2 * m else if g5 = g5 then 2 else tag g5) = 2
    rw [if_neg (fun e => ?_), if_pos rfl]
    rcases hg5 with h2 | h2
    · rw [hk.fresh g5 (hul g5 e).1] at h2; cases h2
    · have := (hul g5 e).2; omega
  let rows' : Nat → List Int := fun j => if j = m then l else rows j
  have hr' : ∀ j, j < m → rows' j = rows j := fun j hj => if_neg (by omega)
  have hrm : rows' m = l := if_pos rfl
  have L2 : Fam w5 tag' 2 (fun j => 10 + 2 * j) ov m vs rows' :=
    (((hk.live.mv (S2 (fun _ => False)) (fun h => h) (fun _ _ h => h)).out S3 hold (fun j _ => by omega)).tags ht (by decide) (fun j => by omega)).congr hr'
  have L3 := L2.push hnew (fun g e => by cases e; exact hv2t) (by rw [hrm]; exact hu5) (fun g e => if_pos e)
  have U2 : Fam w5 tag' 3 (fun j => 11 + 2 * j) ow m us rows' :=
    (((hk.want.mv (S2 (fun _ => False)) (fun h => h) (fun _ _ h => h)).mv S3 (by decide) (fun j _ => by omega)).tags ht (by decide) (fun j => by omega)).congr hr'
  have S4 : Sm (· = 1) tag' w5 (w5.setCell ⟨p, 0, none⟩ (.slice (some ⟨g5, 0, none⟩) (m + 1) cap5)) := Sm.setCell _ hbt'
  have e00 : ∀ g, g < w.heap.size → tag' g = tag g := fun g hg => by
    show (if u.ownBlock = some g then 10 + 2 * m else if g = g5 then 2 else tag g) = tag g
    rw [if_neg (fun e => by have := (hul g e).1; omega)]
    by_cases e : g = g5
    · subst e
      rw [if_pos rfl]
      rcases hg5 with h2 | h2
      · exact h2.symm
      · omega
    · rw [if_neg e]
  refine ⟨tag', rows', hrm, ⟨b2, hbt', L3.mv S4 (by decide) (fun j _ => by omega), U2.mv S4 (by decide) (fun j _ => by omega), fun g hg => ?_, fun j hj => ?_⟩, ⟨?_, ?_, ?_, ?_, e00, fun g hg h1 h2 h3 => ?_⟩, fun g e => if_pos e, ?_⟩
  · rw [size_setN] at hg
    have h3 := S3.size
    show (if u.ownBlock = some g then 10 + 2 * m else if g = g5 then 2 else tag g) = 0
    rw [if_neg (fun e => by have := (hul g e).2; omega), if_neg (by omega)]
    exact hk.fresh g (by omega)
  · by_cases e : j = m
    · subst e; rw [hrm]; exact hl
    · rw [hr' j (by omega)]; exact hk.hrow j (by omega)
  · rw [S4.os, S3.os, (S2 (fun _ => False)).os]
  · rw [S4.tape, S3.tape, (S2 (fun _ => False)).tape]
  · rw [S4.output, S3.output, (S2 (fun _ => False)).output]
  · have h2 := S3.size; have h3 := S4.size; omega
  · rw [S4.block g (by have := S3.size; omega) (by rw [e00 g hg]; exact h1), S3.block g (by omega) h2, (S2 (fun _ => False)).block g hg (fun h => h)]
  · refine owns_same hu5 fun g hg e => S4.block g hg ?_
    show ¬ tag' g = 1
    have : tag' g = 10 + 2 * m := if_pos e
    omega
theorem stageW {w4 w5 : World} {u : Value} {g5 cap5 : Nat} {o5 : Obj} (hk : LN w p tag ov ow (m + 1) m vs us rows) (hB : Below w.heap.size w w4)
    (hu : w4.ownsRow w.heap.size 3 1 u (rows m).length (cellsI (rows m)))
    (hnew : w5.ownsRow 0 22 1 (.slice (some ⟨g5, 0, none⟩) (m + 1) cap5) (m + 1) (us ++ [u])) (hold : w5.ownsRow 0 22 1 ow m us)
    (hat : (ow = .slice (some ⟨g5, 0, none⟩) m cap5 ∧ (w4.alloc o5).grownBy w5 (some g5)) ∨ (g5 = (w4.alloc o5).heap.size ∧ (w4.alloc o5).grownBy w5 none)) :
    ∃ tag', LN (w5.setCell ⟨p, 1, none⟩ (.slice (some ⟨g5, 0, none⟩) (m + 1) cap5)) p tag' ov (.slice (some ⟨g5, 0, none⟩) (m + 1) cap5) (m + 1) (m + 1) vs (us ++ [u]) rows ∧ FrL tag w tag' (w5.setCell ⟨p, 1, none⟩ (.slice (some ⟨g5, 0, none⟩) (m + 1) cap5)) := by
  generalize hW : w4.alloc o5 = W at hat
  have hz : W.heap.size = w4.heap.size + 1 := by rw [← hW]; simp
  have hBs := hB.size
  have S2 : ∀ X, Sm X tag w W := fun X => by rw [← hW]; exact (Sm.below hB).trans (Sm.alloc o5) (fun _ _ => rfl)
  have hul : ∀ g, u.ownBlock = some g → w.heap.size ≤ g ∧ g < w4.heap.size := fun g e => hu.lt g e
  have hg5 : tag g5 = 3 ∨ w4.heap.size < g5 := by
    rcases hat with ⟨e, hg⟩ | ⟨e, hg⟩
    · exact .inl (hk.want.otag g5 (by rw [e]; rfl))
    · exact .inr (by omega)
  have hg5lt : g5 < w5.heap.size := owns_lt hnew rfl
  have huW : W.ownsRow 0 3 1 u (rows m).length (cellsI (rows m)) := by rw [← hW]; exact (owns_lowN hu (Nat.zero_le _)).alloc o5
  have S3 : Sm (· = 3) tag W w5 := by
    rcases hat with ⟨e, hg⟩ | ⟨_, hg⟩
    · exact Sm.grown hg fun g eg => by cases eg; exact hk.want.otag g5 (by rw [e]; rfl)
    · exact Sm.grown hg fun g eg => by cases eg
  have hu5 : w5.ownsRow 0 3 1 u (rows m).length (cellsI (rows m)) := owns_same huW fun g hg e => S3.block g hg (by show ¬ tag g = 3; rw [hk.fresh g (hul g e).1]; decide)
  have b1 : BoxN W p ov ow := hk.box.mv (S2 (fun _ => False)) (fun h => h)
  have b2 := (b1.mv S3 (by rw [hk.bt]; decide)).s1 (.slice (some ⟨g5, 0, none⟩) (m + 1) cap5)
  let tag' : Nat → Nat := fun g => if u.ownBlock = some g then 11 + 2 * m else if g = g5 then 3 else tag g
  have ht : ∀ g, tag g ≠ 0 → tag' g = tag g := fun g h => by
    show (if u.ownBlock = some g then 11 + 2 * m else if g = g5 then 3 else tag g) = tag g
    rw [if_neg (fun e => h (hk.fresh g (hul g e).1))]
    by_cases e : g = g5
    · subst e
      rw [if_pos rfl]
      rcases hg5 with h2 | h2
      · exact h2.symm
      · exact absurd (hk.fresh g (by omega)) h
    · rw [if_neg e]
  have hbt' : tag' p = 1 := (ht p (by rw [hk.bt]; decide)).trans hk.bt
  have hv2t : tag' g5 = 3 := by
    show (if u.ownBlock = some g5 then 11 + 2 * m else if g5 = g5 then 3 else tag g5) = 3
    rw [if_neg (fun e => ?_), if_pos rfl]
    rcases hg5 with h2 | h2
    · rw [hk.fresh g5 (hul g5 e).1] at h2; cases h2
    · have := (hul g5 e).2; omega
  have U2 : Fam w5 tag' 3 (fun j => 11 + 2 * j) ow m us rows :=
    ((hk.want.mv (S2 (fun _ => False)) (fun h => h) (fun _ _ h => h)).out S3 hold (fun j _ => by omega)).tags ht (by decide) (fun j => by omega)
  have U3 := U2.push hnew (fun g e => by cases e; exact hv2t) hu5 (fun g e => if_pos e)
  have L2 : Fam w5 tag' 2 (fun j => 10 + 2 * j) ov (m + 1) vs rows :=
    ((hk.live.mv (S2 (fun _ => False)) (fun h => h) (fun _ _ h => h)).mv S3 (by decide) (fun j _ => by omega)).tags ht (by decide) (fun j => by omega)
  have S4 : Sm (· = 1) tag' w5 (w5.setCell ⟨p, 1, none⟩ (.slice (some ⟨g5, 0, none⟩) (m + 1) cap5)) := Sm.setCell _ hbt'
  have e00 : ∀ g, g < w.heap.size → tag' g = tag g := fun g hg => by
    show (if u.ownBlock = some g then 11 + 2 * m else if g = g5 then 3 else tag g) = tag g
    rw [if_neg (fun e => by have := (hul g e).1; omega)]
    by_cases e : g = g5
    · subst e
      rw [if_pos rfl]
      rcases hg5 with h2 | h2
      · exact h2.symm
      · omega
    · rw [if_neg e]
  refine ⟨tag', ⟨b2, hbt', L2.mv S4 (by decide) (fun j _ => by omega), U3.mv S4 (by decide) (fun j _ => by omega), fun g hg => ?_, hk.hrow⟩, ⟨?_, ?_, ?_, ?_, e00, fun g hg h1 h2 h3 => ?_⟩⟩
  · rw [size_setN] at hg
    have h3 := S3.size
    show (if u.ownBlock = some g then 11 + 2 * m else if g = g5 then 3 else tag g) = 0
    rw [if_neg (fun e => by have := (hul g e).2; omega), if_neg (by omega)]
    exact hk.fresh g (by omega)
  · rw [S4.os, S3.os, (S2 (fun _ => False)).os]
  · rw [S4.tape, S3.tape, (S2 (fun _ => False)).tape]
  · rw [S4.output, S3.output, (S2 (fun _ => False)).output]
  · have h2 := S3.size; have h3 := S4.size; omega
  · rw [S4.block g (by have := S3.size; omega) (by rw [e00 g hg]; exact h1), S3.block g (by omega) h3, (S2 (fun _ => False)).block g hg (fun h => h)]
end
end Go.Proofs.Ytomjcimibpcpbaa.K
