/- The document's search: what its memory holds. -/
import Derived.Test.YtlffhpggfhpgnaaQFn
import Derived.Test.YtlffhpggfhpgnaaQKept
import Derived.Test.YtlffhpggfhpgnaaQLists
import Derived.Test.YtlffhpggfhpgnaaKRow
import Derived.Test.YtlffhpggfhpgnaaKApp
import Derived.Maps.AppendAt
namespace Go.Proofs.Ytlffhpggfhpgnaa.K
open Go.RowKit
section
variable {tag tag' : Nat → Nat} {w w' : World} {t : Nat} {c : Nat → Nat} {ov : Value} {m : Nat} {vs : List Value} {rows : Nat → List Int}
/-- The outer row's block may have been turned: it is shown anew. -/
theorem Fam.out (h : Fam w tag t c ov m vs rows) (hs : Sm (· = t) tag w w') (ho : w'.ownsRow 0 22 1 ov m vs) (hc : ∀ j, j < m → c j ≠ t) : Fam w' tag t c ov m vs rows := by
  refine ⟨ho, h.otag, fun j v hj => owns_same (h.inner j v hj) fun g hg e => hs.block g hg ?_, h.itag⟩
  rw [h.itag j v g hj e]
  exact hc j (by have := (List.getElem?_eq_some_iff.1 hj).1; rw [h.len] at this; exact this)
theorem Fam.tags (h : Fam w tag t c ov m vs rows) (ht : ∀ g, tag g ≠ 0 → tag' g = tag g) (h0 : t ≠ 0) (hc : ∀ j, c j ≠ 0) : Fam w tag' t c ov m vs rows :=
  ⟨h.outer, fun g e => (ht g (by rw [h.otag g e]; exact h0)).trans (h.otag g e), h.inner, fun j v g hj e => (ht g (by rw [h.itag j v g hj e]; exact hc j)).trans (h.itag j v g hj e)⟩
end
theorem own_shape {w : World} {b : Nat} {e : TypeId} {size : Nat} {v : Value} {n : Nat} {xs : List Value} (h : w.ownsRow b e size v n xs) : ∃ oa cap, v = .slice oa n cap := by
  rcases h.2 with ⟨rfl, rfl⟩ | ⟨g, cap, cur, rfl, _⟩
  · exact ⟨_, _, rfl⟩
  · exact ⟨_, _, rfl⟩
theorem famNil (w : World) (tag : Nat → Nat) (t : Nat) (c : Nat → Nat) (rows : Nat → List Int) : Fam w tag t c (.slice none 0 0) 0 [] rows :=
  ⟨World.ownsRow_nil w _ _ _, (fun _ e => by cases e), (fun _ _ h => by cases h), (fun _ _ _ h => by cases h)⟩
end Go.Proofs.Ytlffhpggfhpgnaa.K
namespace Go.Proofs.Ytlffhpggfhpgnaa
open Go.RowKit
theorem cell_blk {W : World} {g : Nat} {v : Value} {t : TypeId} (h : W.heap[g]? = some (.cells #[v] t (0, 0))) : W.cell? ⟨g, 0, none⟩ = some v := by simp [World.cell?, h]
def rowsOf (L : List (List Nat)) (j : Nat) : List Int := ints (L.getD j [])
theorem rowsOf_lt (L : List (List Nat)) (l : List Nat) {j : Nat} (h : j < L.length) : rowsOf (L ++ [l]) j = rowsOf L j := by
  unfold rowsOf; rw [List.getD_eq_getElem?_getD, List.getD_eq_getElem?_getD, List.getElem?_append_left h]
theorem rowsOf_new (L : List (List Nat)) (l : List Nat) : rowsOf (L ++ [l]) L.length = ints l := by unfold rowsOf; simp
theorem rowsOf_at {L : List (List Nat)} {l : List Nat} {j : Nat} (h : L[j]? = some l) : rowsOf L j = ints l := by
  unfold rowsOf; rw [List.getD_eq_getElem?_getD, h]; rfl
/-- A row of rows, read. -/
theorem RR.of_fam {W : World} {tag : Nat → Nat} {t : Nat} {c : Nat → Nat} {ov : Value} {vs : List Value} {L : List (List Nat)} (h : K.Fam W tag t c ov L.length vs (rowsOf L)) : RR W ov L := by
  obtain ⟨oa, cap, rfl⟩ := K.own_shape h.outer
  refine ⟨oa, cap, rfl, fun i l hi => ?_⟩
  have hlt := (List.getElem?_eq_some_iff.1 hi).1
  obtain ⟨v, hv⟩ : ∃ v, vs[i]? = some v := ⟨_, List.getElem?_eq_getElem (by rw [h.len]; exact hlt)⟩
  have h1 := h.inner i v hv
  rw [rowsOf_at hi] at h1
  obtain ⟨ou, cu, rfl⟩ := K.own_shape h1
  rcases h.outer.2 with ⟨e, h0⟩ | ⟨g, cap', cur, e, _, hb, hcap, _, _, hcur⟩
  · omega
  · cases e
    refine ⟨g, 0, ou, cu, rfl, ?_, ?_⟩
    · have e1 : cur[i]? = some (.slice ou (ints l).length cu) := by
        have : (cur.toList.take (L.length * 1))[i]? = vs[i]? := by rw [hcur]
        rw [List.getElem?_take_of_lt (by omega), hv] at this
        simpa using this
      rw [ints_len] at e1
      rw [Nat.zero_add]
      simp [World.cell?, hb, e1]
    · have h2 : W.ownsRow 0 3 1 (.slice ou (ints l).length cu) (ints l).length (cellsI (ints l)) := h1
      have h3 := RowI.of_owns h2
      rwa [ints_len] at h3
/-- What the document's search holds: its box, what it asked, what it found. -/
structure Tr (W0 W : World) (tb : Nat) (c0 c1 c2 c3 c4 : Value) (most : Nat) (tag : Nat → Nat) (av fv : Value) (vsA vsF : List Value) (s : SS) : Prop where
  box : W.heap[tb]? = some (.cells #[c0, c1, c2, c3, c4, .int .i64 (most : Int), av, fv] 28 (0, 0))
  asked : K.Fam W tag 2 (fun _ => 4) av s.1.length vsA (rowsOf s.1)
  found : K.Fam W tag 3 (fun _ => 4) fv s.2.length vsF (rowsOf s.2)
  btag : tag tb = 1
  low : ∀ g, g < tb → tag g = 0
  fresh : ∀ g, W.heap.size ≤ g → tag g = 0
  old : Below tb W0 W
section
variable {W0 W W' : World} {tb : Nat} {c0 c1 c2 c3 c4 : Value} {most : Nat} {tag tag' : Nat → Nat} {av fv : Value} {vsA vsF : List Value} {s : SS}
theorem Tr.lt (h : Tr W0 W tb c0 c1 c2 c3 c4 most tag av fv vsA vsF s) : tb < W.heap.size := (Array.getElem?_eq_some_iff.1 h.box).1
theorem Tr.cell (h : Tr W0 W tb c0 c1 c2 c3 c4 most tag av fv vsA vsF s) : W.cell? ⟨tb, 0, none⟩ = some c0 ∧ W.cell? ⟨tb, 1, none⟩ = some c1 ∧ W.cell? ⟨tb, 2, none⟩ = some c2 ∧ W.cell? ⟨tb, 3, none⟩ = some c3 ∧ W.cell? ⟨tb, 4, none⟩ = some c4 ∧ W.cell? ⟨tb, 5, none⟩ = some (.int .i64 (most : Int)) ∧ W.cell? ⟨tb, 6, none⟩ = some av ∧ W.cell? ⟨tb, 7, none⟩ = some fv := by
  have := h.box
  refine ⟨?_, ?_, ?_, ?_, ?_, ?_, ?_, ?_⟩ <;> simp [World.cell?, this]
theorem Tr.below (h : Tr W0 W tb c0 c1 c2 c3 c4 most tag av fv vsA vsF s) (hb : Below W.heap.size W W') : Tr W0 W' tb c0 c1 c2 c3 c4 most tag av fv vsA vsF s := by
  have hlt := h.lt
  exact ⟨(hb.block _ hlt).trans h.box, h.asked.mv (K.Sm.below (X := fun _ => False) hb) (fun h => h) (fun _ _ h => h), h.found.mv (K.Sm.below (X := fun _ => False) hb) (fun h => h) (fun _ _ h => h), h.btag, h.low, fun g hg => h.fresh g (Nat.le_trans hb.size hg), h.old.trans (hb.mono (by omega))⟩
/-- A row of new memory is marked. -/
theorem Tr.lay {v : Value} {l : List Int} (h : Tr W0 W tb c0 c1 c2 c3 c4 most tag av fv vsA vsF s) (hb : Below W.heap.size W W') (hv : W'.ownsRow W.heap.size 3 1 v l.length (cellsI l)) :
    ∃ tag', Tr W0 W' tb c0 c1 c2 c3 c4 most tag' av fv vsA vsF s ∧ (∀ g, tag g ≠ 0 → tag' g = tag g) ∧ (∀ g, v.ownBlock = some g → tag' g = 4) := by
  have h1 := h.below hb
  have hul : ∀ g, v.ownBlock = some g → W.heap.size ≤ g ∧ g < W'.heap.size := fun g e => hv.lt g e
  have hlt := h.lt
  refine ⟨fun g => if v.ownBlock = some g then 4 else tag g, ?_, ?_, fun g e => if_pos e⟩
  · have ht : ∀ g, tag g ≠ 0 → (fun g => if v.ownBlock = some g then 4 else tag g) g = tag g := fun g hne => by
      show (if v.ownBlock = some g then 4 else tag g) = tag g
      rw [if_neg (fun e => hne (h.fresh g (hul g e).1))]
    refine ⟨h1.box, h1.asked.tags ht (by decide) (fun _ => by decide), h1.found.tags ht (by decide) (fun _ => by decide), ?_, fun g hg => ?_, fun g hg => ?_, h1.old⟩
    · exact (ht tb (by rw [h.btag]; decide)).trans h.btag
    · show (if v.ownBlock = some g then 4 else tag g) = 0
      rw [if_neg (fun e => by have := (hul g e).1; omega)]; exact h.low g hg
    · show (if v.ownBlock = some g then 4 else tag g) = 0
      rw [if_neg (fun e => by have := (hul g e).2; omega)]; exact h1.fresh g hg
  · intro g hne
    show (if v.ownBlock = some g then 4 else tag g) = tag g
    rw [if_neg (fun e => hne (h.fresh g (hul g e).1))]
/-- A row more is asked. -/
theorem Tr.ask {Wx w5 : World} {u : Value} {l : List Nat} {g5 cap5 : Nat} (h : Tr W0 W tb c0 c1 c2 c3 c4 most tag av fv vsA vsF s) (hB : Below W.heap.size W Wx)
    (hu : Wx.ownsRow 0 3 1 u l.length (cellsI (ints l))) (hut : ∀ g, u.ownBlock = some g → tag g = 4)
    (hnew : w5.ownsRow 0 22 1 (.slice (some ⟨g5, 0, none⟩) (s.1.length + 1) cap5) (s.1.length + 1) (vsA ++ [u])) (hold : w5.ownsRow 0 22 1 av s.1.length vsA)
    (hat : (av = .slice (some ⟨g5, 0, none⟩) s.1.length cap5 ∧ Wx.grownBy w5 (some g5)) ∨ (g5 = Wx.heap.size ∧ Wx.grownBy w5 none)) :
    w5.heap[tb]? = W.heap[tb]? ∧ ∃ tag', Tr W0 (w5.setCell ⟨tb, 6, none⟩ (.slice (some ⟨g5, 0, none⟩) (s.1.length + 1) cap5)) tb c0 c1 c2 c3 c4 most tag' (.slice (some ⟨g5, 0, none⟩) (s.1.length + 1) cap5) fv (vsA ++ [u]) vsF (s.1 ++ [l], s.2) ∧ (∀ g, tag g ≠ 0 → tag' g = tag g) ∧ (∀ g, g < W.heap.size → tag g = 4 → (w5.setCell ⟨tb, 6, none⟩ (.slice (some ⟨g5, 0, none⟩) (s.1.length + 1) cap5)).heap[g]? = W.heap[g]?) := by
  have hlt := h.lt
  have hx := h.below hB
  have hBs := hB.size
  have S3 : K.Sm (· = 2) tag Wx w5 := by
    rcases hat with ⟨e, hg⟩ | ⟨_, hg⟩
    · exact K.Sm.grown hg fun g eg => by cases eg; exact h.asked.otag g5 (by rw [e]; rfl)
    · exact K.Sm.grown hg fun g eg => by cases eg
  have h3s := S3.size
  have hg5 : tag g5 = 2 ∨ Wx.heap.size ≤ g5 := by
    rcases hat with ⟨e, hg⟩ | ⟨e, hg⟩
    · exact .inl (h.asked.otag g5 (by rw [e]; rfl))
    · exact .inr (by omega)
  have hg5lt : g5 < w5.heap.size := K.owns_lt hnew rfl
  let tag' : Nat → Nat := fun g => if g = g5 then 2 else tag g
  have ht : ∀ g, tag g ≠ 0 → tag' g = tag g := fun g hne => by
    show (if g = g5 then 2 else tag g) = tag g
    by_cases e : g = g5
    · subst e
      rw [if_pos rfl]
      rcases hg5 with h2 | h2
      · exact h2.symm
      · exact absurd (h.fresh g (by omega)) hne
    · rw [if_neg e]
  have hbt' : tag' tb = 1 := (ht tb (by rw [h.btag]; decide)).trans h.btag
  have A1 : K.Fam w5 tag' 2 (fun _ => 4) av s.1.length vsA (rowsOf (s.1 ++ [l])) := ((hx.asked.out S3 hold (fun _ _ => by decide)).tags ht (by decide) (fun _ => by decide)).congr fun j hj => rowsOf_lt s.1 l hj
  have hu5 : w5.ownsRow 0 3 1 u (rowsOf (s.1 ++ [l]) s.1.length).length (K.cellsI (rowsOf (s.1 ++ [l]) s.1.length)) := by
    rw [rowsOf_new, ints_len]
    exact K.owns_same hu fun g hg e => S3.block g hg (by show ¬ tag g = 2; rw [hut g e]; decide)
  have A2 := A1.push hnew (fun g e => by cases e; exact if_pos rfl) hu5 (fun g e => (ht g (by rw [hut g e]; decide)).trans (hut g e))
  have F1 : K.Fam w5 tag' 3 (fun _ => 4) fv s.2.length vsF (rowsOf s.2) := (hx.found.mv S3 (by decide) (fun _ _ => by decide)).tags ht (by decide) (fun _ => by decide)
  have S5 : K.Sm (· = 1) tag' w5 (w5.setCell ⟨tb, 6, none⟩ (.slice (some ⟨g5, 0, none⟩) (s.1.length + 1) cap5)) := K.Sm.setCell _ hbt'
  have hb5 : w5.heap[tb]? = W.heap[tb]? := (S3.block tb (by omega) (by show ¬ tag tb = 2; rw [h.btag]; decide)).trans (hB.block tb hlt)
  refine ⟨hb5, tag', ⟨?_, ?_, F1.mv S5 (by decide) (fun _ _ => by decide), hbt', fun g hg => ?_, fun g hg => ?_, h.old.trans ⟨?_, ?_, ?_, ?_, fun g hg => ?_⟩⟩, ht, fun g hg h4 => ?_⟩
  · have := heap_setCell_same w5 tb 6 _ _ (.slice (some ⟨g5, 0, none⟩) (s.1.length + 1) cap5) (hb5.trans h.box); simpa using this
  · have := A2.mv S5 (by decide) (fun _ _ => by decide)
    simpa using this
  · show (if g = g5 then 2 else tag g) = 0
    rw [if_neg (fun e => ?_)]
    · exact h.low g hg
    · subst e
      rcases hg5 with h2 | h2
      · rw [h.low g hg] at h2; cases h2
      · omega
  · rw [show (w5.setCell ⟨tb, 6, none⟩ (.slice (some ⟨g5, 0, none⟩) (s.1.length + 1) cap5)).heap.size = w5.heap.size by simp [World.setCell]] at hg
    show (if g = g5 then 2 else tag g) = 0
    rw [if_neg (by omega)]
    exact h.fresh g (by omega)
  · rw [S5.os, S3.os, hB.os]
  · rw [S5.tape, S3.tape, hB.tape]
  · rw [S5.output, S3.output, hB.output]
  · have h2 := S5.size; omega
  · have h0 := h.low g hg
    have hg' : tag' g = 0 := by
      show (if g = g5 then 2 else tag g) = 0
      rw [if_neg (fun e => ?_)]
      · exact h0
      · subst e
        rcases hg5 with h2 | h2
        · rw [h0] at h2; cases h2
        · omega
    exact (S5.block g (by omega) (by show ¬ tag' g = 1; rw [hg']; decide)).trans ((S3.block g (by omega) (by show ¬ tag g = 2; rw [h0]; decide)).trans (hB.block g (by omega)))
  · have hg' : tag' g = 4 := (ht g (by rw [h4]; decide)).trans h4
    exact (S5.block g (by omega) (by show ¬ tag' g = 1; rw [hg']; decide)).trans ((S3.block g (by omega) (by show ¬ tag g = 2; rw [h4]; decide)).trans (hB.block g (by omega)))
/-- A row more is found. -/
theorem Tr.find {Wx w5 : World} {u : Value} {l : List Nat} {g5 cap5 : Nat} (h : Tr W0 W tb c0 c1 c2 c3 c4 most tag av fv vsA vsF s) (hB : Below W.heap.size W Wx)
    (hu : Wx.ownsRow 0 3 1 u l.length (cellsI (ints l))) (hut : ∀ g, u.ownBlock = some g → tag g = 4)
    (hnew : w5.ownsRow 0 22 1 (.slice (some ⟨g5, 0, none⟩) (s.2.length + 1) cap5) (s.2.length + 1) (vsF ++ [u])) (hold : w5.ownsRow 0 22 1 fv s.2.length vsF)
    (hat : (fv = .slice (some ⟨g5, 0, none⟩) s.2.length cap5 ∧ Wx.grownBy w5 (some g5)) ∨ (g5 = Wx.heap.size ∧ Wx.grownBy w5 none)) :
    w5.heap[tb]? = W.heap[tb]? ∧ ∃ tag', Tr W0 (w5.setCell ⟨tb, 7, none⟩ (.slice (some ⟨g5, 0, none⟩) (s.2.length + 1) cap5)) tb c0 c1 c2 c3 c4 most tag' av (.slice (some ⟨g5, 0, none⟩) (s.2.length + 1) cap5) vsA (vsF ++ [u]) (s.1, s.2 ++ [l]) ∧ (∀ g, tag g ≠ 0 → tag' g = tag g) ∧ (∀ g, g < W.heap.size → tag g = 4 → (w5.setCell ⟨tb, 7, none⟩ (.slice (some ⟨g5, 0, none⟩) (s.2.length + 1) cap5)).heap[g]? = W.heap[g]?) := by
  have hlt := h.lt
  have hx := h.below hB
  have hBs := hB.size
  have S3 : K.Sm (· = 3) tag Wx w5 := by
    rcases hat with ⟨e, hg⟩ | ⟨_, hg⟩
    · exact K.Sm.grown hg fun g eg => by cases eg; exact h.found.otag g5 (by rw [e]; rfl)
    · exact K.Sm.grown hg fun g eg => by cases eg
  have h3s := S3.size
  have hg5 : tag g5 = 3 ∨ Wx.heap.size ≤ g5 := by
    rcases hat with ⟨e, hg⟩ | ⟨e, hg⟩
    · exact .inl (h.found.otag g5 (by rw [e]; rfl))
    · exact .inr (by omega)
  have hg5lt : g5 < w5.heap.size := K.owns_lt hnew rfl
  let tag' : Nat → Nat := fun g => if g = g5 then 3 else tag g
  have ht : ∀ g, tag g ≠ 0 → tag' g = tag g := fun g hne => by
    show (if g = g5 then 3 else tag g) = tag g
    by_cases e : g = g5
    · subst e
      rw [if_pos rfl]
      rcases hg5 with h2 | h2
      · exact h2.symm
      · exact absurd (h.fresh g (by omega)) hne
    · rw [if_neg e]
  have hbt' : tag' tb = 1 := (ht tb (by rw [h.btag]; decide)).trans h.btag
  have A1 : K.Fam w5 tag' 3 (fun _ => 4) fv s.2.length vsF (rowsOf (s.2 ++ [l])) := ((hx.found.out S3 hold (fun _ _ => by decide)).tags ht (by decide) (fun _ => by decide)).congr fun j hj => rowsOf_lt s.2 l hj
  have hu5 : w5.ownsRow 0 3 1 u (rowsOf (s.2 ++ [l]) s.2.length).length (K.cellsI (rowsOf (s.2 ++ [l]) s.2.length)) := by
    rw [rowsOf_new, ints_len]
    exact K.owns_same hu fun g hg e => S3.block g hg (by show ¬ tag g = 3; rw [hut g e]; decide)
  have A2 := A1.push hnew (fun g e => by cases e; exact if_pos rfl) hu5 (fun g e => (ht g (by rw [hut g e]; decide)).trans (hut g e))
  have F1 : K.Fam w5 tag' 2 (fun _ => 4) av s.1.length vsA (rowsOf s.1) := (hx.asked.mv S3 (by decide) (fun _ _ => by decide)).tags ht (by decide) (fun _ => by decide)
  have S5 : K.Sm (· = 1) tag' w5 (w5.setCell ⟨tb, 7, none⟩ (.slice (some ⟨g5, 0, none⟩) (s.2.length + 1) cap5)) := K.Sm.setCell _ hbt'
  have hb5 : w5.heap[tb]? = W.heap[tb]? := (S3.block tb (by omega) (by show ¬ tag tb = 3; rw [h.btag]; decide)).trans (hB.block tb hlt)
  refine ⟨hb5, tag', ⟨?_, F1.mv S5 (by decide) (fun _ _ => by decide), ?_, hbt', fun g hg => ?_, fun g hg => ?_, h.old.trans ⟨?_, ?_, ?_, ?_, fun g hg => ?_⟩⟩, ht, fun g hg h4 => ?_⟩
  · have := heap_setCell_same w5 tb 7 _ _ (.slice (some ⟨g5, 0, none⟩) (s.2.length + 1) cap5) (hb5.trans h.box); simpa using this
  · have := A2.mv S5 (by decide) (fun _ _ => by decide)
    simpa using this
  · show (if g = g5 then 3 else tag g) = 0
    rw [if_neg (fun e => ?_)]
    · exact h.low g hg
    · subst e
      rcases hg5 with h2 | h2
      · rw [h.low g hg] at h2; cases h2
      · omega
  · rw [show (w5.setCell ⟨tb, 7, none⟩ (.slice (some ⟨g5, 0, none⟩) (s.2.length + 1) cap5)).heap.size = w5.heap.size by simp [World.setCell]] at hg
    show (if g = g5 then 3 else tag g) = 0
    rw [if_neg (by omega)]
    exact h.fresh g (by omega)
  · rw [S5.os, S3.os, hB.os]
  · rw [S5.tape, S3.tape, hB.tape]
  · rw [S5.output, S3.output, hB.output]
  · have h2 := S5.size; omega
  · have h0 := h.low g hg
    have hg' : tag' g = 0 := by
      show (if g = g5 then 3 else tag g) = 0
      rw [if_neg (fun e => ?_)]
      · exact h0
      · subst e
        rcases hg5 with h2 | h2
        · rw [h0] at h2; cases h2
        · omega
    exact (S5.block g (by omega) (by show ¬ tag' g = 1; rw [hg']; decide)).trans ((S3.block g (by omega) (by show ¬ tag g = 3; rw [h0]; decide)).trans (hB.block g (by omega)))
  · have hg' : tag' g = 4 := (ht g (by rw [h4]; decide)).trans h4
    exact (S5.block g (by omega) (by show ¬ tag' g = 1; rw [hg']; decide)).trans ((S3.block g (by omega) (by show ¬ tag g = 3; rw [h4]; decide)).trans (hB.block g (by omega)))
end
end Go.Proofs.Ytlffhpggfhpgnaa
