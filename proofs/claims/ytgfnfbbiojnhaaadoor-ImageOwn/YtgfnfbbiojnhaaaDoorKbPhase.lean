/- Closing a book: what stands while its lists are marked and grown. -/
import Derived.Test.YtgfnfbbiojnhaaaDoorKbLook
namespace Go.Proofs.YtgfnfbbiojnhaaaDoor.KB
open Go.RowKit
def cL (j : Nat) : Nat := 10 + 2 * j
/-- List j, marked, and grown by q. -/
def grA (n : Nat → Nat) (q j : Nat) : List Int := List.replicate (n j) (mkA j) ++ List.replicate q (mkB j)
/-- Where two slices lie in one block they have one capacity. -/
def Rel (v u : Value) : Prop := ∀ g, v.ownBlock = some g → u.ownBlock = some g → ∃ n n1 cap, v = .slice (some ⟨g, 0, none⟩) n cap ∧ u = .slice (some ⟨g, 0, none⟩) n1 cap
structure PC (w : World) (tag : Nat → Nat) (wr : World) (tagr : Nat → Nat) (b : Nat) (ov ow o1 om : Value) (N : Int) (m : Nat) (vs : List Value) (n : Nat → Nat) (i1 : Nat) (vs1 : List Value) (i2 : Nat) (vs2 : List Value) : Prop where
  box : BoxB wr b ov ow o1 om N
  bt : tagr b = 1
  live : Fam wr tagr 2 cL ov m vs (fun j => List.replicate (n j) (mkA j))
  one : Fam wr tagr 4 cL o1 i1 vs1 (grA n 16)
  many : Fam wr tagr 5 cL om i2 vs2 (grA n 700)
  rel : ∀ (j : Nat) (v v1 : Value), vs[j]? = some v → vs1[j]? = some v1 → Rel v v1
  fresh : ∀ g, wr.heap.size ≤ g → tagr g = 0
  S : Sm (· ≠ 0) tag w wr
  T : ∀ g, g < w.heap.size → tagr g = tag g
section
variable {w wr : World} {tag tagr : Nat → Nat} {b : Nat} {ov ow o1 om : Value} {N : Int} {m : Nat} {vs : List Value} {n : Nat → Nat} {i1 : Nat} {vs1 : List Value} {i2 : Nat} {vs2 : List Value}
theorem PC.below (h : PC w tag wr tagr b ov ow o1 om N m vs n i1 vs1 i2 vs2) {w' : World} (hB : Below wr.heap.size wr w') : PC w tag w' tagr b ov ow o1 om N m vs n i1 vs1 i2 vs2 := by
  have s : Sm (fun _ => False) tagr wr w' := Sm.below hB
  have hsz := hB.size
  exact ⟨h.box.mv s (fun x => x), h.bt, h.live.mv s (fun x => x) (fun _ _ x => x), h.one.mv s (fun x => x) (fun _ _ x => x), h.many.mv s (fun x => x) (fun _ _ x => x), h.rel, fun g hg => h.fresh g (by omega), h.S.trans (s.mono (fun _ x => x.elim)) h.T, h.T⟩
theorem PC.alloc (h : PC w tag wr tagr b ov ow o1 om N m vs n i1 vs1 i2 vs2) (o : Obj) : PC w tag (wr.alloc o) tagr b ov ow o1 om N m vs n i1 vs1 i2 vs2 := h.below ((Below.refl _ _).alloc (Nat.le_refl _) o)
theorem PC.drew (h : PC w tag wr tagr b ov ow o1 om N m vs n i1 vs1 i2 vs2) : PC w tag wr.drew tagr b ov ow o1 om N m vs n i1 vs1 i2 vs2 := h.below (Below.refl _ _).drew
/-- A row that lies in the block of another one that grew where it lay. -/
theorem keep_row {w3 : World} {lv u : Value} {g nl nu K cap : Nat} {xsu ys : List Int} (hu : wr.ownsRow 0 5 1 u nu (cellsI xsu))
    (hnew : w3.ownsRow 0 5 1 (.slice (some ⟨g, 0, none⟩) K cap) K (cellsI ys))
    (hat : (lv = .slice (some ⟨g, 0, none⟩) nl cap ∧ wr.grownBy w3 (some g)) ∨ (g = wr.heap.size ∧ wr.grownBy w3 none))
    (hrel : Rel u lv) (hK : nu ≤ K) (hys : ys.take nu = xsu) : w3.ownsRow 0 5 1 u nu (cellsI xsu) := by
  rcases hat with ⟨e, hg⟩ | ⟨e, hg⟩
  · by_cases h : u.ownBlock = some g
    · obtain ⟨n1, n2, cap', e1, e2⟩ := hrel g h (by rw [e]; rfl)
      rw [e] at e2
      injection e2 with _ _ e3
      subst e3
      obtain ⟨oa, cu, e4⟩ := own_shape hu
      rw [e1] at e4
      injection e4 with _ e5 _
      subst e5
      rw [e1]
      have h2 := owns_short hnew hK
      have e6 : (cellsI ys).take (n1 * 1) = cellsI xsu := by rw [Nat.mul_one, ← hys]; simp [cellsI, List.map_take]
      rwa [e6] at h2
    · refine owns_same hu fun k hk ek => hg.block k hk fun e5 => ?_
      rw [← e5] at h; exact h ek
  · exact owns_same hu fun k hk ek => hg.block k hk (by simp)
theorem PC.grow (h : PC w tag wr tagr b ov ow o1 om N m vs n i1 vs1 i2 vs2) {w3 : World} {i : Nat} {v lv : Value} {g nl K cap : Nat} {ys : List Int} (hv : vs[i]? = some v)
    (hlt : ∀ k, lv.ownBlock = some k → tagr k = cL i) (hrel : Rel v lv)
    (hnew : w3.ownsRow 0 5 1 (.slice (some ⟨g, 0, none⟩) K cap) K (cellsI ys))
    (hat : (lv = .slice (some ⟨g, 0, none⟩) nl cap ∧ wr.grownBy w3 (some g)) ∨ (g = wr.heap.size ∧ wr.grownBy w3 none))
    (hK : n i ≤ K) (hys : ys.take (n i) = List.replicate (n i) (mkA i))
    (h1 : ∀ u, vs1[i]? = some u → Rel u lv ∧ n i + 16 ≤ K ∧ ys.take (n i + 16) = grA n 16 i) (h2 : i2 ≤ i) :
    ∃ tag3, PC w tag w3 tag3 b ov ow o1 om N m vs n i1 vs1 i2 vs2 ∧ tag3 g = cL i ∧ Rel v (.slice (some ⟨g, 0, none⟩) K cap) ∧ ∀ k, tagr k ≠ 0 → tag3 k = tagr k := by
  have hg : tagr g = cL i ∨ g = wr.heap.size := by
    rcases hat with ⟨e, _⟩ | ⟨e, _⟩
    · exact .inl (hlt g (by rw [e]; rfl))
    · exact .inr e
  have hglt : g < w3.heap.size := owns_lt hnew rfl
  let tag3 : Nat → Nat := fun k => if k = g then cL i else tagr k
  have t3 : tag3 g = cL i := if_pos rfl
  have ht : ∀ k, tagr k ≠ 0 → tag3 k = tagr k := fun k hk => by
    show (if k = g then cL i else tagr k) = tagr k
    by_cases e : k = g
    · subst e
      rw [if_pos rfl]
      rcases hg with e | e
      · exact e.symm
      · exact absurd (h.fresh k (by omega)) hk
    · rw [if_neg e]
  have s : Sm (· = cL i) tagr wr w3 := by
    rcases hat with ⟨e, hg⟩ | ⟨_, hg⟩
    · exact Sm.grown hg fun k ek => by cases ek; exact hlt g (by rw [e]; rfl)
    · exact Sm.grown hg fun k ek => by cases ek
  have hinj : ∀ j, j ≠ i → cL j ≠ cL i := fun j hj => by unfold cL; omega
  have hne : ∀ t, t < 10 → ¬ t = cL i := fun t h => by unfold cL; omega
  have hL : Fam w3 tagr 2 cL ov m vs (fun j => List.replicate (n j) (mkA j)) := h.live.mvRow (i := i) s (hne 2 (by decide)) (fun j _ hj => hinj j hj)
    (fun v' hv' => by
      rw [hv] at hv'; cases hv'
      have hin := h.live.inner i v hv
      have hq : (List.replicate (n i) (mkA i)).length = n i := List.length_replicate ..
      show w3.ownsRow 0 5 1 v (List.replicate (n i) (mkA i)).length (cellsI (List.replicate (n i) (mkA i)))
      refine keep_row hin hnew hat hrel (by omega) (by rw [hq]; exact hys)) (fun _ _ _ => rfl)
  have hO : Fam w3 tagr 4 cL o1 i1 vs1 (grA n 16) := h.one.mvRow (i := i) s (hne 4 (by decide)) (fun j _ hj => hinj j hj)
    (fun u hu => by
      obtain ⟨r1, r2, r3⟩ := h1 u hu
      have hq : (grA n 16 i).length = n i + 16 := by rw [grA, List.length_append, List.length_replicate, List.length_replicate]
      exact keep_row (h.one.inner i u hu) hnew hat r1 (by omega) (by rw [hq]; exact r3)) (fun _ _ _ => rfl)
  have hM : Fam w3 tagr 5 cL om i2 vs2 (grA n 700) := h.many.mv s (hne 5 (by decide)) (fun j hj => hinj j (by omega))
  have hc0 : ∀ j, cL j ≠ 0 := fun j => by unfold cL; omega
  refine ⟨tag3, ⟨h.box.mv s (by rw [h.bt]; exact hne 1 (by decide)), (ht b (by rw [h.bt]; decide)).trans h.bt, hL.tags ht (by decide) hc0, hO.tags ht (by decide) hc0, hM.tags ht (by decide) hc0, h.rel, fun k hk => ?_, h.S.trans (s.mono fun t et => by rw [et]; exact hc0 i) h.T, fun k hk => ?_⟩, t3, ?_, ht⟩
  · have := s.size
    show (if k = g then cL i else tagr k) = 0
    rw [if_neg (by omega)]
    exact h.fresh k (by omega)
  · show (if k = g then cL i else tagr k) = tag k
    by_cases e : k = g
    · subst e
      rw [if_pos rfl, ← h.T k hk]
      rcases hg with e | e
      · exact e.symm
      · have := h.S.size; omega
    · rw [if_neg e]; exact h.T k hk
  · rcases hat with ⟨e, _⟩ | ⟨e, _⟩
    · intro k e1 e2
      obtain ⟨n1, n2, cap', e3, e4⟩ := hrel k e1 (by rw [e]; exact e2)
      rw [e] at e4
      injection e4 with e5 _ e6
      injection e5 with e7
      injection e7 with e8
      subst e8
      subst e6
      exact ⟨n1, K, cap, e3, rfl⟩
    · intro k e1 e2
      have : k = g := by cases e2; rfl
      subst this
      have := owns_lt (h.live.inner i v hv) e1
      omega
theorem Rel.symm {v u : Value} (h : Rel v u) : Rel u v := fun g e1 e2 => by
  obtain ⟨n, n1, cap, e3, e4⟩ := h g e2 e1
  exact ⟨n1, n, cap, e4, e3⟩
theorem PC.push1 (h : PC w tag wr tagr b ov ow o1 om N m vs n i1 vs1 i2 vs2) {w3 : World} {v lv : Value} {g cap : Nat} (hv : vs[i1]? = some v) (hrel : Rel v lv)
    (hlt : ∀ k, lv.ownBlock = some k → tagr k = cL i1) (hrow : wr.ownsRow 0 5 1 lv (n i1 + 16) (cellsI (grA n 16 i1)))
    (hnew : w3.ownsRow 0 24 1 (.slice (some ⟨g, 0, none⟩) (i1 + 1) cap) (i1 + 1) (vs1 ++ [lv])) (hold : w3.ownsRow 0 24 1 o1 i1 vs1)
    (hat : (o1 = .slice (some ⟨g, 0, none⟩) i1 cap ∧ wr.grownBy w3 (some g)) ∨ (g = wr.heap.size ∧ wr.grownBy w3 none)) :
    ∃ tag3, PC w tag (w3.setCell ⟨b, 2, none⟩ (.slice (some ⟨g, 0, none⟩) (i1 + 1) cap)) tag3 b ov ow (.slice (some ⟨g, 0, none⟩) (i1 + 1) cap) om N m vs n (i1 + 1) (vs1 ++ [lv]) i2 vs2 := by
  have hg : tagr g = 4 ∨ g = wr.heap.size := by
    rcases hat with ⟨e, _⟩ | ⟨e, _⟩
    · exact .inl (h.one.otag g (by rw [e]; rfl))
    · exact .inr e
  have hglt : g < w3.heap.size := owns_lt hnew rfl
  have s : Sm (· = 4) tagr wr w3 := by
    rcases hat with ⟨e, hg⟩ | ⟨_, hg⟩
    · exact Sm.grown hg fun k ek => by cases ek; exact h.one.otag g (by rw [e]; rfl)
    · exact Sm.grown hg fun k ek => by cases ek
  let tag3 : Nat → Nat := fun k => if k = g then 4 else tagr k
  have t3 : tag3 g = 4 := if_pos rfl
  have ht : ∀ k, tagr k ≠ 0 → tag3 k = tagr k := fun k hk => by
    show (if k = g then 4 else tagr k) = tagr k
    by_cases e : k = g
    · subst e
      rw [if_pos rfl]
      rcases hg with e | e
      · exact e.symm
      · exact absurd (h.fresh k (by omega)) hk
    · rw [if_neg e]
  have hc0 : ∀ j, cL j ≠ 0 := fun j => by unfold cL; omega
  have hcs : ∀ j t, t < 10 → cL j ≠ t := fun j t ht => by unfold cL; omega
  have hbt : tag3 b = 1 := (ht b (by rw [h.bt]; decide)).trans h.bt
  have s6 : Sm (· = 1) tag3 w3 (w3.setCell ⟨b, 2, none⟩ (.slice (some ⟨g, 0, none⟩) (i1 + 1) cap)) := Sm.setCell _ hbt
  have hL := ((h.live.mv s (by decide) (fun j _ => hcs j 4 (by decide))).tags ht (by decide) hc0).mv s6 (by decide) (fun j _ => hcs j 1 (by decide))
  have hO := ((h.many.mv s (by decide) (fun j _ => hcs j 4 (by decide))).tags ht (by decide) hc0).mv s6 (by decide) (fun j _ => hcs j 1 (by decide))
  have hrow3 : w3.ownsRow 0 5 1 lv (grA n 16 i1).length (cellsI (grA n 16 i1)) := by
    have hq : (grA n 16 i1).length = n i1 + 16 := by rw [grA, List.length_append, List.length_replicate, List.length_replicate]
    rw [hq]
    exact owns_same hrow fun k hk ek => s.block k hk (by show ¬ tagr k = 4; rw [hlt k ek]; exact hcs _ 4 (by decide))
  have hP := ((((h.one.out s hold (fun j _ => hcs j 4 (by decide))).tags ht (by decide) hc0).push hnew (fun k ek => by cases ek; exact t3) hrow3 (fun k ek => (ht k (by rw [hlt k ek]; exact hc0 _)).trans (hlt k ek)))).mv s6 (by decide) (fun j _ => hcs j 1 (by decide))
  have hbx := (h.box.mv s (by rw [h.bt]; decide)).s2 (.slice (some ⟨g, 0, none⟩) (i1 + 1) cap)
  have hT : ∀ k, k < w.heap.size → tag3 k = tag k := fun k hk => by
    show (if k = g then 4 else tagr k) = tag k
    by_cases e : k = g
    · subst e
      rw [if_pos rfl, ← h.T k hk]
      rcases hg with e | e
      · exact e.symm
      · have := h.S.size; omega
    · rw [if_neg e]; exact h.T k hk
  refine ⟨tag3, ⟨hbx, hbt, hL, hP, hO, fun j v0 v1 hj hj1 => ?_, fun k hk => ?_, (h.S.trans (s.mono fun t et => by rw [et]; decide) h.T).trans (s6.mono fun t et => by rw [et]; decide) hT, hT⟩⟩
  · have hl := h.one.len
    by_cases e : j < vs1.length
    · rw [List.getElem?_append_left e] at hj1; exact h.rel j v0 v1 hj hj1
    · have hlt2 := (List.getElem?_eq_some_iff.1 hj1).1
      rw [List.length_append, List.length_singleton] at hlt2
      have : j = vs1.length := by omega
      subst this
      rw [List.getElem?_append_right (Nat.le_refl _), Nat.sub_self] at hj1
      rw [hl, hv] at hj
      cases hj
      cases hj1
      exact hrel
  · rw [size_set] at hk
    have := s.size
    show (if k = g then 4 else tagr k) = 0
    rw [if_neg (by omega)]
    exact h.fresh k (by omega)
theorem PC.push2 (h : PC w tag wr tagr b ov ow o1 om N m vs n i1 vs1 i2 vs2) {w3 : World} {lv : Value} {g cap : Nat} 
    (hlt : ∀ k, lv.ownBlock = some k → tagr k = cL i2) (hrow : wr.ownsRow 0 5 1 lv (n i2 + 700) (cellsI (grA n 700 i2)))
    (hnew : w3.ownsRow 0 24 1 (.slice (some ⟨g, 0, none⟩) (i2 + 1) cap) (i2 + 1) (vs2 ++ [lv])) (hold : w3.ownsRow 0 24 1 om i2 vs2)
    (hat : (om = .slice (some ⟨g, 0, none⟩) i2 cap ∧ wr.grownBy w3 (some g)) ∨ (g = wr.heap.size ∧ wr.grownBy w3 none)) :
    ∃ tag3, PC w tag (w3.setCell ⟨b, 3, none⟩ (.slice (some ⟨g, 0, none⟩) (i2 + 1) cap)) tag3 b ov ow o1 (.slice (some ⟨g, 0, none⟩) (i2 + 1) cap) N m vs n i1 vs1 (i2 + 1) (vs2 ++ [lv]) := by
  have hg : tagr g = 5 ∨ g = wr.heap.size := by
    rcases hat with ⟨e, _⟩ | ⟨e, _⟩
    · exact .inl (h.many.otag g (by rw [e]; rfl))
    · exact .inr e
  have hglt : g < w3.heap.size := owns_lt hnew rfl
  have s : Sm (· = 5) tagr wr w3 := by
    rcases hat with ⟨e, hg⟩ | ⟨_, hg⟩
    · exact Sm.grown hg fun k ek => by cases ek; exact h.many.otag g (by rw [e]; rfl)
    · exact Sm.grown hg fun k ek => by cases ek
  let tag3 : Nat → Nat := fun k => if k = g then 5 else tagr k
  have t3 : tag3 g = 5 := if_pos rfl
  have ht : ∀ k, tagr k ≠ 0 → tag3 k = tagr k := fun k hk => by
    show (if k = g then 5 else tagr k) = tagr k
    by_cases e : k = g
    · subst e
      rw [if_pos rfl]
      rcases hg with e | e
      · exact e.symm
      · exact absurd (h.fresh k (by omega)) hk
    · rw [if_neg e]
  have hc0 : ∀ j, cL j ≠ 0 := fun j => by unfold cL; omega
  have hcs : ∀ j t, t < 10 → cL j ≠ t := fun j t ht => by unfold cL; omega
  have hbt : tag3 b = 1 := (ht b (by rw [h.bt]; decide)).trans h.bt
  have s6 : Sm (· = 1) tag3 w3 (w3.setCell ⟨b, 3, none⟩ (.slice (some ⟨g, 0, none⟩) (i2 + 1) cap)) := Sm.setCell _ hbt
  have hL := ((h.live.mv s (by decide) (fun j _ => hcs j 5 (by decide))).tags ht (by decide) hc0).mv s6 (by decide) (fun j _ => hcs j 1 (by decide))
  have hO := ((h.one.mv s (by decide) (fun j _ => hcs j 5 (by decide))).tags ht (by decide) hc0).mv s6 (by decide) (fun j _ => hcs j 1 (by decide))
  have hrow3 : w3.ownsRow 0 5 1 lv (grA n 700 i2).length (cellsI (grA n 700 i2)) := by
    have hq : (grA n 700 i2).length = n i2 + 700 := by rw [grA, List.length_append, List.length_replicate, List.length_replicate]
    rw [hq]
    exact owns_same hrow fun k hk ek => s.block k hk (by show ¬ tagr k = 5; rw [hlt k ek]; exact hcs _ 5 (by decide))
  have hP := ((((h.many.out s hold (fun j _ => hcs j 5 (by decide))).tags ht (by decide) hc0).push hnew (fun k ek => by cases ek; exact t3) hrow3 (fun k ek => (ht k (by rw [hlt k ek]; exact hc0 _)).trans (hlt k ek)))).mv s6 (by decide) (fun j _ => hcs j 1 (by decide))
  have hbx := (h.box.mv s (by rw [h.bt]; decide)).s3 (.slice (some ⟨g, 0, none⟩) (i2 + 1) cap)
  have hT : ∀ k, k < w.heap.size → tag3 k = tag k := fun k hk => by
    show (if k = g then 5 else tagr k) = tag k
    by_cases e : k = g
    · subst e
      rw [if_pos rfl, ← h.T k hk]
      rcases hg with e | e
      · exact e.symm
      · have := h.S.size; omega
    · rw [if_neg e]; exact h.T k hk
  refine ⟨tag3, ⟨hbx, hbt, hL, hO, hP, h.rel, fun k hk => ?_, (h.S.trans (s.mono fun t et => by rw [et]; decide) h.T).trans (s6.mono fun t et => by rw [et]; decide) hT, hT⟩⟩
  · rw [size_set] at hk
    have := s.size
    show (if k = g then 5 else tagr k) = 0
    rw [if_neg (by omega)]
    exact h.fresh k (by omega)
theorem PC.boxO (h : PC w tag wr tagr b ov ow o1 om N m vs n i1 vs1 i2 vs2) {w3 : World} {g cap : Nat}
    (hat : (o1 = .slice (some ⟨g, 0, none⟩) i1 cap ∧ wr.grownBy w3 (some g)) ∨ (g = wr.heap.size ∧ wr.grownBy w3 none)) : BoxB w3 b ov ow o1 om N := by
  rcases hat with ⟨e, hg⟩ | ⟨_, hg⟩
  · exact h.box.mv (Sm.grown (X := (· = 4)) (tag := tagr) hg fun k ek => by cases ek; exact h.one.otag g (by rw [e]; rfl)) (by rw [h.bt]; decide)
  · exact h.box.mv (Sm.grown (X := (· = 4)) (tag := tagr) hg fun k ek => by cases ek) (by rw [h.bt]; decide)
theorem PC.boxM (h : PC w tag wr tagr b ov ow o1 om N m vs n i1 vs1 i2 vs2) {w3 : World} {g cap : Nat}
    (hat : (om = .slice (some ⟨g, 0, none⟩) i2 cap ∧ wr.grownBy w3 (some g)) ∨ (g = wr.heap.size ∧ wr.grownBy w3 none)) : BoxB w3 b ov ow o1 om N := by
  rcases hat with ⟨e, hg⟩ | ⟨_, hg⟩
  · exact h.box.mv (Sm.grown (X := (· = 5)) (tag := tagr) hg fun k ek => by cases ek; exact h.many.otag g (by rw [e]; rfl)) (by rw [h.bt]; decide)
  · exact h.box.mv (Sm.grown (X := (· = 5)) (tag := tagr) hg fun k ek => by cases ek) (by rw [h.bt]; decide)
theorem PC.lenO (h : PC w tag wr tagr b ov ow o1 om N m vs n i1 vs1 i2 vs2) (i : Nat) (hi : i1 ≤ i) : vs1[i]? = none := List.getElem?_eq_none (by rw [h.one.len]; exact hi)
end
end Go.Proofs.YtgfnfbbiojnhaaaDoor.KB
