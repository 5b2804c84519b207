/- The book, half-way through taking a list in. -/
import Derived.Test.YtgfnfbbiojnhaaaDoorKbBook
namespace Go.Proofs.YtgfnfbbiojnhaaaDoor.KB
open Go.RowKit
/-- The list is in, its copy not yet. -/
structure HB (w : World) (b : Nat) (tag : Nat → Nat) (ov ow : Value) (m : Nat) (vs us : List Value) (rows : Nat → List Int) (N : Nat) : Prop where
  box : BoxB w b ov ow (.slice none 0 0) (.slice none 0 0) N
  bt : tag b = 1
  live : Fam w tag 2 (fun j => 10 + 2 * j) ov (m + 1) vs rows
  want : Fam w tag 3 (fun j => 11 + 2 * j) ow m us rows
  fresh : ∀ g, w.heap.size ≤ g → tag g = 0
  hN : m + 1 ≤ N ∧ N ≤ 1300000
  hrow : ∀ j, j < m + 1 → (rows j).length ≤ 1000000
theorem Fr.trans {tag tag' tag2 : Nat → Nat} {v : Value} {w w' w2 : World} (h : Fr tag v w tag' w') (k : Fr tag' (.slice none 0 0) w' tag2 w2) : Fr tag v w tag2 w2 :=
  ⟨k.os.trans h.os, k.tape.trans h.tape, k.output.trans h.output, Nat.le_trans h.size k.size,
   fun g hg ht hv => k.tg g (Nat.lt_of_lt_of_le hg h.size) (h.tg g hg ht hv) (by simp [Value.ownBlock]),
   fun g hg ht hv => (k.block g (Nat.lt_of_lt_of_le hg h.size) (h.tg g hg ht hv) (by simp [Value.ownBlock])).trans (h.block g hg ht hv)⟩
theorem owns_low {w : World} {b b' : Nat} {e : TypeId} {size : Nat} {v : Value} {n : Nat} {xs : List Value} (h : w.ownsRow b e size v n xs) (hb : b' ≤ b) : w.ownsRow b' e size v n xs := by
  refine ⟨h.1, ?_⟩
  rcases h.2 with hn | ⟨g, cap, cur, rfl, h1, rest⟩
  · exact .inl hn
  · exact .inr ⟨g, cap, cur, rfl, Nat.le_trans hb h1, rest⟩
theorem size_set (w : World) (p : Addr) (u : Value) : (w.setCell p u).heap.size = w.heap.size := by simp [World.setCell]
section
variable {w : World} {b : Nat} {tag : Nat → Nat} {ov ow : Value} {m : Nat} {vs us : List Value} {rows : Nat → List Int} {N : Nat} {v : Value} {l : List Int} {o2 : Obj} {g2 cap2 : Nat} {w2 : World}
theorem stageA (hk : Bk w b tag ov ow m vs us rows N) (hf : N ≤ 200000) (hv : w.ownsRow 0 5 1 v l.length (cellsI l)) (hl : l.length ≤ 1000000) (hvt : ∀ g, v.ownBlock = some g → tag g = 0)
    (hnew : w2.ownsRow 0 24 1 (.slice (some ⟨g2, 0, none⟩) (m + 1) cap2) (m + 1) (vs ++ [v])) (hold : w2.ownsRow 0 24 1 ov m vs)
    (hat : (ov = .slice (some ⟨g2, 0, none⟩) m cap2 ∧ ((w.setCell ⟨b, 12, none⟩ (.int .i64 ((N : Int) + l.length + 1))).alloc o2).grownBy w2 (some g2)) ∨ (g2 = ((w.setCell ⟨b, 12, none⟩ (.int .i64 ((N : Int) + l.length + 1))).alloc o2).heap.size ∧ ((w.setCell ⟨b, 12, none⟩ (.int .i64 ((N : Int) + l.length + 1))).alloc o2).grownBy w2 none)) :
    ∃ tag' rows', rows' m = l ∧ HB (w2.setCell ⟨b, 0, none⟩ (.slice (some ⟨g2, 0, none⟩) (m + 1) cap2)) b tag' (.slice (some ⟨g2, 0, none⟩) (m + 1) cap2) ow m (vs ++ [v]) us rows' (N + l.length + 1) ∧
      Fr tag v w tag' (w2.setCell ⟨b, 0, none⟩ (.slice (some ⟨g2, 0, none⟩) (m + 1) cap2)) ∧ (w2.setCell ⟨b, 0, none⟩ (.slice (some ⟨g2, 0, none⟩) (m + 1) cap2)).ownsRow 0 5 1 v l.length (cellsI l) := by
  generalize hW : (w.setCell ⟨b, 12, none⟩ (.int .i64 ((N : Int) + l.length + 1))).alloc o2 = W at hat
  have hz : W.heap.size = w.heap.size + 1 := by rw [← hW]; simp [World.setCell]
  have S1 : Sm (· = 1) tag w (w.setCell ⟨b, 12, none⟩ (.int .i64 ((N : Int) + l.length + 1))) := Sm.setCell _ hk.bt
  have S2 : Sm (· = 1) tag w W := by rw [← hW]; exact S1.trans (Sm.alloc o2) (fun _ _ => rfl)
  have S3 : Sm (· = 2) tag W w2 := by
    rcases hat with ⟨e, hg⟩ | ⟨_, hg⟩
    · exact Sm.grown hg fun g eg => by cases eg; exact hk.live.otag g2 (by rw [e]; rfl)
    · exact Sm.grown hg fun g eg => by cases eg
  have hg2 : tag g2 = 2 ∨ w.heap.size ≤ g2 := by
    rcases hat with ⟨e, hg⟩ | ⟨e, hg⟩
    · exact .inl (hk.live.otag g2 (by rw [e]; rfl))
    · exact .inr (by omega)
  have hg2lt : g2 < w2.heap.size := owns_lt hnew rfl
  have b1 : BoxB W b ov ow (.slice none 0 0) (.slice none 0 0) ((N : Int) + l.length + 1) := by
    rw [← hW]; exact (hk.box.s12 _).mv (Sm.alloc (X := fun _ => False) (tag := tag) o2) (fun h => h)
  have b2 := (b1.mv S3 (by rw [hk.bt]; decide)).s0 (.slice (some ⟨g2, 0, none⟩) (m + 1) cap2)
  have hvt0 : v.ownBlock ≠ some b := fun e => by have := hvt b e; rw [hk.bt] at this; cases this
  have hvw : ∀ g, v.ownBlock = some g → g < w.heap.size := fun g e => owns_lt hv e
  have hv2 : w2.ownsRow 0 5 1 v l.length (cellsI l) := by
    have h1 : W.ownsRow 0 5 1 v l.length (cellsI l) := owns_same hv fun g hg e => S2.block g hg (by show ¬ tag g = 1; rw [hvt g e]; decide)
    exact owns_same h1 fun g hg e => S3.block g hg (by show ¬ tag g = 2; rw [hvt g e]; decide)
  let tag' : Nat → Nat := fun g => if v.ownBlock = some g then 10 + 2 * m else if g = g2 then 2 else tag g
  have ht : ∀ g, tag g ≠ 0 → tag' g = tag g := fun g h => by
    show (if v.ownBlock = some g then 10 + 2 * m else if g = g2 then 2 else tag g) = tag g
    rw [if_neg (fun e => h (hvt g e))]
    by_cases e : g = g2
    · subst e
      rw [if_pos rfl]
      rcases hg2 with h2 | h2
      · exact h2.symm
      · exact absurd (hk.fresh g h2) h
    · rw [if_neg e]
  have hbt' : tag' b = 1 := (ht b (by rw [hk.bt]; decide)).trans hk.bt
  have hv2t : tag' g2 = 2 := by
    show (if v.ownBlock = some g2 then 10 + 2 * m else if g2 = g2 then 2 else tag g2) = 2
    rw [if_neg (fun e => ?_), if_pos rfl]
    rcases hg2 with h2 | h2
    · rw [hvt g2 e] at h2; cases h2
    · have := hvw g2 e; omega
  let rows' : Nat → List Int := fun j => if j = m then l else rows j
  have hr' : ∀ j, j < m → rows' j = rows j := fun j hj => if_neg (by omega)
  have hrm : rows' m = l := if_pos rfl
  have L2 : Fam w2 tag' 2 (fun j => 10 + 2 * j) ov m vs rows' :=
    (((hk.live.mv S2 (by decide) (fun j _ => by omega)).out S3 hold (fun j _ => by omega)).tags ht (by decide) (fun j => by omega)).congr hr'
  have L3 := L2.push hnew (fun g e => by cases e; exact hv2t) (by rw [hrm]; exact hv2) (fun g e => if_pos e)
  have S4 : Sm (· = 1) tag' w2 (w2.setCell ⟨b, 0, none⟩ (.slice (some ⟨g2, 0, none⟩) (m + 1) cap2)) := Sm.setCell _ hbt'
  have U2 : Fam w2 tag' 3 (fun j => 11 + 2 * j) ow m us rows' :=
    (((hk.want.mv S2 (by decide) (fun j _ => by omega)).mv S3 (by decide) (fun j _ => by omega)).tags ht (by decide) (fun j => by omega)).congr hr'
  refine ⟨tag', rows', hrm, ⟨?_, hbt', L3.mv S4 (by decide) (fun j _ => by omega), U2.mv S4 (by decide) (fun j _ => by omega), fun g hg => ?_, ?_, fun j hj => ?_⟩, ⟨?_, ?_, ?_, ?_, fun g hg h0 hne => ?_, fun g hg h0 hne => ?_⟩, ?_⟩
  · have := b2; simpa using this
  · rw [size_set] at hg
    have h3 := S3.size
    show (if v.ownBlock = some g then 10 + 2 * m else if g = g2 then 2 else tag g) = 0
    rw [if_neg (fun e => by have := hvw g e; omega), if_neg (by omega)]
    exact hk.fresh g (by omega)
  · have := hk.hN; omega
  · by_cases e : j = m
    · subst e; rw [hrm]; exact hl
    · rw [hr' j (by omega)]; exact hk.hrow j (by omega)
  · rw [S4.os, S3.os, S2.os]
  · rw [S4.tape, S3.tape, S2.tape]
  · rw [S4.output, S3.output, S2.output]
  · have h1 := S2.size; have h2 := S3.size; have h3 := S4.size; omega
  · show (if v.ownBlock = some g then 10 + 2 * m else if g = g2 then 2 else tag g) = 0
    rw [if_neg hne, if_neg (fun e => ?_)]
    · exact h0
    · subst e
      rcases hg2 with h2 | h2
      · rw [h0] at h2; cases h2
      · omega
  · have e0 : tag' g = 0 := by
      show (if v.ownBlock = some g then 10 + 2 * m else if g = g2 then 2 else tag g) = 0
      rw [if_neg hne, if_neg (fun e => ?_)]
      · exact h0
      · subst e
        rcases hg2 with h2 | h2
        · rw [h0] at h2; cases h2
        · omega
    have hgW : g < W.heap.size := by omega
    rw [S4.block g (by have := S3.size; omega) (by rw [e0]; decide), S3.block g hgW (by rw [h0]; decide), S2.block g hg (by rw [h0]; decide)]
  · refine owns_same hv2 fun g hg e => S4.block g hg ?_
    show ¬ tag' g = 1
    have : tag' g = 10 + 2 * m := if_pos e
    omega
theorem boxA (hk : Bk w b tag ov ow m vs us rows N)
    (hat : (ov = .slice (some ⟨g2, 0, none⟩) m cap2 ∧ ((w.setCell ⟨b, 12, none⟩ (.int .i64 ((N : Int) + l.length + 1))).alloc o2).grownBy w2 (some g2)) ∨ (g2 = ((w.setCell ⟨b, 12, none⟩ (.int .i64 ((N : Int) + l.length + 1))).alloc o2).heap.size ∧ ((w.setCell ⟨b, 12, none⟩ (.int .i64 ((N : Int) + l.length + 1))).alloc o2).grownBy w2 none)) :
    BoxB w2 b ov ow (.slice none 0 0) (.slice none 0 0) ((N : Int) + l.length + 1) := by
  have b1 := (hk.box.s12 ((N : Int) + l.length + 1)).mv (Sm.alloc (X := fun _ => False) (tag := tag) o2) (fun h => h)
  rcases hat with ⟨e, hg⟩ | ⟨_, hg⟩
  · exact b1.mv (Sm.grown (X := (· = 2)) (tag := tag) hg fun g eg => by cases eg; exact hk.live.otag g2 (by rw [e]; rfl)) (by rw [hk.bt]; decide)
  · exact b1.mv (Sm.grown (X := (· = 2)) (tag := tag) hg fun g eg => by cases eg) (by rw [hk.bt]; decide)
theorem boxW (hk : HB w b tag ov ow m vs us rows N) {w4 : World} (hB : Below w.heap.size w w4) : BoxB w4 b ov ow (.slice none 0 0) (.slice none 0 0) N :=
  hk.box.mv (Sm.below (X := fun _ => False) (tag := tag) hB) (fun h => h)
theorem boxE (hk : HB w b tag ov ow m vs us rows N) {w4 w5 : World} (hB : Below w.heap.size w w4) {g5 cap5 : Nat} {o5 : Obj}
    (hat : (ow = .slice (some ⟨g5, 0, none⟩) m cap5 ∧ (w4.alloc o5).grownBy w5 (some g5)) ∨ (g5 = (w4.alloc o5).heap.size ∧ (w4.alloc o5).grownBy w5 none)) : BoxB w5 b ov ow (.slice none 0 0) (.slice none 0 0) N := by
  have b1 := (boxW hk hB).mv (Sm.alloc (X := fun _ => False) (tag := tag) o5) (fun h => h)
  rcases hat with ⟨e, hg⟩ | ⟨_, hg⟩
  · exact b1.mv (Sm.grown (X := (· = 3)) (tag := tag) hg fun g eg => by cases eg; exact hk.want.otag g5 (by rw [e]; rfl)) (by rw [hk.bt]; decide)
  · exact b1.mv (Sm.grown (X := (· = 3)) (tag := tag) hg fun g eg => by cases eg) (by rw [hk.bt]; decide)
theorem outW (hk : HB w b tag ov ow m vs us rows N) {w4 : World} (hB : Below w.heap.size w w4) : w4.ownsRow 0 24 1 ow m us :=
  owns_same hk.want.outer fun g hg _ => hB.block g hg
theorem stageB {w4 w5 : World} {u : Value} {g5 cap5 : Nat} {o5 : Obj} (hk : HB w b tag ov ow m vs us rows N) (hB : Below w.heap.size w w4)
    (hu : w4.ownsRow w.heap.size 5 1 u (rows m).length (cellsI (rows m)))
    (hnew : w5.ownsRow 0 24 1 (.slice (some ⟨g5, 0, none⟩) (m + 1) cap5) (m + 1) (us ++ [u])) (hold : w5.ownsRow 0 24 1 ow m us)
    (hat : (ow = .slice (some ⟨g5, 0, none⟩) m cap5 ∧ (w4.alloc o5).grownBy w5 (some g5)) ∨ (g5 = (w4.alloc o5).heap.size ∧ (w4.alloc o5).grownBy w5 none)) :
    ∃ tag', Book (w5.setCell ⟨b, 1, none⟩ (.slice (some ⟨g5, 0, none⟩) (m + 1) cap5)) b tag' ∧ Fr tag (.slice none 0 0) w tag' (w5.setCell ⟨b, 1, none⟩ (.slice (some ⟨g5, 0, none⟩) (m + 1) cap5)) := by
  generalize hW : w4.alloc o5 = W at hat
  have hz : W.heap.size = w4.heap.size + 1 := by rw [← hW]; simp
  have hBs := hB.size
  have S2 : ∀ X, Sm X tag w W := fun X => by rw [← hW]; exact (Sm.below hB).trans (Sm.alloc o5) (fun _ _ => rfl)
  have hul : ∀ g, u.ownBlock = some g → w.heap.size ≤ g ∧ g < w4.heap.size := fun g e => hu.lt g e
  have hg5 : tag g5 = 3 ∨ w4.heap.size < g5 := by
    rcases hat with ⟨e, hg⟩ | ⟨e, hg⟩
    · exact .inl (hk.want.otag g5 (by rw [e]; rfl))
    · exact .inr (by omega)
  have hg5lt : g5 < w5.heap.size := owns_lt hnew rfl
  have huW : W.ownsRow 0 5 1 u (rows m).length (cellsI (rows m)) := by rw [← hW]; exact (owns_low hu (Nat.zero_le _)).alloc o5
  have S3 : Sm (· = 3) tag W w5 := by
    rcases hat with ⟨e, hg⟩ | ⟨_, hg⟩
    · exact Sm.grown hg fun g eg => by cases eg; exact hk.want.otag g5 (by rw [e]; rfl)
    · exact Sm.grown hg fun g eg => by cases eg
  have hu5 : w5.ownsRow 0 5 1 u (rows m).length (cellsI (rows m)) := owns_same huW fun g hg e => S3.block g hg (by show ¬ tag g = 3; rw [hk.fresh g (hul g e).1]; decide)
  have b1 : BoxB W b ov ow (.slice none 0 0) (.slice none 0 0) N := hk.box.mv (S2 (fun _ => False)) (fun h => h)
  have b2 := (b1.mv S3 (by rw [hk.bt]; decide)).s1 (.slice (some ⟨g5, 0, none⟩) (m + 1) cap5)
  let tag' : Nat → Nat := fun g => if u.ownBlock = some g then 11 + 2 * m else if g = g5 then 3 else tag g
  have ht : ∀ g, tag g ≠ 0 → tag' g = tag g := fun g h => by
    show (if u.ownBlock = some g then 11 + 2 * m else if g = g5 then 3 else tag g) = tag g
    rw [if_neg (fun e => h (hk.fresh g (hul g e).1))]
    by_cases e : g = g5
    · subst e
      rw [if_pos rfl]
      rcases hg5 with h2 | h2
      · exact h2.symm
      · exact absurd (hk.fresh g (by omega)) h
    · rw [if_neg e]
  have hbt' : tag' b = 1 := (ht b (by rw [hk.bt]; decide)).trans hk.bt
  have hv2t : tag' g5 = 3 := by
    show (if u.ownBlock = some g5 then 11 + 2 * m else if g5 = g5 then 3 else tag g5) = 3
    rw [if_neg (fun e => ?_), if_pos rfl]
    rcases hg5 with h2 | h2
    · rw [hk.fresh g5 (hul g5 e).1] at h2; cases h2
    · have := (hul g5 e).2; omega
  have U2 : Fam w5 tag' 3 (fun j => 11 + 2 * j) ow m us rows :=
    ((hk.want.mv (S2 (fun _ => False)) (fun h => h) (fun _ _ h => h)).out S3 hold (fun j _ => by omega)).tags ht (by decide) (fun j => by omega)
  have U3 := U2.push hnew (fun g e => by cases e; exact hv2t) hu5 (fun g e => if_pos e)
  have L2 : Fam w5 tag' 2 (fun j => 10 + 2 * j) ov (m + 1) vs rows :=
    ((hk.live.mv (S2 (fun _ => False)) (fun h => h) (fun _ _ h => h)).mv S3 (by decide) (fun j _ => by omega)).tags ht (by decide) (fun j => by omega)
  have S4 : Sm (· = 1) tag' w5 (w5.setCell ⟨b, 1, none⟩ (.slice (some ⟨g5, 0, none⟩) (m + 1) cap5)) := Sm.setCell _ hbt'
  have e00 : ∀ g, g < w.heap.size → tag g = 0 → tag' g = 0 := fun g hg h0 => by
    show (if u.ownBlock = some g then 11 + 2 * m else if g = g5 then 3 else tag g) = 0
    rw [if_neg (fun e => by have := (hul g e).1; omega), if_neg (fun e => ?_)]
    · exact h0
    · subst e
      rcases hg5 with h2 | h2
      · rw [h0] at h2; cases h2
      · omega
  refine ⟨tag', ⟨_, _, m + 1, _, _, rows, N, ⟨b2, hbt', L2.mv S4 (by decide) (fun j _ => by omega), U3.mv S4 (by decide) (fun j _ => by omega), fun g hg => ?_, hk.hN, hk.hrow⟩⟩, ⟨?_, ?_, ?_, ?_, fun g hg h0 _ => e00 g hg h0, fun g hg h0 hne => ?_⟩⟩
  · rw [size_set] at hg
    have h3 := S3.size
    show (if u.ownBlock = some g then 11 + 2 * m else if g = g5 then 3 else tag g) = 0
    rw [if_neg (fun e => by have := (hul g e).2; omega), if_neg (by omega)]
    exact hk.fresh g (by omega)
  · rw [S4.os, S3.os, (S2 (fun _ => False)).os]
  · rw [S4.tape, S3.tape, (S2 (fun _ => False)).tape]
  · rw [S4.output, S3.output, (S2 (fun _ => False)).output]
  · have h2 := S3.size; have h3 := S4.size; omega
  · rw [S4.block g (by have := S3.size; omega) (by rw [e00 g hg h0]; decide), S3.block g (by omega) (by rw [h0]; decide), (S2 (fun _ => False)).block g hg (fun h => h)]
end
end Go.Proofs.YtgfnfbbiojnhaaaDoor.KB
