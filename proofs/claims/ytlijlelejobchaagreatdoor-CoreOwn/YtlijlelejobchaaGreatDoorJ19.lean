/- Closing a book: what stands while its lists are marked and grown. -/
import Derived.Test.YtlijlelejobchaaGreatDoorKApp
import Derived.WalkKit
import Derived.WalkSpells
import Derived.WalkLawsBesides
import Derived.BigRegion
import Derived.OwnWalk
import Derived.Laws.AppendOwnNone
namespace Go.Proofs.YtlijlelejobchaaGreatDoor.K
open Go.RowKit
theorem hide' {p : Prop} (h : p) : Hid p := h
theorem ret_bool {a b : Bool} (h : a = b) : Ending.returned (.bool a) = .returned (.bool b) := by rw [h]
theorem infoI : (Tryz.prog.info? 3).map (fun i => (i.zero, i.size, i.bytes)) = some (some (.int .i64 0), 1, 8) := by kernel_rfl
theorem infoL : (Tryz.prog.info? 23).map (fun i => (i.zero, i.size, i.bytes)) = some (some (.slice none 0 0), 1, 24) := by kernel_rfl
/-- A row of numbers, wherever it lies. -/
def RowI (w : World) (v : Value) (l : List Int) : Prop := ∃ oa cap, v = .slice oa l.length cap ∧ (l.length ≤ cap ∧ (oa = none → cap = 0)) ∧ ∀ i z, l[i]? = some z → ∃ g o, oa = some ⟨g, o, none⟩ ∧ w.cell? ⟨g, o + i, none⟩ = some (.int .i64 z)
theorem cell_lt {W : World} {b o : Nat} {v : Value} (h : W.cell? ⟨b, o, none⟩ = some v) : b < W.heap.size := by
  rcases Nat.lt_or_ge b W.heap.size with h1 | h1
  · exact h1
  · rw [World.cell?, show W.heap[b]? = none from Array.getElem?_eq_none h1] at h; cases h
theorem RowI.below {w w' : World} {v : Value} {l : List Int} {n : Nat} (h : RowI w v l) (hb : Below n w w') (hn : w.heap.size ≤ n) : RowI w' v l := by
  obtain ⟨oa, cap, e, e0, h⟩ := h
  refine ⟨oa, cap, e, e0, fun i z hz => ?_⟩
  obtain ⟨g, o, e1, e2⟩ := h i z hz
  exact ⟨g, o, e1, (hb.cell (p := ⟨g, o + i, none⟩) (Nat.lt_of_lt_of_le (cell_lt e2) hn)).trans e2⟩
/-- Ints as a row's cells. -/
def cellsI (l : List Int) : List Value := l.map fun z => Value.int .i64 z
theorem cellsI_len (l : List Int) : (cellsI l).length = l.length := by simp [cellsI]
theorem cellsI_at {l : List Int} {j : Nat} {u : Value} (h : (cellsI l)[j]? = some u) : ∃ z, l[j]? = some z ∧ u = .int .i64 z := by
  unfold cellsI at h
  rw [List.getElem?_map] at h
  cases hz : l[j]? with
  | none => rw [hz] at h; cases h
  | some z => rw [hz] at h; cases h; exact ⟨z, rfl, rfl⟩
theorem one_cells (l : List Int) : ∀ u ∈ cellsI l, u.oneCell' = true := fun u hu => by
  obtain ⟨z, _, rfl⟩ := List.mem_map.1 hu
  rfl
theorem RowI.of_owns {w : World} {n₀ e : Nat} {v : Value} {n : Nat} {l : List Int} (h : w.ownsRow n₀ e 1 v n (cellsI l)) : RowI w v l := by
  have hl : n = l.length := by have := h.1; simp [cellsI] at this; omega
  subst hl
  rcases h.2 with ⟨rfl, h0⟩ | ⟨g, cap, cur, rfl, _, hb, hcap, _, _, hcur⟩
  · refine ⟨none, 0, by rw [h0], ⟨by omega, fun _ => rfl⟩, fun i z hz => ?_⟩
    have := (List.getElem?_eq_some_iff.1 hz).1
    omega
  · refine ⟨_, cap, rfl, ⟨hcap, fun e => by cases e⟩, fun i z hz => ⟨g, 0, rfl, ?_⟩⟩
    obtain ⟨hi, _⟩ := List.getElem?_eq_some_iff.1 hz
    have e1 : cur[i]? = some (Value.int .i64 z) := by
      have : (cur.toList.take (l.length * 1))[i]? = (cellsI l)[i]? := by rw [hcur]
      rw [List.getElem?_take_of_lt (by omega)] at this
      simpa [cellsI, hz] using this
    rw [Nat.zero_add]
    simp [World.cell?, hb, e1]
theorem heap_new (w : World) (o : Obj) : (w.alloc o).heap[w.heap.size]? = some o := by
  show (w.heap.push o)[w.heap.size]? = some o
  simp
theorem owns_zero (w : World) (b : Nat) (hb : b ≤ w.heap.size) (e : TypeId) : (w.alloc (.cells #[] e)).ownsRow b e 1 (.slice (some ⟨w.heap.size, 0, none⟩) 0 0) 0 (cellsI []) :=
  ⟨rfl, .inr ⟨_, 0, #[], rfl, hb, heap_new w _, Nat.le_refl _, by unfold maxLen; omega, rfl, rfl⟩⟩
set_option maxRecDepth 100000 in
set_option maxHeartbeats 2000000 in
theorem keepInts (la lb : List Int) (va vb : Value) (w : World) (ha : RowI w va la) (hb : RowI w vb lb) (hn : la.length ≤ 1000000) (hm : lb.length ≤ 1000000) :
    Calls Tryz.prog 24 #[va, vb] w fun e w' => e = .returned (.bool (decide (la = lb))) ∧ Below w.heap.size w w' := by
  obtain ⟨oa, ca, rfl, _, hca⟩ := ha
  obtain ⟨ob, cb, rfl, _, hcb⟩ := hb
  by_cases hl : la.length = lb.length
  · have hca' := hide' hca
    have hcb' := hide' hcb
    clear hca hcb
    go_enter Tryz.func24, Tryz.ntmps24
    go_wp2
    go_loopw [5] (fun k wr => Below w.heap.size w wr ∧ ∃ (c : Nat), c ≤ la.length ∧ k = .int .i64 c ∧ Hid (la.take c = lb.take c)) (fun k _ => ((la.length : Int) - intOf k).toNat)
    case atStart => exact ⟨Below.refl _ _, 0, Nat.zero_le _, rfl, by show _ = _; simp⟩
    case round =>
      obtain ⟨hB, c, hc, rfl, hE⟩ := hrel
      by_cases hlt : c < la.length
      · obtain ⟨x, hx⟩ : ∃ x, la[c]? = some x := ⟨_, List.getElem?_eq_getElem hlt⟩
        obtain ⟨y, hy⟩ : ∃ y, lb[c]? = some y := ⟨_, List.getElem?_eq_getElem (by omega)⟩
        obtain ⟨ga, o1, rfl, c1'⟩ := hca'.out c x hx
        obtain ⟨gb, o2, rfl, c2'⟩ := hcb'.out c y hy
        have c1 := (hB.cell (p := ⟨ga, o1 + c, none⟩) (cell_lt c1')).trans c1'
        have c2 := (hB.cell (p := ⟨gb, o2 + c, none⟩) (cell_lt c2')).trans c2'
        clear c1' c2'
        have hx' := hide' hx
        have hy' := hide' hy
        have hltb : c < lb.length := by omega
        by_cases hxy : x = y
        · subst hxy
          clear hx hy
          go_wp2
          go_region
          go_wp2
          exact ⟨⟨hB.drew, c + 1, by omega, by go_num, by show _ = _; rw [List.take_add_one, List.take_add_one, hE.out, hx'.out, hy'.out]⟩, by simp [intOf]; omega⟩
        · have hd : (x != y) = true := by simpa using hxy
          clear hx hy
          go_wp2
          go_region
          go_wp2
          go_ret
          exact ⟨ret_bool (by rw [eq_comm]; simp only [decide_eq_false_iff_not]; intro e; subst e; rw [hx'.out] at hy'; exact hxy (Option.some.inj hy'.out)), hB.drew⟩
      · obtain rfl : c = la.length := by omega
        have e : Hid (la = lb) := by
          show _ = _
          have := hE.out
          rwa [List.take_length, hl, List.take_length] at this
        clear hE hca' hcb'
        go_wp2
        go_ret
        exact ⟨ret_bool (by simp [e.out]), hB⟩
  · have hd : ((la.length : Int) != (lb.length : Int)) = true := by rw [bne_iff_ne]; omega
    clear hca hcb
    go_enter Tryz.func24, Tryz.ntmps24
    go_wp2
    go_ret
    exact ⟨ret_bool (by rw [eq_comm]; simp only [decide_eq_false_iff_not]; intro e; exact hl (by rw [e])), Below.refl _ _⟩
/-- Blocks whose mark meets X may have been turned, and new ones made; all else stands. -/
structure Sm (X : Nat → Prop) (tag : Nat → Nat) (w w' : World) : Prop where
  os : w'.os = w.os
  tape : w'.tape = w.tape
  output : w'.output = w.output
  size : w.heap.size ≤ w'.heap.size
  block : ∀ g, g < w.heap.size → ¬ X (tag g) → w'.heap[g]? = w.heap[g]?
section
variable {X Y : Nat → Prop} {tag tag' : Nat → Nat} {w w' w2 : World}
theorem Sm.refl (X : Nat → Prop) (tag : Nat → Nat) (w : World) : Sm X tag w w := ⟨rfl, rfl, rfl, Nat.le_refl _, fun _ _ _ => rfl⟩
theorem Sm.trans (h : Sm X tag w w') (k : Sm X tag' w' w2) (ht : ∀ g, g < w.heap.size → tag' g = tag g) : Sm X tag w w2 :=
  ⟨k.os.trans h.os, k.tape.trans h.tape, k.output.trans h.output, Nat.le_trans h.size k.size, fun g hg hx => (k.block g (Nat.lt_of_lt_of_le hg h.size) (by rw [ht g hg]; exact hx)).trans (h.block g hg hx)⟩
theorem Sm.mono (h : Sm X tag w w') (hxy : ∀ t, X t → Y t) : Sm Y tag w w' := ⟨h.os, h.tape, h.output, h.size, fun g hg hy => h.block g hg fun hx => hy (hxy _ hx)⟩
theorem Sm.alloc (o : Obj) : Sm X tag w (w.alloc o) := ⟨rfl, rfl, rfl, by simp, fun _ hg _ => Below.heap_alloc _ _ _ hg⟩
theorem Sm.drew : Sm X tag w w.drew := ⟨rfl, rfl, rfl, Nat.le_refl _, fun _ _ _ => rfl⟩
theorem Sm.setCell {p : Addr} (u : Value) (hp : X (tag p.block)) : Sm X tag w (w.setCell p u) := ⟨rfl, rfl, rfl, by simp [World.setCell], fun g _ hx => Below.heap_setCell _ _ _ _ fun e => hx (by rw [e]; exact hp)⟩
theorem Sm.grown {row : Option Nat} (h : w.grownBy w' row) (hr : ∀ g, row = some g → X (tag g)) : Sm X tag w w' := ⟨h.os, h.tape, h.output, h.size, fun g hg hx => h.block g hg fun e => hx (hr g e.symm)⟩
theorem Sm.below (h : Below w.heap.size w w') : Sm X tag w w' := ⟨h.os, h.tape, h.output, h.size, fun g hg _ => h.block g hg⟩
theorem owns_same {b : Nat} {e : TypeId} {size : Nat} {v : Value} {n : Nat} {xs : List Value} (h : w.ownsRow b e size v n xs) (hs : ∀ g, g < w.heap.size → v.ownBlock = some g → w'.heap[g]? = w.heap[g]?) : w'.ownsRow b e size v n xs := by
  refine ⟨h.1, ?_⟩
  rcases h.2 with hn | ⟨g, cap, cur, rfl, hb, hgg, rest⟩
  · exact .inl hn
  · refine .inr ⟨g, cap, cur, rfl, hb, ?_, rest⟩
    rw [hs g (Array.getElem?_eq_some_iff.1 hgg).1 rfl]
    exact hgg
theorem owns_lt {b : Nat} {e : TypeId} {size : Nat} {v : Value} {n : Nat} {xs : List Value} (h : w.ownsRow b e size v n xs) {g : Nat} (hg : v.ownBlock = some g) : g < w.heap.size := (h.lt g hg).2
end
/-- A row of rows; the outer row's block bears the mark t, the block of row j the mark c j. -/
structure Fam (w : World) (tag : Nat → Nat) (t : Nat) (c : Nat → Nat) (ov : Value) (m : Nat) (vs : List Value) (rows : Nat → List Int) : Prop where
  outer : w.ownsRow 0 23 1 ov m vs
  otag : ∀ g, ov.ownBlock = some g → tag g = t
  inner : ∀ (j : Nat) (v : Value), vs[j]? = some v → w.ownsRow 0 3 1 v (rows j).length (cellsI (rows j))
  itag : ∀ (j : Nat) (v : Value) (g : Nat), vs[j]? = some v → v.ownBlock = some g → tag g = c j
section
variable {tag tag' : Nat → Nat} {w w' : World} {t : Nat} {c : Nat → Nat} {ov : Value} {m : Nat} {vs : List Value} {rows rows' : Nat → List Int} {X : Nat → Prop}
theorem Fam.len (h : Fam w tag t c ov m vs rows) : vs.length = m := by have := h.outer.1; omega
theorem Fam.mv (h : Fam w tag t c ov m vs rows) (hs : Sm X tag w w') (ht : ¬ X t) (hc : ∀ j, j < m → ¬ X (c j)) : Fam w' tag t c ov m vs rows := by
  refine ⟨owns_same h.outer fun g hg e => hs.block g hg (by rw [h.otag g e]; exact ht), h.otag, fun j v hj => owns_same (h.inner j v hj) fun g hg e => hs.block g hg ?_, h.itag⟩
  rw [h.itag j v g hj e]
  exact hc j (by have := (List.getElem?_eq_some_iff.1 hj).1; rw [h.len] at this; exact this)
theorem Fam.re (h : Fam w tag t c ov m vs rows) (ht : ∀ g, g < w.heap.size → tag' g = tag g) : Fam w tag' t c ov m vs rows :=
  ⟨h.outer, fun g e => (ht g (owns_lt h.outer e)).trans (h.otag g e), h.inner, fun j v g hj e => (ht g (owns_lt (h.inner j v hj) e)).trans (h.itag j v g hj e)⟩
/-- One row's block may have been turned: that row is shown anew. -/
theorem Fam.mvRow (h : Fam w tag t c ov m vs rows) {i : Nat} (hs : Sm X tag w w') (ht : ¬ X t) (hc : ∀ j, j < m → j ≠ i → ¬ X (c j)) (hi : ∀ v, vs[i]? = some v → w'.ownsRow 0 3 1 v (rows' i).length (cellsI (rows' i))) (hr : ∀ j, j < m → j ≠ i → rows' j = rows j) : Fam w' tag t c ov m vs rows' := by
  refine ⟨owns_same h.outer fun g hg e => hs.block g hg (by rw [h.otag g e]; exact ht), h.otag, fun j v hj => ?_, h.itag⟩
  have hjm : j < m := by have := (List.getElem?_eq_some_iff.1 hj).1; rw [h.len] at this; exact this
  by_cases e : j = i
  · subst e; exact hi v hj
  · rw [hr j hjm e]
    exact owns_same (h.inner j v hj) fun g hg e2 => hs.block g hg (by rw [h.itag j v g hj e2]; exact hc j hjm e)
theorem Fam.congr (h : Fam w tag t c ov m vs rows) (e : ∀ j, j < m → rows' j = rows j) : Fam w tag t c ov m vs rows' := by
  refine ⟨h.outer, h.otag, fun j v hj => ?_, h.itag⟩
  have hjm : j < m := by have := (List.getElem?_eq_some_iff.1 hj).1; rw [h.len] at this; exact this
  rw [e j hjm]; exact h.inner j v hj
/-- One row more. -/
theorem Fam.push (h : Fam w tag t c ov m vs rows) {ov' v : Value} (ho : w.ownsRow 0 23 1 ov' (m + 1) (vs ++ [v])) (hot : ∀ g, ov'.ownBlock = some g → tag g = t) (hi : w.ownsRow 0 3 1 v (rows m).length (cellsI (rows m))) (hit : ∀ g, v.ownBlock = some g → tag g = c m) : Fam w tag t c ov' (m + 1) (vs ++ [v]) rows := by
  have hl := h.len
  have key : ∀ (j : Nat) (u : Value), (vs ++ [v])[j]? = some u → vs[j]? = some u ∨ (j = m ∧ u = v) := fun j u hj => by
    by_cases e : j < vs.length
    · rw [List.getElem?_append_left e] at hj; exact .inl hj
    · have hlt := (List.getElem?_eq_some_iff.1 hj).1
      rw [List.length_append, List.length_singleton] at hlt
      have : j = vs.length := by omega
      subst this
      rw [List.getElem?_append_right (Nat.le_refl _), Nat.sub_self] at hj
      exact .inr ⟨hl, (Option.some.inj hj).symm⟩
  refine ⟨ho, hot, fun j u hj => ?_, fun j u g hj hg => ?_⟩
  · rcases key j u hj with h1 | ⟨rfl, rfl⟩
    · exact h.inner j u h1
    · exact hi
  · rcases key j u hj with h1 | ⟨rfl, rfl⟩
    · exact h.itag j u g h1 hg
    · exact hit g hg
end
end Go.Proofs.YtlijlelejobchaaGreatDoor.K
namespace Go.Proofs.YtlijlelejobchaaGreatDoor.K
open Go.RowKit
/-- The book's own fields. -/
def BoxB (w : World) (b : Nat) (ov ow o1 om : Value) (N : Int) : Prop :=
  w.heap[b]? = some (.cells #[.slice none 0 0, .slice none 0 0, .slice none 0 0, .slice none 0 0, ov, ow, o1, om, .slice none 0 0, .slice none 0 0, .slice none 0 0, .slice none 0 0, .int .i64 N] 36 (0, 0))
section
variable {w w' : World} {b : Nat} {ov ow o1 om : Value} {N : Int} {X : Nat → Prop} {tag tag' : Nat → Nat}
theorem BoxB.lt (h : BoxB w b ov ow o1 om N) : b < w.heap.size := (Array.getElem?_eq_some_iff.1 h).1
theorem BoxB.mv (h : BoxB w b ov ow o1 om N) (hs : Sm X tag w w') (hx : ¬ X (tag b)) : BoxB w' b ov ow o1 om N := (hs.block b h.lt hx).trans h
theorem BoxB.fz (h : BoxB w b ov ow o1 om N) (k : Nat) : w.frozen? ⟨b, k, none⟩ = false := frozen_of_row w b k _ _ h
theorem BoxB.c0 (h : BoxB w b ov ow o1 om N) : w.cell? ⟨b, 0, none⟩ = some (.slice none 0 0) := by unfold BoxB at h; simp [World.cell?, h]
theorem BoxB.c1 (h : BoxB w b ov ow o1 om N) : w.cell? ⟨b, 1, none⟩ = some (.slice none 0 0) := by unfold BoxB at h; simp [World.cell?, h]
theorem BoxB.c2 (h : BoxB w b ov ow o1 om N) : w.cell? ⟨b, 2, none⟩ = some (.slice none 0 0) := by unfold BoxB at h; simp [World.cell?, h]
theorem BoxB.c3 (h : BoxB w b ov ow o1 om N) : w.cell? ⟨b, 3, none⟩ = some (.slice none 0 0) := by unfold BoxB at h; simp [World.cell?, h]
theorem BoxB.c4 (h : BoxB w b ov ow o1 om N) : w.cell? ⟨b, 4, none⟩ = some ov := by unfold BoxB at h; simp [World.cell?, h]
theorem BoxB.c5 (h : BoxB w b ov ow o1 om N) : w.cell? ⟨b, 5, none⟩ = some ow := by unfold BoxB at h; simp [World.cell?, h]
theorem BoxB.c6 (h : BoxB w b ov ow o1 om N) : w.cell? ⟨b, 6, none⟩ = some o1 := by unfold BoxB at h; simp [World.cell?, h]
theorem BoxB.c7 (h : BoxB w b ov ow o1 om N) : w.cell? ⟨b, 7, none⟩ = some om := by unfold BoxB at h; simp [World.cell?, h]
theorem BoxB.c8 (h : BoxB w b ov ow o1 om N) : w.cell? ⟨b, 8, none⟩ = some (.slice none 0 0) := by unfold BoxB at h; simp [World.cell?, h]
theorem BoxB.c9 (h : BoxB w b ov ow o1 om N) : w.cell? ⟨b, 9, none⟩ = some (.slice none 0 0) := by unfold BoxB at h; simp [World.cell?, h]
theorem BoxB.c10 (h : BoxB w b ov ow o1 om N) : w.cell? ⟨b, 10, none⟩ = some (.slice none 0 0) := by unfold BoxB at h; simp [World.cell?, h]
theorem BoxB.c11 (h : BoxB w b ov ow o1 om N) : w.cell? ⟨b, 11, none⟩ = some (.slice none 0 0) := by unfold BoxB at h; simp [World.cell?, h]
theorem BoxB.c12 (h : BoxB w b ov ow o1 om N) : w.cell? ⟨b, 12, none⟩ = some (.int .i64 N) := by unfold BoxB at h; simp [World.cell?, h]
theorem BoxB.s4 (h : BoxB w b ov ow o1 om N) (u : Value) : BoxB (w.setCell ⟨b, 4, none⟩ u) b u ow o1 om N := by
  have := heap_setCell_same w b 4 _ _ u h; simpa [BoxB] using this
theorem BoxB.s5 (h : BoxB w b ov ow o1 om N) (u : Value) : BoxB (w.setCell ⟨b, 5, none⟩ u) b ov u o1 om N := by
  have := heap_setCell_same w b 5 _ _ u h; simpa [BoxB] using this
theorem BoxB.s6 (h : BoxB w b ov ow o1 om N) (u : Value) : BoxB (w.setCell ⟨b, 6, none⟩ u) b ov ow u om N := by
  have := heap_setCell_same w b 6 _ _ u h; simpa [BoxB] using this
theorem BoxB.s7 (h : BoxB w b ov ow o1 om N) (u : Value) : BoxB (w.setCell ⟨b, 7, none⟩ u) b ov ow o1 u N := by
  have := heap_setCell_same w b 7 _ _ u h; simpa [BoxB] using this
theorem BoxB.s12 (h : BoxB w b ov ow o1 om N) (M : Int) : BoxB (w.setCell ⟨b, 12, none⟩ (.int .i64 M)) b ov ow o1 om M := by
  have := heap_setCell_same w b 12 _ _ (.int .i64 M) h; simpa [BoxB] using this
end
/-- What the book holds: the lists, and their copies. -/
structure Bk (w : World) (b : Nat) (tag : Nat → Nat) (ov ow : Value) (m : Nat) (vs us : List Value) (rows : Nat → List Int) (N : Nat) : Prop where
  box : BoxB w b ov ow (.slice none 0 0) (.slice none 0 0) N
  bt : tag b = 1
  live : Fam w tag 2 (fun j => 10 + 2 * j) ov m vs rows
  want : Fam w tag 3 (fun j => 11 + 2 * j) ow m us rows
  fresh : ∀ g, w.heap.size ≤ g → tag g = 0
  hN : m ≤ N ∧ N ≤ 1300000
  hrow : ∀ j, j < m → (rows j).length ≤ 1000000
def Book (w : World) (b : Nat) (tag : Nat → Nat) : Prop := ∃ ov ow m vs us rows N, Bk w b tag ov ow m vs us rows N
/-- What is not the book's, nor the row's, stands. -/
structure Fr (tag : Nat → Nat) (v : Value) (w : World) (tag' : Nat → Nat) (w' : World) : Prop where
  os : w'.os = w.os
  tape : w'.tape = w.tape
  output : w'.output = w.output
  size : w.heap.size ≤ w'.heap.size
  tg : ∀ g, g < w.heap.size → tag g = 0 → v.ownBlock ≠ some g → tag' g = 0
  block : ∀ g, g < w.heap.size → tag g = 0 → v.ownBlock ≠ some g → w'.heap[g]? = w.heap[g]?
section
variable {tag tag' : Nat → Nat} {w w' : World} {t : Nat} {c : Nat → Nat} {ov : Value} {m : Nat} {vs : List Value} {rows : Nat → List Int}
/-- The outer row's block may have been turned: it is shown anew. -/
theorem Fam.out (h : Fam w tag t c ov m vs rows) (hs : Sm (· = t) tag w w') (ho : w'.ownsRow 0 23 1 ov m vs) (hc : ∀ j, j < m → c j ≠ t) : Fam w' tag t c ov m vs rows := by
  refine ⟨ho, h.otag, fun j v hj => owns_same (h.inner j v hj) fun g hg e => hs.block g hg ?_, h.itag⟩
  rw [h.itag j v g hj e]
  exact hc j (by have := (List.getElem?_eq_some_iff.1 hj).1; rw [h.len] at this; exact this)
theorem Fam.tags (h : Fam w tag t c ov m vs rows) (ht : ∀ g, tag g ≠ 0 → tag' g = tag g) (h0 : t ≠ 0) (hc : ∀ j, c j ≠ 0) : Fam w tag' t c ov m vs rows :=
  ⟨h.outer, fun g e => (ht g (by rw [h.otag g e]; exact h0)).trans (h.otag g e), h.inner, fun j v g hj e => (ht g (by rw [h.itag j v g hj e]; exact hc j)).trans (h.itag j v g hj e)⟩
end
theorem own_one {w : World} {b : Nat} {e : TypeId} {size : Nat} {v : Value} {n : Nat} {xs : List Value} (h : w.ownsRow b e size v n xs) : v.oneCell' = true := by
  rcases h.2 with ⟨rfl, _⟩ | ⟨g, cap, cur, rfl, _⟩ <;> rfl
theorem own_shape {w : World} {b : Nat} {e : TypeId} {size : Nat} {v : Value} {n : Nat} {xs : List Value} (h : w.ownsRow b e size v n xs) : ∃ oa cap, v = .slice oa n cap := by
  rcases h.2 with ⟨rfl, rfl⟩ | ⟨g, cap, cur, rfl, _⟩
  · exact ⟨_, _, rfl⟩
  · exact ⟨_, _, rfl⟩
/-- append([]int{}, l...): a copy in new memory. -/
theorem wp_copyZ {o : Oper} {a : Act} {K : Act → World → Prop} {Q : Exit → Act → World → Prop} (W : World) (s x : Operand) (H : Nat) (v : Value) (l : List Int)
    (ho : o.op = .call { callee := .builtin .append, args := #[s, x], argTypes := #[23, 23] }) (hs : a.eval s = .slice (some ⟨H, 0, none⟩) 0 0)
    (hH : W.ownsRow H 3 1 (.slice (some ⟨H, 0, none⟩) 0 0) 0 []) (hx : a.eval x = v) (hv : RowI W v l) (hl : l.length ≤ 1000000)
    (h : ∀ u w', w'.ownsRow H 3 1 u l.length (cellsI l) → W.grownBy w' (some H) → K (a.put o.dst u) w') : o.wp Tryz.prog a W K Q := by
  obtain ⟨i0, hi, hz0, hz1, hz2⟩ := info_parts infoI
  obtain ⟨oa, cap, rfl, hcap, hc⟩ := hv
  have hHs : H ≤ W.heap.size := Nat.le_of_lt (hH.lt H rfl).2
  cases oa with
  | none =>
    have hc0 := hcap.2 rfl
    have hl0 : l.length = 0 := by have := hcap.1; omega
    have hn : l = [] := List.eq_nil_of_length_eq_zero hl0
    subst hn
    subst hc0
    have hrun := run_append_owned_none (P := Tryz.prog) (w := W) H 23 o.type 3 i0 1 Tryz.underlying23 hi _ 0 [] hH
    unfold Oper.wp
    simp only [execOp, ho, resolve, invoke, builtin, hs, hx, Sem.run_bind, Sem.run_pure, Result.andThen_ok, List.map_toArray, List.map_cons, List.map_nil, List.length_nil, hrun]
    exact h _ _ hH ⟨rfl, rfl, rfl, Nat.le_refl _, fun _ _ _ => rfl⟩
  | some ad =>
    have hnews : ∀ j u, (cellsI l)[j]? = some u → W.cell? (ad.add j) = some u := fun j u hu => by
      obtain ⟨z, hz, rfl⟩ := cellsI_at hu
      obtain ⟨g, o, e, hcell⟩ := hc j z hz
      cases e
      rw [Addr.add_lit]; exact hcell
    obtain ⟨v', w', hr, h2, h3, _, _⟩ := run_append_own_at (P := Tryz.prog) W H 23 o.type 3 i0 (.int .i64 0) 1 8 Tryz.underlying23 hi hz0 hz1 hz2 rfl (by decide) _ 0 [] hH ad l.length cap (cellsI l) (by simp [cellsI]) hnews (one_cells _) (by unfold maxLen; omega) (by omega) hHs
    unfold Oper.wp
    simp only [execOp, ho, resolve, invoke, builtin, hs, hx, Sem.run_bind, Sem.run_pure, Result.andThen_ok, List.map_toArray, List.map_cons, List.map_nil, hr]
    rw [Nat.zero_add] at h2
    exact h _ _ h2 h3
set_option maxHeartbeats 400000 in
theorem bookFull (b : Nat) (N : Nat) (w : World) (hc : w.cell? ⟨b, 12, none⟩ = some (.int .i64 N)) :
    Calls Tryz.prog 26 #[.pointer (some ⟨b, 0, none⟩)] w fun e w' => e = .returned (.bool (decide (200000 < N))) ∧ w' = w := by
  go_enter Tryz.func26, Tryz.ntmps26
  go_wp2
  go_ret
  exact ⟨ret_bool (by simp; omega), rfl⟩
end Go.Proofs.YtlijlelejobchaaGreatDoor.K
namespace Go.Proofs.YtlijlelejobchaaGreatDoor.K
open Go.RowKit
/-- The loan's own fields. -/
def BoxN (w : World) (p : Nat) (y z ov ow : Value) : Prop := w.heap[p]? = some (.cells #[ov, ow, y, z] 40 (0, 0))
section
variable {w w' : World} {p : Nat} {y z ov ow : Value} {X : Nat → Prop} {tag tag' : Nat → Nat}
theorem BoxN.lt (h : BoxN w p y z ov ow) : p < w.heap.size := (Array.getElem?_eq_some_iff.1 h).1
theorem BoxN.mv (h : BoxN w p y z ov ow) (hs : Sm X tag w w') (hx : ¬ X (tag p)) : BoxN w' p y z ov ow := (hs.block p h.lt hx).trans h
theorem BoxN.below (h : BoxN w p y z ov ow) (hb : Below w.heap.size w w') : BoxN w' p y z ov ow := (hb.block p h.lt).trans h
theorem BoxN.fz (h : BoxN w p y z ov ow) (k : Nat) : w.frozen? ⟨p, k, none⟩ = false := frozen_of_row w p k _ _ h
theorem BoxN.c0 (h : BoxN w p y z ov ow) : w.cell? ⟨p, 0, none⟩ = some ov := by unfold BoxN at h; simp [World.cell?, h]
theorem BoxN.c1 (h : BoxN w p y z ov ow) : w.cell? ⟨p, 1, none⟩ = some ow := by unfold BoxN at h; simp [World.cell?, h]
theorem BoxN.c2 (h : BoxN w p y z ov ow) : w.cell? ⟨p, 2, none⟩ = some y := by unfold BoxN at h; simp [World.cell?, h]
theorem BoxN.c3 (h : BoxN w p y z ov ow) : w.cell? ⟨p, 3, none⟩ = some z := by unfold BoxN at h; simp [World.cell?, h]
theorem BoxN.s0 (h : BoxN w p y z ov ow) (u : Value) : BoxN (w.setCell ⟨p, 0, none⟩ u) p y z u ow := by
  have := heap_setCell_same w p 0 _ _ u h; simpa [BoxN] using this
theorem BoxN.s1 (h : BoxN w p y z ov ow) (u : Value) : BoxN (w.setCell ⟨p, 1, none⟩ u) p y z ov u := by
  have := heap_setCell_same w p 1 _ _ u h; simpa [BoxN] using this
end
/-- What the loan holds: ml lists, mw copies of them. -/
structure LN (w : World) (p : Nat) (y z : Value) (tag : Nat → Nat) (ov ow : Value) (ml mw : Nat) (vs us : List Value) (rows : Nat → List Int) : Prop where
  box : BoxN w p y z ov ow
  bt : tag p = 1
  live : Fam w tag 2 (fun j => 10 + 2 * j) ov ml vs rows
  want : Fam w tag 3 (fun j => 11 + 2 * j) ow mw us rows
  fresh : ∀ g, w.heap.size ≤ g → tag g = 0
  hrow : ∀ j, j < ml → (rows j).length ≤ 1000000
def Loan (w : World) (p : Nat) (y z : Value) (tag : Nat → Nat) (m : Nat) : Prop := ∃ ov ow vs us rows, LN w p y z tag ov ow m m vs us rows
/-- What is not the loan's own, and each list that was lent, stands. -/
structure FrL (tag : Nat → Nat) (w : World) (tag' : Nat → Nat) (w' : World) : Prop where
  os : w'.os = w.os
  tape : w'.tape = w.tape
  output : w'.output = w.output
  size : w.heap.size ≤ w'.heap.size
  tg : ∀ g, g < w.heap.size → tag' g = tag g
  block : ∀ g, g < w.heap.size → tag g ≠ 1 → tag g ≠ 2 → tag g ≠ 3 → w'.heap[g]? = w.heap[g]?
theorem FrL.trans {tag tag' tag2 : Nat → Nat} {w w' w2 : World} (h : FrL tag w tag' w') (k : FrL tag' w' tag2 w2) : FrL tag w tag2 w2 :=
  ⟨k.os.trans h.os, k.tape.trans h.tape, k.output.trans h.output, Nat.le_trans h.size k.size, fun g hg => (k.tg g (Nat.lt_of_lt_of_le hg h.size)).trans (h.tg g hg),
   fun g hg h1 h2 h3 => (k.block g (Nat.lt_of_lt_of_le hg h.size) (by rw [h.tg g hg]; exact h1) (by rw [h.tg g hg]; exact h2) (by rw [h.tg g hg]; exact h3)).trans (h.block g hg h1 h2 h3)⟩
theorem owns_lowN {w : World} {b b' : Nat} {e : TypeId} {size : Nat} {v : Value} {n : Nat} {xs : List Value} (h : w.ownsRow b e size v n xs) (hb : b' ≤ b) : w.ownsRow b' e size v n xs := by
  refine ⟨h.1, ?_⟩
  rcases h.2 with hn | ⟨g, cap, cur, rfl, h1, rest⟩
  · exact .inl hn
  · exact .inr ⟨g, cap, cur, rfl, Nat.le_trans hb h1, rest⟩
theorem size_setN (w : World) (p : Addr) (u : Value) : (w.setCell p u).heap.size = w.heap.size := by simp [World.setCell]
section
variable {w : World} {p : Nat} {tag : Nat → Nat} {y z ov ow : Value} {m : Nat} {vs us : List Value} {rows : Nat → List Int}
theorem LN.below {w' : World} {ml mw : Nat} (h : LN w p y z tag ov ow ml mw vs us rows) (hb : Below w.heap.size w w') : LN w' p y z tag ov ow ml mw vs us rows :=
  ⟨h.box.below hb, h.bt, h.live.mv (Sm.below (X := fun _ => False) hb) (fun h => h) (fun _ _ h => h), h.want.mv (Sm.below (X := fun _ => False) hb) (fun h => h) (fun _ _ h => h), fun g hg => h.fresh g (Nat.le_trans hb.size hg), h.hrow⟩
/-- Kept by whatever leaves its blocks alone. -/
theorem LN.mv {w' : World} {ml mw : Nat} (h : LN w p y z tag ov ow ml mw vs us rows) (hs : Sm (· = 0) tag w w') : LN w' p y z tag ov ow ml mw vs us rows :=
  ⟨h.box.mv hs (by rw [h.bt]; decide), h.bt, h.live.mv hs (by decide) (fun j _ => by omega), h.want.mv hs (by decide) (fun j _ => by omega), fun g hg => h.fresh g (Nat.le_trans hs.size hg), h.hrow⟩
theorem stageL {w4 w5 : World} {u : Value} {l : List Int} {g5 cap5 : Nat} {o5 : Obj} (hk : LN w p y z tag ov ow m m vs us rows) (hB : Below w.heap.size w w4) (hl : l.length ≤ 1000000)
    (hu : w4.ownsRow w.heap.size 3 1 u l.length (cellsI l))
    (hnew : w5.ownsRow 0 23 1 (.slice (some ⟨g5, 0, none⟩) (m + 1) cap5) (m + 1) (vs ++ [u])) (hold : w5.ownsRow 0 23 1 ov m vs)
    (hat : (ov = .slice (some ⟨g5, 0, none⟩) m cap5 ∧ (w4.alloc o5).grownBy w5 (some g5)) ∨ (g5 = (w4.alloc o5).heap.size ∧ (w4.alloc o5).grownBy w5 none)) :
    ∃ tag' rows', rows' m = l ∧ LN (w5.setCell ⟨p, 0, none⟩ (.slice (some ⟨g5, 0, none⟩) (m + 1) cap5)) p y z tag' (.slice (some ⟨g5, 0, none⟩) (m + 1) cap5) ow (m + 1) m (vs ++ [u]) us rows' ∧ FrL tag w tag' (w5.setCell ⟨p, 0, none⟩ (.slice (some ⟨g5, 0, none⟩) (m + 1) cap5)) ∧ (∀ g, u.ownBlock = some g → tag' g = 10 + 2 * m) ∧ (w5.setCell ⟨p, 0, none⟩ (.slice (some ⟨g5, 0, none⟩) (m + 1) cap5)).ownsRow 0 3 1 u l.length (cellsI l) := by
  generalize hW : w4.alloc o5 = W at hat
  have hz : W.heap.size = w4.heap.size + 1 := by rw [← hW]; simp
  have hBs := hB.size
  have S2 : ∀ X, Sm X tag w W := fun X => by rw [← hW]; exact (Sm.below hB).trans (Sm.alloc o5) (fun _ _ => rfl)
  have hul : ∀ g, u.ownBlock = some g → w.heap.size ≤ g ∧ g < w4.heap.size := fun g e => hu.lt g e
  have hg5 : tag g5 = 2 ∨ w4.heap.size < g5 := by
    rcases hat with ⟨e, hg⟩ | ⟨e, hg⟩
    · exact .inl (hk.live.otag g5 (by rw [e]; rfl))
    · exact .inr (by omega)
  have hg5lt : g5 < w5.heap.size := owns_lt hnew rfl
  have huW : W.ownsRow 0 3 1 u l.length (cellsI l) := by rw [← hW]; exact (owns_lowN hu (Nat.zero_le _)).alloc o5
  have S3 : Sm (· = 2) tag W w5 := by
    rcases hat with ⟨e, hg⟩ | ⟨_, hg⟩
    · exact Sm.grown hg fun g eg => by cases eg; exact hk.live.otag g5 (by rw [e]; rfl)
    · exact Sm.grown hg fun g eg => by cases eg
  have hu5 : w5.ownsRow 0 3 1 u l.length (cellsI l) := owns_same huW fun g hg e => S3.block g hg (by show ¬ tag g = 2; rw [hk.fresh g (hul g e).1]; decide)
  have b1 : BoxN W p y z ov ow := hk.box.mv (S2 (fun _ => False)) (fun h => h)
  have b2 := (b1.mv S3 (by rw [hk.bt]; decide)).s0 (.slice (some ⟨g5, 0, none⟩) (m + 1) cap5)
  let tag' : Nat → Nat := fun g => if u.ownBlock = some g then 10 + 2 * m else if g = g5 then 2 else tag g
  have ht : ∀ g, tag g ≠ 0 → tag' g = tag g := fun g h => by
    show (if u.ownBlock = some g then 10 + 2 * m else if g = g5 then 2 else tag g) = tag g
    rw [if_neg (fun e => h (hk.fresh g (hul g e).1))]
    by_cases e : g = g5
    · subst e
      rw [if_pos rfl]
      rcases hg5 with h2 | h2
      · exact h2.symm
      · exact absurd (hk.fresh g (by omega)) h
    · rw [if_neg e]
  have hbt' : tag' p = 1 := (ht p (by rw [hk.bt]; decide)).trans hk.bt
  have hv2t : tag' g5 = 2 := by
    show (if u.ownBlock = some g5 then 10 + 2 * m else if g5 = g5 then 2 else tag g5) = 2
    rw [if_neg (fun e => ?_), if_pos rfl]
    rcases hg5 with h2 | h2
    · rw [hk.fresh g5 (hul g5 e).1] at h2; cases h2
    · have := (hul g5 e).2; omega
  let rows' : Nat → List Int := fun j => if j = m then l else rows j
  have hr' : ∀ j, j < m → rows' j = rows j := fun j hj => if_neg (by omega)
  have hrm : rows' m = l := if_pos rfl
  have L2 : Fam w5 tag' 2 (fun j => 10 + 2 * j) ov m vs rows' :=
    (((hk.live.mv (S2 (fun _ => False)) (fun h => h) (fun _ _ h => h)).out S3 hold (fun j _ => by omega)).tags ht (by decide) (fun j => by omega)).congr hr'
  have L3 := L2.push hnew (fun g e => by cases e; exact hv2t) (by rw [hrm]; exact hu5) (fun g e => if_pos e)
  have U2 : Fam w5 tag' 3 (fun j => 11 + 2 * j) ow m us rows' :=
    (((hk.want.mv (S2 (fun _ => False)) (fun h => h) (fun _ _ h => h)).mv S3 (by decide) (fun j _ => by omega)).tags ht (by decide) (fun j => by omega)).congr hr'
  have S4 : Sm (· = 1) tag' w5 (w5.setCell ⟨p, 0, none⟩ (.slice (some ⟨g5, 0, none⟩) (m + 1) cap5)) := Sm.setCell _ hbt'
  have e00 : ∀ g, g < w.heap.size → tag' g = tag g := fun g hg => by
    show (if u.ownBlock = some g then 10 + 2 * m else if g = g5 then 2 else tag g) = tag g
    rw [if_neg (fun e => by have := (hul g e).1; omega)]
    by_cases e : g = g5
    · subst e
      rw [if_pos rfl]
      rcases hg5 with h2 | h2
      · exact h2.symm
      · omega
    · rw [if_neg e]
  refine ⟨tag', rows', hrm, ⟨b2, hbt', L3.mv S4 (by decide) (fun j _ => by omega), U2.mv S4 (by decide) (fun j _ => by omega), fun g hg => ?_, fun j hj => ?_⟩, ⟨?_, ?_, ?_, ?_, e00, fun g hg h1 h2 h3 => ?_⟩, fun g e => if_pos e, ?_⟩
  · rw [size_setN] at hg
    have h3 := S3.size
    show (if u.ownBlock = some g then 10 + 2 * m else if g = g5 then 2 else tag g) = 0
    rw [if_neg (fun e => by have := (hul g e).2; omega), if_neg (by omega)]
    exact hk.fresh g (by omega)
  · by_cases e : j = m
    · subst e; rw [hrm]; exact hl
    · rw [hr' j (by omega)]; exact hk.hrow j (by omega)
  · rw [S4.os, S3.os, (S2 (fun _ => False)).os]
  · rw [S4.tape, S3.tape, (S2 (fun _ => False)).tape]
  · rw [S4.output, S3.output, (S2 (fun _ => False)).output]
  · have h2 := S3.size; have h3 := S4.size; omega
  · rw [S4.block g (by have := S3.size; omega) (by rw [e00 g hg]; exact h1), S3.block g (by omega) h2, (S2 (fun _ => False)).block g hg (fun h => h)]
  · refine owns_same hu5 fun g hg e => S4.block g hg ?_
    show ¬ tag' g = 1
    have : tag' g = 10 + 2 * m := if_pos e
    omega
theorem stageW {w4 w5 : World} {u : Value} {g5 cap5 : Nat} {o5 : Obj} (hk : LN w p y z tag ov ow (m + 1) m vs us rows) (hB : Below w.heap.size w w4)
    (hu : w4.ownsRow w.heap.size 3 1 u (rows m).length (cellsI (rows m)))
    (hnew : w5.ownsRow 0 23 1 (.slice (some ⟨g5, 0, none⟩) (m + 1) cap5) (m + 1) (us ++ [u])) (hold : w5.ownsRow 0 23 1 ow m us)
    (hat : (ow = .slice (some ⟨g5, 0, none⟩) m cap5 ∧ (w4.alloc o5).grownBy w5 (some g5)) ∨ (g5 = (w4.alloc o5).heap.size ∧ (w4.alloc o5).grownBy w5 none)) :
    ∃ tag', LN (w5.setCell ⟨p, 1, none⟩ (.slice (some ⟨g5, 0, none⟩) (m + 1) cap5)) p y z tag' ov (.slice (some ⟨g5, 0, none⟩) (m + 1) cap5) (m + 1) (m + 1) vs (us ++ [u]) rows ∧ FrL tag w tag' (w5.setCell ⟨p, 1, none⟩ (.slice (some ⟨g5, 0, none⟩) (m + 1) cap5)) := by
  generalize hW : w4.alloc o5 = W at hat
  have hz : W.heap.size = w4.heap.size + 1 := by rw [← hW]; simp
  have hBs := hB.size
  have S2 : ∀ X, Sm X tag w W := fun X => by rw [← hW]; exact (Sm.below hB).trans (Sm.alloc o5) (fun _ _ => rfl)
  have hul : ∀ g, u.ownBlock = some g → w.heap.size ≤ g ∧ g < w4.heap.size := fun g e => hu.lt g e
  have hg5 : tag g5 = 3 ∨ w4.heap.size < g5 := by
    rcases hat with ⟨e, hg⟩ | ⟨e, hg⟩
    · exact .inl (hk.want.otag g5 (by rw [e]; rfl))
    · exact .inr (by omega)
  have hg5lt : g5 < w5.heap.size := owns_lt hnew rfl
  have huW : W.ownsRow 0 3 1 u (rows m).length (cellsI (rows m)) := by rw [← hW]; exact (owns_lowN hu (Nat.zero_le _)).alloc o5
  have S3 : Sm (· = 3) tag W w5 := by
    rcases hat with ⟨e, hg⟩ | ⟨_, hg⟩
    · exact Sm.grown hg fun g eg => by cases eg; exact hk.want.otag g5 (by rw [e]; rfl)
    · exact Sm.grown hg fun g eg => by cases eg
  have hu5 : w5.ownsRow 0 3 1 u (rows m).length (cellsI (rows m)) := owns_same huW fun g hg e => S3.block g hg (by show ¬ tag g = 3; rw [hk.fresh g (hul g e).1]; decide)
  have b1 : BoxN W p y z ov ow := hk.box.mv (S2 (fun _ => False)) (fun h => h)
  have b2 := (b1.mv S3 (by rw [hk.bt]; decide)).s1 (.slice (some ⟨g5, 0, none⟩) (m + 1) cap5)
  let tag' : Nat → Nat := fun g => if u.ownBlock = some g then 11 + 2 * m else if g = g5 then 3 else tag g
  have ht : ∀ g, tag g ≠ 0 → tag' g = tag g := fun g h => by
    show (if u.ownBlock = some g then 11 + 2 * m else if g = g5 then 3 else tag g) = tag g
    rw [if_neg (fun e => h (hk.fresh g (hul g e).1))]
    by_cases e : g = g5
    · subst e
      rw [if_pos rfl]
      rcases hg5 with h2 | h2
      · exact h2.symm
      · exact absurd (hk.fresh g (by omega)) h
    · rw [if_neg e]
  have hbt' : tag' p = 1 := (ht p (by rw [hk.bt]; decide)).trans hk.bt
  have hv2t : tag' g5 = 3 := by
    show (if u.ownBlock = some g5 then 11 + 2 * m else if g5 = g5 then 3 else tag g5) = 3
    rw [if_neg (fun e => ?_), if_pos rfl]
    rcases hg5 with h2 | h2
    · rw [hk.fresh g5 (hul g5 e).1] at h2; cases h2
    · have := (hul g5 e).2; omega
  have U2 : Fam w5 tag' 3 (fun j => 11 + 2 * j) ow m us rows :=
    ((hk.want.mv (S2 (fun _ => False)) (fun h => h) (fun _ _ h => h)).out S3 hold (fun j _ => by omega)).tags ht (by decide) (fun j => by omega)
  have U3 := U2.push hnew (fun g e => by cases e; exact hv2t) hu5 (fun g e => if_pos e)
  have L2 : Fam w5 tag' 2 (fun j => 10 + 2 * j) ov (m + 1) vs rows :=
    ((hk.live.mv (S2 (fun _ => False)) (fun h => h) (fun _ _ h => h)).mv S3 (by decide) (fun j _ => by omega)).tags ht (by decide) (fun j => by omega)
  have S4 : Sm (· = 1) tag' w5 (w5.setCell ⟨p, 1, none⟩ (.slice (some ⟨g5, 0, none⟩) (m + 1) cap5)) := Sm.setCell _ hbt'
  have e00 : ∀ g, g < w.heap.size → tag' g = tag g := fun g hg => by
    show (if u.ownBlock = some g then 11 + 2 * m else if g = g5 then 3 else tag g) = tag g
    rw [if_neg (fun e => by have := (hul g e).1; omega)]
    by_cases e : g = g5
    · subst e
      rw [if_pos rfl]
      rcases hg5 with h2 | h2
      · exact h2.symm
      · omega
    · rw [if_neg e]
  refine ⟨tag', ⟨b2, hbt', L2.mv S4 (by decide) (fun j _ => by omega), U3.mv S4 (by decide) (fun j _ => by omega), fun g hg => ?_, hk.hrow⟩, ⟨?_, ?_, ?_, ?_, e00, fun g hg h1 h2 h3 => ?_⟩⟩
  · rw [size_setN] at hg
    have h3 := S3.size
    show (if u.ownBlock = some g then 11 + 2 * m else if g = g5 then 3 else tag g) = 0
    rw [if_neg (fun e => by have := (hul g e).2; omega), if_neg (by omega)]
    exact hk.fresh g (by omega)
  · rw [S4.os, S3.os, (S2 (fun _ => False)).os]
  · rw [S4.tape, S3.tape, (S2 (fun _ => False)).tape]
  · rw [S4.output, S3.output, (S2 (fun _ => False)).output]
  · have h2 := S3.size; have h3 := S4.size; omega
  · rw [S4.block g (by have := S3.size; omega) (by rw [e00 g hg]; exact h1), S3.block g (by omega) h3, (S2 (fun _ => False)).block g hg (fun h => h)]
end
end Go.Proofs.YtlijlelejobchaaGreatDoor.K
namespace Go.Proofs.YtlijlelejobchaaGreatDoor.K
open Go.RowKit
/-- The list is in, its copy not yet. -/
structure HB (w : World) (b : Nat) (tag : Nat → Nat) (ov ow : Value) (m : Nat) (vs us : List Value) (rows : Nat → List Int) (N : Nat) : Prop where
  box : BoxB w b ov ow (.slice none 0 0) (.slice none 0 0) N
  bt : tag b = 1
  live : Fam w tag 2 (fun j => 10 + 2 * j) ov (m + 1) vs rows
  want : Fam w tag 3 (fun j => 11 + 2 * j) ow m us rows
  fresh : ∀ g, w.heap.size ≤ g → tag g = 0
  hN : m + 1 ≤ N ∧ N ≤ 1300000
  hrow : ∀ j, j < m + 1 → (rows j).length ≤ 1000000
theorem Fr.trans {tag tag' tag2 : Nat → Nat} {v : Value} {w w' w2 : World} (h : Fr tag v w tag' w') (k : Fr tag' (.slice none 0 0) w' tag2 w2) : Fr tag v w tag2 w2 :=
  ⟨k.os.trans h.os, k.tape.trans h.tape, k.output.trans h.output, Nat.le_trans h.size k.size,
   fun g hg ht hv => k.tg g (Nat.lt_of_lt_of_le hg h.size) (h.tg g hg ht hv) (by simp [Value.ownBlock]),
   fun g hg ht hv => (k.block g (Nat.lt_of_lt_of_le hg h.size) (h.tg g hg ht hv) (by simp [Value.ownBlock])).trans (h.block g hg ht hv)⟩
theorem owns_low {w : World} {b b' : Nat} {e : TypeId} {size : Nat} {v : Value} {n : Nat} {xs : List Value} (h : w.ownsRow b e size v n xs) (hb : b' ≤ b) : w.ownsRow b' e size v n xs := by
  refine ⟨h.1, ?_⟩
  rcases h.2 with hn | ⟨g, cap, cur, rfl, h1, rest⟩
  · exact .inl hn
  · exact .inr ⟨g, cap, cur, rfl, Nat.le_trans hb h1, rest⟩
theorem size_set (w : World) (p : Addr) (u : Value) : (w.setCell p u).heap.size = w.heap.size := by simp [World.setCell]
section
variable {w : World} {b : Nat} {tag : Nat → Nat} {ov ow : Value} {m : Nat} {vs us : List Value} {rows : Nat → List Int} {N : Nat} {v : Value} {l : List Int} {o2 : Obj} {g2 cap2 : Nat} {w2 : World}
theorem stageA (hk : Bk w b tag ov ow m vs us rows N) (hf : N ≤ 200000) (hv : w.ownsRow 0 3 1 v l.length (cellsI l)) (hl : l.length ≤ 1000000) (hvt : ∀ g, v.ownBlock = some g → tag g = 0)
    (hnew : w2.ownsRow 0 23 1 (.slice (some ⟨g2, 0, none⟩) (m + 1) cap2) (m + 1) (vs ++ [v])) (hold : w2.ownsRow 0 23 1 ov m vs)
    (hat : (ov = .slice (some ⟨g2, 0, none⟩) m cap2 ∧ ((w.setCell ⟨b, 12, none⟩ (.int .i64 ((N : Int) + l.length + 1))).alloc o2).grownBy w2 (some g2)) ∨ (g2 = ((w.setCell ⟨b, 12, none⟩ (.int .i64 ((N : Int) + l.length + 1))).alloc o2).heap.size ∧ ((w.setCell ⟨b, 12, none⟩ (.int .i64 ((N : Int) + l.length + 1))).alloc o2).grownBy w2 none)) :
    ∃ tag' rows', rows' m = l ∧ HB (w2.setCell ⟨b, 4, none⟩ (.slice (some ⟨g2, 0, none⟩) (m + 1) cap2)) b tag' (.slice (some ⟨g2, 0, none⟩) (m + 1) cap2) ow m (vs ++ [v]) us rows' (N + l.length + 1) ∧
      Fr tag v w tag' (w2.setCell ⟨b, 4, none⟩ (.slice (some ⟨g2, 0, none⟩) (m + 1) cap2)) ∧ (w2.setCell ⟨b, 4, none⟩ (.slice (some ⟨g2, 0, none⟩) (m + 1) cap2)).ownsRow 0 3 1 v l.length (cellsI l) := by
  generalize hW : (w.setCell ⟨b, 12, none⟩ (.int .i64 ((N : Int) + l.length + 1))).alloc o2 = W at hat
  have hz : W.heap.size = w.heap.size + 1 := by rw [← hW]; simp [World.setCell]
  have S1 : Sm (· = 1) tag w (w.setCell ⟨b, 12, none⟩ (.int .i64 ((N : Int) + l.length + 1))) := Sm.setCell _ hk.bt
  have S2 : Sm (· = 1) tag w W := by rw [← hW]; exact S1.trans (Sm.alloc o2) (fun _ _ => rfl)
  have S3 : Sm (· = 2) tag W w2 := by
    rcases hat with ⟨e, hg⟩ | ⟨_, hg⟩
    · exact Sm.grown hg fun g eg => by cases eg; exact hk.live.otag g2 (by rw [e]; rfl)
    · exact Sm.grown hg fun g eg => by cases eg
  have hg2 : tag g2 = 2 ∨ w.heap.size ≤ g2 := by
    rcases hat with ⟨e, hg⟩ | ⟨e, hg⟩
    · exact .inl (hk.live.otag g2 (by rw [e]; rfl))
    · exact .inr (by omega)
  have hg2lt : g2 < w2.heap.size := owns_lt hnew rfl
  have b1 : BoxB W b ov ow (.slice none 0 0) (.slice none 0 0) ((N : Int) + l.length + 1) := by
    rw [← hW]; exact (hk.box.s12 _).mv (Sm.alloc (X := fun _ => False) (tag := tag) o2) (fun h => h)
  have b2 := (b1.mv S3 (by rw [hk.bt]; decide)).s4 (.slice (some ⟨g2, 0, none⟩) (m + 1) cap2)
  have hvt0 : v.ownBlock ≠ some b := fun e => by have := hvt b e; rw [hk.bt] at this; cases this
  have hvw : ∀ g, v.ownBlock = some g → g < w.heap.size := fun g e => owns_lt hv e
  have hv2 : w2.ownsRow 0 3 1 v l.length (cellsI l) := by
    have h1 : W.ownsRow 0 3 1 v l.length (cellsI l) := owns_same hv fun g hg e => S2.block g hg (by show ¬ tag g = 1; rw [hvt g e]; decide)
    exact owns_same h1 fun g hg e => S3.block g hg (by show ¬ tag g = 2; rw [hvt g e]; decide)
  let tag' : Nat → Nat := fun g => if v.ownBlock = some g then 10 + 2 * m else if g = g2 then 2 else tag g
  have ht : ∀ g, tag g ≠ 0 → tag' g = tag g := fun g h => by
    show (if v.ownBlock = some g then 10 + 2 * m else if g = g2 then 2 else tag g) = tag g
    rw [if_neg (fun e => h (hvt g e))]
    by_cases e : g = g2
    · subst e
      rw [if_pos rfl]
      rcases hg2 with h2 | h2
      · exact h2.symm
      · exact absurd (hk.fresh g h2) h
    · rw [if_neg e]
  have hbt' : tag' b = 1 := (ht b (by rw [hk.bt]; decide)).trans hk.bt
  have hv2t : tag' g2 = 2 := by
    show (if v.ownBlock = some g2 then 10 + 2 * m else if g2 = g2 then 2 else tag g2) = 2
    rw [if_neg (fun e => ?_), if_pos rfl]
    rcases hg2 with h2 | h2
    · rw [hvt g2 e] at h2; cases h2
    · have := hvw g2 e; omega
  let rows' : Nat → List Int := fun j => if j = m then l else rows j
  have hr' : ∀ j, j < m → rows' j = rows j := fun j hj => if_neg (by omega)
  have hrm : rows' m = l := if_pos rfl
  have L2 : Fam w2 tag' 2 (fun j => 10 + 2 * j) ov m vs rows' :=
    (((hk.live.mv S2 (by decide) (fun j _ => by omega)).out S3 hold (fun j _ => by omega)).tags ht (by decide) (fun j => by omega)).congr hr'
  have L3 := L2.push hnew (fun g e => by cases e; exact hv2t) (by rw [hrm]; exact hv2) (fun g e => if_pos e)
  have S4 : Sm (· = 1) tag' w2 (w2.setCell ⟨b, 4, none⟩ (.slice (some ⟨g2, 0, none⟩) (m + 1) cap2)) := Sm.setCell _ hbt'
  have U2 : Fam w2 tag' 3 (fun j => 11 + 2 * j) ow m us rows' :=
    (((hk.want.mv S2 (by decide) (fun j _ => by omega)).mv S3 (by decide) (fun j _ => by omega)).tags ht (by decide) (fun j => by omega)).congr hr'
  refine ⟨tag', rows', hrm, ⟨?_, hbt', L3.mv S4 (by decide) (fun j _ => by omega), U2.mv S4 (by decide) (fun j _ => by omega), fun g hg => ?_, ?_, fun j hj => ?_⟩, ⟨?_, ?_, ?_, ?_, fun g hg h0 hne => ?_, fun g hg h0 hne => ?_⟩, ?_⟩
  · have := b2; simpa using this
  · rw [size_set] at hg
    have h3 := S3.size
    show (if v.ownBlock = some g then 10 + 2 * m else if g = g2 then 2 else tag g) = 0
    rw [if_neg (fun e => by have := hvw g e; omega), if_neg (by omega)]
    exact hk.fresh g (by omega)
  · have := hk.hN; omega
  · by_cases e : j = m
    · subst e; rw [hrm]; exact hl
    · rw [hr' j (by omega)]; exact hk.hrow j (by omega)
  · rw [S4.os, S3.os, S2.os]
  · rw [S4.tape, S3.tape, S2.tape]
  · rw [S4.output, S3.output, S2.output]
  · have h1 := S2.size; have h2 := S3.size; have h3 := S4.size; omega
  · show (if v.ownBlock = some g then 10 + 2 * m else if g = g2 then 2 else tag g) = 0
    rw [if_neg hne, if_neg (fun e => ?_)]
    · exact h0
    · subst e
      rcases hg2 with h2 | h2
      · rw [h0] at h2; cases h2
      · omega
  · have e0 : tag' g = 0 := by
      show (if v.ownBlock = some g then 10 + 2 * m else if g = g2 then 2 else tag g) = 0
      rw [if_neg hne, if_neg (fun e => ?_)]
      · exact h0
      · subst e
        rcases hg2 with h2 | h2
        · rw [h0] at h2; cases h2
        · omega
    have hgW : g < W.heap.size := by omega
    rw [S4.block g (by have := S3.size; omega) (by rw [e0]; decide), S3.block g hgW (by rw [h0]; decide), S2.block g hg (by rw [h0]; decide)]
  · refine owns_same hv2 fun g hg e => S4.block g hg ?_
    show ¬ tag' g = 1
    have : tag' g = 10 + 2 * m := if_pos e
    omega
theorem boxA (hk : Bk w b tag ov ow m vs us rows N)
    (hat : (ov = .slice (some ⟨g2, 0, none⟩) m cap2 ∧ ((w.setCell ⟨b, 12, none⟩ (.int .i64 ((N : Int) + l.length + 1))).alloc o2).grownBy w2 (some g2)) ∨ (g2 = ((w.setCell ⟨b, 12, none⟩ (.int .i64 ((N : Int) + l.length + 1))).alloc o2).heap.size ∧ ((w.setCell ⟨b, 12, none⟩ (.int .i64 ((N : Int) + l.length + 1))).alloc o2).grownBy w2 none)) :
    BoxB w2 b ov ow (.slice none 0 0) (.slice none 0 0) ((N : Int) + l.length + 1) := by
  have b1 := (hk.box.s12 ((N : Int) + l.length + 1)).mv (Sm.alloc (X := fun _ => False) (tag := tag) o2) (fun h => h)
  rcases hat with ⟨e, hg⟩ | ⟨_, hg⟩
  · exact b1.mv (Sm.grown (X := (· = 2)) (tag := tag) hg fun g eg => by cases eg; exact hk.live.otag g2 (by rw [e]; rfl)) (by rw [hk.bt]; decide)
  · exact b1.mv (Sm.grown (X := (· = 2)) (tag := tag) hg fun g eg => by cases eg) (by rw [hk.bt]; decide)
theorem boxW (hk : HB w b tag ov ow m vs us rows N) {w4 : World} (hB : Below w.heap.size w w4) : BoxB w4 b ov ow (.slice none 0 0) (.slice none 0 0) N :=
  hk.box.mv (Sm.below (X := fun _ => False) (tag := tag) hB) (fun h => h)
theorem boxE (hk : HB w b tag ov ow m vs us rows N) {w4 w5 : World} (hB : Below w.heap.size w w4) {g5 cap5 : Nat} {o5 : Obj}
    (hat : (ow = .slice (some ⟨g5, 0, none⟩) m cap5 ∧ (w4.alloc o5).grownBy w5 (some g5)) ∨ (g5 = (w4.alloc o5).heap.size ∧ (w4.alloc o5).grownBy w5 none)) : BoxB w5 b ov ow (.slice none 0 0) (.slice none 0 0) N := by
  have b1 := (boxW hk hB).mv (Sm.alloc (X := fun _ => False) (tag := tag) o5) (fun h => h)
  rcases hat with ⟨e, hg⟩ | ⟨_, hg⟩
  · exact b1.mv (Sm.grown (X := (· = 3)) (tag := tag) hg fun g eg => by cases eg; exact hk.want.otag g5 (by rw [e]; rfl)) (by rw [hk.bt]; decide)
  · exact b1.mv (Sm.grown (X := (· = 3)) (tag := tag) hg fun g eg => by cases eg) (by rw [hk.bt]; decide)
theorem outW (hk : HB w b tag ov ow m vs us rows N) {w4 : World} (hB : Below w.heap.size w w4) : w4.ownsRow 0 23 1 ow m us :=
  owns_same hk.want.outer fun g hg _ => hB.block g hg
theorem stageB {w4 w5 : World} {u : Value} {g5 cap5 : Nat} {o5 : Obj} (hk : HB w b tag ov ow m vs us rows N) (hB : Below w.heap.size w w4)
    (hu : w4.ownsRow w.heap.size 3 1 u (rows m).length (cellsI (rows m)))
    (hnew : w5.ownsRow 0 23 1 (.slice (some ⟨g5, 0, none⟩) (m + 1) cap5) (m + 1) (us ++ [u])) (hold : w5.ownsRow 0 23 1 ow m us)
    (hat : (ow = .slice (some ⟨g5, 0, none⟩) m cap5 ∧ (w4.alloc o5).grownBy w5 (some g5)) ∨ (g5 = (w4.alloc o5).heap.size ∧ (w4.alloc o5).grownBy w5 none)) :
    ∃ tag', Book (w5.setCell ⟨b, 5, none⟩ (.slice (some ⟨g5, 0, none⟩) (m + 1) cap5)) b tag' ∧ Fr tag (.slice none 0 0) w tag' (w5.setCell ⟨b, 5, none⟩ (.slice (some ⟨g5, 0, none⟩) (m + 1) cap5)) := by
  generalize hW : w4.alloc o5 = W at hat
  have hz : W.heap.size = w4.heap.size + 1 := by rw [← hW]; simp
  have hBs := hB.size
  have S2 : ∀ X, Sm X tag w W := fun X => by rw [← hW]; exact (Sm.below hB).trans (Sm.alloc o5) (fun _ _ => rfl)
  have hul : ∀ g, u.ownBlock = some g → w.heap.size ≤ g ∧ g < w4.heap.size := fun g e => hu.lt g e
  have hg5 : tag g5 = 3 ∨ w4.heap.size < g5 := by
    rcases hat with ⟨e, hg⟩ | ⟨e, hg⟩
    · exact .inl (hk.want.otag g5 (by rw [e]; rfl))
    · exact .inr (by omega)
  have hg5lt : g5 < w5.heap.size := owns_lt hnew rfl
  have huW : W.ownsRow 0 3 1 u (rows m).length (cellsI (rows m)) := by rw [← hW]; exact (owns_low hu (Nat.zero_le _)).alloc o5
  have S3 : Sm (· = 3) tag W w5 := by
    rcases hat with ⟨e, hg⟩ | ⟨_, hg⟩
    · exact Sm.grown hg fun g eg => by cases eg; exact hk.want.otag g5 (by rw [e]; rfl)
    · exact Sm.grown hg fun g eg => by cases eg
  have hu5 : w5.ownsRow 0 3 1 u (rows m).length (cellsI (rows m)) := owns_same huW fun g hg e => S3.block g hg (by show ¬ tag g = 3; rw [hk.fresh g (hul g e).1]; decide)
  have b1 : BoxB W b ov ow (.slice none 0 0) (.slice none 0 0) N := hk.box.mv (S2 (fun _ => False)) (fun h => h)
  have b2 := (b1.mv S3 (by rw [hk.bt]; decide)).s5 (.slice (some ⟨g5, 0, none⟩) (m + 1) cap5)
  let tag' : Nat → Nat := fun g => if u.ownBlock = some g then 11 + 2 * m else if g = g5 then 3 else tag g
  have ht : ∀ g, tag g ≠ 0 → tag' g = tag g := fun g h => by
    show (if u.ownBlock = some g then 11 + 2 * m else if g = g5 then 3 else tag g) = tag g
    rw [if_neg (fun e => h (hk.fresh g (hul g e).1))]
    by_cases e : g = g5
    · subst e
      rw [if_pos rfl]
      rcases hg5 with h2 | h2
      · exact h2.symm
      · exact absurd (hk.fresh g (by omega)) h
    · rw [if_neg e]
  have hbt' : tag' b = 1 := (ht b (by rw [hk.bt]; decide)).trans hk.bt
  have hv2t : tag' g5 = 3 := by
    show (if u.ownBlock = some g5 then 11 + 2 * m else if g5 = g5 then 3 else tag g5) = 3
    rw [if_neg (fun e => ?_), if_pos rfl]
    rcases hg5 with h2 | h2
    · rw [hk.fresh g5 (hul g5 e).1] at h2; cases h2
    · have := (hul g5 e).2; omega
  have U2 : Fam w5 tag' 3 (fun j => 11 + 2 * j) ow m us rows :=
    ((hk.want.mv (S2 (fun _ => False)) (fun h => h) (fun _ _ h => h)).out S3 hold (fun j _ => by omega)).tags ht (by decide) (fun j => by omega)
  have U3 := U2.push hnew (fun g e => by cases e; exact hv2t) hu5 (fun g e => if_pos e)
  have L2 : Fam w5 tag' 2 (fun j => 10 + 2 * j) ov (m + 1) vs rows :=
    ((hk.live.mv (S2 (fun _ => False)) (fun h => h) (fun _ _ h => h)).mv S3 (by decide) (fun j _ => by omega)).tags ht (by decide) (fun j => by omega)
  have S4 : Sm (· = 1) tag' w5 (w5.setCell ⟨b, 5, none⟩ (.slice (some ⟨g5, 0, none⟩) (m + 1) cap5)) := Sm.setCell _ hbt'
  have e00 : ∀ g, g < w.heap.size → tag g = 0 → tag' g = 0 := fun g hg h0 => by
    show (if u.ownBlock = some g then 11 + 2 * m else if g = g5 then 3 else tag g) = 0
    rw [if_neg (fun e => by have := (hul g e).1; omega), if_neg (fun e => ?_)]
    · exact h0
    · subst e
      rcases hg5 with h2 | h2
      · rw [h0] at h2; cases h2
      · omega
  refine ⟨tag', ⟨_, _, m + 1, _, _, rows, N, ⟨b2, hbt', L2.mv S4 (by decide) (fun j _ => by omega), U3.mv S4 (by decide) (fun j _ => by omega), fun g hg => ?_, hk.hN, hk.hrow⟩⟩, ⟨?_, ?_, ?_, ?_, fun g hg h0 _ => e00 g hg h0, fun g hg h0 hne => ?_⟩⟩
  · rw [size_set] at hg
    have h3 := S3.size
    show (if u.ownBlock = some g then 11 + 2 * m else if g = g5 then 3 else tag g) = 0
    rw [if_neg (fun e => by have := (hul g e).2; omega), if_neg (by omega)]
    exact hk.fresh g (by omega)
  · rw [S4.os, S3.os, (S2 (fun _ => False)).os]
  · rw [S4.tape, S3.tape, (S2 (fun _ => False)).tape]
  · rw [S4.output, S3.output, (S2 (fun _ => False)).output]
  · have h2 := S3.size; have h3 := S4.size; omega
  · rw [S4.block g (by have := S3.size; omega) (by rw [e00 g hg h0]; decide), S3.block g (by omega) (by rw [h0]; decide), (S2 (fun _ => False)).block g hg (fun h => h)]
end
end Go.Proofs.YtlijlelejobchaaGreatDoor.K
namespace Go.Proofs.YtlijlelejobchaaGreatDoor.K
open Go.RowKit
/-- The mark of list j, and what it is grown by. -/
def mkA (j : Nat) : Int := -1000 - j
def mkB (j : Nat) : Int := -5000000 - j
theorem cell_in {w : World} {b : Nat} {e : TypeId} {g n cap : Nat} {l : List Int} (h : w.ownsRow b e 1 (.slice (some ⟨g, 0, none⟩) n cap) n (cellsI l)) {j : Nat} {z : Int} (hz : l[j]? = some z) : w.cell? ⟨g, j, none⟩ = some (.int .i64 z) := by
  have hl : n = l.length := by have := h.1; rw [cellsI_len] at this; omega
  have hj : j < n * 1 := by have := (List.getElem?_eq_some_iff.1 hz).1; omega
  rw [h.cellAt j hj]
  simp [cellsI, hz]
set_option maxRecDepth 100000 in
set_option maxHeartbeats 4000000 in
theorem lookInts (b : Nat) (w : World) (tag : Nat → Nat) (ov ow o1 om lv : Value) (N : Int) (m t q : Nat) (c : Nat → Nat) (n : Nat → Nat) (vs vs1 : List Value)
    (hbx : BoxB w b ov ow o1 om N) (hlive : Fam w tag 2 (fun j => 10 + 2 * j) ov m vs (fun j => List.replicate (n j) (mkA j)))
    (hone : Fam w tag t c lv m vs1 (fun j => List.replicate (n j) (mkA j) ++ List.replicate q (mkB j))) (hm : m ≤ 1300000) (hn : ∀ j, j < m → n j ≤ 1000000) (hq : q ≤ 700) :
    Calls Tryz.prog 70 #[.pointer (some ⟨b, 0, none⟩), lv] w fun e w' => e = .returned (.bool true) ∧ w' = w := by
  have c4 := hbx.c4
  obtain ⟨oa, cap, rfl⟩ := own_shape hlive.outer
  obtain ⟨ob, cb, rfl⟩ := own_shape hone.outer
  have hlive' := hide' hlive
  have hone' := hide' hone
  have hn' := hide' hn
  clear hlive hone hbx hn
  go_enter Tryz.func70, Tryz.ntmps70
  go_wp2
  go_loop [5] (fun i => ∃ d : Nat, d ≤ m ∧ i = .int .i64 d) (fun i => (m - intOf i).toNat)
  case atStart => exact ⟨0, Nat.zero_le _, rfl⟩
  case round =>
    obtain ⟨d, hd, rfl⟩ := hrel
    by_cases hlt : d < m
    · obtain ⟨g, cap2, e, _, _⟩ := hlive'.out.outer.form (by omega)
      obtain ⟨g1, cap3, e1, _, _⟩ := hone'.out.outer.form (by omega)
      obtain ⟨rfl, rfl⟩ : oa = some ⟨g, 0, none⟩ ∧ cap = cap2 := by injection e with h1 h2 h3; exact ⟨h1, h3⟩
      obtain ⟨rfl, rfl⟩ : ob = some ⟨g1, 0, none⟩ ∧ cb = cap3 := by injection e1 with h1 h2 h3; exact ⟨h1, h3⟩
      obtain ⟨v, hv⟩ : ∃ v, vs[d]? = some v := ⟨_, List.getElem?_eq_getElem (by rw [hlive'.out.len]; exact hlt)⟩
      obtain ⟨v1, hv1⟩ : ∃ v, vs1[d]? = some v := ⟨_, List.getElem?_eq_getElem (by rw [hone'.out.len]; exact hlt)⟩
      have cv : w.cell? ⟨g, d, none⟩ = some v := by rw [hlive'.out.outer.cellAt d (by omega)]; exact hv
      have cv1 : w.cell? ⟨g1, d, none⟩ = some v1 := by rw [hone'.out.outer.cellAt d (by omega)]; exact hv1
      have hi := hlive'.out.inner d v hv
      have hi1 := hone'.out.inner d v1 hv1
      have hnd := hn'.out d hlt
      rw [List.length_replicate] at hi
      rw [List.length_append, List.length_replicate, List.length_replicate] at hi1
      generalize n d = nd at *
      obtain ⟨oc, cc, rfl⟩ := own_shape hi
      obtain ⟨od, cd, rfl⟩ := own_shape hi1
      have hi' := hide' hi
      have hi1' := hide' hi1
      clear e e1 hv hv1 hi hi1
      go_wp2
      go_loop [7] (fun k => ∃ f : Nat, f ≤ nd + q ∧ k = .int .i64 f) (fun k => ((nd + q : Nat) - intOf k).toNat)
      case atStart => exact ⟨0, Nat.zero_le _, rfl⟩
      case round =>
        obtain ⟨f, hf, rfl⟩ := hrel
        by_cases hflt : f < nd + q
        · obtain ⟨g3, cap4, e1, _, _⟩ := hi1'.out.form (by omega)
          obtain ⟨rfl, rfl⟩ : od = some ⟨g3, 0, none⟩ ∧ cd = cap4 := by injection e1 with h1 h2 h3; exact ⟨h1, h3⟩
          clear e1
          by_cases hfn : f < nd
          · obtain ⟨g4, cap5, e, _, _⟩ := hi'.out.form (by omega)
            obtain ⟨rfl, rfl⟩ : oc = some ⟨g4, 0, none⟩ ∧ cc = cap5 := by injection e with h1 h2 h3; exact ⟨h1, h3⟩
            clear e
            have x1 : w.cell? ⟨g4, f, none⟩ = some (.int .i64 (-1000 - (d : Int))) := cell_in hi'.out (by rw [List.getElem?_replicate, if_pos hfn]; rfl)
            have x2 : w.cell? ⟨g3, f, none⟩ = some (.int .i64 (-1000 - (d : Int))) := cell_in hi1'.out (by rw [List.getElem?_append_left (by rw [List.length_replicate]; exact hfn), List.getElem?_replicate, if_pos hfn]; rfl)
            go_wp2
            exact ⟨⟨f + 1, by omega, by go_num⟩, by simp [intOf]; omega⟩
          · have x2 : w.cell? ⟨g3, f, none⟩ = some (.int .i64 (-5000000 - (d : Int))) := cell_in hi1'.out (by rw [List.getElem?_append_right (by rw [List.length_replicate]; omega), List.length_replicate, List.getElem?_replicate, if_pos (by omega)]; rfl)
            go_wp2
            exact ⟨⟨f + 1, by omega, by go_num⟩, by simp [intOf]; omega⟩
        · go_wp2
          exact ⟨⟨d + 1, by omega, by go_num⟩, by simp [intOf]; omega⟩
    · go_wp2
      go_ret
      exact ⟨rfl, rfl⟩
end Go.Proofs.YtlijlelejobchaaGreatDoor.K
namespace Go.Proofs.YtlijlelejobchaaGreatDoor.K
open Go.RowKit
def cL (j : Nat) : Nat := 10 + 2 * j
/-- List j, marked, and grown by q. -/
def grA (n : Nat → Nat) (q j : Nat) : List Int := List.replicate (n j) (mkA j) ++ List.replicate q (mkB j)
/-- Where two slices lie in one block they have one capacity. -/
def Rel (v u : Value) : Prop := ∀ g, v.ownBlock = some g → u.ownBlock = some g → ∃ n n1 cap, v = .slice (some ⟨g, 0, none⟩) n cap ∧ u = .slice (some ⟨g, 0, none⟩) n1 cap
structure PC (w : World) (tag : Nat → Nat) (wr : World) (tagr : Nat → Nat) (b : Nat) (ov ow o1 om : Value) (N : Int) (m : Nat) (vs : List Value) (n : Nat → Nat) (i1 : Nat) (vs1 : List Value) (i2 : Nat) (vs2 : List Value) : Prop where
  box : BoxB wr b ov ow o1 om N
  bt : tagr b = 1
  live : Fam wr tagr 2 cL ov m vs (fun j => List.replicate (n j) (mkA j))
  one : Fam wr tagr 4 cL o1 i1 vs1 (grA n 16)
  many : Fam wr tagr 5 cL om i2 vs2 (grA n 700)
  rel : ∀ (j : Nat) (v v1 : Value), vs[j]? = some v → vs1[j]? = some v1 → Rel v v1
  fresh : ∀ g, wr.heap.size ≤ g → tagr g = 0
  S : Sm (· ≠ 0) tag w wr
  T : ∀ g, g < w.heap.size → tagr g = tag g
section
variable {w wr : World} {tag tagr : Nat → Nat} {b : Nat} {ov ow o1 om : Value} {N : Int} {m : Nat} {vs : List Value} {n : Nat → Nat} {i1 : Nat} {vs1 : List Value} {i2 : Nat} {vs2 : List Value}
theorem PC.below (h : PC w tag wr tagr b ov ow o1 om N m vs n i1 vs1 i2 vs2) {w' : World} (hB : Below wr.heap.size wr w') : PC w tag w' tagr b ov ow o1 om N m vs n i1 vs1 i2 vs2 := by
  have s : Sm (fun _ => False) tagr wr w' := Sm.below hB
  have hsz := hB.size
  exact ⟨h.box.mv s (fun x => x), h.bt, h.live.mv s (fun x => x) (fun _ _ x => x), h.one.mv s (fun x => x) (fun _ _ x => x), h.many.mv s (fun x => x) (fun _ _ x => x), h.rel, fun g hg => h.fresh g (by omega), h.S.trans (s.mono (fun _ x => x.elim)) h.T, h.T⟩
theorem PC.alloc (h : PC w tag wr tagr b ov ow o1 om N m vs n i1 vs1 i2 vs2) (o : Obj) : PC w tag (wr.alloc o) tagr b ov ow o1 om N m vs n i1 vs1 i2 vs2 := h.below ((Below.refl _ _).alloc (Nat.le_refl _) o)
theorem PC.drew (h : PC w tag wr tagr b ov ow o1 om N m vs n i1 vs1 i2 vs2) : PC w tag wr.drew tagr b ov ow o1 om N m vs n i1 vs1 i2 vs2 := h.below (Below.refl _ _).drew
/-- A row that lies in the block of another one that grew where it lay. -/
theorem keep_row {w3 : World} {lv u : Value} {g nl nu K cap : Nat} {xsu ys : List Int} (hu : wr.ownsRow 0 3 1 u nu (cellsI xsu))
    (hnew : w3.ownsRow 0 3 1 (.slice (some ⟨g, 0, none⟩) K cap) K (cellsI ys))
    (hat : (lv = .slice (some ⟨g, 0, none⟩) nl cap ∧ wr.grownBy w3 (some g)) ∨ (g = wr.heap.size ∧ wr.grownBy w3 none))
    (hrel : Rel u lv) (hK : nu ≤ K) (hys : ys.take nu = xsu) : w3.ownsRow 0 3 1 u nu (cellsI xsu) := by
  rcases hat with ⟨e, hg⟩ | ⟨e, hg⟩
  · by_cases h : u.ownBlock = some g
    · obtain ⟨n1, n2, cap', e1, e2⟩ := hrel g h (by rw [e]; rfl)
      rw [e] at e2
      injection e2 with _ _ e3
      subst e3
      obtain ⟨oa, cu, e4⟩ := own_shape hu
      rw [e1] at e4
      injection e4 with _ e5 _
      subst e5
      rw [e1]
      have h2 := owns_short hnew hK
      have e6 : (cellsI ys).take (n1 * 1) = cellsI xsu := by rw [Nat.mul_one, ← hys]; simp [cellsI, List.map_take]
      rwa [e6] at h2
    · refine owns_same hu fun k hk ek => hg.block k hk fun e5 => ?_
      rw [← e5] at h; exact h ek
  · exact owns_same hu fun k hk ek => hg.block k hk (by simp)
theorem PC.grow (h : PC w tag wr tagr b ov ow o1 om N m vs n i1 vs1 i2 vs2) {w3 : World} {i : Nat} {v lv : Value} {g nl K cap : Nat} {ys : List Int} (hv : vs[i]? = some v)
    (hlt : ∀ k, lv.ownBlock = some k → tagr k = cL i) (hrel : Rel v lv)
    (hnew : w3.ownsRow 0 3 1 (.slice (some ⟨g, 0, none⟩) K cap) K (cellsI ys))
    (hat : (lv = .slice (some ⟨g, 0, none⟩) nl cap ∧ wr.grownBy w3 (some g)) ∨ (g = wr.heap.size ∧ wr.grownBy w3 none))
    (hK : n i ≤ K) (hys : ys.take (n i) = List.replicate (n i) (mkA i))
    (h1 : ∀ u, vs1[i]? = some u → Rel u lv ∧ n i + 16 ≤ K ∧ ys.take (n i + 16) = grA n 16 i) (h2 : i2 ≤ i) :
    ∃ tag3, PC w tag w3 tag3 b ov ow o1 om N m vs n i1 vs1 i2 vs2 ∧ tag3 g = cL i ∧ Rel v (.slice (some ⟨g, 0, none⟩) K cap) ∧ ∀ k, tagr k ≠ 0 → tag3 k = tagr k := by
  have hg : tagr g = cL i ∨ g = wr.heap.size := by
    rcases hat with ⟨e, _⟩ | ⟨e, _⟩
    · exact .inl (hlt g (by rw [e]; rfl))
    · exact .inr e
  have hglt : g < w3.heap.size := owns_lt hnew rfl
  let tag3 : Nat → Nat := fun k => if k = g then cL i else tagr k
  have t3 : tag3 g = cL i := if_pos rfl
  have ht : ∀ k, tagr k ≠ 0 → tag3 k = tagr k := fun k hk => by
    show (if k = g then cL i else tagr k) = tagr k
    by_cases e : k = g
    · subst e
      rw [if_pos rfl]
      rcases hg with e | e
      · exact e.symm
      · exact absurd (h.fresh k (by omega)) hk
    · rw [if_neg e]
  have s : Sm (· = cL i) tagr wr w3 := by
    rcases hat with ⟨e, hg⟩ | ⟨_, hg⟩
    · exact Sm.grown hg fun k ek => by cases ek; exact hlt g (by rw [e]; rfl)
    · exact Sm.grown hg fun k ek => by cases ek
  have hinj : ∀ j, j ≠ i → cL j ≠ cL i := fun j hj => by unfold cL; omega
  have hne : ∀ t, t < 10 → ¬ t = cL i := fun t h => by unfold cL; omega
  have hL : Fam w3 tagr 2 cL ov m vs (fun j => List.replicate (n j) (mkA j)) := h.live.mvRow (i := i) s (hne 2 (by decide)) (fun j _ hj => hinj j hj)
    (fun v' hv' => by
      rw [hv] at hv'; cases hv'
      have hin := h.live.inner i v hv
      have hq : (List.replicate (n i) (mkA i)).length = n i := List.length_replicate ..
      show w3.ownsRow 0 3 1 v (List.replicate (n i) (mkA i)).length (cellsI (List.replicate (n i) (mkA i)))
      refine keep_row hin hnew hat hrel (by omega) (by rw [hq]; exact hys)) (fun _ _ _ => rfl)
  have hO : Fam w3 tagr 4 cL o1 i1 vs1 (grA n 16) := h.one.mvRow (i := i) s (hne 4 (by decide)) (fun j _ hj => hinj j hj)
    (fun u hu => by
      obtain ⟨r1, r2, r3⟩ := h1 u hu
      have hq : (grA n 16 i).length = n i + 16 := by rw [grA, List.length_append, List.length_replicate, List.length_replicate]
      exact keep_row (h.one.inner i u hu) hnew hat r1 (by omega) (by rw [hq]; exact r3)) (fun _ _ _ => rfl)
  have hM : Fam w3 tagr 5 cL om i2 vs2 (grA n 700) := h.many.mv s (hne 5 (by decide)) (fun j hj => hinj j (by omega))
  have hc0 : ∀ j, cL j ≠ 0 := fun j => by unfold cL; omega
  refine ⟨tag3, ⟨h.box.mv s (by rw [h.bt]; exact hne 1 (by decide)), (ht b (by rw [h.bt]; decide)).trans h.bt, hL.tags ht (by decide) hc0, hO.tags ht (by decide) hc0, hM.tags ht (by decide) hc0, h.rel, fun k hk => ?_, h.S.trans (s.mono fun t et => by rw [et]; exact hc0 i) h.T, fun k hk => ?_⟩, t3, ?_, ht⟩
  · have := s.size
    show (if k = g then cL i else tagr k) = 0
    rw [if_neg (by omega)]
    exact h.fresh k (by omega)
  · show (if k = g then cL i else tagr k) = tag k
    by_cases e : k = g
    · subst e
      rw [if_pos rfl, ← h.T k hk]
      rcases hg with e | e
      · exact e.symm
      · have := h.S.size; omega
    · rw [if_neg e]; exact h.T k hk
  · rcases hat with ⟨e, _⟩ | ⟨e, _⟩
    · intro k e1 e2
      obtain ⟨n1, n2, cap', e3, e4⟩ := hrel k e1 (by rw [e]; exact e2)
      rw [e] at e4
      injection e4 with e5 _ e6
      injection e5 with e7
      injection e7 with e8
      subst e8
      subst e6
      exact ⟨n1, K, cap, e3, rfl⟩
    · intro k e1 e2
      have : k = g := by cases e2; rfl
      subst this
      have := owns_lt (h.live.inner i v hv) e1
      omega
theorem Rel.symm {v u : Value} (h : Rel v u) : Rel u v := fun g e1 e2 => by
  obtain ⟨n, n1, cap, e3, e4⟩ := h g e2 e1
  exact ⟨n1, n, cap, e4, e3⟩
theorem PC.push1 (h : PC w tag wr tagr b ov ow o1 om N m vs n i1 vs1 i2 vs2) {w3 : World} {v lv : Value} {g cap : Nat} (hv : vs[i1]? = some v) (hrel : Rel v lv)
    (hlt : ∀ k, lv.ownBlock = some k → tagr k = cL i1) (hrow : wr.ownsRow 0 3 1 lv (n i1 + 16) (cellsI (grA n 16 i1)))
    (hnew : w3.ownsRow 0 23 1 (.slice (some ⟨g, 0, none⟩) (i1 + 1) cap) (i1 + 1) (vs1 ++ [lv])) (hold : w3.ownsRow 0 23 1 o1 i1 vs1)
    (hat : (o1 = .slice (some ⟨g, 0, none⟩) i1 cap ∧ wr.grownBy w3 (some g)) ∨ (g = wr.heap.size ∧ wr.grownBy w3 none)) :
    ∃ tag3, PC w tag (w3.setCell ⟨b, 6, none⟩ (.slice (some ⟨g, 0, none⟩) (i1 + 1) cap)) tag3 b ov ow (.slice (some ⟨g, 0, none⟩) (i1 + 1) cap) om N m vs n (i1 + 1) (vs1 ++ [lv]) i2 vs2 := by
  have hg : tagr g = 4 ∨ g = wr.heap.size := by
    rcases hat with ⟨e, _⟩ | ⟨e, _⟩
    · exact .inl (h.one.otag g (by rw [e]; rfl))
    · exact .inr e
  have hglt : g < w3.heap.size := owns_lt hnew rfl
  have s : Sm (· = 4) tagr wr w3 := by
    rcases hat with ⟨e, hg⟩ | ⟨_, hg⟩
    · exact Sm.grown hg fun k ek => by cases ek; exact h.one.otag g (by rw [e]; rfl)
    · exact Sm.grown hg fun k ek => by cases ek
  let tag3 : Nat → Nat := fun k => if k = g then 4 else tagr k
  have t3 : tag3 g = 4 := if_pos rfl
  have ht : ∀ k, tagr k ≠ 0 → tag3 k = tagr k := fun k hk => by
    show (if k = g then 4 else tagr k) = tagr k
    by_cases e : k = g
    · subst e
      rw [if_pos rfl]
      rcases hg with e | e
      · exact e.symm
      · exact absurd (h.fresh k (by omega)) hk
    · rw [if_neg e]
  have hc0 : ∀ j, cL j ≠ 0 := fun j => by unfold cL; omega
  have hcs : ∀ j t, t < 10 → cL j ≠ t := fun j t ht => by unfold cL; omega
  have hbt : tag3 b = 1 := (ht b (by rw [h.bt]; decide)).trans h.bt
  have s6 : Sm (· = 1) tag3 w3 (w3.setCell ⟨b, 6, none⟩ (.slice (some ⟨g, 0, none⟩) (i1 + 1) cap)) := Sm.setCell _ hbt
  have hL := ((h.live.mv s (by decide) (fun j _ => hcs j 4 (by decide))).tags ht (by decide) hc0).mv s6 (by decide) (fun j _ => hcs j 1 (by decide))
  have hO := ((h.many.mv s (by decide) (fun j _ => hcs j 4 (by decide))).tags ht (by decide) hc0).mv s6 (by decide) (fun j _ => hcs j 1 (by decide))
  have hrow3 : w3.ownsRow 0 3 1 lv (grA n 16 i1).length (cellsI (grA n 16 i1)) := by
    have hq : (grA n 16 i1).length = n i1 + 16 := by rw [grA, List.length_append, List.length_replicate, List.length_replicate]
    rw [hq]
    exact owns_same hrow fun k hk ek => s.block k hk (by show ¬ tagr k = 4; rw [hlt k ek]; exact hcs _ 4 (by decide))
  have hP := ((((h.one.out s hold (fun j _ => hcs j 4 (by decide))).tags ht (by decide) hc0).push hnew (fun k ek => by cases ek; exact t3) hrow3 (fun k ek => (ht k (by rw [hlt k ek]; exact hc0 _)).trans (hlt k ek)))).mv s6 (by decide) (fun j _ => hcs j 1 (by decide))
  have hbx := (h.box.mv s (by rw [h.bt]; decide)).s6 (.slice (some ⟨g, 0, none⟩) (i1 + 1) cap)
  have hT : ∀ k, k < w.heap.size → tag3 k = tag k := fun k hk => by
    show (if k = g then 4 else tagr k) = tag k
    by_cases e : k = g
    · subst e
      rw [if_pos rfl, ← h.T k hk]
      rcases hg with e | e
      · exact e.symm
      · have := h.S.size; omega
    · rw [if_neg e]; exact h.T k hk
  refine ⟨tag3, ⟨hbx, hbt, hL, hP, hO, fun j v0 v1 hj hj1 => ?_, fun k hk => ?_, (h.S.trans (s.mono fun t et => by rw [et]; decide) h.T).trans (s6.mono fun t et => by rw [et]; decide) hT, hT⟩⟩
  · have hl := h.one.len
    by_cases e : j < vs1.length
    · rw [List.getElem?_append_left e] at hj1; exact h.rel j v0 v1 hj hj1
    · have hlt2 := (List.getElem?_eq_some_iff.1 hj1).1
      rw [List.length_append, List.length_singleton] at hlt2
      have : j = vs1.length := by omega
      subst this
      rw [List.getElem?_append_right (Nat.le_refl _), Nat.sub_self] at hj1
      rw [hl, hv] at hj
      cases hj
      cases hj1
      exact hrel
  · rw [size_set] at hk
    have := s.size
    show (if k = g then 4 else tagr k) = 0
    rw [if_neg (by omega)]
    exact h.fresh k (by omega)
theorem PC.push2 (h : PC w tag wr tagr b ov ow o1 om N m vs n i1 vs1 i2 vs2) {w3 : World} {lv : Value} {g cap : Nat} 
    (hlt : ∀ k, lv.ownBlock = some k → tagr k = cL i2) (hrow : wr.ownsRow 0 3 1 lv (n i2 + 700) (cellsI (grA n 700 i2)))
    (hnew : w3.ownsRow 0 23 1 (.slice (some ⟨g, 0, none⟩) (i2 + 1) cap) (i2 + 1) (vs2 ++ [lv])) (hold : w3.ownsRow 0 23 1 om i2 vs2)
    (hat : (om = .slice (some ⟨g, 0, none⟩) i2 cap ∧ wr.grownBy w3 (some g)) ∨ (g = wr.heap.size ∧ wr.grownBy w3 none)) :
    ∃ tag3, PC w tag (w3.setCell ⟨b, 7, none⟩ (.slice (some ⟨g, 0, none⟩) (i2 + 1) cap)) tag3 b ov ow o1 (.slice (some ⟨g, 0, none⟩) (i2 + 1) cap) N m vs n i1 vs1 (i2 + 1) (vs2 ++ [lv]) := by
  have hg : tagr g = 5 ∨ g = wr.heap.size := by
    rcases hat with ⟨e, _⟩ | ⟨e, _⟩
    · exact .inl (h.many.otag g (by rw [e]; rfl))
    · exact .inr e
  have hglt : g < w3.heap.size := owns_lt hnew rfl
  have s : Sm (· = 5) tagr wr w3 := by
    rcases hat with ⟨e, hg⟩ | ⟨_, hg⟩
    · exact Sm.grown hg fun k ek => by cases ek; exact h.many.otag g (by rw [e]; rfl)
    · exact Sm.grown hg fun k ek => by cases ek
  let tag3 : Nat → Nat := fun k => if k = g then 5 else tagr k
  have t3 : tag3 g = 5 := if_pos rfl
  have ht : ∀ k, tagr k ≠ 0 → tag3 k = tagr k := fun k hk => by
    show (if k = g then 5 else tagr k) = tagr k
    by_cases e : k = g
    · subst e
      rw [if_pos rfl]
      rcases hg with e | e
      · exact e.symm
      · exact absurd (h.fresh k (by omega)) hk
    · rw [if_neg e]
  have hc0 : ∀ j, cL j ≠ 0 := fun j => by unfold cL; omega
  have hcs : ∀ j t, t < 10 → cL j ≠ t := fun j t ht => by unfold cL; omega
  have hbt : tag3 b = 1 := (ht b (by rw [h.bt]; decide)).trans h.bt
  have s6 : Sm (· = 1) tag3 w3 (w3.setCell ⟨b, 7, none⟩ (.slice (some ⟨g, 0, none⟩) (i2 + 1) cap)) := Sm.setCell _ hbt
  have hL := ((h.live.mv s (by decide) (fun j _ => hcs j 5 (by decide))).tags ht (by decide) hc0).mv s6 (by decide) (fun j _ => hcs j 1 (by decide))
  have hO := ((h.one.mv s (by decide) (fun j _ => hcs j 5 (by decide))).tags ht (by decide) hc0).mv s6 (by decide) (fun j _ => hcs j 1 (by decide))
  have hrow3 : w3.ownsRow 0 3 1 lv (grA n 700 i2).length (cellsI (grA n 700 i2)) := by
    have hq : (grA n 700 i2).length = n i2 + 700 := by rw [grA, List.length_append, List.length_replicate, List.length_replicate]
    rw [hq]
    exact owns_same hrow fun k hk ek => s.block k hk (by show ¬ tagr k = 5; rw [hlt k ek]; exact hcs _ 5 (by decide))
  have hP := ((((h.many.out s hold (fun j _ => hcs j 5 (by decide))).tags ht (by decide) hc0).push hnew (fun k ek => by cases ek; exact t3) hrow3 (fun k ek => (ht k (by rw [hlt k ek]; exact hc0 _)).trans (hlt k ek)))).mv s6 (by decide) (fun j _ => hcs j 1 (by decide))
  have hbx := (h.box.mv s (by rw [h.bt]; decide)).s7 (.slice (some ⟨g, 0, none⟩) (i2 + 1) cap)
  have hT : ∀ k, k < w.heap.size → tag3 k = tag k := fun k hk => by
    show (if k = g then 5 else tagr k) = tag k
    by_cases e : k = g
    · subst e
      rw [if_pos rfl, ← h.T k hk]
      rcases hg with e | e
      · exact e.symm
      · have := h.S.size; omega
    · rw [if_neg e]; exact h.T k hk
  refine ⟨tag3, ⟨hbx, hbt, hL, hO, hP, h.rel, fun k hk => ?_, (h.S.trans (s.mono fun t et => by rw [et]; decide) h.T).trans (s6.mono fun t et => by rw [et]; decide) hT, hT⟩⟩
  · rw [size_set] at hk
    have := s.size
    show (if k = g then 5 else tagr k) = 0
    rw [if_neg (by omega)]
    exact h.fresh k (by omega)
theorem PC.boxO (h : PC w tag wr tagr b ov ow o1 om N m vs n i1 vs1 i2 vs2) {w3 : World} {g cap : Nat}
    (hat : (o1 = .slice (some ⟨g, 0, none⟩) i1 cap ∧ wr.grownBy w3 (some g)) ∨ (g = wr.heap.size ∧ wr.grownBy w3 none)) : BoxB w3 b ov ow o1 om N := by
  rcases hat with ⟨e, hg⟩ | ⟨_, hg⟩
  · exact h.box.mv (Sm.grown (X := (· = 4)) (tag := tagr) hg fun k ek => by cases ek; exact h.one.otag g (by rw [e]; rfl)) (by rw [h.bt]; decide)
  · exact h.box.mv (Sm.grown (X := (· = 4)) (tag := tagr) hg fun k ek => by cases ek) (by rw [h.bt]; decide)
theorem PC.boxM (h : PC w tag wr tagr b ov ow o1 om N m vs n i1 vs1 i2 vs2) {w3 : World} {g cap : Nat}
    (hat : (om = .slice (some ⟨g, 0, none⟩) i2 cap ∧ wr.grownBy w3 (some g)) ∨ (g = wr.heap.size ∧ wr.grownBy w3 none)) : BoxB w3 b ov ow o1 om N := by
  rcases hat with ⟨e, hg⟩ | ⟨_, hg⟩
  · exact h.box.mv (Sm.grown (X := (· = 5)) (tag := tagr) hg fun k ek => by cases ek; exact h.many.otag g (by rw [e]; rfl)) (by rw [h.bt]; decide)
  · exact h.box.mv (Sm.grown (X := (· = 5)) (tag := tagr) hg fun k ek => by cases ek) (by rw [h.bt]; decide)
theorem PC.lenO (h : PC w tag wr tagr b ov ow o1 om N m vs n i1 vs1 i2 vs2) (i : Nat) (hi : i1 ≤ i) : vs1[i]? = none := List.getElem?_eq_none (by rw [h.one.len]; exact hi)
end
end Go.Proofs.YtlijlelejobchaaGreatDoor.K
