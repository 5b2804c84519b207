/- Rows of ints, wherever they lie; provostkeep's Ints: what it answers. Families of rows in memory of their own, told apart by marks of the blocks. -/
import Derived.Test.YtmbdnhgmpmnhmaaGreatDoorKApp
import Derived.WalkKit
import Derived.WalkSpells
import Derived.WalkLawsBesides
import Derived.BigRegion
import Derived.OwnWalk
import Derived.Laws.AppendOwnNone
namespace Go.Proofs.YtmbdnhgmpmnhmaaGreatDoor.K
open Go.RowKit
theorem hide' {p : Prop} (h : p) : Hid p := h
theorem ret_bool {a b : Bool} (h : a = b) : Ending.returned (.bool a) = .returned (.bool b) := by rw [h]
theorem infoI : (Tryz.prog.info? 3).map (fun i => (i.zero, i.size, i.bytes)) = some (some (.int .i64 0), 1, 8) := by kernel_rfl
theorem infoL : (Tryz.prog.info? 23).map (fun i => (i.zero, i.size, i.bytes)) = some (some (.slice none 0 0), 1, 24) := by kernel_rfl
/-- A row of numbers, wherever it lies. -/
def RowI (w : World) (v : Value) (l : List Int) : Prop := ∃ oa cap, v = .slice oa l.length cap ∧ (l.length ≤ cap ∧ (oa = none → cap = 0)) ∧ ∀ i z, l[i]? = some z → ∃ g o, oa = some ⟨g, o, none⟩ ∧ w.cell? ⟨g, o + i, none⟩ = some (.int .i64 z)
theorem cell_lt {W : World} {b o : Nat} {v : Value} (h : W.cell? ⟨b, o, none⟩ = some v) : b < W.heap.size := by
  rcases Nat.lt_or_ge b W.heap.size with h1 | h1
  · exact h1
  · rw [World.cell?, show W.heap[b]? = none from Array.getElem?_eq_none h1] at h; cases h
theorem RowI.below {w w' : World} {v : Value} {l : List Int} {n : Nat} (h : RowI w v l) (hb : Below n w w') (hn : w.heap.size ≤ n) : RowI w' v l := by
  obtain ⟨oa, cap, e, e0, h⟩ := h
  refine ⟨oa, cap, e, e0, fun i z hz => ?_⟩
  obtain ⟨g, o, e1, e2⟩ := h i z hz
  exact ⟨g, o, e1, (hb.cell (p := ⟨g, o + i, none⟩) (Nat.lt_of_lt_of_le (cell_lt e2) hn)).trans e2⟩
/-- Ints as a row's cells. -/
def cellsI (l : List Int) : List Value := l.map fun z => Value.int .i64 z
theorem cellsI_len (l : List Int) : (cellsI l).length = l.length := by simp [cellsI]
theorem cellsI_at {l : List Int} {j : Nat} {u : Value} (h : (cellsI l)[j]? = some u) : ∃ z, l[j]? = some z ∧ u = .int .i64 z := by
  unfold cellsI at h
  rw [List.getElem?_map] at h
  cases hz : l[j]? with
  | none => rw [hz] at h; cases h
  | some z => rw [hz] at h; cases h; exact ⟨z, rfl, rfl⟩
theorem one_cells (l : List Int) : ∀ u ∈ cellsI l, u.oneCell' = true := fun u hu => by
  obtain ⟨z, _, rfl⟩ := List.mem_map.1 hu
  rfl
theorem RowI.of_owns {w : World} {n₀ e : Nat} {v : Value} {n : Nat} {l : List Int} (h : w.ownsRow n₀ e 1 v n (cellsI l)) : RowI w v l := by
  have hl : n = l.length := by have := h.1; simp [cellsI] at this; omega
  subst hl
  rcases h.2 with ⟨rfl, h0⟩ | ⟨g, cap, cur, rfl, _, hb, hcap, _, _, hcur⟩
  · refine ⟨none, 0, by rw [h0], ⟨by omega, fun _ => rfl⟩, fun i z hz => ?_⟩
    have := (List.getElem?_eq_some_iff.1 hz).1
    omega
  · refine ⟨_, cap, rfl, ⟨hcap, fun e => by cases e⟩, fun i z hz => ⟨g, 0, rfl, ?_⟩⟩
    obtain ⟨hi, _⟩ := List.getElem?_eq_some_iff.1 hz
    have e1 : cur[i]? = some (Value.int .i64 z) := by
      have : (cur.toList.take (l.length * 1))[i]? = (cellsI l)[i]? := by rw [hcur]
      rw [List.getElem?_take_of_lt (by omega)] at this
      simpa [cellsI, hz] using this
    rw [Nat.zero_add]
    simp [World.cell?, hb, e1]
theorem heap_new (w : World) (o : Obj) : (w.alloc o).heap[w.heap.size]? = some o := by
  show (w.heap.push o)[w.heap.size]? = some o
  simp
theorem owns_zero (w : World) (b : Nat) (hb : b ≤ w.heap.size) (e : TypeId) : (w.alloc (.cells #[] e)).ownsRow b e 1 (.slice (some ⟨w.heap.size, 0, none⟩) 0 0) 0 (cellsI []) :=
  ⟨rfl, .inr ⟨_, 0, #[], rfl, hb, heap_new w _, Nat.le_refl _, by unfold maxLen; omega, rfl, rfl⟩⟩
set_option maxRecDepth 100000 in
set_option maxHeartbeats 2000000 in
theorem keepInts (la lb : List Int) (va vb : Value) (w : World) (ha : RowI w va la) (hb : RowI w vb lb) (hn : la.length ≤ 1000000) (hm : lb.length ≤ 1000000) :
    Calls Tryz.prog 10 #[va, vb] w fun e w' => e = .returned (.bool (decide (la = lb))) ∧ Below w.heap.size w w' := by
  obtain ⟨oa, ca, rfl, _, hca⟩ := ha
  obtain ⟨ob, cb, rfl, _, hcb⟩ := hb
  by_cases hl : la.length = lb.length
  · have hca' := hide' hca
    have hcb' := hide' hcb
    clear hca hcb
    go_enter Tryz.func10, Tryz.ntmps10
    go_wp2
    go_loopw [5] (fun k wr => Below w.heap.size w wr ∧ ∃ (c : Nat), c ≤ la.length ∧ k = .int .i64 c ∧ Hid (la.take c = lb.take c)) (fun k _ => ((la.length : Int) - intOf k).toNat)
    case atStart => exact ⟨Below.refl _ _, 0, Nat.zero_le _, rfl, by show _ = _; simp⟩
    case round =>
      obtain ⟨hB, c, hc, rfl, hE⟩ := hrel
      by_cases hlt : c < la.length
      · obtain ⟨x, hx⟩ : ∃ x, la[c]? = some x := ⟨_, List.getElem?_eq_getElem hlt⟩
        obtain ⟨y, hy⟩ : ∃ y, lb[c]? = some y := ⟨_, List.getElem?_eq_getElem (by omega)⟩
        obtain ⟨ga, o1, rfl, c1'⟩ := hca'.out c x hx
        obtain ⟨gb, o2, rfl, c2'⟩ := hcb'.out c y hy
        have c1 := (hB.cell (p := ⟨ga, o1 + c, none⟩) (cell_lt c1')).trans c1'
        have c2 := (hB.cell (p := ⟨gb, o2 + c, none⟩) (cell_lt c2')).trans c2'
        clear c1' c2'
        have hx' := hide' hx
        have hy' := hide' hy
        have hltb : c < lb.length := by omega
        by_cases hxy : x = y
        · subst hxy
          clear hx hy
          go_wp2
          go_region
          go_wp2
          exact ⟨⟨hB.drew, c + 1, by omega, by go_num, by show _ = _; rw [List.take_add_one, List.take_add_one, hE.out, hx'.out, hy'.out]⟩, by simp [intOf]; omega⟩
        · have hd : (x != y) = true := by simpa using hxy
          clear hx hy
          go_wp2
          go_region
          go_wp2
          go_ret
          exact ⟨ret_bool (by rw [eq_comm]; simp only [decide_eq_false_iff_not]; intro e; subst e; rw [hx'.out] at hy'; exact hxy (Option.some.inj hy'.out)), hB.drew⟩
      · obtain rfl : c = la.length := by omega
        have e : Hid (la = lb) := by
          show _ = _
          have := hE.out
          rwa [List.take_length, hl, List.take_length] at this
        clear hE hca' hcb'
        go_wp2
        go_ret
        exact ⟨ret_bool (by simp [e.out]), hB⟩
  · have hd : ((la.length : Int) != (lb.length : Int)) = true := by rw [bne_iff_ne]; omega
    clear hca hcb
    go_enter Tryz.func10, Tryz.ntmps10
    go_wp2
    go_ret
    exact ⟨ret_bool (by rw [eq_comm]; simp only [decide_eq_false_iff_not]; intro e; exact hl (by rw [e])), Below.refl _ _⟩
/-- Blocks whose mark meets X may have been turned, and new ones made; all else stands. -/
structure Sm (X : Nat → Prop) (tag : Nat → Nat) (w w' : World) : Prop where
  os : w'.os = w.os
  tape : w'.tape = w.tape
  output : w'.output = w.output
  size : w.heap.size ≤ w'.heap.size
  block : ∀ g, g < w.heap.size → ¬ X (tag g) → w'.heap[g]? = w.heap[g]?
section
variable {X Y : Nat → Prop} {tag tag' : Nat → Nat} {w w' w2 : World}
theorem Sm.refl (X : Nat → Prop) (tag : Nat → Nat) (w : World) : Sm X tag w w := ⟨rfl, rfl, rfl, Nat.le_refl _, fun _ _ _ => rfl⟩
theorem Sm.trans (h : Sm X tag w w') (k : Sm X tag' w' w2) (ht : ∀ g, g < w.heap.size → tag' g = tag g) : Sm X tag w w2 :=
  ⟨k.os.trans h.os, k.tape.trans h.tape, k.output.trans h.output, Nat.le_trans h.size k.size, fun g hg hx => (k.block g (Nat.lt_of_lt_of_le hg h.size) (by rw [ht g hg]; exact hx)).trans (h.block g hg hx)⟩
theorem Sm.mono (h : Sm X tag w w') (hxy : ∀ t, X t → Y t) : Sm Y tag w w' := ⟨h.os, h.tape, h.output, h.size, fun g hg hy => h.block g hg fun hx => hy (hxy _ hx)⟩
theorem Sm.alloc (o : Obj) : Sm X tag w (w.alloc o) := ⟨rfl, rfl, rfl, by simp, fun _ hg _ => Below.heap_alloc _ _ _ hg⟩
theorem Sm.drew : Sm X tag w w.drew := ⟨rfl, rfl, rfl, Nat.le_refl _, fun _ _ _ => rfl⟩
theorem Sm.setCell {p : Addr} (u : Value) (hp : X (tag p.block)) : Sm X tag w (w.setCell p u) := ⟨rfl, rfl, rfl, by simp [World.setCell], fun g _ hx => Below.heap_setCell _ _ _ _ fun e => hx (by rw [e]; exact hp)⟩
theorem Sm.grown {row : Option Nat} (h : w.grownBy w' row) (hr : ∀ g, row = some g → X (tag g)) : Sm X tag w w' := ⟨h.os, h.tape, h.output, h.size, fun g hg hx => h.block g hg fun e => hx (hr g e.symm)⟩
theorem Sm.below (h : Below w.heap.size w w') : Sm X tag w w' := ⟨h.os, h.tape, h.output, h.size, fun g hg _ => h.block g hg⟩
theorem owns_same {b : Nat} {e : TypeId} {size : Nat} {v : Value} {n : Nat} {xs : List Value} (h : w.ownsRow b e size v n xs) (hs : ∀ g, g < w.heap.size → v.ownBlock = some g → w'.heap[g]? = w.heap[g]?) : w'.ownsRow b e size v n xs := by
  refine ⟨h.1, ?_⟩
  rcases h.2 with hn | ⟨g, cap, cur, rfl, hb, hgg, rest⟩
  · exact .inl hn
  · refine .inr ⟨g, cap, cur, rfl, hb, ?_, rest⟩
    rw [hs g (Array.getElem?_eq_some_iff.1 hgg).1 rfl]
    exact hgg
theorem owns_lt {b : Nat} {e : TypeId} {size : Nat} {v : Value} {n : Nat} {xs : List Value} (h : w.ownsRow b e size v n xs) {g : Nat} (hg : v.ownBlock = some g) : g < w.heap.size := (h.lt g hg).2
end
/-- A row of rows; the outer row's block bears the mark t, the block of row j the mark c j. -/
structure Fam (w : World) (tag : Nat → Nat) (t : Nat) (c : Nat → Nat) (ov : Value) (m : Nat) (vs : List Value) (rows : Nat → List Int) : Prop where
  outer : w.ownsRow 0 23 1 ov m vs
  otag : ∀ g, ov.ownBlock = some g → tag g = t
  inner : ∀ (j : Nat) (v : Value), vs[j]? = some v → w.ownsRow 0 3 1 v (rows j).length (cellsI (rows j))
  itag : ∀ (j : Nat) (v : Value) (g : Nat), vs[j]? = some v → v.ownBlock = some g → tag g = c j
section
variable {tag tag' : Nat → Nat} {w w' : World} {t : Nat} {c : Nat → Nat} {ov : Value} {m : Nat} {vs : List Value} {rows rows' : Nat → List Int} {X : Nat → Prop}
theorem Fam.len (h : Fam w tag t c ov m vs rows) : vs.length = m := by have := h.outer.1; omega
theorem Fam.mv (h : Fam w tag t c ov m vs rows) (hs : Sm X tag w w') (ht : ¬ X t) (hc : ∀ j, j < m → ¬ X (c j)) : Fam w' tag t c ov m vs rows := by
  refine ⟨owns_same h.outer fun g hg e => hs.block g hg (by rw [h.otag g e]; exact ht), h.otag, fun j v hj => owns_same (h.inner j v hj) fun g hg e => hs.block g hg ?_, h.itag⟩
  rw [h.itag j v g hj e]
  exact hc j (by have := (List.getElem?_eq_some_iff.1 hj).1; rw [h.len] at this; exact this)
theorem Fam.re (h : Fam w tag t c ov m vs rows) (ht : ∀ g, g < w.heap.size → tag' g = tag g) : Fam w tag' t c ov m vs rows :=
  ⟨h.outer, fun g e => (ht g (owns_lt h.outer e)).trans (h.otag g e), h.inner, fun j v g hj e => (ht g (owns_lt (h.inner j v hj) e)).trans (h.itag j v g hj e)⟩
/-- One row's block may have been turned: that row is shown anew. -/
theorem Fam.mvRow (h : Fam w tag t c ov m vs rows) {i : Nat} (hs : Sm X tag w w') (ht : ¬ X t) (hc : ∀ j, j < m → j ≠ i → ¬ X (c j)) (hi : ∀ v, vs[i]? = some v → w'.ownsRow 0 3 1 v (rows' i).length (cellsI (rows' i))) (hr : ∀ j, j < m → j ≠ i → rows' j = rows j) : Fam w' tag t c ov m vs rows' := by
  refine ⟨owns_same h.outer fun g hg e => hs.block g hg (by rw [h.otag g e]; exact ht), h.otag, fun j v hj => ?_, h.itag⟩
  have hjm : j < m := by have := (List.getElem?_eq_some_iff.1 hj).1; rw [h.len] at this; exact this
  by_cases e : j = i
  · subst e; exact hi v hj
  · rw [hr j hjm e]
    exact owns_same (h.inner j v hj) fun g hg e2 => hs.block g hg (by rw [h.itag j v g hj e2]; exact hc j hjm e)
theorem Fam.congr (h : Fam w tag t c ov m vs rows) (e : ∀ j, j < m → rows' j = rows j) : Fam w tag t c ov m vs rows' := by
  refine ⟨h.outer, h.otag, fun j v hj => ?_, h.itag⟩
  have hjm : j < m := by have := (List.getElem?_eq_some_iff.1 hj).1; rw [h.len] at this; exact this
  rw [e j hjm]; exact h.inner j v hj
/-- One row more. -/
theorem Fam.push (h : Fam w tag t c ov m vs rows) {ov' v : Value} (ho : w.ownsRow 0 23 1 ov' (m + 1) (vs ++ [v])) (hot : ∀ g, ov'.ownBlock = some g → tag g = t) (hi : w.ownsRow 0 3 1 v (rows m).length (cellsI (rows m))) (hit : ∀ g, v.ownBlock = some g → tag g = c m) : Fam w tag t c ov' (m + 1) (vs ++ [v]) rows := by
  have hl := h.len
  have key : ∀ (j : Nat) (u : Value), (vs ++ [v])[j]? = some u → vs[j]? = some u ∨ (j = m ∧ u = v) := fun j u hj => by
    by_cases e : j < vs.length
    · rw [List.getElem?_append_left e] at hj; exact .inl hj
    · have hlt := (List.getElem?_eq_some_iff.1 hj).1
      rw [List.length_append, List.length_singleton] at hlt
      have : j = vs.length := by omega
      subst this
      rw [List.getElem?_append_right (Nat.le_refl _), Nat.sub_self] at hj
      exact .inr ⟨hl, (Option.some.inj hj).symm⟩
  refine ⟨ho, hot, fun j u hj => ?_, fun j u g hj hg => ?_⟩
  · rcases key j u hj with h1 | ⟨rfl, rfl⟩
    · exact h.inner j u h1
    · exact hi
  · rcases key j u hj with h1 | ⟨rfl, rfl⟩
    · exact h.itag j u g h1 hg
    · exact hit g hg
end
end Go.Proofs.YtmbdnhgmpmnhmaaGreatDoor.K
