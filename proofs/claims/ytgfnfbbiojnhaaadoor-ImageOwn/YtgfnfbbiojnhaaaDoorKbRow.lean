/- Rows of ints, wherever they lie. Families of rows in memory of their own, told apart by marks of the blocks. -/
import Derived.Test.YtgfnfbbiojnhaaaDoorKbApp
import Derived.WalkKit
import Derived.WalkSpells
import Derived.WalkLawsBesides
import Derived.BigRegion
import Derived.OwnWalk
import Derived.Laws.AppendOwnNone
import Derived.Laws.BytesArg
namespace Go.Proofs.YtgfnfbbiojnhaaaDoor.KB
open Go.RowKit
theorem hide' {p : Prop} (h : p) : Hid p := h
theorem ret_bool {a b : Bool} (h : a = b) : Ending.returned (.bool a) = .returned (.bool b) := by rw [h]
theorem infoI : (Tryd.prog.info? 5).map (fun i => (i.zero, i.size, i.bytes)) = some (some (.int .u8 0), 1, 1) := by kernel_rfl
theorem infoL : (Tryd.prog.info? 24).map (fun i => (i.zero, i.size, i.bytes)) = some (some (.slice none 0 0), 1, 24) := by kernel_rfl
/-- A row of numbers, wherever it lies. -/
def RowI (w : World) (v : Value) (l : List Int) : Prop := ∃ oa cap, v = .slice oa l.length cap ∧ (l.length ≤ cap ∧ (oa = none → cap = 0)) ∧ ∀ i z, l[i]? = some z → ∃ g o, oa = some ⟨g, o, none⟩ ∧ w.cell? ⟨g, o + i, none⟩ = some (.int .u8 z)
theorem cell_lt {W : World} {b o : Nat} {v : Value} (h : W.cell? ⟨b, o, none⟩ = some v) : b < W.heap.size := by
  rcases Nat.lt_or_ge b W.heap.size with h1 | h1
  · exact h1
  · rw [World.cell?, show W.heap[b]? = none from Array.getElem?_eq_none h1] at h; cases h
theorem RowI.below {w w' : World} {v : Value} {l : List Int} {n : Nat} (h : RowI w v l) (hb : Below n w w') (hn : w.heap.size ≤ n) : RowI w' v l := by
  obtain ⟨oa, cap, e, e0, h⟩ := h
  refine ⟨oa, cap, e, e0, fun i z hz => ?_⟩
  obtain ⟨g, o, e1, e2⟩ := h i z hz
  exact ⟨g, o, e1, (hb.cell (p := ⟨g, o + i, none⟩) (Nat.lt_of_lt_of_le (cell_lt e2) hn)).trans e2⟩
/-- Ints as a row's cells. -/
def cellsI (l : List Int) : List Value := l.map fun z => Value.int .u8 z
theorem cellsI_len (l : List Int) : (cellsI l).length = l.length := by simp [cellsI]
theorem cellsI_at {l : List Int} {j : Nat} {u : Value} (h : (cellsI l)[j]? = some u) : ∃ z, l[j]? = some z ∧ u = .int .u8 z := by
  unfold cellsI at h
  rw [List.getElem?_map] at h
  cases hz : l[j]? with
  | none => rw [hz] at h; cases h
  | some z => rw [hz] at h; cases h; exact ⟨z, rfl, rfl⟩
theorem one_cells (l : List Int) : ∀ u ∈ cellsI l, u.oneCell' = true := fun u hu => by
  obtain ⟨z, _, rfl⟩ := List.mem_map.1 hu
  rfl
theorem RowI.of_owns {w : World} {n₀ e : Nat} {v : Value} {n : Nat} {l : List Int} (h : w.ownsRow n₀ e 1 v n (cellsI l)) : RowI w v l := by
  have hl : n = l.length := by have := h.1; simp [cellsI] at this; omega
  subst hl
  rcases h.2 with ⟨rfl, h0⟩ | ⟨g, cap, cur, rfl, _, hb, hcap, _, _, hcur⟩
  · refine ⟨none, 0, by rw [h0], ⟨by omega, fun _ => rfl⟩, fun i z hz => ?_⟩
    have := (List.getElem?_eq_some_iff.1 hz).1
    omega
  · refine ⟨_, cap, rfl, ⟨hcap, fun e => by cases e⟩, fun i z hz => ⟨g, 0, rfl, ?_⟩⟩
    obtain ⟨hi, _⟩ := List.getElem?_eq_some_iff.1 hz
    have e1 : cur[i]? = some (Value.int .u8 z) := by
      have : (cur.toList.take (l.length * 1))[i]? = (cellsI l)[i]? := by rw [hcur]
      rw [List.getElem?_take_of_lt (by omega)] at this
      simpa [cellsI, hz] using this
    rw [Nat.zero_add]
    simp [World.cell?, hb, e1]
theorem heap_new (w : World) (o : Obj) : (w.alloc o).heap[w.heap.size]? = some o := by
  show (w.heap.push o)[w.heap.size]? = some o
  simp
theorem owns_zero (w : World) (b : Nat) (hb : b ≤ w.heap.size) (e : TypeId) : (w.alloc (.cells #[] e)).ownsRow b e 1 (.slice (some ⟨w.heap.size, 0, none⟩) 0 0) 0 (cellsI []) :=
  ⟨rfl, .inr ⟨_, 0, #[], rfl, hb, heap_new w _, Nat.le_refl _, by unfold maxLen; omega, rfl, rfl⟩⟩
/-- The text of bytes. -/
def strI (l : List Int) : ByteArray := strOfNums l
theorem conv_I {w : World} {v : Value} {l : List Int} (h : RowI w v l) : (convert 24 9 v).run Tryd.prog w = .ok (.string (strI l)) w := by
  obtain ⟨oa, cap, rfl, _, hc⟩ := h
  cases oa with
  | none =>
    cases l with
    | nil => exact run_convert_bytes_nil w 24 5 Tryd.underlying24 Tryd.underlying5 0 cap 9 Tryd.underlying9
    | cons a l => obtain ⟨g, o, e, _⟩ := hc 0 a rfl; cases e
  | some ad =>
    cases l with
    | nil =>
      have hl : (loadCells ad 0).run Tryd.prog w = .ok (([] : List Int).map (Value.int .u8)).toArray w := run_loadCells_list (P := Tryd.prog) w ad [] (fun j v hj => by simp at hj)
      show (convert 24 9 (.slice (some ad) 0 cap)).run Tryd.prog w = _
      rw [run_convert_bytes_string w 24 9 5 _ 0 cap Tryd.underlying24 Tryd.underlying5 Tryd.underlying9, run_bytesToString w _ 0 cap [] hl]
      rfl
    | cons a l =>
      obtain ⟨g, o, e, _⟩ := hc 0 a rfl
      cases e
      refine run_convert_bytes_arg w 24 5 Tryd.underlying24 Tryd.underlying5 g o _ cap (a :: l) rfl (fun i hi => ?_) 9 Tryd.underlying9
      obtain ⟨z, hz⟩ : ∃ z, (a :: l)[i]? = some z := ⟨_, List.getElem?_eq_getElem hi⟩
      obtain ⟨g', o', e', hcell⟩ := hc i z hz
      cases e'
      rw [hcell, List.getD_eq_getElem?_getD, hz]
      rfl
theorem drewN_below {n : Nat} {w w' : World} (h : Below n w w') : ∀ k, Below n w (w'.drewN k) := by
  intro k
  induction k with
  | zero => exact h
  | succ k ih => exact ih.drew
theorem conv_Id {w : World} {v : Value} {l : List Int} (h : RowI w v l) (q : Nat) : (convert 24 9 v).run Tryd.prog (w.drewN q) = .ok (.string (strI l)) (w.drewN q) :=
  conv_I (h.below (drewN_below (Below.refl w.heap.size w) q) (Nat.le_refl _))
/-- Blocks whose mark meets X may have been turned, and new ones made; all else stands. -/
structure Sm (X : Nat → Prop) (tag : Nat → Nat) (w w' : World) : Prop where
  os : w'.os = w.os
  tape : w'.tape = w.tape
  output : w'.output = w.output
  size : w.heap.size ≤ w'.heap.size
  block : ∀ g, g < w.heap.size → ¬ X (tag g) → w'.heap[g]? = w.heap[g]?
section
variable {X Y : Nat → Prop} {tag tag' : Nat → Nat} {w w' w2 : World}
theorem Sm.refl (X : Nat → Prop) (tag : Nat → Nat) (w : World) : Sm X tag w w := ⟨rfl, rfl, rfl, Nat.le_refl _, fun _ _ _ => rfl⟩
theorem Sm.trans (h : Sm X tag w w') (k : Sm X tag' w' w2) (ht : ∀ g, g < w.heap.size → tag' g = tag g) : Sm X tag w w2 :=
  ⟨k.os.trans h.os, k.tape.trans h.tape, k.output.trans h.output, Nat.le_trans h.size k.size, fun g hg hx => (k.block g (Nat.lt_of_lt_of_le hg h.size) (by rw [ht g hg]; exact hx)).trans (h.block g hg hx)⟩
theorem Sm.mono (h : Sm X tag w w') (hxy : ∀ t, X t → Y t) : Sm Y tag w w' := ⟨h.os, h.tape, h.output, h.size, fun g hg hy => h.block g hg fun hx => hy (hxy _ hx)⟩
theorem Sm.alloc (o : Obj) : Sm X tag w (w.alloc o) := ⟨rfl, rfl, rfl, by simp, fun _ hg _ => Below.heap_alloc _ _ _ hg⟩
theorem Sm.drew : Sm X tag w w.drew := ⟨rfl, rfl, rfl, Nat.le_refl _, fun _ _ _ => rfl⟩
theorem Sm.setCell {p : Addr} (u : Value) (hp : X (tag p.block)) : Sm X tag w (w.setCell p u) := ⟨rfl, rfl, rfl, by simp [World.setCell], fun g _ hx => Below.heap_setCell _ _ _ _ fun e => hx (by rw [e]; exact hp)⟩
theorem Sm.grown {row : Option Nat} (h : w.grownBy w' row) (hr : ∀ g, row = some g → X (tag g)) : Sm X tag w w' := ⟨h.os, h.tape, h.output, h.size, fun g hg hx => h.block g hg fun e => hx (hr g e.symm)⟩
theorem Sm.below (h : Below w.heap.size w w') : Sm X tag w w' := ⟨h.os, h.tape, h.output, h.size, fun g hg _ => h.block g hg⟩
theorem owns_same {b : Nat} {e : TypeId} {size : Nat} {v : Value} {n : Nat} {xs : List Value} (h : w.ownsRow b e size v n xs) (hs : ∀ g, g < w.heap.size → v.ownBlock = some g → w'.heap[g]? = w.heap[g]?) : w'.ownsRow b e size v n xs := by
  refine ⟨h.1, ?_⟩
  rcases h.2 with hn | ⟨g, cap, cur, rfl, hb, hgg, rest⟩
  · exact .inl hn
  · refine .inr ⟨g, cap, cur, rfl, hb, ?_, rest⟩
    rw [hs g (Array.getElem?_eq_some_iff.1 hgg).1 rfl]
    exact hgg
theorem owns_lt {b : Nat} {e : TypeId} {size : Nat} {v : Value} {n : Nat} {xs : List Value} (h : w.ownsRow b e size v n xs) {g : Nat} (hg : v.ownBlock = some g) : g < w.heap.size := (h.lt g hg).2
end
/-- A row of rows; the outer row's block bears the mark t, the block of row j the mark c j. -/
structure Fam (w : World) (tag : Nat → Nat) (t : Nat) (c : Nat → Nat) (ov : Value) (m : Nat) (vs : List Value) (rows : Nat → List Int) : Prop where
  outer : w.ownsRow 0 24 1 ov m vs
  otag : ∀ g, ov.ownBlock = some g → tag g = t
  inner : ∀ (j : Nat) (v : Value), vs[j]? = some v → w.ownsRow 0 5 1 v (rows j).length (cellsI (rows j))
  itag : ∀ (j : Nat) (v : Value) (g : Nat), vs[j]? = some v → v.ownBlock = some g → tag g = c j
section
variable {tag tag' : Nat → Nat} {w w' : World} {t : Nat} {c : Nat → Nat} {ov : Value} {m : Nat} {vs : List Value} {rows rows' : Nat → List Int} {X : Nat → Prop}
theorem Fam.len (h : Fam w tag t c ov m vs rows) : vs.length = m := by have := h.outer.1; omega
theorem Fam.mv (h : Fam w tag t c ov m vs rows) (hs : Sm X tag w w') (ht : ¬ X t) (hc : ∀ j, j < m → ¬ X (c j)) : Fam w' tag t c ov m vs rows := by
  refine ⟨owns_same h.outer fun g hg e => hs.block g hg (by rw [h.otag g e]; exact ht), h.otag, fun j v hj => owns_same (h.inner j v hj) fun g hg e => hs.block g hg ?_, h.itag⟩
  rw [h.itag j v g hj e]
  exact hc j (by have := (List.getElem?_eq_some_iff.1 hj).1; rw [h.len] at this; exact this)
theorem Fam.re (h : Fam w tag t c ov m vs rows) (ht : ∀ g, g < w.heap.size → tag' g = tag g) : Fam w tag' t c ov m vs rows :=
  ⟨h.outer, fun g e => (ht g (owns_lt h.outer e)).trans (h.otag g e), h.inner, fun j v g hj e => (ht g (owns_lt (h.inner j v hj) e)).trans (h.itag j v g hj e)⟩
/-- One row's block may have been turned: that row is shown anew. -/
theorem Fam.mvRow (h : Fam w tag t c ov m vs rows) {i : Nat} (hs : Sm X tag w w') (ht : ¬ X t) (hc : ∀ j, j < m → j ≠ i → ¬ X (c j)) (hi : ∀ v, vs[i]? = some v → w'.ownsRow 0 5 1 v (rows' i).length (cellsI (rows' i))) (hr : ∀ j, j < m → j ≠ i → rows' j = rows j) : Fam w' tag t c ov m vs rows' := by
  refine ⟨owns_same h.outer fun g hg e => hs.block g hg (by rw [h.otag g e]; exact ht), h.otag, fun j v hj => ?_, h.itag⟩
  have hjm : j < m := by have := (List.getElem?_eq_some_iff.1 hj).1; rw [h.len] at this; exact this
  by_cases e : j = i
  · subst e; exact hi v hj
  · rw [hr j hjm e]
    exact owns_same (h.inner j v hj) fun g hg e2 => hs.block g hg (by rw [h.itag j v g hj e2]; exact hc j hjm e)
theorem Fam.congr (h : Fam w tag t c ov m vs rows) (e : ∀ j, j < m → rows' j = rows j) : Fam w tag t c ov m vs rows' := by
  refine ⟨h.outer, h.otag, fun j v hj => ?_, h.itag⟩
  have hjm : j < m := by have := (List.getElem?_eq_some_iff.1 hj).1; rw [h.len] at this; exact this
  rw [e j hjm]; exact h.inner j v hj
/-- One row more. -/
theorem Fam.push (h : Fam w tag t c ov m vs rows) {ov' v : Value} (ho : w.ownsRow 0 24 1 ov' (m + 1) (vs ++ [v])) (hot : ∀ g, ov'.ownBlock = some g → tag g = t) (hi : w.ownsRow 0 5 1 v (rows m).length (cellsI (rows m))) (hit : ∀ g, v.ownBlock = some g → tag g = c m) : Fam w tag t c ov' (m + 1) (vs ++ [v]) rows := by
  have hl := h.len
  have key : ∀ (j : Nat) (u : Value), (vs ++ [v])[j]? = some u → vs[j]? = some u ∨ (j = m ∧ u = v) := fun j u hj => by
    by_cases e : j < vs.length
    · rw [List.getElem?_append_left e] at hj; exact .inl hj
    · have hlt := (List.getElem?_eq_some_iff.1 hj).1
      rw [List.length_append, List.length_singleton] at hlt
      have : j = vs.length := by omega
      subst this
      rw [List.getElem?_append_right (Nat.le_refl _), Nat.sub_self] at hj
      exact .inr ⟨hl, (Option.some.inj hj).symm⟩
  refine ⟨ho, hot, fun j u hj => ?_, fun j u g hj hg => ?_⟩
  · rcases key j u hj with h1 | ⟨rfl, rfl⟩
    · exact h.inner j u h1
    · exact hi
  · rcases key j u hj with h1 | ⟨rfl, rfl⟩
    · exact h.itag j u g h1 hg
    · exact hit g hg
end
end Go.Proofs.YtgfnfbbiojnhaaaDoor.KB
