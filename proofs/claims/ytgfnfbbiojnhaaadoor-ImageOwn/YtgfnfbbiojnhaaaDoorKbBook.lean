/- provostkeep's Book: what it holds. -/
import Derived.Test.YtgfnfbbiojnhaaaDoorKbRow
namespace Go.Proofs.YtgfnfbbiojnhaaaDoor.KB
open Go.RowKit
/-- The book's own fields. -/
def BoxB (w : World) (b : Nat) (ov ow o1 om : Value) (N : Int) : Prop :=
  w.heap[b]? = some (.cells #[ov, ow, o1, om, .slice none 0 0, .slice none 0 0, .slice none 0 0, .slice none 0 0, .slice none 0 0, .slice none 0 0, .slice none 0 0, .slice none 0 0, .int .i64 N] 43 (0, 0))
section
variable {w w' : World} {b : Nat} {ov ow o1 om : Value} {N : Int} {X : Nat → Prop} {tag tag' : Nat → Nat}
theorem BoxB.lt (h : BoxB w b ov ow o1 om N) : b < w.heap.size := (Array.getElem?_eq_some_iff.1 h).1
theorem BoxB.mv (h : BoxB w b ov ow o1 om N) (hs : Sm X tag w w') (hx : ¬ X (tag b)) : BoxB w' b ov ow o1 om N := (hs.block b h.lt hx).trans h
theorem BoxB.fz (h : BoxB w b ov ow o1 om N) (k : Nat) : w.frozen? ⟨b, k, none⟩ = false := frozen_of_row w b k _ _ h
theorem BoxB.c0 (h : BoxB w b ov ow o1 om N) : w.cell? ⟨b, 0, none⟩ = some ov := by unfold BoxB at h; simp [World.cell?, h]
theorem BoxB.c1 (h : BoxB w b ov ow o1 om N) : w.cell? ⟨b, 1, none⟩ = some ow := by unfold BoxB at h; simp [World.cell?, h]
theorem BoxB.c2 (h : BoxB w b ov ow o1 om N) : w.cell? ⟨b, 2, none⟩ = some o1 := by unfold BoxB at h; simp [World.cell?, h]
theorem BoxB.c3 (h : BoxB w b ov ow o1 om N) : w.cell? ⟨b, 3, none⟩ = some om := by unfold BoxB at h; simp [World.cell?, h]
theorem BoxB.c4 (h : BoxB w b ov ow o1 om N) : w.cell? ⟨b, 4, none⟩ = some (.slice none 0 0) := by unfold BoxB at h; simp [World.cell?, h]
theorem BoxB.c5 (h : BoxB w b ov ow o1 om N) : w.cell? ⟨b, 5, none⟩ = some (.slice none 0 0) := by unfold BoxB at h; simp [World.cell?, h]
theorem BoxB.c6 (h : BoxB w b ov ow o1 om N) : w.cell? ⟨b, 6, none⟩ = some (.slice none 0 0) := by unfold BoxB at h; simp [World.cell?, h]
theorem BoxB.c7 (h : BoxB w b ov ow o1 om N) : w.cell? ⟨b, 7, none⟩ = some (.slice none 0 0) := by unfold BoxB at h; simp [World.cell?, h]
theorem BoxB.c8 (h : BoxB w b ov ow o1 om N) : w.cell? ⟨b, 8, none⟩ = some (.slice none 0 0) := by unfold BoxB at h; simp [World.cell?, h]
theorem BoxB.c9 (h : BoxB w b ov ow o1 om N) : w.cell? ⟨b, 9, none⟩ = some (.slice none 0 0) := by unfold BoxB at h; simp [World.cell?, h]
theorem BoxB.c10 (h : BoxB w b ov ow o1 om N) : w.cell? ⟨b, 10, none⟩ = some (.slice none 0 0) := by unfold BoxB at h; simp [World.cell?, h]
theorem BoxB.c11 (h : BoxB w b ov ow o1 om N) : w.cell? ⟨b, 11, none⟩ = some (.slice none 0 0) := by unfold BoxB at h; simp [World.cell?, h]
theorem BoxB.c12 (h : BoxB w b ov ow o1 om N) : w.cell? ⟨b, 12, none⟩ = some (.int .i64 N) := by unfold BoxB at h; simp [World.cell?, h]
theorem BoxB.s0 (h : BoxB w b ov ow o1 om N) (u : Value) : BoxB (w.setCell ⟨b, 0, none⟩ u) b u ow o1 om N := by
  have := heap_setCell_same w b 0 _ _ u h; simpa [BoxB] using this
theorem BoxB.s1 (h : BoxB w b ov ow o1 om N) (u : Value) : BoxB (w.setCell ⟨b, 1, none⟩ u) b ov u o1 om N := by
  have := heap_setCell_same w b 1 _ _ u h; simpa [BoxB] using this
theorem BoxB.s2 (h : BoxB w b ov ow o1 om N) (u : Value) : BoxB (w.setCell ⟨b, 2, none⟩ u) b ov ow u om N := by
  have := heap_setCell_same w b 2 _ _ u h; simpa [BoxB] using this
theorem BoxB.s3 (h : BoxB w b ov ow o1 om N) (u : Value) : BoxB (w.setCell ⟨b, 3, none⟩ u) b ov ow o1 u N := by
  have := heap_setCell_same w b 3 _ _ u h; simpa [BoxB] using this
theorem BoxB.s12 (h : BoxB w b ov ow o1 om N) (M : Int) : BoxB (w.setCell ⟨b, 12, none⟩ (.int .i64 M)) b ov ow o1 om M := by
  have := heap_setCell_same w b 12 _ _ (.int .i64 M) h; simpa [BoxB] using this
end
/-- What the book holds: the lists, and their copies. -/
structure Bk (w : World) (b : Nat) (tag : Nat → Nat) (ov ow : Value) (m : Nat) (vs us : List Value) (rows : Nat → List Int) (N : Nat) : Prop where
  box : BoxB w b ov ow (.slice none 0 0) (.slice none 0 0) N
  bt : tag b = 1
  live : Fam w tag 2 (fun j => 10 + 2 * j) ov m vs rows
  want : Fam w tag 3 (fun j => 11 + 2 * j) ow m us rows
  fresh : ∀ g, w.heap.size ≤ g → tag g = 0
  hN : m ≤ N ∧ N ≤ 1300000
  hrow : ∀ j, j < m → (rows j).length ≤ 1000000
def Book (w : World) (b : Nat) (tag : Nat → Nat) : Prop := ∃ ov ow m vs us rows N, Bk w b tag ov ow m vs us rows N
/-- What is not the book's, nor the row's, stands. -/
structure Fr (tag : Nat → Nat) (v : Value) (w : World) (tag' : Nat → Nat) (w' : World) : Prop where
  os : w'.os = w.os
  tape : w'.tape = w.tape
  output : w'.output = w.output
  size : w.heap.size ≤ w'.heap.size
  tg : ∀ g, g < w.heap.size → tag g = 0 → v.ownBlock ≠ some g → tag' g = 0
  block : ∀ g, g < w.heap.size → tag g = 0 → v.ownBlock ≠ some g → w'.heap[g]? = w.heap[g]?
section
variable {tag tag' : Nat → Nat} {w w' : World} {t : Nat} {c : Nat → Nat} {ov : Value} {m : Nat} {vs : List Value} {rows : Nat → List Int}
/-- The outer row's block may have been turned: it is shown anew. -/
theorem Fam.out (h : Fam w tag t c ov m vs rows) (hs : Sm (· = t) tag w w') (ho : w'.ownsRow 0 24 1 ov m vs) (hc : ∀ j, j < m → c j ≠ t) : Fam w' tag t c ov m vs rows := by
  refine ⟨ho, h.otag, fun j v hj => owns_same (h.inner j v hj) fun g hg e => hs.block g hg ?_, h.itag⟩
  rw [h.itag j v g hj e]
  exact hc j (by have := (List.getElem?_eq_some_iff.1 hj).1; rw [h.len] at this; exact this)
theorem Fam.tags (h : Fam w tag t c ov m vs rows) (ht : ∀ g, tag g ≠ 0 → tag' g = tag g) (h0 : t ≠ 0) (hc : ∀ j, c j ≠ 0) : Fam w tag' t c ov m vs rows :=
  ⟨h.outer, fun g e => (ht g (by rw [h.otag g e]; exact h0)).trans (h.otag g e), h.inner, fun j v g hj e => (ht g (by rw [h.itag j v g hj e]; exact hc j)).trans (h.itag j v g hj e)⟩
end
theorem own_one {w : World} {b : Nat} {e : TypeId} {size : Nat} {v : Value} {n : Nat} {xs : List Value} (h : w.ownsRow b e size v n xs) : v.oneCell' = true := by
  rcases h.2 with ⟨rfl, _⟩ | ⟨g, cap, cur, rfl, _⟩ <;> rfl
theorem own_shape {w : World} {b : Nat} {e : TypeId} {size : Nat} {v : Value} {n : Nat} {xs : List Value} (h : w.ownsRow b e size v n xs) : ∃ oa cap, v = .slice oa n cap := by
  rcases h.2 with ⟨rfl, rfl⟩ | ⟨g, cap, cur, rfl, _⟩
  · exact ⟨_, _, rfl⟩
  · exact ⟨_, _, rfl⟩
/-- append([]int{}, l...): a copy in new memory. -/
theorem wp_copyZ {o : Oper} {a : Act} {K : Act → World → Prop} {Q : Exit → Act → World → Prop} (W : World) (s x : Operand) (H : Nat) (v : Value) (l : List Int)
    (ho : o.op = .call { callee := .builtin .append, args := #[s, x], argTypes := #[24, 24] }) (hs : a.eval s = .slice (some ⟨H, 0, none⟩) 0 0)
    (hH : W.ownsRow H 5 1 (.slice (some ⟨H, 0, none⟩) 0 0) 0 []) (hx : a.eval x = v) (hv : RowI W v l) (hl : l.length ≤ 1000000)
    (h : ∀ u w', w'.ownsRow H 5 1 u l.length (cellsI l) → W.grownBy w' (some H) → K (a.put o.dst u) w') : o.wp Tryd.prog a W K Q := by
  obtain ⟨i0, hi, hz0, hz1, hz2⟩ := info_parts infoI
  obtain ⟨oa, cap, rfl, hcap, hc⟩ := hv
  have hHs : H ≤ W.heap.size := Nat.le_of_lt (hH.lt H rfl).2
  cases oa with
  | none =>
    have hc0 := hcap.2 rfl
    have hl0 : l.length = 0 := by have := hcap.1; omega
    have hn : l = [] := List.eq_nil_of_length_eq_zero hl0
    subst hn
    subst hc0
    have hrun := run_append_owned_none (P := Tryd.prog) (w := W) H 24 o.type 5 i0 1 Tryd.underlying24 hi _ 0 [] hH
    unfold Oper.wp
    simp only [execOp, ho, resolve, invoke, builtin, hs, hx, Sem.run_bind, Sem.run_pure, Result.andThen_ok, List.map_toArray, List.map_cons, List.map_nil, List.length_nil, hrun]
    exact h _ _ hH ⟨rfl, rfl, rfl, Nat.le_refl _, fun _ _ _ => rfl⟩
  | some ad =>
    have hnews : ∀ j u, (cellsI l)[j]? = some u → W.cell? (ad.add j) = some u := fun j u hu => by
      obtain ⟨z, hz, rfl⟩ := cellsI_at hu
      obtain ⟨g, o, e, hcell⟩ := hc j z hz
      cases e
      rw [Addr.add_lit]; exact hcell
    obtain ⟨v', w', hr, h2, h3, _, _⟩ := run_append_own_at (P := Tryd.prog) W H 24 o.type 5 i0 (.int .u8 0) 1 1 Tryd.underlying24 hi hz0 hz1 hz2 rfl (by decide) _ 0 [] hH ad l.length cap (cellsI l) (by simp [cellsI]) hnews (one_cells _) (by unfold maxLen; omega) (by omega) hHs
    unfold Oper.wp
    simp only [execOp, ho, resolve, invoke, builtin, hs, hx, Sem.run_bind, Sem.run_pure, Result.andThen_ok, List.map_toArray, List.map_cons, List.map_nil, hr]
    rw [Nat.zero_add] at h2
    exact h _ _ h2 h3
set_option maxHeartbeats 400000 in
theorem bookFull (b : Nat) (N : Nat) (w : World) (hc : w.cell? ⟨b, 12, none⟩ = some (.int .i64 N)) :
    Calls Tryd.prog 22 #[.pointer (some ⟨b, 0, none⟩)] w fun e w' => e = .returned (.bool (decide (200000 < N))) ∧ w' = w := by
  go_enter Tryd.func22, Tryd.ntmps22
  go_wp2
  go_ret
  exact ⟨ret_bool (by simp; omega), rfl⟩
end Go.Proofs.YtgfnfbbiojnhaaaDoor.KB
