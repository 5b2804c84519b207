/- What stands in DiskOwn: the disk, the bytes as they were, the book. -/
import Derived.Test.YtkabileeincjaaaDkO
import Derived.Test.YtkabileeincjaaaKbStand
import Derived.Test.YtkabileeincjaaaKbInts
namespace Go.Proofs.Ytkabileeincjaaa
open Go.RowKit
theorem cells_kb (L : List Nat) : KB.cellsI (L.map fun z : Nat => (z : Int)) = cellsB L := by simp [KB.cellsI, cellsB]
theorem own_kb {W : World} {B : Nat} {v : Value} {L : List Nat} (h : W.ownsRow B 5 1 v L.length (cellsB L)) : W.ownsRow 0 5 1 v (L.map fun z : Nat => (z : Int)).length (KB.cellsI (L.map fun z : Nat => (z : Int))) := by
  rw [cells_kb, List.length_map]
  refine ⟨h.1, ?_⟩
  rcases h.2 with q | ⟨g', cap, cur, e1, _, e3⟩
  · exact .inl q
  · exact .inr ⟨g', cap, cur, e1, Nat.zero_le _, e3⟩
theorem own_bk {W : World} {g : Nat} {L : List Nat} (h : BkB W g L) (hl : L.length ≤ 10000000) : W.ownsRow 0 5 1 (.slice (some ⟨g, 0, none⟩) L.length L.length) L.length (cellsB L) :=
  ⟨by rw [cellsB_len]; omega, .inr ⟨g, L.length, (cellsB L).toArray, rfl, Nat.zero_le _, h, Nat.le_refl _, by unfold maxLen; omega, by simp [cellsB_len], by rw [Nat.mul_one]; exact List.take_of_length_le (by rw [cellsB_len]; exact Nat.le_refl _)⟩⟩
/-- A book stands where only blocks without a mark are written. -/
theorem book_mv {W W' : World} {b : Nat} {tag : Nat → Nat} (h : KB.Book W b tag) (hs : KB.Sm (· = 0) tag W W') : KB.Book W' b tag := by
  obtain ⟨ov, ow, m, vs, us, rows, N, hk⟩ := h
  have hb := hk.bt
  exact ⟨ov, ow, m, vs, us, rows, N, ⟨hk.box.mv hs (by rw [hb]; decide), hk.bt, hk.live.mv hs (by decide) (fun j _ => by omega), hk.want.mv hs (by decide) (fun j _ => by omega), fun g hg => hk.fresh g (Nat.le_trans hs.size hg), hk.hN, hk.hrow⟩⟩
theorem book_lt {W : World} {b : Nat} {tag : Nat → Nat} (h : KB.Book W b tag) : b < W.heap.size := by
  obtain ⟨ov, ow, m, vs, us, rows, N, hk⟩ := h
  exact hk.box.lt
theorem book_tag {W : World} {b : Nat} {tag : Nat → Nat} (h : KB.Book W b tag) : tag b = 1 := by
  obtain ⟨ov, ow, m, vs, us, rows, N, hk⟩ := h
  exact hk.bt
theorem book_fresh {W : World} {b : Nat} {tag : Nat → Nat} (h : KB.Book W b tag) : ∀ g, W.heap.size ≤ g → tag g = 0 := by
  obtain ⟨ov, ow, m, vs, us, rows, N, hk⟩ := h
  exact hk.fresh
theorem book_start (w : World) : KB.Book (w.alloc (.cells #[.slice none 0 0, .slice none 0 0, .slice none 0 0, .slice none 0 0, .slice none 0 0, .slice none 0 0, .slice none 0 0, .slice none 0 0, .slice none 0 0, .slice none 0 0, .slice none 0 0, .slice none 0 0, .int .i64 0] 56)) w.heap.size (fun g => if g = w.heap.size then 1 else 0) :=
  ⟨_, _, 0, [], [], fun _ => [], 0, ⟨heap_new w _, if_pos rfl, ⟨World.ownsRow_nil _ _ _ _, fun g e => by simp [Value.ownBlock] at e, fun j v hj => by simp at hj, fun j v g hj => by simp at hj⟩, ⟨World.ownsRow_nil _ _ _ _, fun g e => by simp [Value.ownBlock] at e, fun j v hj => by simp at hj, fun j v g hj => by simp at hj⟩, fun g hg => if_neg (by simp at hg; omega), ⟨Nat.le_refl _, by decide⟩, fun j hj => by omega⟩⟩
/-- The disk, the bytes as they were, the book; only marked blocks are the book's. -/
structure Ow (w : World) (g gb n gw cw : Nat) (D : Dk) (Ls : List Nat) (b : Nat) (tag : Nat → Nat) (W : World) : Prop where
  dk : DkA W g gb D
  ok : DkO D n
  was : W.ownsRow 0 5 1 (.slice (some ⟨gw, 0, none⟩) Ls.length cw) Ls.length (cellsB Ls)
  bk : KB.Book W b tag
  tg : tag g = 0
  tgb : tag gb = 0
  tgw : tag gw = 0
  low : ∀ k, k < w.heap.size → tag k = 0
  geg : w.heap.size ≤ g
  geb : w.heap.size ≤ gb
  gew : w.heap.size ≤ gw
  n1 : gw ≠ g ∧ gw ≠ gb
  bel : Below w.heap.size w W
section
variable {w W W' : World} {g gb n gw cw b : Nat} {D : Dk} {Ls : List Nat} {tag : Nat → Nat}
theorem own_move {W W' : World} {B : Nat} {e : TypeId} {sz x m cap : Nat} {xs : List Value} (h : W.ownsRow B e sz (.slice (some ⟨x, 0, none⟩) m cap) m xs) (hb : W'.heap[x]? = W.heap[x]?) : W'.ownsRow B e sz (.slice (some ⟨x, 0, none⟩) m cap) m xs := by
  refine ⟨h.1, ?_⟩
  rcases h.2 with ⟨e, _⟩ | ⟨g', c, cur, e, h1, hg, h3⟩
  · cases e
  · cases e; exact .inr ⟨x, cap, cur, rfl, h1, hb.trans hg, h3⟩
theorem own_blt {W : World} {B : Nat} {e : TypeId} {sz x m cap : Nat} {xs : List Value} (h : W.ownsRow B e sz (.slice (some ⟨x, 0, none⟩) m cap) m xs) : x < W.heap.size := by
  rcases h.2 with ⟨e, _⟩ | ⟨g', c, cur, e, h1, hg, h3⟩
  · cases e
  · cases e; exact blk_lt hg
theorem Ow.up (h : Ow w g gb n gw cw D Ls b tag W) (hb : Below W.heap.size W W') : Ow w g gb n gw cw D Ls b tag W' :=
  ⟨h.dk.below hb (Nat.le_refl _), h.ok, own_move h.was (hb.block gw (own_blt h.was)), book_mv h.bk (KB.Sm.below hb), h.tg, h.tgb, h.tgw, h.low, h.geg, h.geb, h.gew, h.n1, h.bel.trans (hb.mono h.bel.size)⟩
theorem Ow.drew (h : Ow w g gb n gw cw D Ls b tag W) : Ow w g gb n gw cw D Ls b tag W.drew := h.up (Below.refl _ W).drew
theorem Ow.fr {tag' : Nat → Nat} {v : Value} {x : Nat} (h : Ow w g gb n gw cw D Ls b tag W) (hx : v.ownBlock = some x) (hw : w.heap.size ≤ x) (h1 : x ≠ g ∧ x ≠ gb ∧ x ≠ gw) (hk : KB.Book W' b tag') (hf : KB.Fr tag v W tag' W') : Ow w g gb n gw cw D Ls b tag' W' := by
  have ne : ∀ k, k ≠ x → v.ownBlock ≠ some k := fun k hk e => hk (by rw [hx] at e; cases e; rfl)
  have l1 := blk_lt h.dk.1
  have l2 := blk_lt h.dk.2
  have l3 := own_blt h.was
  have l4 := h.bel.size
  have nl : ∀ k, k < w.heap.size → k ≠ x := fun k hk => by omega
  refine ⟨⟨(hf.block g l1 h.tg (ne g h1.1.symm)).trans h.dk.1, (hf.block gb l2 h.tgb (ne gb h1.2.1.symm)).trans h.dk.2⟩, h.ok, own_move h.was (hf.block gw l3 h.tgw (ne gw h1.2.2.symm)), hk, hf.tg g l1 h.tg (ne g h1.1.symm), hf.tg gb l2 h.tgb (ne gb h1.2.1.symm), hf.tg gw l3 h.tgw (ne gw h1.2.2.symm), fun k hk => hf.tg k (by omega) (h.low k hk) (ne k (nl k hk)), h.geg, h.geb, h.gew, h.n1, h.bel.trans ⟨hf.os, hf.tape, hf.output, hf.size, fun k hk => hf.block k (by omega) (h.low k hk) (ne k (nl k hk))⟩⟩
theorem Ow.write {D' : Dk} (h : Ow w g gb n gw cw D Ls b tag W) (hd : DkA W' g gb D') (hk : DkO D' n) (kp : Kp g gb W W') : Ow w g gb n gw cw D' Ls b tag W' :=
  ⟨hd, hk, own_move h.was (kp.block gw (own_blt h.was) h.n1.1 h.n1.2), book_mv h.bk ⟨kp.os, kp.tape, kp.output, kp.size, fun k hk hx => kp.block k hk (fun e => hx (by rw [e]; exact h.tg)) (fun e => hx (by rw [e]; exact h.tgb))⟩, h.tg, h.tgb, h.tgw, h.low, h.geg, h.geb, h.gew, h.n1, h.bel.trans (kp.below h.geg h.geb h.bel.size)⟩
theorem Ow.kp {x : Nat} (h : Ow w g gb n gw cw D Ls b tag W) (hx : tag x = 0) (h1 : x ≠ g ∧ x ≠ gb ∧ x ≠ gw) (hw : w.heap.size ≤ x) (kp : Kp x x W W') : Ow w g gb n gw cw D Ls b tag W' :=
  ⟨h.dk.kp kp h1.1.symm h1.1.symm h1.2.1.symm h1.2.1.symm, h.ok, own_move h.was (kp.block gw (own_blt h.was) h1.2.2.symm h1.2.2.symm), book_mv h.bk ⟨kp.os, kp.tape, kp.output, kp.size, fun k hk hy => kp.block k hk (fun e => hy (by rw [e]; exact hx)) (fun e => hy (by rw [e]; exact hx))⟩, h.tg, h.tgb, h.tgw, h.low, h.geg, h.geb, h.gew, h.n1, h.bel.trans (kp.below hw hw h.bel.size)⟩
/-- What stands behind Close. -/
structure Oz (w : World) (g gb n gw cw : Nat) (D : Dk) (Ls : List Nat) (gx : Nat) (X : List Nat) (W : World) : Prop where
  dk : DkA W g gb D
  ok : DkO D n
  was : W.ownsRow 0 5 1 (.slice (some ⟨gw, 0, none⟩) Ls.length cw) Ls.length (cellsB Ls)
  x : BkB W gx X
  bel : Below w.heap.size w W
theorem Ow.oz {gx : Nat} {X : List Nat} (h : Ow w g gb n gw cw D Ls b tag W) (hx : BkB W gx X) : Oz w g gb n gw cw D Ls gx X W := ⟨h.dk, h.ok, h.was, hx, h.bel⟩
theorem Ow.closed {gx : Nat} {X : List Nat} (h : Ow w g gb n gw cw D Ls b tag W) (hx : BkB W gx X) (ht : tag gx = 0) (hs : KB.Sm (· ≠ 0) tag W W') : Oz w g gb n gw cw D Ls gx X W' := by
  have l4 := h.bel.size
  exact ⟨⟨(hs.block g (blk_lt h.dk.1) (fun e => e h.tg)).trans h.dk.1, (hs.block gb (blk_lt h.dk.2) (fun e => e h.tgb)).trans h.dk.2⟩, h.ok, own_move h.was (hs.block gw (own_blt h.was) (fun e => e h.tgw)), (hs.block gx (blk_lt hx) (fun e => e ht)).trans hx, h.bel.trans ⟨hs.os, hs.tape, hs.output, hs.size, fun k hk => hs.block k (by omega) (fun e => e (h.low k hk))⟩⟩
theorem Oz.up {gx : Nat} {X : List Nat} (h : Oz w g gb n gw cw D Ls gx X W) (hb : Below W.heap.size W W') : Oz w g gb n gw cw D Ls gx X W' :=
  ⟨h.dk.below hb (Nat.le_refl _), h.ok, own_move h.was (hb.block gw (own_blt h.was)), h.x.below hb (blk_lt h.x), h.bel.trans (hb.mono h.bel.size)⟩
end
end Go.Proofs.Ytkabileeincjaaa
