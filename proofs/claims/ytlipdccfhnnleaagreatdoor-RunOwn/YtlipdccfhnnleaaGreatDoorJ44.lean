/- A flow's rows written over; a run beside a book. -/
import Derived.Test.YtlipdccfhnnleaaGreatDoorJ40
import Derived.Test.YtlipdccfhnnleaaGreatDoorJ43
namespace Go.Proofs.YtlipdccfhnnleaaGreatDoor
open Go.RowKit
/-- All blocks are of the kind and the size they were of. -/
def Shp (V W : World) : Prop := ∀ (b : Nat) (cs : Array Value) (t : TypeId), V.heap[b]? = some (.cells cs t (0, 0)) → ∃ cs' : Array Value, W.heap[b]? = some (.cells cs' t (0, 0)) ∧ cs'.size = cs.size
theorem Shp.refl (V : World) : Shp V V := fun _ cs _ h => ⟨cs, h, rfl⟩
theorem Shp.set {V W : World} (h : Shp V W) (g i : Nat) (u : Value) : Shp V (W.setCell ⟨g, i, none⟩ u) := fun b cs t hb => by
  obtain ⟨cs', h1, h2⟩ := h b cs t hb
  by_cases e : b = g
  · subst e
    exact ⟨cs'.setIfInBounds i u, heap_setCell_same W b i cs' _ _ h1, by simp [h2]⟩
  · exact ⟨cs', (Below.heap_setCell _ _ _ _ e).trans h1, h2⟩
theorem Shp.cell {V W : World} (h : Shp V W) {g i : Nat} {cs : Array Value} {t : TypeId} (hb : V.heap[g]? = some (.cells cs t (0, 0))) (hi : i < cs.size) : (∃ u, W.cell? ⟨g, i, none⟩ = some u) ∧ W.frozen? ⟨g, i, none⟩ = false := by
  obtain ⟨cs', h1, h2⟩ := h g cs t hb
  exact ⟨⟨cs'[i]'(by omega), by simp [World.cell?, h1, show i < cs'.size by omega]⟩, by simp [World.frozen?, h1]⟩
theorem own_blk {W : World} {m : Nat} {e : TypeId} {sz : Nat} {v : Value} {n : Nat} {xs : List Value} (h : W.ownsRow m e sz v n xs) (hn : n ≠ 0) : ∃ g cap cs, v = .slice (some ⟨g, 0, none⟩) n cap ∧ n ≤ cap ∧ m ≤ g ∧ W.heap[g]? = some (.cells cs e (0, 0)) ∧ n * sz ≤ cs.size := by
  rcases h.2 with ⟨_, h0⟩ | ⟨g, cap, cs, rfl, hm, hb, hc, _, hs, _⟩
  · exact absurd h0 hn
  · exact ⟨g, cap, cs, rfl, hc, hm, hb, by rw [hs]; exact Nat.mul_le_mul_right _ hc⟩
/-- A flow's rows while they are written over: those that lie between lo and hi. -/
structure Wy (V : World) (lo hi : Nat) (sv rv : Value) (n1 n2 : Nat) (W : World) : Prop where
  shp : Shp V W
  zf : Zf (fun b => lo ≤ b ∧ b < hi) V W
  c1 : ∀ g, sv.ownBlock = some g → ∀ i, i < n1 → W.cell? ⟨g, i * 3 + 2, none⟩ = V.cell? ⟨g, i * 3 + 2, none⟩
  c2 : ∀ g, rv.ownBlock = some g → ∀ i, i < n2 → W.cell? ⟨g, i * 3 + 2, none⟩ = V.cell? ⟨g, i * 3 + 2, none⟩
section
variable {V W : World} {lo hi : Nat} {sv rv : Value} {n1 n2 : Nat}
theorem Wy.refl (V : World) (lo hi : Nat) (sv rv : Value) (n1 n2 : Nat) : Wy V lo hi sv rv n1 n2 V := ⟨Shp.refl V, Zf.refl _ V, fun _ _ _ _ => rfl, fun _ _ _ _ => rfl⟩
theorem Zf.set {f : Nat → Prop} {V W : World} (h : Zf f V W) {g : Nat} (hg : f g) (i : Nat) (u : Value) : Zf f V (W.setCell ⟨g, i, none⟩ u) := ⟨h.os, h.tape, h.output, by simpa using h.size, fun k hk hn => (Below.heap_setCell _ _ _ _ fun e => hn (by rw [show k = g from e]; exact hg)).trans (h.blk k hk hn)⟩
theorem cell_set_ne {W : World} {g g' i j : Nat} {u : Value} (h : g' ≠ g ∨ j ≠ i) : (W.setCell ⟨g, i, none⟩ u).cell? ⟨g', j, none⟩ = W.cell? ⟨g', j, none⟩ := by
  by_cases e : g' = g
  · subst e
    have hj : j ≠ i := by rcases h with h | h; exact absurd rfl h; exact h
    simp only [World.cell?, World.setCell, Array.getElem?_modify, if_true]
    cases hb : W.heap[g']? with
    | none => rfl
    | some o => cases o <;> simp [hj.symm]
  · exact (by simp only [World.cell?]; rw [Below.heap_setCell W ⟨g, i, none⟩ u g' e])
/-- A cell of them is written: not a place where a row of numbers stands. -/
theorem Wy.set (h : Wy V lo hi sv rv n1 n2 W) {g : Nat} (hg : lo ≤ g ∧ g < hi) (i : Nat) (u : Value) (h1 : ∀ x, sv.ownBlock = some x → x = g → i % 3 ≠ 2) (h2 : ∀ x, rv.ownBlock = some x → x = g → i % 3 ≠ 2) : Wy V lo hi sv rv n1 n2 (W.setCell ⟨g, i, none⟩ u) :=
  ⟨h.shp.set _ _ _, h.zf.set hg _ _, fun x hx j hj => (cell_set_ne (by
    by_cases e : x = g
    · have := h1 x hx e; exact .inr (by omega)
    · exact .inl e)).trans (h.c1 x hx j hj), fun x hx j hj => (cell_set_ne (by
    by_cases e : x = g
    · have := h2 x hx e; exact .inr (by omega)
    · exact .inl e)).trans (h.c2 x hx j hj)⟩
end
theorem Bk_zf {W W' : World} {b : Nat} {tag : Nat → Nat} {f : Nat → Prop} (h : K.Book W b tag) (hz : Zf f W W') (hf : ∀ g, g < W.heap.size → f g → tag g = 0) : K.Book W' b tag := by
  obtain ⟨ov, ow, m, vs, us, rows, N, h⟩ := h
  have s : K.Sm (fun t => t = 0) tag W W' := ⟨hz.os, hz.tape, hz.output, hz.size, fun g hg hx => hz.blk g hg fun e => hx (hf g hg e)⟩
  exact ⟨ov, ow, m, vs, us, rows, N, h.box.mv s (by rw [h.bt]; omega), h.bt, h.live.mv s (by omega) (fun j _ => by omega), h.want.mv s (by omega) (fun j _ => by omega), fun g hg => h.fresh g (Nat.le_trans hz.size hg), h.hN, h.hrow⟩
/-- Both runs beside the book. -/
structure Ow (w : World) (k : SdK) (lv ev : Value) (n : Nat) (R : Rs) (c b : Nat) (tag : Nat → Nat) (W : World) : Prop where
  sd : Sd k lv ev R R W
  ok : RsOk n R
  ne : R.log ≠ []
  lg : R.log.length ≤ 1 + 2 * c
  bk : K.Book W b tag
  t0 : ∀ x, k.ft lv ev x → tag x = 0
  bl : Below w.heap.size w W
  ge : ∀ x, k.wr lv ev x → w.heap.size ≤ x
  tw : ∀ x, x < w.heap.size → tag x = 0
section
variable {w : World} {k : SdK} {lv ev : Value} {n : Nat} {R : Rs} {c b : Nat} {tag : Nat → Nat} {W W' : World}
theorem Ow.over (h : Ow w k lv ev n R c b tag W) (hb : Below W.heap.size W W') : Ow w k lv ev n R c b tag W' := { h with sd := h.sd.over hb, bk := h.bk.below hb, bl := h.bl.trans (hb.mono h.bl.size) }
theorem Ow.more (h : Ow w k lv ev n R c b tag W) {c' : Nat} (hc : c ≤ c') : Ow w k lv ev n R c' b tag W := { h with lg := by have := h.lg; omega }
/-- A block that is neither the runs' nor the book's is written. -/
theorem Ow.zf (h : Ow w k lv ev n R c b tag W) {f : Nat → Prop} (hz : Zf f W W') (h0 : ∀ g, g < W.heap.size → f g → tag g = 0 ∧ ¬ k.ft lv ev g) (hw : ∀ g, f g → w.heap.size ≤ g) : Ow w k lv ev n R c b tag W' :=
  { h with sd := h.sd.kept hz.size fun x hx e => hz.blk x hx fun e2 => (h0 x hx e2).2 e, bk := Bk_zf h.bk hz fun g hg e => (h0 g hg e).1, bl := h.bl.trans (hz.toBelow h.bl.size hw) }
/-- Both play. -/
theorem Ow.play (h : Ow w k lv ev n R c b tag W) (hc : c ≤ 1000) (ht : O.Tab W) (o : Oq) : Calls Tryz.prog 10 #[.pointer (some ⟨k.gr, 0, none⟩), .pointer (some ⟨k.gd, 0, none⟩), .agg #[.int .i64 o.on, .int .i64 o.op, .int .i64 o.step, .int .i64 o.user, .int .i64 o.tick, .bool o.stuck]] W fun e W' => e = .returned (.bool true) ∧ ∃ lv' ev', Ow w k lv' ev' n (plyR true k.Pf R o) (c + 1) b tag W' := by
  refine (playsF o h.sd h.ok (by have := h.lg; omega) ht).mono fun e W' ⟨he, lv', ev', h1, h2, h3⟩ => ⟨he, lv', ev', ?_⟩
  have hf : ∀ x, k.ft lv' ev' x → k.ft lv ev x ∨ W.heap.size ≤ x := fun x e => by
    have key : k.wr lv' ev' x → k.ft lv ev x ∨ W.heap.size ≤ x := fun e => by
      rcases h3 x e with e | e
      · exact .inl (wr_ft e)
      · exact .inr e
    rcases e with (e | e) | (e | e)
    · exact key (.inl e)
    · exact .inl (.inl (.inr e))
    · exact key (.inr e)
    · exact .inl (.inr (.inr e))
  have hbw := h.bl.size
  exact ⟨h1, plyR_ok _ _ h.ok o, plyR_ne h.ne o, by have := plyR_log true k.Pf R o; have := h.lg; omega, Bk_zf h.bk h2 (fun g _ e => h.t0 g (wr_ft e)), fun x e => by
    rcases hf x e with e | e
    · exact h.t0 x e
    · exact h.bk.fresh x e, h.bl.trans (h2.toBelow hbw h.ge), fun x e => by
    rcases h3 x e with e | e
    · exact h.ge x e
    · omega, h.tw⟩
/-- The book takes a row in. -/
theorem Ow.ints (h : Ow w k lv ev n R c b tag W) {v : Value} {l : List Int} (hv : W.ownsRow 0 3 1 v l.length (cellsI l)) (hl : l.length ≤ 1000000) (hvt : ∀ g, v.ownBlock = some g → tag g = 0 ∧ ¬ k.ft lv ev g ∧ w.heap.size ≤ g) :
    Calls Tryz.prog 18 #[.pointer (some ⟨b, 0, none⟩), v] W fun e w' => e = .returned (.tuple #[]) ∧ ∃ tag', Ow w k lv ev n R c b tag' w' ∧ K.Fr tag v W tag' w' := by
  refine (K.bookInts b tag v l W h.bk hv hl fun g hg => (hvt g hg).1).mono ?_
  rintro e w' ⟨rfl, tag', hk', hf⟩
  have hbw := h.bl.size
  have hnw : ∀ g, g < w.heap.size → v.ownBlock ≠ some g := fun g hg e => by have := (hvt g e).2.2; omega
  exact ⟨rfl, tag', ⟨h.sd.kept hf.size fun x hx e => hf.block x hx (h.t0 x e) (fun e2 => (hvt x e2).2.1 e), h.ok, h.ne, h.lg, hk', fun x e => hf.tg x (h.sd.lt x e) (h.t0 x e) (fun e2 => (hvt x e2).2.1 e), h.bl.trans ⟨hf.os, hf.tape, hf.output, hf.size, fun x hx => hf.block x (by omega) (h.tw x hx) (hnw x hx)⟩, h.ge, fun x hx => hf.tg x (by omega) (h.tw x hx) (hnw x hx)⟩, hf⟩
/-- The book is closed. -/
theorem Ow.close (h : Ow w k lv ev n R c b tag W) (hc : c ≤ 1000) (hB : FlB k.F) (ht : ∀ V, Below w.heap.size w V → O.Tab V) : Calls Tryz.prog 21 #[.pointer (some ⟨b, 0, none⟩)] W fun e w' => e = .returned (.bool true) ∧ Below w.heap.size w w' ∧ Calls Tryz.prog 11 #[.pointer (some ⟨k.gr, 0, none⟩), .pointer (some ⟨k.gd, 0, none⟩)] w' fun e w'' => e = .returned (.bool true) ∧ Below w'.heap.size w' w'' := by
  refine (K.bookClose b tag W h.bk).mono ?_
  rintro e w' ⟨rfl, hs⟩
  have hbw := h.bl.size
  have hb : Below w.heap.size w w' := h.bl.trans ⟨hs.os, hs.tape, hs.output, hs.size, fun x hx => hs.block x (by omega) (fun e => e (h.tw x hx))⟩
  exact ⟨rfl, hb, wholeF (h.sd.kept hs.size fun x hx e => hs.block x hx fun e2 => e2 (h.t0 x e)) h.ok h.ne (by have := h.lg; omega) hB (ht w' hb)⟩
end
end Go.Proofs.YtlipdccfhnnleaaGreatDoor
