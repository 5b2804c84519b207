/- What a call turns: an entry's blocks keep id, time and turn. -/
import Derived.Test.YtmjdecgijnodhaaGFn
import Derived.Lib.OwnKind
namespace Go.Proofs.Ytmjdecgijnodhaa
open Go.RowKit
/-- Blocks of F may have been turned, and new ones made; all else stands. -/
structure Mw (F : Nat → Prop) (w w' : World) : Prop where
  os : w'.os = w.os
  tape : w'.tape = w.tape
  output : w'.output = w.output
  size : w.heap.size ≤ w'.heap.size
  block : ∀ g, g < w.heap.size → ¬ F g → w'.heap[g]? = w.heap[g]?
/-- And no entry turns but for its place. -/
structure Mv (F : Nat → Prop) (w w' : World) : Prop extends Mw F w w' where
  ent : ∀ p e k, EntAt w p e k → ∃ k', EntAt w' p e k'
/-- No entry lies there, by its type. -/
def NE (w : World) (g : Nat) : Prop := ∀ cur fr, w.heap[g]? ≠ some (.cells cur 64 fr)
section
variable {F G : Nat → Prop} {w w' w2 : World}
theorem ent_lt {p k : Nat} {e : Ent} (h : EntAt w p e k) : p < w.heap.size := (Array.getElem?_eq_some_iff.1 h).1
theorem ent_same {p k : Nat} {e : Ent} (h : EntAt w p e k) (hs : w'.heap[p]? = w.heap[p]?) : ∃ k', EntAt w' p e k' := ⟨k, hs.trans h⟩
theorem ne_row {b : Nat} {e : TypeId} {size : Nat} {v : Value} {n : Nat} {xs : List Value} {g : Nat} (h : w.ownsRow b e size v n xs) (hv : v.ownBlock = some g) (he : e ≠ 64) : NE w g := fun cur fr x => by
  rcases h.2 with ⟨rfl, _⟩ | ⟨g', cap, cur', rfl, _, hgg, _⟩
  · cases hv
  · cases hv
    rw [hgg] at x
    cases x
    exact he rfl
theorem ne_other {g : Nat} {cur : Array Value} {t : TypeId} {fr : Nat × Nat} (h : w.heap[g]? = some (.cells cur t fr)) (ht : t ≠ 64) : NE w g := fun _ _ x => by
  rw [h] at x
  cases x
  exact ht rfl
theorem NE.same {g : Nat} (h : NE w g) (hs : w'.heap[g]? = w.heap[g]?) : NE w' g := fun cur fr x => h cur fr (hs ▸ x)
theorem NE.setCell {g : Nat} (h : NE w g) (p : Addr) (u : Value) : NE (w.setCell p u) g := by
  by_cases e : g = p.block
  · subst e
    intro cur fr x
    simp only [World.setCell, Array.getElem?_modify] at x
    cases hh : w.heap[p.block]? with
    | none => simp [hh] at x
    | some o =>
      cases o <;> simp [hh] at x
      rename_i c t f
      exact h c f (by rw [hh, x.2.1])
  · exact h.same (Below.heap_setCell _ _ _ _ e)
theorem Mv.refl (F : Nat → Prop) (w : World) : Mv F w w := ⟨⟨rfl, rfl, rfl, Nat.le_refl _, fun _ _ _ => rfl⟩, fun _ _ k h => ⟨k, h⟩⟩
theorem Mv.trans (h : Mv F w w') (k : Mv G w' w2) (hg : ∀ g, g < w.heap.size → G g → F g) : Mv F w w2 :=
  ⟨⟨k.os.trans h.os, k.tape.trans h.tape, k.output.trans h.output, Nat.le_trans h.size k.size, fun g hl hf => (k.block g (Nat.lt_of_lt_of_le hl h.size) fun x => hf (hg g hl x)).trans (h.block g hl hf)⟩, fun p e j x => by
    obtain ⟨j', x'⟩ := h.ent p e j x
    exact k.ent p e j' x'⟩
theorem Mv.mono (h : Mv F w w') (hg : ∀ g, F g → G g) : Mv G w w' := ⟨⟨h.os, h.tape, h.output, h.size, fun g hl hf => h.block g hl fun x => hf (hg g x)⟩, h.ent⟩
theorem Mv.below (h : Below w.heap.size w w') : Mv F w w' := ⟨⟨h.os, h.tape, h.output, h.size, fun g hl _ => h.block g hl⟩, fun _ _ _ x => ent_same x (h.block _ (ent_lt x))⟩
theorem Mv.alloc (o : Obj) : Mv F w (w.alloc o) := ⟨⟨rfl, rfl, rfl, by simp, fun _ hg _ => Below.heap_alloc _ _ _ hg⟩, fun _ _ _ x => ent_same x (Below.heap_alloc _ _ _ (ent_lt x))⟩
theorem Mv.drew : Mv F w w.drew := ⟨⟨rfl, rfl, rfl, Nat.le_refl _, fun _ _ _ => rfl⟩, fun _ _ k h => ⟨k, h⟩⟩
theorem Mv.setCell {p : Addr} (u : Value) (hp : F p.block) (hx : NE w p.block ∨ ∃ j : Nat, p = ⟨p.block, 3, none⟩ ∧ u = .int .i64 (j : Int)) : Mv F w (w.setCell p u) :=
  ⟨⟨rfl, rfl, rfl, by simp [World.setCell], fun g _ hx => Below.heap_setCell _ _ _ _ fun e => hx (by rw [e]; exact hp)⟩, fun q e k x => by
    by_cases eq : q = p.block
    · rcases hx with hx | ⟨j, h1, h2⟩
      · subst eq; exact absurd x (hx _ _)
      · rw [h1, h2, ← eq]; exact ⟨j, x.s3 j⟩
    · exact ent_same x (Below.heap_setCell _ _ _ _ eq)⟩
theorem Mv.grown {row : Option Nat} (h : w.grownBy w' row) (hr : ∀ g, row = some g → F g) (hx : ∀ g, row = some g → NE w g) : Mv F w w' := ⟨⟨h.os, h.tape, h.output, h.size, fun g hg hx => h.block g hg fun e => hx (hr g e.symm)⟩, fun q e k x => by
    by_cases eq : row = some q
    · exact absurd x (hx q eq _ _)
    · exact ent_same x (h.block q (ent_lt x) fun e => eq e.symm)⟩
theorem Mv.swap4 {g i j p q : Nat} (u v : Value) (x y : Nat) (hg : F g) (hq : F q) (hp : F p) (hn : NE w g) :
    Mv F w ((((w.setCell ⟨g, i, none⟩ u).setCell ⟨g, j, none⟩ v).setCell ⟨q, 3, none⟩ (.int .i64 (x : Int))).setCell ⟨p, 3, none⟩ (.int .i64 (y : Int))) := by
  have h1 : Mv F w (w.setCell ⟨g, i, none⟩ u) := Mv.setCell (p := ⟨g, i, none⟩) u hg (.inl hn)
  have h2 : Mv F (w.setCell ⟨g, i, none⟩ u) ((w.setCell ⟨g, i, none⟩ u).setCell ⟨g, j, none⟩ v) := Mv.setCell (p := ⟨g, j, none⟩) v hg (.inl (hn.setCell _ _))
  generalize (w.setCell ⟨g, i, none⟩ u).setCell ⟨g, j, none⟩ v = w2 at *
  have h3 : Mv F w2 (w2.setCell ⟨q, 3, none⟩ (.int .i64 (x : Int))) := Mv.setCell (p := ⟨q, 3, none⟩) _ hq (.inr ⟨x, rfl, rfl⟩)
  generalize w2.setCell ⟨q, 3, none⟩ (.int .i64 (x : Int)) = w3 at *
  have h4 : Mv F w3 (w3.setCell ⟨p, 3, none⟩ (.int .i64 (y : Int))) := Mv.setCell (p := ⟨p, 3, none⟩) _ hp (.inr ⟨y, rfl, rfl⟩)
  exact ((h1.trans h2 fun _ _ x => x).trans h3 fun _ _ x => x).trans h4 fun _ _ x => x
theorem Mv.heap (H : Mv F w w') (e : w2.heap = w'.heap) (e1 : w2.os = w'.os) (e2 : w2.tape = w'.tape) (e3 : w2.output = w'.output) : Mv F w w2 :=
  ⟨⟨e1.trans H.os, e2.trans H.tape, e3.trans H.output, by rw [e]; exact H.size, fun g hg hf => by rw [e]; exact H.block g hg hf⟩, fun p x k h => by
    obtain ⟨k', h'⟩ := H.ent p x k h
    exact ⟨k', by unfold EntAt at *; rw [e]; exact h'⟩⟩
end
end Go.Proofs.Ytmjdecgijnodhaa
