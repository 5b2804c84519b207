/- A new book; rows in new memory are taken in; it is closed: what was there before the book stands. -/
import Derived.Test.YtgfnfbbiojnhaaaDoorKbStand
import Derived.Test.YtgfnfbbiojnhaaaDoorKbInts
namespace Go.Proofs.YtgfnfbbiojnhaaaDoor.KB
open Go.RowKit
theorem famNil (w : World) (tag : Nat → Nat) (t : Nat) (c : Nat → Nat) (rows : Nat → List Int) : Fam w tag t c (.slice none 0 0) 0 [] rows :=
  ⟨World.ownsRow_nil _ _ _ _, fun g e => by simp [Value.ownBlock] at e, fun j v hj => by simp at hj, fun j v g hj => by simp at hj⟩
theorem Book.below {w w' : World} {b : Nat} {tag : Nat → Nat} (h : Book w b tag) (hB : Below w.heap.size w w') : Book w' b tag := by
  obtain ⟨ov, ow, m, vs, us, rows, N, hk⟩ := h
  exact ⟨ov, ow, m, vs, us, rows, N, hk.below hB⟩
theorem Book.lt {w : World} {b : Nat} {tag : Nat → Nat} (h : Book w b tag) : b < w.heap.size := by
  obtain ⟨ov, ow, m, vs, us, rows, N, hk⟩ := h
  exact hk.box.lt
theorem Book.fresh {w : World} {b : Nat} {tag : Nat → Nat} (h : Book w b tag) : ∀ g, w.heap.size ≤ g → tag g = 0 := by
  obtain ⟨ov, ow, m, vs, us, rows, N, hk⟩ := h
  exact hk.fresh
theorem Book.start (w : World) : Book (w.alloc (.cells #[.slice none 0 0, .slice none 0 0, .slice none 0 0, .slice none 0 0, .slice none 0 0, .slice none 0 0, .slice none 0 0, .slice none 0 0, .slice none 0 0, .slice none 0 0, .slice none 0 0, .slice none 0 0, .int .i64 0] 43)) w.heap.size (fun g => if g = w.heap.size then 1 else 0) :=
  ⟨_, _, 0, [], [], fun _ => [], 0, ⟨heap_new w _, if_pos rfl, famNil _ _ _ _ _, famNil _ _ _ _ _, fun g hg => if_neg (by simp at hg; omega), ⟨Nat.le_refl _, by decide⟩, fun j hj => by omega⟩⟩
/-- A book, and what was there when it was made. -/
def BookO (W0 : World) (b : Nat) (W : World) : Prop := Below b W0 W ∧ ∃ tag, Book W b tag ∧ ∀ g, g < b → tag g = 0
theorem BookO.below {W0 W W' : World} {b : Nat} (h : BookO W0 b W) (hB : Below W.heap.size W W') : BookO W0 b W' := by
  obtain ⟨h1, tag, h2, h3⟩ := h
  exact ⟨h1.trans (hB.mono (Nat.le_of_lt h2.lt)), tag, h2.below hB, h3⟩
theorem BookO.start (w : World) : BookO (w.alloc (.cells #[.slice none 0 0, .slice none 0 0, .slice none 0 0, .slice none 0 0, .slice none 0 0, .slice none 0 0, .slice none 0 0, .slice none 0 0, .slice none 0 0, .slice none 0 0, .slice none 0 0, .slice none 0 0, .int .i64 0] 43)) w.heap.size (w.alloc (.cells #[.slice none 0 0, .slice none 0 0, .slice none 0 0, .slice none 0 0, .slice none 0 0, .slice none 0 0, .slice none 0 0, .slice none 0 0, .slice none 0 0, .slice none 0 0, .slice none 0 0, .slice none 0 0, .int .i64 0] 43)) :=
  ⟨Below.refl _ _, _, Book.start w, fun g hg => if_neg (by omega)⟩
/-- A row that a call has just made is taken in. -/
theorem ownBytes {W0 W W2 : World} {b n : Nat} {v : Value} {l : List Int} (h : BookO W0 b W) (h2 : Below W.heap.size W W2) (hv : W2.ownsRow W.heap.size 5 1 v n (cellsI l)) (hl : l.length ≤ 1000000) :
    Calls Tryd.prog 12 #[.pointer (some ⟨b, 0, none⟩), v] W2 fun e w' => e = .returned (.tuple #[]) ∧ BookO W0 b w' := by
  obtain ⟨h1, tag, hk, h0⟩ := h
  have hn : n = l.length := by have := hv.1; rw [cellsI_len] at this; omega
  subst hn
  have hlt := hk.lt
  refine (bookBytes b tag v l W2 (hk.below h2) (owns_low hv (Nat.zero_le _)) hl (fun g hg => hk.fresh g (hv.lt g hg).1)).mono ?_
  rintro e w' ⟨rfl, tag', hk', hf⟩
  have hne : ∀ g, g < b → v.ownBlock ≠ some g := fun g hg e => by have := (hv.lt g e).1; omega
  have hs := h2.size
  refine ⟨rfl, (h1.trans (h2.mono (by omega))).trans ⟨hf.os, hf.tape, hf.output, hf.size, fun k hk => hf.block k (by omega) (h0 k hk) (hne k hk)⟩, tag', hk', fun g hg => hf.tg g (by omega) (h0 g hg) (hne g hg)⟩
theorem ownClose {W0 W : World} {b : Nat} (h : BookO W0 b W) :
    Calls Tryd.prog 13 #[.pointer (some ⟨b, 0, none⟩)] W fun e w' => e = .returned (.bool true) ∧ Below b W0 w' := by
  obtain ⟨h1, tag, hk, h0⟩ := h
  have hlt := hk.lt
  refine (bookClose b tag W hk).mono ?_
  rintro e w' ⟨rfl, hs⟩
  exact ⟨rfl, h1.trans ⟨hs.os, hs.tape, hs.output, hs.size, fun k hk => hs.block k (by omega) (fun h => h (h0 k hk))⟩⟩
end Go.Proofs.YtgfnfbbiojnhaaaDoor.KB
