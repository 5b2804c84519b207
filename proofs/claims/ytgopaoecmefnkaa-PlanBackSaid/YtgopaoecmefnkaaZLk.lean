/- What stands between a law's calls. -/
import Derived.Test.YtgopaoecmefnkaaZpW
import Derived.Test.YtgopaoecmefnkaaSCut2
namespace Go.Proofs.Ytgopaoecmefnkaa.S
open Go.RowKit Go.Shelf
/-- What stands between the calls: the problem that was cut, its box, and the users. -/
structure Lk (w : World) (Q : Pb) (qw qf qr lv : Value) (L : List Int) (g : Nat) (V : World) : Prop where
  b : PbB V g Q qw qf qr
  q : PbV V Q qw qf qr
  l : RowI V lv L
  be : Below w.heap.size w V
theorem Lk.over {w : World} {Q : Pb} {qw qf qr lv : Value} {L : List Int} {g : Nat} {V V' : World} (h : Lk w Q qw qf qr lv L g V) (hb : Below V.heap.size V V') : Lk w Q qw qf qr lv L g V' :=
  ⟨h.b.below hb, h.q.below hb, h.l.below hb (Nat.le_refl _), h.be.trans (hb.mono h.be.size)⟩
theorem Lk.start {w V : World} {Q : Pb} {a b c lv : Value} {L : List Int} (hL : RowI w lv L) (hV : Below w.heap.size w V) (hq : PbV V Q a b c) : Lk w Q a b c lv L V.heap.size (V.alloc (.cells #[.int .i64 Q.users, a, b, c] 26)) := by
  have hb1 : Below V.heap.size V (V.alloc (.cells #[.int .i64 Q.users, a, b, c] 26)) := (Below.refl _ V).alloc (Nat.le_refl _) _
  exact ⟨heap_new V _, hq.below hb1, hL.below (hV.trans (hb1.mono hV.size)) (Nat.le_refl _), hV.trans (hb1.mono hV.size)⟩
theorem PbB.all4 {w : World} {g : Nat} {P : Pb} {wv fv rv : Value} (h : PbB w g P wv fv rv) : w.cell? ⟨g, 0, none⟩ = some (.int .i64 P.users) ∧ w.cell? ⟨g, 1, none⟩ = some wv ∧ w.cell? ⟨g, 2, none⟩ = some fv ∧ w.cell? ⟨g, 3, none⟩ = some rv := ⟨h.c0, h.c1, h.c2, h.c3⟩
end Go.Proofs.Ytgopaoecmefnkaa.S
