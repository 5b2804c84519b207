/- A copy of a problem: its rows cloned, its box made, in whatever order. -/
import Derived.Test.YtdcenbkminbpgaaDoorJ24
namespace Go.Proofs.YtdcenbkminbpgaaDoor.S
open Go.RowKit Go.Shelf
theorem QAt.s0C {W : World} {g : Nat} {u : Int} {a b c : Value} (h : QAt W g u a b c) (x : Int) : QAt (W.setCell ⟨g, 0, none⟩ (.int .i64 x)) g x a b c :=
  World.rowIs.congr (World.rowIs.set h 0 _) fun i hi => by
    match i, hi with
    | 0, _ => rfl
    | 1, _ => rfl
    | 2, _ => rfl
    | 3, _ => rfl
structure Fp (w : World) (P : Pb) (wv fv rv : Value) (V : World) (va vb : Value) (L1 : List Nat) (L2 : List Int) : Prop where
  pb : PbB V w.heap.size P wv fv rv
  z : QAt V (w.heap.size + 1) 0 (.slice none 0 0) (.slice none 0 0) (.slice none 0 0)
  r1 : V.ownsRow (w.heap.size + 2) 34 1 va L1.length (cellsW L1)
  r2 : V.ownsRow (w.heap.size + 2) 3 1 vb L2.length (cellsI L2)
  pv : PbV V P wv fv rv
  be : Below w.heap.size w V
structure Fb (w : World) (P : Pb) (wv fv rv : Value) (gq : Nat) (V : World) (va vb : Value) (L1 : List Nat) (L2 : List Int) : Prop where
  p : Fp w P wv fv rv V va vb L1 L2
  qb : QAt V gq 0 (.slice none 0 0) (.slice none 0 0) (.slice none 0 0)
  ge : w.heap.size + 2 ≤ gq
section
variable {w : World} {P : Pb} {wv fv rv : Value} {gq : Nat} {V V' : World} {va vb va' vb' : Value} {L1 : List Nat} {L2 : List Int}
theorem Fp.sz (h : Fp w P wv fv rv V va vb L1 L2) : w.heap.size + 2 ≤ V.heap.size := h.z.lt
theorem Fp.cells (h : Fp w P wv fv rv V va vb L1 L2) : V.cell? ⟨w.heap.size, 0, none⟩ = some (.int .i64 P.users) ∧ V.cell? ⟨w.heap.size, 1, none⟩ = some wv ∧ V.cell? ⟨w.heap.size, 2, none⟩ = some fv := ⟨h.pb.c0, h.pb.c1, h.pb.c2⟩
theorem Fp.over (h : Fp w P wv fv rv V va vb L1 L2) (hb : Below V.heap.size V V') : Fp w P wv fv rv V' va vb L1 L2 :=
  ⟨h.pb.below hb, h.z.of (hb.block _ h.z.lt), own_below h.r1 hb (Nat.le_refl _), own_below h.r2 hb (Nat.le_refl _), h.pv.below hb, h.be.trans (hb.mono h.be.size)⟩
theorem Fp.who (h : Fp w P wv fv rv V va vb L1 L2) (hb : Below V.heap.size V V') {L : List Nat} (ho : V'.ownsRow V.heap.size 34 1 va' L.length (cellsW L)) : Fp w P wv fv rv V' va' vb L L2 := by
  have k := h.over hb
  exact ⟨k.pb, k.z, own_down ho h.sz, k.r2, k.pv, k.be⟩
theorem Fp.fix (h : Fp w P wv fv rv V va vb L1 L2) (hb : Below V.heap.size V V') {L : List Int} (ho : V'.ownsRow V.heap.size 3 1 vb' L.length (cellsI L)) : Fp w P wv fv rv V' va vb' L1 L := by
  have k := h.over hb
  exact ⟨k.pb, k.z, k.r1, own_down ho h.sz, k.pv, k.be⟩
theorem Fp.box (h : Fp w P wv fv rv V va vb L1 L2) : Fb w P wv fv rv V.heap.size (V.alloc (.cells #[.int .i64 0, .slice none 0 0, .slice none 0 0, .slice none 0 0] 26)) va vb L1 L2 :=
  ⟨h.over ((Below.refl _ V).alloc (Nat.le_refl _) _), QAt.block (heap_new V _), h.sz⟩
theorem Fb.over (h : Fb w P wv fv rv gq V va vb L1 L2) (hb : Below V.heap.size V V') : Fb w P wv fv rv gq V' va vb L1 L2 := ⟨h.p.over hb, h.qb.of (hb.block _ h.qb.lt), h.ge⟩
theorem Fb.who (h : Fb w P wv fv rv gq V va vb L1 L2) (hb : Below V.heap.size V V') {L : List Nat} (ho : V'.ownsRow V.heap.size 34 1 va' L.length (cellsW L)) : Fb w P wv fv rv gq V' va' vb L L2 := ⟨h.p.who hb ho, h.qb.of (hb.block _ h.qb.lt), h.ge⟩
theorem Fb.fix (h : Fb w P wv fv rv gq V va vb L1 L2) (hb : Below V.heap.size V V') {L : List Int} (ho : V'.ownsRow V.heap.size 3 1 vb' L.length (cellsI L)) : Fb w P wv fv rv gq V' va vb' L1 L := ⟨h.p.fix hb ho, h.qb.of (hb.block _ h.qb.lt), h.ge⟩
/-- The box made last. -/
theorem Fp.close (h : Fp w P wv fv rv V va vb L1 L2) (u : Int) (a b : Value) : Fq w P wv fv rv V.heap.size (V.alloc (.cells #[.int .i64 u, a, b, .slice none 0 0] 26)) u a b (.slice none 0 0) va vb (.slice none 0 0) L1 L2 [] := by
  have k := h.over ((Below.refl _ V).alloc (Nat.le_refl _) (.cells #[.int .i64 u, a, b, .slice none 0 0] 26))
  exact ⟨k.pb, k.z, QAt.block (heap_new V _), k.r1, k.r2, TwS.nil _ _, (fun p hp => by cases hp), h.sz, k.be⟩
theorem Fb.fq (h : Fb w P wv fv rv gq V va vb L1 L2) : Fq w P wv fv rv gq V 0 (.slice none 0 0) (.slice none 0 0) (.slice none 0 0) va vb (.slice none 0 0) L1 L2 [] :=
  ⟨h.p.pb, h.p.z, h.qb, h.p.r1, h.p.r2, TwS.nil _ _, (fun p hp => by cases hp), h.ge, h.p.be⟩
/-- The box made ahead. -/
theorem Fq.put0 {u : Int} {a b c vc : Value} {E : List (Rl × Value)} (h : Fq w P wv fv rv gq V u a b c va vb vc L1 L2 E) (x : Int) : Fq w P wv fv rv gq (V.setCell ⟨gq, 0, none⟩ (.int .i64 x)) x a b c va vb vc L1 L2 E := by
  have hge := h.ge
  have hb : Below gq V (V.setCell ⟨gq, 0, none⟩ (.int .i64 x)) := (Below.refl _ V).setCell (p := ⟨gq, 0, none⟩) (Nat.le_refl _) _
  have hs : ∀ {B e sz : Nat} {v : Value} {n : Nat} {xs : List Value}, V.ownsRow B e sz v n xs → e ≠ 26 → (V.setCell ⟨gq, 0, none⟩ (.int .i64 x)).ownsRow B e sz v n xs := fun ho he => own_same ho fun g _ e => Below.heap_setCell _ _ _ _ (own_ne_q ho h.qb he e)
  exact ⟨(hb.block _ (by omega)).trans h.pb, h.z.of (hb.block _ (by omega)), h.qb.s0C x, hs h.r1 (by decide), hs h.r2 (by decide), ⟨hs h.r3.row (by decide), fun p hp => hs (h.r3.inner p hp) (by decide)⟩, h.dj, h.ge, h.be.trans (hb.mono (by omega))⟩
theorem Fb.close (h : Fb w P wv fv rv gq V va vb L1 L2) (u : Int) (a b : Value) : Fq w P wv fv rv gq ((((V.setCell ⟨gq, 0, none⟩ (.int .i64 u)).setCell ⟨gq, 1, none⟩ a).setCell ⟨gq, 2, none⟩ b).setCell ⟨gq, 3, none⟩ (.slice none 0 0)) u a b (.slice none 0 0) va vb (.slice none 0 0) L1 L2 [] := by
  have h1 := h.fq.put0 u
  have h2 := h1.put (h1.qb.s1 a)
  have h3 := h2.put (h2.qb.s2 b)
  exact h3.put (h3.qb.s3 (.slice none 0 0))
theorem Fp.start (h : PbV w P wv fv rv) : Fp w P wv fv rv ((w.alloc (.cells #[.int .i64 P.users, wv, fv, rv] 26)).alloc (.cells #[.int .i64 0, .slice none 0 0, .slice none 0 0, .slice none 0 0] 26)) (.slice none 0 0) (.slice none 0 0) [] [] := by
  have hz : (w.alloc (.cells #[.int .i64 P.users, wv, fv, rv] 26)).heap.size = w.heap.size + 1 := by simp
  have hA : Below w.heap.size w (w.alloc (.cells #[.int .i64 P.users, wv, fv, rv] 26)) := (Below.refl _ w).alloc (Nat.le_refl _) _
  have hB : Below (w.heap.size + 1) (w.alloc (.cells #[.int .i64 P.users, wv, fv, rv] 26)) ((w.alloc (.cells #[.int .i64 P.users, wv, fv, rv] 26)).alloc (.cells #[.int .i64 0, .slice none 0 0, .slice none 0 0, .slice none 0 0] 26)) := by
    have := (Below.refl (w.alloc (.cells #[.int .i64 P.users, wv, fv, rv] 26)).heap.size (w.alloc (.cells #[.int .i64 P.users, wv, fv, rv] 26))).alloc (Nat.le_refl _) (.cells #[.int .i64 0, .slice none 0 0, .slice none 0 0, .slice none 0 0] 26)
    rwa [hz] at this
  have hp : PbB (w.alloc (.cells #[.int .i64 P.users, wv, fv, rv] 26)) w.heap.size P wv fv rv := heap_new w _
  have hW : Below w.heap.size w ((w.alloc (.cells #[.int .i64 P.users, wv, fv, rv] 26)).alloc (.cells #[.int .i64 0, .slice none 0 0, .slice none 0 0, .slice none 0 0] 26)) := hA.trans (hB.mono (Nat.le_succ _))
  refine ⟨(hB.block _ (Nat.lt_succ_self _)).trans hp, ?_, World.ownsRow_nil _ _ _ _, World.ownsRow_nil _ _ _ _, h.below hW, hW⟩
  rw [← hz]
  exact QAt.block (heap_new _ _)
end
end Go.Proofs.YtdcenbkminbpgaaDoor.S
