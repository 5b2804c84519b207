/- One pair of agendas beside what is one's own: blocks of U stand. -/
import Derived.Test.YtmjdecgijnodhaaGAllIt
import Derived.Test.YtmjdecgijnodhaaGTwoFn
namespace Go.Proofs.Ytmjdecgijnodhaa
open Go.RowKit Go.Maps
/-- Blocks of U stand, and no entry turns but for its place. -/
structure Uk (U : Nat → Prop) (W W' : World) : Prop where
  os : W'.os = W.os
  tape : W'.tape = W.tape
  output : W'.output = W.output
  size : W.heap.size ≤ W'.heap.size
  block : ∀ g, U g → W'.heap[g]? = W.heap[g]?
  ek : Ek W W'
theorem Uk.refl (U : Nat → Prop) (W : World) : Uk U W W := ⟨rfl, rfl, rfl, Nat.le_refl _, fun _ _ => rfl, fun _ _ k h => ⟨k, h⟩⟩
theorem Uk.trans {U : Nat → Prop} {A B C : World} (h : Uk U A B) (k : Uk U B C) : Uk U A C :=
  ⟨k.os.trans h.os, k.tape.trans h.tape, k.output.trans h.output, Nat.le_trans h.size k.size, fun g hg => (k.block g hg).trans (h.block g hg), Ek.trans _ _ _ h.ek k.ek⟩
theorem Ek.below {W W' : World} (h : Below W.heap.size W W') : Ek W W' := fun p _ k x => ⟨k, x.same (h.block p x.lt)⟩
theorem Uk.below {U : Nat → Prop} {W W' : World} (h : Below W.heap.size W W') (hU : ∀ g, U g → g < W.heap.size) : Uk U W W' := ⟨h.os, h.tape, h.output, h.size, fun g hg => h.block g (hU g hg), Ek.below h⟩
theorem Uk.mono {U U' : Nat → Prop} {W W' : World} (h : Uk U W W') (hU : ∀ g, U' g → U g) : Uk U' W W' := ⟨h.os, h.tape, h.output, h.size, fun g hg => h.block g (hU g hg), h.ek⟩
theorem Uk.toBelow {U : Nat → Prop} {n : Nat} {W W' : World} (h : Uk U W W') (hU : ∀ g, g < n → U g) : Below n W W' := ⟨h.os, h.tape, h.output, h.size, fun g hg => h.block g (hU g hg)⟩
theorem Uk.cell {U : Nat → Prop} {W W' : World} (h : Uk U W W') {b o : Nat} {v : Value} (hc : W.cell? ⟨b, o, none⟩ = some v) (hb : U b) : W'.cell? ⟨b, o, none⟩ = some v := (World.cell?_of_block (h.block b hb)).trans hc
theorem Uk.set {U : Nat → Prop} (W : World) (b i : Nat) (u : Value) (hb : ¬ U b) (hn : NE W b) : Uk U W (W.setCell ⟨b, i, none⟩ u) :=
  ⟨rfl, rfl, rfl, by simp [World.setCell], fun g hg => Below.heap_setCell _ _ _ _ (by show g ≠ b; intro e; subst e; exact hb hg), fun p e k x => ⟨k, x.same (Below.heap_setCell _ _ _ _ (by show p ≠ b; intro e'; subst e'; exact hn _ _ x))⟩⟩
/-- A pair of agendas that touches no block of U, at most c settings behind it. -/
def SdA (W : World) (a r c : Nat) (U : Nat → Prop) : Prop := ∃ F rv M sets, Sa W a r F rv M sets ∧ sets ≤ c ∧ ∀ g, U g → g < W.heap.size ∧ ¬ F g ∧ g ≠ r ∧ rv.ownBlock ≠ some g
theorem SdA.over {W W' : World} {a r c : Nat} {U : Nat → Prop} (h : SdA W a r c U) (hb : Below W.heap.size W W') : SdA W' a r c U := by
  obtain ⟨F, rv, M, sets, h1, h2, h3⟩ := h
  exact ⟨F, rv, M, sets, h1.below hb, h2, fun g hg => ⟨Nat.lt_of_lt_of_le (h3 g hg).1 hb.size, (h3 g hg).2⟩⟩
theorem SdA.more {W : World} {a r c c' : Nat} {U : Nat → Prop} (h : SdA W a r c U) (hc : c ≤ c') : SdA W a r c' U := by
  obtain ⟨F, rv, M, sets, h1, h2, h3⟩ := h
  exact ⟨F, rv, M, sets, h1, Nat.le_trans h2 hc, h3⟩
theorem SdA.sub {W : World} {a r c : Nat} {U U' : Nat → Prop} (h : SdA W a r c U) (hU : ∀ g, U' g → U g) : SdA W a r c U' := by
  obtain ⟨F, rv, M, sets, h1, h2, h3⟩ := h
  exact ⟨F, rv, M, sets, h1, h2, fun g hg => h3 g (hU g hg)⟩
/-- What was laid behind it may be guarded too. -/
theorem SdA.grow {W W' : World} {a r c : Nat} {U U' : Nat → Prop} (h : SdA W a r c U) (hb : Below W.heap.size W W') (hU : ∀ g, U' g → U g ∨ (W.heap.size ≤ g ∧ g < W'.heap.size)) : SdA W' a r c U' := by
  obtain ⟨F, rv, M, sets, h1, h2, h3⟩ := h
  refine ⟨F, rv, M, sets, h1.below hb, h2, fun g hg => ?_⟩
  rcases hU g hg with hu | ⟨hu, hu2⟩
  · exact ⟨Nat.lt_of_lt_of_le (h3 g hu).1 hb.size, (h3 g hu).2⟩
  · refine ⟨hu2, fun hF => ?_, fun e => ?_, fun e => ?_⟩
    · have := h1.ag.ltk hF; omega
    · have := h1.rf.lt; omega
    · have := (h1.rf.row.lt g e).2; omega
/-- A store into what is guarded alone. -/
theorem SdA.set {W : World} {a r c b i : Nat} {u : Value} {U : Nat → Prop} (h : SdA W a r c U) (hb : U b) (hn : NE W b) : SdA (W.setCell ⟨b, i, none⟩ u) a r c U := by
  obtain ⟨F, rv, M, sets, h1, h2, h3⟩ := h
  obtain ⟨q1, q2, q3, q4⟩ := h3 b hb
  have hM : Mv (fun k => k = b) W (W.setCell ⟨b, i, none⟩ u) := Mv.setCell (p := ⟨b, i, none⟩) u rfl (.inl hn)
  refine ⟨F, rv, M, sets, ⟨h1.ag.mv hM (fun k hk e => q2 (e ▸ hk)), h1.rf.mv hM (fun e => q3 e.symm) (fun g hg e => q4 (e ▸ hg)), h1.ti, h1.nr, h1.nv⟩, h2, fun g hg => ⟨by have := (h3 g hg).1; simpa [World.setCell] using this, (h3 g hg).2⟩⟩
theorem SdA.plays {W : World} {a r c : Nat} {U : Nat → Prop} (h : SdA W a r c U) (hc : c + 1 ≤ 1000000) (on d id n : Int) (hid : (Lit.int .i64 id).wf = true) :
    Calls Try.prog 5 #[.agg #[.pointer (some ⟨a, 0, none⟩), .pointer (some ⟨r, 0, none⟩)], .agg #[.int .i64 on, .int .i64 d, .int .i64 id, .int .i64 n]] W fun e w' => e = .returned (.bool true) ∧ SdA w' a r (c + 1) U ∧ Uk U W w' := by
  obtain ⟨F, rv, M, sets, h1, h2, h3⟩ := h
  refine (playsA h1 (by omega) on d id n hid).mono fun e w' ⟨he, F', rv', M', sets', g1, ⟨g2, g3, g4⟩, g5⟩ => ⟨he, ⟨F', rv', M', sets', g1, by omega, fun g hg => ?_⟩, ?_⟩
  · obtain ⟨q1, q2, q3, q4⟩ := h3 g hg
    refine ⟨Nat.lt_of_lt_of_le q1 g2.size, fun hF => ?_, q3, fun e => ?_⟩
    · rcases g3 g hF with x | x
      · exact q2 x
      · omega
    · rcases g4 g e with x | x
      · exact q4 x
      · omega
  · refine ⟨g2.os, g2.tape, g2.output, g2.size, fun g hg => g2.block g (h3 g hg).1 ?_, g2.ent⟩
    rintro (x | x)
    · exact (h3 g hg).2.1 x
    · exact (h3 g hg).2.2.1 x
end Go.Proofs.Ytmjdecgijnodhaa
