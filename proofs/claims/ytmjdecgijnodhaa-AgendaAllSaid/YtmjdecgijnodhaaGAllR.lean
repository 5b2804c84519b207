/- What stands while a range over All goes on. -/
import Derived.Test.YtmjdecgijnodhaaGSide
import Derived.Test.YtmjdecgijnodhaaGRefAll
namespace Go.Proofs.Ytmjdecgijnodhaa
open Go.RowKit Go.Maps Go.Shelf
/-- A box of one cell. -/
def Bx (W : World) (b : Nat) (t : TypeId) (v : Value) : Prop := W.heap[b]? = some (.cells #[v] t (0, 0))
theorem Bx.cell {W : World} {b : Nat} {t : TypeId} {v : Value} (h : Bx W b t v) : W.cell? ⟨b, 0, none⟩ = some v := by unfold Bx at h; simp [World.cell?, h]
theorem Bx.fz {W : World} {b : Nat} {t : TypeId} {v : Value} (h : Bx W b t v) : W.frozen? ⟨b, 0, none⟩ = false := by unfold Bx at h; simp [World.frozen?, h]
theorem Bx.lt {W : World} {b : Nat} {t : TypeId} {v : Value} (h : Bx W b t v) : b < W.heap.size := (Array.getElem?_eq_some_iff.1 h).1
theorem Bx.same {W W' : World} {b : Nat} {t : TypeId} {v : Value} (h : Bx W b t v) (e : W'.heap[b]? = W.heap[b]?) : Bx W' b t v := e.trans h
theorem Bx.ne {W : World} {b : Nat} {t : TypeId} {v : Value} (h : Bx W b t v) (ht : t ≠ 64) : NE W b := ne_other h ht
theorem Bx.new (W : World) (t : TypeId) (v : Value) : Bx (W.alloc (.cells #[v] t)) W.heap.size t v := heap_newG W _
theorem Bx.set {W : World} {b : Nat} {t : TypeId} {v : Value} (h : Bx W b t v) (u : Value) : Bx (W.setCell ⟨b, 0, none⟩ u) b t u := by
  have := heap_setCell_same W b 0 _ _ u h
  simpa [Bx] using this
theorem SdA.ltU {W : World} {a r c g : Nat} {U : Nat → Prop} (h : SdA W a r c U) (hg : U g) : g < W.heap.size := by
  obtain ⟨F, rv, M, sets, h1, h2, h3⟩ := h
  exact (h3 g hg).1
theorem SdA.put {W : World} {a r c l : Nat} {o : Obj} {U : Nat → Prop} (h : SdA W a r c U) (hl : U l) : SdA (W.putObj l o) a r c U := by
  obtain ⟨F, rv, M, sets, h1, h2, h3⟩ := h
  obtain ⟨q1, q2, q3, q4⟩ := h3 l hl
  have hg := grownBy_putObj' W l o
  have hM : Mw (fun k => k = l) W (W.putObj l o) := ⟨hg.os, hg.tape, hg.output, hg.size, fun g hgl hne => hg.block g hgl (by intro e; injection e with e; exact hne e)⟩
  exact ⟨F, rv, M, sets, ⟨h1.ag.mw hM (fun k hk e => q2 (e ▸ hk)), h1.rf.mw hM (fun e => q3 e.symm) (fun g hg e => q4 (e ▸ hg)), h1.ti, h1.nr, h1.nv⟩, h2, fun g hg' => ⟨Nat.lt_of_lt_of_le (h3 g hg').1 hg.size, (h3 g hg').2⟩⟩
/-- A round's state: W ahead of the laying of what is one's own, Wr where the range began, T where the first round did. -/
structure RI (w W Wr : World) (U : Nat → Prop) (a r c nb T k : Nat) (V : World) : Prop where
  sd : SdA V a r (c + k) (fun g => U g ∨ (W.heap.size ≤ g ∧ g < T))
  eq : ∀ g, (U g ∨ (W.heap.size ≤ g ∧ g < Wr.heap.size)) → g ≠ nb → V.heap[g]? = Wr.heap[g]?
  bn : Bx V nb 3 (.int .i64 (k : Int))
  fr : Below w.heap.size w V
  hT : Wr.heap.size ≤ T
section
variable {w W Wr V V' : World} {U : Nat → Prop} {a r c nb T k : Nat}
theorem RI.start (h : SdA W a r c U) (hb : Below W.heap.size W Wr) (hU : ∀ g, U g → g < W.heap.size) (hn : Bx Wr nb 3 (.int .i64 0)) (hw : Below w.heap.size w Wr) (hV : Below Wr.heap.size Wr V) : RI w W Wr U a r c nb V.heap.size 0 V :=
  ⟨h.grow (hb.trans (hV.mono hb.size)) (fun g hg => hg), fun g hg _ => hV.block g (hg.elim (fun x => by have := hb.size; have := hU g x; omega) (fun x => x.2)), hn.same (hV.block _ hn.lt), hw.trans (hV.mono hw.size), hV.size⟩
theorem RI.put (h : RI w W Wr U a r c nb T k V) (l : Nat) (o : Obj) (h1 : Wr.heap.size ≤ l) (h2 : l < T) (hW : W.heap.size ≤ Wr.heap.size) (hU : ∀ g, U g → g < W.heap.size) (hn : nb < Wr.heap.size) (hw : w.heap.size ≤ W.heap.size) : RI w W Wr U a r c nb T k (V.putObj l o) :=
  have hg := grownBy_putObj' V l o
  have nbk : ∀ g, g < V.heap.size → g ≠ l → (V.putObj l o).heap[g]? = V.heap[g]? := fun g hg' hne => hg.block g hg' (by intro e; injection e with e; exact hne e)
  ⟨h.sd.put (.inr ⟨by omega, h2⟩), fun g hg' hne => (nbk g (h.sd.ltU (hg'.elim (fun x => .inl x) (fun x => .inr ⟨x.1, by have := h.hT; omega⟩))) (hg'.elim (fun x => by have := hU g x; omega) (fun x => by omega))).trans (h.eq g hg' hne), h.bn.same (nbk nb h.bn.lt (by omega)), h.fr.grown hg h.fr.size (fun r e => by injection e; omega), h.hT⟩
theorem RI.drew (h : RI w W Wr U a r c nb T k V) : RI w W Wr U a r c nb T k V.drew :=
  ⟨h.sd.over ((Below.refl _ _).drew), h.eq, h.bn, h.fr.trans ⟨rfl, rfl, rfl, Nat.le_refl _, fun _ _ => rfl⟩, h.hT⟩
theorem RI.uk (h : RI w W Wr U a r c nb T k V) (hs : SdA V' a r (c + k + 1) (fun g => U g ∨ (W.heap.size ≤ g ∧ g < T))) (hk : Uk (fun g => U g ∨ (W.heap.size ≤ g ∧ g < T)) V V') (hn : W.heap.size ≤ nb ∧ nb < Wr.heap.size) (hw : ∀ g, g < w.heap.size → U g) (hw0 : w.heap.size ≤ W.heap.size) :
    RI w W Wr U a r c nb T (k + 1) (V'.setCell ⟨nb, 0, none⟩ (.int .i64 ((k + 1 : Nat) : Int))) := by
  have hT := h.hT
  have hbn : Bx V' nb 3 (.int .i64 (k : Int)) := h.bn.same (hk.block nb (.inr ⟨hn.1, by omega⟩))
  refine ⟨SdA.set hs (.inr ⟨hn.1, by omega⟩) (hbn.ne (by decide)), fun g hg hne => ?_, hbn.set _, ?_, hT⟩
  · exact ((Below.heap_setCell _ _ _ _ (by show g ≠ nb; exact hne)).trans (hk.block g (hg.elim (fun x => .inl x) (fun x => .inr ⟨x.1, by omega⟩)))).trans (h.eq g hg hne)
  · refine (h.fr.trans (hk.toBelow (fun g hg => .inl (hw g hg)))).setCell (p := ⟨nb, 0, none⟩) ?_ _
    show w.heap.size ≤ nb
    omega
end
/-- What a round guards of what is one's own. -/
def UK (n b9 ab kb : Nat) (E : Nat → Prop) (g : Nat) : Prop := g < n + 3 ∨ g = b9 ∨ g = ab ∨ g = kb ∨ E g
/-- How a round leaves the range: at the block's end, in the first round alone. -/
def IxA (w W Wr : World) (U : Nat → Prop) (a r c nb kc : Nat) (stop : Int) (cd : Code) (n : Nat) (V : World) : Prop :=
  cd = .exit 4 ∧ kc = 0 ∧ (n : Int) = stop ∧ ∃ T, Wr.heap.size + 2 ≤ T ∧ RI w W Wr U a r c nb T n V
/-- What stands ahead of a range: the law's own boxes, the pair, the closure's box, the loop's. -/
structure KI (w : World) (p0 r0 b9 ab kb : Nat) (E : Nat → Prop) (tv : Value) (stop : Int) (kc c : Nat) (W : World) : Prop where
  sd : SdA W p0 r0 c (UK w.heap.size b9 ab kb E)
  bt : Bx W w.heap.size 22 tv
  bs : Bx W (w.heap.size + 1) 3 (.int .i64 stop)
  br : Bx W (w.heap.size + 1 + 1) 4 (.bool false)
  s9 : W.heap[b9]? = some (.cells #[.pointer (some ⟨p0, 0, none⟩), .pointer (some ⟨r0, 0, none⟩)] 26 (0, 0))
  ba : Bx W ab 23 (.pointer (some ⟨p0, 0, none⟩))
  bk : Bx W kb 3 (.int .i64 (kc : Int))
  fr : Below w.heap.size w W
  o9 : w.heap.size + 3 ≤ b9
theorem KI.c9 {w : World} {p0 r0 b9 ab kb : Nat} {E : Nat → Prop} {tv : Value} {stop : Int} {kc c : Nat} {W : World} (h : KI w p0 r0 b9 ab kb E tv stop kc c W) : W.cell? ⟨b9, 0, none⟩ = some (.pointer (some ⟨p0, 0, none⟩)) ∧ W.cell? ⟨b9, 1, none⟩ = some (.pointer (some ⟨r0, 0, none⟩)) := by
  have := h.s9
  exact ⟨by simp [World.cell?, this], by simp [World.cell?, this]⟩
end Go.Proofs.Ytmjdecgijnodhaa
