/- Both agendas beside the book of lists: what each call leaves. -/
import Derived.Test.YtlolbefojkhhdaaGTwoFn
import Derived.Test.YtlolbefojkhhdaaGPlayD
import Derived.Test.YtlolbefojkhhdaaKOwn
namespace Go.Proofs.Ytlolbefojkhhdaa
open Go.RowKit Go.Maps
section
variable {W : World} {a r sets : Nat} {F : Nat → Prop} {rv : Value} {M : List Ent}
theorem cellsE_I (L : List Ent) : cellsE L = K.cellsI (L.map (·.id)) := by simp [cellsE, K.cellsI]
theorem saDueO (h : Sa W a r F rv M sets) {now most : Int} {e : Ending} {w3 : World} (hP : DuePost a M.length F (fun x => x ∈ M) sets now most W e w3) :
    ∃ v l, e = .returned v ∧ Mv F W w3 ∧ l.length ≤ 1000000 ∧ w3.ownsRow W.heap.size 3 1 v l.length (K.cellsI l) ∧ ∀ V, Below w3.heap.size w3 V → RefA V r (M.map prE) rv ∧ ∀ e4 w4, DueR r (M.map prE) now most rv V e4 w4 → ∃ v4, e4 = .returned v4 ∧ RowJ w4 v l ∧ RowJ w4 v4 l ∧ (∃ oa cap, v4 = .slice oa l.length cap) ∧ Mv (fun k => k = r) V w4 ∧ w4.ownsRow W.heap.size 3 1 v l.length (K.cellsI l) ∧ ∃ F' rv' M', Sa w4 a r F' rv' M' sets ∧ Nz F r rv F' rv' W w4 ∧ (∀ k, F' k → F k) ∧ ∀ g, v.ownBlock = some g → rv'.ownBlock ≠ some g := by
  obtain ⟨L, S', F', n', v, he, hT, hrow, hA, hM, hF, hn, h1, h2⟩ := hP
  obtain ⟨hk, hpre⟩ := due_len h.ti (fun _ => Iff.rfl) hT hn h1 h2
  have hsm := h.sm
  have hlr := len_remL (fun _ => Iff.rfl) h.ti hT
  have hrow' := hrow
  have hlm : L.length = (L.map (·.id)).length := by rw [List.length_map]
  rw [cellsE_I, hlm] at hrow'
  refine ⟨v, L.map (·.id), he, hM, by rw [List.length_map]; omega, hrow', fun V hV => ?_⟩
  have hMV : Mv F W V := hM.trans (Mv.below (F := fun _ => False) hV) (fun _ _ e => e.elim)
  have hAV := hA.below hV
  have hrV : V.ownsRow W.heap.size 3 1 v (L.map (·.id)).length (K.cellsI (L.map (·.id))) := owns_same hrow' fun g hg _ => hV.block g hg
  refine ⟨h.rf.mv hMV h.nr h.nv, fun e4 w4 ⟨v4, rv', he4, hrow4, hR4, hM4, hf4⟩ => ?_⟩
  have hrw : w4.ownsRow W.heap.size 3 1 v (L.map (·.id)).length (K.cellsI (L.map (·.id))) := owns_same hrV fun g hg eg => hM4.block g hg fun e => by
    have := (hrow.lt g eg).1
    have := h.rf.lt
    omega
  have hj4 : RowJ w4 v4 (L.map (·.id)) := by
    refine RowJ.own hrow4 (by rw [List.length_map, hk]) ?_
    rw [← hk, ← hpre]
    simp [cellsF, prE]
  refine ⟨v4, he4, RowJ.own hrw rfl rfl, hj4, ?_, hM4, hrw, ?_⟩
  · obtain ⟨oa, cap, e, _⟩ := hj4
    exact ⟨oa, cap, e⟩
  · rw [← hk, ← hpre, dropN_map] at hR4
    have key := sa_next h (M' := remL M L) hAV (taken_rem (fun _ => Iff.rfl) hT) (by omega) hMV (fun k hk => .inl (hF k hk)) hR4 rfl hM4 hf4 (h.ti.remL L)
    refine ⟨F', rv', _, key.1, key.2, hF, fun g eg eq => ?_⟩
    have l1 := hrV.lt g eg
    rcases hf4 g eq with h3 | h3
    · have := (h.rf.row.lt g h3).2; omega
    · omega
end
theorem Book.mv {W W' : World} {b : Nat} {tag : Nat → Nat} {G : Nat → Prop} (h : K.Book W b tag) (hM : Mv G W W') (hG : ∀ g, g < W.heap.size → G g → tag g = 0) : K.Book W' b tag := by
  obtain ⟨ov, ow, m, vs, us, rows, N, h⟩ := h
  have s : K.Sm (fun t => t = 0) tag W W' := ⟨hM.os, hM.tape, hM.output, hM.size, fun g hg hx => hM.block g hg fun e => hx (hG g hg e)⟩
  exact ⟨ov, ow, m, vs, us, rows, N, h.box.mv s (by rw [h.bt]; omega), h.bt, h.live.mv s (by omega) (fun j _ => by omega), h.want.mv s (by omega) (fun j _ => by omega), fun g hg => h.fresh g (Nat.le_trans hM.size hg), h.hN, h.hrow⟩
/-- What stands between the law's calls. -/
structure OwX (w W : World) (la b p r : Nat) (F : Nat → Prop) (rv : Value) (M : List Ent) (s : Nat) (tag : Nat → Nat) : Prop where
  bel : Below w.heap.size w W
  arr : ∃ f, W.rowIs la 27 4 f ∧ f 0 = .pointer (some ⟨p, 0, none⟩) ∧ f 1 = .pointer (some ⟨r, 0, none⟩)
  sa : Sa W p r F rv M s
  book : K.Book W b tag
  tF : ∀ g, F g → tag g = 0 ∧ w.heap.size ≤ g ∧ g ≠ la
  tr : tag r = 0 ∧ w.heap.size ≤ r ∧ r ≠ la
  tv : ∀ g, rv.ownBlock = some g → tag g = 0 ∧ w.heap.size ≤ g ∧ g ≠ la
  tla : tag la = 0 ∧ w.heap.size ≤ la
  tw : ∀ g, g < w.heap.size → tag g = 0
def OwS (w W : World) (la b p r c : Nat) : Prop := ∃ F rv M s tag, OwX w W la b p r F rv M s tag ∧ s ≤ c
section
variable {w W W' : World} {la b p r c : Nat} {F : Nat → Prop} {rv : Value} {M : List Ent} {s : Nat} {tag : Nat → Nat}
theorem OwX.lla (h : OwX w W la b p r F rv M s tag) : la < W.heap.size := by
  obtain ⟨f, hf, _⟩ := h.arr
  exact hf.lt
theorem OwX.over (h : OwX w W la b p r F rv M s tag) (hb : Below W.heap.size W W') : OwX w W' la b p r F rv M s tag := by
  obtain ⟨f, hf, he⟩ := h.arr
  exact ⟨h.bel.trans (hb.mono h.bel.size), ⟨f, hf.of_block (hb.block la hf.lt), he⟩, h.sa.below hb, Book.mv h.book (Mv.below (F := fun _ => False) hb) (fun _ _ e => e.elim), h.tF, h.tr, h.tv, h.tla, h.tw⟩
theorem OwS.over (h : OwS w W la b p r c) (hb : Below W.heap.size W W') : OwS w W' la b p r c := by
  obtain ⟨F, rv, M, s, tag, h1, h2⟩ := h
  exact ⟨F, rv, M, s, tag, h1.over hb, h2⟩
theorem OwS.more (h : OwS w W la b p r c) {c' : Nat} (hc : c ≤ c') : OwS w W la b p r c' := by
  obtain ⟨F, rv, M, s, tag, h1, h2⟩ := h
  exact ⟨F, rv, M, s, tag, h1, Nat.le_trans h2 hc⟩
theorem OwX.cells (h : OwX w W la b p r F rv M s tag) : W.cell? ⟨la, 0, none⟩ = some (.pointer (some ⟨p, 0, none⟩)) ∧ W.cell? ⟨la, 1, none⟩ = some (.pointer (some ⟨r, 0, none⟩)) := by
  obtain ⟨f, hf, e0, e1⟩ := h.arr
  have a0 := hf.cell (i := 0) (by omega)
  have a1 := hf.cell (i := 1) (by omega)
  rw [e0] at a0
  rw [e1] at a1
  exact ⟨a0, a1⟩
theorem OwX.nG (h : OwX w W la b p r F rv M s tag) : ¬ (F la ∨ la = r) ∧ ∀ g, g < w.heap.size → ¬ (F g ∨ g = r) := by
  refine ⟨?_, fun g hg => ?_⟩
  · rintro (e | e)
    · exact (h.tF _ e).2.2 rfl
    · exact h.tr.2.2 e.symm
  · rintro (e | e)
    · have := (h.tF _ e).2.1; omega
    · have := h.tr.2.1; omega
theorem OwX.fresh (h : OwX w W la b p r F rv M s tag) : ∀ g, W.heap.size ≤ g → tag g = 0 := h.book.fresh
/-- Both agendas have played. -/
theorem OwX.step (h : OwX w W la b p r F rv M s tag) {F' : Nat → Prop} {rv' : Value} {M' : List Ent} {s' : Nat} (hS : Sa W' p r F' rv' M' s') (hN : Nz F r rv F' rv' W W') : OwX w W' la b p r F' rv' M' s' tag := by
  obtain ⟨hM, hF, hv⟩ := hN
  obtain ⟨n1, n2⟩ := h.nG
  obtain ⟨f, hf, he⟩ := h.arr
  have hw := h.bel.size
  have hl := h.lla
  refine ⟨h.bel.trans (hM.toBelow (B := w.heap.size) (fun k e => ?_) hw), ⟨f, hf.of_block (hM.block la hf.lt n1), he⟩, hS, Book.mv h.book hM ?_, fun g hg => ?_, h.tr, fun g hg => ?_, h.tla, h.tw⟩
  · rcases Nat.lt_or_ge k w.heap.size with h1 | h1
    · exact absurd e (n2 k h1)
    · exact h1
  · rintro g _ (e | rfl)
    · exact (h.tF g e).1
    · exact h.tr.1
  · rcases hF g hg with e | e
    · exact h.tF g e
    · exact ⟨h.fresh g e, by omega, by omega⟩
  · rcases hv g hg with e | e
    · exact h.tv g e
    · exact ⟨h.fresh g e, by omega, by omega⟩
/-- Both play. -/
theorem OwS.plays (h : OwS w W la b p r c) (hc : c + 1 ≤ 1000000) : W.cell? ⟨la, 0, none⟩ = some (.pointer (some ⟨p, 0, none⟩)) ∧ W.cell? ⟨la, 1, none⟩ = some (.pointer (some ⟨r, 0, none⟩)) ∧ ∃ G : Nat → Prop, ¬ G la ∧ (∀ g, g < w.heap.size → ¬ G g) ∧ ∀ on d id n : Int, (Lit.int .i64 id).wf = true → Calls Try.prog 7 #[.agg #[.pointer (some ⟨p, 0, none⟩), .pointer (some ⟨r, 0, none⟩)], .agg #[.int .i64 on, .int .i64 d, .int .i64 id, .int .i64 n]] W fun e w' => e = .returned (.bool true) ∧ OwS w w' la b p r (c + 1) ∧ Mv G W w' := by
  obtain ⟨F, rv, M, s, tag, h1, h2⟩ := h
  obtain ⟨n1, n2⟩ := h1.nG
  refine ⟨h1.cells.1, h1.cells.2, fun g => F g ∨ g = r, n1, n2, fun on d id n hid => ?_⟩
  refine (playsA h1.sa (by omega) on d id n hid).mono fun e w' ⟨q1, F', v', M', s', q2, q3, q4⟩ => ⟨q1, ⟨F', v', M', s', tag, h1.step q2 q3, by omega⟩, q3.1⟩
/-- What the book's Ints leaves. -/
theorem OwX.ints (h : OwX w W la b p r F rv M s tag) {v : Value} {l : List Int} (hv : W.ownsRow 0 3 1 v l.length (K.cellsI l)) (hl : l.length ≤ 1000000) (hvt : ∀ g, v.ownBlock = some g → tag g = 0 ∧ ¬ F g ∧ g ≠ r ∧ rv.ownBlock ≠ some g ∧ g ≠ la ∧ w.heap.size ≤ g) :
    Calls Try.prog 15 #[.pointer (some ⟨b, 0, none⟩), v] W fun e w' => e = .returned (.tuple #[]) ∧ ∃ tag', OwX w w' la b p r F rv M s tag' := by
  refine (K.bookInts b tag v l W h.book hv hl fun g hg => (hvt g hg).1).mono ?_
  rintro e w' ⟨rfl, tag', hk', hf⟩
  have hM : Mv (fun g => tag g ≠ 0 ∨ v.ownBlock = some g) W w' := ⟨hf.os, hf.tape, hf.output, hf.size, fun g hg hx => hf.block g hg (Classical.byContradiction fun e => hx (.inl e)) (fun e => hx (.inr e))⟩
  have hnn : ∀ g, tag g = 0 → v.ownBlock ≠ some g → ¬ (tag g ≠ 0 ∨ v.ownBlock = some g) := by
    rintro g h1 h2 (e | e)
    · exact e h1
    · exact h2 e
  obtain ⟨f, hfr, he⟩ := h.arr
  have hw := h.bel.size
  have fF : ∀ g, F g → v.ownBlock ≠ some g := fun g hg e => (hvt g e).2.1 hg
  have fr : v.ownBlock ≠ some r := fun e => (hvt r e).2.2.1 rfl
  have fv : ∀ g, rv.ownBlock = some g → v.ownBlock ≠ some g := fun g hg e => (hvt g e).2.2.2.1 hg
  have fl : v.ownBlock ≠ some la := fun e => (hvt la e).2.2.2.2.1 rfl
  have fw : ∀ g, g < w.heap.size → v.ownBlock ≠ some g := fun g hg e => by have := (hvt g e).2.2.2.2.2; omega
  refine ⟨rfl, tag', h.bel.trans ⟨hf.os, hf.tape, hf.output, hf.size, fun k hk => hf.block k (by omega) (h.tw k hk) (fw k hk)⟩, ⟨f, hfr.of_block (hM.block la hfr.lt (hnn la h.tla.1 fl)), he⟩, ⟨h.sa.ag.mv hM (fun k hk => hnn k (h.tF k hk).1 (fF k hk)), h.sa.rf.mv hM (hnn r h.tr.1 fr) (fun g hg => hnn g (h.tv g hg).1 (fv g hg)), h.sa.ti, h.sa.nr, h.sa.nv⟩, hk', fun g hg => ⟨hf.tg g (h.sa.ag.ltk hg) (h.tF g hg).1 (fF g hg), (h.tF g hg).2⟩, ⟨hf.tg r h.sa.rf.lt h.tr.1 fr, h.tr.2⟩, fun g hg => ⟨hf.tg g (h.sa.rf.row.lt g hg).2 (h.tv g hg).1 (fv g hg), (h.tv g hg).2⟩, ⟨hf.tg la hfr.lt h.tla.1 fl, h.tla.2⟩, fun g hg => hf.tg g (by omega) (h.tw g hg) (fw g hg)⟩
/-- Both tell what is due; the book takes it in. -/
theorem OwS.due (h : OwS w W la b p r c) (n id : Int) : ∃ G : Nat → Prop, ¬ G la ∧ (∀ g, g < w.heap.size → ¬ G g) ∧ Calls Try.prog 12 #[.pointer (some ⟨p, 0, none⟩), .int .i64 n, .int .i64 id] W fun e w3 => ∃ v l, e = .returned v ∧ (∃ oa cap, v = .slice oa l.length cap) ∧ Mv G W w3 ∧ l.length ≤ 1000000 ∧
    ∀ V, Below w3.heap.size w3 V → Calls Try.prog 14 #[.pointer (some ⟨r, 0, none⟩), .int .i64 n, .int .i64 id] V fun e w4 => ∃ v4, e = .returned v4 ∧ (∃ oa cap, v4 = .slice oa l.length cap) ∧ RowJ w4 v l ∧ RowJ w4 v4 l ∧ Mv G V w4 ∧
      ∀ V', Below w4.heap.size w4 V' → Calls Try.prog 15 #[.pointer (some ⟨b, 0, none⟩), v] V' fun e w' => e = .returned (.tuple #[]) ∧ OwS w w' la b p r c := by
  obtain ⟨F, rv, M, s, tag, h1, h2⟩ := h
  obtain ⟨n1, n2⟩ := h1.nG
  refine ⟨fun g => F g ∨ g = r, n1, n2, (dueA p M.length s F _ n id W h1.sa.ag).mono fun e w3 hP => ?_⟩
  obtain ⟨v, l, he, hM, hl, hrow, hnx⟩ := saDueO h1.sa hP
  subst he
  refine ⟨v, l, rfl, own_shapeG hrow, hM.mono (fun _ x => .inl x), hl, fun V hV => ?_⟩
  obtain ⟨hRV, hn4⟩ := hnx V hV
  refine (dueR r _ rv n id h1.sa.nd V hRV).mono fun e w4 hD => ?_
  obtain ⟨v4, he4, j3, j4, sh4, hM4, hr4, F', rv', M', hS', hN', hFF, hvv⟩ := hn4 e w4 hD
  subst he4
  refine ⟨v4, rfl, sh4, j3, j4, hM4.mono (fun _ e => .inr e), fun V' hV' => ?_⟩
  have hX := (h1.step hS' hN').over hV'
  have hrv : V'.ownsRow W.heap.size 3 1 v l.length (K.cellsI l) := owns_same hr4 fun g hg _ => hV'.block g hg
  refine (hX.ints (K.owns_low hrv (Nat.zero_le _)) hl fun g hg => ?_).mono fun e w' ⟨q1, tag', q2⟩ => ⟨q1, F', rv', M', s, tag', q2, h2⟩
  have hge := (hrv.lt g hg).1
  have hb := h1.bel.size
  have hl2 := h1.lla
  have hrl := h1.sa.rf.lt
  exact ⟨h1.fresh g hge, fun e => by have := h1.sa.ag.ltk (hFF g e); omega, by omega, hvv g hg, by omega, by omega⟩
/-- The last Due: the book takes it in and closes. -/
theorem OwS.last (h : OwS w W la b p r c) (n id : Int) : Calls Try.prog 12 #[.pointer (some ⟨p, 0, none⟩), .int .i64 n, .int .i64 id] W fun e w3 => ∃ v, e = .returned v ∧ (∃ oa m cap, v = .slice oa m cap) ∧ ∀ V, Below w3.heap.size w3 V → Calls Try.prog 15 #[.pointer (some ⟨b, 0, none⟩), v] V fun e w' => e = .returned (.tuple #[]) ∧ ∀ V', Below w'.heap.size w' V' → Calls Try.prog 16 #[.pointer (some ⟨b, 0, none⟩)] V' fun e w5 => e = .returned (.bool true) ∧ Below w.heap.size w w5 := by
  obtain ⟨F, rv, M, s, tag, h1, h2⟩ := h
  obtain ⟨n1, n2⟩ := h1.nG
  refine (dueA p M.length s F _ n id W h1.sa.ag).mono fun e w3 hP => ?_
  obtain ⟨v, l, he, hM, hl, hrow, _⟩ := saDueO h1.sa hP
  subst he
  obtain ⟨oa, cap, hsh⟩ := own_shapeG hrow
  have hw := h1.bel.size
  refine ⟨v, rfl, ⟨oa, _, cap, hsh⟩, fun V hV => ?_⟩
  have hMV : Mv F W V := hM.trans (Mv.below (F := fun _ => False) hV) (fun _ _ e => e.elim)
  have hrV : V.ownsRow W.heap.size 3 1 v l.length (K.cellsI l) := owns_same hrow fun g hg _ => hV.block g hg
  have hkV := Book.mv h1.book hMV (fun g _ e => (h1.tF g e).1)
  have hsz := hMV.size
  have hbV : Below w.heap.size w V := h1.bel.trans (hMV.toBelow (B := w.heap.size) (fun k e => (h1.tF k e).2.1) hw)
  have fw : ∀ g, g < w.heap.size → v.ownBlock ≠ some g := fun g hg e => by have := (hrV.lt g e).1; omega
  refine (K.bookInts b tag v l V hkV (K.owns_low hrV (Nat.zero_le _)) hl fun g hg => h1.fresh g (hrV.lt g hg).1).mono ?_
  rintro e w' ⟨rfl, tag', hk', hf⟩
  refine ⟨rfl, fun V' hV' => ?_⟩
  have hk2 := Book.mv hk' (Mv.below (F := fun _ => False) hV') (fun _ _ e => e.elim)
  refine (K.bookClose b tag' V' hk2).mono ?_
  rintro e w5 ⟨rfl, hs⟩
  have hb' : Below w.heap.size w w' := hbV.trans ⟨hf.os, hf.tape, hf.output, hf.size, fun k hk => hf.block k (by omega) (h1.tw k hk) (fw k hk)⟩
  have hb2 := hb'.trans (hV'.mono hb'.size)
  have hsz2 := hb2.size
  exact ⟨rfl, hb2.trans ⟨hs.os, hs.tape, hs.output, hs.size, fun k hk => hs.block k (by omega) (fun h => h (hf.tg k (by omega) (h1.tw k hk) (fw k hk)))⟩⟩
/-- How it starts: the pairs, and an empty book. -/
theorem OwS.start {ps rs : Nat → Nat} {Fs : Nat → Nat → Prop} {vs : Nat → Value} {Ms : Nat → List Ent} {ss : Nat → Nat} (h : TwoA w W la w.heap.size 2 ps rs Fs vs Ms ss) (hla : w.heap.size ≤ la) (hs : ss 0 ≤ c) : OwS w (W.alloc (.cells #[.slice none 0 0, .slice none 0 0, .slice none 0 0, .slice none 0 0, .slice none 0 0, .slice none 0 0, .slice none 0 0, .slice none 0 0, .slice none 0 0, .slice none 0 0, .slice none 0 0, .slice none 0 0, .int .i64 0] 52)) la W.heap.size (ps 0) (rs 0) c := by
  have hb := (Below.refl _ W).alloc (Nat.le_refl _) (.cells #[.slice none 0 0, .slice none 0 0, .slice none 0 0, .slice none 0 0, .slice none 0 0, .slice none 0 0, .slice none 0 0, .slice none 0 0, .slice none 0 0, .slice none 0 0, .slice none 0 0, .slice none 0 0, .int .i64 0] 52)
  have hbw : Below w.heap.size w W := h.mv.toBelow (fun k e => by omega) (Nat.le_refl _)
  have hT := h.over hb
  obtain ⟨f, hf, he⟩ := hT.arr
  obtain ⟨q1, q2, q3⟩ := h.far 0 (by omega)
  have e0 := he 0 (by omega)
  have lt1 : ∀ g, Fs 0 g → g < W.heap.size := fun g hg => (h.sa 0 (by omega)).ag.ltk hg
  have lt2 := (h.sa 0 (by omega)).rf.lt
  have lt3 : ∀ g, (vs 0).ownBlock = some g → g < W.heap.size := fun g hg => ((h.sa 0 (by omega)).rf.row.lt g hg).2
  have lt4 := h.lt
  have lt5 := hbw.size
  refine ⟨Fs 0, vs 0, Ms 0, ss 0, _, ⟨hbw.trans (hb.mono lt5), ⟨f, hf, e0.1, e0.2⟩, hT.sa 0 (by omega), K.Book.start W, fun g hg => ⟨if_neg (by have := lt1 g hg; omega), q1 g hg⟩, ⟨if_neg (by omega), q2⟩, fun g hg => ⟨if_neg (by have := lt3 g hg; omega), q3 g hg⟩, ⟨if_neg (by omega), hla⟩, fun g hg => if_neg (by omega)⟩, hs⟩
end
end Go.Proofs.Ytlolbefojkhhdaa
