/- A gate with its one entry; Open. -/
import Derived.Test.YtnfebegmgeanhaaDoorJ31
import Derived.Test.YtnfebegmgeanhaaDoorGtM
namespace Go.Proofs.YtnfebegmgeanhaaDoor.S
open Go.RowKit Go.Shelf
/-- A gate: its map, its solver. -/
structure GtA (W : World) (gg gm gs a b c n : Nat) (o : Option (Int × Value)) : Prop where
  bx : W.heap[gg]? = some (.cells #[.map (some gm), .pointer (some ⟨gs, 0, none⟩)] 49 (0, 0))
  mp : MpA W gm n o
  gau : GgAt W gs a b c
theorem GtA.cells {W : World} {gg gm gs a b c n : Nat} {o : Option (Int × Value)} (h : GtA W gg gm gs a b c n o) : W.cell? ⟨gg, 0, none⟩ = some (.map (some gm)) ∧ W.cell? ⟨gg, 1, none⟩ = some (.pointer (some ⟨gs, 0, none⟩)) := by
  have h1 := h.bx
  refine ⟨?_, ?_⟩ <;> simp [World.cell?, h1]
def NwG (w : World) (e : Ending) (w' : World) : Prop :=
  ∃ gg gm gs, e = .returned (.pointer (some ⟨gg, 0, none⟩)) ∧ Hid (GtA w' gg gm gs 0 0 0 0 none) ∧ Hid (w.heap.size ≤ gg ∧ w.heap.size ≤ gm ∧ w.heap.size ≤ gs ∧ gg ≠ gs) ∧ Hid (Below w.heap.size w w')
set_option maxRecDepth 100000 in
theorem newG (w : World) : Calls Tryd.prog 5 #[] w (NwG w) := by
  have hmm := (@run_makeMap Tryd.prog 45 w)
  have K := hide' (newF (w.alloc (.map #[] 0)))
  have hm := hide' (MpA.made w)
  have hB := hide' ((Below.refl w.heap.size w).alloc (Nat.le_refl _) (.map #[] 0))
  have hsz : Hid ((w.alloc (.map #[] 0)).heap.size = w.heap.size + 1) := by
    show (w.heap.push _).size = _
    simp
  generalize w.alloc (.map #[] 0) = W1 at *
  unfold NwG
  go_enter Tryd.func5, Tryd.ntmps5
  go_wp2_with fail
  refine K.out.mono ?_
  rintro e w2 ⟨rfl, hG, hb2⟩
  have hz2 := hb2.out.size
  have hz1 := hsz.out
  have hm2 := hide' (hm.out.below (hb2.out.block _ (by omega)))
  have hB2 := hide' (hB.out.trans (hb2.out.mono (by omega)))
  have hG2 := hG.out
  have hl := hG2.lt
  generalize W1.heap.size = gs at *
  subst hz1
  clear hmm K hm hB hb2 hsz
  go_wp2
  go_ret
  refine ⟨w2.heap.size, w.heap.size, w.heap.size + 1, rfl, ⟨heap_new w2 _, hm2.out.below ?_, hG2.of ?_⟩, ⟨by omega, by omega, by omega, by omega⟩, hB2.out.alloc (by omega) _⟩
  · exact ((Below.refl w2.heap.size w2).alloc (Nat.le_refl _) _).block _ (by omega)
  · exact ((Below.refl w2.heap.size w2).alloc (Nat.le_refl _) _).block _ (by omega)
end Go.Proofs.YtnfebegmgeanhaaDoor.S
namespace Go.Proofs.YtnfebegmgeanhaaDoor.S
open Go.RowKit Go.Shelf
/-- A gate whose one entry is known. -/
structure GtE (W : World) (gg gm gs a b c n : Nat) (k : Int) (P : Pb) (wv fv rv : Value) (can : Bool) (pl : Value) : Prop where
  at' : GtA W gg gm gs a b c n (some (k, enV P wv fv rv can pl))
  pb : PbV W P wv fv rv
  en : EnS W P can pl
  ok : Pok P
  chk : chkN P = 0
  ne : ∀ ad n c, wv = .slice (some ad) n c → ad.block ≠ gs
  shp : ∃ o n c, pl = .slice o n c
section
variable {V W : World}
/-- All cells that are there are left. -/
def Cls (V W : World) : Prop := ∀ g o v, V.cell? ⟨g, o, none⟩ = some v → W.cell? ⟨g, o, none⟩ = some v
theorem rowI_cls {v : Value} {l : List Int} (h : RowI V v l) (hc : Cls V W) : RowI W v l := by
  obtain ⟨oa, cap, e, e0, h⟩ := h
  refine ⟨oa, cap, e, e0, fun i z hz => ?_⟩
  obtain ⟨g, o, e1, e2⟩ := h i z hz
  exact ⟨g, o, e1, hc _ _ _ e2⟩
theorem rowW_cls {v : Value} {l : List Nat} (h : RowW V v l) (hc : Cls V W) : RowW W v l := by
  obtain ⟨oa, cap, e, e0, h⟩ := h
  refine ⟨oa, cap, e, e0, fun i z hz => ?_⟩
  obtain ⟨g, o, e1, e2⟩ := h i z hz
  exact ⟨g, o, e1, hc _ _ _ e2⟩
theorem rowR_cls {v : Value} {l : List Rl} (h : RowR V v l) (hc : Cls V W) : RowR W v l := by
  obtain ⟨oa, cap, e, e0, h⟩ := h
  refine ⟨oa, cap, e, e0, fun i z hz => ?_⟩
  obtain ⟨g, o, sv, e1, e2, e3, e4, e5⟩ := h i z hz
  exact ⟨g, o, sv, e1, hc _ _ _ e2, hc _ _ _ e3, hc _ _ _ e4, rowI_cls e5 hc⟩
theorem PbV.cls {P : Pb} {a b c : Value} (h : PbV V P a b c) (hc : Cls V W) : PbV W P a b c := ⟨rowW_cls h.who hc, rowI_cls h.fixed hc, rowR_cls h.rules hc⟩
theorem EnS.cls {P : Pb} {can : Bool} {v : Value} (h : EnS V P can v) (hc : Cls V W) : EnS W P can v := ⟨h.1, fun q => by
  obtain ⟨l, h1, h2⟩ := h.2 q
  exact ⟨l, h1, rowI_cls h2 hc⟩⟩
theorem EnS.frame {P : Pb} {can : Bool} {v : Value} {gs a b c : Nat} (h : EnS V P can v) (hg : GgAt V gs a b c) (hf : M.Fr2 V W gs gs) : EnS W P can v := ⟨h.1, fun q => by
  obtain ⟨l, h1, h2⟩ := h.2 q
  exact ⟨l, h1, rowI_frame h2 hg fun k hk e => hf.block k hk e e⟩⟩
theorem EnS.below {P : Pb} {can : Bool} {v : Value} (h : EnS V P can v) (hb : Below V.heap.size V W) : EnS W P can v := ⟨h.1, fun q => by
  obtain ⟨l, h1, h2⟩ := h.2 q
  exact ⟨l, h1, h2.below hb (Nat.le_refl _)⟩⟩
/-- A map's block has no cells. -/
theorem MpA.cls {gm n : Nat} {o : Option (Int × Value)} (h : MpA V gm n o) (hk : ∀ k, k < V.heap.size → k ≠ gm → W.heap[k]? = V.heap[k]?) : Cls V W := fun g i v e => by
  obtain ⟨es, clock, h1, h2⟩ := h
  have hne : g ≠ gm := fun q => by subst q; simp [World.cell?, h1] at e
  have h3 := hk g (cell_lt e) hne
  simp only [World.cell?] at e ⊢
  rw [h3]; exact e
theorem GtA.below {gg gm gs a b c n : Nat} {o : Option (Int × Value)} (h : GtA V gg gm gs a b c n o) (hb : Below V.heap.size V W) : GtA W gg gm gs a b c n o := by
  have h1 : gm < V.heap.size := by obtain ⟨es, clock, q, _⟩ := h.mp; exact (Array.getElem?_eq_some_iff.1 q).1
  exact ⟨(hb.block _ (Array.getElem?_eq_some_iff.1 h.bx).1).trans h.bx, h.mp.below (hb.block _ h1), h.gau.below hb⟩
theorem GtA.frame {gg gm gs a b c a' b' c' n : Nat} {o : Option (Int × Value)} (h : GtA V gg gm gs a b c n o) (hn : gg ≠ gs) (hf : M.Fr2 V W gs gs) (hg : GgAt W gs a' b' c') : GtA W gg gm gs a' b' c' n o := by
  obtain ⟨es, clock, q, q2⟩ := h.mp
  have hne : gm ≠ gs := fun e => by
    have h2 := h.gau.c0
    rw [← e] at h2
    simp [World.cell?, q] at h2
  exact ⟨(hf.block _ (Array.getElem?_eq_some_iff.1 h.bx).1 hn hn).trans h.bx, ⟨es, clock, (hf.block _ (Array.getElem?_eq_some_iff.1 q).1 hne hne).trans q, q2⟩, hg⟩
theorem GtA.apart {gg gm gs a b c n : Nat} {o : Option (Int × Value)} (h : GtA V gg gm gs a b c n o) : gm ≠ gs ∧ gm ≠ gg := by
  obtain ⟨es, clock, q, q2⟩ := h.mp
  refine ⟨fun e => ?_, fun e => ?_⟩
  · have h2 := h.gau.c0
    rw [← e] at h2
    simp [World.cell?, q] at h2
  · have h2 := h.bx
    rw [← e, q] at h2
    cases h2
end
theorem GtA.wr {V W : World} {gg gm gs a b c n g : Nat} {o : Option (Int × Value)} (h : GtA V gg gm gs a b c n o) (hw : Wr1 V W g) (h1 : gg ≠ g) (h2 : gm ≠ g) (h3 : gs ≠ g) : GtA W gg gm gs a b c n o :=
  ⟨(hw.block _ h1).trans h.bx, h.mp.below (hw.block _ h2), h.gau.of (hw.block _ h3)⟩
theorem GtA.lt {V : World} {gg gm gs a b c n : Nat} {o : Option (Int × Value)} (h : GtA V gg gm gs a b c n o) : gg < V.heap.size ∧ gm < V.heap.size ∧ gs < V.heap.size := by
  refine ⟨(Array.getElem?_eq_some_iff.1 h.bx).1, ?_, h.gau.lt⟩
  obtain ⟨es, clock, q, _⟩ := h.mp
  exact (Array.getElem?_eq_some_iff.1 q).1
theorem GtE.below {V W : World} {gg gm gs a b c n : Nat} {k : Int} {P : Pb} {wv fv rv pl : Value} {can : Bool} (h : GtE V gg gm gs a b c n k P wv fv rv can pl) (hb : Below V.heap.size V W) : GtE W gg gm gs a b c n k P wv fv rv can pl :=
  ⟨h.at'.below hb, h.pb.below hb, h.en.below hb, h.ok, h.chk, h.ne, h.shp⟩
theorem fr_wide {W W' : World} {a b : Nat} (h : M.Fr2 W W' a a) : M.Fr2 W W' a b := ⟨h.os, h.tape, h.output, h.size, fun k hk h1 _ => h.block k hk h1 h1⟩
/-- The entry is laid. -/
theorem GtA.put {W : World} {gg gm gs a b c n : Nat} {o : Option (Int × Value)} {k : Int} (h : GtA W gg gm gs a b c n o) (ho : o = none ∨ ∃ v0, o = some (k, v0)) (hn : n < maxLen) (hk : (Lit.int .i64 k).wf = true) (v : Value) :
    ∃ w', (Instr.mapUpdate 45 (.map (some gm)) (.int .i64 k) v).run Tryd.prog W = .ok () w' ∧ Hid (GtA w' gg gm gs a b c (n + 1) (some (k, v))) ∧ Hid (Cls W w') ∧ Hid (M.Fr2 W w' gs gm) := by
  obtain ⟨w', h1, h2, h3, h4⟩ := h.mp.store ho hn hk v
  have hb : ∀ i, i < W.heap.size → i ≠ gm → w'.heap[i]? = W.heap[i]? := fun i hi hne => h3.block i hi (by simpa using hne)
  have ha := h.apart
  refine ⟨w', h1, ⟨(hb _ (Array.getElem?_eq_some_iff.1 h.bx).1 (Ne.symm ha.2)).trans h.bx, h2, h.gau.of (hb _ h.gau.lt (Ne.symm ha.1))⟩, h.mp.cls hb, ⟨h3.os, h3.tape, h3.output, by omega, fun i hi _ hne => hb i hi hne⟩⟩
end Go.Proofs.YtnfebegmgeanhaaDoor.S
