/- The document's Blocks. -/
import Derived.Test.YtagkopmegfmhaaaKFam
import Derived.Test.YtagkopmegfmhaaaERef2
namespace Go.Proofs.Ytagkopmegfmhaaa
open Go.RowKit
/-- Rows that were laid one behind the other. -/
structure Bl (W0 W : World) (tag : Nat → Nat) (ov : Value) (vs : List Value) (L : List (List Nat)) : Prop where
  fam : K.Fam W tag 2 (fun _ => 4) ov L.length vs (rowsOf L)
  low : ∀ g, g < W0.heap.size → tag g = 0
  fresh : ∀ g, W.heap.size ≤ g → tag g = 0
  old : Below W0.heap.size W0 W
theorem Bl.push {W0 W w4 w5 : World} {tag : Nat → Nat} {ov u : Value} {vs : List Value} {L : List (List Nat)} {l : List Nat} {g5 cap5 : Nat} {o5 : Obj} (h : Bl W0 W tag ov vs L) (hB : Below W.heap.size W w4)
    (hu : w4.ownsRow W.heap.size 3 1 u l.length (cellsI (ints l)))
    (hnew : w5.ownsRow 0 22 1 (.slice (some ⟨g5, 0, none⟩) (L.length + 1) cap5) (L.length + 1) (vs ++ [u])) (hold : w5.ownsRow 0 22 1 ov L.length vs)
    (hat : (ov = .slice (some ⟨g5, 0, none⟩) L.length cap5 ∧ (w4.alloc o5).grownBy w5 (some g5)) ∨ (g5 = (w4.alloc o5).heap.size ∧ (w4.alloc o5).grownBy w5 none)) :
    ∃ tag', Bl W0 w5 tag' (.slice (some ⟨g5, 0, none⟩) (L.length + 1) cap5) (vs ++ [u]) (L ++ [l]) := by
  generalize hW : w4.alloc o5 = Wx at hat
  have hz : Wx.heap.size = w4.heap.size + 1 := by rw [← hW]; simp
  have hBs := hB.size
  have h0s := h.old.size
  have S2 : ∀ X, K.Sm X tag W Wx := fun X => by rw [← hW]; exact (K.Sm.below hB).trans (K.Sm.alloc o5) (fun _ _ => rfl)
  have hul : ∀ g, u.ownBlock = some g → W.heap.size ≤ g ∧ g < w4.heap.size := fun g e => hu.lt g e
  have hg5 : tag g5 = 2 ∨ w4.heap.size < g5 := by
    rcases hat with ⟨e, hg⟩ | ⟨e, hg⟩
    · exact .inl (h.fam.otag g5 (by rw [e]; rfl))
    · exact .inr (by omega)
  have S3 : K.Sm (· = 2) tag Wx w5 := by
    rcases hat with ⟨e, hg⟩ | ⟨_, hg⟩
    · exact K.Sm.grown hg fun g eg => by cases eg; exact h.fam.otag g5 (by rw [e]; rfl)
    · exact K.Sm.grown hg fun g eg => by cases eg
  have hg5lt : g5 < w5.heap.size := K.owns_lt hnew rfl
  have hlow : w4.ownsRow 0 3 1 u l.length (cellsI (ints l)) := ⟨hu.1, by
    rcases hu.2 with hn | ⟨g, cap, cur, e, h1, rest⟩
    · exact .inl hn
    · exact .inr ⟨g, cap, cur, e, Nat.zero_le _, rest⟩⟩
  have huW : Wx.ownsRow 0 3 1 u l.length (cellsI (ints l)) := by rw [← hW]; exact hlow.alloc o5
  have hu5 : w5.ownsRow 0 3 1 u (rowsOf (L ++ [l]) L.length).length (K.cellsI (rowsOf (L ++ [l]) L.length)) := by
    rw [rowsOf_new, ints_len]
    exact K.owns_same huW fun g hg e => S3.block g hg (by show ¬ tag g = 2; rw [h.fresh g (hul g e).1]; decide)
  let tag' : Nat → Nat := fun g => if u.ownBlock = some g then 4 else if g = g5 then 2 else tag g
  have ht : ∀ g, tag g ≠ 0 → tag' g = tag g := fun g hne => by
    show (if u.ownBlock = some g then 4 else if g = g5 then 2 else tag g) = tag g
    rw [if_neg (fun e => hne (h.fresh g (hul g e).1))]
    by_cases e : g = g5
    · subst e
      rw [if_pos rfl]
      rcases hg5 with h2 | h2
      · exact h2.symm
      · exact absurd (h.fresh g (by omega)) hne
    · rw [if_neg e]
  have hv2t : tag' g5 = 2 := by
    show (if u.ownBlock = some g5 then 4 else if g5 = g5 then 2 else tag g5) = 2
    rw [if_neg (fun e => ?_), if_pos rfl]
    rcases hg5 with h2 | h2
    · rw [h.fresh g5 (hul g5 e).1] at h2; cases h2
    · have := (hul g5 e).2; omega
  have e00 : ∀ g, g < W0.heap.size → tag' g = 0 := fun g hg => by
    have h0 := h.low g hg
    show (if u.ownBlock = some g then 4 else if g = g5 then 2 else tag g) = 0
    rw [if_neg (fun e => by have := (hul g e).1; omega), if_neg (fun e => ?_)]
    · exact h0
    · subst e
      rcases hg5 with h2 | h2
      · rw [h0] at h2; cases h2
      · omega
  have L2 : K.Fam w5 tag' 2 (fun _ => 4) ov L.length vs (rowsOf (L ++ [l])) :=
    (((h.fam.mv (S2 (fun _ => False)) (fun h => h) (fun _ _ h => h)).out S3 hold (fun _ _ => by decide)).tags ht (by decide) (fun _ => by decide)).congr fun j hj => rowsOf_lt L l hj
  have L3 := L2.push hnew (fun g e => by cases e; exact hv2t) hu5 (fun g e => if_pos e)
  have h3s := S3.size
  refine ⟨tag', by simpa using L3, e00, fun g hg => ?_, h.old.trans ⟨?_, ?_, ?_, ?_, fun g hg => ?_⟩⟩
  · show (if u.ownBlock = some g then 4 else if g = g5 then 2 else tag g) = 0
    rw [if_neg (fun e => by have := (hul g e).2; omega), if_neg (by omega)]
    exact h.fresh g (by omega)
  · rw [S3.os, (S2 (fun _ => False)).os]
  · rw [S3.tape, (S2 (fun _ => False)).tape]
  · rw [S3.output, (S2 (fun _ => False)).output]
  · omega
  · exact (S3.block g (by omega) (by rw [h.low g hg]; decide)).trans ((S2 (fun _ => False)).block g (by omega) (fun h => h))
/-- The places of a block among the first c. -/
def plcTo (l : List Nat) (b c : Nat) : List Nat := (List.range c).filter fun i => l[i]? == some b
theorem plcTo_yes {l : List Nat} {b c : Nat} (h : l[c]? = some b) : plcTo l b (c + 1) = plcTo l b c ++ [c] := by
  unfold plcTo; rw [List.range_succ, List.filter_append]; simp [h]
theorem plcTo_no {l : List Nat} {b c x : Nat} (h : l[c]? = some x) (hx : x ≠ b) : plcTo l b (c + 1) = plcTo l b c := by
  unfold plcTo; rw [List.range_succ, List.filter_append]; simp [h, hx]
theorem plcTo_len (l : List Nat) (b c : Nat) : (plcTo l b c).length ≤ c := by
  unfold plcTo
  refine Nat.le_trans (List.length_filter_le _ _) ?_
  simp
def blockL (l : List Nat) (c : Nat) : List (List Nat) := (List.range c).map fun b => plc l b
theorem blockL_succ (l : List Nat) (c : Nat) : blockL l (c + 1) = blockL l c ++ [plc l c] := by unfold blockL; rw [List.range_succ, List.map_append]; rfl
theorem blockL_len (l : List Nat) (c : Nat) : (blockL l c).length = c := by simp [blockL]
set_option maxRecDepth 100000 in
set_option maxHeartbeats 2000000 in
theorem refBlocks (n : Nat) (l : List Nat) (v : Value) (w : World) (hr : RowI w v (ints l)) (hln : l.length = n) (hn : n ≤ 25) (hl : Leg 0 l) :
    Calls Try.prog 29 #[v] w fun e w' => ∃ oa cap, e = .returned (.slice oa (blks 0 l) cap) ∧ Hid (RR w' (.slice oa (blks 0 l) cap) (blockL l (blks 0 l))) ∧ Below w.heap.size w w' := by
  obtain ⟨i0, hi, hz0, hz1, hz2⟩ := info_parts info3
  obtain ⟨iL, hiL, hzL0, hzL1, hzL2⟩ := info_parts K.infoL
  have KL := hide' (refLegal (ints l) v w hr (by rw [ints_len]; omega))
  rw [Lg.ints hl (by omega)] at KL
  have KT : Hid (∀ V, Below w.heap.size w V → Calls Try.prog 47 #[v] V fun e w' => e = .returned (.int .i64 ((blks 0 l : Nat) - 1)) ∧ w' = V) := fun V hV => refTop l v V (hr.below hV (Nat.le_refl _)) (by omega) hl
  have hbl := blks_leg hl
  obtain ⟨oa, cap, rfl, _, hc⟩ := hr
  rw [ints_len, hln] at KL KT ⊢
  have hc' := hide' hc
  have hln' := hide' hln
  have h0 : Hid (∃ tag vs, Bl w w tag (.slice none 0 0) vs (blockL l 0)) := ⟨fun _ => 0, [], K.famNil _ _ _ _ _, fun _ _ => rfl, fun _ _ => rfl, Below.refl _ _⟩
  have hm25 : blks 0 l ≤ 25 := by omega
  clear hc hln hl hbl
  generalize hmm : blks 0 l = m at *
  clear hmm
  go_enter Try.func29, Try.ntmps29
  go_wp2_with (first | (go_at_call 24; refine KL.out.mono ?_; rintro e w1 ⟨rfl, hw1⟩; obtain rfl : w = w1 := hw1.symm))
  clear KL
  go_loopw [3, 4, 5, 6] (fun ov k _ _ wr => ∃ (c : Nat) (oo : Option Addr) (cc : Nat), c ≤ m ∧ k = .int .i64 c ∧ ov = .slice oo c cc ∧ Hid (∃ tag vs, Bl w wr tag (.slice oo c cc) vs (blockL l c))) (fun _ k _ _ _ => ((m : Int) + 1 - intOf k).toNat)
  case atStart => exact ⟨0, none, 0, Nat.zero_le _, rfl, rfl, h0⟩
  case round =>
    clear h0
    obtain ⟨c, oo, cc, hcm, rfl, rfl, hS⟩ := hrel
    obtain ⟨tag, vs, h⟩ := hS.out
    have KT1 := hide' (KT.out wr h.old)
    have h' := hide' h
    have hold := hide' h.old
    have hwz := h.old.size
    clear hS h
    by_cases hlt : c < m
    · have hle : (c : Int) ≤ (m : Int) - 1 := by omega
      go_wp2_with (first | (go_at_call 47; refine KT1.out.mono ?_; rintro e w1 ⟨rfl, hw1⟩; obtain rfl : wr = w1 := hw1.symm))
      clear KT1
      obtain ⟨Wc, rfl⟩ : ∃ W, W = wr := ⟨_, rfl⟩
      go_loopw [5, 6] (fun ov k wq => ∃ (d : Nat) (ou : Option Addr) (cu : Nat), d ≤ n ∧ k = .int .i64 d ∧ ov = .slice ou (plcTo l c d).length cu ∧ Hid (wq.ownsRow Wc.heap.size 3 1 (.slice ou (plcTo l c d).length cu) (plcTo l c d).length (cellsI (ints (plcTo l c d)))) ∧ Hid (Below Wc.heap.size Wc wq)) (fun _ k _ => ((n : Int) - intOf k).toNat)
      case atStart => exact ⟨0, none, 0, Nat.zero_le _, rfl, rfl, World.ownsRow_nil _ _ _ _, Below.refl _ _⟩
      case round =>
        obtain ⟨d, ou, cu, hdn, rfl, rfl, hO, hB⟩ := hrel
        by_cases hld : d < n
        · obtain ⟨x, hx⟩ : ∃ x, l[d]? = some x := ⟨_, List.getElem?_eq_getElem (by have := hln'.out; omega)⟩
          obtain ⟨g, o, rfl, x0⟩ := hc'.out d x (ints_at hx)
          have x1 := ((hold.out.trans (hB.out.mono hwz)).cell (p := ⟨g, o + d, none⟩) (cell_lt x0)).trans x0
          have hpl := plcTo_len l c d
          have hz := hB.out.size
          by_cases hxc : x = c
          · subst hxc
            have hxx : ((x : Int) == (x : Int)) = true := by simp
            have hS := hide' (plcTo_yes hx)
            have hO1 : Hid (∀ o, (wr.alloc o).ownsRow Wc.heap.size 3 1 (.slice ou (plcTo l x d).length cu) (plcTo l x d).length (cellsI (ints (plcTo l x d)))) := fun o => hO.out.alloc o
            have hfin : Hid (∀ ou' cu' w2, w2.ownsRow Wc.heap.size 3 1 (.slice ou' ((plcTo l x d).length + 1) cu') ((plcTo l x d).length + 1) (cellsI (ints (plcTo l x d)) ++ [.int .i64 (d : Int)]) → (wr.alloc (.cells #[.int .i64 (d : Int)] 3)).grownBy w2 (Value.slice ou (plcTo l x d).length cu).ownBlock → w2.ownsRow Wc.heap.size 3 1 (.slice ou' (plcTo l x (d + 1)).length cu') (plcTo l x (d + 1)).length (cellsI (ints (plcTo l x (d + 1)))) ∧ (plcTo l x (d + 1)).length = (plcTo l x d).length + 1 ∧ Below Wc.heap.size Wc w2) := fun ou' cu' w2 h1 h2 => by
              refine ⟨?_, ?_, ?_⟩
              · rw [hS.out, List.length_append, cellsI_snoc]; exact h1
              · rw [hS.out, List.length_append]; rfl
              · exact (hB.out.alloc hz _).grown h2 (by simp; omega) (fun j ej => (hO.out.lt j ej).1)
            clear hx x0 hS hO
            generalize hK : (plcTo l x d).length = Kn at *
            generalize hK2 : (plcTo l x (d + 1)).length = K2 at *
            clear hK
            go_wp2_with (first | (at_builtin; refine wpList_append_own _ rfl _ _ 22 rfl Wc.heap.size 3 i0 (.int .i64 0) 1 8 Try.underlying22 hi hz0 hz1 hz2 rfl (by decide) (.slice ou Kn cu) Kn (cellsI (ints (plcTo l x d))) rfl (hO1.out _) ⟨wr.heap.size, 0, none⟩ 1 1 [.int .i64 (d : Int)] rfl rfl (cell_one_new _ _ _) (by simp [Value.oneCell']) (by unfold maxLen; omega) (by omega) (by simp; omega) ?_; intro u w2 hown2 hgrow2 hnil2; clear hnil2; obtain ⟨ou2, cu2, rfl⟩ := K.own_shape hown2; have hF := hide' (hfin.out ou2 cu2 w2 hown2 hgrow2); clear hown2 hgrow2))
            exact ⟨⟨d + 1, ou2, cu2, by omega, by go_num, by rw [hK2, hF.out.2.1], by rw [hK2]; exact hF.out.1, hF.out.2.2⟩, by simp [intOf]; omega⟩
          · have hxx : ((x : Int) == (c : Int)) = false := by simp; omega
            have hS : Hid (plcTo l c (d + 1) = plcTo l c d) := plcTo_no hx hxc
            clear hx x0
            go_wp2
            exact ⟨⟨d + 1, ou, cu, by omega, by go_num, by rw [hS.out], by rw [hS.out]; exact hO, hB⟩, by simp [intOf]; omega⟩
        · obtain rfl : d = n := by omega
          have hpe : Hid (plcTo l c d = plc l c) := by show _ = _; unfold plcTo plc; rw [hln'.out]
          have hpl := plcTo_len l c d
          rw [hpe.out] at hO hpl ⊢
          have hz := hB.out.size
          have hfo : Hid (∀ o, (wr.alloc o).ownsRow 0 22 1 (.slice oo c cc) c vs) := fun o => by
            have h1 := (h'.out.fam.mv (K.Sm.below (X := fun _ => False) hB.out) (fun h => h) (fun _ _ h => h)).outer.alloc o
            rw [blockL_len] at h1
            exact h1
          have hfin : Hid (∀ o5 g5 cap5 w5, w5.ownsRow 0 22 1 (.slice (some ⟨g5, 0, none⟩) (c + 1) cap5) (c + 1) (vs ++ [.slice ou (plc l c).length cu]) → w5.ownsRow 0 22 1 (.slice oo c cc) c vs → ((.slice oo c cc = Value.slice (some ⟨g5, 0, none⟩) c cap5 ∧ (wr.alloc o5).grownBy w5 (some g5)) ∨ (g5 = (wr.alloc o5).heap.size ∧ (wr.alloc o5).grownBy w5 none)) → ∃ tag vs, Bl w w5 tag (.slice (some ⟨g5, 0, none⟩) (c + 1) cap5) vs (blockL l (c + 1))) := fun o5 g5 cap5 w5 h1 h2 h3 => by
            have h4 := h'.out.push (l := plc l c) (g5 := g5) (cap5 := cap5) (o5 := o5) hB.out hO.out (by rw [blockL_len]; exact h1) (by rw [blockL_len]; exact h2) (by rw [blockL_len]; exact h3)
            rw [blockL_len, ← blockL_succ] at h4
            obtain ⟨tag', h5⟩ := h4
            exact ⟨tag', _, h5⟩
          clear hO hpe h' hB
          generalize hK : (plc l c).length = Kn at *
          clear hK
          go_wp2_with (first | (at_builtin; refine K.wpList_append_two _ rfl _ _ 51 rfl 0 22 iL (.slice none 0 0) 1 24 Try.underlying51 hiL hzL0 hzL1 hzL2 rfl (by decide) (.slice oo c cc) c vs rfl (hfo.out _) ⟨wr.heap.size, 0, none⟩ 1 1 [.slice ou Kn cu] rfl rfl (cell_one_new _ _ _) (by simp [Value.oneCell']) (by decide) (by unfold maxLen; omega) (by omega) (Nat.zero_le _) ?_; intro g5 cap5 w5 hnew5 hold5 hat5; have hF := hide' (hfin.out _ g5 cap5 w5 hnew5 hold5 hat5); clear hnew5 hold5 hat5))
          exact ⟨⟨c + 1, some ⟨g5, 0, none⟩, cap5, by omega, by go_num, rfl, hF⟩, by simp [intOf]; omega⟩
    · obtain rfl : c = m := by omega
      have hle : ¬ (c : Int) ≤ (c : Int) - 1 := by omega
      have hled : decide ((c : Int) ≤ (c : Int) - 1) = false := decide_eq_false hle
      have hRR : Hid (RR wr (.slice oo c cc) (blockL l c)) := by
        have h1 := h'.out.fam
        exact RR.of_fam h1
      clear h'
      go_wp2_with (first | (go_at_call 47; refine KT1.out.mono ?_; rintro e w1 ⟨rfl, hw1⟩; obtain rfl : wr = w1 := hw1.symm))
      go_ret
      exact ⟨_, _, rfl, hRR, hold.out⟩
set_option maxRecDepth 100000 in
set_option maxHeartbeats 400000 in
theorem refBlocksB (l : List Int) (v : Value) (w : World) (hr : RowI w v l) (hn : l.length ≤ 1000) (hb : Lg l = false) : Calls Try.prog 29 #[v] w fun e w' => e = .returned (.slice none 0 0) ∧ w' = w := by
  have KL := hide' (refLegal l v w hr hn)
  rw [hb] at KL
  obtain ⟨oa, cap, rfl, _, _⟩ := hr
  go_enter Try.func29, Try.ntmps29
  go_wp2_with (first | (go_at_call 24; refine KL.out.mono ?_; rintro e w1 ⟨rfl, rfl⟩))
  go_ret
  exact ⟨rfl, rfl⟩
/-- The program's Blocks, read. -/
theorem RR.of_tab {B : Nat} {w : World} {gt m : Nat} {vs : List Value} {l : List Nat} (h : Tab B w gt m vs (plc l)) : RR w (.slice (some ⟨gt, 0, none⟩) m m) (blockL l m) := by
  refine ⟨some ⟨gt, 0, none⟩, m, by rw [blockL_len], fun i q hi => ?_⟩
  have him := (List.getElem?_eq_some_iff.1 hi).1
  rw [blockL_len] at him
  have hq : q = plc l i := by
    unfold blockL at hi
    rw [List.getElem?_map, List.getElem?_range him] at hi
    exact (Option.some.inj hi).symm
  subst hq
  obtain ⟨v, hv⟩ : ∃ v, vs[i]? = some v := ⟨_, List.getElem?_eq_getElem (by rw [h.len]; exact him)⟩
  have h1 := h.inner i v hv
  obtain ⟨ou, cu, rfl⟩ := K.own_shape h1
  refine ⟨gt, 0, ou, cu, rfl, ?_, ?_⟩
  · rw [Nat.zero_add, h.outer.cellAt i (by omega)]; exact hv
  · have h2 : w.ownsRow B 3 1 (.slice ou (plc l i).length cu) (ints (plc l i)).length (cellsI (ints (plc l i))) := by rw [ints_len]; exact h1
    have h3 := RowI.of_owns h2
    exact h3
end Go.Proofs.Ytagkopmegfmhaaa
