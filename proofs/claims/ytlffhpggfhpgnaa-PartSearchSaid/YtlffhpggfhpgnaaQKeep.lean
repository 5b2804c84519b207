/- The search's keep, as the law hands it in: what it answers, and what it changes. -/
import Derived.Test.YtlffhpggfhpgnaaQTree
namespace Go.Proofs.Ytlffhpggfhpgnaa
open Go.RowKit
/-- What the law has laid ahead of the search: the tree, the sieve, their boxes. -/
structure Ev (W : World) (bs tp tb : Nat) (nn mm mo ba : Int) (fv av : Value) (F : List Int) (A : List (List Nat)) : Prop where
  ct : W.cell? ⟨tp, 0, none⟩ = some (.pointer (some ⟨tb, 0, none⟩))
  ca : W.cell? ⟨tb, 6, none⟩ = some av
  ra : RR W av A
  c0 : W.cell? ⟨bs, 0, none⟩ = some (.int .i64 nn)
  c1 : W.cell? ⟨bs, 1, none⟩ = some (.int .i64 mm)
  c2 : W.cell? ⟨bs, 2, none⟩ = some fv
  c3 : W.cell? ⟨bs, 3, none⟩ = some (.int .i64 mo)
  c4 : W.cell? ⟨bs, 4, none⟩ = some (.int .i64 ba)
  rf : RowI W fv F
theorem Ev.below {W W' : World} {bs tp tb : Nat} {nn mm mo ba : Int} {fv av : Value} {F : List Int} {A : List (List Nat)} {n : Nat} (h : Ev W bs tp tb nn mm mo ba fv av F A) (hb : Below n W W') (hn : W.heap.size ≤ n) : Ev W' bs tp tb nn mm mo ba fv av F A := by
  have key : ∀ {b o : Nat} {u : Value}, W.cell? ⟨b, o, none⟩ = some u → W'.cell? ⟨b, o, none⟩ = some u := fun {b o u} hc => (hb.cell (p := ⟨b, o, none⟩) (Nat.lt_of_lt_of_le (cell_lt hc) hn)).trans hc
  exact ⟨key h.ct, key h.ca, h.ra.below hb hn, key h.c0, key h.c1, key h.c2, key h.c3, key h.c4, h.rf.below hb hn⟩
/-- Behind the law's boxes: how often was asked; nothing was amiss. -/
structure Bx (W1 W : World) (i : Nat) : Prop where
  old : Below W1.heap.size W1 W
  bi : W.heap[W1.heap.size]? = some (.cells #[.int .i64 (i : Int)] 3 (0, 0))
  bo : W.heap[W1.heap.size + 1]? = some (.cells #[.bool true] 4 (0, 0))
theorem Bx.below {W1 W W' : World} {i : Nat} (h : Bx W1 W i) (hb : Below W.heap.size W W') : Bx W1 W' i := by
  have h1 := (Array.getElem?_eq_some_iff.1 h.bo).1
  exact ⟨h.old.trans (hb.mono (by omega)), (hb.block _ (by omega)).trans h.bi, (hb.block _ (by omega)).trans h.bo⟩
/-- The two boxes alone are turned. -/
def Sb (W1 W W' : World) : Prop := K.Sm (fun g => g = W1.heap.size ∨ g = W1.heap.size + 1) id W W'
theorem Sb.below {W1 W W' : World} (h : Below W.heap.size W W') : Sb W1 W W' := K.Sm.below h
theorem Sb.trans {W1 W W' W2 : World} (h : Sb W1 W W') (k : Sb W1 W' W2) : Sb W1 W W2 := K.Sm.trans h k (fun _ _ => rfl)
theorem Bx.okSet {W1 W : World} {i : Nat} (h : Bx W1 W i) : Bx W1 (W.setCell ⟨W1.heap.size + 1, 0, none⟩ (.bool true)) i ∧ Sb W1 W (W.setCell ⟨W1.heap.size + 1, 0, none⟩ (.bool true)) := by
  have h1 := (Array.getElem?_eq_some_iff.1 h.bo).1
  have s : Sb W1 W (W.setCell ⟨W1.heap.size + 1, 0, none⟩ (.bool true)) := K.Sm.setCell _ (.inr rfl)
  have s2 : K.Sm (· = W1.heap.size + 1) id W (W.setCell ⟨W1.heap.size + 1, 0, none⟩ (.bool true)) := K.Sm.setCell _ rfl
  refine ⟨⟨h.old.trans ⟨s.os, s.tape, s.output, s.size, fun g hg => s2.block g (by omega) (by show ¬ g = _; omega)⟩, (s2.block _ (by omega) (by show ¬ W1.heap.size = _; omega)).trans h.bi, ?_⟩, s⟩
  have := heap_setCell_same W (W1.heap.size + 1) 0 _ _ (.bool true) h.bo; simpa using this
theorem Bx.iSet {W1 W : World} {i : Nat} (h : Bx W1 W i) : Bx W1 (W.setCell ⟨W1.heap.size, 0, none⟩ (.int .i64 ((i + 1 : Nat) : Int))) (i + 1) ∧ Sb W1 W (W.setCell ⟨W1.heap.size, 0, none⟩ (.int .i64 ((i + 1 : Nat) : Int))) := by
  have h1 := (Array.getElem?_eq_some_iff.1 h.bo).1
  have s : Sb W1 W (W.setCell ⟨W1.heap.size, 0, none⟩ (.int .i64 ((i + 1 : Nat) : Int))) := K.Sm.setCell _ (.inl rfl)
  have s2 : K.Sm (· = W1.heap.size) id W (W.setCell ⟨W1.heap.size, 0, none⟩ (.int .i64 ((i + 1 : Nat) : Int))) := K.Sm.setCell _ rfl
  refine ⟨⟨h.old.trans ⟨s.os, s.tape, s.output, s.size, fun g hg => s2.block g (by omega) (by show ¬ g = _; omega)⟩, ?_, (s2.block _ (by omega) (by show ¬ W1.heap.size + 1 = _; omega)).trans h.bo⟩, s⟩
  have := heap_setCell_same W (W1.heap.size) 0 _ _ (.int .i64 ((i + 1 : Nat) : Int)) h.bi; simpa using this
def keepV (bs tp : Nat) (W1 : World) : Value := .func (.func 6) #[] #[.pointer (some ⟨tp, 0, none⟩), .pointer (some ⟨W1.heap.size, 0, none⟩), .pointer (some ⟨W1.heap.size + 1, 0, none⟩), .pointer (some ⟨bs, 0, none⟩)]
theorem RowI.sb {W1 W V : World} {v : Value} {l : List Int} (h : RowI W v l) (hs : Sb W1 W V) (hvb : ∀ g o n c, v = .slice (some ⟨g, o, none⟩) n c → W1.heap.size + 1 < g) : RowI V v l := by
  obtain ⟨oa, cap, rfl, h1, h2⟩ := h
  refine ⟨oa, cap, rfl, h1, fun i z hi => ?_⟩
  obtain ⟨g, o, rfl, hc⟩ := h2 i z hi
  have hg := hvb g o _ _ rfl
  refine ⟨g, o, rfl, ?_⟩
  have e := hs.block g (cell_lt hc) (by show ¬ (g = _ ∨ g = _); omega)
  unfold World.cell? at hc ⊢
  simp only [e]
  exact hc
/-- The last piece: the count, and the answer. -/
def KPost (W1 W : World) (i : Nat) (b : Bool) (e : Ending) (w' : World) : Prop := e = .returned (.bool b) ∧ Bx W1 w' (i + 1) ∧ Sb W1 W w'
set_option maxRecDepth 100000 in
set_option maxHeartbeats 2000000 in
theorem keepQ (W1 : World) (bs tp tb : Nat) (nn mm mo ba : Int) (of : Option Addr) (cf : Nat) (av : Value) (F : List Int) (A : List (List Nat)) (hE : Ev W1 bs tp tb nn mm mo ba (.slice of F.length cf) av F A) (hA : A.length ≤ 3000) (W : World) (i : Nat) (hi : i ≤ 100000) (hx : Bx W1 W i) (l : List Nat) (v : Value) (hv : RowI W v (ints l)) (hvb : ∀ g o n c, v = .slice (some ⟨g, o, none⟩) n c → W1.heap.size + 1 < g) (hl : l.length ≤ 25) (hlb : ∀ x ∈ l, x ≤ 25) (hask : A.length < 3000 ∨ i < 3000 → A[i]? = some l) :
    Calls Try.prog 6 #[v, .pointer (some ⟨tp, 0, none⟩), .pointer (some ⟨W1.heap.size, 0, none⟩), .pointer (some ⟨W1.heap.size + 1, 0, none⟩), .pointer (some ⟨bs, 0, none⟩)] W fun e w' => KPost W1 W i (decide (i + 1 ≤ 3000) && keptP F mo ba l) e w' := by
  have hEW := hE.below hx.old (Nat.le_refl _)
  have ct := hEW.ct
  have ca := hEW.ca
  have ci := cell_blk hx.bi
  have co := cell_blk hx.bo
  have fi := frozen_of_row W W1.heap.size 0 _ _ hx.bi
  have fo := frozen_of_row W (W1.heap.size + 1) 0 _ _ hx.bo
  have hsz := (Array.getElem?_eq_some_iff.1 hx.bo).1
  have hne : ¬ W1.heap.size = W1.heap.size + 1 := by omega
  have hne' : ¬ W1.heap.size + 1 = W1.heap.size := by omega
  obtain ⟨oA, cA, rfl, hra⟩ := hEW.ra
  obtain ⟨ov, cv, hve⟩ := hv.shapeQ
  -- what follows behind the test, in whatever world it is
  have hEnd : Hid (∀ V, Bx W1 V i → Sb W1 W V → Calls Try.prog 8 #[.agg #[.int .i64 nn, .int .i64 mm, .slice of F.length cf, .int .i64 mo, .int .i64 ba], v] (V.setCell ⟨W1.heap.size, 0, none⟩ (.int .i64 ((i : Int) + 1))) fun e w' => e = .returned (.bool (keptP F mo ba l)) ∧ Below (V.setCell ⟨W1.heap.size, 0, none⟩ (.int .i64 ((i : Int) + 1))).heap.size (V.setCell ⟨W1.heap.size, 0, none⟩ (.int .i64 ((i : Int) + 1))) w') := fun V hV hS => by
    have h1 := hV.iSet
    rw [show ((i + 1 : Nat) : Int) = (i : Int) + 1 by omega] at h1
    exact keptS F (.slice of F.length cf) nn mm mo ba l v _ (hE.rf.below h1.1.old (Nat.le_refl _)) (hv.sb (hS.trans h1.2) hvb) hl hlb
  have hFin : Hid (∀ V w' b, Bx W1 V i → Sb W1 W V → Below (V.setCell ⟨W1.heap.size, 0, none⟩ (.int .i64 ((i : Int) + 1))).heap.size (V.setCell ⟨W1.heap.size, 0, none⟩ (.int .i64 ((i : Int) + 1))) w' → KPost W1 W i b (.returned (.bool b)) w') := fun V w' b hV hS hb => by
    have h1 := hV.iSet
    rw [show ((i + 1 : Nat) : Int) = (i : Int) + 1 by omega] at h1
    exact ⟨rfl, h1.1.below hb, (hS.trans h1.2).trans (Sb.below hb)⟩
  have hSv : Hid (∀ V, Bx W1 V i → V.cell? ⟨bs, 0, none⟩ = some (.int .i64 nn) ∧ V.cell? ⟨bs, 1, none⟩ = some (.int .i64 mm) ∧ V.cell? ⟨bs, 2, none⟩ = some (.slice of F.length cf) ∧ V.cell? ⟨bs, 3, none⟩ = some (.int .i64 mo) ∧ V.cell? ⟨bs, 4, none⟩ = some (.int .i64 ba) ∧ bs < W1.heap.size) := fun V hV => by
    have h1 := hE.below hV.old (Nat.le_refl _)
    exact ⟨h1.c0, h1.c1, h1.c2, h1.c3, h1.c4, cell_lt hE.c0⟩
  have hx' := hide' hx
  have hlt3 := cell_lt hE.c0
  have hbs1 : ¬ W1.heap.size = bs := by omega
  have hbs2 : ¬ W1.heap.size + 1 = bs := by omega
  have hbs3 : ¬ bs = W1.heap.size := by omega
  have hbs4 : ¬ bs = W1.heap.size + 1 := by omega
  by_cases hc : A.length < 3000 ∨ i < 3000
  · have hAi := hask hc
    have hiA := (List.getElem?_eq_some_iff.1 hAi).1
    obtain ⟨gA, o, ou, cu, hoA, cu1, hru⟩ := hra i l hAi
    subst hoA
    have KI : Hid (Calls Try.prog 7 #[v, .slice ou l.length cu] W.drew fun e w' => e = .returned (.bool true) ∧ Below W.drew.heap.size W.drew w') := by
      have := keepInts (ints l) (ints l) v _ W.drew (hv.below (Below.refl _ W).drew (Nat.le_refl _)) (hru.below (Below.refl _ W).drew (Nat.le_refl _)) (by rw [ints_len]; omega) (by rw [ints_len]; omega)
      rw [decide_eq_true rfl] at this
      exact this
    have hSX : Hid (∀ V, Bx W1 V i → (fun V => V.cell? ⟨W1.heap.size + 1, 0, none⟩ = some (.bool true) ∧ V.cell? ⟨W1.heap.size, 0, none⟩ = some (.int .i64 (i : Int)) ∧ V.cell? ⟨tp, 0, none⟩ = some (.pointer (some ⟨tb, 0, none⟩)) ∧ V.cell? ⟨tb, 6, none⟩ = some (.slice (some ⟨gA, o, none⟩) A.length cA) ∧ V.cell? ⟨gA, o + i, none⟩ = some (.slice ou l.length cu)) V) := fun V hV => by
      obtain ⟨oA', cA', e', hr'⟩ := hE.ra
      cases e'
      obtain ⟨gA', o', ou', cu', e1, hc1, _⟩ := hr' i l hAi
      cases e1
      have c2 := (hx.old.cell (p := ⟨gA, o + i, none⟩) (cell_lt hc1)).trans hc1
      rw [cu1] at c2
      rw [← Option.some.inj c2] at hc1
      have h1 := hE.below hV.old (Nat.le_refl _)
      exact ⟨cell_blk hV.bo, cell_blk hV.bi, h1.ct, h1.ca, (hV.old.cell (p := ⟨gA, o + i, none⟩) (cell_lt hc1)).trans hc1⟩
    have hS0 := hide' (hSX.out _ (hx'.out.below (Below.refl _ W).drew))
    have hdec : decide (i + 1 ≤ 3000) = true := by simp; omega
    have hiI : (i : Int) < (A.length : Int) := by omega
    have hi3 : (i : Int) + 1 ≤ 3000 := by omega
    have hW2 : Hid (∀ w2, Below W.drew.heap.size W.drew w2 → Bx W1 w2 i ∧ Sb W1 W w2) := fun w2 hb => by
      have h1 : Below W.heap.size W w2 := ((Below.refl _ W).drew).trans hb
      exact ⟨hx'.out.below h1, Sb.below h1⟩
    rw [hdec, Bool.true_and]
    clear hra hru hAi hask hEW hE hv hx hvb
    subst hve
    by_cases hA3 : A.length < 3000
    · have hA3I : (A.length : Int) < 3000 := by omega
      go_enter Try.func6, Try.ntmps6
      go_wp2
      go_region_held3 (fun V => V.cell? ⟨W1.heap.size + 1, 0, none⟩ = some (.bool true) ∧ V.cell? ⟨W1.heap.size, 0, none⟩ = some (.int .i64 (i : Int)) ∧ V.cell? ⟨tp, 0, none⟩ = some (.pointer (some ⟨tb, 0, none⟩)) ∧ V.cell? ⟨tb, 6, none⟩ = some (.slice (some ⟨gA, o, none⟩) A.length cA) ∧ V.cell? ⟨gA, o + i, none⟩ = some (.slice ou l.length cu)) (first | (exact hS0.out) | (exact hS2.out) | (exact hS3.out)) (first | (go_at_call 7; refine KI.out.mono ?_; rintro e w2 ⟨rfl, hb2⟩; have hq2 := hide' (hW2.out _ hb2); have co2 := cell_blk hq2.out.1.bo; have ci2 := cell_blk hq2.out.1.bi; have fo2 := frozen_of_row w2 (W1.heap.size + 1) 0 _ _ hq2.out.1.bo; have fi2 := frozen_of_row w2 W1.heap.size 0 _ _ hq2.out.1.bi; have KK := hide' (hEnd.out _ hq2.out.1.okSet.1 (hq2.out.2.trans hq2.out.1.okSet.2)); obtain ⟨s0, s1, s2, s3, s4, _⟩ := hSv.out _ hq2.out.1; have hS2 := hide' (hSX.out _ hq2.out.1); have hS3 := hide' (hSX.out _ hq2.out.1.okSet.1); clear hb2))
      go_wp2_with (first | (go_at_call 8; refine KK.out.mono ?_; rintro e w4 ⟨rfl, hb4⟩))
      go_ret
      exact hFin.out _ _ _ hq2.out.1.okSet.1 (hq2.out.2.trans hq2.out.1.okSet.2) hb4
    · have hA3I : ¬ (A.length : Int) < 3000 := by omega
      have hA3d : decide ((A.length : Int) < 3000) = false := decide_eq_false hA3I
      have hi3I : (i : Int) < 3000 := by omega
      go_enter Try.func6, Try.ntmps6
      go_wp2
      go_region_held3 (fun V => V.cell? ⟨W1.heap.size + 1, 0, none⟩ = some (.bool true) ∧ V.cell? ⟨W1.heap.size, 0, none⟩ = some (.int .i64 (i : Int)) ∧ V.cell? ⟨tp, 0, none⟩ = some (.pointer (some ⟨tb, 0, none⟩)) ∧ V.cell? ⟨tb, 6, none⟩ = some (.slice (some ⟨gA, o, none⟩) A.length cA) ∧ V.cell? ⟨gA, o + i, none⟩ = some (.slice ou l.length cu)) (first | (exact hS0.out) | (exact hS2.out) | (exact hS3.out)) (first | (go_at_call 7; refine KI.out.mono ?_; rintro e w2 ⟨rfl, hb2⟩; have hq2 := hide' (hW2.out _ hb2); have co2 := cell_blk hq2.out.1.bo; have ci2 := cell_blk hq2.out.1.bi; have fo2 := frozen_of_row w2 (W1.heap.size + 1) 0 _ _ hq2.out.1.bo; have fi2 := frozen_of_row w2 W1.heap.size 0 _ _ hq2.out.1.bi; have KK := hide' (hEnd.out _ hq2.out.1.okSet.1 (hq2.out.2.trans hq2.out.1.okSet.2)); obtain ⟨s0, s1, s2, s3, s4, _⟩ := hSv.out _ hq2.out.1; have hS2 := hide' (hSX.out _ hq2.out.1); have hS3 := hide' (hSX.out _ hq2.out.1.okSet.1); clear hb2))
      go_wp2_with (first | (go_at_call 8; refine KK.out.mono ?_; rintro e w4 ⟨rfl, hb4⟩))
      go_ret
      exact hFin.out _ _ _ hq2.out.1.okSet.1 (hq2.out.2.trans hq2.out.1.okSet.2) hb4
  · have hA3I : ¬ (A.length : Int) < 3000 := by omega
    have hA3d : decide ((A.length : Int) < 3000) = false := decide_eq_false hA3I
    have hi3I : ¬ (i : Int) < 3000 := by omega
    have hi3d : decide ((i : Int) < 3000) = false := decide_eq_false hi3I
    have hi4I : ¬ (i : Int) + 1 ≤ 3000 := by omega
    have hi4d : decide ((i : Int) + 1 ≤ 3000) = false := decide_eq_false hi4I
    have hdec : decide (i + 1 ≤ 3000) = false := by simp; omega
    rw [hdec, Bool.false_and]
    clear hra hask hEW hE hv hx hvb
    subst hve
    go_enter Try.func6, Try.ntmps6
    go_wp2
    go_ret
    exact hFin.out _ _ _ hx'.out (Sb.below (Below.refl _ _)) (Below.refl _ _)
end Go.Proofs.Ytlffhpggfhpgnaa
