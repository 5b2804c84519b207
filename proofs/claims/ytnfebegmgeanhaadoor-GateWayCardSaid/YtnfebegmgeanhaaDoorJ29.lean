/- What stands between a law's calls: the problem that was cut, its box, and a solver. -/
import Derived.Test.YtnfebegmgeanhaaDoorJ26
import Derived.Test.YtnfebegmgeanhaaDoorJ28
import Derived.Deep.RegionHeld3
namespace Go.Proofs.YtnfebegmgeanhaaDoor.S
open Go.RowKit Go.Shelf
theorem cutR_cut (r : Rl) : cutR (cutR r) = cutR r := by
  unfold cutR
  simp [List.take_take]
theorem cutP_cut (P : Pb) : cutP (cutP P) = cutP P := by
  unfold cutP
  simp only [List.take_take, Nat.min_self, ← List.map_take, List.map_map]
  congr 1
  exact List.map_congr_left fun r _ => cutR_cut r
theorem cutP_ok {P : Pb} (hb : ∀ z ∈ P.who, z < 18446744073709551616) : Pok (cutP P) :=
  ⟨by show (P.who.take 20).length ≤ 1000; rw [List.length_take]; omega, by show (P.fixed.take 20).length ≤ 1000; rw [List.length_take]; omega,
    by show ((P.rules.take 40).map cutR).length ≤ 1000; rw [List.length_map, List.length_take]; omega,
    fun r hr => by
      obtain ⟨q, _, rfl⟩ := List.mem_map.1 (show r ∈ (P.rules.take 40).map cutR from hr)
      show (q.steps.take 20).length ≤ 1000
      rw [List.length_take]; omega,
    fun z hz => hb z (List.mem_of_mem_take (show z ∈ P.who.take 20 from hz))⟩
/-- Cut, as the laws use it. -/
theorem cutA (P : Pb) (wv fv rv : Value) (w : World) (h : PbV w P wv fv rv) :
    Calls Tryd.prog 4 #[pbV P wv fv rv] w fun e w' => ∃ va vb vc, e = .returned (pbV (cutP P) va vb vc) ∧ Hid (PbV w' (cutP P) va vb vc) ∧ Hid (Below w.heap.size w w') := by
  refine (cutF P wv fv rv w h).mono ?_
  rintro e w' ⟨va, vb, vc, E, rfl, hO, hB⟩
  obtain ⟨o1, o2, o3, o4⟩ := hO.out
  refine ⟨va, vb, vc, rfl, ⟨RowW.of_owns o1, RowI.of_owns o2, ?_⟩, hB⟩
  have := o3.rowR
  rw [o4] at this
  exact this
/-- Cut of what was cut. -/
theorem cutB (P : Pb) (wv fv rv : Value) (w : World) (h : PbV w (cutP P) wv fv rv) :
    Calls Tryd.prog 4 #[pbV (cutP P) wv fv rv] w fun e w' => ∃ va vb vc, e = .returned (pbV (cutP P) va vb vc) ∧ Hid (PbV w' (cutP P) va vb vc) ∧ Hid (Below w.heap.size w w') := by
  have := cutA (cutP P) wv fv rv w h
  rw [cutP_cut] at this
  exact this
end Go.Proofs.YtnfebegmgeanhaaDoor.S
namespace Go.Proofs.YtnfebegmgeanhaaDoor.S
open Go.RowKit Go.Shelf
end Go.Proofs.YtnfebegmgeanhaaDoor.S
namespace Go.Proofs.YtnfebegmgeanhaaDoor.S
open Go.RowKit Go.Shelf
set_option maxRecDepth 100000 in
set_option maxHeartbeats 1000000 in
theorem mayG (P : Pb) (wv fv rv : Value) (t : Nat) (w : World) (h : PbV w P wv fv rv) (hw : t < P.who.length) (hf : t < P.fixed.length) (hx : ∀ x ∈ P.fixed, x = -1 ∨ (0 ≤ x ∧ x < 64)) :
    Calls Tryd.prog 48 #[pbV P wv fv rv, .int .i64 (t : Int)] w fun e w' => e = .returned (.int .u64 (mayP P t : Int)) ∧ Below w.heap.size w w' := by
  obtain ⟨ow, cw, rfl, _, hcw⟩ := h.who
  obtain ⟨of, cf, rfl, _, hcf⟩ := h.fixed
  obtain ⟨z, hz⟩ : ∃ z, P.who[t]? = some z := ⟨_, List.getElem?_eq_getElem hw⟩
  obtain ⟨x, hxx⟩ : ∃ x, P.fixed[t]? = some x := ⟨_, List.getElem?_eq_getElem hf⟩
  obtain ⟨g1, o1, rfl, c1⟩ := hcw t z hz
  obtain ⟨g2, o2, rfl, c2⟩ := hcf t x hxx
  obtain ⟨or, cr, rfl⟩ : ∃ a b, rv = .slice a P.rules.length b := by obtain ⟨a, b, e, _⟩ := h.rules; exact ⟨a, b, e⟩
  have hB : Hid (Below w.heap.size w (w.alloc (.cells #[.int .i64 P.users, .slice (some ⟨g1, o1, none⟩) P.who.length cw, .slice (some ⟨g2, o2, none⟩) P.fixed.length cf, .slice or P.rules.length cr] 26))) := (Below.refl _ w).alloc (Nat.le_refl _) _
  have d1 := M.cell_over c1 hB.out
  have d2 := M.cell_over c2 hB.out
  have hwI : (t : Int) < (P.who.length : Int) := by omega
  have hfI : (t : Int) < (P.fixed.length : Int) := by omega
  have ht0 : ¬ (t : Int) < 0 := by omega
  have hm : mayP P t = if x = -1 then z else 2 ^ x.toNat := by
    unfold mayP
    simp [List.getD_eq_getElem?_getD, hz, hxx]
  rw [hm]
  unfold pbV
  have hxr := hx x (List.mem_of_getElem? hxx)
  clear hm hx hcw hcf h hz hxx
  by_cases he : x = -1
  · subst he
    rw [if_pos rfl]
    go_enter Tryd.func48, Tryd.ntmps48
    go_wp2
    go_ret
    exact ⟨rfl, hB.out⟩
  · rw [if_neg he]
    obtain ⟨y, rfl⟩ : ∃ y : Nat, x = (y : Int) := ⟨x.toNat, by omega⟩
    have hy : y < 64 := by omega
    have hne : ((y : Int) != -1) = true := by rw [bne_iff_ne]; omega
    have hy0 : ¬ (y : Int) < 0 := by omega
    have hsh := M.shl64 y hy
    have hsh2 : IntKind.u64.wrap (2 ^ y) = ((2 ^ y : Nat) : Int) := by rwa [show IntKind.u64.wrap 1 = 1 by decide, Int.one_mul] at hsh
    rw [Int.toNat_natCast]
    generalize (2 ^ y : Nat) = q at *
    clear hsh he hxr
    go_enter Tryd.func48, Tryd.ntmps48
    go_wp2
    go_ret
    exact ⟨rfl, hB.out⟩
/-- Some user may do a step of P now who might not before, in O. -/
def moreP (O P : Pb) : Bool := (List.range P.who.length).any fun t => mayP P t &&& (2 ^ 64 - 1 - mayP O t) != 0
theorem more_true {O P : Pb} {t : Nat} (ht : t < P.who.length) (h : mayP P t &&& (2 ^ 64 - 1 - mayP O t) ≠ 0) : moreP O P = true := by
  unfold moreP
  rw [List.any_eq_true]
  exact ⟨t, List.mem_range.2 ht, by simpa using h⟩
theorem more_false {O P : Pb} (h : ∀ t, t < P.who.length → mayP P t &&& (2 ^ 64 - 1 - mayP O t) = 0) : moreP O P = false := by
  unfold moreP
  rw [List.any_eq_false]
  intro t ht
  simp [h t (List.mem_range.1 ht)]
set_option maxRecDepth 100000 in
set_option maxHeartbeats 2000000 in
theorem moreG (O P : Pb) (wo fo ro wv fv rv : Value) (w : World) (hO : PbV w O wo fo ro) (hP : PbV w P wv fv rv) (hn : P.who.length ≤ 12) (hf : P.fixed.length = P.who.length) (hwo : O.who.length = P.who.length) (hfo : O.fixed.length = P.who.length) (hxO : ∀ x ∈ O.fixed, x = -1 ∨ (0 ≤ x ∧ x < 64)) (hxP : ∀ x ∈ P.fixed, x = -1 ∨ (0 ≤ x ∧ x < 64)) (hbO : ∀ z ∈ O.who, z < 18446744073709551616) (hbP : ∀ z ∈ P.who, z < 18446744073709551616) :
    Calls Tryd.prog 35 #[pbV O wo fo ro, pbV P wv fv rv] w fun e w' => e = .returned (.bool (moreP O P)) ∧ Below w.heap.size w w' := by
  have KO : Hid (∀ (t : Nat) (W : World), t < P.who.length → Below w.heap.size w W → Calls Tryd.prog 48 #[pbV O wo fo ro, .int .i64 (t : Int)] W fun e w' => e = .returned (.int .u64 (mayP O t : Int)) ∧ Below W.heap.size W w') := fun t W ht hW => mayG O wo fo ro t W (hO.below hW) (by omega) (by omega) hxO
  have KP : Hid (∀ (t : Nat) (W : World), t < P.who.length → Below w.heap.size w W → Calls Tryd.prog 48 #[pbV P wv fv rv, .int .i64 (t : Int)] W fun e w' => e = .returned (.int .u64 (mayP P t : Int)) ∧ Below W.heap.size W w') := fun t W ht hW => mayG P wv fv rv t W (hP.below hW) (by omega) (by omega) hxP
  have hAn : Hid (∀ t, bits .andNot .u64 (mayP P t : Int) (mayP O t : Int) = ((mayP P t &&& (18446744073709551615 - mayP O t) : Nat) : Int)) := fun t => u64_andNot_nat _ _ (mayP_lt hbP hxP t) (mayP_lt hbO hxO t)
  have hT : Hid (∀ t, t < P.who.length → mayP P t &&& (18446744073709551615 - mayP O t) ≠ 0 → moreP O P = true) := fun t ht h => more_true ht h
  have hF : Hid ((∀ t, t < P.who.length → mayP P t &&& (18446744073709551615 - mayP O t) = 0) → moreP O P = false) := fun h => more_false h
  have sO := hO.shape
  have sP := hP.shape
  obtain ⟨a1, a2, a3, a4, a5, a6, rfl, rfl, rfl⟩ := sO
  obtain ⟨b1, b2, b3, b4, b5, b6, rfl, rfl, rfl⟩ := sP
  unfold pbV at KO KP ⊢
  have hB0 : Hid (Below w.heap.size w ((w.alloc (.cells #[.int .i64 O.users, .slice a1 O.who.length a2, .slice a3 O.fixed.length a4, .slice a5 O.rules.length a6] 26)).alloc (.cells #[.int .i64 P.users, .slice b1 P.who.length b2, .slice b3 P.fixed.length b4, .slice b5 P.rules.length b6] 26))) := ((Below.refl _ w).alloc (Nat.le_refl _) _).alloc (by simp) _
  have hO0 : Hid (PbB ((w.alloc (.cells #[.int .i64 O.users, .slice a1 O.who.length a2, .slice a3 O.fixed.length a4, .slice a5 O.rules.length a6] 26)).alloc (.cells #[.int .i64 P.users, .slice b1 P.who.length b2, .slice b3 P.fixed.length b4, .slice b5 P.rules.length b6] 26)) w.heap.size O (.slice a1 O.who.length a2) (.slice a3 O.fixed.length a4) (.slice a5 O.rules.length a6)) := PbB.below (heap_new w _) ((Below.refl _ _).alloc (Nat.le_refl _) _)
  have hP0 : Hid (PbB ((w.alloc (.cells #[.int .i64 O.users, .slice a1 O.who.length a2, .slice a3 O.fixed.length a4, .slice a5 O.rules.length a6] 26)).alloc (.cells #[.int .i64 P.users, .slice b1 P.who.length b2, .slice b3 P.fixed.length b4, .slice b5 P.rules.length b6] 26)) (w.heap.size + 1) P (.slice b1 P.who.length b2) (.slice b3 P.fixed.length b4) (.slice b5 P.rules.length b6)) := by
    have h := heap_new (w.alloc (.cells #[.int .i64 O.users, .slice a1 O.who.length a2, .slice a3 O.fixed.length a4, .slice a5 O.rules.length a6] 26)) (.cells #[.int .i64 P.users, .slice b1 P.who.length b2, .slice b3 P.fixed.length b4, .slice b5 P.rules.length b6] 26)
    rw [show (w.alloc (.cells #[.int .i64 O.users, .slice a1 O.who.length a2, .slice a3 O.fixed.length a4, .slice a5 O.rules.length a6] 26)).heap.size = w.heap.size + 1 by simp] at h
    exact h
  clear hO hP hxO hxP hbO hbP hf hwo hfo
  generalize moreP O P = z at *
  go_enter Tryd.func35, Tryd.ntmps35
  go_wp2
  generalize ((w.alloc (.cells #[.int .i64 O.users, .slice a1 O.who.length a2, .slice a3 O.fixed.length a4, .slice a5 O.rules.length a6] 26)).alloc (.cells #[.int .i64 P.users, .slice b1 P.who.length b2, .slice b3 P.fixed.length b4, .slice b5 P.rules.length b6] 26)) = W1 at *
  have hM : Hid (∀ V, Below W1.heap.size W1 V → Below w.heap.size w V ∧ PbB V w.heap.size O (.slice a1 O.who.length a2) (.slice a3 O.fixed.length a4) (.slice a5 O.rules.length a6) ∧ PbB V (w.heap.size + 1) P (.slice b1 P.who.length b2) (.slice b3 P.fixed.length b4) (.slice b5 P.rules.length b6)) := fun V hV => ⟨hB0.out.trans (hV.mono hB0.out.size), hO0.out.below hV, hP0.out.below hV⟩
  clear hB0 hO0 hP0
  go_loopw [9] (fun k wr => ∃ (c : Nat), c ≤ P.who.length ∧ k = .int .i64 c ∧ Hid (∀ t, t < c → mayP P t &&& (18446744073709551615 - mayP O t) = 0) ∧ Hid (Below W1.heap.size W1 wr)) (fun k _ => ((P.who.length : Int) - intOf k).toNat)
  case atStart => exact ⟨0, Nat.zero_le _, rfl, fun t ht => absurd ht (Nat.not_lt_zero t), Below.refl _ _⟩
  case round =>
    obtain ⟨c, hcl, rfl, hA, hB⟩ := hrel
    by_cases hlt : c < P.who.length
    · have hBd : Hid (Below W1.heap.size W1 wr.drew) := hB.out.drew
      have hcell : Hid (∀ V, Below W1.heap.size W1 V → (V.cell? ⟨w.heap.size, 0, none⟩ = some (.int .i64 O.users) ∧ V.cell? ⟨w.heap.size, 1, none⟩ = some (.slice a1 O.who.length a2) ∧ V.cell? ⟨w.heap.size, 2, none⟩ = some (.slice a3 O.fixed.length a4) ∧ V.cell? ⟨w.heap.size, 3, none⟩ = some (.slice a5 O.rules.length a6)) ∧ V.cell? ⟨w.heap.size + 1, 0, none⟩ = some (.int .i64 P.users) ∧ V.cell? ⟨w.heap.size + 1, 1, none⟩ = some (.slice b1 P.who.length b2) ∧ V.cell? ⟨w.heap.size + 1, 2, none⟩ = some (.slice b3 P.fixed.length b4) ∧ V.cell? ⟨w.heap.size + 1, 3, none⟩ = some (.slice b5 P.rules.length b6)) := fun V hV => ⟨(hM.out V hV).2.1.all, (hM.out V hV).2.2.all⟩
      have h1 := hide' (KP.out c wr.drew hlt (hM.out _ hBd.out).1)
      have h2 : Hid (∀ W, Below W1.heap.size W1 W → Calls Tryd.prog 48 #[.agg #[.int .i64 O.users, .slice a1 O.who.length a2, .slice a3 O.fixed.length a4, .slice a5 O.rules.length a6], .int .i64 (c : Int)] W fun e w' => e = .returned (.int .u64 (mayP O c : Int)) ∧ Below W.heap.size W w') := fun W hW => KO.out c W hlt (hM.out _ hW).1
      have hS0 := hide' (hcell.out _ hBd.out)
      have hAn1 := hAn.out c
      have hTc := hide' (hT.out c hlt)
      have hNx : Hid (mayP P c &&& (18446744073709551615 - mayP O c) = 0 → ∀ t, t < c + 1 → mayP P t &&& (18446744073709551615 - mayP O t) = 0) := fun h t ht => by
        rcases Nat.lt_succ_iff_lt_or_eq.1 ht with h' | rfl
        · exact hA.out t h'
        · exact h
      clear KO KP hT hF hAn hA
      generalize mayP P c &&& (18446744073709551615 - mayP O c) = y at *
      generalize mayP P c = mp at *
      generalize mayP O c = mo at *
      by_cases hy : y = 0
      · subst hy
        have hN2 := hide' (hNx.out rfl)
        clear hNx hTc
        as_aux_lemma =>
        go_wp2
        go_region_held3 (fun V => (V.cell? ⟨w.heap.size, 0, none⟩ = some (.int .i64 O.users) ∧ V.cell? ⟨w.heap.size, 1, none⟩ = some (.slice a1 O.who.length a2) ∧ V.cell? ⟨w.heap.size, 2, none⟩ = some (.slice a3 O.fixed.length a4) ∧ V.cell? ⟨w.heap.size, 3, none⟩ = some (.slice a5 O.rules.length a6)) ∧ V.cell? ⟨w.heap.size + 1, 0, none⟩ = some (.int .i64 P.users) ∧ V.cell? ⟨w.heap.size + 1, 1, none⟩ = some (.slice b1 P.who.length b2) ∧ V.cell? ⟨w.heap.size + 1, 2, none⟩ = some (.slice b3 P.fixed.length b4) ∧ V.cell? ⟨w.heap.size + 1, 3, none⟩ = some (.slice b5 P.rules.length b6)) (first | (exact hS0.out) | (exact hcell.out _ hX2.out) | (exact hcell.out _ hX1.out)) (first | (go_at_call 48; refine h1.out.mono ?_; rintro e w1 ⟨rfl, hb1⟩; have hX1 := hide' (hBd.out.trans (hb1.mono hBd.out.size)); clear h1) | (go_at_call 48; refine (h2.out _ hX1.out).mono ?_; rintro e w2 ⟨rfl, hb2⟩; have hX2 := hide' (hX1.out.trans (hb2.mono hX1.out.size))))
        clear hb1 hb2 h2 hcell hS0 hBd hX1
        go_wp2
        exact ⟨⟨c + 1, by omega, by go_num, hN2, hX2⟩, by simp [intOf]; omega⟩
      · obtain rfl : z = true := hTc.out hy
        clear hNx hTc
        have hyI : ((y : Int) != 0) = true := by rw [bne_iff_ne]; omega
        as_aux_lemma =>
        go_wp2
        go_region_held3 (fun V => (V.cell? ⟨w.heap.size, 0, none⟩ = some (.int .i64 O.users) ∧ V.cell? ⟨w.heap.size, 1, none⟩ = some (.slice a1 O.who.length a2) ∧ V.cell? ⟨w.heap.size, 2, none⟩ = some (.slice a3 O.fixed.length a4) ∧ V.cell? ⟨w.heap.size, 3, none⟩ = some (.slice a5 O.rules.length a6)) ∧ V.cell? ⟨w.heap.size + 1, 0, none⟩ = some (.int .i64 P.users) ∧ V.cell? ⟨w.heap.size + 1, 1, none⟩ = some (.slice b1 P.who.length b2) ∧ V.cell? ⟨w.heap.size + 1, 2, none⟩ = some (.slice b3 P.fixed.length b4) ∧ V.cell? ⟨w.heap.size + 1, 3, none⟩ = some (.slice b5 P.rules.length b6)) (first | (exact hS0.out) | (exact hcell.out _ hX2.out) | (exact hcell.out _ hX1.out)) (first | (go_at_call 48; refine h1.out.mono ?_; rintro e w1 ⟨rfl, hb1⟩; have hX1 := hide' (hBd.out.trans (hb1.mono hBd.out.size)); clear h1) | (go_at_call 48; refine (h2.out _ hX1.out).mono ?_; rintro e w2 ⟨rfl, hb2⟩; have hX2 := hide' (hX1.out.trans (hb2.mono hX1.out.size))))
        have hXz := hide' (hM.out _ hX2.out).1
        clear hb1 hb2 h2 hcell hS0 hBd hX1 hX2
        go_wp2
        go_ret
        exact ⟨rfl, hXz.out⟩
    · obtain rfl : c = P.who.length := by omega
      obtain rfl : z = false := hF.out hA.out
      have hB1 := hide' (hM.out _ hB.out).1
      clear KO KP hT hF hA hAn
      go_wp2
      go_ret
      exact ⟨rfl, hB1.out⟩
end Go.Proofs.YtnfebegmgeanhaaDoor.S
namespace Go.Proofs.YtnfebegmgeanhaaDoor.S
open Go.RowKit Go.Shelf
/-- An entry as it is handed on. -/
def enV (P : Pb) (wv fv rv : Value) (can : Bool) (pl : Value) : Value := .agg #[.int .i64 P.users, wv, fv, rv, .bool can, pl]
/-- Only one block is written. -/
structure Wr1 (W W' : World) (g : Nat) : Prop where
  os : W'.os = W.os
  tape : W'.tape = W.tape
  output : W'.output = W.output
  size : W'.heap.size = W.heap.size
  block : ∀ k, k ≠ g → W'.heap[k]? = W.heap[k]?
theorem Wr1.refl (W : World) (g : Nat) : Wr1 W W g := ⟨rfl, rfl, rfl, rfl, fun _ _ => rfl⟩
theorem Wr1.set {W W' : World} {g : Nat} (h : Wr1 W W' g) (o : Nat) (v : Value) : Wr1 W (W'.setCell ⟨g, o, none⟩ v) g :=
  ⟨h.os, h.tape, h.output, by simpa [World.setCell] using h.size, fun k hk => (Below.heap_setCell _ _ _ _ hk).trans (h.block k hk)⟩
theorem Wr1.fr {w W W' : World} {g gs : Nat} (h : Wr1 W W' g) (hf : M.Fr2 w W gs gs) (hg : w.heap.size ≤ g) : M.Fr2 w W' gs gs :=
  ⟨h.os.trans hf.os, h.tape.trans hf.tape, h.output.trans hf.output, by rw [h.size]; exact hf.size, fun k hk h1 h2 => (h.block k (by omega)).trans (hf.block k hk h1 h2)⟩
theorem Wr1.owns {W W' : World} {g B : Nat} (h : Wr1 W W' g) {e : TypeId} {size : Nat} {v : Value} {n : Nat} {xs : List Value} (ho : W.ownsRow B e size v n xs) (hg : g < B) : W'.ownsRow B e size v n xs := by
  refine ⟨ho.1, ?_⟩
  rcases ho.2 with q | ⟨g', cap, cur, e1, e2, e3⟩
  · exact .inl q
  · exact .inr ⟨g', cap, cur, e1, e2, by rw [h.block g' (by omega)]; exact e3⟩
/-- What search answers. -/
def SgP (w : World) (P : Pb) (wv fv rv : Value) (gs a b c : Nat) (e : Ending) (w' : World) : Prop :=
  ∃ (ov : Option Addr) (nv cv : Nat) (can : Bool) (a' b' c' : Nat), e = .returned (enV P wv fv rv can (.slice ov nv cv)) ∧ Hid (GgAt w' gs a' b' c') ∧ Hid (GcB P 2 a b c a' b' c') ∧ Hid (M.Fr2 w w' gs gs) ∧ Hid ((can = false ∧ Value.slice ov nv cv = .slice none 0 0 ∧ LsP P none) ∨ ∃ l, can = true ∧ LsP P (some l) ∧ w'.ownsRow w.heap.size 3 1 (.slice ov nv cv) l.length (cellsI l))
theorem LeP.sg {w : World} {P : Pb} {gs a b c : Nat} {e : Ending} {w' : World} (h : LeP w P gs a b c e w') : ∃ (ov : Option Addr) (nv cv : Nat) (can : Bool) (a' b' c' : Nat), e = .returned (.tuple #[.slice ov nv cv, .bool can]) ∧ Hid (GgAt w' gs a' b' c') ∧ Hid (GcB P 2 a b c a' b' c') ∧ Hid (M.Fr2 w w' gs gs) ∧ Hid ((can = false ∧ Value.slice ov nv cv = .slice none 0 0 ∧ LsP P none) ∨ ∃ l, can = true ∧ LsP P (some l) ∧ w'.ownsRow w.heap.size 3 1 (.slice ov nv cv) l.length (cellsI l)) := by
  obtain ⟨⟨a', b', c', h1, h2⟩, h3, ⟨rfl, h4⟩ | ⟨v, l, rfl, h4, h5⟩⟩ := h
  · exact ⟨_, _, _, _, a', b', c', rfl, h1, h2, h3, .inl ⟨rfl, rfl, h4.out⟩⟩
  · obtain ⟨o, n, k, rfl⟩ : ∃ o n k, v = .slice o n k := by
      rcases h5.out.2 with ⟨rfl, _⟩ | ⟨g, cap, cur, rfl, _⟩
      · exact ⟨_, _, _, rfl⟩
      · exact ⟨_, _, _, rfl⟩
    exact ⟨_, _, _, _, a', b', c', rfl, h1, h2, h3, .inr ⟨l, rfl, h4.out, h5.out⟩⟩
set_option maxRecDepth 100000 in
set_option maxHeartbeats 4000000 in
theorem searchG (P : Pb) (wv fv rv : Value) (gg gs a b c : Nat) (w : World) (h : PbV w P wv fv rv) (hk : Pok P) (hgg : w.cell? ⟨gg, 1, none⟩ = some (.pointer (some ⟨gs, 0, none⟩))) (hgn : gg ≠ gs) (hg : GgAt w gs a b c) (hGs : 1 ≤ gs) (ht : M.Tab w) (hne : ∀ ad n c, wv = .slice (some ad) n c → ad.block ≠ gs) (ha0 : a ≤ 1152921504606846976) (hb0 : b ≤ 1152921504606846976) (hc0 : c ≤ 1152921504606846976) :
    Calls Tryd.prog 16 #[.pointer (some ⟨gg, 0, none⟩), pbV P wv fv rv] w (SgP w P wv fv rv gs a b c) := by
  have KL : Hid (∀ W, Below w.heap.size w W → Calls Tryd.prog 26 #[.pointer (some ⟨gs, 0, none⟩), pbV P wv fv rv] W (LeP W P gs a b c)) := fun W hW => leastPF P wv fv rv gs a b c W (h.below hW) hk (hg.below hW) hGs (ht.over hW) hne ha0 hb0 hc0
  have hs := h.shape
  have hgl := hg.lt
  obtain ⟨ow, cw, of, cf, or, cr, rfl, rfl, rfl⟩ := hs
  unfold SgP enV
  unfold pbV at KL ⊢
  have hl1 := cell_lt hgg
  have hgg' := hide' hgg
  clear h hk hg ht hne hgg
  go_enter Tryd.func16, Tryd.ntmps16
  go_wp2
  have hB0 : Hid (Below w.heap.size w ((w.alloc (.cells #[.int .i64 P.users, .slice ow P.who.length cw, .slice of P.fixed.length cf, .slice or P.rules.length cr] 26)).alloc (.cells #[.int .i64 0, .slice none 0 0, .slice none 0 0, .slice none 0 0, .bool false, .slice none 0 0] 51))) := ((Below.refl _ w).alloc (Nat.le_refl _) _).alloc (by simp) _
  have hP0 : Hid (((w.alloc (.cells #[.int .i64 P.users, .slice ow P.who.length cw, .slice of P.fixed.length cf, .slice or P.rules.length cr] 26)).alloc (.cells #[.int .i64 0, .slice none 0 0, .slice none 0 0, .slice none 0 0, .bool false, .slice none 0 0] 51)).heap[w.heap.size]? = some (.cells #[.int .i64 P.users, .slice ow P.who.length cw, .slice of P.fixed.length cf, .slice or P.rules.length cr] 26 (0, 0))) := PbB.below (P := P) (heap_new w _) ((Below.refl _ _).alloc (Nat.le_refl _) _)
  have hE0 : Hid (((w.alloc (.cells #[.int .i64 P.users, .slice ow P.who.length cw, .slice of P.fixed.length cf, .slice or P.rules.length cr] 26)).alloc (.cells #[.int .i64 0, .slice none 0 0, .slice none 0 0, .slice none 0 0, .bool false, .slice none 0 0] 51)).heap[w.heap.size + 1]? = some (.cells #[.int .i64 0, .slice none 0 0, .slice none 0 0, .slice none 0 0, .bool false, .slice none 0 0] 51 (0, 0))) := by
    have h := heap_new (w.alloc (.cells #[.int .i64 P.users, .slice ow P.who.length cw, .slice of P.fixed.length cf, .slice or P.rules.length cr] 26)) (.cells #[.int .i64 0, .slice none 0 0, .slice none 0 0, .slice none 0 0, .bool false, .slice none 0 0] 51)
    rw [show (w.alloc (.cells #[.int .i64 P.users, .slice ow P.who.length cw, .slice of P.fixed.length cf, .slice or P.rules.length cr] 26)).heap.size = w.heap.size + 1 by simp] at h
    exact h
  generalize ((w.alloc (.cells #[.int .i64 P.users, .slice ow P.who.length cw, .slice of P.fixed.length cf, .slice or P.rules.length cr] 26)).alloc (.cells #[.int .i64 0, .slice none 0 0, .slice none 0 0, .slice none 0 0, .bool false, .slice none 0 0] 51)) = W0 at *
  have hsz : w.heap.size + 1 < W0.heap.size := (Array.getElem?_eq_some_iff.1 hE0.out).1
  have hF0 : Hid (∀ V, M.Fr2 W0 V gs gs → V.heap[w.heap.size]? = some (.cells #[.int .i64 P.users, .slice ow P.who.length cw, .slice of P.fixed.length cf, .slice or P.rules.length cr] 26 (0, 0)) ∧ V.heap[w.heap.size + 1]? = some (.cells #[.int .i64 0, .slice none 0 0, .slice none 0 0, .slice none 0 0, .bool false, .slice none 0 0] 51 (0, 0)) ∧ V.cell? ⟨gg, 1, none⟩ = some (.pointer (some ⟨gs, 0, none⟩))) := fun V hV => by
    refine ⟨(hV.block _ (by omega) (by omega) (by omega)).trans hP0.out, (hV.block _ hsz (by omega) (by omega)).trans hE0.out, ?_⟩
    have h0 := M.cell_over hgg'.out hB0.out
    have h1 := hV.block gg (cell_lt h0) hgn hgn
    simp only [World.cell?] at h0 ⊢
    rw [h1]; exact h0
  have hcl : Hid (∀ V, M.Fr2 W0 V gs gs → V.cell? ⟨w.heap.size, 0, none⟩ = some (.int .i64 P.users) ∧ V.cell? ⟨w.heap.size, 1, none⟩ = some (.slice ow P.who.length cw) ∧ V.cell? ⟨w.heap.size, 2, none⟩ = some (.slice of P.fixed.length cf) ∧ V.cell? ⟨w.heap.size, 3, none⟩ = some (.slice or P.rules.length cr) ∧ V.cell? ⟨gg, 1, none⟩ = some (.pointer (some ⟨gs, 0, none⟩))) := fun V hV => by
    obtain ⟨h1, _, h3⟩ := hF0.out V hV
    have h1' : PbB V w.heap.size P _ _ _ := h1
    exact ⟨h1'.c0, h1'.c1, h1'.c2, h1'.c3, h3⟩
  have hD0 : Hid (M.Fr2 W0 W0.drew gs gs) := M.Fr2.below (Below.refl _ _).drew
  have hD1 : Hid (Below w.heap.size w W0.drew) := hB0.out.drew
  have hS0 := hide' (hcl.out _ hD0.out)
  have K1 := hide' (KL.out _ hD1.out)
  clear KL hP0 hE0 hgg'
  go_region_held3 (fun V => V.cell? ⟨w.heap.size, 0, none⟩ = some (.int .i64 P.users) ∧ V.cell? ⟨w.heap.size, 1, none⟩ = some (.slice ow P.who.length cw) ∧ V.cell? ⟨w.heap.size, 2, none⟩ = some (.slice of P.fixed.length cf) ∧ V.cell? ⟨w.heap.size, 3, none⟩ = some (.slice or P.rules.length cr) ∧ V.cell? ⟨gg, 1, none⟩ = some (.pointer (some ⟨gs, 0, none⟩))) (first | (exact hS0.out) | (exact hcl.out _ hX1.out)) (first | (go_at_call 26; refine K1.out.mono ?_; intro e w1 hL; obtain ⟨ov, nv, cv, can, a', b', c', rfl, g1, g2, g3, g4⟩ := hL.sg; clear hL; have hX1 : Hid (M.Fr2 W0 w1 gs gs) := hD0.out.trans g3.out))
  have hX2 := (hF0.out _ hX1.out).2.1
  have q0 : w1.cell? ⟨w.heap.size + 1, 0, none⟩ = some (.int .i64 0) := by simp [World.cell?, hX2]
  have q1 : w1.cell? ⟨w.heap.size + 1, 1, none⟩ = some (.slice none 0 0) := by simp [World.cell?, hX2]
  have q2 : w1.cell? ⟨w.heap.size + 1, 2, none⟩ = some (.slice none 0 0) := by simp [World.cell?, hX2]
  have q3 : w1.cell? ⟨w.heap.size + 1, 3, none⟩ = some (.slice none 0 0) := by simp [World.cell?, hX2]
  have q4 : w1.cell? ⟨w.heap.size + 1, 4, none⟩ = some (.bool false) := by simp [World.cell?, hX2]
  have q5 : w1.cell? ⟨w.heap.size + 1, 5, none⟩ = some (.slice none 0 0) := by simp [World.cell?, hX2]
  have hfz : ∀ i, w1.frozen? ⟨w.heap.size + 1, i, none⟩ = false := fun i => by simp [World.frozen?, hX2]
  clear hX2 hS0 hcl hF0 K1
  have hw6 : Hid (Wr1 w1 ((((((w1.setCell ⟨w.heap.size + 1, 0, none⟩ (.int .i64 P.users)).setCell ⟨w.heap.size + 1, 1, none⟩ (.slice ow P.who.length cw)).setCell ⟨w.heap.size + 1, 2, none⟩ (.slice of P.fixed.length cf)).setCell ⟨w.heap.size + 1, 3, none⟩ (.slice or P.rules.length cr)).setCell ⟨w.heap.size + 1, 4, none⟩ (.bool can)).setCell ⟨w.heap.size + 1, 5, none⟩ (.slice ov nv cv)) (w.heap.size + 1)) := ((((((Wr1.refl _ _).set _ _).set _ _).set _ _).set _ _).set _ _).set _ _
  go_wp2
  have hz1 := hX1.out.size
  have hFr := hide' (hw6.out.fr ((M.Fr2.below hB0.out).trans hX1.out) (by omega))
  refine bodyPost_ret (v := .agg #[.int .i64 P.users, .slice ow P.who.length cw, .slice of P.fixed.length cf, .slice or P.rules.length cr, .bool can, .slice ov nv cv]) (by simp [results, Tryd.results16, go_sem, q0, q1, q2, q3, q4, q5]) rfl ⟨ov, nv, cv, can, a', b', c', rfl, g1.out.of (hw6.out.block gs (by omega)), g2, hFr, ?_⟩
  rcases g4.out with ⟨h1, h2, h3⟩ | ⟨l, h1, h2, h3⟩
  · exact .inl ⟨h1, h2, h3⟩
  · exact .inr ⟨l, h1, h2, owns_lowS (hw6.out.owns h3 (by have := hD0.out.size; omega)) (by have := hD0.out.size; omega)⟩
end Go.Proofs.YtnfebegmgeanhaaDoor.S
namespace Go.Proofs.YtnfebegmgeanhaaDoor.S
open Go.RowKit Go.Shelf
theorem andNot_test {a b x : Nat} (hb : b < 2 ^ 64) (ha : a < 2 ^ 64) (h : a &&& (18446744073709551615 - b) = 0) (hx : a.testBit x = true) : b.testBit x = true := by
  have h1 : (a &&& (2 ^ 64 - (b + 1))).testBit x = false := by
    rw [show 2 ^ 64 - (b + 1) = 18446744073709551615 - b by omega, h]; simp
  rw [Nat.testBit_and, Nat.testBit_two_pow_sub_succ hb, hx] at h1
  have h2 : x < 64 := by
    rcases Nat.lt_or_ge x 64 with q | q
    · exact q
    · rw [Nat.testBit_lt_two_pow (Nat.lt_of_lt_of_le ha (Nat.pow_le_pow_right (by decide) q))] at hx; cases hx
  simpa [h2] using h1
/-- Where nobody may do more than before, a plan of now was one of before. -/
theorem more_can {O P : Pb} (hO : chkN O = 0) (hkO : Pok O) (hkP : Pok P) (hr : O.rules = P.rules) (hn : O.who.length = P.who.length) (h : moreP O P = false) (hc : canB O = false) : canB P = false := by
  cases hp : canB P with
  | false => rfl
  | true =>
    obtain ⟨L, hL⟩ := (canB_iff P).1 hp
    obtain ⟨h1, h2, h3, h4⟩ := holP_of hL
    have gP := chkN_zero h1
    have gO := chkN_zero hO
    have : canB O = true := by
      refine (canB_iff O).2 ⟨L, holP_mk hO (by rw [hn]; exact h2) (fun t x hx => ?_) (fun r hr' => h4 r (by rw [← hr]; exact hr'))⟩
      have ht : t < P.who.length := by rw [← h2]; exact (List.getElem?_eq_some_iff.1 hx).1
      have h5 := h3 t x hx
      unfold okU isU at h5
      simp only [Bool.and_eq_true, decide_eq_true_eq] at h5
      obtain ⟨⟨h6, h7⟩, h8⟩ := h5
      have hz : mayP P t &&& (18446744073709551615 - mayP O t) = 0 := by
        cases Nat.decEq (mayP P t &&& (18446744073709551615 - mayP O t)) 0 with
        | isTrue q => exact q
        | isFalse q => rw [more_true ht q] at h; cases h
      have h9 := andNot_test (mayP_lt hkO.b (fixB_of gO.2.2.2.2.1 gO.2.2.1).2 t) (mayP_lt hkP.b (fixB_of gP.2.2.2.2.1 gP.2.2.1).2 t) hz h8
      unfold okU isU
      simp only [Bool.and_eq_true, decide_eq_true_eq]
      refine ⟨⟨h6, ?_⟩, h9⟩
      have := may_user hO (by omega) h9
      omega
    rw [this] at hc; cases hc
/-- What an entry knows. -/
def EnS (w : World) (P : Pb) (can : Bool) (v : Value) : Prop := can = canB P ∧ (can = true → ∃ l, holP P l = true ∧ RowI w v l)
/-- What behind answers. -/
def BhP (w : World) (P : Pb) (wv fv rv : Value) (canO : Bool) (old : Value) (gs a b c : Nat) (e : Ending) (w' : World) : Prop :=
  ∃ (ov : Option Addr) (nv cv : Nat) (can : Bool) (a' b' c' : Nat), e = .returned (enV P wv fv rv can (.slice ov nv cv)) ∧ Hid (GgAt w' gs a' b' c') ∧ Hid (GcB P 2 a b c a' b' c') ∧ Hid (M.Fr2 w w' gs gs) ∧ Hid (EnS w' P can (.slice ov nv cv)) ∧ Hid ((canO = true ∧ Value.slice ov nv cv = old) ∨ ∀ ad n c, Value.slice ov nv cv = .slice (some ad) n c → w.heap.size ≤ ad.block)
theorem GcB.same (P : Pb) (k a b c : Nat) : GcB P k a b c a b c := ⟨fun _ => ⟨rfl, rfl, rfl⟩, fun _ => ⟨⟨Nat.le_refl _, by omega⟩, ⟨Nat.le_refl _, by omega⟩, Nat.le_refl _, by omega⟩⟩
/-- A block of cells, told by its cells. -/
theorem cells6 {V : World} {g : Nat} {x0 x1 x2 x3 x4 x5 : Value} {t : TypeId} (h : V.heap[g]? = some (.cells #[x0, x1, x2, x3, x4, x5] t (0, 0))) : V.cell? ⟨g, 0, none⟩ = some x0 ∧ V.cell? ⟨g, 1, none⟩ = some x1 ∧ V.cell? ⟨g, 2, none⟩ = some x2 ∧ V.cell? ⟨g, 3, none⟩ = some x3 ∧ V.cell? ⟨g, 4, none⟩ = some x4 ∧ V.cell? ⟨g, 5, none⟩ = some x5 := by
  refine ⟨?_, ?_, ?_, ?_, ?_, ?_⟩ <;> simp [World.cell?, h]
theorem sg_ens {w' : World} {B : Nat} {P : Pb} {can : Bool} {ov : Option Addr} {nv cv : Nat} (h : (can = false ∧ Value.slice ov nv cv = .slice none 0 0 ∧ LsP P none) ∨ ∃ l, can = true ∧ LsP P (some l) ∧ w'.ownsRow B 3 1 (.slice ov nv cv) l.length (cellsI l)) : EnS w' P can (.slice ov nv cv) := by
  rcases h with ⟨rfl, _, h⟩ | ⟨l, rfl, h, ho⟩
  · exact ⟨by rw [canB_ls h]; rfl, fun q => by cases q⟩
  · exact ⟨by rw [canB_ls h]; rfl, fun _ => ⟨l, h.1, RowI.of_owns ho⟩⟩
theorem EnS.wr {W W' : World} {P : Pb} {can : Bool} {v : Value} {g : Nat} (h : EnS W P can v) (hw : Wr1 W W' g) (hg : ∀ ad n c, v = .slice (some ad) n c → ad.block ≠ g) : EnS W' P can v := by
  refine ⟨h.1, fun q => ?_⟩
  obtain ⟨l, h1, h2⟩ := h.2 q
  refine ⟨l, h1, ?_⟩
  obtain ⟨oa, cap, e, e0, hc⟩ := h2
  refine ⟨oa, cap, e, e0, fun i z hi => ?_⟩
  obtain ⟨g', o, e1, e2⟩ := hc i z hi
  refine ⟨g', o, e1, ?_⟩
  have := hw.block g' (hg ⟨g', o, none⟩ _ _ (by rw [e, e1]))
  simp only [World.cell?] at e2 ⊢
  rw [this]; exact e2
end Go.Proofs.YtnfebegmgeanhaaDoor.S
namespace Go.Proofs.YtnfebegmgeanhaaDoor.S
open Go.RowKit Go.Shelf
theorem three0 (w : World) (x y z : Obj) : (((w.alloc x).alloc y).alloc z).heap[w.heap.size]? = some x := by
  rw [Below.block (B := (w.alloc x).heap.size) (((Below.refl _ _).alloc (Nat.le_refl _) _).alloc (by simp) _) _ (by simp)]
  exact heap_new w x
theorem three1 (w : World) (x y z : Obj) : (((w.alloc x).alloc y).alloc z).heap[w.heap.size + 1]? = some y := by
  rw [Below.block (B := ((w.alloc x).alloc y).heap.size) ((Below.refl _ _).alloc (Nat.le_refl _) _) _ (by simp)]
  have := heap_new (w.alloc x) y
  rwa [show (w.alloc x).heap.size = w.heap.size + 1 by simp] at this
theorem three2 (w : World) (x y z : Obj) : (((w.alloc x).alloc y).alloc z).heap[w.heap.size + 1 + 1]? = some z := by
  have := heap_new ((w.alloc x).alloc y) z
  rwa [show ((w.alloc x).alloc y).heap.size = w.heap.size + 1 + 1 by simp] at this
theorem rowI_wr {W W' : World} {v : Value} {l : List Int} {g : Nat} (h : RowI W v l) (hw : Wr1 W W' g) (hg : ∀ ad n c, v = .slice (some ad) n c → l ≠ [] → ad.block ≠ g) : RowI W' v l := by
  obtain ⟨oa, cap, e, e0, hc⟩ := h
  refine ⟨oa, cap, e, e0, fun i z hi => ?_⟩
  obtain ⟨g', o, e1, e2⟩ := hc i z hi
  refine ⟨g', o, e1, ?_⟩
  have := hw.block g' (hg ⟨g', o, none⟩ _ _ (by rw [e, e1]) (by rintro rfl; cases hi))
  simp only [World.cell?] at e2 ⊢
  rw [this]; exact e2
set_option maxRecDepth 100000 in
set_option maxHeartbeats 4000000 in
theorem behindG (O P : Pb) (wo fo ro wv fv rv : Value) (canO : Bool) (op : Option Addr) (np cp gg gs a b c : Nat) (w : World) (hO : PbV w O wo fo ro) (hP : PbV w P wv fv rv) (hkO : Pok O) (hkP : Pok P) (hcO : chkN O = 0) (hcP : chkN P = 0) (hr : O.rules = P.rules) (hn : O.who.length = P.who.length) (hE : EnS w O canO (.slice op np cp)) (hgg : w.cell? ⟨gg, 1, none⟩ = some (.pointer (some ⟨gs, 0, none⟩))) (hgn : gg ≠ gs) (hg : GgAt w gs a b c) (hGs : 1 ≤ gs) (ht : M.Tab w) (hne : ∀ ad n c, wv = .slice (some ad) n c → ad.block ≠ gs) (ha0 : a ≤ 1152921504606846976) (hb0 : b ≤ 1152921504606846976) (hc0 : c ≤ 1152921504606846976) :
    Calls Tryd.prog 30 #[.pointer (some ⟨gg, 0, none⟩), enV O wo fo ro canO (.slice op np cp), pbV P wv fv rv] w (BhP w P wv fv rv canO (.slice op np cp) gs a b c) := by
  have gO := chkN_zero hcO
  have gP := chkN_zero hcP
  have fO := fixB_of gO.2.2.2.2.1 gO.2.2.1
  have fP := fixB_of gP.2.2.2.2.1 gP.2.2.1
  have KS0 : Hid (∀ W, Below w.heap.size w W → Calls Tryd.prog 16 #[.pointer (some ⟨gg, 0, none⟩), pbV P wv fv rv] W (SgP W P wv fv rv gs a b c)) := fun W hW => searchG P wv fv rv gg gs a b c W (hP.below hW) hkP (M.cell_over hgg hW) hgn (hg.below hW) hGs (ht.over hW) hne ha0 hb0 hc0
  have KM : Hid (∀ W, Below w.heap.size w W → Calls Tryd.prog 35 #[pbV O wo fo ro, pbV P wv fv rv] W fun e w' => e = .returned (.bool (moreP O P)) ∧ Below W.heap.size W w') := fun W hW => moreG O P wo fo ro wv fv rv W (hO.below hW) (hP.below hW) gP.1 fP.1 hn (by rw [fO.1]; exact hn) fO.2 fP.2 hkO.b hkP.b
  have hMc : Hid (moreP O P = false → canB O = false → canB P = false) := fun h1 h2 => more_can hcO hkO hkP hr hn h1 h2
  have hgW : Hid (∀ W, Below w.heap.size w W → GgAt W gs a b c) := fun W hW => hg.below hW
  have hgl := hg.lt
  have sO := hO.shape
  have sP := hP.shape
  cases canO with
  | true =>
    obtain ⟨l, hl, hrow⟩ := hE.2 rfl
    have hlen := (holP_of hl).2.1
    have KH : Hid (∀ W, Below w.heap.size w W → Calls Tryd.prog 12 #[pbV P wv fv rv, .slice op np cp] W fun e w' => e = .returned (.bool (holP P l)) ∧ Below W.heap.size W w') := fun W hW => holdsPF P wv fv rv l _ W (hP.below hW) (hrow.below hW (Nat.le_refl _)) (by have := hkO.w; omega) hkP.w hkP.f hkP.r hkP.s hkP.b
    have hrW : Hid (∀ W, Below w.heap.size w W → RowI W (.slice op np cp) l) := fun W hW => hrow.below hW (Nat.le_refl _)
    have hop : Hid (∀ ad n c, Value.slice op np cp = .slice (some ad) n c → l ≠ [] → ad.block < w.heap.size) := fun ad n c e h0 => by
      obtain ⟨oa, cap, e1, _, hc⟩ := hrow
      cases l with
      | nil => exact absurd rfl h0
      | cons x l =>
        obtain ⟨g', o', e3, e4⟩ := hc 0 x rfl
        rw [e1, e3] at e; injection e with e _ _; injection e with e; subst e
        exact cell_lt e4
    obtain ⟨a1, a2, a3, a4, a5, a6, rfl, rfl, rfl⟩ := sO
    obtain ⟨ow, cw, of, cf, or, cr, rfl, rfl, rfl⟩ := sP
    unfold BhP enV
    unfold pbV at KS0 KM KH ⊢
    clear hO hP hkO hkP hcO hcP hr hn hE hgg hg ht hne gO gP fO fP
    cases hh : holP P l with
    | true =>
      rw [hh] at KH
      clear KM hMc hl hrow hlen
      have hB0 : Hid (Below w.heap.size w (((w.alloc (.cells #[.int .i64 O.users, .slice a1 O.who.length a2, .slice a3 O.fixed.length a4, .slice a5 O.rules.length a6, .bool true, .slice op np cp] 51)).alloc (.cells #[.int .i64 P.users, .slice ow P.who.length cw, .slice of P.fixed.length cf, .slice or P.rules.length cr] 26)).alloc (.cells #[.int .i64 0, .slice none 0 0, .slice none 0 0, .slice none 0 0, .bool false, .slice none 0 0] 51))) := (((Below.refl _ w).alloc (Nat.le_refl _) _).alloc (by simp) _).alloc (by simp; omega) _
      have hbx0 : Hid ((((w.alloc (.cells #[.int .i64 O.users, .slice a1 O.who.length a2, .slice a3 O.fixed.length a4, .slice a5 O.rules.length a6, .bool true, .slice op np cp] 51)).alloc (.cells #[.int .i64 P.users, .slice ow P.who.length cw, .slice of P.fixed.length cf, .slice or P.rules.length cr] 26)).alloc (.cells #[.int .i64 0, .slice none 0 0, .slice none 0 0, .slice none 0 0, .bool false, .slice none 0 0] 51)).heap[w.heap.size]? = some (.cells #[.int .i64 O.users, .slice a1 O.who.length a2, .slice a3 O.fixed.length a4, .slice a5 O.rules.length a6, .bool true, .slice op np cp] 51 (0, 0)) ∧ (((w.alloc (.cells #[.int .i64 O.users, .slice a1 O.who.length a2, .slice a3 O.fixed.length a4, .slice a5 O.rules.length a6, .bool true, .slice op np cp] 51)).alloc (.cells #[.int .i64 P.users, .slice ow P.who.length cw, .slice of P.fixed.length cf, .slice or P.rules.length cr] 26)).alloc (.cells #[.int .i64 0, .slice none 0 0, .slice none 0 0, .slice none 0 0, .bool false, .slice none 0 0] 51)).heap[w.heap.size + 1]? = some (.cells #[.int .i64 P.users, .slice ow P.who.length cw, .slice of P.fixed.length cf, .slice or P.rules.length cr] 26 (0, 0)) ∧ (((w.alloc (.cells #[.int .i64 O.users, .slice a1 O.who.length a2, .slice a3 O.fixed.length a4, .slice a5 O.rules.length a6, .bool true, .slice op np cp] 51)).alloc (.cells #[.int .i64 P.users, .slice ow P.who.length cw, .slice of P.fixed.length cf, .slice or P.rules.length cr] 26)).alloc (.cells #[.int .i64 0, .slice none 0 0, .slice none 0 0, .slice none 0 0, .bool false, .slice none 0 0] 51)).heap[w.heap.size + 1 + 1]? = some (.cells #[.int .i64 0, .slice none 0 0, .slice none 0 0, .slice none 0 0, .bool false, .slice none 0 0] 51 (0, 0))) := ⟨three0 _ _ _ _, three1 _ _ _ _, three2 _ _ _ _⟩
      have hsz0 : (((w.alloc (.cells #[.int .i64 O.users, .slice a1 O.who.length a2, .slice a3 O.fixed.length a4, .slice a5 O.rules.length a6, .bool true, .slice op np cp] 51)).alloc (.cells #[.int .i64 P.users, .slice ow P.who.length cw, .slice of P.fixed.length cf, .slice or P.rules.length cr] 26)).alloc (.cells #[.int .i64 0, .slice none 0 0, .slice none 0 0, .slice none 0 0, .bool false, .slice none 0 0] 51)).heap.size = w.heap.size + 3 := by simp
      go_enter Tryd.func30, Tryd.ntmps30
      go_wp2_with fail
      generalize (((w.alloc (.cells #[.int .i64 O.users, .slice a1 O.who.length a2, .slice a3 O.fixed.length a4, .slice a5 O.rules.length a6, .bool true, .slice op np cp] 51)).alloc (.cells #[.int .i64 P.users, .slice ow P.who.length cw, .slice of P.fixed.length cf, .slice or P.rules.length cr] 26)).alloc (.cells #[.int .i64 0, .slice none 0 0, .slice none 0 0, .slice none 0 0, .bool false, .slice none 0 0] 51)) = W0 at *
      have hbx : Hid (∀ V, Below W0.heap.size W0 V → V.heap[w.heap.size]? = some (.cells #[.int .i64 O.users, .slice a1 O.who.length a2, .slice a3 O.fixed.length a4, .slice a5 O.rules.length a6, .bool true, .slice op np cp] 51 (0, 0)) ∧ V.heap[w.heap.size + 1]? = some (.cells #[.int .i64 P.users, .slice ow P.who.length cw, .slice of P.fixed.length cf, .slice or P.rules.length cr] 26 (0, 0)) ∧ V.heap[w.heap.size + 1 + 1]? = some (.cells #[.int .i64 0, .slice none 0 0, .slice none 0 0, .slice none 0 0, .bool false, .slice none 0 0] 51 (0, 0))) := fun V hV => ⟨(hV.block _ (by omega)).trans hbx0.out.1, (hV.block _ (by omega)).trans hbx0.out.2.1, (hV.block _ (by omega)).trans hbx0.out.2.2⟩
      have hcl : Hid (∀ V, Below W0.heap.size W0 V → (V.cell? ⟨w.heap.size, 0, none⟩ = some (.int .i64 O.users) ∧ V.cell? ⟨w.heap.size, 1, none⟩ = some (.slice a1 O.who.length a2) ∧ V.cell? ⟨w.heap.size, 2, none⟩ = some (.slice a3 O.fixed.length a4) ∧ V.cell? ⟨w.heap.size, 3, none⟩ = some (.slice a5 O.rules.length a6) ∧ V.cell? ⟨w.heap.size, 4, none⟩ = some (.bool true) ∧ V.cell? ⟨w.heap.size, 5, none⟩ = some (.slice op np cp)) ∧ (V.cell? ⟨w.heap.size + 1, 0, none⟩ = some (.int .i64 P.users) ∧ V.cell? ⟨w.heap.size + 1, 1, none⟩ = some (.slice ow P.who.length cw) ∧ V.cell? ⟨w.heap.size + 1, 2, none⟩ = some (.slice of P.fixed.length cf) ∧ V.cell? ⟨w.heap.size + 1, 3, none⟩ = some (.slice or P.rules.length cr)) ∧ (V.cell? ⟨w.heap.size + 1 + 1, 0, none⟩ = some (.int .i64 0) ∧ V.cell? ⟨w.heap.size + 1 + 1, 1, none⟩ = some (.slice none 0 0) ∧ V.cell? ⟨w.heap.size + 1 + 1, 2, none⟩ = some (.slice none 0 0) ∧ V.cell? ⟨w.heap.size + 1 + 1, 3, none⟩ = some (.slice none 0 0) ∧ V.cell? ⟨w.heap.size + 1 + 1, 4, none⟩ = some (.bool false) ∧ V.cell? ⟨w.heap.size + 1 + 1, 5, none⟩ = some (.slice none 0 0)) ∧ ∀ i, V.frozen? ⟨w.heap.size + 1 + 1, i, none⟩ = false) := fun V hV => by
        obtain ⟨h1, h2, h3⟩ := hbx.out V hV
        have h2' : PbB V (w.heap.size + 1) P _ _ _ := h2
        exact ⟨cells6 h1, ⟨h2'.c0, h2'.c1, h2'.c2, h2'.c3⟩, cells6 h3, fun i => by simp [World.frozen?, h3]⟩
      have KS : Hid (∀ W, Below W0.heap.size W0 W → Calls Tryd.prog 16 #[.pointer (some ⟨gg, 0, none⟩), .agg #[.int .i64 P.users, .slice ow P.who.length cw, .slice of P.fixed.length cf, .slice or P.rules.length cr]] W (SgP W P (.slice ow P.who.length cw) (.slice of P.fixed.length cf) (.slice or P.rules.length cr) gs a b c)) := fun W hW => KS0.out W (hB0.out.trans (hW.mono hB0.out.size))
      clear KS0 hbx0
      refine (KH.out W0 hB0.out).mono ?_
      rintro e w1 ⟨rfl, hb1⟩
      obtain ⟨⟨o0, o1, o2, o3, o4, o5⟩, ⟨p0, p1, p2, p3⟩, ⟨z0, z1, z2, z3, z4, z5⟩, zf⟩ := hcl.out w1 hb1
      generalize hg2 : w.heap.size + 1 + 1 = g2 at *
      have hg2' := hide' hg2
      clear hg2
      have hw6 : Hid (Wr1 w1 ((((((w1.setCell ⟨g2, 0, none⟩ (.int .i64 P.users)).setCell ⟨g2, 1, none⟩ (.slice ow P.who.length cw)).setCell ⟨g2, 2, none⟩ (.slice of P.fixed.length cf)).setCell ⟨g2, 3, none⟩ (.slice or P.rules.length cr)).setCell ⟨g2, 4, none⟩ (.bool true)).setCell ⟨g2, 5, none⟩ (.slice op np cp)) (g2)) := ((((((Wr1.refl _ _).set _ _).set _ _).set _ _).set _ _).set _ _).set _ _
      have hz1 := hb1.size
      have hg2 := hg2'.out
      have hFr : Hid (M.Fr2 w w1 gs gs) := M.Fr2.below (hB0.out.trans (hb1.mono (Nat.le_of_lt (by omega))))
      have hg1 : Hid (GgAt w1 gs a b c) := hgW.out _ (hB0.out.trans (hb1.mono (Nat.le_of_lt (by omega))))
      have hE1 : Hid (RowI ((((((w1.setCell ⟨g2, 0, none⟩ (.int .i64 P.users)).setCell ⟨g2, 1, none⟩ (.slice ow P.who.length cw)).setCell ⟨g2, 2, none⟩ (.slice of P.fixed.length cf)).setCell ⟨g2, 3, none⟩ (.slice or P.rules.length cr)).setCell ⟨g2, 4, none⟩ (.bool true)).setCell ⟨g2, 5, none⟩ (.slice op np cp)) (.slice op np cp) l) := rowI_wr (hrW.out _ (hB0.out.trans (hb1.mono (Nat.le_of_lt (by omega))))) hw6.out (fun ad n c e h0 => by have := hop.out ad n c e h0; omega)
      have hi1 : Hid (gs ≠ g2 ∧ w.heap.size ≤ g2) := ⟨by omega, by omega⟩
      clear hcl hbx KS hg2 hg2' hz1 hsz0 o0 o1 o2 o3
      go_wp2
      exact bodyPost_ret (v := .agg #[.int .i64 P.users, .slice ow P.who.length cw, .slice of P.fixed.length cf, .slice or P.rules.length cr, .bool true, .slice op np cp]) (by simp [results, Tryd.results30, go_sem, z0, z1, z2, z3, z4, z5]) rfl ⟨_, _, _, _, a, b, c, rfl, hg1.out.of (hw6.out.block gs hi1.out.1), GcB.same _ _ _ _ _, hw6.out.fr hFr.out hi1.out.2, ⟨((canB_iff P).2 ⟨l, hh⟩).symm, fun _ => ⟨l, hh, hE1.out⟩⟩, .inl ⟨trivial, rfl⟩⟩
    | false =>
      rw [hh] at KH
      clear KM hMc hrW hop hl hrow hlen
      have hB0 : Hid (Below w.heap.size w (((w.alloc (.cells #[.int .i64 O.users, .slice a1 O.who.length a2, .slice a3 O.fixed.length a4, .slice a5 O.rules.length a6, .bool true, .slice op np cp] 51)).alloc (.cells #[.int .i64 P.users, .slice ow P.who.length cw, .slice of P.fixed.length cf, .slice or P.rules.length cr] 26)).alloc (.cells #[.int .i64 0, .slice none 0 0, .slice none 0 0, .slice none 0 0, .bool false, .slice none 0 0] 51))) := (((Below.refl _ w).alloc (Nat.le_refl _) _).alloc (by simp) _).alloc (by simp; omega) _
      have hbx0 : Hid ((((w.alloc (.cells #[.int .i64 O.users, .slice a1 O.who.length a2, .slice a3 O.fixed.length a4, .slice a5 O.rules.length a6, .bool true, .slice op np cp] 51)).alloc (.cells #[.int .i64 P.users, .slice ow P.who.length cw, .slice of P.fixed.length cf, .slice or P.rules.length cr] 26)).alloc (.cells #[.int .i64 0, .slice none 0 0, .slice none 0 0, .slice none 0 0, .bool false, .slice none 0 0] 51)).heap[w.heap.size]? = some (.cells #[.int .i64 O.users, .slice a1 O.who.length a2, .slice a3 O.fixed.length a4, .slice a5 O.rules.length a6, .bool true, .slice op np cp] 51 (0, 0)) ∧ (((w.alloc (.cells #[.int .i64 O.users, .slice a1 O.who.length a2, .slice a3 O.fixed.length a4, .slice a5 O.rules.length a6, .bool true, .slice op np cp] 51)).alloc (.cells #[.int .i64 P.users, .slice ow P.who.length cw, .slice of P.fixed.length cf, .slice or P.rules.length cr] 26)).alloc (.cells #[.int .i64 0, .slice none 0 0, .slice none 0 0, .slice none 0 0, .bool false, .slice none 0 0] 51)).heap[w.heap.size + 1]? = some (.cells #[.int .i64 P.users, .slice ow P.who.length cw, .slice of P.fixed.length cf, .slice or P.rules.length cr] 26 (0, 0)) ∧ (((w.alloc (.cells #[.int .i64 O.users, .slice a1 O.who.length a2, .slice a3 O.fixed.length a4, .slice a5 O.rules.length a6, .bool true, .slice op np cp] 51)).alloc (.cells #[.int .i64 P.users, .slice ow P.who.length cw, .slice of P.fixed.length cf, .slice or P.rules.length cr] 26)).alloc (.cells #[.int .i64 0, .slice none 0 0, .slice none 0 0, .slice none 0 0, .bool false, .slice none 0 0] 51)).heap[w.heap.size + 1 + 1]? = some (.cells #[.int .i64 0, .slice none 0 0, .slice none 0 0, .slice none 0 0, .bool false, .slice none 0 0] 51 (0, 0))) := ⟨three0 _ _ _ _, three1 _ _ _ _, three2 _ _ _ _⟩
      have hsz0 : (((w.alloc (.cells #[.int .i64 O.users, .slice a1 O.who.length a2, .slice a3 O.fixed.length a4, .slice a5 O.rules.length a6, .bool true, .slice op np cp] 51)).alloc (.cells #[.int .i64 P.users, .slice ow P.who.length cw, .slice of P.fixed.length cf, .slice or P.rules.length cr] 26)).alloc (.cells #[.int .i64 0, .slice none 0 0, .slice none 0 0, .slice none 0 0, .bool false, .slice none 0 0] 51)).heap.size = w.heap.size + 3 := by simp
      go_enter Tryd.func30, Tryd.ntmps30
      go_wp2_with fail
      generalize (((w.alloc (.cells #[.int .i64 O.users, .slice a1 O.who.length a2, .slice a3 O.fixed.length a4, .slice a5 O.rules.length a6, .bool true, .slice op np cp] 51)).alloc (.cells #[.int .i64 P.users, .slice ow P.who.length cw, .slice of P.fixed.length cf, .slice or P.rules.length cr] 26)).alloc (.cells #[.int .i64 0, .slice none 0 0, .slice none 0 0, .slice none 0 0, .bool false, .slice none 0 0] 51)) = W0 at *
      have hbx : Hid (∀ V, Below W0.heap.size W0 V → V.heap[w.heap.size]? = some (.cells #[.int .i64 O.users, .slice a1 O.who.length a2, .slice a3 O.fixed.length a4, .slice a5 O.rules.length a6, .bool true, .slice op np cp] 51 (0, 0)) ∧ V.heap[w.heap.size + 1]? = some (.cells #[.int .i64 P.users, .slice ow P.who.length cw, .slice of P.fixed.length cf, .slice or P.rules.length cr] 26 (0, 0)) ∧ V.heap[w.heap.size + 1 + 1]? = some (.cells #[.int .i64 0, .slice none 0 0, .slice none 0 0, .slice none 0 0, .bool false, .slice none 0 0] 51 (0, 0))) := fun V hV => ⟨(hV.block _ (by omega)).trans hbx0.out.1, (hV.block _ (by omega)).trans hbx0.out.2.1, (hV.block _ (by omega)).trans hbx0.out.2.2⟩
      have hcl : Hid (∀ V, Below W0.heap.size W0 V → (V.cell? ⟨w.heap.size, 0, none⟩ = some (.int .i64 O.users) ∧ V.cell? ⟨w.heap.size, 1, none⟩ = some (.slice a1 O.who.length a2) ∧ V.cell? ⟨w.heap.size, 2, none⟩ = some (.slice a3 O.fixed.length a4) ∧ V.cell? ⟨w.heap.size, 3, none⟩ = some (.slice a5 O.rules.length a6) ∧ V.cell? ⟨w.heap.size, 4, none⟩ = some (.bool true) ∧ V.cell? ⟨w.heap.size, 5, none⟩ = some (.slice op np cp)) ∧ (V.cell? ⟨w.heap.size + 1, 0, none⟩ = some (.int .i64 P.users) ∧ V.cell? ⟨w.heap.size + 1, 1, none⟩ = some (.slice ow P.who.length cw) ∧ V.cell? ⟨w.heap.size + 1, 2, none⟩ = some (.slice of P.fixed.length cf) ∧ V.cell? ⟨w.heap.size + 1, 3, none⟩ = some (.slice or P.rules.length cr)) ∧ (V.cell? ⟨w.heap.size + 1 + 1, 0, none⟩ = some (.int .i64 0) ∧ V.cell? ⟨w.heap.size + 1 + 1, 1, none⟩ = some (.slice none 0 0) ∧ V.cell? ⟨w.heap.size + 1 + 1, 2, none⟩ = some (.slice none 0 0) ∧ V.cell? ⟨w.heap.size + 1 + 1, 3, none⟩ = some (.slice none 0 0) ∧ V.cell? ⟨w.heap.size + 1 + 1, 4, none⟩ = some (.bool false) ∧ V.cell? ⟨w.heap.size + 1 + 1, 5, none⟩ = some (.slice none 0 0)) ∧ ∀ i, V.frozen? ⟨w.heap.size + 1 + 1, i, none⟩ = false) := fun V hV => by
        obtain ⟨h1, h2, h3⟩ := hbx.out V hV
        have h2' : PbB V (w.heap.size + 1) P _ _ _ := h2
        exact ⟨cells6 h1, ⟨h2'.c0, h2'.c1, h2'.c2, h2'.c3⟩, cells6 h3, fun i => by simp [World.frozen?, h3]⟩
      have KS : Hid (∀ W, Below W0.heap.size W0 W → Calls Tryd.prog 16 #[.pointer (some ⟨gg, 0, none⟩), .agg #[.int .i64 P.users, .slice ow P.who.length cw, .slice of P.fixed.length cf, .slice or P.rules.length cr]] W (SgP W P (.slice ow P.who.length cw) (.slice of P.fixed.length cf) (.slice or P.rules.length cr) gs a b c)) := fun W hW => KS0.out W (hB0.out.trans (hW.mono hB0.out.size))
      clear KS0 hbx0
      refine (KH.out W0 hB0.out).mono ?_
      rintro e w1 ⟨rfl, hb1⟩
      obtain ⟨⟨o0, o1, o2, o3, o4, o5⟩, ⟨p0, p1, p2, p3⟩, ⟨z0, z1, z2, z3, z4, z5⟩, zf⟩ := hcl.out w1 hb1
      generalize hg2 : w.heap.size + 1 + 1 = g2 at *
      have hg2' := hide' hg2
      clear hg2
      go_wp2_with fail
      refine (KS.out w1 hb1).mono ?_
      rintro e w2 ⟨ov, nv, cv, can, a', b', c', rfl, g1, k2, g3, g4⟩
      unfold enV
      have hz1 := hb1.size
      have hg2 := hg2'.out
      have hX2 : Hid (w2.heap[g2]? = some (.cells #[.int .i64 0, .slice none 0 0, .slice none 0 0, .slice none 0 0, .bool false, .slice none 0 0] 51 (0, 0))) := (g3.out.block _ (by omega) (by omega) (by omega)).trans (hbx.out _ hb1).2.2
      have hFr2 : Hid (M.Fr2 w w2 gs gs) := (M.Fr2.below (hB0.out.trans (hb1.mono (Nat.le_of_lt (by omega))))).trans g3.out
      have hE2 : Hid (EnS w2 P can (.slice ov nv cv)) := sg_ens g4.out
      have hown : Hid (∀ ad n c, Value.slice ov nv cv = .slice (some ad) n c → ad.block ≠ g2 ∧ w.heap.size ≤ ad.block) := fun ad n c e => by
        rcases g4.out with ⟨_, q, _⟩ | ⟨l, _, _, q⟩
        · rw [q] at e; cases e
        · rcases q.2 with ⟨q, _⟩ | ⟨g', cap, cur, q, q2, _⟩
          · rw [q] at e; cases e
          · rw [q] at e; injection e with e _ _; injection e with e; subst e; exact ⟨show g' ≠ _ by omega, show _ ≤ g' by omega⟩
      clear o0 o1 o2 o3 o4 o5 p0 p1 p2 p3 z0 z1 z2 z3 z4 z5 zf
      obtain ⟨z0, z1, z2, z3, z4, z5⟩ := cells6 hX2.out
      have zf : ∀ i, w2.frozen? ⟨g2, i, none⟩ = false := fun i => by simp [World.frozen?, hX2.out]
      have hw6 : Hid (Wr1 w2 ((((((w2.setCell ⟨g2, 0, none⟩ (.int .i64 P.users)).setCell ⟨g2, 1, none⟩ (.slice ow P.who.length cw)).setCell ⟨g2, 2, none⟩ (.slice of P.fixed.length cf)).setCell ⟨g2, 3, none⟩ (.slice or P.rules.length cr)).setCell ⟨g2, 4, none⟩ (.bool can)).setCell ⟨g2, 5, none⟩ (.slice ov nv cv)) (g2)) := ((((((Wr1.refl _ _).set _ _).set _ _).set _ _).set _ _).set _ _).set _ _
      have hi1 : Hid (gs ≠ g2 ∧ w.heap.size ≤ g2) := ⟨by omega, by omega⟩
      clear g3 g4 hcl hbx KS hg2 hg2' hz1 hsz0
      go_wp2
      exact bodyPost_ret (v := .agg #[.int .i64 P.users, .slice ow P.who.length cw, .slice of P.fixed.length cf, .slice or P.rules.length cr, .bool can, .slice ov nv cv]) (by simp [results, Tryd.results30, go_sem, z0, z1, z2, z3, z4, z5]) rfl ⟨ov, nv, cv, can, a', b', c', rfl, g1.out.of (hw6.out.block gs hi1.out.1), k2, hw6.out.fr hFr2.out hi1.out.2, hE2.out.wr hw6.out (fun ad n c e => (hown.out ad n c e).1), .inr fun ad n c e => (hown.out ad n c e).2⟩
  | false =>
    have hc0' := hE.1
    obtain ⟨a1, a2, a3, a4, a5, a6, rfl, rfl, rfl⟩ := sO
    obtain ⟨ow, cw, of, cf, or, cr, rfl, rfl, rfl⟩ := sP
    unfold BhP enV
    unfold pbV at KS0 KM ⊢
    clear hO hP hkO hkP hcO hcP hr hn hE hgg hg ht hne gO gP fO fP
    cases hh : moreP O P with
    | false =>
      rw [hh] at KM
      have hMc2 := hide' (hMc.out hh hc0'.symm)
      clear hMc hc0'
      have hB0 : Hid (Below w.heap.size w (((w.alloc (.cells #[.int .i64 O.users, .slice a1 O.who.length a2, .slice a3 O.fixed.length a4, .slice a5 O.rules.length a6, .bool false, .slice op np cp] 51)).alloc (.cells #[.int .i64 P.users, .slice ow P.who.length cw, .slice of P.fixed.length cf, .slice or P.rules.length cr] 26)).alloc (.cells #[.int .i64 0, .slice none 0 0, .slice none 0 0, .slice none 0 0, .bool false, .slice none 0 0] 51))) := (((Below.refl _ w).alloc (Nat.le_refl _) _).alloc (by simp) _).alloc (by simp; omega) _
      have hbx0 : Hid ((((w.alloc (.cells #[.int .i64 O.users, .slice a1 O.who.length a2, .slice a3 O.fixed.length a4, .slice a5 O.rules.length a6, .bool false, .slice op np cp] 51)).alloc (.cells #[.int .i64 P.users, .slice ow P.who.length cw, .slice of P.fixed.length cf, .slice or P.rules.length cr] 26)).alloc (.cells #[.int .i64 0, .slice none 0 0, .slice none 0 0, .slice none 0 0, .bool false, .slice none 0 0] 51)).heap[w.heap.size]? = some (.cells #[.int .i64 O.users, .slice a1 O.who.length a2, .slice a3 O.fixed.length a4, .slice a5 O.rules.length a6, .bool false, .slice op np cp] 51 (0, 0)) ∧ (((w.alloc (.cells #[.int .i64 O.users, .slice a1 O.who.length a2, .slice a3 O.fixed.length a4, .slice a5 O.rules.length a6, .bool false, .slice op np cp] 51)).alloc (.cells #[.int .i64 P.users, .slice ow P.who.length cw, .slice of P.fixed.length cf, .slice or P.rules.length cr] 26)).alloc (.cells #[.int .i64 0, .slice none 0 0, .slice none 0 0, .slice none 0 0, .bool false, .slice none 0 0] 51)).heap[w.heap.size + 1]? = some (.cells #[.int .i64 P.users, .slice ow P.who.length cw, .slice of P.fixed.length cf, .slice or P.rules.length cr] 26 (0, 0)) ∧ (((w.alloc (.cells #[.int .i64 O.users, .slice a1 O.who.length a2, .slice a3 O.fixed.length a4, .slice a5 O.rules.length a6, .bool false, .slice op np cp] 51)).alloc (.cells #[.int .i64 P.users, .slice ow P.who.length cw, .slice of P.fixed.length cf, .slice or P.rules.length cr] 26)).alloc (.cells #[.int .i64 0, .slice none 0 0, .slice none 0 0, .slice none 0 0, .bool false, .slice none 0 0] 51)).heap[w.heap.size + 1 + 1]? = some (.cells #[.int .i64 0, .slice none 0 0, .slice none 0 0, .slice none 0 0, .bool false, .slice none 0 0] 51 (0, 0))) := ⟨three0 _ _ _ _, three1 _ _ _ _, three2 _ _ _ _⟩
      have hsz0 : (((w.alloc (.cells #[.int .i64 O.users, .slice a1 O.who.length a2, .slice a3 O.fixed.length a4, .slice a5 O.rules.length a6, .bool false, .slice op np cp] 51)).alloc (.cells #[.int .i64 P.users, .slice ow P.who.length cw, .slice of P.fixed.length cf, .slice or P.rules.length cr] 26)).alloc (.cells #[.int .i64 0, .slice none 0 0, .slice none 0 0, .slice none 0 0, .bool false, .slice none 0 0] 51)).heap.size = w.heap.size + 3 := by simp
      go_enter Tryd.func30, Tryd.ntmps30
      go_wp2_with fail
      generalize (((w.alloc (.cells #[.int .i64 O.users, .slice a1 O.who.length a2, .slice a3 O.fixed.length a4, .slice a5 O.rules.length a6, .bool false, .slice op np cp] 51)).alloc (.cells #[.int .i64 P.users, .slice ow P.who.length cw, .slice of P.fixed.length cf, .slice or P.rules.length cr] 26)).alloc (.cells #[.int .i64 0, .slice none 0 0, .slice none 0 0, .slice none 0 0, .bool false, .slice none 0 0] 51)) = W0 at *
      have hbx : Hid (∀ V, Below W0.heap.size W0 V → V.heap[w.heap.size]? = some (.cells #[.int .i64 O.users, .slice a1 O.who.length a2, .slice a3 O.fixed.length a4, .slice a5 O.rules.length a6, .bool false, .slice op np cp] 51 (0, 0)) ∧ V.heap[w.heap.size + 1]? = some (.cells #[.int .i64 P.users, .slice ow P.who.length cw, .slice of P.fixed.length cf, .slice or P.rules.length cr] 26 (0, 0)) ∧ V.heap[w.heap.size + 1 + 1]? = some (.cells #[.int .i64 0, .slice none 0 0, .slice none 0 0, .slice none 0 0, .bool false, .slice none 0 0] 51 (0, 0))) := fun V hV => ⟨(hV.block _ (by omega)).trans hbx0.out.1, (hV.block _ (by omega)).trans hbx0.out.2.1, (hV.block _ (by omega)).trans hbx0.out.2.2⟩
      have hcl : Hid (∀ V, Below W0.heap.size W0 V → (V.cell? ⟨w.heap.size, 0, none⟩ = some (.int .i64 O.users) ∧ V.cell? ⟨w.heap.size, 1, none⟩ = some (.slice a1 O.who.length a2) ∧ V.cell? ⟨w.heap.size, 2, none⟩ = some (.slice a3 O.fixed.length a4) ∧ V.cell? ⟨w.heap.size, 3, none⟩ = some (.slice a5 O.rules.length a6) ∧ V.cell? ⟨w.heap.size, 4, none⟩ = some (.bool false) ∧ V.cell? ⟨w.heap.size, 5, none⟩ = some (.slice op np cp)) ∧ (V.cell? ⟨w.heap.size + 1, 0, none⟩ = some (.int .i64 P.users) ∧ V.cell? ⟨w.heap.size + 1, 1, none⟩ = some (.slice ow P.who.length cw) ∧ V.cell? ⟨w.heap.size + 1, 2, none⟩ = some (.slice of P.fixed.length cf) ∧ V.cell? ⟨w.heap.size + 1, 3, none⟩ = some (.slice or P.rules.length cr)) ∧ (V.cell? ⟨w.heap.size + 1 + 1, 0, none⟩ = some (.int .i64 0) ∧ V.cell? ⟨w.heap.size + 1 + 1, 1, none⟩ = some (.slice none 0 0) ∧ V.cell? ⟨w.heap.size + 1 + 1, 2, none⟩ = some (.slice none 0 0) ∧ V.cell? ⟨w.heap.size + 1 + 1, 3, none⟩ = some (.slice none 0 0) ∧ V.cell? ⟨w.heap.size + 1 + 1, 4, none⟩ = some (.bool false) ∧ V.cell? ⟨w.heap.size + 1 + 1, 5, none⟩ = some (.slice none 0 0)) ∧ ∀ i, V.frozen? ⟨w.heap.size + 1 + 1, i, none⟩ = false) := fun V hV => by
        obtain ⟨h1, h2, h3⟩ := hbx.out V hV
        have h2' : PbB V (w.heap.size + 1) P _ _ _ := h2
        exact ⟨cells6 h1, ⟨h2'.c0, h2'.c1, h2'.c2, h2'.c3⟩, cells6 h3, fun i => by simp [World.frozen?, h3]⟩
      have KS : Hid (∀ W, Below W0.heap.size W0 W → Calls Tryd.prog 16 #[.pointer (some ⟨gg, 0, none⟩), .agg #[.int .i64 P.users, .slice ow P.who.length cw, .slice of P.fixed.length cf, .slice or P.rules.length cr]] W (SgP W P (.slice ow P.who.length cw) (.slice of P.fixed.length cf) (.slice or P.rules.length cr) gs a b c)) := fun W hW => KS0.out W (hB0.out.trans (hW.mono hB0.out.size))
      clear KS0 hbx0
      refine (KM.out W0 hB0.out).mono ?_
      rintro e w1 ⟨rfl, hb1⟩
      obtain ⟨⟨o0, o1, o2, o3, o4, o5⟩, ⟨p0, p1, p2, p3⟩, ⟨z0, z1, z2, z3, z4, z5⟩, zf⟩ := hcl.out w1 hb1
      generalize hg2 : w.heap.size + 1 + 1 = g2 at *
      have hg2' := hide' hg2
      clear hg2
      have hw6 : Hid (Wr1 w1 ((((((w1.setCell ⟨g2, 0, none⟩ (.int .i64 P.users)).setCell ⟨g2, 1, none⟩ (.slice ow P.who.length cw)).setCell ⟨g2, 2, none⟩ (.slice of P.fixed.length cf)).setCell ⟨g2, 3, none⟩ (.slice or P.rules.length cr)).setCell ⟨g2, 4, none⟩ (.bool false)).setCell ⟨g2, 5, none⟩ (.slice none 0 0)) (g2)) := ((((((Wr1.refl _ _).set _ _).set _ _).set _ _).set _ _).set _ _).set _ _
      have hz1 := hb1.size
      have hg2 := hg2'.out
      have hFr : Hid (M.Fr2 w w1 gs gs) := M.Fr2.below (hB0.out.trans (hb1.mono (Nat.le_of_lt (by omega))))
      have hg1 : Hid (GgAt w1 gs a b c) := hgW.out _ (hB0.out.trans (hb1.mono (Nat.le_of_lt (by omega))))
      have hi1 : Hid (gs ≠ g2 ∧ w.heap.size ≤ g2) := ⟨by omega, by omega⟩
      clear hcl hbx KS hg2 hg2' hz1 hsz0 o0 o1 o2 o3
      go_wp2
      exact bodyPost_ret (v := .agg #[.int .i64 P.users, .slice ow P.who.length cw, .slice of P.fixed.length cf, .slice or P.rules.length cr, .bool false, .slice none 0 0]) (by simp [results, Tryd.results30, go_sem, z0, z1, z2, z3, z4, z5]) rfl ⟨_, _, _, _, a, b, c, rfl, hg1.out.of (hw6.out.block gs hi1.out.1), GcB.same _ _ _ _ _, hw6.out.fr hFr.out hi1.out.2, ⟨hMc2.out.symm, fun q => by cases q⟩, .inr fun ad n c e => by cases e⟩
    | true =>
      rw [hh] at KM
      clear hMc hc0'
      have hB0 : Hid (Below w.heap.size w (((w.alloc (.cells #[.int .i64 O.users, .slice a1 O.who.length a2, .slice a3 O.fixed.length a4, .slice a5 O.rules.length a6, .bool false, .slice op np cp] 51)).alloc (.cells #[.int .i64 P.users, .slice ow P.who.length cw, .slice of P.fixed.length cf, .slice or P.rules.length cr] 26)).alloc (.cells #[.int .i64 0, .slice none 0 0, .slice none 0 0, .slice none 0 0, .bool false, .slice none 0 0] 51))) := (((Below.refl _ w).alloc (Nat.le_refl _) _).alloc (by simp) _).alloc (by simp; omega) _
      have hbx0 : Hid ((((w.alloc (.cells #[.int .i64 O.users, .slice a1 O.who.length a2, .slice a3 O.fixed.length a4, .slice a5 O.rules.length a6, .bool false, .slice op np cp] 51)).alloc (.cells #[.int .i64 P.users, .slice ow P.who.length cw, .slice of P.fixed.length cf, .slice or P.rules.length cr] 26)).alloc (.cells #[.int .i64 0, .slice none 0 0, .slice none 0 0, .slice none 0 0, .bool false, .slice none 0 0] 51)).heap[w.heap.size]? = some (.cells #[.int .i64 O.users, .slice a1 O.who.length a2, .slice a3 O.fixed.length a4, .slice a5 O.rules.length a6, .bool false, .slice op np cp] 51 (0, 0)) ∧ (((w.alloc (.cells #[.int .i64 O.users, .slice a1 O.who.length a2, .slice a3 O.fixed.length a4, .slice a5 O.rules.length a6, .bool false, .slice op np cp] 51)).alloc (.cells #[.int .i64 P.users, .slice ow P.who.length cw, .slice of P.fixed.length cf, .slice or P.rules.length cr] 26)).alloc (.cells #[.int .i64 0, .slice none 0 0, .slice none 0 0, .slice none 0 0, .bool false, .slice none 0 0] 51)).heap[w.heap.size + 1]? = some (.cells #[.int .i64 P.users, .slice ow P.who.length cw, .slice of P.fixed.length cf, .slice or P.rules.length cr] 26 (0, 0)) ∧ (((w.alloc (.cells #[.int .i64 O.users, .slice a1 O.who.length a2, .slice a3 O.fixed.length a4, .slice a5 O.rules.length a6, .bool false, .slice op np cp] 51)).alloc (.cells #[.int .i64 P.users, .slice ow P.who.length cw, .slice of P.fixed.length cf, .slice or P.rules.length cr] 26)).alloc (.cells #[.int .i64 0, .slice none 0 0, .slice none 0 0, .slice none 0 0, .bool false, .slice none 0 0] 51)).heap[w.heap.size + 1 + 1]? = some (.cells #[.int .i64 0, .slice none 0 0, .slice none 0 0, .slice none 0 0, .bool false, .slice none 0 0] 51 (0, 0))) := ⟨three0 _ _ _ _, three1 _ _ _ _, three2 _ _ _ _⟩
      have hsz0 : (((w.alloc (.cells #[.int .i64 O.users, .slice a1 O.who.length a2, .slice a3 O.fixed.length a4, .slice a5 O.rules.length a6, .bool false, .slice op np cp] 51)).alloc (.cells #[.int .i64 P.users, .slice ow P.who.length cw, .slice of P.fixed.length cf, .slice or P.rules.length cr] 26)).alloc (.cells #[.int .i64 0, .slice none 0 0, .slice none 0 0, .slice none 0 0, .bool false, .slice none 0 0] 51)).heap.size = w.heap.size + 3 := by simp
      go_enter Tryd.func30, Tryd.ntmps30
      go_wp2_with fail
      generalize (((w.alloc (.cells #[.int .i64 O.users, .slice a1 O.who.length a2, .slice a3 O.fixed.length a4, .slice a5 O.rules.length a6, .bool false, .slice op np cp] 51)).alloc (.cells #[.int .i64 P.users, .slice ow P.who.length cw, .slice of P.fixed.length cf, .slice or P.rules.length cr] 26)).alloc (.cells #[.int .i64 0, .slice none 0 0, .slice none 0 0, .slice none 0 0, .bool false, .slice none 0 0] 51)) = W0 at *
      have hbx : Hid (∀ V, Below W0.heap.size W0 V → V.heap[w.heap.size]? = some (.cells #[.int .i64 O.users, .slice a1 O.who.length a2, .slice a3 O.fixed.length a4, .slice a5 O.rules.length a6, .bool false, .slice op np cp] 51 (0, 0)) ∧ V.heap[w.heap.size + 1]? = some (.cells #[.int .i64 P.users, .slice ow P.who.length cw, .slice of P.fixed.length cf, .slice or P.rules.length cr] 26 (0, 0)) ∧ V.heap[w.heap.size + 1 + 1]? = some (.cells #[.int .i64 0, .slice none 0 0, .slice none 0 0, .slice none 0 0, .bool false, .slice none 0 0] 51 (0, 0))) := fun V hV => ⟨(hV.block _ (by omega)).trans hbx0.out.1, (hV.block _ (by omega)).trans hbx0.out.2.1, (hV.block _ (by omega)).trans hbx0.out.2.2⟩
      have hcl : Hid (∀ V, Below W0.heap.size W0 V → (V.cell? ⟨w.heap.size, 0, none⟩ = some (.int .i64 O.users) ∧ V.cell? ⟨w.heap.size, 1, none⟩ = some (.slice a1 O.who.length a2) ∧ V.cell? ⟨w.heap.size, 2, none⟩ = some (.slice a3 O.fixed.length a4) ∧ V.cell? ⟨w.heap.size, 3, none⟩ = some (.slice a5 O.rules.length a6) ∧ V.cell? ⟨w.heap.size, 4, none⟩ = some (.bool false) ∧ V.cell? ⟨w.heap.size, 5, none⟩ = some (.slice op np cp)) ∧ (V.cell? ⟨w.heap.size + 1, 0, none⟩ = some (.int .i64 P.users) ∧ V.cell? ⟨w.heap.size + 1, 1, none⟩ = some (.slice ow P.who.length cw) ∧ V.cell? ⟨w.heap.size + 1, 2, none⟩ = some (.slice of P.fixed.length cf) ∧ V.cell? ⟨w.heap.size + 1, 3, none⟩ = some (.slice or P.rules.length cr)) ∧ (V.cell? ⟨w.heap.size + 1 + 1, 0, none⟩ = some (.int .i64 0) ∧ V.cell? ⟨w.heap.size + 1 + 1, 1, none⟩ = some (.slice none 0 0) ∧ V.cell? ⟨w.heap.size + 1 + 1, 2, none⟩ = some (.slice none 0 0) ∧ V.cell? ⟨w.heap.size + 1 + 1, 3, none⟩ = some (.slice none 0 0) ∧ V.cell? ⟨w.heap.size + 1 + 1, 4, none⟩ = some (.bool false) ∧ V.cell? ⟨w.heap.size + 1 + 1, 5, none⟩ = some (.slice none 0 0)) ∧ ∀ i, V.frozen? ⟨w.heap.size + 1 + 1, i, none⟩ = false) := fun V hV => by
        obtain ⟨h1, h2, h3⟩ := hbx.out V hV
        have h2' : PbB V (w.heap.size + 1) P _ _ _ := h2
        exact ⟨cells6 h1, ⟨h2'.c0, h2'.c1, h2'.c2, h2'.c3⟩, cells6 h3, fun i => by simp [World.frozen?, h3]⟩
      have KS : Hid (∀ W, Below W0.heap.size W0 W → Calls Tryd.prog 16 #[.pointer (some ⟨gg, 0, none⟩), .agg #[.int .i64 P.users, .slice ow P.who.length cw, .slice of P.fixed.length cf, .slice or P.rules.length cr]] W (SgP W P (.slice ow P.who.length cw) (.slice of P.fixed.length cf) (.slice or P.rules.length cr) gs a b c)) := fun W hW => KS0.out W (hB0.out.trans (hW.mono hB0.out.size))
      clear KS0 hbx0
      refine (KM.out W0 hB0.out).mono ?_
      rintro e w1 ⟨rfl, hb1⟩
      obtain ⟨⟨o0, o1, o2, o3, o4, o5⟩, ⟨p0, p1, p2, p3⟩, ⟨z0, z1, z2, z3, z4, z5⟩, zf⟩ := hcl.out w1 hb1
      generalize hg2 : w.heap.size + 1 + 1 = g2 at *
      have hg2' := hide' hg2
      clear hg2
      go_wp2_with fail
      refine (KS.out w1 hb1).mono ?_
      rintro e w2 ⟨ov, nv, cv, can, a', b', c', rfl, g1, k2, g3, g4⟩
      unfold enV
      have hz1 := hb1.size
      have hg2 := hg2'.out
      have hX2 : Hid (w2.heap[g2]? = some (.cells #[.int .i64 0, .slice none 0 0, .slice none 0 0, .slice none 0 0, .bool false, .slice none 0 0] 51 (0, 0))) := (g3.out.block _ (by omega) (by omega) (by omega)).trans (hbx.out _ hb1).2.2
      have hFr2 : Hid (M.Fr2 w w2 gs gs) := (M.Fr2.below (hB0.out.trans (hb1.mono (Nat.le_of_lt (by omega))))).trans g3.out
      have hE2 : Hid (EnS w2 P can (.slice ov nv cv)) := sg_ens g4.out
      have hown : Hid (∀ ad n c, Value.slice ov nv cv = .slice (some ad) n c → ad.block ≠ g2 ∧ w.heap.size ≤ ad.block) := fun ad n c e => by
        rcases g4.out with ⟨_, q, _⟩ | ⟨l, _, _, q⟩
        · rw [q] at e; cases e
        · rcases q.2 with ⟨q, _⟩ | ⟨g', cap, cur, q, q2, _⟩
          · rw [q] at e; cases e
          · rw [q] at e; injection e with e _ _; injection e with e; subst e; exact ⟨show g' ≠ _ by omega, show _ ≤ g' by omega⟩
      clear o0 o1 o2 o3 o4 o5 p0 p1 p2 p3 z0 z1 z2 z3 z4 z5 zf
      obtain ⟨z0, z1, z2, z3, z4, z5⟩ := cells6 hX2.out
      have zf : ∀ i, w2.frozen? ⟨g2, i, none⟩ = false := fun i => by simp [World.frozen?, hX2.out]
      have hw6 : Hid (Wr1 w2 ((((((w2.setCell ⟨g2, 0, none⟩ (.int .i64 P.users)).setCell ⟨g2, 1, none⟩ (.slice ow P.who.length cw)).setCell ⟨g2, 2, none⟩ (.slice of P.fixed.length cf)).setCell ⟨g2, 3, none⟩ (.slice or P.rules.length cr)).setCell ⟨g2, 4, none⟩ (.bool can)).setCell ⟨g2, 5, none⟩ (.slice ov nv cv)) (g2)) := ((((((Wr1.refl _ _).set _ _).set _ _).set _ _).set _ _).set _ _).set _ _
      have hi1 : Hid (gs ≠ g2 ∧ w.heap.size ≤ g2) := ⟨by omega, by omega⟩
      clear g3 g4 hcl hbx KS hg2 hg2' hz1 hsz0
      go_wp2
      exact bodyPost_ret (v := .agg #[.int .i64 P.users, .slice ow P.who.length cw, .slice of P.fixed.length cf, .slice or P.rules.length cr, .bool can, .slice ov nv cv]) (by simp [results, Tryd.results30, go_sem, z0, z1, z2, z3, z4, z5]) rfl ⟨ov, nv, cv, can, a', b', c', rfl, g1.out.of (hw6.out.block gs hi1.out.1), k2, hw6.out.fr hFr2.out hi1.out.2, hE2.out.wr hw6.out (fun ad n c e => (hown.out ad n c e).1), .inr fun ad n c e => (hown.out ad n c e).2⟩
end Go.Proofs.YtnfebegmgeanhaaDoor.S
namespace Go.Proofs.YtnfebegmgeanhaaDoor.S
open Go.RowKit Go.Shelf
/-- Cut, and where its rows lie. -/
theorem cutC (P : Pb) (wv fv rv : Value) (w : World) (h : PbV w P wv fv rv) :
    Calls Tryd.prog 4 #[pbV P wv fv rv] w fun e w' => ∃ va vb vc, e = .returned (pbV (cutP P) va vb vc) ∧ Hid (PbV w' (cutP P) va vb vc) ∧ Hid (Below w.heap.size w w') ∧ Hid (∀ ad n c, va = .slice (some ad) n c → w.heap.size ≤ ad.block ∧ ad.block < w'.heap.size) := by
  refine (cutF P wv fv rv w h).mono ?_
  rintro e w' ⟨va, vb, vc, E, rfl, hO, hB⟩
  obtain ⟨o1, o2, o3, o4⟩ := hO.out
  refine ⟨va, vb, vc, rfl, ⟨RowW.of_owns o1, RowI.of_owns o2, ?_⟩, hB, fun ad n c e => o1.lt ad.block (by rw [e]; rfl)⟩
  have := o3.rowR
  rw [o4] at this
  exact this
theorem cutD (P : Pb) (wv fv rv : Value) (w : World) (h : PbV w (cutP P) wv fv rv) :
    Calls Tryd.prog 4 #[pbV (cutP P) wv fv rv] w fun e w' => ∃ va vb vc, e = .returned (pbV (cutP P) va vb vc) ∧ Hid (PbV w' (cutP P) va vb vc) ∧ Hid (Below w.heap.size w w') ∧ Hid (∀ ad n c, va = .slice (some ad) n c → w.heap.size ≤ ad.block ∧ ad.block < w'.heap.size) := by
  have := cutC (cutP P) wv fv rv w h
  rw [cutP_cut] at this
  exact this
structure SvS (w : World) (Q : Pb) (qw qf qr : Value) (g gs a b c : Nat) (V : World) : Prop where
  pb : PbB V g Q qw qf qr
  pv : PbV V Q qw qf qr
  gg : GgAt V gs a b c
  tab : M.Tab V
  be : Below w.heap.size w V
theorem SvS.over {w : World} {Q : Pb} {qw qf qr : Value} {g gs a b c : Nat} {V V' : World} (h : SvS w Q qw qf qr g gs a b c V) (hb : Below V.heap.size V V') : SvS w Q qw qf qr g gs a b c V' :=
  ⟨h.pb.below hb, h.pv.below hb, h.gg.below hb, h.tab.over hb, h.be.trans (hb.mono h.be.size)⟩
theorem SvS.fr {w : World} {Q : Pb} {qw qf qr : Value} {g gs a b c a' b' c' : Nat} {V V' : World} (h : SvS w Q qw qf qr g gs a b c V) (hf : M.Fr2 V V' gs gs) (hg : GgAt V' gs a' b' c') (hgs : w.heap.size ≤ gs) (hne : ∀ ad n c, qw = .slice (some ad) n c → ad.block ≠ gs) (hgp : g ≠ gs) (hG : 1 ≤ gs) : SvS w Q qw qf qr g gs a' b' c' V' :=
  ⟨(hf.block g (Array.getElem?_eq_some_iff.1 h.pb).1 hgp hgp).trans h.pb, pbV_frame h.pv h.gg hne hf, hg, tab_frame h.tab hG hf, hf.new h.be hgs hgs h.be.size⟩
theorem SvS.start {w w1 w3 : World} {Q : Pb} {qw qf qr : Value} (hB1 : Below w.heap.size w w1) (hq : PbV w1 Q qw qf qr) (ht : M.Tab w)
    (hg : GgAt w3 (w1.alloc (.cells #[.int .i64 Q.users, qw, qf, qr] 26)).heap.size 0 0 0)
    (hb3 : Below (w1.alloc (.cells #[.int .i64 Q.users, qw, qf, qr] 26)).heap.size (w1.alloc (.cells #[.int .i64 Q.users, qw, qf, qr] 26)) w3) :
    SvS w Q qw qf qr w1.heap.size (w1.alloc (.cells #[.int .i64 Q.users, qw, qf, qr] 26)).heap.size 0 0 0 w3 := by
  have h1 : Below w1.heap.size w1 (w1.alloc (.cells #[.int .i64 Q.users, qw, qf, qr] 26)) := (Below.refl _ w1).alloc (Nat.le_refl _) _
  have h2 : Below w1.heap.size w1 w3 := h1.trans (hb3.mono h1.size)
  have hp : PbB (w1.alloc (.cells #[.int .i64 Q.users, qw, qf, qr] 26)) w1.heap.size Q qw qf qr := heap_new w1 _
  have h3 : Below w.heap.size w w3 := hB1.trans (h2.mono hB1.size)
  exact ⟨hp.below hb3, hq.below h2, hg, ht.over h3, h3⟩
theorem rowW_shapeS {W : World} {v : Value} {l : List Int} (h : RowI W v l) : ∃ o c, v = .slice o l.length c := by obtain ⟨o, c, e, _⟩ := h; exact ⟨o, c, e⟩
/-- The users of a plan are small numbers. -/
theorem plan_wf {P : Pb} {L : List Int} (h : holP P L = true) : ∀ z ∈ L, (Lit.int .i64 z).wf = true := fun z hz => by
  obtain ⟨i, hi⟩ := List.getElem?_of_mem hz
  obtain ⟨h1, _, h3, _⟩ := holP_of h
  have h4 := h3 i z hi
  have h5 := (chkN_zero h1).2.2.1
  unfold okU isU at h4
  simp only [Bool.and_eq_true, decide_eq_true_eq] at h4
  simp [Lit.wf, IntKind.min, IntKind.max, IntKind.signed, IntKind.bits]
  omega
/-- No plan comes ahead of the first. -/
theorem first_ahead {P : Pb} {l L : List Int} (h : LsP P (some l)) (hL : holP P L = true) : befB L l = false := by
  rcases h.2 L hL with rfl | e
  · exact befB_same _
  · cases q : befB L l with
    | false => rfl
    | true => have := befB_trans e q; rw [befB_same] at this; cases this
/-- Lists of ints as they are handed in. -/
def RowX (w : World) (v : Value) (L : List (List Int)) : Prop := ∃ oa cap, v = .slice oa L.length cap ∧ ∀ (i : Nat) l, L[i]? = some l → ∃ g o sv, oa = some ⟨g, o, none⟩ ∧ w.cell? ⟨g, o + i, none⟩ = some sv ∧ RowI w sv l
theorem RowX.below {w w' : World} {v : Value} {L : List (List Int)} (h : RowX w v L) (hb : Below w.heap.size w w') : RowX w' v L := by
  obtain ⟨oa, cap, e, hc⟩ := h
  refine ⟨oa, cap, e, fun i l hi => ?_⟩
  obtain ⟨g, o, sv, e1, e2, e3⟩ := hc i l hi
  exact ⟨g, o, sv, e1, (hb.cell (p := ⟨g, o + i, none⟩) (cell_lt e2)).trans e2, e3.below hb (Nat.le_refl _)⟩
end Go.Proofs.YtnfebegmgeanhaaDoor.S
