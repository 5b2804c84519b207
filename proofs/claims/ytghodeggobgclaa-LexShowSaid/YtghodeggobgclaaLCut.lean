/- cut: the token with which a text begins. -/
import Derived.Test.YtghodeggobgclaaLNum
namespace Go.Proofs.Ytghodeggobgclaa
open Go.RowKit Go.Shelf
def cutV (T : List UInt8) : Value := match cutT T with | .error e => .tuple #[tv tz, .int .i64 e] | .ok (k, n, v) => .tuple #[tv ⟨k, T.take n, v, 0, 0⟩, .int .i64 0]
theorem cutV_shape (T : List UInt8) : ∃ t er, cutV T = .tuple #[tv t, .int .i64 er] := by
  unfold cutV
  split
  · exact ⟨_, _, rfl⟩
  · exact ⟨_, _, rfl⟩
theorem cutV_let {c : UInt8} {r : List UInt8} (h : isLet c = true) : (if 24 < len isIn (c :: r) then Value.tuple #[tv tz, .int .i64 4] else .tuple #[tv ⟨1, (c :: r).take (len isIn (c :: r)), 0, 0, 0⟩, .int .i64 0]) = cutV (c :: r) := by
  unfold cutV cutT
  simp only [h, if_true]
  split <;> rfl
theorem cutV_dig {c : UInt8} {r : List UInt8} (hl : isLet c = false) (h : isDig c = true) : numV (c :: r) = cutV (c :: r) := by
  unfold cutV cutT numV
  simp only [h, hl, if_true, Bool.false_eq_true, if_false, List.head?_cons, Option.some.injEq]
  split
  · rfl
  · split <;> rfl
theorem cutV_mk {c : UInt8} {r : List UInt8} (hl : isLet c = false) (hd : isDig c = false) (h : isMk c = true) : cutV (c :: r) = .tuple #[tv ⟨3, [c], 0, 0, 0⟩, .int .i64 0] := by
  unfold cutV cutT
  simp [h, hl, hd]
theorem cutV_no {c : UInt8} {r : List UInt8} (hl : isLet c = false) (hd : isDig c = false) (h : isMk c = false) : cutV (c :: r) = .tuple #[tv tz, .int .i64 3] := by
  unfold cutV cutT
  simp [h, hl, hd]
/-- The block of kinds. -/
def kblk (K : Kd) (w : World) (B : Nat) : Prop := w.heap[B]? = some (.cells #[fv K.g0 K.l0, fv K.g1 K.l1, fv K.g2 K.l2, fv K.g3 K.l3, fv K.g4 K.l4, fv K.g5 K.l5, fv K.g6 K.l6, fv K.g7 K.l7] 88)
theorem kblk_cells {K : Kd} {w : World} {B : Nat} (h : kblk K w B) : w.cell? ⟨B, 0, none⟩ = some (fv K.g0 K.l0) ∧ w.cell? ⟨B, 1, none⟩ = some (fv K.g1 K.l1) ∧ w.cell? ⟨B, 2, none⟩ = some (fv K.g2 K.l2) ∧ w.cell? ⟨B, 3, none⟩ = some (fv K.g3 K.l3) ∧ w.cell? ⟨B, 4, none⟩ = some (fv K.g4 K.l4) ∧ w.cell? ⟨B, 5, none⟩ = some (fv K.g5 K.l5) ∧ w.cell? ⟨B, 6, none⟩ = some (fv K.g6 K.l6) ∧ w.cell? ⟨B, 7, none⟩ = some (fv K.g7 K.l7) := by
  unfold kblk at h
  simp [World.cell?, h]
/-- Both blocks that cut lays, and what lies below them. -/
structure CutW (K : Kd) (w W : World) : Prop where
  kb : kblk K W w.heap.size
  tb : tblk W (w.heap.size + 1)
  sz : w.heap.size + 2 ≤ W.heap.size
  bl : Below w.heap.size w W
theorem CutW.first (K : Kd) (w : World) : CutW K w ((w.alloc (.cells #[fv K.g0 K.l0, fv K.g1 K.l1, fv K.g2 K.l2, fv K.g3 K.l3, fv K.g4 K.l4, fv K.g5 K.l5, fv K.g6 K.l6, fv K.g7 K.l7] 88)).alloc (.cells #[.int .i64 0, .string ⟨#[]⟩, .int .i64 0, .int .i64 0, .int .i64 0] 35)) := by
  refine ⟨?_, tblk_new w _ (Below.refl _ _), by simp, ((Below.refl _ w).alloc (Nat.le_refl _) _).alloc (by simp) _⟩
  unfold kblk
  rw [Below.heap_alloc _ _ _ (by simp)]
  exact heap_alloc_new w _
theorem CutW.next {K : Kd} {w W V : World} (h : CutW K w W) (hb : Below W.heap.size W V) : CutW K w V :=
  have hz := h.sz
  ⟨(hb.block _ (by omega)).trans h.kb, (hb.block _ (by omega)).trans h.tb, Nat.le_trans h.sz hb.size, h.bl.trans (hb.mono h.bl.size)⟩
set_option maxRecDepth 100000 in
set_option maxHeartbeats 8000000 in
theorem cutF (K : Kd) (c : UInt8) (r : List UInt8) (w : World) (hk : KOk K w) (hm : (c :: r).length ≤ 9223372036854775807) :
    Calls Try.prog 72 #[K.v, .string (bs (c :: r))] w fun e w' => e = .returned (cutV (c :: r)) ∧ Below w.heap.size w w' := by
  have hsz := bs_size (c :: r)
  rw [List.length_cons] at hsz
  obtain ⟨q0, e0⟩ := bs_at (l := c :: r) (i := 0) (x := c) rfl
  have eg4 := hk.le.1
  have eg5 := hk.di.1
  have eg7 := hk.mr.1
  have K4 : Hid (∀ W, CutW K w W → Calls Try.prog K.g4 (#[.int .u8 (c.toNat : Int)] ++ K.l4) W fun e w' => e = .returned (.bool (isLet c)) ∧ Below W.heap.size W w') := fun W h => hk.le.2 W c (.of 0 h.bl)
  have K5 : Hid (∀ W, CutW K w W → Calls Try.prog K.g5 (#[.int .u8 (c.toNat : Int)] ++ K.l5) W fun e w' => e = .returned (.bool (isDig c)) ∧ Below W.heap.size W w') := fun W h => hk.di.2 W c (.of 0 h.bl)
  have K7 : Hid (∀ W, CutW K w W → Calls Try.prog K.g7 (#[.int .u8 (c.toNat : Int)] ++ K.l7) W fun e w' => e = .returned (.bool (isMk c)) ∧ Below W.heap.size W w') := fun W h => hk.mr.2 W c (.of 0 h.bl)
  obtain ⟨t, er, hsh⟩ := cutV_shape (c :: r)
  have HC := hide' (CutW.first K w)
  cases hl : isLet c
  · cases hd : isDig c
    · cases hmk : isMk c
      · have hv := hide' (cutV_no (r := r) hl hd hmk)
        rw [hl] at K4; rw [hd] at K5; rw [hmk] at K7
        rw [hv.out]
        have hz : Hid (tv tz = .agg #[.int .i64 0, .string ⟨#[]⟩, .int .i64 0, .int .i64 0, .int .i64 0]) := rfl
        rw [hz.out]
        clear hk hsh hv hl hd hmk hz
        unfold Kd.v
        generalize bs (c :: r) = s at *
        go_enter Try.func72, Try.ntmps72
        go_wp2_with fail
        refine (K4.out _ HC.out).mono ?_
        rintro e w1 ⟨rfl, hb1⟩
        have HC1 := hide' (HC.out.next hb1)
        obtain ⟨-, -, -, -, k4, k5, k6, k7⟩ := kblk_cells HC1.out.kb
        clear hb1 HC
        go_wp2_with fail
        refine (K5.out _ HC1.out).mono ?_
        rintro e w2 ⟨rfl, hb2⟩
        have HC2 := hide' (HC1.out.next hb2)
        clear k4 k5 k6 k7
        obtain ⟨-, -, -, -, k4, k5, k6, k7⟩ := kblk_cells HC2.out.kb
        clear hb2 HC1
        go_wp2_with fail
        refine (K7.out _ HC2.out).mono ?_
        rintro e w3 ⟨rfl, hb3⟩
        have HC3 := hide' (HC2.out.next hb3)
        clear k4 k5 k6 k7
        obtain ⟨c0, c1, c2, c3, c4, f0, f1, f2, f3, f4⟩ := tblk_cells HC3.out.tb
        clear hb3 HC2
        go_wp2_with fail
        exact bodyPost_ret (v := .tuple #[.agg #[.int .i64 0, .string ⟨#[]⟩, .int .i64 0, .int .i64 0, .int .i64 0], .int .i64 3]) (by simp [results, Try.results72, go_sem, c0, c1, c2, c3, c4]) rfl ⟨rfl, below_set5 HC3.out.bl (by omega) _ _ _ _ _⟩
      · have hv := hide' (cutV_mk (r := r) hl hd hmk)
        rw [hl] at K4; rw [hd] at K5; rw [hmk] at K7
        rw [hv.out]
        have hx : (bs (c :: r)).extract 0 1 = bs [c] := by rw [bs_take]; rfl
        have hz : Hid (tv ⟨3, [c], 0, 0, 0⟩ = .agg #[.int .i64 3, .string (bs [c]), .int .i64 0, .int .i64 0, .int .i64 0]) := rfl
        rw [hz.out]
        clear hk hsh hv hl hd hmk hz
        unfold Kd.v
        generalize bs [c] = sx at *
        generalize bs (c :: r) = s at *
        go_enter Try.func72, Try.ntmps72
        go_wp2_with fail
        refine (K4.out _ HC.out).mono ?_
        rintro e w1 ⟨rfl, hb1⟩
        have HC1 := hide' (HC.out.next hb1)
        obtain ⟨-, -, -, -, k4, k5, k6, k7⟩ := kblk_cells HC1.out.kb
        clear hb1 HC
        go_wp2_with fail
        refine (K5.out _ HC1.out).mono ?_
        rintro e w2 ⟨rfl, hb2⟩
        have HC2 := hide' (HC1.out.next hb2)
        clear k4 k5 k6 k7
        obtain ⟨-, -, -, -, k4, k5, k6, k7⟩ := kblk_cells HC2.out.kb
        clear hb2 HC1
        go_wp2_with fail
        refine (K7.out _ HC2.out).mono ?_
        rintro e w3 ⟨rfl, hb3⟩
        have HC3 := hide' (HC2.out.next hb3)
        clear k4 k5 k6 k7
        obtain ⟨c0, c1, c2, c3, c4, f0, f1, f2, f3, f4⟩ := tblk_cells HC3.out.tb
        clear hb3 HC2
        go_wp2_with fail
        exact bodyPost_ret (v := .tuple #[.agg #[.int .i64 3, .string sx, .int .i64 0, .int .i64 0, .int .i64 0], .int .i64 0]) (by simp [results, Try.results72, go_sem, c0, c1, c2, c3, c4]) rfl ⟨rfl, below_set5 HC3.out.bl (by omega) _ _ _ _ _⟩
    · have KW : Hid (∀ W, CutW K w W → Calls Try.prog 101 #[K.v, .string (bs (c :: r))] W fun e w' => e = .returned (.tuple #[tv t, .int .i64 er]) ∧ Below W.heap.size W w') := fun W h => by
        rw [← hsh, ← cutV_dig hl hd]
        exact numberF K (c :: r) W (hk.later h.bl) hm
      rw [hl] at K4; rw [hd] at K5
      rw [hsh]
      clear hk hsh hl hd K7
      unfold Kd.v tv at *
      generalize bs (c :: r) = s at *
      go_enter Try.func72, Try.ntmps72
      go_wp2_with fail
      refine (K4.out _ HC.out).mono ?_
      rintro e w1 ⟨rfl, hb1⟩
      have HC1 := hide' (HC.out.next hb1)
      obtain ⟨k0, k1, k2, k3, k4, k5, k6, k7⟩ := kblk_cells HC1.out.kb
      clear hb1 HC
      go_wp2_with fail
      refine (K5.out _ HC1.out).mono ?_
      rintro e w2 ⟨rfl, hb2⟩
      have HC2 := hide' (HC1.out.next hb2)
      clear k0 k1 k2 k3 k4 k5 k6 k7
      obtain ⟨k0, k1, k2, k3, k4, k5, k6, k7⟩ := kblk_cells HC2.out.kb
      clear hb2 HC1
      go_wp2_with fail
      refine (KW.out _ HC2.out).mono ?_
      rintro e w3 ⟨rfl, hb3⟩
      have HC3 := hide' (HC2.out.next hb3)
      clear k0 k1 k2 k3 k4 k5 k6 k7
      obtain ⟨c0, c1, c2, c3, c4, f0, f1, f2, f3, f4⟩ := tblk_cells HC3.out.tb
      clear hb3 HC2
      go_wp2_with fail
      exact bodyPost_ret (v := .tuple #[.agg #[.int .i64 t.kind, .string (bs t.text), .int .i64 t.num, .int .i64 t.line, .int .i64 t.col], .int .i64 er]) (by simp [results, Try.results72, go_sem, c0, c1, c2, c3, c4]) rfl ⟨rfl, below_set5 HC3.out.bl (by omega) _ _ _ _ _⟩
  · have KW : Hid (∀ W, CutW K w W → Calls Try.prog 100 #[K.v, .string (bs (c :: r))] W fun e w' => e = .returned (.tuple #[tv t, .int .i64 er]) ∧ Below W.heap.size W w') := fun W h => by
      rw [← hsh, ← cutV_let hl]
      exact wordF K (c :: r) W (hk.later h.bl) hm
    rw [hl] at K4
    rw [hsh]
    clear hk hsh hl K5 K7
    unfold Kd.v tv at *
    generalize bs (c :: r) = s at *
    go_enter Try.func72, Try.ntmps72
    go_wp2_with fail
    refine (K4.out _ HC.out).mono ?_
    rintro e w1 ⟨rfl, hb1⟩
    have HC1 := hide' (HC.out.next hb1)
    obtain ⟨k0, k1, k2, k3, k4, k5, k6, k7⟩ := kblk_cells HC1.out.kb
    clear hb1 HC
    go_wp2_with fail
    refine (KW.out _ HC1.out).mono ?_
    rintro e w3 ⟨rfl, hb3⟩
    have HC3 := hide' (HC1.out.next hb3)
    clear k0 k1 k2 k3 k4 k5 k6 k7
    obtain ⟨c0, c1, c2, c3, c4, f0, f1, f2, f3, f4⟩ := tblk_cells HC3.out.tb
    clear hb3 HC1
    go_wp2_with fail
    exact bodyPost_ret (v := .tuple #[.agg #[.int .i64 t.kind, .string (bs t.text), .int .i64 t.num, .int .i64 t.line, .int .i64 t.col], .int .i64 er]) (by simp [results, Try.results72, go_sem, c0, c1, c2, c3, c4]) rfl ⟨rfl, below_set5 HC3.out.bl (by omega) _ _ _ _ _⟩
end Go.Proofs.Ytghodeggobgclaa
