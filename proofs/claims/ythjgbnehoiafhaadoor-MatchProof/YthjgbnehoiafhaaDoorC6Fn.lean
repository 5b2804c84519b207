/- Without, ahead, Choose: what they answer. -/
import Derived.Test.YthjgbnehoiafhaaDoorNest
import Derived.Test.YthjgbnehoiafhaaDoorOnes
import Derived.Deep.RegionHeld3
import Derived.RangeFuncNested
namespace Go.Proofs.YthjgbnehoiafhaaDoor
open Go.RowKit Go.Shelf
theorem hideW {p : Prop} (h : p) : Hid p := h
set_option maxHeartbeats 1000000 in
theorem withoutF64 (a : Nat) (i : Int) (h : ¬ (0 ≤ i ∧ i < 64)) (w : World) :
    Calls Tryd.prog 64 #[.agg #[.int .u64 a], .int .i64 i] w fun e w' => e = .returned (.agg #[.int .u64 a]) ∧ Below w.heap.size w w' := by
  have KF := hideW (fitsF64 a i h)
  go_enter Tryd.func64, Tryd.ntmps64
  go_wp2_with (go_at_call 79; refine (KF.out _).mono ?_; rintro e w1 ⟨rfl, hb⟩; obtain ⟨hc, hf⟩ := bcell hb)
  exact bodyPost_ret (v := .agg #[.int .u64 a]) (by simp [results, Tryd.results64, go_sem, hc]) rfl ⟨rfl, ((((Below.refl _ w).alloc (Nat.le_refl _) _).alloc (by simp) _).trans (hb.mono (by simp; omega))).setCell (by simp) _⟩
set_option maxHeartbeats 1000000 in
theorem withoutT64 (a : Nat) (ha : a < 18446744073709551616) (i : Nat) (hi : i < 64) (p q : Nat) (hp : IntKind.u64.wrap (IntKind.u64.wrap 1 * 2 ^ i) = (p : Int)) (hpl : p < 18446744073709551616) (hq : (a &&& (18446744073709551615 - p) : Nat) = q) (w : World) :
    Calls Tryd.prog 64 #[.agg #[.int .u64 a], .int .i64 i] w fun e w' => e = .returned (.agg #[.int .u64 q]) ∧ Below w.heap.size w w' := by
  have KF := hideW (fitsT64 a i ⟨by omega, by omega⟩)
  have KO := hideW (only64 a i hi p hp)
  have KR : Hid (∀ W, Calls Tryd.prog 72 #[.agg #[.int .u64 a], .agg #[.int .u64 p]] W fun e w' => e = .returned (.agg #[.int .u64 q]) ∧ Below W.heap.size W w') := by subst hq; exact minus64 a p ha hpl
  clear hq hp ha hpl
  go_enter Tryd.func64, Tryd.ntmps64
  go_wp2_with (go_at_call 79; refine (KF.out _).mono ?_; rintro e w1 ⟨rfl, hb⟩; obtain ⟨hc, hf⟩ := bcell hb)
  have hz : w.heap.size + 1 < w1.heap.size := by have := hb.size; simp at this; omega
  have c1 : w1.cell? ⟨w.heap.size, 0, none⟩ = some (.int .u64 a) := by rw [hc _ _ (by simp; omega)]; simp
  have c2 : w1.cell? ⟨w.heap.size + 1, 0, none⟩ = some (.int .u64 0) := by rw [hc _ _ (by simp)]; simp
  have f2 : w1.frozen? ⟨w.heap.size + 1, 0, none⟩ = false := by rw [hf _ _ (by simp)]; simp
  have B1 : Below w.heap.size w w1 := (((Below.refl _ w).alloc (Nat.le_refl _) _).alloc (by simp) _).trans (hb.mono (by simp; omega))
  clear hc hf hb
  go_region_with (first | (go_at_call 76; refine (KO.out _).mono ?_; rintro e w2 ⟨rfl, hb2⟩; have hz2 : w.heap.size + 1 < w2.heap.size := Nat.lt_of_lt_of_le hz hb2.size; have d1 : w2.cell? ⟨w.heap.size, 0, none⟩ = some (.int .u64 a) := (hb2.cell (p := ⟨w.heap.size, 0, none⟩) (by show w.heap.size < _; simp; omega)).trans c1; have d2 : w2.cell? ⟨w.heap.size + 1, 0, none⟩ = some (.int .u64 0) := (hb2.cell (p := ⟨w.heap.size + 1, 0, none⟩) hz).trans c2; have g2 : w2.frozen? ⟨w.heap.size + 1, 0, none⟩ = false := (hb2.frozen (p := ⟨w.heap.size + 1, 0, none⟩) hz).trans f2) | (go_at_call 72; refine (KR.out _).mono ?_; rintro e w3 ⟨rfl, hb3⟩; have c3 : w3.cell? ⟨w.heap.size + 1, 0, none⟩ = some (.int .u64 0) := (hb3.cell (p := ⟨w.heap.size + 1, 0, none⟩) hz2).trans d2; have f3 : w3.frozen? ⟨w.heap.size + 1, 0, none⟩ = false := (hb3.frozen (p := ⟨w.heap.size + 1, 0, none⟩) hz2).trans g2))
  all_goals go_wp2
  all_goals exact bodyPost_ret (v := .agg #[.int .u64 q]) (by simp [results, Tryd.results64, go_sem, c3]) rfl ⟨rfl, ((((B1.drew).trans (hb2.mono (by simp; omega))).trans (hb3.mono (by omega)))).setCell (by simp) _⟩
/-- What of s is below all of t. -/
def aheadX (s t : Nat) : Nat := if t = 0 then s else belowX s (lowI (nums t))
theorem aheadX_lt {s t : Nat} (hs : s < 18446744073709551616) : aheadX s t < 18446744073709551616 := by
  unfold aheadX belowX
  split
  · exact hs
  · split
    · decide
    · exact Nat.lt_of_le_of_lt (Nat.mod_le _ _) hs
theorem keep2b {W0 W w1 : World} {b b' : Nat} {u v : Value} (h : W.cell? ⟨b, 0, none⟩ = some u ∧ W.cell? ⟨b', 0, none⟩ = some v ∧ Below W0.heap.size W0 W) (hb : Below W.heap.size W w1) :
    w1.cell? ⟨b, 0, none⟩ = some u ∧ w1.cell? ⟨b', 0, none⟩ = some v ∧ Below W0.heap.size W0 w1 := ⟨(hb.cell (p := ⟨b, 0, none⟩) (cell_lt h.1)).trans h.1, (hb.cell (p := ⟨b', 0, none⟩) (cell_lt h.2.1)).trans h.2.1, h.2.2.trans (hb.mono h.2.2.size)⟩
theorem bxb8 {W W' : World} {b : Nat} {t : TypeId} {v : Value} (h : Boxed W b t v) (hb : Below W.heap.size W W') : Boxed W' b t v := (hb.block b h.lt).trans h
set_option maxRecDepth 100000 in
set_option maxHeartbeats 1000000 in
theorem ahead64 (s t : Nat) (hs : s < 18446744073709551616) (ht8 : t < 18446744073709551616) (w : World) (ht : Tab w) :
    Calls Tryd.prog 75 #[.agg #[.int .u64 s], .agg #[.int .u64 t]] w fun e w' => e = .returned (.agg #[.int .u64 (aheadX s t : Nat)]) ∧ Below w.heap.size w w' := by
  by_cases h0 : t = 0
  · subst h0
    go_enter Tryd.func75, Tryd.ntmps75
    go_wp2
    exact bodyPost_ret (v := .agg #[.int .u64 s]) (by simp [results, Tryd.results75, go_sem]) rfl ⟨rfl, (((Below.refl _ w).alloc (Nat.le_refl _) _).alloc (by simp) _).alloc (by simp; omega) _⟩
  · have e0 : aheadX s t = belowX s (lowI (nums t)) := if_neg h0
    rw [e0]
    have hz : ((t : Int) == 0) = false := by rw [eq_cast]; simp; omega
    have hB0 : Below w.heap.size w (((w.alloc (.cells #[.int .u64 s] 66)).alloc (.cells #[.int .u64 t] 66)).alloc (.cells #[.int .u64 0] 66)) := (((Below.refl _ w).alloc (Nat.le_refl _) _).alloc (by simp) _).alloc (by simp; omega) _
    have KL : Hid (∀ W, Below w.heap.size w W → Calls Tryd.prog 55 #[.agg #[.int .u64 t]] W fun e w' => e = .returned (.int .i64 (lowI (nums t))) ∧ Below W.heap.size W w') := fun W hW => low64 t ht8 W (ht.over hW)
    have KB := hideW (below64 s hs (lowI (nums t)))
    generalize lowI (nums t) = lw at *
    generalize belowX s lw = res at *
    clear e0 h0 hs ht8
    go_enter Tryd.func75, Tryd.ntmps75
    go_wp2
    have b0 := ((Boxed.new w 66 (.int .u64 s)).alloc (.cells #[.int .u64 t] 66)).alloc (.cells #[.int .u64 0] 66)
    have b1 := (Boxed.new (w.alloc (.cells #[.int .u64 s] 66)) 66 (.int .u64 t)).alloc (.cells #[.int .u64 0] 66)
    have b2 := Boxed.new ((w.alloc (.cells #[.int .u64 s] 66)).alloc (.cells #[.int .u64 t] 66)) 66 (.int .u64 0)
    simp only [World.size_alloc] at b1 b2
    generalize ((w.alloc (.cells #[.int .u64 s] 66)).alloc (.cells #[.int .u64 t] 66)).alloc (.cells #[.int .u64 0] 66) = W0 at *
    have hk0 : Hid (W0.cell? ⟨w.heap.size, 0, none⟩ = some (.int .u64 (s : Int)) ∧ W0.cell? ⟨w.heap.size + 1, 0, none⟩ = some (.int .u64 (t : Int))) := ⟨b0.cell, b1.cell⟩
    have z2 := b2.lt
    have KL' : Hid (∀ W, Below W0.heap.size W0 W → Calls Tryd.prog 55 #[.agg #[.int .u64 t]] W fun e w' => e = .returned (.int .i64 lw) ∧ Below W.heap.size W w') := fun W hW => KL.out W (hB0.trans (hW.mono hB0.size))
    clear KL
    go_region_held3 (fun X => X.cell? ⟨w.heap.size, 0, none⟩ = some (.int .u64 (s : Int)) ∧ X.cell? ⟨w.heap.size + 1, 0, none⟩ = some (.int .u64 (t : Int))) (first | assumption | (exact hk0.out) | (exact ⟨(hB1.cell (p := ⟨w.heap.size, 0, none⟩) b0.lt).trans b0.cell, (hB1.cell (p := ⟨w.heap.size + 1, 0, none⟩) b1.lt).trans b1.cell⟩) | (exact ⟨((bxb8 b0 hB2).other (by omega) _).cell, ((bxb8 b1 hB2).other (by omega) _).cell⟩) | (exact ⟨(bxb8 b0 hB2).cell, (bxb8 b1 hB2).cell⟩)) (first | (go_at_call 55; refine (KL'.out _ ((Below.refl _ _).drew)).mono ?_; rintro e w1 ⟨rfl, hb1⟩; have hB1 : Below W0.heap.size W0 w1 := ((Below.refl _ W0).drew).trans hb1) | (go_at_call 73; refine (KB.out _).mono ?_; rintro e w2 ⟨rfl, hb2⟩; have hB2 : Below W0.heap.size W0 w2 := hB1.trans (hb2.mono hB1.size); have d2 := (bxb8 b2 hB2).cell; have f2 := (bxb8 b2 hB2).frozen))
    all_goals
      have d3 := ((bxb8 b2 hB2).set (.int .u64 res)).cell
      go_wp2
      exact bodyPost_ret (v := .agg #[.int .u64 res]) (by simp [results, Tryd.results75, go_sem, d3]) rfl ⟨rfl, (hB0.trans (hB2.mono hB0.size)).setCell (by show w.heap.size ≤ w.heap.size + 1 + 1; omega) _⟩
theorem choose64 (s k : Int) (w : World) :
    Calls Tryd.prog 57 #[.agg #[.int .u64 s], .int .i64 k] w fun e w' => e = .returned (.func (.func 74) #[] #[.pointer (some ⟨w.heap.size + 1, 0, none⟩), .pointer (some ⟨w.heap.size, 0, none⟩)]) ∧ w' = (w.alloc (.cells #[.int .u64 s] 66)).alloc (.cells #[.int .i64 k] 3) := by
  go_enter Tryd.func57, Tryd.ntmps57
  go_wp2
  go_ret
  exact ⟨rfl, by simp⟩
end Go.Proofs.YthjgbnehoiafhaaDoor
