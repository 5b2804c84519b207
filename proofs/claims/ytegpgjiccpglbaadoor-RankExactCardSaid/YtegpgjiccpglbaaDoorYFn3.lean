/- What changes a hierarchy: New, Over, Cut, Drop. -/
import Derived.Test.YtegpgjiccpglbaaDoorYFn2
namespace Go.Proofs.YtegpgjiccpglbaaDoor
open Go.RowKit
theorem grown_trans {A B C : World} {row : Option Nat} (h : A.grownBy B row) (k : B.grownBy C row) : A.grownBy C row :=
  ⟨k.os.trans h.os, k.tape.trans h.tape, k.output.trans h.output, Nat.le_trans h.size k.size, fun i hi hne => (k.block i (Nat.lt_of_lt_of_le hi h.size) hne).trans (h.block i hi hne)⟩
theorem grown_refl (A : World) (row : Option Nat) : A.grownBy A row := ⟨rfl, rfl, rfl, Nat.le_refl _, fun _ _ _ => rfl⟩
theorem grown_below {A B : World} (row : Option Nat) (h : Below A.heap.size A B) : A.grownBy B row := ⟨h.os, h.tape, h.output, h.size, fun k hk _ => h.block k hk⟩
theorem grown_set (w : World) (b i : Nat) (v : Value) : w.grownBy (w.setCell ⟨b, i, none⟩ v) (some b) :=
  ⟨rfl, rfl, rfl, by simp [World.setCell], fun k _ hne => Below.heap_setCell _ _ _ _ (by intro e; apply hne; rw [e])⟩
theorem Tab.grown {w w' : World} {b : Nat} (h : Tab w) (hb : 1 ≤ b) (hg : w.grownBy w' (some b)) : Tab w' := by
  refine ⟨fun i hi => ?_, Nat.le_trans h.2 hg.size⟩
  exact hg.cell (h.1 i hi) (by simp; omega)
theorem RkAt.put {w : World} {b : Nat} {J K : Nat → Nat} (h : RkAt w b J) {i v : Nat} (hK : ∀ j, j < 64 → K j = if j = i then v else J j) (hw : Wf K) (hy : Acy K) : RkAt (w.setCell ⟨b, i, none⟩ (.int .u64 (v : Int))) b K := by
  refine ⟨(h.row.set i (.int .u64 (v : Int))).congr fun j hj => ?_, hw, hy, h.tab.grown h.far (grown_set _ _ _ _), h.far⟩
  rw [hK j hj]
  split <;> rfl
/-- Another hierarchy is kept. -/
theorem RkAt.other {w w' : World} {b c : Nat} {J : Nat → Nat} (h : RkAt w b J) (hg : w.grownBy w' (some c)) (hc : 1 ≤ c) (hne : b ≠ c) : RkAt w' b J :=
  ⟨h.row.of_block (hg.block b h.lt (by simpa using hne)), h.wf, h.acy, h.tab.grown hc hg, h.far⟩
def zcR : Array Value := (List.replicate 64 (Value.int .u64 0)).toArray
theorem zcR_size : zcR.size = 64 := by kernel_rfl
theorem zcR_ne : ¬ zcR = #[] := fun e => by have := congrArg Array.size e; rw [zcR_size] at this; cases this
theorem zeroR (w : World) : (zeroValue 50).run Tryd.prog w = .ok (.agg zcR) w := by kernel_rfl
theorem zc_row (w : World) (cs : Array Value) (zc : cs.toList = List.replicate 64 (.int .u64 0)) : (w.alloc (.cells cs 50)).rowIs w.heap.size 50 64 (fun i => .int .u64 (noJ i : Int)) := by
  refine ⟨cs, Deep.blk_alloc_new w _, ?_, fun i hi => ?_⟩
  · rw [← Array.length_toList, zc, List.length_replicate]
  · rw [← Array.getElem?_toList, zc, List.getElem?_replicate, if_pos hi]
    rfl
set_option maxRecDepth 100000 in
set_option maxHeartbeats 400000 in
theorem newR (w : World) (ht : Tab w) :
    Calls Tryd.prog 7 #[] w fun e w' => e = .returned (.pointer (some ⟨w.heap.size, 0, none⟩)) ∧ RkAt w' w.heap.size noJ ∧ Below w.heap.size w w' := by
  have z0 := zeroR
  have z1 := zcR_size
  have z2 := zcR_ne
  go_enter Tryd.func7, Tryd.ntmps7
  go_wp2
  go_ret
  exact ⟨rfl, ⟨zc_row w _ (by kernel_rfl), no_wf, no_acy, ht.over ((Below.refl _ _).alloc (Nat.le_refl _) _), ht.2⟩, (Below.refl _ _).alloc (Nat.le_refl _) _⟩
/-- What Over answers. -/
def ovC (J : Nat → Nat) (x y : Int) : Int := if okA x && okA y then (if hasJ J x y then 5 else if (belI J y).testBit x.toNat then 6 else 0) else 1
/-- And leaves. -/
def ovJ (J : Nat → Nat) (x y : Int) : Nat → Nat := if ovC J x y = 0 then lay J x.toNat y.toNat else J
section
variable {w : World} {b : Nat} {J : Nat → Nat}
set_option maxRecDepth 100000 in
set_option maxHeartbeats 1000000 in
theorem over (h : RkAt w b J) (x y : Int) :
    Calls Tryd.prog 10 #[.pointer (some ⟨b, 0, none⟩), .int .i64 x, .int .i64 y] w fun e w' => e = .returned (.int .i64 (ovC J x y)) ∧ RkAt w' b (ovJ J x y) ∧ w.grownBy w' (some b) := by
  have hsame : ∀ c, c ≠ 0 → ovC J x y = c → ovJ J x y = J := fun c hc e => by unfold ovJ; rw [e, if_neg hc]
  cases hx : okA x with
  | false =>
    have e : ovC J x y = 1 := by simp [ovC, hx]
    rw [hsame 1 (by decide) e, e]
    clear hsame e
    go_enter Tryd.func10, Tryd.ntmps10
    go_wp2_with (go_at_call 29; refine (within _ _).mono ?_; rintro e w1 ⟨rfl, rfl⟩)
    go_ret
    exact ⟨rfl, h, grown_refl _ _⟩
  | true =>
  cases hy : okA y with
  | false =>
    have e : ovC J x y = 1 := by simp [ovC, hy]
    rw [hsame 1 (by decide) e, e]
    clear hsame e
    go_enter Tryd.func10, Tryd.ntmps10
    go_wp2_with (go_at_call 29; refine (within _ _).mono ?_; rintro e w1 ⟨rfl, rfl⟩)
    go_ret
    exact ⟨rfl, h, grown_refl _ _⟩
  | true =>
  have KH := hide' (has h x y)
  cases hh : hasJ J x y with
  | true =>
    have e : ovC J x y = 5 := by simp [ovC, hx, hy, hh]
    rw [hsame 5 (by decide) e, e]
    rw [hh] at KH
    clear hsame e
    go_enter Tryd.func10, Tryd.ntmps10
    go_wp2_with (first | (go_at_call 29; refine (within _ _).mono ?_; rintro e w1 ⟨rfl, rfl⟩) | (go_at_call 14; refine KH.out.mono ?_; rintro e w1 ⟨rfl, rfl⟩))
    go_ret
    exact ⟨rfl, h, grown_refl _ _⟩
  | false =>
  rw [hh] at KH
  obtain ⟨i, hi, rfl⟩ := okA_nat hx
  obtain ⟨j, hj, rfl⟩ := okA_nat hy
  have KB := hide' (belowN h hj)
  have KI := hide' (inR i (bel J j) hi (bel_lt h.wf hj))
  have ebel : belI J (j : Int) = bel J j := by simp [belI, hy]
  cases ht : (bel J j).testBit i with
  | true =>
    have e : ovC J i j = 6 := by simp [ovC, hx, hy, hh, ebel, ht]
    rw [hsame 6 (by decide) e, e]
    rw [ht] at KI
    clear hsame e ebel ht
    generalize bel J j = q at *
    go_enter Tryd.func10, Tryd.ntmps10
    go_wp2_with (first | (go_at_call 29; refine (within _ _).mono ?_; rintro e w1 ⟨rfl, rfl⟩) | (go_at_call 14; refine KH.out.mono ?_; rintro e w1 ⟨rfl, hw1⟩; have hw2 := hw1.symm; subst hw2; clear hw1) | (go_at_call 15; refine KB.out.mono ?_; rintro e w1 ⟨rfl, hb1⟩) | (go_at_call 30; refine (KI.out _).mono ?_; rintro e w1 ⟨rfl, rfl⟩))
    go_ret
    exact ⟨rfl, h.over hb1.below, grown_below _ hb1.below⟩
  | false =>
    have e : ovC J i j = 0 := by simp [ovC, hx, hy, hh, ebel, ht]
    have e2 : ovJ J i j = lay J i j := by unfold ovJ; rw [e, if_pos rfl, Int.toNat_natCast, Int.toNat_natCast]
    rw [e2, e]
    have hnot : ¬ Rc J j i := fun r => by rw [(bel_bit h.wf h.acy hj).2 r] at ht; cases ht
    have hput : Hid (∀ V, RkAt V b J → RkAt (V.setCell ⟨b, i, none⟩ (.int .u64 ((J i ||| 2 ^ j : Nat) : Int))) b (lay J i j)) := fun V hV => hV.put (fun k _ => rfl) (lay_wf h.wf hi hj) (lay_acy h.acy hi hnot)
    rw [ht] at KI
    have KO := hide' (only j hj)
    have ho := u64_or_nat (J i) (2 ^ j) (h.wf i hi) (pow_lt64 hj)
    have hi1 : (0 : Int) ≤ (i : Int) := by omega
    have hi2 : (i : Int) < 64 := by omega
    have hc : Hid (∀ V, RkAt V b J → V.cell? ⟨b, i, none⟩ = some (.int .u64 (J i : Int)) ∧ V.frozen? ⟨b, i, none⟩ = false) := fun V hV => ⟨hV.cell hi, hV.frz i⟩
    clear hsame e ebel ht e2 hnot
    generalize bel J j = q at *
    generalize J i ||| 2 ^ j = z at *
    generalize (2 ^ j : Nat) = p at *
    generalize J i = v at *
    go_enter Tryd.func10, Tryd.ntmps10
    go_wp2_with (first | (go_at_call 29; refine (within _ _).mono ?_; rintro e w1 ⟨rfl, rfl⟩) | (go_at_call 14; refine KH.out.mono ?_; rintro e w1 ⟨rfl, hw1⟩; have hw2 := hw1.symm; subst hw2; clear hw1) | (go_at_call 15; refine KB.out.mono ?_; rintro e w1 ⟨rfl, hb1⟩) | (go_at_call 30; refine (KI.out _).mono ?_; rintro e w1 ⟨rfl, hw1⟩; have hw2 := hw1.symm; subst hw2; clear hw1))
    have hR := hide' (h.over hb1.below)
    obtain ⟨c1, f1⟩ := hc.out _ hR.out.drew
    have c1' := c1
    have f1' := f1
    clear hc h KH KB KI
    go_region_with (go_at_call 31; refine (KO.out _).mono ?_; rintro e w2 ⟨rfl, hw1⟩; have hw2 := hw1.symm; subst hw2; clear hw1)
    all_goals go_wp2
    all_goals go_ret
    all_goals exact ⟨rfl, hput.out _ hR.out.drew, grown_trans (grown_below _ hb1.below.drew) (grown_set _ _ _ _)⟩
/-- What Cut answers, and leaves. -/
def cuC (J : Nat → Nat) (x y : Int) : Int := if okA x && okA y then (if hasJ J x y then 0 else 26) else 1
def cuJ (J : Nat → Nat) (x y : Int) : Nat → Nat := if hasJ J x y then cutJ J x.toNat y.toNat else J
set_option maxRecDepth 100000 in
set_option maxHeartbeats 1000000 in
theorem cutR (h : RkAt w b J) (x y : Int) :
    Calls Tryd.prog 11 #[.pointer (some ⟨b, 0, none⟩), .int .i64 x, .int .i64 y] w fun e w' => e = .returned (.int .i64 (cuC J x y)) ∧ RkAt w' b (cuJ J x y) ∧ w.grownBy w' (some b) := by
  cases hx : okA x with
  | false =>
    have e : cuC J x y = 1 := by simp [cuC, hx]
    have e2 : cuJ J x y = J := by simp [cuJ, hasJ, hx]
    rw [e, e2]
    clear e e2
    go_enter Tryd.func11, Tryd.ntmps11
    go_wp2_with (go_at_call 29; refine (within _ _).mono ?_; rintro e w1 ⟨rfl, rfl⟩)
    go_ret
    exact ⟨rfl, h, grown_refl _ _⟩
  | true =>
  cases hy : okA y with
  | false =>
    have e : cuC J x y = 1 := by simp [cuC, hy]
    have e2 : cuJ J x y = J := by simp [cuJ, hasJ, hy]
    rw [e, e2]
    clear e e2
    go_enter Tryd.func11, Tryd.ntmps11
    go_wp2_with (go_at_call 29; refine (within _ _).mono ?_; rintro e w1 ⟨rfl, rfl⟩)
    go_ret
    exact ⟨rfl, h, grown_refl _ _⟩
  | true =>
  have KH := hide' (has h x y)
  cases hh : hasJ J x y with
  | false =>
    have e : cuC J x y = 26 := by simp [cuC, hx, hy, hh]
    have e2 : cuJ J x y = J := by simp [cuJ, hh]
    rw [e, e2]
    rw [hh] at KH
    clear e e2
    go_enter Tryd.func11, Tryd.ntmps11
    go_wp2_with (first | (go_at_call 29; refine (within _ _).mono ?_; rintro e w1 ⟨rfl, rfl⟩) | (go_at_call 14; refine KH.out.mono ?_; rintro e w1 ⟨rfl, rfl⟩))
    go_ret
    exact ⟨rfl, h, grown_refl _ _⟩
  | true =>
    rw [hh] at KH
    have e : cuC J x y = 0 := by simp [cuC, hx, hy, hh]
    have e2 : cuJ J x y = cutJ J x.toNat y.toNat := by simp [cuJ, hh]
    rw [e, e2]
    clear e e2
    obtain ⟨i, hi, rfl⟩ := okA_nat hx
    obtain ⟨j, hj, rfl⟩ := okA_nat hy
    rw [Int.toNat_natCast, Int.toNat_natCast]
    have hput : Hid (∀ V, RkAt V b J → RkAt (V.setCell ⟨b, i, none⟩ (.int .u64 ((J i &&& (18446744073709551615 - 2 ^ j) : Nat) : Int))) b (cutJ J i j)) := fun V hV => hV.put (fun k _ => rfl) (cut_wf h.wf hi) (cut_acy h.wf h.acy hi hj)
    have KO := hide' (only j hj)
    have ho := u64_andNot_nat (J i) (2 ^ j) (h.wf i hi) (pow_lt64 hj)
    have hi1 : (0 : Int) ≤ (i : Int) := by omega
    have hi2 : (i : Int) < 64 := by omega
    have hR := hide' h
    have c1 : w.drew.cell? ⟨b, i, none⟩ = some (.int .u64 (J i : Int)) := h.drew.cell hi
    have f1 : w.drew.frozen? ⟨b, i, none⟩ = false := h.drew.frz i
    clear h
    generalize J i &&& (18446744073709551615 - 2 ^ j) = z at *
    generalize (2 ^ j : Nat) = p at *
    generalize J i = v at *
    go_enter Tryd.func11, Tryd.ntmps11
    go_wp2_with (first | (go_at_call 29; refine (within _ _).mono ?_; rintro e w1 ⟨rfl, hw1⟩; have hw2 := hw1.symm; subst hw2; clear hw1) | (go_at_call 14; refine KH.out.mono ?_; rintro e w1 ⟨rfl, hw1⟩; have hw2 := hw1.symm; subst hw2; clear hw1))
    go_region_with (go_at_call 31; refine (KO.out _).mono ?_; rintro e w2 ⟨rfl, hw1⟩; have hw2 := hw1.symm; subst hw2; clear hw1)
    all_goals go_wp2
    all_goals go_ret
    all_goals exact ⟨rfl, hput.out _ hR.out.drew, grown_trans (grown_below _ (Below.refl _ _).drew) (grown_set _ _ _ _)⟩
end
end Go.Proofs.YtegpgjiccpglbaaDoor
