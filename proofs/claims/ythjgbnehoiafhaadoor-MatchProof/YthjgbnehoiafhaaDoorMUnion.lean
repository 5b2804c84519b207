/- union: what the rows of a set may have all together. -/
import Derived.Test.YthjgbnehoiafhaaDoorMPlaces
namespace Go.Proofs.YthjgbnehoiafhaaDoor.M
open Go.RowKit Go.Shelf
attribute [local go_sem] Oper.semAt_some
/-- All of these rows' places. -/
def unL (R : Nat → Nat) (l : List (Fin 64)) : Nat := l.foldl (fun acc k => acc ||| R k.val) 0
theorem unL_snoc (R : Nat → Nat) (l : List (Fin 64)) (k : Fin 64) : unL R (l ++ [k]) = unL R l ||| R k.val := by simp [unL]
theorem unL_lt {R : Nat → Nat} (h : ∀ r, R r < 18446744073709551616) (l : List (Fin 64)) : unL R l < 18446744073709551616 := by
  unfold unL
  suffices q : ∀ acc, acc < 18446744073709551616 → l.foldl (fun acc k => acc ||| R k.val) acc < 18446744073709551616 from q 0 (by decide)
  induction l with
  | nil => intro acc h; exact h
  | cons a l ih => intro acc ha; exact ih _ (Nat.or_lt_two_pow (n := 64) ha (h a.val))
theorem unL_bit (R : Nat → Nat) (l : List (Fin 64)) (u : Nat) : (unL R l).testBit u = true ↔ ∃ k ∈ l, (R k.val).testBit u = true := by
  unfold unL
  suffices q : ∀ acc, (l.foldl (fun acc k => acc ||| R k.val) acc).testBit u = true ↔ acc.testBit u = true ∨ ∃ k ∈ l, (R k.val).testBit u = true by
    rw [q 0]; simp
  induction l with
  | nil => intro acc; simp
  | cons a l ih =>
    intro acc
    rw [List.foldl_cons, ih, Nat.testBit_or, Bool.or_eq_true]
    constructor
    · rintro ((h | h) | ⟨k, hk, h⟩)
      · exact .inl h
      · exact .inr ⟨a, List.mem_cons_self .., h⟩
      · exact .inr ⟨k, List.mem_cons_of_mem _ hk, h⟩
    · rintro (h | ⟨k, hk, h⟩)
      · exact .inl (.inl h)
      · rcases List.mem_cons.1 hk with rfl | hk
        · exact .inl (.inr h)
        · exact .inr ⟨k, hk, h⟩
section
variable {n : Nat} {R : Nat → Nat} {w : World} {oa : Option Addr} {cap : Nat}
set_option maxRecDepth 100000 in
set_option maxHeartbeats 4000000 in
theorem unionC (hA : RwA w (.slice oa n cap) n R) (s : Nat) (hs : s < 18446744073709551616) (hin : ∀ k ∈ nums s, k.val < n) :
    CallsIn Fence.wide 9 Tryd.prog 58 #[.slice oa n cap, .agg #[.int .u64 (s : Int)]] w fun e W' => e = .returned (.agg #[.int .u64 (unL R (nums s) : Int)]) ∧ Below w.heap.size w W' := by
  have h3 := hA.tab.2
  have ht := hA.tab
  have hmx : Tryd.prog.follows Departure.mixedOrders = true := by kernel_rfl
  obtain ⟨oa', cap', e9, hrw⟩ := hA.rw
  cases e9
  have hw := hide' hA.word
  have hrw' := hide' hrw
  have hin' := hide' hin
  clear hA hrw hin
  refine callsIn_of_wp_marks Tryd.func58 rfl trivial ?_ rfl
  simp only [Tryd.ntmps58, List.size_toArray, List.length_cons, List.length_nil, Nat.reduceAdd, Nat.reduceSub, Array.replicate_succ, Array.replicate_zero, List.push_toArray, List.append_toArray, List.nil_append, List.cons_append]
  gi_wp2_with (refine ⟨trivial, ?_⟩; gi_at_call 37; refine (callsIn_wide.2 (all64 _ _)).mono ?_; rintro e w' ⟨rfl, rfl⟩)
  have hB0 : Below w.heap.size w (((((w.alloc (.cells #[.slice oa n cap] 22)).alloc (.cells #[.int .u64 (s : Int)] 66)).alloc (.cells #[.int .u64 0] 66)).alloc (.cells #[.int .u64 0] 66)).alloc (.cells #[.int .u64 (s : Int)] 66)) := (((((Below.refl _ w).alloc (Nat.le_refl _) _).alloc (by simp) _).alloc (by simp; omega) _).alloc (by simp; omega) _).alloc (by simp; omega) _
  have bO := ((((Boxed.new w 22 (.slice oa n cap)).alloc (.cells #[.int .u64 (s : Int)] 66)).alloc (.cells #[.int .u64 0] 66)).alloc (.cells #[.int .u64 0] 66)).alloc (.cells #[.int .u64 (s : Int)] 66)
  have bR := ((Boxed.new ((w.alloc (.cells #[.slice oa n cap] 22)).alloc (.cells #[.int .u64 (s : Int)] 66)) 66 (.int .u64 0)).alloc (.cells #[.int .u64 0] 66)).alloc (.cells #[.int .u64 (s : Int)] 66)
  have bA := (Boxed.new (((w.alloc (.cells #[.slice oa n cap] 22)).alloc (.cells #[.int .u64 (s : Int)] 66)).alloc (.cells #[.int .u64 0] 66)) 66 (.int .u64 0)).alloc (.cells #[.int .u64 (s : Int)] 66)
  have bN := Boxed.new ((((w.alloc (.cells #[.slice oa n cap] 22)).alloc (.cells #[.int .u64 (s : Int)] 66)).alloc (.cells #[.int .u64 0] 66)).alloc (.cells #[.int .u64 0] 66)) 66 (.int .u64 (s : Int))
  simp only [World.size_alloc] at bR bA bN
  generalize hW0 : (((((w.alloc (.cells #[.slice oa n cap] 22)).alloc (.cells #[.int .u64 (s : Int)] 66)).alloc (.cells #[.int .u64 0] 66)).alloc (.cells #[.int .u64 0] 66)).alloc (.cells #[.int .u64 (s : Int)] 66)) = W0 at *
  have hs0 : W0.heap.size = w.heap.size + 1 + 1 + 1 + 1 + 1 := by rw [← hW0]; simp
  clear hW0
  refine wpIn_rangeFunc_ownG rfl (by decide) (gf := 54) (lb := #[.pointer (some ⟨w.heap.size + 1 + 1 + 1 + 1, 0, none⟩)]) rfl trivial (enters_of Tryd.func54 (by kernel_rfl) rfl)
    (all_mem 8 (w.heap.size + 1 + 1 + 1 + 1) s hs W0 (by omega) (ht.over hB0) bN.cell) KpB.t (KpB.b (by omega) (by omega)) (Below.refl _ _) (fun _ => rfl)
    (fun pre W => Boxed W w.heap.size 22 (.slice oa n cap) ∧ Boxed W (w.heap.size + 1 + 1) 66 (.int .u64 0) ∧ Boxed W (w.heap.size + 1 + 1 + 1) 66 (.int .u64 (unL R (plain pre) : Int)) ∧ Boxed W (w.heap.size + 1 + 1 + 1 + 1) 66 (.int .u64 (s : Int)) ∧ Below w.heap.size w W)
    (fun _ _ _ => False)
    (OwnFrom.and (Own.from (boxed_own _ _ _) _) (OwnFrom.and (Own.from (boxed_own _ _ _) _) (OwnFrom.and (Own.from (boxed_own _ _ (fun pre => .int .u64 (unL R (plain pre) : Int))) _) (OwnFrom.and (Own.from (boxed_own _ _ _) _) (ownFrom_below (Nat.le_refl _) (by omega))))))
    (fun _ _ _ _ _ hs _ _ => hs)
    ⟨bO, bR, bA, bN, hB0⟩
    ?a1 ?assign ?body ?done ?stop
  case assign =>
    intro l j W K hK
    gi_wp2
    exact hK
  case body =>
    rintro l pre k W ⟨b0, b1, b2, b4, hB⟩ hlt
    have hkn := hin'.out k.val k.property
    obtain ⟨g, o, rfl, hcr⟩ := hrw'.out k.val.val hkn
    have hWs := hB.size
    have z4 := b4.lt
    have c0 := b0.cell
    have c2 := cell_over hcr hB
    have c3 := b2.cell
    have hacc := unL_lt hw.out (plain pre)
    have hpk := hw.out k.val.val
    have hsn : Hid (unL R (plain (pre ++ [k])) = unL R (plain pre) ||| R k.val.val) := by show _ = _; rw [plain_snoc, unL_snoc]
    have KO := hide' (or64 (unL R (plain pre)) (R k.val.val) hacc hpk)
    have hkn' : ((k.val.val : Nat) : Int) < (n : Int) := by omega
    clear hacc hpk
    generalize unL R (plain pre) = acc at *
    generalize R k.val.val = pk at *
    generalize k.val.val = kk at *
    have hcell : Hid (∀ V, Below W.heap.size W V → V.cell? ⟨w.heap.size, 0, none⟩ = some (.slice (some ⟨g, o, none⟩) n cap) ∧ V.cell? ⟨g, o + kk, none⟩ = some (.int .u64 (pk : Int)) ∧ V.cell? ⟨w.heap.size + 1 + 1 + 1, 0, none⟩ = some (.int .u64 (acc : Int))) := fun V hV => ⟨cell_over c0 hV, cell_over c2 hV, cell_over c3 hV⟩
    clear hlt bO bR bA bN hcr
    gi_wp2
    gi_region_with_o (first | (refine ⟨trivial, ?_⟩; gi_at_call 36; refine (CallsIn.inRound l (callsIn_wide.2 (ofC _ _))).mono ?_; rintro e w1 ⟨rfl, hb1⟩; have hB1 : Below W.heap.size W w1 := ((Below.refl _ W).drew).trans hb1; obtain ⟨x0, x1, x2⟩ := hcell.out _ hB1) | (refine ⟨trivial, ?_⟩; gi_at_call 39; refine (CallsIn.inRound l (callsIn_wide.2 (KO.out _))).mono ?_; rintro e w2 ⟨rfl, hb⟩; have hB2 : Below W.heap.size W w2 := hB1.trans (hb.mono hB1.size); have bA1 : Boxed w2 (w.heap.size + 1 + 1 + 1) 66 (.int .u64 acc) := (hB2.block (w.heap.size + 1 + 1 + 1) (by omega)).trans b2; have cA1 := bA1.cell; have fA1 := bA1.frozen))
    all_goals gi_wp2
    all_goals
      have b4' := box_other (bxS b4 hB2 (by omega)) (a := w.heap.size + 1 + 1 + 1) (o := 0) (by omega) (.int .u64 ((acc ||| pk : Nat) : Int))
      have hBW : Below w.heap.size W (w2.setCell ⟨w.heap.size + 1 + 1 + 1, 0, none⟩ (.int .u64 ((acc ||| pk : Nat) : Int))) := (hB2.mono (by omega)).setCell (p := ⟨w.heap.size + 1 + 1 + 1, 0, none⟩) (by show w.heap.size ≤ w.heap.size + 1 + 1 + 1; omega) _
      exact ⟨((keepsO hB2).trans (KeepsOthers.setCell _ _ _)).from _, ⟨b4'.cell.trans b4.cell.symm, fun h => h.below h3 hBW⟩, box_other (bxS b0 hB2 (by omega)) (by omega) _, box_other (bxS b1 hB2 (by omega)) (by omega) _, by rw [hsn.out]; exact bA1.set _, b4', hB.trans hBW⟩
  case done =>
    rintro D ys W hD hys ⟨b0, b1, b2, b4, hB⟩ hK
    have z4 := b4.lt
    rw [hys] at b2
    have c2 := b2.cell
    have c1 := b1.cell
    have f1 := b1.frozen
    generalize hacc : unL R (nums s) = acc at *
    have Hacc := hide' hacc
    clear bO bR bA bN hys hacc
    gi_wp2
    have hK1 := (KeepsOthers.setCell W ⟨w.heap.size + 1 + 1, 0, none⟩ (.int .u64 (acc : Int))).same D _ hK rfl
    have bE := b1.set (.int .u64 (acc : Int))
    have bE2 := bE.kept (grownBy_putObj' _ D (.deferred none)) (by intro e; cases e; omega)
    have cE := bE2.cell
    refine ⟨by simp, .inl ⟨_, _, rfl, run_takeDeferred hK1, ?_⟩⟩
    refine ⟨.agg #[.int .u64 acc], by simp [results, Tryd.results58, go_sem, cE], by rw [Hacc.out], ?_⟩
    exact (hB.setCell (p := ⟨w.heap.size + 1 + 1, 0, none⟩) (by show w.heap.size ≤ w.heap.size + 1 + 1; omega) _).trans (belowK_b (w := w) (Nat.le_refl _) _ D _ _ (by omega) hK1 rfl rfl)
  case stop =>
    rintro D c pre W _ _ h _
    exact h.elim
theorem unionF (hA : RwA w (.slice oa n cap) n R) (s : Nat) (hs : s < 18446744073709551616) (hin : ∀ k ∈ nums s, k.val < n) :
    Calls Tryd.prog 58 #[.slice oa n cap, .agg #[.int .u64 (s : Int)]] w fun e W' => e = .returned (.agg #[.int .u64 (unL R (nums s) : Int)]) ∧ Below w.heap.size w W' := callsIn_wide.1 (unionC hA s hs hin)
end
end Go.Proofs.YthjgbnehoiafhaaDoor.M
